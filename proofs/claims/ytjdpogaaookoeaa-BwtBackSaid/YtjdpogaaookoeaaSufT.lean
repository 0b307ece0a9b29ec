/-
  Layer 12: the document's own Array, for every text (ahead of the code's landing).
-/
import Derived.Test.YtjdpogaaookoeaaSufN
import Derived.Test.YtjdpogaaookoeaaInts
import Derived.Test.YtjdpogaaookoeaaStep
import Derived.OrdersHeld
namespace Go.Proofs.Ytjdpogaaookoeaa
set_option linter.unusedSimpArgs false
set_option linter.unusedVariables false
open Go.ChangeShapes Go.WideShapes Go.ChangeAt Go.RowKit Go.Joins Go.Deep

theorem str_from (l : List UInt8) (p : Nat) (hp : p ≤ l.length) (w : World) :
    (Instr.slice 9 (.string ⟨l.toArray⟩) (some (.int .i64 (p : Int))) none none).run Try.prog w = .ok (.string ⟨(l.drop p).toArray⟩) w := by
  rw [run_slice_string_l w 9 ⟨l.toArray⟩ Try.underlying9 .i64 (p : Int) (by omega) (by rw [ByteArray.size_mk', List.size_toArray]; omega), ByteArray.extract_mk, ByteArray.size_mk', List.size_toArray, Int.toNat_natCast, List.take_of_length_le (by rw [List.length_drop]; omega)]
/-- 's[:k]' of a slice that may be nil. -/
theorem run_slice_top {P : Program} {t e : TypeId} {i : TypeInfo} {size : Nat} (ht : P.underlying t = some (.slice e)) (hi : P.info? e = some i) (hs : i.size = size) (A : Option Addr) (n c k : Nat) (hk : k ≤ c) (w : World) :
    (Instr.slice t (.slice A n c) none (some (.int .i64 (k : Int))) none).run P w = .ok (.slice A k c) w := by
  have he : P.elem t = e := by simp [Program.elem, ht]
  rw [run_slice_h w t A n c (by rw [he]; exact ht) .i64 k (by omega) (by omega), he]
  simp [sizeOf, typeInfo, hi, hs, sliced]
  intro _
  cases A with
  | none => rfl
  | some a => simp [Addr.add]

/-! ### One more in its midst: a row that is laid anew -/
theorem s_empty {N : Nat} (W : World) (h : N ≤ W.heap.size) : (W.alloc (.cells #[] 3)).ownsRow N 3 1 (.slice (some ⟨W.heap.size, 0, none⟩) 0 0) 0 (ints []) :=
  ⟨rfl, Or.inr ⟨W.heap.size, 0, #[], rfl, h, Blk.new W _ _, Nat.le_refl _, by unfold maxLen; omega, rfl, rfl⟩⟩
/-- The one that is put in lies in a block of its own. -/
def SOne (N : Nat) (W : World) (g : Nat) (x : Int) : Prop := Blk W g 3 #[.int .i64 x] ∧ N ≤ g
theorem SOne.alloc {N g : Nat} {W : World} {x : Int} (h : SOne N W g x) (o : Obj) : SOne N (W.alloc o) g x := ⟨h.1.alloc o, h.2⟩
theorem s_new {N : Nat} (W : World) (x : Int) (h : N ≤ W.heap.size) : SOne N (W.alloc (.cells #[.int .i64 x] 3)) W.heap.size x := ⟨Blk.new W _ _, h⟩
theorem s_reads {N g : Nat} {W : World} {x : Int} (h : SOne N W g x) : Reads W W.heap.size 1 (some ⟨g, 0, none⟩) 1 (ints [x]) := gblk_ints (l := [x]) h.1 rfl
theorem s_sepA {N g : Nat} {W : World} {x : Int} (h : SOne N W g x) (o : Obj) : (Value.slice (some ⟨W.heap.size, 0, none⟩) 0 0).ownBlock ≠ some g := fun e => by
  have := h.1.lt
  injection e with e
  simp only at e
  omega
theorem s_sepB {N n : Nat} {W : World} {v : Value} {xs : List Value} (h : W.ownsRow N 3 1 v n xs) : v.ownBlock ≠ some W.heap.size := fun e => by
  have := (h.lt _ e).2
  omega
theorem s_sepC {N g : Nat} {W : World} {x : Int} {v v' : Value} (h : SOne N W g x) (hv : v.ownBlock ≠ some g) (hs : Sep W v v') : v'.ownBlock ≠ some g := fun e => by
  have := h.1.lt
  rcases hs g e with e2 | e2
  · exact hv e2
  · omega
theorem s_keep {N g : Nat} {W W' : World} {x : Int} {v : Value} (h : SOne N W g x) (hv : v.ownBlock ≠ some g) (hg : W.grownBy W' v.ownBlock) : SOne N W' g x := ⟨h.1.grow' hg hv, h.2⟩
theorem s_grown {w1 W W' : World} {n : Nat} {v : Value} {xs : List Value} (hb : Below w1.heap.size w1 W) (h : W.ownsRow w1.heap.size 3 1 v n xs) (hg : W.grownBy W' v.ownBlock) : Below w1.heap.size w1 W' := hb.grown hg hb.size fun b hb => (h.lt b hb).1
theorem s_base {N M n : Nat} {W : World} {v : Value} {xs : List Value} (h : W.ownsRow N 3 1 v n xs) (hm : M ≤ N) : W.ownsRow M 3 1 v n xs := by
  refine ⟨h.1, ?_⟩
  rcases h.2 with h0 | ⟨g, cap, cur, a1, a2, rest⟩
  · exact Or.inl h0
  · exact Or.inr ⟨g, cap, cur, a1, Nat.le_trans hm a2, rest⟩
theorem s_three (a b : List Nat) (k : Nat) : splc (a ++ k :: b) = (([] ++ splc a) ++ [(k : Int)]) ++ splc b := by simp [splc]
theorem Reads.headOf {w : World} {B n m : Nat} {A : Option Addr} {xs : List Value} (h : Reads w B 1 A n xs) (hm : m ≤ n) : Reads w B 1 A m (xs.take m) := by
  refine ⟨by rw [List.length_take, h.1]; omega, fun hp => ?_⟩
  obtain ⟨b, off, e, hb, hc⟩ := h.2 (by omega)
  refine ⟨b, off, e, hb, fun j u hu => hc j u ?_⟩
  rw [List.getElem?_take] at hu
  split at hu
  · exact hu
  · cases hu
theorem saF_no {s : List UInt8} (h : 20000 < s.length) : saF s = ([], 3) := if_pos h
theorem saF_yes {s : List UInt8} (h : ¬ 20000 < s.length) : saF s = (splc (sarr s), 0) := if_neg h

set_option maxRecDepth 100000 in
set_option maxHeartbeats 8000000 in
theorem sref_array_any (s : List UInt8) (w : World) (hs : s.length ≤ 1099511627776) :
    Calls Try.prog 18 #[.string ⟨s.toArray⟩] w fun e w' => LPost w w' e (saF s) := by
  obtain ⟨i0, hi, hz0, hz1, hz9⟩ := info_parts gint_info
  have hsi : (s.length : Int) ≤ 1099511627776 := by omega
  by_cases hbig : 20000 < s.length
  · rw [saF_no hbig]
    have hb1 : (20000 : Int) < (s.length : Int) := by omega
    go_enter Try.func18, Try.ntmps18
    go_wp2
    go_ret2
    exact lpost_none (Below.refl _ _)
  have hb1 : ¬ (20000 : Int) < (s.length : Int) := by omega
  have hst : ∀ p, p ≤ s.length → ∀ w, (Instr.slice 9 (.string ⟨s.toArray⟩) (some (.int .i64 (p : Int))) none none).run Try.prog w = .ok (.string ⟨(s.drop p).toArray⟩) w := fun p hp w => str_from s p hp w
  rw [saF_yes hbig]
  have htl : ∀ l : List UInt8, (ByteArray.mk l.toArray).toList = l := fun l => by rw [Lib.toList_data]
  have Hst := Lib.hid hst
  have Hbig := Lib.hid hbig
  clear hst hbig
  go_enter Try.func18, Try.ntmps18
  go_wp2
  go_loopw [4, 5, 6, 7, 8] (fun v i lx hx mx wr => ∃ (k : Nat) (Av : Option Addr) (cv : Nat), k ≤ s.length + 1 ∧ v = .slice Av k cv ∧ i = .int .i64 k ∧ Hid (wr.ownsRow w.heap.size 3 1 (.slice Av k cv) k (ints (splc (slay (slt s) k)))) ∧ Hid (Below w.heap.size w wr)) (fun _ i _ _ _ _ => s.length + 1 - (intOf i).toNat)
  case atStart => exact ⟨0, none, 0, by omega, rfl, rfl, Lib.hid (World.ownsRow_nil _ _ _ _), Lib.hid (Below.refl _ _)⟩
  case round =>
    obtain ⟨k, Av, cv, hk, rfl, rfl, HO, HB⟩ := hrel
    obtain ⟨w1, rfl⟩ : ∃ w1, w1 = wr := ⟨_, rfl⟩
    by_cases hlt : k ≤ s.length
    · have hki : (k : Int) ≤ (s.length : Int) := by omega
      have hsk := Hst.out k hlt
      obtain ⟨A2, c2, e2, hkc, hrd⟩ := owns_cells HO.out
      injection e2 with e3 _ e4
      subst e3 e4
      have hlen := slay_len (slt s) k
      have hmem := slay_mem (slt s) k
      have hsort := slay_sort (slt_ord s) k (by omega)
      have Hsort := Lib.hid hsort
      have Hlen := Lib.hid hlen
      have Hmem := Lib.hid hmem
      have Hrd := Lib.hid hrd
      clear hsort hmem hrd
      obtain ⟨L, hL⟩ : ∃ L, slay (slt s) k = L := ⟨_, rfl⟩
      have HL := Lib.hid hL
      rw [hL] at HO Hsort Hlen Hmem Hrd hlen
      clear hL hlen
      go_wp2
      go_loopw [6, 7, 8] (fun lx hx mx W => ∃ lo hi : Nat, lo ≤ hi ∧ hi ≤ k ∧ lx = .int .i64 lo ∧ hx = .int .i64 hi ∧ Hid (∀ i (h : i < L.length), i < lo → slt s L[i] k = true) ∧ Hid (∀ i (h : i < L.length), hi ≤ i → slt s L[i] k = false) ∧ Hid (Below w1.heap.size w1 W)) (fun lx hx _ _ => (intOf hx).toNat - (intOf lx).toNat)
      case atStart => exact ⟨0, k, by omega, by omega, rfl, rfl, Lib.hid fun i _ h => by omega, Lib.hid fun i h h2 => by rw [Hlen.out] at h; omega, Lib.hid (Below.refl _ _)⟩
      case round =>
        obtain ⟨lo, hi2, hlh, hhk, rfl, rfl, H1, H2, HW⟩ := hrel
        by_cases hll : lo < hi2
        · have hli : (lo : Int) < (hi2 : Int) := by omega
          obtain ⟨m, hm⟩ : ∃ m, (lo + hi2) / 2 = m := ⟨_, rfl⟩
          have hmi : ((lo : Int) + (hi2 : Int)) / 2 = (m : Int) := by omega
          have hmb : lo ≤ m ∧ m < hi2 := by omega
          have hmz : (0 : Int) ≤ (m : Int) ∧ (m : Int) < (k : Int) ∧ (hi2 : Int) ≤ 20001 := by omega
          have hml : m < L.length := by rw [Hlen.out]; omega
          obtain ⟨b, off, rfl, hbl, hc⟩ := Hrd.out.2 (by omega)
          have x1 := (HW.out.cell (p := ⟨b, off + m, none⟩) hbl).trans (hc m _ (ints_get _ m (by rw [splc_len]; exact hml)))
          rw [splc_get] at x1
          have hq := (Hmem.out L[m]).1 (List.getElem_mem hml)
          have hsq := Hst.out L[m] (by omega)
          have hb0 : Op.bytesLess (s.drop L[m]) (s.drop k) = slt s L[m] k := rfl
          cases hd : slt s L[m] k with
          | true =>
            rw [hd] at hb0
            have H1' : Hid (∀ i (h : i < L.length), i < m + 1 → slt s L[i] k = true) := Lib.hid fun i hi him => by
              rcases Nat.lt_or_eq_of_le (Nat.lt_succ_iff.1 him) with h | h
              · exact (slt_ord s).tr _ _ _ (ssort_get Hsort.out i m hi hml h) hd
              · subst h; exact hd
            clear hd hc
            generalize L[m] = p at *
            go_wp2
            go_quiet (fail)
            go_wp2
            go_roundw
            case rel => exact ⟨m + 1, hi2, by omega, by omega, iv (by omega), rfl, H1', H2, Lib.hid (below_drewN HW.out _)⟩
            case measure => simp only [intOf]; omega
          | false =>
            rw [hd] at hb0
            have H2' : Hid (∀ i (h : i < L.length), m ≤ i → slt s L[i] k = false) := Lib.hid fun i hi him => by
              rcases Nat.lt_or_eq_of_le him with h | h
              · cases h2 : slt s L[i] k with
                | false => rfl
                | true =>
                  have := (slt_ord s).tr _ _ _ (ssort_get Hsort.out m i hml hi h) h2
                  rw [hd] at this
                  cases this
              · subst h; exact hd
            clear hd hc
            generalize L[m] = p at *
            go_wp2
            go_quiet (fail)
            go_wp2
            go_roundw
            case rel => exact ⟨lo, m, by omega, by omega, rfl, iv hmi, H1, H2', Lib.hid (below_drewN HW.out _)⟩
            case measure => simp only [intOf]; omega
        · obtain rfl : lo = hi2 := by omega
          have hii : ¬ (lo : Int) < (lo : Int) := by omega
          have hcut := scut_is (slt s) k L lo (by rw [Hlen.out]; exact hhk) H1.out (fun i hi he => H2.out i hi (by omega))
          have hins : slay (slt s) (k + 1) = L.take lo ++ k :: L.drop lo := by
            show sins (slt s) k (slay (slt s) k) = _
            rw [HL.out]
            unfold sins
            rw [hcut]
          have Hins := Lib.hid hins
          have htop := fun W => run_slice_top (P := Try.prog) Try.underlying33 hi hz1 Av k cv lo (by omega) W
          have hfrom := fun W => run_slice_from (P := Try.prog) Try.underlying33 hi hz1 Av k cv lo (by omega) W
          have hcutr := Hrd.out.cut (k := lo) (cap := cv) (by omega) hkc
          rw [Nat.mul_one, gints_drop, splc_drop] at hcutr
          rw [Nat.mul_one] at hfrom
          obtain ⟨A5, hA5⟩ : ∃ A5, (if cv = lo then Av else Av.map (·.add lo)) = A5 := ⟨_, rfl⟩
          rw [hA5] at hcutr hfrom
          obtain ⟨c5, hc5⟩ : ∃ c5, cv - lo = c5 := ⟨_, rfl⟩
          rw [hc5] at hfrom
          have hfr := Hrd.out.headOf (m := lo) (by omega)
          rw [gints_take, splc_take] at hfr
          have HR1 := Lib.hid fun (W : World) (h : Below w1.heap.size w1 W) => hfr.below h
          have HR2 := Lib.hid fun (W : World) (h : Below w1.heap.size w1 W) => hcutr.below h
          have HBw := Lib.hid HW.out.drew
          have hlk : lo ≤ k ∧ k ≤ 20001 := by have := Hbig.out; omega
          clear hcut hins hA5 hc5 hfr hcutr hsk
          go_wp2
          -- INS
          refine wp_region_held_drew (S := (fun _ => True)) (by kernel_rfl) (trivial) (fun hHeld => ?_)
          refine wpAnyH_take (i := 1) (oi := ⟨some 41, Op.move (Operand.tmp 4), 33, _, #[], none⟩) (v := ?_) rfl (by kernel_rfl) (by kernel_rfl) (by kernel_rfl) (fun _ _ _ h => h) (Or.inl ⟨by rfl, ?_⟩) hHeld ?_
          rotate_left
          · (intro wz hSw; go_simp; try (with_reducible rfl))
          try simp only [Act.put, List.setIfInBounds_toArray, List.set_cons_zero, List.set_cons_succ]
          refine wpAnyH_take (i := 2) (oi := ⟨some 42, Op.move (Operand.tmp 6), 3, _, #[], none⟩) (v := ?_) rfl (by kernel_rfl) (by kernel_rfl) (by kernel_rfl) (fun _ _ _ h => h) (Or.inl ⟨by rfl, ?_⟩) hHeld ?_
          rotate_left
          · (intro wz hSw; go_simp; try (with_reducible rfl))
          try simp only [Act.put, List.setIfInBounds_toArray, List.set_cons_zero, List.set_cons_succ]
          refine wpAnyH_take (i := 3) (oi := ⟨some 43, Op.slice 33 (Operand.tmp 41) none (some (Operand.tmp 42)) none, 33, _, #[{ on := 1, ground := Ground.data }, { on := 2, ground := Ground.data }], none⟩) (v := ?_) rfl (by kernel_rfl) (by kernel_rfl) (by kernel_rfl) (fun _ _ _ h => h) (Or.inl ⟨by rfl, ?_⟩) hHeld ?_
          rotate_left
          · (intro wz hSw; go_simp; try (with_reducible rfl))
          try simp only [Act.put, List.setIfInBounds_toArray, List.set_cons_zero, List.set_cons_succ]
          refine wpAnyH_take (i := 5) (oi := ⟨some 45, Op.move (Operand.tmp 5), 3, _, #[], none⟩) (v := ?_) rfl (by kernel_rfl) (by kernel_rfl) (by kernel_rfl) (fun _ _ _ h => h) (Or.inl ⟨by rfl, ?_⟩) hHeld ?_
          rotate_left
          · (intro wz hSw; go_simp; try (with_reducible rfl))
          try simp only [Act.put, List.setIfInBounds_toArray, List.set_cons_zero, List.set_cons_succ]
          refine wpAnyH_take (i := 8) (oi := ⟨some 48, Op.move (Operand.tmp 4), 33, _, #[], none⟩) (v := ?_) rfl (by kernel_rfl) (by kernel_rfl) (by kernel_rfl) (fun _ _ _ h => h) (Or.inl ⟨by rfl, ?_⟩) hHeld ?_
          rotate_left
          · (intro wz hSw; go_simp; try (with_reducible rfl))
          try simp only [Act.put, List.setIfInBounds_toArray, List.set_cons_zero, List.set_cons_succ]
          refine wpAnyH_take (i := 9) (oi := ⟨some 49, Op.move (Operand.tmp 6), 3, _, #[], none⟩) (v := ?_) rfl (by kernel_rfl) (by kernel_rfl) (by kernel_rfl) (fun _ _ _ h => h) (Or.inl ⟨by rfl, ?_⟩) hHeld ?_
          rotate_left
          · (intro wz hSw; go_simp; try (with_reducible rfl))
          try simp only [Act.put, List.setIfInBounds_toArray, List.set_cons_zero, List.set_cons_succ]
          refine wpAnyH_take (i := 10) (oi := ⟨some 50, Op.slice 33 (Operand.tmp 48) (some (Operand.tmp 49)) none none, 33, _, #[{ on := 8, ground := Ground.data }, { on := 9, ground := Ground.data }], none⟩) (v := ?_) rfl (by kernel_rfl) (by kernel_rfl) (by kernel_rfl) (fun _ _ _ h => h) (Or.inl ⟨by rfl, ?_⟩) hHeld ?_
          rotate_left
          · (intro wz hSw; go_simp; try (with_reducible rfl))
          try simp only [Act.put, List.setIfInBounds_toArray, List.set_cons_zero, List.set_cons_succ]
          refine wpAnyH_ready (rs := [0, 6]) (by kernel_rfl) (by simp) ?_
          refine AllReadyH.cons (o := ⟨some 40, Op.buildSlice 33 0 #[], 33, _, #[], none⟩) rfl (fun K hK => ?_) ?_
          · skip
            go_simp
            refine hK.out _ _ (trivial) (fun _ => ?_)
            clear hK K
            have HA := Lib.hid (s_empty _ HBw.out.size)
            try (have HS := Lib.hid (s_sepA HX.out (.cells #[] 3)))
            try (replace HX := Lib.hid (HX.out.alloc (.cells #[] 3)))
            replace HBw := Lib.hid (HBw.out.alloc HBw.out.size (.cells #[] 3))
            try rw [World.size_alloc] at HA
            try rw [World.size_alloc] at HS
            try simp only [Act.put, List.setIfInBounds_toArray, List.set_cons_zero, List.set_cons_succ]
            refine wpAnyH_ready (rs := [4, 6]) (by kernel_rfl) (by simp) ?_
            refine AllReadyH.cons (o := ⟨some 44, Op.call { callee := Callee.builtin Builtin.append, args := #[Operand.tmp 40, Operand.tmp 43], argTypes := #[33, 33] }, 33, _, #[{ on := 0, ground := Ground.data }, { on := 3, ground := Ground.data }], none⟩) rfl (fun K hK => ?_) ?_
            · skip
              refine lstep_append (by rfl) (.tmp 40) (.tmp 43) 33 (by rfl) w1.heap.size 3 i0 _ 1 8 Try.underlying33 hi hz0 hz1 hz9 rfl (by decide) _ 0 (ints ([])) (by rfl) HA.out Av lo cv _ (ints (splc (L.take lo))) (by rfl) (HR1.out _ HBw.out) (gints_one _) (by unfold maxLen; omega) (by omega) HBw.out.size (lo) (Nat.zero_add lo) ?_
              intro A_HA1 c_HA1 w_HA1 ho_ hg_ hs_
              refine hK.out _ _ (trivial) (fun _ => ?_)
              clear hK K
              try (have HS2 := Lib.hid (s_sepC HX.out HS.out hs_))
              try (replace HX := Lib.hid (s_keep HX.out HS.out hg_))
              try (replace HS := HS2)
              have HA1 : Hid (w_HA1.ownsRow w1.heap.size 3 1 (.slice A_HA1 (lo) c_HA1) (lo) (ints (([]) ++ (splc (L.take lo))))) := Lib.hid (by rw [gints_app]; exact ho_)
              replace HBw := Lib.hid (s_grown HBw.out HA.out hg_)
              clear ho_ hg_ hs_
              try simp only [Act.put, List.setIfInBounds_toArray, List.set_cons_zero, List.set_cons_succ]
              refine wpAnyH_ready (rs := [6]) (by kernel_rfl) (by simp) ?_
              refine AllReadyH.cons (o := ⟨some 46, Op.buildSlice 33 1 #[(0, Operand.tmp 45)], 33, _, #[{ on := 5, ground := Ground.data }], none⟩) rfl (fun K hK => ?_) AllReadyH.nil
              go_simp
              refine hK.out _ _ (trivial) (fun _ => ?_)
              clear hK K
              have HX := Lib.hid (s_new _ (k : Int) HBw.out.size)
              try (have HS := Lib.hid (s_sepB HA.out))
              try (have HS := Lib.hid (s_sepB HA1.out))
              try (replace HA := Lib.hid (HA.out.alloc (.cells #[.int .i64 (k : Int)] 3)))
              try (replace HA1 := Lib.hid (HA1.out.alloc (.cells #[.int .i64 (k : Int)] 3)))
              replace HBw := Lib.hid (HBw.out.alloc HBw.out.size (.cells #[.int .i64 (k : Int)] 3))
              try rw [World.size_alloc] at HX
              try rw [World.size_alloc] at HS
              try simp only [Act.put, List.setIfInBounds_toArray, List.set_cons_zero, List.set_cons_succ]
              refine wpAnyH_ready (rs := [7]) (by kernel_rfl) (by simp) ?_
              refine AllReadyH.cons (o := ⟨some 47, Op.call { callee := Callee.builtin Builtin.append, args := #[Operand.tmp 44, Operand.tmp 46], argTypes := #[33, 33] }, 33, _, #[{ on := 4, ground := Ground.data }, { on := 6, ground := Ground.data }, { on := 4, ground := Ground.chain }], none⟩) rfl (fun K hK => ?_) AllReadyH.nil
              refine lstep_append (by rfl) (.tmp 44) (.tmp 46) 33 (by rfl) w1.heap.size 3 i0 _ 1 8 Try.underlying33 hi hz0 hz1 hz9 rfl (by decide) _ lo (ints ([] ++ splc (L.take lo))) (by rfl) HA1.out _ 1 1 _ (ints ([(k : Int)])) (by rfl) (s_reads HX.out) (gints_one _) (by unfold maxLen; omega) (by omega) HBw.out.size (lo + 1) rfl ?_
              intro A_HA2 c_HA2 w_HA2 ho_ hg_ hs_
              refine hK.out _ _ (trivial) (fun _ => ?_)
              clear hK K
              have HA2 : Hid (w_HA2.ownsRow w1.heap.size 3 1 (.slice A_HA2 (lo + 1) c_HA2) (lo + 1) (ints (([] ++ splc (L.take lo)) ++ ([(k : Int)])))) := Lib.hid (by rw [gints_app]; exact ho_)
              replace HBw := Lib.hid (s_grown HBw.out HA1.out hg_)
              clear ho_ hg_ hs_
              try simp only [Act.put, List.setIfInBounds_toArray, List.set_cons_zero, List.set_cons_succ]
              refine wpAnyH_ready (rs := [11]) (by kernel_rfl) (by simp) ?_
              refine AllReadyH.cons (o := ⟨some 51, Op.call { callee := Callee.builtin Builtin.append, args := #[Operand.tmp 47, Operand.tmp 50], argTypes := #[33, 33] }, 33, _, #[{ on := 7, ground := Ground.data }, { on := 10, ground := Ground.data }, { on := 7, ground := Ground.chain }], none⟩) rfl (fun K hK => ?_) AllReadyH.nil
              refine lstep_append (by rfl) (.tmp 47) (.tmp 50) 33 (by rfl) w1.heap.size 3 i0 _ 1 8 Try.underlying33 hi hz0 hz1 hz9 rfl (by decide) _ (lo + 1) (ints (([] ++ splc (L.take lo)) ++ [(k : Int)])) (by rfl) HA2.out A5 (k - lo) c5 _ (ints (splc (L.drop lo))) (by rfl) (HR2.out _ HBw.out) (gints_one _) (by unfold maxLen; omega) (by omega) HBw.out.size (k + 1) (by omega) ?_
              intro A_HA3 c_HA3 w_HA3 ho_ hg_ hs_
              refine hK.out _ _ (trivial) (fun _ => ?_)
              clear hK K
              have HA3 : Hid (w_HA3.ownsRow w1.heap.size 3 1 (.slice A_HA3 (k + 1) c_HA3) (k + 1) (ints ((([] ++ splc (L.take lo)) ++ [(k : Int)]) ++ (splc (L.drop lo))))) := Lib.hid (by rw [gints_app]; exact ho_)
              replace HBw := Lib.hid (s_grown HBw.out HA2.out hg_)
              clear ho_ hg_ hs_
              try simp only [Act.put, List.setIfInBounds_toArray, List.set_cons_zero, List.set_cons_succ]
              refine wpAnyH_take (i := 12) (oi := ⟨some 4, Op.assign (Operand.tmp 51), 33, _, #[{ on := 11, ground := Ground.data }, { on := 11, ground := Ground.chain }, { on := 0, ground := Ground.phase }, { on := 1, ground := Ground.phase }, { on := 2, ground := Ground.phase }, { on := 3, ground := Ground.phase }, { on := 4, ground := Ground.phase }, { on := 5, ground := Ground.phase }, { on := 6, ground := Ground.phase }, { on := 7, ground := Ground.phase }, { on := 8, ground := Ground.phase }, { on := 9, ground := Ground.phase }, { on := 10, ground := Ground.phase }, { on := 11, ground := Ground.phase }], none⟩) (v := ?_) rfl (by kernel_rfl) (by kernel_rfl) (by kernel_rfl) (fun _ _ _ h => h) (Or.inl ⟨by rfl, ?_⟩) hHeld ?_
              rotate_left
              · (intro wz hSw; go_simp; try (with_reducible rfl))
              try simp only [Act.put, List.setIfInBounds_toArray, List.set_cons_zero, List.set_cons_succ]
              refine wpAnyH_done (by kernel_rfl) ?_ _
              have HF : Hid (w_HA3.ownsRow w.heap.size 3 1 (.slice A_HA3 (k + 1) c_HA3) (k + 1) (ints (splc (slay (slt s) (k + 1))))) := Lib.hid (by rw [Hins.out, s_three]; exact s_base HA3.out HB.out.size)
              have HG := Lib.hid (HB.out.trans (HBw.out.mono HB.out.size))
              go_wp2
              go_roundw
              case rel => exact ⟨k + 1, A_HA3, c_HA3, by omega, rfl, iv (by omega), HF, HG⟩
              case measure => simp only [intOf]; omega
            refine AllReadyH.cons (o := ⟨some 46, Op.buildSlice 33 1 #[(0, Operand.tmp 45)], 33, _, #[{ on := 5, ground := Ground.data }], none⟩) rfl (fun K hK => ?_) AllReadyH.nil
            go_simp
            refine hK.out _ _ (trivial) (fun _ => ?_)
            clear hK K
            have HX := Lib.hid (s_new _ (k : Int) HBw.out.size)
            try (have HS := Lib.hid (s_sepB HA.out))
            try (have HS := Lib.hid (s_sepB HA1.out))
            try (replace HA := Lib.hid (HA.out.alloc (.cells #[.int .i64 (k : Int)] 3)))
            try (replace HA1 := Lib.hid (HA1.out.alloc (.cells #[.int .i64 (k : Int)] 3)))
            replace HBw := Lib.hid (HBw.out.alloc HBw.out.size (.cells #[.int .i64 (k : Int)] 3))
            try rw [World.size_alloc] at HX
            try rw [World.size_alloc] at HS
            try simp only [Act.put, List.setIfInBounds_toArray, List.set_cons_zero, List.set_cons_succ]
            refine wpAnyH_ready (rs := [4]) (by kernel_rfl) (by simp) ?_
            refine AllReadyH.cons (o := ⟨some 44, Op.call { callee := Callee.builtin Builtin.append, args := #[Operand.tmp 40, Operand.tmp 43], argTypes := #[33, 33] }, 33, _, #[{ on := 0, ground := Ground.data }, { on := 3, ground := Ground.data }], none⟩) rfl (fun K hK => ?_) AllReadyH.nil
            refine lstep_append (by rfl) (.tmp 40) (.tmp 43) 33 (by rfl) w1.heap.size 3 i0 _ 1 8 Try.underlying33 hi hz0 hz1 hz9 rfl (by decide) _ 0 (ints ([])) (by rfl) HA.out Av lo cv _ (ints (splc (L.take lo))) (by rfl) (HR1.out _ HBw.out) (gints_one _) (by unfold maxLen; omega) (by omega) HBw.out.size (lo) (Nat.zero_add lo) ?_
            intro A_HA1 c_HA1 w_HA1 ho_ hg_ hs_
            refine hK.out _ _ (trivial) (fun _ => ?_)
            clear hK K
            try (have HS2 := Lib.hid (s_sepC HX.out HS.out hs_))
            try (replace HX := Lib.hid (s_keep HX.out HS.out hg_))
            try (replace HS := HS2)
            have HA1 : Hid (w_HA1.ownsRow w1.heap.size 3 1 (.slice A_HA1 (lo) c_HA1) (lo) (ints (([]) ++ (splc (L.take lo))))) := Lib.hid (by rw [gints_app]; exact ho_)
            replace HBw := Lib.hid (s_grown HBw.out HA.out hg_)
            clear ho_ hg_ hs_
            try simp only [Act.put, List.setIfInBounds_toArray, List.set_cons_zero, List.set_cons_succ]
            refine wpAnyH_ready (rs := [7]) (by kernel_rfl) (by simp) ?_
            refine AllReadyH.cons (o := ⟨some 47, Op.call { callee := Callee.builtin Builtin.append, args := #[Operand.tmp 44, Operand.tmp 46], argTypes := #[33, 33] }, 33, _, #[{ on := 4, ground := Ground.data }, { on := 6, ground := Ground.data }, { on := 4, ground := Ground.chain }], none⟩) rfl (fun K hK => ?_) AllReadyH.nil
            refine lstep_append (by rfl) (.tmp 44) (.tmp 46) 33 (by rfl) w1.heap.size 3 i0 _ 1 8 Try.underlying33 hi hz0 hz1 hz9 rfl (by decide) _ lo (ints ([] ++ splc (L.take lo))) (by rfl) HA1.out _ 1 1 _ (ints ([(k : Int)])) (by rfl) (s_reads HX.out) (gints_one _) (by unfold maxLen; omega) (by omega) HBw.out.size (lo + 1) rfl ?_
            intro A_HA2 c_HA2 w_HA2 ho_ hg_ hs_
            refine hK.out _ _ (trivial) (fun _ => ?_)
            clear hK K
            have HA2 : Hid (w_HA2.ownsRow w1.heap.size 3 1 (.slice A_HA2 (lo + 1) c_HA2) (lo + 1) (ints (([] ++ splc (L.take lo)) ++ ([(k : Int)])))) := Lib.hid (by rw [gints_app]; exact ho_)
            replace HBw := Lib.hid (s_grown HBw.out HA1.out hg_)
            clear ho_ hg_ hs_
            try simp only [Act.put, List.setIfInBounds_toArray, List.set_cons_zero, List.set_cons_succ]
            refine wpAnyH_ready (rs := [11]) (by kernel_rfl) (by simp) ?_
            refine AllReadyH.cons (o := ⟨some 51, Op.call { callee := Callee.builtin Builtin.append, args := #[Operand.tmp 47, Operand.tmp 50], argTypes := #[33, 33] }, 33, _, #[{ on := 7, ground := Ground.data }, { on := 10, ground := Ground.data }, { on := 7, ground := Ground.chain }], none⟩) rfl (fun K hK => ?_) AllReadyH.nil
            refine lstep_append (by rfl) (.tmp 47) (.tmp 50) 33 (by rfl) w1.heap.size 3 i0 _ 1 8 Try.underlying33 hi hz0 hz1 hz9 rfl (by decide) _ (lo + 1) (ints (([] ++ splc (L.take lo)) ++ [(k : Int)])) (by rfl) HA2.out A5 (k - lo) c5 _ (ints (splc (L.drop lo))) (by rfl) (HR2.out _ HBw.out) (gints_one _) (by unfold maxLen; omega) (by omega) HBw.out.size (k + 1) (by omega) ?_
            intro A_HA3 c_HA3 w_HA3 ho_ hg_ hs_
            refine hK.out _ _ (trivial) (fun _ => ?_)
            clear hK K
            have HA3 : Hid (w_HA3.ownsRow w1.heap.size 3 1 (.slice A_HA3 (k + 1) c_HA3) (k + 1) (ints ((([] ++ splc (L.take lo)) ++ [(k : Int)]) ++ (splc (L.drop lo))))) := Lib.hid (by rw [gints_app]; exact ho_)
            replace HBw := Lib.hid (s_grown HBw.out HA2.out hg_)
            clear ho_ hg_ hs_
            try simp only [Act.put, List.setIfInBounds_toArray, List.set_cons_zero, List.set_cons_succ]
            refine wpAnyH_take (i := 12) (oi := ⟨some 4, Op.assign (Operand.tmp 51), 33, _, #[{ on := 11, ground := Ground.data }, { on := 11, ground := Ground.chain }, { on := 0, ground := Ground.phase }, { on := 1, ground := Ground.phase }, { on := 2, ground := Ground.phase }, { on := 3, ground := Ground.phase }, { on := 4, ground := Ground.phase }, { on := 5, ground := Ground.phase }, { on := 6, ground := Ground.phase }, { on := 7, ground := Ground.phase }, { on := 8, ground := Ground.phase }, { on := 9, ground := Ground.phase }, { on := 10, ground := Ground.phase }, { on := 11, ground := Ground.phase }], none⟩) (v := ?_) rfl (by kernel_rfl) (by kernel_rfl) (by kernel_rfl) (fun _ _ _ h => h) (Or.inl ⟨by rfl, ?_⟩) hHeld ?_
            rotate_left
            · (intro wz hSw; go_simp; try (with_reducible rfl))
            try simp only [Act.put, List.setIfInBounds_toArray, List.set_cons_zero, List.set_cons_succ]
            refine wpAnyH_done (by kernel_rfl) ?_ _
            have HF : Hid (w_HA3.ownsRow w.heap.size 3 1 (.slice A_HA3 (k + 1) c_HA3) (k + 1) (ints (splc (slay (slt s) (k + 1))))) := Lib.hid (by rw [Hins.out, s_three]; exact s_base HA3.out HB.out.size)
            have HG := Lib.hid (HB.out.trans (HBw.out.mono HB.out.size))
            go_wp2
            go_roundw
            case rel => exact ⟨k + 1, A_HA3, c_HA3, by omega, rfl, iv (by omega), HF, HG⟩
            case measure => simp only [intOf]; omega
          refine AllReadyH.cons (o := ⟨some 46, Op.buildSlice 33 1 #[(0, Operand.tmp 45)], 33, _, #[{ on := 5, ground := Ground.data }], none⟩) rfl (fun K hK => ?_) AllReadyH.nil
          go_simp
          refine hK.out _ _ (trivial) (fun _ => ?_)
          clear hK K
          have HX := Lib.hid (s_new _ (k : Int) HBw.out.size)
          try (have HS := Lib.hid (s_sepB HA.out))
          try (have HS := Lib.hid (s_sepB HA1.out))
          try (replace HA := Lib.hid (HA.out.alloc (.cells #[.int .i64 (k : Int)] 3)))
          try (replace HA1 := Lib.hid (HA1.out.alloc (.cells #[.int .i64 (k : Int)] 3)))
          replace HBw := Lib.hid (HBw.out.alloc HBw.out.size (.cells #[.int .i64 (k : Int)] 3))
          try rw [World.size_alloc] at HX
          try rw [World.size_alloc] at HS
          try simp only [Act.put, List.setIfInBounds_toArray, List.set_cons_zero, List.set_cons_succ]
          refine wpAnyH_ready (rs := [0]) (by kernel_rfl) (by simp) ?_
          refine AllReadyH.cons (o := ⟨some 40, Op.buildSlice 33 0 #[], 33, _, #[], none⟩) rfl (fun K hK => ?_) AllReadyH.nil
          go_simp
          refine hK.out _ _ (trivial) (fun _ => ?_)
          clear hK K
          have HA := Lib.hid (s_empty _ HBw.out.size)
          try (have HS := Lib.hid (s_sepA HX.out (.cells #[] 3)))
          try (replace HX := Lib.hid (HX.out.alloc (.cells #[] 3)))
          replace HBw := Lib.hid (HBw.out.alloc HBw.out.size (.cells #[] 3))
          try rw [World.size_alloc] at HA
          try rw [World.size_alloc] at HS
          try simp only [Act.put, List.setIfInBounds_toArray, List.set_cons_zero, List.set_cons_succ]
          refine wpAnyH_ready (rs := [4]) (by kernel_rfl) (by simp) ?_
          refine AllReadyH.cons (o := ⟨some 44, Op.call { callee := Callee.builtin Builtin.append, args := #[Operand.tmp 40, Operand.tmp 43], argTypes := #[33, 33] }, 33, _, #[{ on := 0, ground := Ground.data }, { on := 3, ground := Ground.data }], none⟩) rfl (fun K hK => ?_) AllReadyH.nil
          refine lstep_append (by rfl) (.tmp 40) (.tmp 43) 33 (by rfl) w1.heap.size 3 i0 _ 1 8 Try.underlying33 hi hz0 hz1 hz9 rfl (by decide) _ 0 (ints ([])) (by rfl) HA.out Av lo cv _ (ints (splc (L.take lo))) (by rfl) (HR1.out _ HBw.out) (gints_one _) (by unfold maxLen; omega) (by omega) HBw.out.size (lo) (Nat.zero_add lo) ?_
          intro A_HA1 c_HA1 w_HA1 ho_ hg_ hs_
          refine hK.out _ _ (trivial) (fun _ => ?_)
          clear hK K
          try (have HS2 := Lib.hid (s_sepC HX.out HS.out hs_))
          try (replace HX := Lib.hid (s_keep HX.out HS.out hg_))
          try (replace HS := HS2)
          have HA1 : Hid (w_HA1.ownsRow w1.heap.size 3 1 (.slice A_HA1 (lo) c_HA1) (lo) (ints (([]) ++ (splc (L.take lo))))) := Lib.hid (by rw [gints_app]; exact ho_)
          replace HBw := Lib.hid (s_grown HBw.out HA.out hg_)
          clear ho_ hg_ hs_
          try simp only [Act.put, List.setIfInBounds_toArray, List.set_cons_zero, List.set_cons_succ]
          refine wpAnyH_ready (rs := [7]) (by kernel_rfl) (by simp) ?_
          refine AllReadyH.cons (o := ⟨some 47, Op.call { callee := Callee.builtin Builtin.append, args := #[Operand.tmp 44, Operand.tmp 46], argTypes := #[33, 33] }, 33, _, #[{ on := 4, ground := Ground.data }, { on := 6, ground := Ground.data }, { on := 4, ground := Ground.chain }], none⟩) rfl (fun K hK => ?_) AllReadyH.nil
          refine lstep_append (by rfl) (.tmp 44) (.tmp 46) 33 (by rfl) w1.heap.size 3 i0 _ 1 8 Try.underlying33 hi hz0 hz1 hz9 rfl (by decide) _ lo (ints ([] ++ splc (L.take lo))) (by rfl) HA1.out _ 1 1 _ (ints ([(k : Int)])) (by rfl) (s_reads HX.out) (gints_one _) (by unfold maxLen; omega) (by omega) HBw.out.size (lo + 1) rfl ?_
          intro A_HA2 c_HA2 w_HA2 ho_ hg_ hs_
          refine hK.out _ _ (trivial) (fun _ => ?_)
          clear hK K
          have HA2 : Hid (w_HA2.ownsRow w1.heap.size 3 1 (.slice A_HA2 (lo + 1) c_HA2) (lo + 1) (ints (([] ++ splc (L.take lo)) ++ ([(k : Int)])))) := Lib.hid (by rw [gints_app]; exact ho_)
          replace HBw := Lib.hid (s_grown HBw.out HA1.out hg_)
          clear ho_ hg_ hs_
          try simp only [Act.put, List.setIfInBounds_toArray, List.set_cons_zero, List.set_cons_succ]
          refine wpAnyH_ready (rs := [11]) (by kernel_rfl) (by simp) ?_
          refine AllReadyH.cons (o := ⟨some 51, Op.call { callee := Callee.builtin Builtin.append, args := #[Operand.tmp 47, Operand.tmp 50], argTypes := #[33, 33] }, 33, _, #[{ on := 7, ground := Ground.data }, { on := 10, ground := Ground.data }, { on := 7, ground := Ground.chain }], none⟩) rfl (fun K hK => ?_) AllReadyH.nil
          refine lstep_append (by rfl) (.tmp 47) (.tmp 50) 33 (by rfl) w1.heap.size 3 i0 _ 1 8 Try.underlying33 hi hz0 hz1 hz9 rfl (by decide) _ (lo + 1) (ints (([] ++ splc (L.take lo)) ++ [(k : Int)])) (by rfl) HA2.out A5 (k - lo) c5 _ (ints (splc (L.drop lo))) (by rfl) (HR2.out _ HBw.out) (gints_one _) (by unfold maxLen; omega) (by omega) HBw.out.size (k + 1) (by omega) ?_
          intro A_HA3 c_HA3 w_HA3 ho_ hg_ hs_
          refine hK.out _ _ (trivial) (fun _ => ?_)
          clear hK K
          have HA3 : Hid (w_HA3.ownsRow w1.heap.size 3 1 (.slice A_HA3 (k + 1) c_HA3) (k + 1) (ints ((([] ++ splc (L.take lo)) ++ [(k : Int)]) ++ (splc (L.drop lo))))) := Lib.hid (by rw [gints_app]; exact ho_)
          replace HBw := Lib.hid (s_grown HBw.out HA2.out hg_)
          clear ho_ hg_ hs_
          try simp only [Act.put, List.setIfInBounds_toArray, List.set_cons_zero, List.set_cons_succ]
          refine wpAnyH_take (i := 12) (oi := ⟨some 4, Op.assign (Operand.tmp 51), 33, _, #[{ on := 11, ground := Ground.data }, { on := 11, ground := Ground.chain }, { on := 0, ground := Ground.phase }, { on := 1, ground := Ground.phase }, { on := 2, ground := Ground.phase }, { on := 3, ground := Ground.phase }, { on := 4, ground := Ground.phase }, { on := 5, ground := Ground.phase }, { on := 6, ground := Ground.phase }, { on := 7, ground := Ground.phase }, { on := 8, ground := Ground.phase }, { on := 9, ground := Ground.phase }, { on := 10, ground := Ground.phase }, { on := 11, ground := Ground.phase }], none⟩) (v := ?_) rfl (by kernel_rfl) (by kernel_rfl) (by kernel_rfl) (fun _ _ _ h => h) (Or.inl ⟨by rfl, ?_⟩) hHeld ?_
          rotate_left
          · (intro wz hSw; go_simp; try (with_reducible rfl))
          try simp only [Act.put, List.setIfInBounds_toArray, List.set_cons_zero, List.set_cons_succ]
          refine wpAnyH_done (by kernel_rfl) ?_ _
          have HF : Hid (w_HA3.ownsRow w.heap.size 3 1 (.slice A_HA3 (k + 1) c_HA3) (k + 1) (ints (splc (slay (slt s) (k + 1))))) := Lib.hid (by rw [Hins.out, s_three]; exact s_base HA3.out HB.out.size)
          have HG := Lib.hid (HB.out.trans (HBw.out.mono HB.out.size))
          go_wp2
          go_roundw
          case rel => exact ⟨k + 1, A_HA3, c_HA3, by omega, rfl, iv (by omega), HF, HG⟩
          case measure => simp only [intOf]; omega
          -- END INS
    · obtain rfl : k = s.length + 1 := by omega
      have hii : ¬ ((s.length + 1 : Nat) : Int) ≤ (s.length : Int) := by omega
      obtain ⟨A2, c2, e2, hkc, hrd⟩ := owns_cells HO.out
      injection e2 with e3 _ e4
      subst e3 e4
      have Hrd := Lib.hid hrd
      have Hkc := Lib.hid hkc
      have Hln : Hid ((splc (sarr s)).length = s.length + 1) := Lib.hid (by rw [splc_len]; exact slay_len _ _)
      clear hrd hkc
      go_wp2
      go_ret2
      exact lpost_row Hln.out Hkc.out Hrd.out HB.out
end Go.Proofs.Ytjdpogaaookoeaa
