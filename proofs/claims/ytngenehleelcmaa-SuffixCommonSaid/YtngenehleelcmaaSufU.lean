/-
  Layer 12: the document's own Sort, for every list of keys (ahead of the code's landing).
-/
import Derived.Test.YtngenehleelcmaaSufT
namespace Go.Proofs.Ytngenehleelcmaa
set_option linter.unusedSimpArgs false
set_option linter.unusedVariables false
open Go.ChangeShapes Go.WideShapes Go.ChangeAt Go.RowKit Go.Joins Go.Deep

theorem ks_arg {keys : List Int} {most : Int} (h : most < 0 ∨ 1000000 < most) : ksF keys most = ([], 2) := if_pos h
theorem ks_yes {keys : List Int} {most : Int} (h : ¬ (most < 0 ∨ 1000000 < most)) (hg : ∀ i (hi : i < keys.length), 0 ≤ keys[i] ∧ keys[i] ≤ most) : ksF keys most = (splc (slay (klt keys) keys.length), 0) := by
  unfold ksF
  rw [if_neg h, if_pos (kgood_of hg)]
theorem ks_no {keys : List Int} {most : Int} (h : ¬ (most < 0 ∨ 1000000 < most)) (i : Nat) (hi : i < keys.length) (hb : ¬ (0 ≤ keys[i] ∧ keys[i] ≤ most)) : ksF keys most = ([], 2) := by
  unfold ksF
  rw [if_neg h, if_neg fun hg => hb (kgood_get hg i hi)]
theorem kgetD {keys : List Int} (k : Nat) (hk : k < keys.length) : keys.getD k 0 = keys[k] := by rw [List.getD_eq_getElem?_getD, List.getElem?_eq_getElem hk]; rfl
/-- Where a key is put in. -/
theorem kcut {keys : List Int} {L : List Nat} {k lo : Nat} (hlo : lo ≤ L.length) (hk : k < keys.length) (hs : SSort (klt keys) L) (hm : ∀ q ∈ L, q < k) (h1 : ∀ j (h : j < L.length), lo ≤ j → keys.getD k 0 < keys.getD L[j] 0) (h2 : lo = 0 ∨ ∃ (h : lo - 1 < L.length), keys.getD (L[lo - 1]'h) 0 ≤ keys.getD k 0) : scut (klt keys) k L = lo := by
  refine scut_is (klt keys) k L lo hlo (fun i hi hil => ?_) (fun i hi he => ?_)
  · rcases h2 with h2 | ⟨h2, h3⟩
    · omega
    · have hmi := hm L[i] (List.getElem_mem hi)
      rw [klt_iff]
      rcases Nat.lt_or_eq_of_le (by omega : i ≤ lo - 1) with h | h
      · have := ssort_get hs i (lo - 1) hi h2 h
        rw [klt_iff] at this
        omega
      · subst h
        omega
  · have := h1 i hi (by omega)
    cases h : klt keys L[i] k with
    | false => rfl
    | true => rw [klt_iff] at h; omega

set_option maxRecDepth 100000 in
set_option maxHeartbeats 8000000 in
theorem sref_sort_any (keys : List Int) (most : Int) (A : Option Addr) (n c : Nat) (w : World) (hm : n ≤ 1000000) (hr : Reads w w.heap.size 1 A n (ints keys)) :
    Calls Try.prog 12 #[.slice A n c, .int .i64 most] w fun e w' => LPost w w' e (ksF keys most) := by
  obtain ⟨i0, hi, hz0, hz1, hz9⟩ := info_parts gint_info
  by_cases h0 : most < 0
  · rw [ks_arg (Or.inl h0)]
    clear hr
    go_enter Try.func12, Try.ntmps12
    go_wp2
    go_ret2
    exact lpost_none (Below.refl _ _)
  by_cases h1 : 1000000 < most
  · rw [ks_arg (Or.inr h1)]
    clear hr
    go_enter Try.func12, Try.ntmps12
    go_wp2
    go_ret2
    exact lpost_none (Below.refl _ _)
  have en : keys.length = n := by have := hr.1; rw [ints_length] at this; omega
  have Hno := Lib.hid fun i hi hb => ks_no (keys := keys) (most := most) (by omega) i hi hb
  have Hyes := Lib.hid fun hg => ks_yes (keys := keys) (most := most) (by omega) hg
  have Hcell := Lib.hid fun hn => gcells_at hr hn
  have En := Lib.hid en
  have hni : (n : Int) ≤ 1000000 := by omega
  clear hr en
  generalize hFF : ksF keys most = FF at *
  clear hFF
  go_enter Try.func12, Try.ntmps12
  go_wp2
  go_loopw [6, 7, 8] (fun v i kx wr => ∃ (k : Nat) (Av : Option Addr) (cv : Nat), k ≤ n ∧ v = .slice Av k cv ∧ i = .int .i64 k ∧ Hid (∀ j (h : j < keys.length), j < k → 0 ≤ keys[j] ∧ keys[j] ≤ most) ∧ Hid (wr.ownsRow w.heap.size 3 1 (.slice Av k cv) k (ints (splc (slay (klt keys) k)))) ∧ Hid (Below w.heap.size w wr)) (fun _ i _ _ => n - (intOf i).toNat)
  case atStart => exact ⟨0, none, 0, by omega, rfl, rfl, Lib.hid fun j _ h => by omega, Lib.hid (World.ownsRow_nil _ _ _ _), Lib.hid (Below.refl _ _)⟩
  case round =>
    obtain ⟨k, Av, cv, hk, rfl, rfl, HG, HO, HB⟩ := hrel
    obtain ⟨w1, rfl⟩ : ∃ w1, w1 = wr := ⟨_, rfl⟩
    by_cases hlt : k < n
    · have hki : (k : Int) < (n : Int) := by omega
      have hkl : k < keys.length := by rw [En.out]; exact hlt
      obtain ⟨bA, oA, rfl, hbA, hcA⟩ := Hcell.out (by omega)
      have HcA := Lib.hid hcA
      have x1 := hcA w1 HB.out k hkl
      clear hcA Hcell
      obtain ⟨y, hy⟩ : ∃ y, keys[k] = y := ⟨_, rfl⟩
      rw [hy] at x1
      by_cases hg : 0 ≤ y ∧ y ≤ most
      · have hg1 := hg.1
        have hg2 := hg.2
        have HG2 : Hid (∀ j (h : j < keys.length), j < k + 1 → 0 ≤ keys[j] ∧ keys[j] ≤ most) := Lib.hid fun j h hj => by
          by_cases e : j = k
          · subst e; rw [hy]; exact hg
          · exact HG.out j h (by omega)
        obtain ⟨A2, c2, e2, hkc, hrd⟩ := owns_cells HO.out
        injection e2 with e3 _ e4
        subst e3 e4
        have hlen := slay_len (klt keys) k
        have Hsort := Lib.hid (slay_sort (klt_ord keys n) k (by omega))
        have Hmem := Lib.hid (slay_mem (klt keys) k)
        have Hrd := Lib.hid hrd
        have Hyk : Hid (keys.getD k 0 = y) := Lib.hid (by rw [kgetD k hkl, hy])
        clear hrd hy
        obtain ⟨L, hL⟩ : ∃ L, slay (klt keys) k = L := ⟨_, rfl⟩
        have HL := Lib.hid hL
        rw [hL] at HO Hsort Hmem Hrd hlen
        have Hlen := Lib.hid hlen
        clear hL hlen hg hkl
        go_wp2
        go_loopw [8] (fun kx W => ∃ lo : Nat, lo ≤ k ∧ kx = .int .i64 lo ∧ Hid (∀ j (h : j < L.length), lo ≤ j → keys.getD k 0 < keys.getD L[j] 0) ∧ Hid (Below w1.heap.size w1 W)) (fun kx _ => (intOf kx).toNat)
        case atStart => exact ⟨k, by omega, rfl, Lib.hid fun j h h2 => by rw [Hlen.out] at h; omega, Lib.hid (Below.refl _ _)⟩
        case round =>
          obtain ⟨lo, hlk, rfl, H1, HW⟩ := hrel
          have hwb : Below w.heap.size w wr := HB.out.trans (HW.out.mono HB.out.size)
          have Hwb := Lib.hid hwb
          clear hwb
          by_cases hl0 : lo = 0
          · have b1 : decide ((0 : Int) < (lo : Int)) = false := by rw [decide_eq_false_iff_not]; omega
            have b1n : decide (0 < lo) = false := by rw [decide_eq_false_iff_not]; omega
            have hcut := kcut (by rw [Hlen.out]; omega) (by rw [En.out]; exact hlt) Hsort.out (fun q hq => (Hmem.out q).1 hq) H1.out (Or.inl hl0)
            clear hl0
            -- INS
            have hins : slay (klt keys) (k + 1) = L.take lo ++ k :: L.drop lo := by
              show sins (klt keys) k (slay (klt keys) k) = _
              rw [HL.out]
              unfold sins
              rw [hcut]
            have Hins := Lib.hid hins
            clear hins hcut
            have htop := fun W => run_slice_top (P := Try.prog) Try.underlying22 hi hz1 Av k cv lo (by omega) W
            have hfrom := fun W => run_slice_from (P := Try.prog) Try.underlying22 hi hz1 Av k cv lo (by omega) W
            have hcutr := Hrd.out.cut (k := lo) (cap := cv) (by omega) hkc
            rw [Nat.mul_one, gints_drop, splc_drop] at hcutr
            rw [Nat.mul_one] at hfrom
            obtain ⟨A5, hA5⟩ : ∃ A5, (if cv = lo then Av else Av.map (·.add lo)) = A5 := ⟨_, rfl⟩
            rw [hA5] at hcutr hfrom
            obtain ⟨c5, hc5⟩ : ∃ c5, cv - lo = c5 := ⟨_, rfl⟩
            rw [hc5] at hfrom
            have hfr := Hrd.out.headOf (m := lo) (by omega)
            rw [gints_take, splc_take] at hfr
            have HR1 := Lib.hid fun (W : World) (h : Below w1.heap.size w1 W) => hfr.below h
            have HR2 := Lib.hid fun (W : World) (h : Below w1.heap.size w1 W) => hcutr.below h
            clear hA5 hc5 hfr hcutr
            go_wp2
            go_quiet (fail)
            go_wp2
            have HBw := Lib.hid ((below_drewN HW.out nq).drew)
            refine wp_region_held_drew (S := (fun _ => True)) (by kernel_rfl) (trivial) (fun hHeld => ?_)
            refine wpAnyH_take (i := 1) (oi := ⟨some 56, Op.move (Operand.tmp 6), 22, _, #[], none⟩) (v := ?_) rfl (by kernel_rfl) (by kernel_rfl) (by kernel_rfl) (fun _ _ _ h => h) (Or.inl ⟨by rfl, ?_⟩) hHeld ?_
            rotate_left
            · (intro wz hSw; go_simp; try (with_reducible rfl))
            try simp only [Act.put, List.setIfInBounds_toArray, List.set_cons_zero, List.set_cons_succ]
            refine wpAnyH_take (i := 2) (oi := ⟨some 57, Op.move (Operand.tmp 8), 3, _, #[], none⟩) (v := ?_) rfl (by kernel_rfl) (by kernel_rfl) (by kernel_rfl) (fun _ _ _ h => h) (Or.inl ⟨by rfl, ?_⟩) hHeld ?_
            rotate_left
            · (intro wz hSw; go_simp; try (with_reducible rfl))
            try simp only [Act.put, List.setIfInBounds_toArray, List.set_cons_zero, List.set_cons_succ]
            refine wpAnyH_take (i := 3) (oi := ⟨some 58, Op.slice 22 (Operand.tmp 56) none (some (Operand.tmp 57)) none, 22, _, #[{ on := 1, ground := Ground.data }, { on := 2, ground := Ground.data }], none⟩) (v := ?_) rfl (by kernel_rfl) (by kernel_rfl) (by kernel_rfl) (fun _ _ _ h => h) (Or.inl ⟨by rfl, ?_⟩) hHeld ?_
            rotate_left
            · (intro wz hSw; go_simp; try (with_reducible rfl))
            try simp only [Act.put, List.setIfInBounds_toArray, List.set_cons_zero, List.set_cons_succ]
            refine wpAnyH_take (i := 5) (oi := ⟨some 60, Op.move (Operand.tmp 7), 3, _, #[], none⟩) (v := ?_) rfl (by kernel_rfl) (by kernel_rfl) (by kernel_rfl) (fun _ _ _ h => h) (Or.inl ⟨by rfl, ?_⟩) hHeld ?_
            rotate_left
            · (intro wz hSw; go_simp; try (with_reducible rfl))
            try simp only [Act.put, List.setIfInBounds_toArray, List.set_cons_zero, List.set_cons_succ]
            refine wpAnyH_take (i := 8) (oi := ⟨some 63, Op.move (Operand.tmp 6), 22, _, #[], none⟩) (v := ?_) rfl (by kernel_rfl) (by kernel_rfl) (by kernel_rfl) (fun _ _ _ h => h) (Or.inl ⟨by rfl, ?_⟩) hHeld ?_
            rotate_left
            · (intro wz hSw; go_simp; try (with_reducible rfl))
            try simp only [Act.put, List.setIfInBounds_toArray, List.set_cons_zero, List.set_cons_succ]
            refine wpAnyH_take (i := 9) (oi := ⟨some 64, Op.move (Operand.tmp 8), 3, _, #[], none⟩) (v := ?_) rfl (by kernel_rfl) (by kernel_rfl) (by kernel_rfl) (fun _ _ _ h => h) (Or.inl ⟨by rfl, ?_⟩) hHeld ?_
            rotate_left
            · (intro wz hSw; go_simp; try (with_reducible rfl))
            try simp only [Act.put, List.setIfInBounds_toArray, List.set_cons_zero, List.set_cons_succ]
            refine wpAnyH_take (i := 10) (oi := ⟨some 65, Op.slice 22 (Operand.tmp 63) (some (Operand.tmp 64)) none none, 22, _, #[{ on := 8, ground := Ground.data }, { on := 9, ground := Ground.data }], none⟩) (v := ?_) rfl (by kernel_rfl) (by kernel_rfl) (by kernel_rfl) (fun _ _ _ h => h) (Or.inl ⟨by rfl, ?_⟩) hHeld ?_
            rotate_left
            · (intro wz hSw; go_simp; try (with_reducible rfl))
            try simp only [Act.put, List.setIfInBounds_toArray, List.set_cons_zero, List.set_cons_succ]
            refine wpAnyH_ready (rs := [0, 6]) (by kernel_rfl) (by simp) ?_
            refine AllReadyH.cons (o := ⟨some 55, Op.buildSlice 22 0 #[], 22, _, #[], none⟩) rfl (fun K hK => ?_) ?_
            · skip
              go_simp
              refine hK.out _ _ (trivial) (fun _ => ?_)
              clear hK K
              have HA := Lib.hid (s_empty _ HBw.out.size)
              try (have HS := Lib.hid (s_sepA HX.out (.cells #[] 3)))
              try (replace HX := Lib.hid (HX.out.alloc (.cells #[] 3)))
              replace HBw := Lib.hid (HBw.out.alloc HBw.out.size (.cells #[] 3))
              try rw [World.size_alloc] at HA
              try rw [World.size_alloc] at HS
              try simp only [Act.put, List.setIfInBounds_toArray, List.set_cons_zero, List.set_cons_succ]
              refine wpAnyH_ready (rs := [4, 6]) (by kernel_rfl) (by simp) ?_
              refine AllReadyH.cons (o := ⟨some 59, Op.call { callee := Callee.builtin Builtin.append, args := #[Operand.tmp 55, Operand.tmp 58], argTypes := #[22, 22] }, 22, _, #[{ on := 0, ground := Ground.data }, { on := 3, ground := Ground.data }], none⟩) rfl (fun K hK => ?_) ?_
              · skip
                refine lstep_append (by rfl) (.tmp 55) (.tmp 58) 22 (by rfl) w1.heap.size 3 i0 _ 1 8 Try.underlying22 hi hz0 hz1 hz9 rfl (by decide) _ 0 (ints ([])) (by rfl) HA.out Av lo cv _ (ints (splc (L.take lo))) (by rfl) (HR1.out _ HBw.out) (gints_one _) (by unfold maxLen; omega) (by omega) HBw.out.size (lo) (Nat.zero_add lo) ?_
                intro A_HA1 c_HA1 w_HA1 ho_ hg_ hs_
                refine hK.out _ _ (trivial) (fun _ => ?_)
                clear hK K
                try (have HS2 := Lib.hid (s_sepC HX.out HS.out hs_))
                try (replace HX := Lib.hid (s_keep HX.out HS.out hg_))
                try (replace HS := HS2)
                have HA1 : Hid (w_HA1.ownsRow w1.heap.size 3 1 (.slice A_HA1 (lo) c_HA1) (lo) (ints (([]) ++ (splc (L.take lo))))) := Lib.hid (by rw [gints_app]; exact ho_)
                replace HBw := Lib.hid (s_grown HBw.out HA.out hg_)
                clear ho_ hg_ hs_
                try simp only [Act.put, List.setIfInBounds_toArray, List.set_cons_zero, List.set_cons_succ]
                refine wpAnyH_ready (rs := [6]) (by kernel_rfl) (by simp) ?_
                refine AllReadyH.cons (o := ⟨some 61, Op.buildSlice 22 1 #[(0, Operand.tmp 60)], 22, _, #[{ on := 5, ground := Ground.data }], none⟩) rfl (fun K hK => ?_) AllReadyH.nil
                go_simp
                refine hK.out _ _ (trivial) (fun _ => ?_)
                clear hK K
                have HX := Lib.hid (s_new _ (k : Int) HBw.out.size)
                try (have HS := Lib.hid (s_sepB HA.out))
                try (have HS := Lib.hid (s_sepB HA1.out))
                try (replace HA := Lib.hid (HA.out.alloc (.cells #[.int .i64 (k : Int)] 3)))
                try (replace HA1 := Lib.hid (HA1.out.alloc (.cells #[.int .i64 (k : Int)] 3)))
                replace HBw := Lib.hid (HBw.out.alloc HBw.out.size (.cells #[.int .i64 (k : Int)] 3))
                try rw [World.size_alloc] at HX
                try rw [World.size_alloc] at HS
                try simp only [Act.put, List.setIfInBounds_toArray, List.set_cons_zero, List.set_cons_succ]
                refine wpAnyH_ready (rs := [7]) (by kernel_rfl) (by simp) ?_
                refine AllReadyH.cons (o := ⟨some 62, Op.call { callee := Callee.builtin Builtin.append, args := #[Operand.tmp 59, Operand.tmp 61], argTypes := #[22, 22] }, 22, _, #[{ on := 4, ground := Ground.data }, { on := 6, ground := Ground.data }, { on := 4, ground := Ground.chain }], none⟩) rfl (fun K hK => ?_) AllReadyH.nil
                refine lstep_append (by rfl) (.tmp 59) (.tmp 61) 22 (by rfl) w1.heap.size 3 i0 _ 1 8 Try.underlying22 hi hz0 hz1 hz9 rfl (by decide) _ lo (ints ([] ++ splc (L.take lo))) (by rfl) HA1.out _ 1 1 _ (ints ([(k : Int)])) (by rfl) (s_reads HX.out) (gints_one _) (by unfold maxLen; omega) (by omega) HBw.out.size (lo + 1) rfl ?_
                intro A_HA2 c_HA2 w_HA2 ho_ hg_ hs_
                refine hK.out _ _ (trivial) (fun _ => ?_)
                clear hK K
                have HA2 : Hid (w_HA2.ownsRow w1.heap.size 3 1 (.slice A_HA2 (lo + 1) c_HA2) (lo + 1) (ints (([] ++ splc (L.take lo)) ++ ([(k : Int)])))) := Lib.hid (by rw [gints_app]; exact ho_)
                replace HBw := Lib.hid (s_grown HBw.out HA1.out hg_)
                clear ho_ hg_ hs_
                try simp only [Act.put, List.setIfInBounds_toArray, List.set_cons_zero, List.set_cons_succ]
                refine wpAnyH_ready (rs := [11]) (by kernel_rfl) (by simp) ?_
                refine AllReadyH.cons (o := ⟨some 66, Op.call { callee := Callee.builtin Builtin.append, args := #[Operand.tmp 62, Operand.tmp 65], argTypes := #[22, 22] }, 22, _, #[{ on := 7, ground := Ground.data }, { on := 10, ground := Ground.data }, { on := 7, ground := Ground.chain }], none⟩) rfl (fun K hK => ?_) AllReadyH.nil
                refine lstep_append (by rfl) (.tmp 62) (.tmp 65) 22 (by rfl) w1.heap.size 3 i0 _ 1 8 Try.underlying22 hi hz0 hz1 hz9 rfl (by decide) _ (lo + 1) (ints (([] ++ splc (L.take lo)) ++ [(k : Int)])) (by rfl) HA2.out A5 (k - lo) c5 _ (ints (splc (L.drop lo))) (by rfl) (HR2.out _ HBw.out) (gints_one _) (by unfold maxLen; omega) (by omega) HBw.out.size (k + 1) (by omega) ?_
                intro A_HA3 c_HA3 w_HA3 ho_ hg_ hs_
                refine hK.out _ _ (trivial) (fun _ => ?_)
                clear hK K
                have HA3 : Hid (w_HA3.ownsRow w1.heap.size 3 1 (.slice A_HA3 (k + 1) c_HA3) (k + 1) (ints ((([] ++ splc (L.take lo)) ++ [(k : Int)]) ++ (splc (L.drop lo))))) := Lib.hid (by rw [gints_app]; exact ho_)
                replace HBw := Lib.hid (s_grown HBw.out HA2.out hg_)
                clear ho_ hg_ hs_
                try simp only [Act.put, List.setIfInBounds_toArray, List.set_cons_zero, List.set_cons_succ]
                refine wpAnyH_take (i := 12) (oi := ⟨some 6, Op.assign (Operand.tmp 66), 22, _, #[{ on := 11, ground := Ground.data }, { on := 11, ground := Ground.chain }, { on := 0, ground := Ground.phase }, { on := 1, ground := Ground.phase }, { on := 2, ground := Ground.phase }, { on := 3, ground := Ground.phase }, { on := 4, ground := Ground.phase }, { on := 5, ground := Ground.phase }, { on := 6, ground := Ground.phase }, { on := 7, ground := Ground.phase }, { on := 8, ground := Ground.phase }, { on := 9, ground := Ground.phase }, { on := 10, ground := Ground.phase }, { on := 11, ground := Ground.phase }], none⟩) (v := ?_) rfl (by kernel_rfl) (by kernel_rfl) (by kernel_rfl) (fun _ _ _ h => h) (Or.inl ⟨by rfl, ?_⟩) hHeld ?_
                rotate_left
                · (intro wz hSw; go_simp; try (with_reducible rfl))
                try simp only [Act.put, List.setIfInBounds_toArray, List.set_cons_zero, List.set_cons_succ]
                refine wpAnyH_done (by kernel_rfl) ?_ _
                have HF : Hid (w_HA3.ownsRow w.heap.size 3 1 (.slice A_HA3 (k + 1) c_HA3) (k + 1) (ints (splc (slay (klt keys) (k + 1))))) := Lib.hid (by rw [Hins.out, s_three]; exact s_base HA3.out HB.out.size)
                have HG := Lib.hid (HB.out.trans (HBw.out.mono HB.out.size))
                go_wp2
                go_roundw
                case rel => exact ⟨k + 1, A_HA3, c_HA3, by omega, rfl, iv (by omega), HG2, HF, HG⟩
                case measure => simp only [intOf]; omega
              refine AllReadyH.cons (o := ⟨some 61, Op.buildSlice 22 1 #[(0, Operand.tmp 60)], 22, _, #[{ on := 5, ground := Ground.data }], none⟩) rfl (fun K hK => ?_) AllReadyH.nil
              go_simp
              refine hK.out _ _ (trivial) (fun _ => ?_)
              clear hK K
              have HX := Lib.hid (s_new _ (k : Int) HBw.out.size)
              try (have HS := Lib.hid (s_sepB HA.out))
              try (have HS := Lib.hid (s_sepB HA1.out))
              try (replace HA := Lib.hid (HA.out.alloc (.cells #[.int .i64 (k : Int)] 3)))
              try (replace HA1 := Lib.hid (HA1.out.alloc (.cells #[.int .i64 (k : Int)] 3)))
              replace HBw := Lib.hid (HBw.out.alloc HBw.out.size (.cells #[.int .i64 (k : Int)] 3))
              try rw [World.size_alloc] at HX
              try rw [World.size_alloc] at HS
              try simp only [Act.put, List.setIfInBounds_toArray, List.set_cons_zero, List.set_cons_succ]
              refine wpAnyH_ready (rs := [4]) (by kernel_rfl) (by simp) ?_
              refine AllReadyH.cons (o := ⟨some 59, Op.call { callee := Callee.builtin Builtin.append, args := #[Operand.tmp 55, Operand.tmp 58], argTypes := #[22, 22] }, 22, _, #[{ on := 0, ground := Ground.data }, { on := 3, ground := Ground.data }], none⟩) rfl (fun K hK => ?_) AllReadyH.nil
              refine lstep_append (by rfl) (.tmp 55) (.tmp 58) 22 (by rfl) w1.heap.size 3 i0 _ 1 8 Try.underlying22 hi hz0 hz1 hz9 rfl (by decide) _ 0 (ints ([])) (by rfl) HA.out Av lo cv _ (ints (splc (L.take lo))) (by rfl) (HR1.out _ HBw.out) (gints_one _) (by unfold maxLen; omega) (by omega) HBw.out.size (lo) (Nat.zero_add lo) ?_
              intro A_HA1 c_HA1 w_HA1 ho_ hg_ hs_
              refine hK.out _ _ (trivial) (fun _ => ?_)
              clear hK K
              try (have HS2 := Lib.hid (s_sepC HX.out HS.out hs_))
              try (replace HX := Lib.hid (s_keep HX.out HS.out hg_))
              try (replace HS := HS2)
              have HA1 : Hid (w_HA1.ownsRow w1.heap.size 3 1 (.slice A_HA1 (lo) c_HA1) (lo) (ints (([]) ++ (splc (L.take lo))))) := Lib.hid (by rw [gints_app]; exact ho_)
              replace HBw := Lib.hid (s_grown HBw.out HA.out hg_)
              clear ho_ hg_ hs_
              try simp only [Act.put, List.setIfInBounds_toArray, List.set_cons_zero, List.set_cons_succ]
              refine wpAnyH_ready (rs := [7]) (by kernel_rfl) (by simp) ?_
              refine AllReadyH.cons (o := ⟨some 62, Op.call { callee := Callee.builtin Builtin.append, args := #[Operand.tmp 59, Operand.tmp 61], argTypes := #[22, 22] }, 22, _, #[{ on := 4, ground := Ground.data }, { on := 6, ground := Ground.data }, { on := 4, ground := Ground.chain }], none⟩) rfl (fun K hK => ?_) AllReadyH.nil
              refine lstep_append (by rfl) (.tmp 59) (.tmp 61) 22 (by rfl) w1.heap.size 3 i0 _ 1 8 Try.underlying22 hi hz0 hz1 hz9 rfl (by decide) _ lo (ints ([] ++ splc (L.take lo))) (by rfl) HA1.out _ 1 1 _ (ints ([(k : Int)])) (by rfl) (s_reads HX.out) (gints_one _) (by unfold maxLen; omega) (by omega) HBw.out.size (lo + 1) rfl ?_
              intro A_HA2 c_HA2 w_HA2 ho_ hg_ hs_
              refine hK.out _ _ (trivial) (fun _ => ?_)
              clear hK K
              have HA2 : Hid (w_HA2.ownsRow w1.heap.size 3 1 (.slice A_HA2 (lo + 1) c_HA2) (lo + 1) (ints (([] ++ splc (L.take lo)) ++ ([(k : Int)])))) := Lib.hid (by rw [gints_app]; exact ho_)
              replace HBw := Lib.hid (s_grown HBw.out HA1.out hg_)
              clear ho_ hg_ hs_
              try simp only [Act.put, List.setIfInBounds_toArray, List.set_cons_zero, List.set_cons_succ]
              refine wpAnyH_ready (rs := [11]) (by kernel_rfl) (by simp) ?_
              refine AllReadyH.cons (o := ⟨some 66, Op.call { callee := Callee.builtin Builtin.append, args := #[Operand.tmp 62, Operand.tmp 65], argTypes := #[22, 22] }, 22, _, #[{ on := 7, ground := Ground.data }, { on := 10, ground := Ground.data }, { on := 7, ground := Ground.chain }], none⟩) rfl (fun K hK => ?_) AllReadyH.nil
              refine lstep_append (by rfl) (.tmp 62) (.tmp 65) 22 (by rfl) w1.heap.size 3 i0 _ 1 8 Try.underlying22 hi hz0 hz1 hz9 rfl (by decide) _ (lo + 1) (ints (([] ++ splc (L.take lo)) ++ [(k : Int)])) (by rfl) HA2.out A5 (k - lo) c5 _ (ints (splc (L.drop lo))) (by rfl) (HR2.out _ HBw.out) (gints_one _) (by unfold maxLen; omega) (by omega) HBw.out.size (k + 1) (by omega) ?_
              intro A_HA3 c_HA3 w_HA3 ho_ hg_ hs_
              refine hK.out _ _ (trivial) (fun _ => ?_)
              clear hK K
              have HA3 : Hid (w_HA3.ownsRow w1.heap.size 3 1 (.slice A_HA3 (k + 1) c_HA3) (k + 1) (ints ((([] ++ splc (L.take lo)) ++ [(k : Int)]) ++ (splc (L.drop lo))))) := Lib.hid (by rw [gints_app]; exact ho_)
              replace HBw := Lib.hid (s_grown HBw.out HA2.out hg_)
              clear ho_ hg_ hs_
              try simp only [Act.put, List.setIfInBounds_toArray, List.set_cons_zero, List.set_cons_succ]
              refine wpAnyH_take (i := 12) (oi := ⟨some 6, Op.assign (Operand.tmp 66), 22, _, #[{ on := 11, ground := Ground.data }, { on := 11, ground := Ground.chain }, { on := 0, ground := Ground.phase }, { on := 1, ground := Ground.phase }, { on := 2, ground := Ground.phase }, { on := 3, ground := Ground.phase }, { on := 4, ground := Ground.phase }, { on := 5, ground := Ground.phase }, { on := 6, ground := Ground.phase }, { on := 7, ground := Ground.phase }, { on := 8, ground := Ground.phase }, { on := 9, ground := Ground.phase }, { on := 10, ground := Ground.phase }, { on := 11, ground := Ground.phase }], none⟩) (v := ?_) rfl (by kernel_rfl) (by kernel_rfl) (by kernel_rfl) (fun _ _ _ h => h) (Or.inl ⟨by rfl, ?_⟩) hHeld ?_
              rotate_left
              · (intro wz hSw; go_simp; try (with_reducible rfl))
              try simp only [Act.put, List.setIfInBounds_toArray, List.set_cons_zero, List.set_cons_succ]
              refine wpAnyH_done (by kernel_rfl) ?_ _
              have HF : Hid (w_HA3.ownsRow w.heap.size 3 1 (.slice A_HA3 (k + 1) c_HA3) (k + 1) (ints (splc (slay (klt keys) (k + 1))))) := Lib.hid (by rw [Hins.out, s_three]; exact s_base HA3.out HB.out.size)
              have HG := Lib.hid (HB.out.trans (HBw.out.mono HB.out.size))
              go_wp2
              go_roundw
              case rel => exact ⟨k + 1, A_HA3, c_HA3, by omega, rfl, iv (by omega), HG2, HF, HG⟩
              case measure => simp only [intOf]; omega
            refine AllReadyH.cons (o := ⟨some 61, Op.buildSlice 22 1 #[(0, Operand.tmp 60)], 22, _, #[{ on := 5, ground := Ground.data }], none⟩) rfl (fun K hK => ?_) AllReadyH.nil
            go_simp
            refine hK.out _ _ (trivial) (fun _ => ?_)
            clear hK K
            have HX := Lib.hid (s_new _ (k : Int) HBw.out.size)
            try (have HS := Lib.hid (s_sepB HA.out))
            try (have HS := Lib.hid (s_sepB HA1.out))
            try (replace HA := Lib.hid (HA.out.alloc (.cells #[.int .i64 (k : Int)] 3)))
            try (replace HA1 := Lib.hid (HA1.out.alloc (.cells #[.int .i64 (k : Int)] 3)))
            replace HBw := Lib.hid (HBw.out.alloc HBw.out.size (.cells #[.int .i64 (k : Int)] 3))
            try rw [World.size_alloc] at HX
            try rw [World.size_alloc] at HS
            try simp only [Act.put, List.setIfInBounds_toArray, List.set_cons_zero, List.set_cons_succ]
            refine wpAnyH_ready (rs := [0]) (by kernel_rfl) (by simp) ?_
            refine AllReadyH.cons (o := ⟨some 55, Op.buildSlice 22 0 #[], 22, _, #[], none⟩) rfl (fun K hK => ?_) AllReadyH.nil
            go_simp
            refine hK.out _ _ (trivial) (fun _ => ?_)
            clear hK K
            have HA := Lib.hid (s_empty _ HBw.out.size)
            try (have HS := Lib.hid (s_sepA HX.out (.cells #[] 3)))
            try (replace HX := Lib.hid (HX.out.alloc (.cells #[] 3)))
            replace HBw := Lib.hid (HBw.out.alloc HBw.out.size (.cells #[] 3))
            try rw [World.size_alloc] at HA
            try rw [World.size_alloc] at HS
            try simp only [Act.put, List.setIfInBounds_toArray, List.set_cons_zero, List.set_cons_succ]
            refine wpAnyH_ready (rs := [4]) (by kernel_rfl) (by simp) ?_
            refine AllReadyH.cons (o := ⟨some 59, Op.call { callee := Callee.builtin Builtin.append, args := #[Operand.tmp 55, Operand.tmp 58], argTypes := #[22, 22] }, 22, _, #[{ on := 0, ground := Ground.data }, { on := 3, ground := Ground.data }], none⟩) rfl (fun K hK => ?_) AllReadyH.nil
            refine lstep_append (by rfl) (.tmp 55) (.tmp 58) 22 (by rfl) w1.heap.size 3 i0 _ 1 8 Try.underlying22 hi hz0 hz1 hz9 rfl (by decide) _ 0 (ints ([])) (by rfl) HA.out Av lo cv _ (ints (splc (L.take lo))) (by rfl) (HR1.out _ HBw.out) (gints_one _) (by unfold maxLen; omega) (by omega) HBw.out.size (lo) (Nat.zero_add lo) ?_
            intro A_HA1 c_HA1 w_HA1 ho_ hg_ hs_
            refine hK.out _ _ (trivial) (fun _ => ?_)
            clear hK K
            try (have HS2 := Lib.hid (s_sepC HX.out HS.out hs_))
            try (replace HX := Lib.hid (s_keep HX.out HS.out hg_))
            try (replace HS := HS2)
            have HA1 : Hid (w_HA1.ownsRow w1.heap.size 3 1 (.slice A_HA1 (lo) c_HA1) (lo) (ints (([]) ++ (splc (L.take lo))))) := Lib.hid (by rw [gints_app]; exact ho_)
            replace HBw := Lib.hid (s_grown HBw.out HA.out hg_)
            clear ho_ hg_ hs_
            try simp only [Act.put, List.setIfInBounds_toArray, List.set_cons_zero, List.set_cons_succ]
            refine wpAnyH_ready (rs := [7]) (by kernel_rfl) (by simp) ?_
            refine AllReadyH.cons (o := ⟨some 62, Op.call { callee := Callee.builtin Builtin.append, args := #[Operand.tmp 59, Operand.tmp 61], argTypes := #[22, 22] }, 22, _, #[{ on := 4, ground := Ground.data }, { on := 6, ground := Ground.data }, { on := 4, ground := Ground.chain }], none⟩) rfl (fun K hK => ?_) AllReadyH.nil
            refine lstep_append (by rfl) (.tmp 59) (.tmp 61) 22 (by rfl) w1.heap.size 3 i0 _ 1 8 Try.underlying22 hi hz0 hz1 hz9 rfl (by decide) _ lo (ints ([] ++ splc (L.take lo))) (by rfl) HA1.out _ 1 1 _ (ints ([(k : Int)])) (by rfl) (s_reads HX.out) (gints_one _) (by unfold maxLen; omega) (by omega) HBw.out.size (lo + 1) rfl ?_
            intro A_HA2 c_HA2 w_HA2 ho_ hg_ hs_
            refine hK.out _ _ (trivial) (fun _ => ?_)
            clear hK K
            have HA2 : Hid (w_HA2.ownsRow w1.heap.size 3 1 (.slice A_HA2 (lo + 1) c_HA2) (lo + 1) (ints (([] ++ splc (L.take lo)) ++ ([(k : Int)])))) := Lib.hid (by rw [gints_app]; exact ho_)
            replace HBw := Lib.hid (s_grown HBw.out HA1.out hg_)
            clear ho_ hg_ hs_
            try simp only [Act.put, List.setIfInBounds_toArray, List.set_cons_zero, List.set_cons_succ]
            refine wpAnyH_ready (rs := [11]) (by kernel_rfl) (by simp) ?_
            refine AllReadyH.cons (o := ⟨some 66, Op.call { callee := Callee.builtin Builtin.append, args := #[Operand.tmp 62, Operand.tmp 65], argTypes := #[22, 22] }, 22, _, #[{ on := 7, ground := Ground.data }, { on := 10, ground := Ground.data }, { on := 7, ground := Ground.chain }], none⟩) rfl (fun K hK => ?_) AllReadyH.nil
            refine lstep_append (by rfl) (.tmp 62) (.tmp 65) 22 (by rfl) w1.heap.size 3 i0 _ 1 8 Try.underlying22 hi hz0 hz1 hz9 rfl (by decide) _ (lo + 1) (ints (([] ++ splc (L.take lo)) ++ [(k : Int)])) (by rfl) HA2.out A5 (k - lo) c5 _ (ints (splc (L.drop lo))) (by rfl) (HR2.out _ HBw.out) (gints_one _) (by unfold maxLen; omega) (by omega) HBw.out.size (k + 1) (by omega) ?_
            intro A_HA3 c_HA3 w_HA3 ho_ hg_ hs_
            refine hK.out _ _ (trivial) (fun _ => ?_)
            clear hK K
            have HA3 : Hid (w_HA3.ownsRow w1.heap.size 3 1 (.slice A_HA3 (k + 1) c_HA3) (k + 1) (ints ((([] ++ splc (L.take lo)) ++ [(k : Int)]) ++ (splc (L.drop lo))))) := Lib.hid (by rw [gints_app]; exact ho_)
            replace HBw := Lib.hid (s_grown HBw.out HA2.out hg_)
            clear ho_ hg_ hs_
            try simp only [Act.put, List.setIfInBounds_toArray, List.set_cons_zero, List.set_cons_succ]
            refine wpAnyH_take (i := 12) (oi := ⟨some 6, Op.assign (Operand.tmp 66), 22, _, #[{ on := 11, ground := Ground.data }, { on := 11, ground := Ground.chain }, { on := 0, ground := Ground.phase }, { on := 1, ground := Ground.phase }, { on := 2, ground := Ground.phase }, { on := 3, ground := Ground.phase }, { on := 4, ground := Ground.phase }, { on := 5, ground := Ground.phase }, { on := 6, ground := Ground.phase }, { on := 7, ground := Ground.phase }, { on := 8, ground := Ground.phase }, { on := 9, ground := Ground.phase }, { on := 10, ground := Ground.phase }, { on := 11, ground := Ground.phase }], none⟩) (v := ?_) rfl (by kernel_rfl) (by kernel_rfl) (by kernel_rfl) (fun _ _ _ h => h) (Or.inl ⟨by rfl, ?_⟩) hHeld ?_
            rotate_left
            · (intro wz hSw; go_simp; try (with_reducible rfl))
            try simp only [Act.put, List.setIfInBounds_toArray, List.set_cons_zero, List.set_cons_succ]
            refine wpAnyH_done (by kernel_rfl) ?_ _
            have HF : Hid (w_HA3.ownsRow w.heap.size 3 1 (.slice A_HA3 (k + 1) c_HA3) (k + 1) (ints (splc (slay (klt keys) (k + 1))))) := Lib.hid (by rw [Hins.out, s_three]; exact s_base HA3.out HB.out.size)
            have HG := Lib.hid (HB.out.trans (HBw.out.mono HB.out.size))
            go_wp2
            go_roundw
            case rel => exact ⟨k + 1, A_HA3, c_HA3, by omega, rfl, iv (by omega), HG2, HF, HG⟩
            case measure => simp only [intOf]; omega
            -- END INS
          · obtain ⟨p, hp⟩ : ∃ p, p + 1 = lo := ⟨lo - 1, by omega⟩
            have hpl : p < L.length := by rw [Hlen.out]; omega
            have hq := (Hmem.out L[p]).1 (List.getElem_mem hpl)
            obtain ⟨b, off, rfl, hbl, hc⟩ := Hrd.out.2 (by omega)
            have x2 := (HW.out.cell (p := ⟨b, off + p, none⟩) hbl).trans (hc p _ (ints_get _ p (by rw [splc_len]; exact hpl)))
            rw [splc_get] at x2
            obtain ⟨q, hqe⟩ : ∃ q, L[p] = q := ⟨_, rfl⟩
            rw [hqe] at x2 hq
            have hql : q < keys.length := by rw [En.out]; omega
            have x3 := HcA.out wr Hwb.out q hql
            have x4 := HcA.out wr Hwb.out k (by rw [En.out]; exact hlt)
            rw [← kgetD k (by rw [En.out]; exact hlt), Hyk.out] at x4
            obtain ⟨z, hz⟩ : ∃ z, keys[q] = z := ⟨_, rfl⟩
            have hzg : keys.getD q 0 = z := by rw [kgetD q hql, hz]
            rw [hz] at x3
            have b1 : decide ((0 : Int) < (lo : Int)) = true := by rw [decide_eq_true_eq]; omega
            have b1n : decide (0 < lo) = true := by rw [decide_eq_true_eq]; omega
            have hsub : (lo : Int) - 1 = (p : Int) := by omega
            have hw1 : IntKind.i64.wrap ((lo : Int) - 1) = (p : Int) := by rw [IntKind.wrap_i64]; omega
            have hw2 : IntKind.i64.wrap (p : Int) = (p : Int) := by rw [IntKind.wrap_i64]; omega
            have hpi : (0 : Int) ≤ (p : Int) ∧ (p : Int) < (k : Int) ∧ (q : Int) < (n : Int) ∧ (0 : Int) ≤ (q : Int) := by omega
            by_cases hyz : y < z
            · have b2 : decide (y < z) = true := by rw [decide_eq_true_eq]; exact hyz
              have H1' : Hid (∀ j (h : j < L.length), p ≤ j → keys.getD k 0 < keys.getD L[j] 0) := Lib.hid fun j h hj => by
                by_cases e : j = p
                · subst e
                  rw [hqe, hzg, Hyk.out]
                  exact hyz
                · exact H1.out j h (by omega)
              clear hc hqe hz hzg hql hpl
              go_wp2
              go_quiet (fail)
              go_wp2
              go_roundw
              case rel => exact ⟨p, by omega, rfl, H1', Lib.hid (below_drewN HW.out _)⟩
              case measure => simp only [intOf]; omega
            · have b2 : decide (y < z) = false := by rw [decide_eq_false_iff_not]; exact hyz
              have hcut := kcut (by rw [Hlen.out]; omega) (by rw [En.out]; exact hlt) Hsort.out (fun q hq => (Hmem.out q).1 hq) H1.out (Or.inr ⟨by omega, by
                have e : lo - 1 = p := by omega
                simp only [e]
                rw [hqe, hzg, Hyk.out]
                omega⟩)
              clear hc hqe hz hzg hql hpl
              -- INS2
              have hins : slay (klt keys) (k + 1) = L.take lo ++ k :: L.drop lo := by
                show sins (klt keys) k (slay (klt keys) k) = _
                rw [HL.out]
                unfold sins
                rw [hcut]
              have Hins := Lib.hid hins
              clear hins hcut
              have htop := fun W => run_slice_top (P := Try.prog) Try.underlying22 hi hz1 (some (⟨b, off, none⟩ : Addr)) k cv lo (by omega) W
              have hfrom := fun W => run_slice_from (P := Try.prog) Try.underlying22 hi hz1 (some (⟨b, off, none⟩ : Addr)) k cv lo (by omega) W
              have hcutr := Hrd.out.cut (k := lo) (cap := cv) (by omega) hkc
              rw [Nat.mul_one, gints_drop, splc_drop] at hcutr
              rw [Nat.mul_one] at hfrom
              obtain ⟨A5, hA5⟩ : ∃ A5, (if cv = lo then (some (⟨b, off, none⟩ : Addr)) else (some (⟨b, off, none⟩ : Addr)).map (·.add lo)) = A5 := ⟨_, rfl⟩
              rw [hA5] at hcutr hfrom
              obtain ⟨c5, hc5⟩ : ∃ c5, cv - lo = c5 := ⟨_, rfl⟩
              rw [hc5] at hfrom
              have hfr := Hrd.out.headOf (m := lo) (by omega)
              rw [gints_take, splc_take] at hfr
              have HR1 := Lib.hid fun (W : World) (h : Below w1.heap.size w1 W) => hfr.below h
              have HR2 := Lib.hid fun (W : World) (h : Below w1.heap.size w1 W) => hcutr.below h
              clear hA5 hc5 hfr hcutr
              go_wp2
              go_quiet (fail)
              go_wp2
              have HBw := Lib.hid ((below_drewN HW.out nq).drew)
              refine wp_region_held_drew (S := (fun _ => True)) (by kernel_rfl) (trivial) (fun hHeld => ?_)
              refine wpAnyH_take (i := 1) (oi := ⟨some 56, Op.move (Operand.tmp 6), 22, _, #[], none⟩) (v := ?_) rfl (by kernel_rfl) (by kernel_rfl) (by kernel_rfl) (fun _ _ _ h => h) (Or.inl ⟨by rfl, ?_⟩) hHeld ?_
              rotate_left
              · (intro wz hSw; go_simp; try (with_reducible rfl))
              try simp only [Act.put, List.setIfInBounds_toArray, List.set_cons_zero, List.set_cons_succ]
              refine wpAnyH_take (i := 2) (oi := ⟨some 57, Op.move (Operand.tmp 8), 3, _, #[], none⟩) (v := ?_) rfl (by kernel_rfl) (by kernel_rfl) (by kernel_rfl) (fun _ _ _ h => h) (Or.inl ⟨by rfl, ?_⟩) hHeld ?_
              rotate_left
              · (intro wz hSw; go_simp; try (with_reducible rfl))
              try simp only [Act.put, List.setIfInBounds_toArray, List.set_cons_zero, List.set_cons_succ]
              refine wpAnyH_take (i := 3) (oi := ⟨some 58, Op.slice 22 (Operand.tmp 56) none (some (Operand.tmp 57)) none, 22, _, #[{ on := 1, ground := Ground.data }, { on := 2, ground := Ground.data }], none⟩) (v := ?_) rfl (by kernel_rfl) (by kernel_rfl) (by kernel_rfl) (fun _ _ _ h => h) (Or.inl ⟨by rfl, ?_⟩) hHeld ?_
              rotate_left
              · (intro wz hSw; go_simp; try (with_reducible rfl))
              try simp only [Act.put, List.setIfInBounds_toArray, List.set_cons_zero, List.set_cons_succ]
              refine wpAnyH_take (i := 5) (oi := ⟨some 60, Op.move (Operand.tmp 7), 3, _, #[], none⟩) (v := ?_) rfl (by kernel_rfl) (by kernel_rfl) (by kernel_rfl) (fun _ _ _ h => h) (Or.inl ⟨by rfl, ?_⟩) hHeld ?_
              rotate_left
              · (intro wz hSw; go_simp; try (with_reducible rfl))
              try simp only [Act.put, List.setIfInBounds_toArray, List.set_cons_zero, List.set_cons_succ]
              refine wpAnyH_take (i := 8) (oi := ⟨some 63, Op.move (Operand.tmp 6), 22, _, #[], none⟩) (v := ?_) rfl (by kernel_rfl) (by kernel_rfl) (by kernel_rfl) (fun _ _ _ h => h) (Or.inl ⟨by rfl, ?_⟩) hHeld ?_
              rotate_left
              · (intro wz hSw; go_simp; try (with_reducible rfl))
              try simp only [Act.put, List.setIfInBounds_toArray, List.set_cons_zero, List.set_cons_succ]
              refine wpAnyH_take (i := 9) (oi := ⟨some 64, Op.move (Operand.tmp 8), 3, _, #[], none⟩) (v := ?_) rfl (by kernel_rfl) (by kernel_rfl) (by kernel_rfl) (fun _ _ _ h => h) (Or.inl ⟨by rfl, ?_⟩) hHeld ?_
              rotate_left
              · (intro wz hSw; go_simp; try (with_reducible rfl))
              try simp only [Act.put, List.setIfInBounds_toArray, List.set_cons_zero, List.set_cons_succ]
              refine wpAnyH_take (i := 10) (oi := ⟨some 65, Op.slice 22 (Operand.tmp 63) (some (Operand.tmp 64)) none none, 22, _, #[{ on := 8, ground := Ground.data }, { on := 9, ground := Ground.data }], none⟩) (v := ?_) rfl (by kernel_rfl) (by kernel_rfl) (by kernel_rfl) (fun _ _ _ h => h) (Or.inl ⟨by rfl, ?_⟩) hHeld ?_
              rotate_left
              · (intro wz hSw; go_simp; try (with_reducible rfl))
              try simp only [Act.put, List.setIfInBounds_toArray, List.set_cons_zero, List.set_cons_succ]
              refine wpAnyH_ready (rs := [0, 6]) (by kernel_rfl) (by simp) ?_
              refine AllReadyH.cons (o := ⟨some 55, Op.buildSlice 22 0 #[], 22, _, #[], none⟩) rfl (fun K hK => ?_) ?_
              · skip
                go_simp
                refine hK.out _ _ (trivial) (fun _ => ?_)
                clear hK K
                have HA := Lib.hid (s_empty _ HBw.out.size)
                try (have HS := Lib.hid (s_sepA HX.out (.cells #[] 3)))
                try (replace HX := Lib.hid (HX.out.alloc (.cells #[] 3)))
                replace HBw := Lib.hid (HBw.out.alloc HBw.out.size (.cells #[] 3))
                try rw [World.size_alloc] at HA
                try rw [World.size_alloc] at HS
                try simp only [Act.put, List.setIfInBounds_toArray, List.set_cons_zero, List.set_cons_succ]
                refine wpAnyH_ready (rs := [4, 6]) (by kernel_rfl) (by simp) ?_
                refine AllReadyH.cons (o := ⟨some 59, Op.call { callee := Callee.builtin Builtin.append, args := #[Operand.tmp 55, Operand.tmp 58], argTypes := #[22, 22] }, 22, _, #[{ on := 0, ground := Ground.data }, { on := 3, ground := Ground.data }], none⟩) rfl (fun K hK => ?_) ?_
                · skip
                  refine lstep_append (by rfl) (.tmp 55) (.tmp 58) 22 (by rfl) w1.heap.size 3 i0 _ 1 8 Try.underlying22 hi hz0 hz1 hz9 rfl (by decide) _ 0 (ints ([])) (by rfl) HA.out (some (⟨b, off, none⟩ : Addr)) lo cv _ (ints (splc (L.take lo))) (by rfl) (HR1.out _ HBw.out) (gints_one _) (by unfold maxLen; omega) (by omega) HBw.out.size (lo) (Nat.zero_add lo) ?_
                  intro A_HA1 c_HA1 w_HA1 ho_ hg_ hs_
                  refine hK.out _ _ (trivial) (fun _ => ?_)
                  clear hK K
                  try (have HS2 := Lib.hid (s_sepC HX.out HS.out hs_))
                  try (replace HX := Lib.hid (s_keep HX.out HS.out hg_))
                  try (replace HS := HS2)
                  have HA1 : Hid (w_HA1.ownsRow w1.heap.size 3 1 (.slice A_HA1 (lo) c_HA1) (lo) (ints (([]) ++ (splc (L.take lo))))) := Lib.hid (by rw [gints_app]; exact ho_)
                  replace HBw := Lib.hid (s_grown HBw.out HA.out hg_)
                  clear ho_ hg_ hs_
                  try simp only [Act.put, List.setIfInBounds_toArray, List.set_cons_zero, List.set_cons_succ]
                  refine wpAnyH_ready (rs := [6]) (by kernel_rfl) (by simp) ?_
                  refine AllReadyH.cons (o := ⟨some 61, Op.buildSlice 22 1 #[(0, Operand.tmp 60)], 22, _, #[{ on := 5, ground := Ground.data }], none⟩) rfl (fun K hK => ?_) AllReadyH.nil
                  go_simp
                  refine hK.out _ _ (trivial) (fun _ => ?_)
                  clear hK K
                  have HX := Lib.hid (s_new _ (k : Int) HBw.out.size)
                  try (have HS := Lib.hid (s_sepB HA.out))
                  try (have HS := Lib.hid (s_sepB HA1.out))
                  try (replace HA := Lib.hid (HA.out.alloc (.cells #[.int .i64 (k : Int)] 3)))
                  try (replace HA1 := Lib.hid (HA1.out.alloc (.cells #[.int .i64 (k : Int)] 3)))
                  replace HBw := Lib.hid (HBw.out.alloc HBw.out.size (.cells #[.int .i64 (k : Int)] 3))
                  try rw [World.size_alloc] at HX
                  try rw [World.size_alloc] at HS
                  try simp only [Act.put, List.setIfInBounds_toArray, List.set_cons_zero, List.set_cons_succ]
                  refine wpAnyH_ready (rs := [7]) (by kernel_rfl) (by simp) ?_
                  refine AllReadyH.cons (o := ⟨some 62, Op.call { callee := Callee.builtin Builtin.append, args := #[Operand.tmp 59, Operand.tmp 61], argTypes := #[22, 22] }, 22, _, #[{ on := 4, ground := Ground.data }, { on := 6, ground := Ground.data }, { on := 4, ground := Ground.chain }], none⟩) rfl (fun K hK => ?_) AllReadyH.nil
                  refine lstep_append (by rfl) (.tmp 59) (.tmp 61) 22 (by rfl) w1.heap.size 3 i0 _ 1 8 Try.underlying22 hi hz0 hz1 hz9 rfl (by decide) _ lo (ints ([] ++ splc (L.take lo))) (by rfl) HA1.out _ 1 1 _ (ints ([(k : Int)])) (by rfl) (s_reads HX.out) (gints_one _) (by unfold maxLen; omega) (by omega) HBw.out.size (lo + 1) rfl ?_
                  intro A_HA2 c_HA2 w_HA2 ho_ hg_ hs_
                  refine hK.out _ _ (trivial) (fun _ => ?_)
                  clear hK K
                  have HA2 : Hid (w_HA2.ownsRow w1.heap.size 3 1 (.slice A_HA2 (lo + 1) c_HA2) (lo + 1) (ints (([] ++ splc (L.take lo)) ++ ([(k : Int)])))) := Lib.hid (by rw [gints_app]; exact ho_)
                  replace HBw := Lib.hid (s_grown HBw.out HA1.out hg_)
                  clear ho_ hg_ hs_
                  try simp only [Act.put, List.setIfInBounds_toArray, List.set_cons_zero, List.set_cons_succ]
                  refine wpAnyH_ready (rs := [11]) (by kernel_rfl) (by simp) ?_
                  refine AllReadyH.cons (o := ⟨some 66, Op.call { callee := Callee.builtin Builtin.append, args := #[Operand.tmp 62, Operand.tmp 65], argTypes := #[22, 22] }, 22, _, #[{ on := 7, ground := Ground.data }, { on := 10, ground := Ground.data }, { on := 7, ground := Ground.chain }], none⟩) rfl (fun K hK => ?_) AllReadyH.nil
                  refine lstep_append (by rfl) (.tmp 62) (.tmp 65) 22 (by rfl) w1.heap.size 3 i0 _ 1 8 Try.underlying22 hi hz0 hz1 hz9 rfl (by decide) _ (lo + 1) (ints (([] ++ splc (L.take lo)) ++ [(k : Int)])) (by rfl) HA2.out A5 (k - lo) c5 _ (ints (splc (L.drop lo))) (by rfl) (HR2.out _ HBw.out) (gints_one _) (by unfold maxLen; omega) (by omega) HBw.out.size (k + 1) (by omega) ?_
                  intro A_HA3 c_HA3 w_HA3 ho_ hg_ hs_
                  refine hK.out _ _ (trivial) (fun _ => ?_)
                  clear hK K
                  have HA3 : Hid (w_HA3.ownsRow w1.heap.size 3 1 (.slice A_HA3 (k + 1) c_HA3) (k + 1) (ints ((([] ++ splc (L.take lo)) ++ [(k : Int)]) ++ (splc (L.drop lo))))) := Lib.hid (by rw [gints_app]; exact ho_)
                  replace HBw := Lib.hid (s_grown HBw.out HA2.out hg_)
                  clear ho_ hg_ hs_
                  try simp only [Act.put, List.setIfInBounds_toArray, List.set_cons_zero, List.set_cons_succ]
                  refine wpAnyH_take (i := 12) (oi := ⟨some 6, Op.assign (Operand.tmp 66), 22, _, #[{ on := 11, ground := Ground.data }, { on := 11, ground := Ground.chain }, { on := 0, ground := Ground.phase }, { on := 1, ground := Ground.phase }, { on := 2, ground := Ground.phase }, { on := 3, ground := Ground.phase }, { on := 4, ground := Ground.phase }, { on := 5, ground := Ground.phase }, { on := 6, ground := Ground.phase }, { on := 7, ground := Ground.phase }, { on := 8, ground := Ground.phase }, { on := 9, ground := Ground.phase }, { on := 10, ground := Ground.phase }, { on := 11, ground := Ground.phase }], none⟩) (v := ?_) rfl (by kernel_rfl) (by kernel_rfl) (by kernel_rfl) (fun _ _ _ h => h) (Or.inl ⟨by rfl, ?_⟩) hHeld ?_
                  rotate_left
                  · (intro wz hSw; go_simp; try (with_reducible rfl))
                  try simp only [Act.put, List.setIfInBounds_toArray, List.set_cons_zero, List.set_cons_succ]
                  refine wpAnyH_done (by kernel_rfl) ?_ _
                  have HF : Hid (w_HA3.ownsRow w.heap.size 3 1 (.slice A_HA3 (k + 1) c_HA3) (k + 1) (ints (splc (slay (klt keys) (k + 1))))) := Lib.hid (by rw [Hins.out, s_three]; exact s_base HA3.out HB.out.size)
                  have HG := Lib.hid (HB.out.trans (HBw.out.mono HB.out.size))
                  go_wp2
                  go_roundw
                  case rel => exact ⟨k + 1, A_HA3, c_HA3, by omega, rfl, iv (by omega), HG2, HF, HG⟩
                  case measure => simp only [intOf]; omega
                refine AllReadyH.cons (o := ⟨some 61, Op.buildSlice 22 1 #[(0, Operand.tmp 60)], 22, _, #[{ on := 5, ground := Ground.data }], none⟩) rfl (fun K hK => ?_) AllReadyH.nil
                go_simp
                refine hK.out _ _ (trivial) (fun _ => ?_)
                clear hK K
                have HX := Lib.hid (s_new _ (k : Int) HBw.out.size)
                try (have HS := Lib.hid (s_sepB HA.out))
                try (have HS := Lib.hid (s_sepB HA1.out))
                try (replace HA := Lib.hid (HA.out.alloc (.cells #[.int .i64 (k : Int)] 3)))
                try (replace HA1 := Lib.hid (HA1.out.alloc (.cells #[.int .i64 (k : Int)] 3)))
                replace HBw := Lib.hid (HBw.out.alloc HBw.out.size (.cells #[.int .i64 (k : Int)] 3))
                try rw [World.size_alloc] at HX
                try rw [World.size_alloc] at HS
                try simp only [Act.put, List.setIfInBounds_toArray, List.set_cons_zero, List.set_cons_succ]
                refine wpAnyH_ready (rs := [4]) (by kernel_rfl) (by simp) ?_
                refine AllReadyH.cons (o := ⟨some 59, Op.call { callee := Callee.builtin Builtin.append, args := #[Operand.tmp 55, Operand.tmp 58], argTypes := #[22, 22] }, 22, _, #[{ on := 0, ground := Ground.data }, { on := 3, ground := Ground.data }], none⟩) rfl (fun K hK => ?_) AllReadyH.nil
                refine lstep_append (by rfl) (.tmp 55) (.tmp 58) 22 (by rfl) w1.heap.size 3 i0 _ 1 8 Try.underlying22 hi hz0 hz1 hz9 rfl (by decide) _ 0 (ints ([])) (by rfl) HA.out (some (⟨b, off, none⟩ : Addr)) lo cv _ (ints (splc (L.take lo))) (by rfl) (HR1.out _ HBw.out) (gints_one _) (by unfold maxLen; omega) (by omega) HBw.out.size (lo) (Nat.zero_add lo) ?_
                intro A_HA1 c_HA1 w_HA1 ho_ hg_ hs_
                refine hK.out _ _ (trivial) (fun _ => ?_)
                clear hK K
                try (have HS2 := Lib.hid (s_sepC HX.out HS.out hs_))
                try (replace HX := Lib.hid (s_keep HX.out HS.out hg_))
                try (replace HS := HS2)
                have HA1 : Hid (w_HA1.ownsRow w1.heap.size 3 1 (.slice A_HA1 (lo) c_HA1) (lo) (ints (([]) ++ (splc (L.take lo))))) := Lib.hid (by rw [gints_app]; exact ho_)
                replace HBw := Lib.hid (s_grown HBw.out HA.out hg_)
                clear ho_ hg_ hs_
                try simp only [Act.put, List.setIfInBounds_toArray, List.set_cons_zero, List.set_cons_succ]
                refine wpAnyH_ready (rs := [7]) (by kernel_rfl) (by simp) ?_
                refine AllReadyH.cons (o := ⟨some 62, Op.call { callee := Callee.builtin Builtin.append, args := #[Operand.tmp 59, Operand.tmp 61], argTypes := #[22, 22] }, 22, _, #[{ on := 4, ground := Ground.data }, { on := 6, ground := Ground.data }, { on := 4, ground := Ground.chain }], none⟩) rfl (fun K hK => ?_) AllReadyH.nil
                refine lstep_append (by rfl) (.tmp 59) (.tmp 61) 22 (by rfl) w1.heap.size 3 i0 _ 1 8 Try.underlying22 hi hz0 hz1 hz9 rfl (by decide) _ lo (ints ([] ++ splc (L.take lo))) (by rfl) HA1.out _ 1 1 _ (ints ([(k : Int)])) (by rfl) (s_reads HX.out) (gints_one _) (by unfold maxLen; omega) (by omega) HBw.out.size (lo + 1) rfl ?_
                intro A_HA2 c_HA2 w_HA2 ho_ hg_ hs_
                refine hK.out _ _ (trivial) (fun _ => ?_)
                clear hK K
                have HA2 : Hid (w_HA2.ownsRow w1.heap.size 3 1 (.slice A_HA2 (lo + 1) c_HA2) (lo + 1) (ints (([] ++ splc (L.take lo)) ++ ([(k : Int)])))) := Lib.hid (by rw [gints_app]; exact ho_)
                replace HBw := Lib.hid (s_grown HBw.out HA1.out hg_)
                clear ho_ hg_ hs_
                try simp only [Act.put, List.setIfInBounds_toArray, List.set_cons_zero, List.set_cons_succ]
                refine wpAnyH_ready (rs := [11]) (by kernel_rfl) (by simp) ?_
                refine AllReadyH.cons (o := ⟨some 66, Op.call { callee := Callee.builtin Builtin.append, args := #[Operand.tmp 62, Operand.tmp 65], argTypes := #[22, 22] }, 22, _, #[{ on := 7, ground := Ground.data }, { on := 10, ground := Ground.data }, { on := 7, ground := Ground.chain }], none⟩) rfl (fun K hK => ?_) AllReadyH.nil
                refine lstep_append (by rfl) (.tmp 62) (.tmp 65) 22 (by rfl) w1.heap.size 3 i0 _ 1 8 Try.underlying22 hi hz0 hz1 hz9 rfl (by decide) _ (lo + 1) (ints (([] ++ splc (L.take lo)) ++ [(k : Int)])) (by rfl) HA2.out A5 (k - lo) c5 _ (ints (splc (L.drop lo))) (by rfl) (HR2.out _ HBw.out) (gints_one _) (by unfold maxLen; omega) (by omega) HBw.out.size (k + 1) (by omega) ?_
                intro A_HA3 c_HA3 w_HA3 ho_ hg_ hs_
                refine hK.out _ _ (trivial) (fun _ => ?_)
                clear hK K
                have HA3 : Hid (w_HA3.ownsRow w1.heap.size 3 1 (.slice A_HA3 (k + 1) c_HA3) (k + 1) (ints ((([] ++ splc (L.take lo)) ++ [(k : Int)]) ++ (splc (L.drop lo))))) := Lib.hid (by rw [gints_app]; exact ho_)
                replace HBw := Lib.hid (s_grown HBw.out HA2.out hg_)
                clear ho_ hg_ hs_
                try simp only [Act.put, List.setIfInBounds_toArray, List.set_cons_zero, List.set_cons_succ]
                refine wpAnyH_take (i := 12) (oi := ⟨some 6, Op.assign (Operand.tmp 66), 22, _, #[{ on := 11, ground := Ground.data }, { on := 11, ground := Ground.chain }, { on := 0, ground := Ground.phase }, { on := 1, ground := Ground.phase }, { on := 2, ground := Ground.phase }, { on := 3, ground := Ground.phase }, { on := 4, ground := Ground.phase }, { on := 5, ground := Ground.phase }, { on := 6, ground := Ground.phase }, { on := 7, ground := Ground.phase }, { on := 8, ground := Ground.phase }, { on := 9, ground := Ground.phase }, { on := 10, ground := Ground.phase }, { on := 11, ground := Ground.phase }], none⟩) (v := ?_) rfl (by kernel_rfl) (by kernel_rfl) (by kernel_rfl) (fun _ _ _ h => h) (Or.inl ⟨by rfl, ?_⟩) hHeld ?_
                rotate_left
                · (intro wz hSw; go_simp; try (with_reducible rfl))
                try simp only [Act.put, List.setIfInBounds_toArray, List.set_cons_zero, List.set_cons_succ]
                refine wpAnyH_done (by kernel_rfl) ?_ _
                have HF : Hid (w_HA3.ownsRow w.heap.size 3 1 (.slice A_HA3 (k + 1) c_HA3) (k + 1) (ints (splc (slay (klt keys) (k + 1))))) := Lib.hid (by rw [Hins.out, s_three]; exact s_base HA3.out HB.out.size)
                have HG := Lib.hid (HB.out.trans (HBw.out.mono HB.out.size))
                go_wp2
                go_roundw
                case rel => exact ⟨k + 1, A_HA3, c_HA3, by omega, rfl, iv (by omega), HG2, HF, HG⟩
                case measure => simp only [intOf]; omega
              refine AllReadyH.cons (o := ⟨some 61, Op.buildSlice 22 1 #[(0, Operand.tmp 60)], 22, _, #[{ on := 5, ground := Ground.data }], none⟩) rfl (fun K hK => ?_) AllReadyH.nil
              go_simp
              refine hK.out _ _ (trivial) (fun _ => ?_)
              clear hK K
              have HX := Lib.hid (s_new _ (k : Int) HBw.out.size)
              try (have HS := Lib.hid (s_sepB HA.out))
              try (have HS := Lib.hid (s_sepB HA1.out))
              try (replace HA := Lib.hid (HA.out.alloc (.cells #[.int .i64 (k : Int)] 3)))
              try (replace HA1 := Lib.hid (HA1.out.alloc (.cells #[.int .i64 (k : Int)] 3)))
              replace HBw := Lib.hid (HBw.out.alloc HBw.out.size (.cells #[.int .i64 (k : Int)] 3))
              try rw [World.size_alloc] at HX
              try rw [World.size_alloc] at HS
              try simp only [Act.put, List.setIfInBounds_toArray, List.set_cons_zero, List.set_cons_succ]
              refine wpAnyH_ready (rs := [0]) (by kernel_rfl) (by simp) ?_
              refine AllReadyH.cons (o := ⟨some 55, Op.buildSlice 22 0 #[], 22, _, #[], none⟩) rfl (fun K hK => ?_) AllReadyH.nil
              go_simp
              refine hK.out _ _ (trivial) (fun _ => ?_)
              clear hK K
              have HA := Lib.hid (s_empty _ HBw.out.size)
              try (have HS := Lib.hid (s_sepA HX.out (.cells #[] 3)))
              try (replace HX := Lib.hid (HX.out.alloc (.cells #[] 3)))
              replace HBw := Lib.hid (HBw.out.alloc HBw.out.size (.cells #[] 3))
              try rw [World.size_alloc] at HA
              try rw [World.size_alloc] at HS
              try simp only [Act.put, List.setIfInBounds_toArray, List.set_cons_zero, List.set_cons_succ]
              refine wpAnyH_ready (rs := [4]) (by kernel_rfl) (by simp) ?_
              refine AllReadyH.cons (o := ⟨some 59, Op.call { callee := Callee.builtin Builtin.append, args := #[Operand.tmp 55, Operand.tmp 58], argTypes := #[22, 22] }, 22, _, #[{ on := 0, ground := Ground.data }, { on := 3, ground := Ground.data }], none⟩) rfl (fun K hK => ?_) AllReadyH.nil
              refine lstep_append (by rfl) (.tmp 55) (.tmp 58) 22 (by rfl) w1.heap.size 3 i0 _ 1 8 Try.underlying22 hi hz0 hz1 hz9 rfl (by decide) _ 0 (ints ([])) (by rfl) HA.out (some (⟨b, off, none⟩ : Addr)) lo cv _ (ints (splc (L.take lo))) (by rfl) (HR1.out _ HBw.out) (gints_one _) (by unfold maxLen; omega) (by omega) HBw.out.size (lo) (Nat.zero_add lo) ?_
              intro A_HA1 c_HA1 w_HA1 ho_ hg_ hs_
              refine hK.out _ _ (trivial) (fun _ => ?_)
              clear hK K
              try (have HS2 := Lib.hid (s_sepC HX.out HS.out hs_))
              try (replace HX := Lib.hid (s_keep HX.out HS.out hg_))
              try (replace HS := HS2)
              have HA1 : Hid (w_HA1.ownsRow w1.heap.size 3 1 (.slice A_HA1 (lo) c_HA1) (lo) (ints (([]) ++ (splc (L.take lo))))) := Lib.hid (by rw [gints_app]; exact ho_)
              replace HBw := Lib.hid (s_grown HBw.out HA.out hg_)
              clear ho_ hg_ hs_
              try simp only [Act.put, List.setIfInBounds_toArray, List.set_cons_zero, List.set_cons_succ]
              refine wpAnyH_ready (rs := [7]) (by kernel_rfl) (by simp) ?_
              refine AllReadyH.cons (o := ⟨some 62, Op.call { callee := Callee.builtin Builtin.append, args := #[Operand.tmp 59, Operand.tmp 61], argTypes := #[22, 22] }, 22, _, #[{ on := 4, ground := Ground.data }, { on := 6, ground := Ground.data }, { on := 4, ground := Ground.chain }], none⟩) rfl (fun K hK => ?_) AllReadyH.nil
              refine lstep_append (by rfl) (.tmp 59) (.tmp 61) 22 (by rfl) w1.heap.size 3 i0 _ 1 8 Try.underlying22 hi hz0 hz1 hz9 rfl (by decide) _ lo (ints ([] ++ splc (L.take lo))) (by rfl) HA1.out _ 1 1 _ (ints ([(k : Int)])) (by rfl) (s_reads HX.out) (gints_one _) (by unfold maxLen; omega) (by omega) HBw.out.size (lo + 1) rfl ?_
              intro A_HA2 c_HA2 w_HA2 ho_ hg_ hs_
              refine hK.out _ _ (trivial) (fun _ => ?_)
              clear hK K
              have HA2 : Hid (w_HA2.ownsRow w1.heap.size 3 1 (.slice A_HA2 (lo + 1) c_HA2) (lo + 1) (ints (([] ++ splc (L.take lo)) ++ ([(k : Int)])))) := Lib.hid (by rw [gints_app]; exact ho_)
              replace HBw := Lib.hid (s_grown HBw.out HA1.out hg_)
              clear ho_ hg_ hs_
              try simp only [Act.put, List.setIfInBounds_toArray, List.set_cons_zero, List.set_cons_succ]
              refine wpAnyH_ready (rs := [11]) (by kernel_rfl) (by simp) ?_
              refine AllReadyH.cons (o := ⟨some 66, Op.call { callee := Callee.builtin Builtin.append, args := #[Operand.tmp 62, Operand.tmp 65], argTypes := #[22, 22] }, 22, _, #[{ on := 7, ground := Ground.data }, { on := 10, ground := Ground.data }, { on := 7, ground := Ground.chain }], none⟩) rfl (fun K hK => ?_) AllReadyH.nil
              refine lstep_append (by rfl) (.tmp 62) (.tmp 65) 22 (by rfl) w1.heap.size 3 i0 _ 1 8 Try.underlying22 hi hz0 hz1 hz9 rfl (by decide) _ (lo + 1) (ints (([] ++ splc (L.take lo)) ++ [(k : Int)])) (by rfl) HA2.out A5 (k - lo) c5 _ (ints (splc (L.drop lo))) (by rfl) (HR2.out _ HBw.out) (gints_one _) (by unfold maxLen; omega) (by omega) HBw.out.size (k + 1) (by omega) ?_
              intro A_HA3 c_HA3 w_HA3 ho_ hg_ hs_
              refine hK.out _ _ (trivial) (fun _ => ?_)
              clear hK K
              have HA3 : Hid (w_HA3.ownsRow w1.heap.size 3 1 (.slice A_HA3 (k + 1) c_HA3) (k + 1) (ints ((([] ++ splc (L.take lo)) ++ [(k : Int)]) ++ (splc (L.drop lo))))) := Lib.hid (by rw [gints_app]; exact ho_)
              replace HBw := Lib.hid (s_grown HBw.out HA2.out hg_)
              clear ho_ hg_ hs_
              try simp only [Act.put, List.setIfInBounds_toArray, List.set_cons_zero, List.set_cons_succ]
              refine wpAnyH_take (i := 12) (oi := ⟨some 6, Op.assign (Operand.tmp 66), 22, _, #[{ on := 11, ground := Ground.data }, { on := 11, ground := Ground.chain }, { on := 0, ground := Ground.phase }, { on := 1, ground := Ground.phase }, { on := 2, ground := Ground.phase }, { on := 3, ground := Ground.phase }, { on := 4, ground := Ground.phase }, { on := 5, ground := Ground.phase }, { on := 6, ground := Ground.phase }, { on := 7, ground := Ground.phase }, { on := 8, ground := Ground.phase }, { on := 9, ground := Ground.phase }, { on := 10, ground := Ground.phase }, { on := 11, ground := Ground.phase }], none⟩) (v := ?_) rfl (by kernel_rfl) (by kernel_rfl) (by kernel_rfl) (fun _ _ _ h => h) (Or.inl ⟨by rfl, ?_⟩) hHeld ?_
              rotate_left
              · (intro wz hSw; go_simp; try (with_reducible rfl))
              try simp only [Act.put, List.setIfInBounds_toArray, List.set_cons_zero, List.set_cons_succ]
              refine wpAnyH_done (by kernel_rfl) ?_ _
              have HF : Hid (w_HA3.ownsRow w.heap.size 3 1 (.slice A_HA3 (k + 1) c_HA3) (k + 1) (ints (splc (slay (klt keys) (k + 1))))) := Lib.hid (by rw [Hins.out, s_three]; exact s_base HA3.out HB.out.size)
              have HG := Lib.hid (HB.out.trans (HBw.out.mono HB.out.size))
              go_wp2
              go_roundw
              case rel => exact ⟨k + 1, A_HA3, c_HA3, by omega, rfl, iv (by omega), HG2, HF, HG⟩
              case measure => simp only [intOf]; omega
              -- END INS
      · have hkl2 : ¬ (0 ≤ keys[k] ∧ keys[k] ≤ most) := by rw [hy]; exact hg
        have Hf := Lib.hid (Hno.out k hkl hkl2)
        by_cases hg1 : 0 ≤ y
        · have hg2 : most < y := by omega
          clear hkl2 hy hkl
          go_wp2
          go_ret2
          rw [Hf.out]
          exact lpost_none HB.out
        · clear hkl2 hy hkl
          go_wp2
          go_ret2
          rw [Hf.out]
          exact lpost_none HB.out
    · obtain rfl : k = n := by omega
      have hii : ¬ (k : Int) < (k : Int) := by omega
      obtain ⟨A2, c2, e2, hkc, hrd⟩ := owns_cells HO.out
      injection e2 with e3 _ e4
      subst e3 e4
      have Hrd := Lib.hid hrd
      have Hkc := Lib.hid hkc
      have Hf := Lib.hid (Hyes.out fun j hj => HG.out j hj (by rw [← En.out]; exact hj))
      have hln : (splc (slay (klt keys) keys.length)).length = k := by rw [splc_len, slay_len, En.out]
      have Hln := Lib.hid hln
      rw [← En.out] at Hrd
      clear hrd hkc hln
      go_wp2
      go_ret2
      rw [Hf.out]
      refine lpost_row Hln.out Hkc.out ?_ HB.out
      have := Hrd.out
      rw [En.out] at this ⊢
      exact this
end Go.Proofs.Ytngenehleelcmaa
