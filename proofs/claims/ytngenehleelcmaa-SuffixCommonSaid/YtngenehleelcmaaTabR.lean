/-
  slices.Repeat of one integer, and math/bits.Mul of 1, in a program that holds them.
-/
import Derived.Test.YtngenehleelcmaaMore
import Derived.Test.YtngenehleelcmaaRows
import Derived.Deep.OwnRows
import Derived.Laws.CopyOwn
import Derived.Deep.RegionLaw
import Derived.Laws.Bits64b
namespace Go.Proofs.Ytngenehleelcmaa
set_option linter.unusedSimpArgs false
set_option linter.unusedVariables false
open Go.ChangeShapes Go.WideShapes Go.ChangeAt Go.RowKit Go.Joins Go.Deep

theorem tmask (d : Nat) (h : d < 4294967296) : bits .and .u64 (d : Int) 4294967295 = (d : Int) := by
  have h1 := bits_and_u64_nat d 4294967295 (by omega) (by omega)
  have e : d &&& 4294967295 = d % 4294967296 := Nat.and_two_pow_sub_one_eq_mod d 32
  rw [e, Nat.mod_eq_of_lt h] at h1
  exact h1
set_option maxRecDepth 100000 in
set_option maxHeartbeats 2000000 in
theorem tmul64_one (z : Int) (h0 : 0 ≤ z) (h1 : z ≤ 1000000) (w : World) :
    Calls Try.prog 46 #[.int .u64 1, .int .u64 z] w fun e w' => e = .returned (.tuple #[.int .u64 0, .int .u64 z]) ∧ w = w' := by
  have m1 : bits .and .u64 1 4294967295 = 1 := tmask 1 (by decide)
  have m0 : bits .and .u64 0 4294967295 = 0 := tmask 0 (by decide)
  have m2 : bits .and .u64 z 4294967295 = z := by
    obtain ⟨d, rfl⟩ := Int.eq_ofNat_of_zero_le h0
    exact tmask d (by omega)
  have m3 : z / 4294967296 = 0 := by omega
  go_enter Try.func46, Try.ntmps46
  go_wp2
  go_ret2
  exact ⟨rfl, rfl⟩
set_option maxRecDepth 100000 in
set_option maxHeartbeats 2000000 in
theorem tmul_one (z : Int) (h0 : 0 ≤ z) (h1 : z ≤ 1000000) (w : World) :
    Calls Try.prog 42 #[.int .u64 1, .int .u64 z] w fun e w' => e = .returned (.tuple #[.int .u64 0, .int .u64 z]) ∧ w = w' := by
  go_enter Try.func42, Try.ntmps42
  go_wp2_with (go_at_call 46; refine (tmul64_one z h0 h1 _).mono ?_; rintro e w1 ⟨rfl, rfl⟩)
  go_ret2
  exact ⟨rfl, rfl⟩

theorem tint_info : (Try.prog.info? 3).map (fun i => (i.zero, i.size, i.bytes)) = some (some (.int .i64 0), 1, 8) := by kernel_rfl
theorem tints_zero (n : Nat) : madeCells #[.int .i64 0] n = (ints (List.replicate n 0)).toArray := by
  unfold ints
  apply Array.ext'
  simp [madeCells, Nat.mod_one]
  rw [List.map_const', List.length_range]
theorem tmk_ints (n : Int) (N : Nat) (hN : (N : Int) = n) (h : N ≤ 17592186044416) (w : World) :
    (Instr.makeSlice 22 (.int .i64 n) (.int .i64 n)).run Try.prog w = .ok (.slice (some ⟨w.heap.size, 0, none⟩) N N) (w.alloc (.cells (ints (List.replicate N 0)).toArray 3)) := by
  subst hN
  rw [← tints_zero]
  exact run_make_row' (P := Try.prog) 22 3 (.int .i64 0) 8 Try.underlying22 tint_info rfl .i64 .i64 N (by omega) (by omega) w
/-- k copies of x, and then 0. -/
def trow (x : Int) (d k : Nat) : List Int := List.replicate k x ++ List.replicate (d - k) 0
theorem trow_len (x : Int) (d k : Nat) (h : k ≤ d) : (ints (trow x d k)).length = d := by rw [ints_length]; simp [trow]; omega
theorem trow_zero (x : Int) (d : Nat) : trow x d 0 = List.replicate d 0 := by simp [trow]
theorem trow_all (x : Int) (d : Nat) : trow x d d = List.replicate d x := by simp [trow]
theorem trow_splice (x : Int) (d k m : Nat) (h : k + m ≤ d) : splice (ints (trow x d k)) k (ints (List.replicate m x)) = ints (trow x d (k + m)) := by
  unfold splice trow ints
  rw [List.length_map, List.length_replicate, ← List.map_take, ← List.map_drop, ← List.map_append, ← List.map_append]
  congr 1
  rw [List.take_left' (by simp), ← List.drop_drop, List.drop_left' (by simp), List.drop_replicate, ← List.append_assoc, List.replicate_append_replicate, show d - k - m = d - (k + m) from by omega]
theorem trow_get (x : Int) (d k j : Nat) (h : j < k) : (ints (trow x d k)).toArray[j]? = some (.int .i64 x) := by
  unfold ints trow
  simp [List.getElem?_append, h]
theorem tints_one (l : List Int) : ∀ u ∈ ints l, u.oneCell' = true := by
  intro u hu
  obtain ⟨b, _, rfl⟩ := List.mem_map.1 hu
  rfl
theorem trep_src {w : World} {g d k m : Nat} {x : Int} {t : TypeId} (h : Blk w g t (ints (trow x d k)).toArray) (hm : m ≤ k) : ∀ j v, (ints (List.replicate m x))[j]? = some v → w.cell? ((⟨g, 0, none⟩ : Addr).add j) = some v := by
  intro j v hj
  have hlt : j < m := by
    have := (List.getElem?_eq_some_iff.1 hj).1
    rw [ints_length, List.length_replicate] at this
    exact this
  rw [add_mk, Nat.zero_add, h.cell, trow_get x d k j (by omega), ← hj]
  simp [ints, hlt]

set_option maxRecDepth 100000 in
set_option maxHeartbeats 4000000 in
theorem trepeat_any (x : Int) (A : Option Addr) (c d : Nat) (w : World) (h0 : 0 < d) (hd : d ≤ 1000000) (hr : Reads w w.heap.size 1 A 1 (ints [x])) :
    Calls Try.prog 28 #[.slice A 1 c, .int .i64 (d : Int)] w fun e w' => ∃ g, e = .returned (.slice (some ⟨g, 0, none⟩) d d) ∧ w.heap.size ≤ g ∧ Blk w' g 3 (ints (List.replicate d x)).toArray ∧ Below w.heap.size w w' := by
  obtain ⟨b, off, rfl, hb, hc⟩ := hr.2 (by omega)
  have hmk := fun w => tmk_ints (d : Int) d rfl (by omega) w
  have hi0 : (0 : Int) < (d : Int) ∧ (d : Int) ≤ 1000000 := by omega
  have hsrc : ∀ j v, (ints (List.replicate 1 x))[j]? = some v → (w.alloc (.cells (ints (trow x d 0)).toArray 3)).cell? ((⟨b, off, none⟩ : Addr).add j) = some v := by
    intro j v hj
    rw [add_mk, World.cell?_alloc_lt w _ _ hb]
    exact hc j v hj
  have Hsrc := Lib.hid hsrc
  rw [← trow_zero x d] at hmk
  clear hc hr hsrc
  go_enter Try.func28, Try.ntmps28
  go_wp2_with (first
    | (go_at_call 42; refine (tmul_one (d : Int) (by omega) (by omega) _).mono ?_; rintro e w1 ⟨rfl, rfl⟩)
    | (refine wpList_copy_splice rfl _ _ _ _ rfl 3 Try.underlying22 (by kernel_rfl) _ _ d d 1 c rfl rfl w.heap.size 0 (ints (trow x d 0)) 3 (Blk.new w _ _) (ints (List.replicate 1 x)) ?c1 (fun _ => ⟨rfl, _, rfl, Hsrc.out⟩) ?c2 (tints_one _) w.heap.size w ((Below.refl _ _).alloc (Nat.le_refl _) _) (Nat.le_refl _) ?_))

  case c1 =>
    rw [ints_length, List.length_replicate]
    exact (Nat.min_eq_left h0).symm
  case c2 => rw [trow_len _ _ _ (by omega), ints_length, List.length_replicate]; omega
  intro w1 hb1 hB1
  have Hb1 : Hid (Blk w1 w.heap.size 3 (ints (trow x d 1)).toArray) := Lib.hid (by
    have e : splice (ints (trow x d 0)) 0 (ints [x]) = ints (trow x d 1) := by
      have := trow_splice x d 0 1 (by omega)
      rwa [Nat.zero_add] at this
    have := hb1.out
    rw [e] at this
    exact this)
  have HB1 := Lib.hid hB1
  clear hb1 hB1 Hsrc hmk
  rw [ints_length]
  generalize hg : w.heap.size = g at *
  have Hg := Lib.hid hg
  clear hg
  go_wp2
  go_loopw [8] (fun i wr => ∃ k : Nat, 1 ≤ k ∧ k ≤ d ∧ i = .int .i64 k ∧ Hid (Blk wr g 3 (ints (trow x d k)).toArray) ∧ Hid (Below g w wr)) (fun i _ => d - (intOf i).toNat)
  case atStart => exact ⟨1, by omega, by omega, rfl, Hb1, HB1⟩
  case round =>
    obtain ⟨k, hk1, hk2, rfl, HB, HO⟩ := hrel
    by_cases hlt : k < d
    · have hki : (0 : Int) < (k : Int) ∧ (k : Int) < (d : Int) := by omega
      obtain ⟨m, hm⟩ : ∃ m, Nat.min k (d - k) = m := ⟨_, rfl⟩
      have hmk : 1 ≤ m ∧ m ≤ k ∧ k + m ≤ d := by
        have h1 : min k (d - k) = m := hm
        omega
      have hlen : (ints (List.replicate m x)).length = m := by rw [ints_length, List.length_replicate]
      have Hs := Lib.hid (trow_splice x d k m hmk.2.2)
      have Hsrc := Lib.hid (trep_src HB.out hmk.2.1)
      have hkl : ((d - k : Nat) : Int) = (d : Int) - (k : Int) := by omega
      have hkm : (k : Int) + (m : Int) ≤ 1000000 ∧ (1 : Int) ≤ (m : Int) := by omega
      have Hlen := Lib.hid hlen
      have Hc3 : Hid ((ints (List.replicate m x)).length = Nat.min k (d - k)) := Lib.hid (by rw [hlen, hm])
      have Hc4 : Hid (k + (ints (List.replicate m x)).length ≤ (ints (trow x d k)).length) := Lib.hid (by rw [trow_len _ _ _ (by omega), hlen]; omega)
      have hnk : ¬ d = k := by omega
      have hwr : IntKind.i64.wrap ((k : Int) + (m : Int)) = (k : Int) + (m : Int) := by rw [IntKind.wrap_i64]; omega
      clear hlen hm
      go_wp2
      refine wp_region_held_drew (S := (fun _ => True)) (by kernel_rfl) (trivial) (fun hHeld => ?_)
      refine wpAnyH_take (i := 0) (oi := ⟨some 38, Op.move (Operand.tmp 8), 3, _, #[], none⟩) (v := ?_) rfl (by kernel_rfl) (by kernel_rfl) (by kernel_rfl) (fun _ _ _ h => h) (Or.inl ⟨by rfl, ?_⟩) hHeld ?_
      rotate_left
      · (intro wz hSw; go_simp; try (with_reducible rfl))
      try simp only [Act.put, List.setIfInBounds_toArray, List.set_cons_zero, List.set_cons_succ]
      refine wpAnyH_take (i := 1) (oi := ⟨some 39, Op.move (Operand.tmp 7), 22, _, #[], none⟩) (v := ?_) rfl (by kernel_rfl) (by kernel_rfl) (by kernel_rfl) (fun _ _ _ h => h) (Or.inl ⟨by rfl, ?_⟩) hHeld ?_
      rotate_left
      · (intro wz hSw; go_simp; try (with_reducible rfl))
      try simp only [Act.put, List.setIfInBounds_toArray, List.set_cons_zero, List.set_cons_succ]
      refine wpAnyH_take (i := 2) (oi := ⟨some 40, Op.move (Operand.tmp 8), 3, _, #[], none⟩) (v := ?_) rfl (by kernel_rfl) (by kernel_rfl) (by kernel_rfl) (fun _ _ _ h => h) (Or.inl ⟨by rfl, ?_⟩) hHeld ?_
      rotate_left
      · (intro wz hSw; go_simp; try (with_reducible rfl))
      try simp only [Act.put, List.setIfInBounds_toArray, List.set_cons_zero, List.set_cons_succ]
      refine wpAnyH_take (i := 3) (oi := ⟨some 41, Op.slice 22 (Operand.tmp 39) (some (Operand.tmp 40)) none none, 22, _, #[{ on := 1, ground := Ground.data }, { on := 2, ground := Ground.data }], none⟩) (v := ?_) rfl (by kernel_rfl) (by kernel_rfl) (by kernel_rfl) (fun _ _ _ h => h) (Or.inl ⟨by rfl, ?_⟩) hHeld ?_
      rotate_left
      · (intro wz hSw; go_simp; try (with_reducible rfl))
      try simp only [Act.put, List.setIfInBounds_toArray, List.set_cons_zero, List.set_cons_succ]
      refine wpAnyH_take (i := 4) (oi := ⟨some 42, Op.move (Operand.tmp 7), 22, _, #[], none⟩) (v := ?_) rfl (by kernel_rfl) (by kernel_rfl) (by kernel_rfl) (fun _ _ _ h => h) (Or.inl ⟨by rfl, ?_⟩) hHeld ?_
      rotate_left
      · (intro wz hSw; go_simp; try (with_reducible rfl))
      try simp only [Act.put, List.setIfInBounds_toArray, List.set_cons_zero, List.set_cons_succ]
      refine wpAnyH_take (i := 5) (oi := ⟨some 43, Op.move (Operand.tmp 8), 3, _, #[], none⟩) (v := ?_) rfl (by kernel_rfl) (by kernel_rfl) (by kernel_rfl) (fun _ _ _ h => h) (Or.inl ⟨by rfl, ?_⟩) hHeld ?_
      rotate_left
      · (intro wz hSw; go_simp; try (with_reducible rfl))
      try simp only [Act.put, List.setIfInBounds_toArray, List.set_cons_zero, List.set_cons_succ]
      refine wpAnyH_take (i := 6) (oi := ⟨some 44, Op.slice 22 (Operand.tmp 42) none (some (Operand.tmp 43)) none, 22, _, #[{ on := 4, ground := Ground.data }, { on := 5, ground := Ground.data }], none⟩) (v := ?_) rfl (by kernel_rfl) (by kernel_rfl) (by kernel_rfl) (fun _ _ _ h => h) (Or.inl ⟨by rfl, ?_⟩) hHeld ?_
      rotate_left
      · (intro wz hSw; go_simp; try (with_reducible rfl))
      try simp only [Act.put, List.setIfInBounds_toArray, List.set_cons_zero, List.set_cons_succ]
      refine wpAnyH_ready (rs := [7]) (by kernel_rfl) (by simp) ?_
      refine AllReadyH.cons (o := ⟨some 45, Op.call { callee := Callee.builtin Builtin.copy, args := #[Operand.tmp 41, Operand.tmp 44], argTypes := #[22, 22] }, 3, _, #[{ on := 3, ground := Ground.data }, { on := 6, ground := Ground.data }], none⟩) rfl (fun K hK => ?_) AllReadyH.nil
      refine step_copy_splice (by rfl) (.tmp 41) (.tmp 44) 22 22 (by rfl) 3 Try.underlying22 (by kernel_rfl) _ _ (d - k) (d - k) k d (by rfl) (by rfl) g k (ints (trow x d k)) 3 HB.out.drew (ints (List.replicate m x)) Hc3.out (fun _ => ⟨rfl, _, rfl, Hsrc.out⟩) Hc4.out (tints_one _) g w HO.out.drew (Nat.le_refl _) ?_
      intro w2 hb2 hB2
      rw [Hlen.out]
      refine hK.out _ _ (trivial) (fun hH => ?_)
      clear hK K hHeld
      have hHeld : True := trivial
      try simp only [Act.put, List.setIfInBounds_toArray, List.set_cons_zero, List.set_cons_succ]
      refine wpAnyH_take (i := 8) (oi := ⟨some 46, Op.binOp BinOp.add 3 (Operand.tmp 38) (Operand.tmp 45) 3, 3, _, #[{ on := 0, ground := Ground.data }, { on := 7, ground := Ground.data }], none⟩) (v := ?_) rfl (by kernel_rfl) (by kernel_rfl) (by kernel_rfl) (fun _ _ _ h => h) (Or.inl ⟨by rfl, ?_⟩) hHeld ?_
      rotate_left
      · (intro wz hSw; go_simp; try (with_reducible rfl))
      try simp only [Act.put, List.setIfInBounds_toArray, List.set_cons_zero, List.set_cons_succ]
      refine wpAnyH_take (i := 9) (oi := ⟨some 8, Op.assign (Operand.tmp 46), 3, _, #[{ on := 8, ground := Ground.data }, { on := 7, ground := Ground.chain }, { on := 0, ground := Ground.phase }, { on := 1, ground := Ground.phase }, { on := 2, ground := Ground.phase }, { on := 3, ground := Ground.phase }, { on := 4, ground := Ground.phase }, { on := 5, ground := Ground.phase }, { on := 6, ground := Ground.phase }, { on := 7, ground := Ground.phase }, { on := 8, ground := Ground.phase }], none⟩) (v := ?_) rfl (by kernel_rfl) (by kernel_rfl) (by kernel_rfl) (fun _ _ _ h => h) (Or.inl ⟨by rfl, ?_⟩) hHeld ?_
      rotate_left
      · (intro wz hSw; go_simp; try (with_reducible rfl))
      try simp only [Act.put, List.setIfInBounds_toArray, List.set_cons_zero, List.set_cons_succ]
      refine wpAnyH_done (by kernel_rfl) ?_ _
      have Hb2 := Lib.hid (show Blk w2 g 3 (ints (trow x d (k + m))).toArray by have := hb2.out; rw [Hs.out] at this; exact this)
      have HB2 := Lib.hid hB2
      clear hb2 hB2
      go_wp2
      go_roundw
      case rel => exact ⟨k + m, by omega, by omega, iv (by omega), Hb2, HB2⟩
      case measure => simp only [intOf]; omega
    · obtain rfl : k = d := by omega
      have HB' : Hid (Blk wr g 3 (ints (List.replicate k x)).toArray) := Lib.hid (by rw [← trow_all x k]; exact HB.out)
      clear HB HB1 Hb1
      go_wp2
      go_ret
      exact ⟨g, rfl, Nat.le_of_eq Hg.out, HB'.out, by rw [Hg.out]; exact HO.out⟩
end Go.Proofs.Ytngenehleelcmaa
