/-
  Layer 4: what the document's own Gamma and Unpack return, for every argument.
-/
import Derived.Test.YtckekhghcelcpaaBitR1
import Derived.Test.YtckekhghcelcpaaBitG

namespace Go.Proofs.Ytckekhghcelcpaa
set_option linter.unusedSimpArgs false
set_option linter.unusedVariables false
open Go.ChangeShapes Go.WideShapes Go.ChangeAt Go.RowKit Go.Joins Go.Deep

theorem refGamma_no (n : Int) (w : World) (h : ¬ hasG n) : Calls Try.prog 34 #[.int .i64 n] w fun e w' => e = .returned (.tuple #[.slice none 0 0, .bool false]) ∧ w = w' := by
  by_cases h1 : n < 1
  · clear h
    go_enter Try.func34, Try.ntmps34
    go_wp2
    go_ret2
    exact ⟨rfl, rfl⟩
  · have h2 : 4294967295 < n := by
      rcases Int.lt_or_le 4294967295 n with e | e
      · exact e
      · exact absurd ⟨by omega, e⟩ h
    clear h
    go_enter Try.func34, Try.ntmps34
    go_wp2
    go_ret2
    exact ⟨rfl, rfl⟩

set_option maxRecDepth 100000 in
set_option maxHeartbeats 2000000 in
theorem refGamma_yes (n : Int) (w : World) (h : hasG n) : Calls Try.prog 34 #[.int .i64 n] w fun e w' =>
    ∃ A c, e = .returned (.tuple #[.slice A (gam n.toNat).length c, .bool true]) ∧ w'.ownsRow w.heap.size 3 1 (.slice A (gam n.toNat).length c) (gam n.toNat).length (bcs (gam n.toNat)) ∧ Below w.heap.size w w' := by
  obtain ⟨i0, hi, hz0, hz1, hz2⟩ := info_parts bint_info
  obtain ⟨h1, h2⟩ := h
  obtain ⟨N, rfl⟩ := Int.eq_ofNat_of_zero_le (by omega : 0 ≤ n)
  rw [Int.toNat_natCast]
  have HN : Hid (1 ≤ N ∧ N ≤ 4294967295) := Lib.hid (by omega)
  go_enter Try.func34, Try.ntmps34
  go_wp2
  clear h1 h2
  go_loop [4, 5] (fun k m => ∃ j M : Nat, j ≤ 32 ∧ k = .int .i64 j ∧ m = .int .i64 M ∧ Hid (M = N / 2 ^ j ∧ 1 ≤ M)) (fun _ m => (intOf m).toNat)
  case atStart => exact ⟨0, N, by omega, rfl, rfl, Lib.hid ⟨by simp, HN.out.1⟩⟩
  case round =>
    obtain ⟨j, M, hj, rfl, rfl, HM⟩ := hrel
    have hM32 : (M : Int) ≤ 4294967295 := by have := HM.out.1; have := HN.out.2; have : N / 2 ^ j ≤ N := Nat.div_le_self _ _; omega
    by_cases hlt : 1 < M
    · have hMi : (1 : Int) < M := by omega
      have hj32 : j < 32 := by
        have h1 := HM.out.1
        rcases Nat.lt_or_ge j 32 with e | e
        · exact e
        · have h3 : N / 2 ^ j = 0 := Nat.div_eq_of_lt (by
            have h4 : 2 ^ 32 ≤ 2 ^ j := Nat.pow_le_pow_right (by omega) e
            rw [show (2 : Nat) ^ 32 = 4294967296 from by decide] at h4
            have := HN.out.2
            omega)
          omega
      have hji : (j : Int) < 32 := by omega
      go_wp2
      go_round
      case rel => exact ⟨j + 1, M / 2, by omega, iv (by omega), iv (by omega), Lib.hid ⟨by rw [HM.out.1, Nat.pow_succ, Nat.div_div_eq_div_mul], by omega⟩⟩
      case measure => simp only [intOf]; omega
    · have hMi : ¬ (1 : Int) < M := by omega
      have hp : 0 < 2 ^ j := Nat.pow_pos (by omega)
      have hM1 : N / 2 ^ j = 1 := by have := HM.out; omega
      have hlo : 2 ^ j ≤ N := by
        have := Nat.div_mul_le_self N (2 ^ j)
        rw [hM1] at this
        omega
      have hhi : N < 2 ^ (j + 1) := by
        rw [Nat.pow_succ, Nat.mul_comm]
        have := Nat.lt_mul_of_div_lt (show N / 2 ^ j < 2 by omega) hp
        omega
      have hg := gam_is hlo hhi (by have := HN.out; omega)
      have hj31 : j ≤ 31 := by
        rcases Nat.lt_or_ge j 32 with e | e
        · omega
        · have h4 : 2 ^ 32 ≤ 2 ^ j := Nat.pow_le_pow_right (by omega) e
          rw [show (2 : Nat) ^ 32 = 4294967296 from by decide] at h4
          have := HN.out.2
          omega
      have hji : (j : Int) ≤ 31 := by omega
      have hdg := fun W => refDig_yes (N : Int) ((j + 1 : Nat) : Int) W ⟨by omega, by omega, by omega, by rw [Int.toNat_natCast]; exact_mod_cast hhi⟩
      have hmk := fun W => run_make_ints j (by omega) W
      have e1 : (j : Int) + 1 = ((j + 1 : Nat) : Int) := by omega
      have hD : (digI (N : Int) ((j + 1 : Nat) : Int)) = dig (j + 1) N := rfl
      have hDl : (digI (N : Int) ((j + 1 : Nat) : Int)).length = j + 1 := dig_length _ _
      rw [← hD] at hg
      rw [Int.toNat_natCast] at hdg
      have hgl : (gam N).length = j + (j + 1) := by rw [hg, List.length_append, List.length_replicate, hDl]
      have Hg := Lib.hid hg
      have Hgl := Lib.hid hgl
      have HDl := Lib.hid hDl
      have Hdg := Lib.hid hdg
      have E1 := Lib.hid e1
      clear hg hgl hDl hdg hD hp hM1 hlo hhi e1
      generalize digI (N : Int) ((j + 1 : Nat) : Int) = D at *
      go_wp2_with (first
        | (go_at_call 33; rw [E1.out]; refine (Hdg.out _).mono ?_; rintro e w1 ⟨g, rfl, hB1, hg1, hb1⟩)
        | (at_builtin; refine wpList_append_sep _ rfl _ _ 22 rfl w.heap.size 3 i0 (.int .i64 0) 1 8 Try.underlying22 hi hz0 hz1 hz2 rfl (by decide) _ _ _ rfl (World.ownsRow_lit (base := w.heap.size) (e := 3) (size := 1) w1 (bcs (List.replicate j 0)).toArray j hb1.size (by unfold maxLen; omega) (by simp [bcs])) _ (j + 1) (j + 1) _ _ rfl (blk_reads _ (hB1.alloc _) (j + 1) (by rw [bcs_length]; exact HDl.out)) ?c1 ?c2 ?c3 ?c4 ?_))
      case c1 => exact bcs_one _
      case c2 => unfold maxLen; omega
      case c3 => omega
      case c4 => have := hb1.size; simp; omega
      intro v2 w2 hown2 hgrow hsep
      obtain ⟨A', c', rfl, hc', hr'⟩ := owns_cells hown2
      have hb2 : Below w.heap.size w w2 := ((hb1.alloc hb1.size _)).grown hgrow (by have := hb1.size; simp; omega) (fun g hg => by injection hg with hg; simp only at hg; have := hb1.size; omega)
      have Hb2 := Lib.hid hb2
      have Hr' := Lib.hid hown2
      clear hb2 hr' hown2 hgrow hsep hB1 hb1
      go_wp2
      go_ret2
      refine ⟨A', c', by rw [Hgl.out]; rfl, ?_, Hb2.out⟩
      have h5 := Hr'.out
      rw [Hgl.out, Hg.out, bcs_append]
      exact h5
end Go.Proofs.Ytckekhghcelcpaa
