/-
  Layer 15, the program's: a record's header, Check and Size, for every record.
-/
import Derived.Test.YtckengcphaaohaaRecR
import Derived.Test.YtckengcphaaohaaVarG
namespace Go.Proofs.Ytckengcphaaohaa
set_option linter.unusedSimpArgs false
set_option linter.unusedVariables false
open Go.ChangeShapes Go.WideShapes Go.ChangeAt Go.RowKit Go.Joins Go.Deep
theorem rwithin_any (n lo hi : Int) (r : Bool) (hr : decide (lo ≤ n ∧ n ≤ hi) = r) (w : World) : Calls Try.prog 35 #[.int .i64 n, .int .i64 lo, .int .i64 hi] w fun e w' => e = .returned (.bool r) ∧ w = w' := by
  subst hr
  by_cases h1 : lo ≤ n
  · by_cases h2 : n ≤ hi
    · rw [decide_eq_true (show lo ≤ n ∧ n ≤ hi from ⟨h1, h2⟩)]
      go_enter Try.func35, Try.ntmps35
      go_wp2
      go_ret
      exact ⟨rfl, rfl⟩
    · rw [decide_eq_false (show ¬ (lo ≤ n ∧ n ≤ hi) from fun h => h2 h.2)]
      go_enter Try.func35, Try.ntmps35
      go_wp2
      go_ret
      exact ⟨rfl, rfl⟩
  · rw [decide_eq_false (show ¬ (lo ≤ n ∧ n ≤ hi) from fun h => h1 h.1)]
    go_enter Try.func35, Try.ntmps35
    go_wp2
    go_ret
    exact ⟨rfl, rfl⟩
def rh3 (x y n : Int) : Int := if 1 ≤ x ∧ x ≤ 1000000000 ∧ 0 ≤ y ∧ y ≤ 1000000000 ∧ 0 ≤ n ∧ n ≤ 2000 then 0 else 150
theorem rh3_chk (x y : Int) (d : List UInt8) : rh3 x y (d.length : Int) = rchk (x, y, d) := by
  unfold rh3 rchk
  by_cases h : rmay (x, y, d) = true
  · rw [if_pos h]
    have := (rmay_iff _).1 h
    dsimp only at this
    rw [if_pos (by omega)]
  · rw [if_neg h, if_neg]
    intro g
    exact h ((rmay_iff _).2 (by dsimp only; omega))
set_option maxRecDepth 100000 in
theorem p_hcheck_any (x y n : Int) (w : World) : Calls Try.prog 27 #[.agg #[.int .i64 x, .int .i64 y, .int .i64 n]] w fun e w' => e = .returned (.int .i64 (rh3 x y n)) ∧ Below w.heap.size w w' := by
  have c1 := fun r hr W => rwithin_any x 1 1000000000 r hr W
  have c2 := fun r hr W => rwithin_any y 0 1000000000 r hr W
  have c3 := fun r hr W => rwithin_any n 0 2000 r hr W
  by_cases h1 : 1 ≤ x ∧ x ≤ 1000000000
  · by_cases h2 : 0 ≤ y ∧ y ≤ 1000000000
    · by_cases h3 : 0 ≤ n ∧ n ≤ 2000
      · have hF := Lib.hid (show rh3 x y n = 0 from if_pos ⟨h1.1, h1.2, h2.1, h2.2, h3.1, h3.2⟩)
        replace c1 := Lib.hid (c1 true (decide_eq_true h1))
        replace c2 := Lib.hid (c2 true (decide_eq_true h2))
        replace c3 := Lib.hid (c3 true (decide_eq_true h3))
        clear h1 h2 h3
        go_enter Try.func27, Try.ntmps27
        go_wp2_with (first
          | (go_at_call 35; (with_reducible refine (c1.out _).mono ?_); rintro e w1 ⟨rfl, rfl⟩; clear c1)
          | (go_at_call 35; (with_reducible refine (c2.out _).mono ?_); rintro e w1 ⟨rfl, rfl⟩; clear c2)
          | (go_at_call 35; (with_reducible refine (c3.out _).mono ?_); rintro e w1 ⟨rfl, rfl⟩; clear c3))
        go_ret
        exact ⟨by rw [hF.out]; rfl, by go_grown⟩
      · have hF := Lib.hid (show rh3 x y n = 150 from if_neg fun h => h3 ⟨h.2.2.2.2.1, h.2.2.2.2.2⟩)
        replace c1 := Lib.hid (c1 true (decide_eq_true h1))
        replace c2 := Lib.hid (c2 true (decide_eq_true h2))
        replace c3 := Lib.hid (c3 false (decide_eq_false h3))
        clear h1 h2 h3
        go_enter Try.func27, Try.ntmps27
        go_wp2_with (first
          | (go_at_call 35; (with_reducible refine (c1.out _).mono ?_); rintro e w1 ⟨rfl, rfl⟩; clear c1)
          | (go_at_call 35; (with_reducible refine (c2.out _).mono ?_); rintro e w1 ⟨rfl, rfl⟩; clear c2)
          | (go_at_call 35; (with_reducible refine (c3.out _).mono ?_); rintro e w1 ⟨rfl, rfl⟩; clear c3))
        go_ret
        exact ⟨by rw [hF.out]; rfl, by go_grown⟩
    · have hF := Lib.hid (show rh3 x y n = 150 from if_neg fun h => h2 ⟨h.2.2.1, h.2.2.2.1⟩)
      replace c1 := Lib.hid (c1 true (decide_eq_true h1))
      replace c2 := Lib.hid (c2 false (decide_eq_false h2))
      clear h1 h2 c3
      go_enter Try.func27, Try.ntmps27
      go_wp2_with (first
        | (go_at_call 35; (with_reducible refine (c1.out _).mono ?_); rintro e w1 ⟨rfl, rfl⟩; clear c1)
        | (go_at_call 35; (with_reducible refine (c2.out _).mono ?_); rintro e w1 ⟨rfl, rfl⟩; clear c2))
      go_ret
      exact ⟨by rw [hF.out]; rfl, by go_grown⟩
  · have hF := Lib.hid (show rh3 x y n = 150 from if_neg fun h => h1 ⟨h.1, h.2.1⟩)
    replace c1 := Lib.hid (c1 false (decide_eq_false h1))
    clear h1 c2 c3
    go_enter Try.func27, Try.ntmps27
    go_wp2_with (go_at_call 35; (with_reducible refine (c1.out _).mono ?_); rintro e w1 ⟨rfl, rfl⟩; clear c1)
    go_ret
    exact ⟨by rw [hF.out]; rfl, by go_grown⟩
theorem p_header_any (x y : Int) (d : List UInt8) (w : World) : Calls Try.prog 30 #[.agg #[.int .i64 x, .int .i64 y, .string ⟨d.toArray⟩]] w fun e w' => e = .returned (.agg #[.int .i64 x, .int .i64 y, .int .i64 (d.length : Int)]) ∧ Below w.heap.size w w' := by
  go_enter Try.func30, Try.ntmps30
  go_wp2
  refine bodyPost_ret (v := .agg #[.int .i64 x, .int .i64 y, .int .i64 (d.length : Int)]) (by simp [results, Try.results30, go_sem]) rfl ⟨rfl, by go_grown⟩
theorem p_rcheck_any (x y : Int) (d : List UInt8) (w : World) : Calls Try.prog 13 #[.agg #[.int .i64 x, .int .i64 y, .string ⟨d.toArray⟩]] w fun e w' => e = .returned (.int .i64 (rchk (x, y, d))) ∧ Below w.heap.size w w' := by
  have HB0 := Lib.hid ((Below.refl w.heap.size w).alloc (Nat.le_refl _) (.cells #[.int .i64 x, .int .i64 y, .string ⟨d.toArray⟩] 23))
  have c1 := Lib.hid fun W => p_header_any x y d W
  have c2 := Lib.hid fun W => p_hcheck_any x y (d.length : Int) W
  rw [rh3_chk] at c2
  generalize rchk (x, y, d) = E at *
  go_enter Try.func13, Try.ntmps13
  go_wp2_with (first
    | (go_at_call 30; (with_reducible refine (c1.out _).mono ?_); rintro e w1 ⟨rfl, hb1⟩; have HB1 := Lib.hid (HB0.out.trans (hb1.mono HB0.out.size)); clear hb1 c1)
    | (go_at_call 27; (with_reducible refine (c2.out _).mono ?_); rintro e w2 ⟨rfl, hb2⟩; have HB2 := Lib.hid (HB1.out.trans (hb2.mono HB1.out.size)); clear hb2 c2))
  go_ret
  exact ⟨rfl, HB2.out⟩
end Go.Proofs.Ytckengcphaaohaa
