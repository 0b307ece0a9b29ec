/-
  Layer 1: the document's own answers: Has, Empty, none, Size, Trim, Meets, Within: what each returns, for every argument.
-/
import Derived.Test.YtcdanilepikdeaaSpanC
namespace Go.Proofs.Ytcdanilepikdeaa
set_option linter.unusedSimpArgs false
set_option linter.unusedVariables false
open Go.ChangeShapes Go.WideShapes Go.ChangeAt Go.RowKit Go.Joins Go.Deep

set_option maxHeartbeats 400000 in
theorem refHas_any (lo hi n : Int) (w : World) :
    Calls Try.prog 8 #[.agg #[.int .i64 lo, .int .i64 hi], .int .i64 n] w fun e w' => e = .returned (.bool (decide (lo ≤ n) && decide (n ≤ hi))) ∧ Below w.heap.size w w' := by
  go_enter Try.func8, Try.ntmps8
  go_wp2
  · go_ret
    exact ⟨by simp [*], by go_grown⟩
  · go_ret
    have : ¬ lo ≤ n := by omega
    exact ⟨by simp [this], by go_grown⟩

set_option maxHeartbeats 400000 in
theorem refEmpty_any (lo hi : Int) (w : World) :
    Calls Try.prog 10 #[.agg #[.int .i64 lo, .int .i64 hi]] w fun e w' => e = .returned (.bool (decide (hi < lo))) ∧ Below w.heap.size w w' := by
  go_enter Try.func10, Try.ntmps10
  go_wp2
  go_ret
  exact ⟨rfl, by go_grown⟩

set_option maxHeartbeats 400000 in
theorem refNone_any (w : World) :
    Calls Try.prog 24 #[] w fun e w' => e = .returned (.agg #[.int .i64 1, .int .i64 0]) ∧ Below w.heap.size w w' := by
  go_enter Try.func24, Try.ntmps24
  go_wp2
  go_returns
  exact ⟨rfl, by go_grown⟩

set_option maxHeartbeats 400000 in
theorem refSize_any (a b : Int) (w : World) (ha : -9223372036854775808 ≤ a) (ha' : a ≤ 9223372036854775807) (hb : -9223372036854775808 ≤ b) (hb' : b ≤ 9223372036854775807) :
    Calls Try.prog 12 #[.agg #[.int .i64 a, .int .i64 b]] w fun e w' => e = .returned (.int .i64 (sizeF (a, b))) ∧ Below w.heap.size w w' := by
  by_cases h1 : b < a
  · have fin : sizeF (a, b) = 0 := by simp [sizeF, h1]
    rw [fin]
    clear fin
    go_enter Try.func12, Try.ntmps12
    go_wp2
    go_ret
    exact ⟨rfl, by go_grown⟩
  · by_cases h2 : a ≤ 0
    · by_cases h3 : a + 9223372036854775807 ≤ b
      · have fin : sizeF (a, b) = 9223372036854775807 := by unfold sizeF; rw [if_neg h1, if_neg (by simp only; omega)]
        rw [fin]
        clear fin
        go_enter Try.func12, Try.ntmps12
        go_wp2
        go_ret
        exact ⟨rfl, by go_grown⟩
      · have fin : sizeF (a, b) = b - (a + 9223372036854775807) + 9223372036854775807 + 1 := by unfold sizeF; rw [if_neg h1, if_pos (by simp only; omega)]; simp only; omega
        rw [fin]
        clear fin
        go_enter Try.func12, Try.ntmps12
        go_wp2
        go_ret
        exact ⟨rfl, by go_grown⟩
    · have fin : sizeF (a, b) = b - a + 1 := by unfold sizeF; rw [if_neg h1, if_pos (by simp only; omega)]
      rw [fin]
      clear fin
      go_enter Try.func12, Try.ntmps12
      go_wp2
      go_ret
      exact ⟨rfl, by go_grown⟩

theorem trim_fold (r : Int × Int) (n : Int) (h : r.2 ≤ 9223372036854775807) : bothF [r, (n, 9223372036854775807)] = shut (if r.1 < n then n else r.1, r.2) := by
  simp only [bothF, List.foldl_cons, List.foldl_nil, bothStep]
  rw [if_neg (by omega : ¬ (9223372036854775807 : Int) < r.2)]

set_option maxHeartbeats 400000 in
theorem refTrim_any (a b n : Int) (w : World) (h : b ≤ 9223372036854775807) :
    Calls Try.prog 14 #[.agg #[.int .i64 a, .int .i64 b], .int .i64 n] w fun e w' => e = .returned (.agg #[.int .i64 (bothF [(a, b), (n, 9223372036854775807)]).1, .int .i64 (bothF [(a, b), (n, 9223372036854775807)]).2]) ∧ Below w.heap.size w w' := by
  rw [trim_fold (a, b) n h]
  clear h
  by_cases h1 : a < n
  · have hx : (if (a, b).1 < n then n else (a, b).1) = n := if_pos h1
    rw [hx]
    clear hx
    by_cases h2 : b < n
    · have fin : shut (n, (a, b).2) = (1, 0) := by simp [shut, h2]
      rw [fin]
      clear fin
      go_enter Try.func14, Try.ntmps14
      go_wp2
      exact bodyPost_ret (v := .agg #[.int .i64 1, .int .i64 0]) (by simp [results, Try.results14, go_sem]) rfl ⟨rfl, by go_grown⟩
    · have fin : shut (n, (a, b).2) = (n, b) := by simp [shut, h2]
      rw [fin]
      clear fin
      go_enter Try.func14, Try.ntmps14
      go_wp2
      exact bodyPost_ret (v := .agg #[.int .i64 n, .int .i64 b]) (by simp [results, Try.results14, go_sem]) rfl ⟨rfl, by go_grown⟩
  · have hx : (if (a, b).1 < n then n else (a, b).1) = a := if_neg h1
    rw [hx]
    clear hx
    by_cases h2 : b < a
    · have fin : shut (a, (a, b).2) = (1, 0) := by simp [shut, h2]
      rw [fin]
      clear fin
      go_enter Try.func14, Try.ntmps14
      go_wp2
      exact bodyPost_ret (v := .agg #[.int .i64 1, .int .i64 0]) (by simp [results, Try.results14, go_sem]) rfl ⟨rfl, by go_grown⟩
    · have fin : shut (a, (a, b).2) = (a, b) := by simp [shut, h2]
      rw [fin]
      clear fin
      go_enter Try.func14, Try.ntmps14
      go_wp2
      exact bodyPost_ret (v := .agg #[.int .i64 a, .int .i64 b]) (by simp [results, Try.results14, go_sem]) rfl ⟨rfl, by go_grown⟩

set_option maxHeartbeats 400000 in
theorem refWithin_any (a b : Int × Int) (w : World) :
    Calls Try.prog 23 #[.agg #[.int .i64 a.1, .int .i64 a.2], .agg #[.int .i64 b.1, .int .i64 b.2]] w fun e w' => e = .returned (.bool (emptyF a || (hasF b a.1 && hasF b a.2))) ∧ Below w.heap.size w w' := by
  by_cases h1 : a.2 < a.1
  · go_enter Try.func23, Try.ntmps23
    go_wp2
    go_ret
    exact ⟨by simp [emptyF, h1], by go_grown⟩
  · by_cases h2 : b.1 ≤ a.1
    · by_cases h3 : a.1 ≤ b.2
      · have h4 : b.1 ≤ a.2 := by omega
        by_cases h5 : a.2 ≤ b.2
        all_goals
          have fin : (emptyF a || (hasF b a.1 && hasF b a.2)) = decide (a.2 ≤ b.2) := by simp [emptyF, hasF, h1, h2, h3, h4]
          have Hfin := Lib.hid fin
          clear fin
          go_enter Try.func23, Try.ntmps23
          go_wp2
          go_ret
          exact ⟨by rw [Hfin.out]; simp; omega, by go_grown⟩
      · have fin : (emptyF a || (hasF b a.1 && hasF b a.2)) = false := by simp [emptyF, hasF, h1, h3]
        have Hfin := Lib.hid fin
        clear fin
        go_enter Try.func23, Try.ntmps23
        go_wp2
        go_ret
        exact ⟨by rw [Hfin.out]; rfl, by go_grown⟩
    · have fin : (emptyF a || (hasF b a.1 && hasF b a.2)) = false := by simp [emptyF, hasF, h1, h2]
      have Hfin := Lib.hid fin
      clear fin
      go_enter Try.func23, Try.ntmps23
      go_wp2
      go_ret
      exact ⟨by rw [Hfin.out]; rfl, by go_grown⟩

theorem meets_eq (a b : Int × Int) : (!(emptyF (bothF [a, b]))) = (!(decide (a.2 < a.1)) && !(decide (b.2 < b.1)) && decide (a.1 ≤ b.2) && decide (b.1 ≤ a.2)) := by
  have e : bothF [a, b] = shut (if a.1 < b.1 then b.1 else a.1, if b.2 < a.2 then b.2 else a.2) := rfl
  rw [e]
  generalize hp : (if a.1 < b.1 then b.1 else a.1) = p
  generalize hq : (if b.2 < a.2 then b.2 else a.2) = q
  have h1 : p = max a.1 b.1 := by split at hp <;> omega
  have h2 : q = min a.2 b.2 := by split at hq <;> omega
  have h3 : emptyF (shut (p, q)) = decide (q < p) := by
    unfold shut emptyF
    by_cases h : q < p <;> simp [h]
  rw [h3, Bool.eq_iff_iff]
  simp only [Bool.not_eq_true', decide_eq_false_iff_not, Bool.and_eq_true, decide_eq_true_eq]
  omega

set_option maxHeartbeats 400000 in
theorem refMeets_any (a b : Int × Int) (w : World) :
    Calls Try.prog 21 #[.agg #[.int .i64 a.1, .int .i64 a.2], .agg #[.int .i64 b.1, .int .i64 b.2]] w fun e w' => e = .returned (.bool (!(emptyF (bothF [a, b])))) ∧ Below w.heap.size w w' := by
  rw [meets_eq]
  by_cases h1 : a.2 < a.1
  · go_enter Try.func21, Try.ntmps21
    go_wp2
    go_ret
    exact ⟨by simp [h1], by go_grown⟩
  · have g1 : decide (a.2 < a.1) = false := by simpa using h1
    by_cases h2 : b.2 < b.1
    · go_enter Try.func21, Try.ntmps21
      go_wp2
      go_ret
      exact ⟨by simp [h2], by go_grown⟩
    · have g2 : decide (b.2 < b.1) = false := by simpa using h2
      by_cases h3 : a.1 ≤ b.2
      · by_cases h4 : b.1 ≤ a.2
        · go_enter Try.func21, Try.ntmps21
          go_wp2
          go_ret
          exact ⟨by simp [g1, g2, h3, h4], by go_grown⟩
        · have g4 : decide (b.1 ≤ a.2) = false := by simpa using h4
          go_enter Try.func21, Try.ntmps21
          go_wp2
          go_ret
          exact ⟨by simp [g4], by go_grown⟩
      · have g3 : decide (a.1 ≤ b.2) = false := by simpa using h3
        go_enter Try.func21, Try.ntmps21
        go_wp2
        go_ret
        exact ⟨by simp [g3], by go_grown⟩
end Go.Proofs.Ytcdanilepikdeaa
