/-
  Layer 1: Meets, Within, Trim, Size of package span: what each returns, for every argument.
-/
import Derived.Test.YtcdanilepikdeaaSpanB
namespace Go.Proofs.Ytcdanilepikdeaa
set_option linter.unusedSimpArgs false
set_option linter.unusedVariables false
open Go.ChangeShapes Go.WideShapes Go.ChangeAt Go.RowKit Go.Joins Go.Deep

/-- The slice that a variadic call of two ranges lays. -/
theorem reads_two (W : World) (g : Nat) (hg : W.heap.size = g) (t : TypeId) (a b : Int × Int) :
    Reads (W.alloc (.cells #[.int .i64 a.1, .int .i64 a.2, .int .i64 b.1, .int .i64 b.2] t)) (W.alloc (.cells #[.int .i64 a.1, .int .i64 a.2, .int .i64 b.1, .int .i64 b.2] t)).heap.size 2 (some ⟨g, 0, none⟩) 2 (pairs .i64 [a, b]) := by
  subst hg
  simpa [pairs] using Reads.new W t [.int .i64 a.1, .int .i64 a.2, .int .i64 b.1, .int .i64 b.2] 2 2 rfl

set_option maxHeartbeats 400000 in
theorem meets_any (a b : Int × Int) (w : World) :
    Calls Try.prog 20 #[.agg #[.int .i64 a.1, .int .i64 a.2], .agg #[.int .i64 b.1, .int .i64 b.2]] w fun e w' => e = .returned (.bool (!(emptyF (bothF [a, b])))) ∧ Below w.heap.size w w' := by
  go_enter Try.func20, Try.ntmps20
  go_wp2_with fail
  refine (both_any _ _ _ [a, b] _ rfl ?_ ?_ (reads_two _ _ ?_ _ a b)).mono ?_
  · exact Nat.le_refl 2
  · decide
  · simp
  obtain ⟨q, hq⟩ : ∃ q, q = bothF [a, b] := ⟨_, rfl⟩
  rw [← hq]
  have Hq := Lib.hid hq
  clear hq
  rintro e w1 ⟨rfl, hb1⟩
  go_wp2_with fail
  refine (empty_any q.1 q.2 _).mono ?_
  rintro e w2 ⟨rfl, hb2⟩
  have hb : Below w.heap.size w w2 := ((by go_grown : Below w.heap.size w (((w.alloc (.cells #[.int .i64 a.1, .int .i64 a.2] 23)).alloc (.cells #[.int .i64 b.1, .int .i64 b.2] 23)).alloc (.cells #[.int .i64 a.1, .int .i64 a.2, .int .i64 b.1, .int .i64 b.2] 23))).trans (hb1.mono (by simp; omega))).trans (hb2.mono (by have := hb1.size; simp at this; omega))
  clear hb1 hb2
  go_wp2
  go_ret
  exact ⟨by rw [← Hq.out]; rfl, hb⟩

set_option maxHeartbeats 400000 in
theorem within_any (a b : Int × Int) (w : World) :
    Calls Try.prog 22 #[.agg #[.int .i64 a.1, .int .i64 a.2], .agg #[.int .i64 b.1, .int .i64 b.2]] w fun e w' => e = .returned (.bool (emptyF a || (hasF b a.1 && hasF b a.2))) ∧ Below w.heap.size w w' := by
  by_cases h1 : a.2 < a.1
  · go_enter Try.func22, Try.ntmps22
    go_wp2
    go_ret
    exact ⟨by simp [emptyF, h1], by go_grown⟩
  · by_cases h2 : b.1 ≤ a.1
    · by_cases h3 : a.1 ≤ b.2
      · have h4 : b.1 ≤ a.2 := by omega
        by_cases h5 : a.2 ≤ b.2
        all_goals
          have fin : (emptyF a || (hasF b a.1 && hasF b a.2)) = decide (a.2 ≤ b.2) := by simp [emptyF, hasF, h1, h2, h3, h4]
          have Hfin := Lib.hid fin
          clear fin
          go_enter Try.func22, Try.ntmps22
          go_wp2
          go_ret
          exact ⟨by rw [Hfin.out]; simp; omega, by go_grown⟩
      · have fin : (emptyF a || (hasF b a.1 && hasF b a.2)) = false := by simp [emptyF, hasF, h1, h3]
        have Hfin := Lib.hid fin
        clear fin
        go_enter Try.func22, Try.ntmps22
        go_wp2
        go_ret
        exact ⟨by rw [Hfin.out]; rfl, by go_grown⟩
    · have fin : (emptyF a || (hasF b a.1 && hasF b a.2)) = false := by simp [emptyF, hasF, h1, h2]
      have Hfin := Lib.hid fin
      clear fin
      go_enter Try.func22, Try.ntmps22
      go_wp2
      go_ret
      exact ⟨by rw [Hfin.out]; rfl, by go_grown⟩

set_option maxHeartbeats 400000 in
theorem trim_any (r : Int × Int) (n : Int) (w : World) :
    Calls Try.prog 13 #[.agg #[.int .i64 r.1, .int .i64 r.2], .int .i64 n] w fun e w' => e = .returned (.agg #[.int .i64 (bothF [r, (n, 9223372036854775807)]).1, .int .i64 (bothF [r, (n, 9223372036854775807)]).2]) ∧ Below w.heap.size w w' := by
  go_enter Try.func13, Try.ntmps13
  go_wp2_with fail
  refine (both_any _ _ _ [r, (n, 9223372036854775807)] _ rfl ?_ ?_ (reads_two _ _ ?_ _ r (n, 9223372036854775807))).mono ?_
  · exact Nat.le_refl 2
  · decide
  · simp
  obtain ⟨q, hq⟩ : ∃ q, q = bothF [r, (n, 9223372036854775807)] := ⟨_, rfl⟩
  rw [← hq]
  have Hq := Lib.hid hq
  clear hq
  rintro e w1 ⟨rfl, hb1⟩
  obtain ⟨c1, f1⟩ := bcell hb1
  have hs1 := hb1.size
  simp only [World.size_alloc] at c1 f1 hs1
  have hs2 : w.heap.size + 1 < w1.heap.size := by omega
  have hs3 : w.heap.size < w1.heap.size := by omega
  have hb : Below w.heap.size w w1 := (by go_grown : Below w.heap.size w (((w.alloc (.cells #[.int .i64 r.1, .int .i64 r.2] 23)).alloc (.cells #[.int .i64 0, .int .i64 0] 23)).alloc (.cells #[.int .i64 r.1, .int .i64 r.2, .int .i64 n, .int .i64 9223372036854775807] 23))).trans (hb1.mono (by simp; omega))
  have Hb1 := Lib.hid hb1
  clear hb1
  go_wp2
  exact bodyPost_ret (v := .agg #[.int .i64 q.1, .int .i64 q.2]) (by simp [results, Try.results13, go_sem, c1]) rfl ⟨by rw [← Hq.out], by go_grown⟩

def sizeF (r : Int × Int) : Int := if r.2 < r.1 then 0 else if r.2 - r.1 < 9223372036854775807 then r.2 - r.1 + 1 else 9223372036854775807

set_option maxHeartbeats 400000 in
theorem size_any (a b : Int) (w : World) (ha : -9223372036854775808 ≤ a) (ha' : a ≤ 9223372036854775807) (hb : -9223372036854775808 ≤ b) (hb' : b ≤ 9223372036854775807) :
    Calls Try.prog 11 #[.agg #[.int .i64 a, .int .i64 b]] w fun e w' => e = .returned (.int .i64 (sizeF (a, b))) ∧ Below w.heap.size w w' := by
  by_cases h1 : b < a
  · have fin : sizeF (a, b) = 0 := by simp [sizeF, h1]
    rw [fin]
    clear fin
    go_enter Try.func11, Try.ntmps11
    go_wp2
    go_ret
    exact ⟨rfl, by go_grown⟩
  · by_cases h2 : a < 1
    · by_cases h3 : a + 9223372036854775807 ≤ b
      · have fin : sizeF (a, b) = 9223372036854775807 := by unfold sizeF; rw [if_neg h1, if_neg (by simp only; omega)]
        rw [fin]
        clear fin
        go_enter Try.func11, Try.ntmps11
        go_wp2
        go_ret
        exact ⟨rfl, by go_grown⟩
      · have fin : sizeF (a, b) = b - a + 1 := by unfold sizeF; rw [if_neg h1, if_pos (by simp only; omega)]
        rw [fin]
        clear fin
        go_enter Try.func11, Try.ntmps11
        go_wp2
        go_ret
        exact ⟨rfl, by go_grown⟩
    · have fin : sizeF (a, b) = b - a + 1 := by unfold sizeF; rw [if_neg h1, if_pos (by simp only; omega)]
      rw [fin]
      clear fin
      go_enter Try.func11, Try.ntmps11
      go_wp2
      go_ret
      exact ⟨rfl, by go_grown⟩
end Go.Proofs.Ytcdanilepikdeaa
