/-
 What the law of the last of these texts stands on, part 2.
-/
import Derived.Test.YtanjhbkbpalnaaaGreatMc01
set_option maxRecDepth 100000
set_option maxHeartbeats 8000000
open Go.Proofs.Tryz
namespace Go.Proofs.YtanjhbkbpalnaaaGreat
set_option linter.unusedSimpArgs false
set_option linter.unusedVariables false
open Go.ChangeShapes Go.WideShapes Go.ChangeAt Go.RowKit Go.Joins Go.Deep
theorem has_any (lo hi n : Int) (w : World) :
  Calls prog 28 #[.agg #[.int .i64 lo, .int .i64 hi], .int .i64 n] w fun e w' => e = .returned (.bool (decide (lo ≤ n) && decide (n ≤ hi))) ∧ Below w.heap.size w w' := by
 go_enter func28, ntmps28
 go_wp2
 ·go_ret
  exact ⟨by simp [*], by go_grown⟩
 ·go_ret
  have : ¬ lo ≤ n := by omega
  exact ⟨by simp [this], by go_grown⟩
end Go.Proofs.YtanjhbkbpalnaaaGreat
