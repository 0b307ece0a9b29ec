/-
 What the law of the last of these texts stands on, part 2.
-/
import Derived.Test.YtanjhbkbpalnaaaGreatMb01
import Derived.ChangeMaps5
set_option maxRecDepth 100000
set_option maxHeartbeats 8000000
open Go.Proofs.Tryz
namespace Go.Proofs.YtanjhbkbpalnaaaGreat
set_option linter.unusedSimpArgs false
set_option linter.unusedVariables false
open Go.ChangeShapes Go.WideShapes Go.ChangeAt Go.RowKit Go.Joins Go.Deep
theorem ownP : ownKnob prog.godebug = none := by kernel_rfl
theorem laidP : laidOutB prog = true := by kernel_rfl
end Go.Proofs.YtanjhbkbpalnaaaGreat
