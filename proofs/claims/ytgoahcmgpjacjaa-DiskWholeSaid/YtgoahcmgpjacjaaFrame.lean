/-
  What the frame of every law's proof of this seat needs: the program's knobs, and arguments opened by their types: strings as lists of bytes, slices and pairs of integers.
-/
import Derived.Test.YtgoahcmgpjacjaaBytes
import Derived.Test.YtgoahcmgpjacjaaRows
import Derived.ChangeMaps5
namespace Go.Proofs.Ytgoahcmgpjacjaa
set_option linter.unusedSimpArgs false
set_option linter.unusedVariables false
open Go.ChangeShapes Go.WideShapes Go.ChangeAt Go.RowKit Go.Joins Go.Deep
theorem ownP : ownKnob Try.prog.godebug = none := by kernel_rfl
theorem laidP : laidOutB Try.prog = true := by kernel_rfl
end Go.Proofs.Ytgoahcmgpjacjaa
