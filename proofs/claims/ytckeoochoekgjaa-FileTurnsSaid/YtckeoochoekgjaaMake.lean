/-
  Over any program with bytes: make([]byte, n) as a block of bytes 00, and string(b) of a block that is known whole.
-/
import Derived.Test.YtckeoochoekgjaaBytes
import Derived.Deep.Upon
import Derived.Test.YtckeoochoekgjaaRows
import Derived.Deep.OwnRows
namespace Go.Proofs.Ytckeoochoekgjaa
set_option linter.unusedSimpArgs false
set_option linter.unusedVariables false
open Go.ChangeShapes Go.WideShapes Go.ChangeAt Go.RowKit Go.Joins Go.Deep
theorem mbyte_info : (Try.prog.info? 5).map (fun i => (i.zero, i.size, i.bytes)) = some (some (.int .u8 0), 1, 1) := by kernel_rfl
end Go.Proofs.Ytckeoochoekgjaa
