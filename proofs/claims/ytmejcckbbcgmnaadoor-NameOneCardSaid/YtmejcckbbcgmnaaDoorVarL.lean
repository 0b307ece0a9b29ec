/-
  Layer 2: what List of package varint returns, for every list that can be read.
-/
import Derived.Test.YtmejcckbbcgmnaaDoorVarP
namespace Go.Proofs.YtmejcckbbcgmnaaDoor
set_option linter.unusedSimpArgs false
set_option linter.unusedVariables false
open Go.ChangeShapes Go.WideShapes Go.ChangeAt Go.RowKit Go.Joins Go.Deep
def laid (l : List Int) (k : Nat) : List UInt8 := putB l.length ++ (l.take k).flatMap putB
end Go.Proofs.YtmejcckbbcgmnaaDoor
