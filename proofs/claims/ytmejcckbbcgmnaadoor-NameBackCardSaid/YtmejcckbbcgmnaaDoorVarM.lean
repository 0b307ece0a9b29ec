/-
  Layer 2, plain: the bytes of a number, what is taken of bytes, fixed numbers, lists: and that each number has just one form.
-/
import Derived.Test.YtmejcckbbcgmnaaDoorMore
namespace Go.Proofs.YtmejcckbbcgmnaaDoor
set_option linter.unusedSimpArgs false
set_option linter.unusedVariables false
open Go.ChangeShapes Go.WideShapes Go.ChangeAt Go.RowKit Go.Joins Go.Deep
def dg : Nat → Nat → List UInt8
  | 0, _ => []
  | f + 1, n => if n < 128 then [UInt8.ofNat n] else UInt8.ofNat (128 + n % 128) :: dg f (n / 128)
def putB (n : Int) : List UInt8 := if n < 0 then [] else dg 9 n.toNat
end Go.Proofs.YtmejcckbbcgmnaaDoor
