/-
  Layer 18, plain: names of files; back (P18.3), one (P18.4) (ahead of the code's landing).
-/
import Derived.Test.YtgoahcmgpjacjaaSufM
namespace Go.Proofs.Ytgoahcmgpjacjaa
set_option linter.unusedSimpArgs false
set_option linter.unusedVariables false
open Go.ChangeShapes Go.WideShapes Go.ChangeAt Go.RowKit Go.Joins Go.Deep
def nchr (c : UInt8) : Bool := decide ((97 ≤ c.toNat ∧ c.toNat ≤ 122) ∨ (48 ≤ c.toNat ∧ c.toNat ≤ 57) ∨ c.toNat = 46 ∨ c.toNat = 45)
def nchkF (s : List UInt8) : Int := if 1 ≤ s.length ∧ s.length ≤ 64 ∧ s.all nchr = true then 0 else 180
end Go.Proofs.Ytgoahcmgpjacjaa
