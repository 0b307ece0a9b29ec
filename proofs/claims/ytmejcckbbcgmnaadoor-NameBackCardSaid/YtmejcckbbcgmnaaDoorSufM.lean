/-
  Layer 12, plain: the order of texts; places in the order of their ends, laid one by one; a row in order is one list (ahead of the code's landing).
-/
import Derived.Test.YtmejcckbbcgmnaaDoorMore
namespace Go.Proofs.YtmejcckbbcgmnaaDoor
set_option linter.unusedSimpArgs false
set_option linter.unusedVariables false
open Go.ChangeShapes Go.WideShapes Go.ChangeAt Go.RowKit Go.Joins Go.Deep
theorem slt_cons (a b : UInt8) (x y : List UInt8) : Op.bytesLess (a :: x) (b :: y) = (decide (a < b) || (a == b && Op.bytesLess x y)) := rfl
theorem slt_iff (a b : UInt8) (x y : List UInt8) : Op.bytesLess (a :: x) (b :: y) = true ↔ a.toNat < b.toNat ∨ (a = b ∧ Op.bytesLess x y = true) := by
  rw [slt_cons]
  simp [UInt8.lt_iff_toNat_lt]
theorem slt_irrefl : ∀ x : List UInt8, Op.bytesLess x x = false
  | [] => rfl
  | a :: x => by
    rw [slt_cons, slt_irrefl x]
    simp
end Go.Proofs.YtmejcckbbcgmnaaDoor
