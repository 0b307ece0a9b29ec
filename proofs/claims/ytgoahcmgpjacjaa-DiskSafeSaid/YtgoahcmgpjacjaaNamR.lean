/-
  Layer 18, the document's: Check, six, Segment, unsix (ahead of the code's landing).
-/
import Derived.Test.YtgoahcmgpjacjaaNamM
import Derived.Test.YtgoahcmgpjacjaaVarP
import Derived.Outline
namespace Go.Proofs.Ytgoahcmgpjacjaa
set_option linter.unusedSimpArgs false
set_option linter.unusedVariables false
open Go.ChangeShapes Go.WideShapes Go.ChangeAt Go.RowKit Go.Joins Go.Deep
theorem nchk_yes {s : List UInt8} (h1 : 1 ≤ s.length) (h2 : s.length ≤ 64) (h : ∀ j (hj : j < s.length), nchr s[j] = true) : nchkF s = 0 := by
  refine if_pos ⟨h1, h2, List.all_eq_true.2 fun c hc => ?_⟩
  obtain ⟨j, hj, rfl⟩ := List.getElem_of_mem hc
  exact h j hj
theorem nchk_no {s : List UInt8} {j : Nat} (hj : j < s.length) (h : nchr s[j] = false) : nchkF s = 180 := by
  refine if_neg fun hc => ?_
  have := List.all_eq_true.1 hc.2.2 _ (List.getElem_mem hj)
  rw [h] at this
  cases this
end Go.Proofs.Ytgoahcmgpjacjaa
