/-
  Layer 20, the document's: Boot: what it holds on to; rows lie apart from a box (ahead of the code's landing).
-/
import Derived.Test.YtgoahcmgpjacjaaDisT
import Derived.Test.YtgoahcmgpjacjaaDisE
import Derived.Test.YtgoahcmgpjacjaaFilR
import Derived.Deep.DeepCutAuto
namespace Go.Proofs.Ytgoahcmgpjacjaa
set_option linter.unusedSimpArgs false
set_option linter.unusedVariables false
open Go.ChangeShapes Go.WideShapes Go.ChangeAt Go.RowKit Go.Joins Go.Deep
theorem flleft_max (f : Fl) (cut : Int) (mark : List UInt8) {B : Nat} (h1 : f.1.length ≤ B) (h2 : f.2.length ≤ B) : (flleft f cut mark).length ≤ B := by
  cases h : flpre f with
  | true =>
    have h3 := of_decide_eq_true h
    have h4 := fln_le f cut h3.1
    rw [flleft_len h]
    omega
  | false =>
    unfold flleft
    rw [h, if_neg (by decide)]
    split
    · exact h2
    · exact h1
def DBnd (E : Dk) : Prop := ∀ f ∈ E.files, f.1.length ≤ 1000000 ∧ f.2.length ≤ 1000000
theorem DBnd.file {E : Dk} (h : DBnd E) (n : Int) : (E.file n).1.length ≤ 1000000 ∧ (E.file n).2.length ≤ 1000000 := by
  unfold Dk.file
  rw [List.getD_eq_getElem?_getD]
  cases hg : E.files[n.toNat]? with
  | none => exact ⟨by simp, by simp⟩
  | some f => exact h f (List.mem_of_getElem? hg)
theorem DBnd.put_ {E : Dk} (h : DBnd E) (n : Int) {f : Fl} (hf : f.1.length ≤ 1000000 ∧ f.2.length ≤ 1000000) : DBnd (E.put n f) := fun x hx => by
  rcases List.mem_or_eq_of_mem_set hx with h1 | h1
  · exact h x h1
  · rw [h1]; exact hf
end Go.Proofs.Ytgoahcmgpjacjaa
