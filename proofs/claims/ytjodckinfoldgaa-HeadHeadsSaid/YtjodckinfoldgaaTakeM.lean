/-
  Layer 3, plain: what is taken of bytes piece by piece, up to the first fault; that parts are the whole, that the pieces are what stands there, and that what stands behind plays no part.
-/
import Derived.Test.YtjodckinfoldgaaVarM
namespace Go.Proofs.Ytjodckinfoldgaa
set_option linter.unusedSimpArgs false
set_option linter.unusedVariables false
open Go.ChangeShapes Go.WideShapes Go.ChangeAt Go.RowKit Go.Joins Go.Deep
def textF (l : List UInt8) (p n : Int) : List UInt8 × Int × Int :=
  if n < 0 then ([], 0, 2) else if (l.length : Int) - p < n then ([], 0, 4) else ((l.drop p.toNat).take n.toNat, p + n, 0)
def pieceF (l : List UInt8) (p k n : Int) : (Int × List UInt8) × Int × Int :=
  if k = 1 then (((unfixF l p 1).1, []), (unfixF l p 1).2.1, (unfixF l p 1).2.2)
  else if k = 2 then (((getF l p).1, []), (getF l p).2.1, (getF l p).2.2)
  else if k = 3 then (((unfixF l p n).1, []), (unfixF l p n).2.1, (unfixF l p n).2.2)
  else if k = 4 then ((0, (textF l p n).1), (textF l p n).2.1, (textF l p n).2.2)
  else if k = 5 then ((0, l.drop p.toNat), l.length, 0)
  else if k = 6 then (if p < l.length then ((0, []), 0, 6) else ((0, []), p, 0))
  else ((0, []), 0, 2)
theorem getF_ok' {l : List UInt8} {p : Int} (h : (getF l p).2.2 = 0) : 0 ≤ p ∧ p < (getF l p).2.1 ∧ (getF l p).2.1 ≤ l.length ∧ 0 ≤ (getF l p).1 ∧ (getF l p).1 < 9223372036854775808 := by
  unfold getF at h ⊢
  by_cases hp : 0 ≤ p ∧ p ≤ l.length
  · rw [if_pos hp] at h ⊢
    by_cases h2 : (getR (l.drop p.toNat)).2.2 = 0
    · rw [if_pos h2]
      obtain ⟨m, hm, e1, e2, e3, _⟩ := getR_ok _ h2
      rw [List.length_drop] at e3
      simp only
      omega
    · rw [if_neg h2] at h
      exact absurd h h2
  · rw [if_neg hp] at h
    simp at h
end Go.Proofs.Ytjodckinfoldgaa
