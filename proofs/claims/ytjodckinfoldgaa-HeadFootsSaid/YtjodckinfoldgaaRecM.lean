/-
  Layer 15, plain: records as bytes, rows of records; back (P15.5) and rows (P15.6) (ahead of the code's landing).
-/
import Derived.Test.YtjodckinfoldgaaVarM
namespace Go.Proofs.Ytjodckinfoldgaa
set_option linter.unusedSimpArgs false
set_option linter.unusedVariables false
open Go.ChangeShapes Go.WideShapes Go.ChangeAt Go.RowKit Go.Joins Go.Deep
theorem rnum_put (pre rest : List UInt8) (n : Int) (h0 : 0 ≤ n) (h : n < 9223372036854775808) (p : Int) (hp : p = (pre.length : Int)) : getF (pre ++ (putB n ++ rest)) p = (n, (pre.length : Int) + (putB n).length, 0) := by
  subst hp
  have := getF_put pre rest n.toNat (by omega)
  rw [putB_of h0, this, Int.toNat_of_nonneg h0]
theorem rnum_ok {s : List UInt8} {p : Int} (h : (getF s p).2.2 = 0) : 0 ≤ p ∧ p ≤ s.length ∧ 0 ≤ (getF s p).1 ∧ (getF s p).1 < 9223372036854775808 ∧ p < (getF s p).2.1 ∧ (getF s p).2.1 ≤ s.length ∧ (s.drop p.toNat).take ((getF s p).2.1 - p).toNat = putB (getF s p).1 := by
  unfold getF at h ⊢
  by_cases hp : 0 ≤ p ∧ p ≤ s.length
  · rw [if_pos hp] at h ⊢
    by_cases h2 : (getR (s.drop p.toNat)).2.2 = 0
    · rw [if_pos h2]
      obtain ⟨m, hm, e1, e2, e3, e4⟩ := getR_ok _ h2
      rw [List.length_drop] at e3
      simp only
      refine ⟨hp.1, hp.2, by omega, by omega, by omega, by omega, ?_⟩
      rw [e1, putB_of (by omega), Int.toNat_natCast, show (p + ((getR (s.drop p.toNat)).2.1 : Nat) - p : Int).toNat = (getR (s.drop p.toNat)).2.1 from by omega]
      exact e4
    · rw [if_neg h2] at h
      exact absurd h h2
  · rw [if_neg hp] at h
    simp at h
theorem rput_len (n : Int) : (putB n).length ≤ 9 := by
  unfold putB
  split
  · exact Nat.zero_le _
  · exact dg_le 9 _
end Go.Proofs.Ytjodckinfoldgaa
