/-
  Layer 8, plain: the program's Check is the document's (parted from LenL2).
-/
import Derived.Test.YtckekhghcelcpaaLenO
namespace Go.Proofs.Ytckekhghcelcpaa
set_option linter.unusedSimpArgs false
set_option linter.unusedVariables false
open Go.ChangeShapes Go.WideShapes Go.ChangeAt Go.RowKit Go.Joins Go.Deep

theorem lpart_used : ∀ l : List Int, usedF l ≤ partF l ∧ partF l ≤ 16384 * usedF l
  | [] => by simp [usedF, partF]
  | x :: t => by
    obtain ⟨h1, h2⟩ := lpart_used t
    have e : usedF (x :: t) = (if 0 < x then 1 else 0) + usedF t := by
      unfold usedF
      rw [List.filter_cons]
      by_cases h : 0 < x
      · rw [if_pos (by simpa using h), if_pos h, List.length_cons]; omega
      · rw [if_neg (by simpa using h), if_neg h]; omega
    rw [e]
    show _ ≤ (if 0 < x then 2 ^ (15 - x.toNat) else 0) + partF t ∧ _
    by_cases h : 0 < x
    · rw [if_pos h, if_pos h]
      have h3 : (2 : Nat) ^ (15 - x.toNat) ≤ 2 ^ 14 := Nat.pow_le_pow_right (by omega) (by omega)
      have h4 : 0 < (2 : Nat) ^ (15 - x.toNat) := Nat.pow_pos (by omega)
      constructor
      · omega
      · show (if 0 < x then 2 ^ (15 - x.toNat) else 0) + partF t ≤ _
        rw [if_pos h]
        omega
    · rw [if_neg h, if_neg h]
      constructor
      · omega
      · show (if 0 < x then 2 ^ (15 - x.toNat) else 0) + partF t ≤ _
        rw [if_neg h]
        omega
/-- The program's answer is the document's. -/
theorem lcheck_ref (l : List Int) : pcheckF l = checkF l := by
  unfold pcheckF checkF
  by_cases h : 257 < l.length
  · rw [if_pos h, if_pos h]
  · rw [if_neg h, if_neg h]
    obtain ⟨h1, h2⟩ := lpart_used l
    unfold sumF fullF
    by_cases hg : lgood l = true
    · rw [if_pos hg, if_pos hg]
      by_cases u0 : usedF l = 0
      · rw [if_pos u0, if_pos (by omega), if_pos (by omega)]
      · rw [if_neg u0]
        by_cases u1 : usedF l = 1
        · rw [if_pos u1]
          by_cases hp : (partF l : Int) = 16384
          · rw [if_pos hp, if_pos (by omega)]
          · rw [if_neg hp, if_neg (by omega)]
        · rw [if_neg u1]
          by_cases hp : (partF l : Int) = 32768
          · rw [if_pos hp, if_pos (by omega)]
          · rw [if_neg hp, if_neg (by omega)]
    · rw [if_neg hg, if_neg hg, if_neg (by omega)]
end Go.Proofs.Ytckekhghcelcpaa
