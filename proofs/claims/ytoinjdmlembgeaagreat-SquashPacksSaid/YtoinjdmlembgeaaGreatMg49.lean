/-
 What the law of the last of these texts stands on, part 49.
-/
import Derived.Test.YtoinjdmlembgeaaGreatMg40
import Derived.Test.YtoinjdmlembgeaaGreatMg47
namespace Go.Proofs.YtoinjdmlembgeaaGreat
set_option linter.unusedSimpArgs false
set_option linter.unusedVariables false
open Go.ChangeShapes Go.WideShapes Go.ChangeAt Go.RowKit Go.Joins Go.Deep
theorem hzeros (L C : List Int) (hl : L.length = C.length) (hC : ∀ i (h : i < C.length), C[i] = 0) (hp : ∀ i (h : i < L.length) (hc : i < C.length), 0 < L[i] ↔ 0 < C[i]) (h0 : ∀ i (h : i < L.length), 0 ≤ L[i]) : L = List.replicate L.length 0 :=
 List.eq_replicate_iff.2 ⟨rfl, fun b hb => by
  obtain ⟨i, hi, rfl⟩ := List.getElem_of_mem hb
  have a := h0 i hi
  have b := hp i hi (by omega)
  rw [hC i (by omega)] at b
  omega⟩
theorem hL_nil : hL [] = List.replicate 257 0 := by
 have hg := hL_good (l := []) (by simp)
 have := hzeros (hL []) (yam []) hg.len (fun i h => by rw [ya9, List.count_nil]; rfl) hg.pos (fun i h => (hg.rng i h).1)
 rw [ycn] at this
 exact this
theorem hB_nil : hB [] = [0, 0, 0, 0, 0, 0, 0, 0] ++ ([0, 0, 0, 0, 1, 0, 0, 0] ++ [0, 0, 0, 0, 1]) := by
 have h1 : hB [] = yav (List.replicate 257 0) := by
  unfold hB
  rw [hL_nil]
  show _ ++ [] = _
  rw [List.append_nil]
 have h2 := yh8 0 257 [] (by decide) (by simp)
 rw [List.append_nil] at h2
 rw [h1, h2]
 decide +kernel
theorem htext_nil : text (hB []) = [0, 8, 8] := by
 rw [hB_nil, ybz 1 _ _ rfl, ybz 1 _ _ rfl, yb0 _ (by decide) (by decide), yb0 _ (by decide) (by decide), yb0 _ (by decide) (by decide)]
 decide
end Go.Proofs.YtoinjdmlembgeaaGreat
