/-
 What the law of the last of these texts stands on, part 49.
-/
import Derived.Test.YtanjhbkbpalnaaaGreatMa32
import Derived.Test.YtanjhbkbpalnaaaGreatMa42
import Derived.Test.YtanjhbkbpalnaaaGreatMa47
set_option maxRecDepth 100000
set_option maxHeartbeats 8000000
open Go.Proofs.Tryz
namespace Go.Proofs.YtanjhbkbpalnaaaGreat
set_option linter.unusedSimpArgs false
set_option linter.unusedVariables false
open Go.ChangeShapes Go.WideShapes Go.ChangeAt Go.RowKit Go.Joins Go.Deep
theorem hzeros (L C : List Int) (hl : L.length = C.length) (hC : ∀ i (h : i < C.length), C[i] = 0) (hp : ∀ i (h : i < L.length) (hc : i < C.length), 0 < L[i] ↔ 0 < C[i]) (h0 : ∀ i (h : i < L.length), 0 ≤ L[i]) : L = List.replicate L.length 0 :=
 List.eq_replicate_iff.2 ⟨rfl, fun b hb => by
  obtain ⟨i, hi, rfl⟩ := qaJ hb
  have a := h0 i hi
  have b := hp i hi (by omega)
  rw [hC i (by omega)] at b
  omega⟩
theorem hL_nil : hL [] = List.replicate 257 0 := by
 have hg := hL_good (l := []) (by simp)
 have := hzeros (hL []) (yam []) hg.len (fun i h => by rw [ya7, List.count_nil]; rfl) hg.pos (fun i h => (hg.rng i h).1)
 rw [yce] at this
 exact this
theorem hB_nil : hB [] = [0, 0, 0, 0, 0, 0, 0, 0] ++ ([0, 0, 0, 0, 1, 0, 0, 0] ++ [0, 0, 0, 0, 1]) := by
 have h1 : hB [] = yaw (List.replicate 257 0) := by
  unfold hB
  rw [hL_nil]
  show _ ++ [] = _
  rw [qa8]
 have h2 := yhg 0 257 [] (by decide) (by simp)
 rw [qa8] at h2
 rw [h1, h2]
 decide +kernel
theorem htext_nil : text (hB []) = [0, 8, 8] := by
 rw [hB_nil, ybw 1 _ _ rfl, ybw 1 _ _ rfl, ybx _ (by decide) (by decide), ybx _ (by decide) (by decide), ybx _ (by decide) (by decide)]
 decide
end Go.Proofs.YtanjhbkbpalnaaaGreat
