/-
 What the law of the last of these texts stands on, part 38.
-/
import Derived.Test.YtanjhbkbpalnaaaGreatMb24
set_option maxRecDepth 100000
set_option maxHeartbeats 8000000
open Go.Proofs.Tryz
namespace Go.Proofs.YtanjhbkbpalnaaaGreat
set_option linter.unusedSimpArgs false
set_option linter.unusedVariables false
open Go.ChangeShapes Go.WideShapes Go.ChangeAt Go.RowKit Go.Joins Go.Deep
theorem CFar.lt {W : World} {g : Nat} {ls : List Nat} {ok : Nat → Prop} (h : CFar W g ls ok) : CFar W g ls (fun k => k < W.heap.size ∧ ok k) := by
 obtain ⟨B, k, st, rows, h, hB, o1, o2, o3⟩ := h
 refine ⟨B, k, st, rows, h, hB, ⟨qaM h.gB hB, o1⟩, ⟨qaM h.hB hB, o2⟩, fun j hj A n c e hn a ha => ⟨?_, o3 j hj A n c e hn a ha⟩⟩
 obtain ⟨A2, c2, e2, hr⟩ := h.row j hj
 rw [e] at e2
 injection e2 with e3 e4 _
 subst e3 e4
 obtain ⟨b, off, e5, hb, _⟩ := hr.2 hn
 rw [ha] at e5
 injection e5 with e5
 rw [e5]
 exact qaM hb hB
end Go.Proofs.YtanjhbkbpalnaaaGreat
