/-
  Layer 20: a disk of a law's own, and what each act makes of it (ahead of the code's landing).
-/
import Derived.Test.YtgoahcmgpjacjaaGreatDisY
namespace Go.Proofs.YtgoahcmgpjacjaaGreat
set_option linter.unusedSimpArgs false
set_option linter.unusedVariables false
open Go.ChangeShapes Go.WideShapes Go.ChangeAt Go.RowKit Go.Joins Go.Deep
structure DAt (w W : World) (S : Nat → Prop) (g : Nat) (D : Dk) (t : Nat) : Prop where
  dr : DR W S g D
  sm : DSm t D
  new : ∀ k, S k → w.heap.size ≤ k
  below : Below w.heap.size w W
theorem DAt.on {w W W' : World} {S : Nat → Prop} {g : Nat} {D : Dk} {t : Nat} (h : DAt w W S g D t) (hb : Below W.heap.size W W') : DAt w W' S g D t :=
  ⟨h.dr.keep fun k hk => hb.block k (h.dr.lt k hk), h.sm, h.new, h.below.trans (hb.mono h.below.size)⟩
theorem DAt.op {w W W' : World} {S : Nat → Prop} {g : Nat} {D E : Dk} {t u : Nat} (h : DAt w W S g D t) (ho : DOp W W' S g E) (hs : DSm u E) : ∃ S', DAt w W' S' g E u ∧ Touch W W' S ∧ ∀ k, S' k → S k ∨ W.heap.size ≤ k := by
  obtain ⟨h1, S', h2, h3⟩ := ho
  refine ⟨S', ⟨h2, hs, fun k hk => ?_, h.below.trans (h1.below (fun k _ hk => h.new k hk) h.below.size)⟩, h1, h3⟩
  rcases h3 k hk with h4 | h4
  · exact h.new k h4
  · exact Nat.le_trans h.below.size h4
end Go.Proofs.YtgoahcmgpjacjaaGreat
