/-
  Over any program: a world in which all but one block is as it was.
-/
import Derived.Test.YtjodckinfoldgaaMore
namespace Go.Proofs.Ytjodckinfoldgaa
set_option linter.unusedSimpArgs false
set_option linter.unusedVariables false
open Go.ChangeShapes Go.WideShapes Go.ChangeAt Go.RowKit Go.Joins Go.Deep
section
variable {w w' w'' : World} {g : Nat} {row : Option Nat}
theorem grow_below {B : Nat} (h : Below B w w') (hB : w.heap.size ≤ B) : w.grownBy w' row := ⟨h.os, h.tape, h.output, h.size, fun i hi _ => h.block i (by omega)⟩
theorem grow_set (h : w.grownBy w' (some g)) {p : Addr} (hp : p.block = g ∨ w.heap.size ≤ p.block) (u : Value) : w.grownBy (w'.setCell p u) (some g) :=
  ⟨h.os, h.tape, h.output, by have := h.size; simpa [World.setCell] using this, fun i hi hr => by
    have e : i ≠ p.block := by
      rcases hp with hp | hp
      · exact fun e => hr (by rw [e, hp])
      · omega
    exact (Below.heap_setCell _ _ _ _ e).trans (h.block i hi hr)⟩
theorem Blk.grow {b : Nat} {t : TypeId} {cs : Array Value} (h : Blk w b t cs) (hg : w.grownBy w' (some g)) (hb : b ≠ g) : Blk w' b t cs := (hg.block b h.lt (fun e => by injection e with e; exact hb e)).trans h
end
section
variable {w w' : World} {g : Nat} {t : TypeId} {cs : Array Value}
theorem Blk.row (h : Blk w g t cs) (cs' : Array Value) : Blk (w.setRow g cs') g t cs' := setRow_heap w g _ _ t _ h
end
end Go.Proofs.Ytjodckinfoldgaa
