/-
  Layer 5: the probe that each statement of the layer asks beside itself returns true; how each law begins: the table in a variable of its own.
-/
import Derived.Test.YtodllghfcdbbpaaCrcW
namespace Go.Proofs.Ytodllghfcdbbpaa
set_option linter.unusedSimpArgs false
set_option linter.unusedVariables false
open Go.ChangeShapes Go.WideShapes Go.ChangeAt Go.RowKit Go.Joins Go.Deep
theorem zero_tab' : ∃ Z : List Value, Z.length = 256 ∧ ∀ w, (zeroValue 49).run Try.prog w = .ok (.agg Z.toArray) w := ⟨tab (ents 0), by rw [tab_length, ents_len], zero_tab.1⟩
theorem size_eq {Z C : List Value} (h : Z.length = 256) (k : C.length = 256) : Z.toArray.size = C.toArray.size := by simp [h, k]
theorem info_arr {C : List Value} (h : C.length = 256) : (Try.prog.info? 49).map (·.size) = some C.toArray.size := by rw [hi_tab h]; simp
end Go.Proofs.Ytodllghfcdbbpaa
