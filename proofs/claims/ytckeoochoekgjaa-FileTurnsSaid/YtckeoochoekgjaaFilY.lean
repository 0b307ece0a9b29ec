/-
  Layer 19: what the laws lean on.
-/
import Derived.Test.YtckeoochoekgjaaFilX
import Derived.Test.YtckeoochoekgjaaFrame
import Derived.Laws.StructEq
namespace Go.Proofs.Ytckeoochoekgjaa
set_option linter.unusedSimpArgs false
set_option linter.unusedVariables false
open Go.ChangeShapes Go.WideShapes Go.ChangeAt Go.RowKit Go.Joins Go.Deep
theorem fl_f0 (x y : Value) (w : World) : (Instr.field 23 (.agg #[x, y]) 0).run Try.prog w = .ok x w := by kernel_rfl
theorem fl_f1 (x y : Value) (w : World) : (Instr.field 23 (.agg #[x, y]) 1).run Try.prog w = .ok y w := by kernel_rfl
section
variable {H : Type} {enc : TypeId × Value → H} {P : Program} {w : World} {base : Nat} {spare : Nat → Bool} {held : Bool}
theorem open_fl {b0 : Nat} {t : TypeId} {f0 f1 : Field} {v : Value} {d : DataW H} {p : List MemPlace} (hs : P.underlying t = some (.struct #[f0, f1])) (hone : oneCellFields P #[f0, f1] = true) (hC : P.cellsOf t = 2)
    (h0 : P.underlying f0.type = some .string) (h1 : P.underlying f1.type = some .string) (hv : Value.okWide P w .any b0 t v) (h : DataW.Trod enc P w base spare held t v d p) :
    ∃ a b : List UInt8, v = .agg #[.string ⟨a.toArray⟩, .string ⟨b.toArray⟩] := by
  obtain ⟨v0, v1, y0, y1, m, rfl, -, -, k0, k1⟩ := open_agg2 hs hone hC hv h
  obtain ⟨s, e0, _, _⟩ := DataW.trod_string h0 k0
  obtain ⟨u, e1, _, _⟩ := DataW.trod_string h1 k1
  simp at e0 e1
  subst e0 e1
  exact ⟨s.data.toList, u.data.toList, by rw [← ba_list, ← ba_list]⟩
end
set_option maxRecDepth 100000 in
set_option maxHeartbeats 1000000 in
theorem fl_same_any (a b : List UInt8) (w : World) : Calls Try.prog 11 #[.agg #[.string ⟨a.toArray⟩, .string ⟨b.toArray⟩], .agg #[.string ⟨a.toArray⟩, .string ⟨b.toArray⟩]] w fun e w' => e = .returned (.bool true) ∧ Below w.heap.size w w' := by
  go_enter Try.func11, Try.ntmps11
  go_wp2
  go_ret
  exact ⟨rfl, by go_grown⟩
end Go.Proofs.Ytckeoochoekgjaa
