/-
  Over any program: an array of integers of any length, by value, as an argument.
-/
import Derived.Test.YtajhenjjhbecoaaFrame
namespace Go.Proofs.Ytajhenjjhbecoaa
set_option linter.unusedSimpArgs false
set_option linter.unusedVariables false
open Go.ChangeShapes Go.WideShapes Go.ChangeAt Go.RowKit Go.Joins Go.Deep
section
variable {H : Type} {enc : TypeId × Value → H} {P : Program} {w : World} {base : Nat} {spare : Nat → Bool} {held : Bool}
theorem open_arr {k : IntKind} {b0 n : Nat} {t e : TypeId} {v : Value} {d : DataW H} {p : List MemPlace} (ht : P.underlying t = some (.array n e)) (he : P.underlying e = some (.int k)) (ce : P.cellsOf e = 1) (ct : P.cellsOf t = n)
    (hv : Value.okWide P w .any b0 t v) (h : DataW.Trod enc P w base spare held t v d p) : ∃ xs : List Int, xs.length = n ∧ v = .agg (xs.map (Value.int k)).toArray ∧ ∀ x ∈ xs, (Lit.int k x).wf = true := by
  have hv' := hv
  simp only [Value.okWide, ht] at hv'
  obtain ⟨cs, rfl, h2, _⟩ := hv'
  have hsz : cs.size = n := h2.trans ct
  obtain ⟨fuel, hf⟩ := h
  obtain ⟨xs, m, _, _, hxl, hx, hi⟩ := DataW.trod_array ht hf
  have each : ∀ i, i < n → ∃ a : Int, cs[i]? = some (.int k a) ∧ (Lit.int k a).wf = true := by
    intro i hin
    have g := hi i hin
    rw [ce] at g
    have hcs : ((Value.agg cs).cells.toList.drop (i * 1)).take 1 = [cs[i]'(by omega)] := by
      simp only [Value.cells, Nat.mul_one]
      rw [List.drop_eq_getElem_cons (by simpa using (by omega : i < cs.size))]
      simp
    rw [hcs] at g
    obtain ⟨y, ey⟩ : ∃ y, xs[i]? = some y := ⟨xs[i]'(by omega), List.getElem?_eq_getElem (by omega)⟩
    rw [ey] at g
    obtain ⟨a, ea, _, wa⟩ := DataW.trod_int he g
    simp only [List.cons.injEq, and_true] at ea
    exact ⟨a, by rw [Array.getElem?_eq_getElem (by omega), ea], wa⟩
  obtain ⟨q, hq⟩ := choose_lt each
  refine ⟨(List.range n).map q, by simp, ?_, ?_⟩
  · congr 1
    apply Array.ext'
    apply List.ext_getElem?
    intro i
    by_cases hin : i < n
    · have := (hq i hin).1
      simp [hin, this]
    · simp [hin, hsz]
  · intro x hx
    obtain ⟨i, hir, rfl⟩ := List.mem_map.1 hx
    exact (hq i (List.mem_range.1 hir)).2
end
end Go.Proofs.Ytajhenjjhbecoaa
