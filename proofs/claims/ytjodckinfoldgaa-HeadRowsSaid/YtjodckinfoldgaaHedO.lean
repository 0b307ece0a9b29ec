/-
  Layer 21: a header, and a row of blocks, as arguments (ahead of the code's landing).
-/
import Derived.Test.YtjodckinfoldgaaHedX
import Derived.Test.YtjodckinfoldgaaFrame
namespace Go.Proofs.Ytjodckinfoldgaa
set_option linter.unusedSimpArgs false
set_option linter.unusedVariables false
open Go.ChangeShapes Go.WideShapes Go.ChangeAt Go.RowKit Go.Joins Go.Deep
section
variable {H : Type} {enc : TypeId × Value → H} {w : World} {base : Nat} {spare : Nat → Bool} {held : Bool}
theorem hcells_int : Try.prog.cellsOf 3 = 1 := by kernel_rfl
theorem hcells_head : Try.prog.cellsOf 23 = 3 := by kernel_rfl
theorem hcells_meta : Try.prog.cellsOf 55 = 7 := by kernel_rfl
set_option maxRecDepth 100000 in
theorem open_head_cells {fuel : Nat} {cs : List Value} {x : DataW H × List MemPlace} (h : DataW.trod enc Try.prog w base spare held fuel 23 cs = some x) : ∃ y : Hd, cs = (hdc y).toList := by
  obtain ⟨xs, n, _, rfl, hl, hlen, hf⟩ := DataW.trod_struct Try.underlying23 h
  rw [hcells_head] at hl
  match xs, hlen, cs, hl with
  | [y0, y1, y2], _, [u0, u1, u2], _ =>
    have k0 := hf 0 _ rfl
    have k1 := hf 1 _ rfl
    have k2 := hf 2 _ rfl
    simp only [List.getElem_toArray, List.getElem_cons_zero, List.getElem_cons_succ, hcells_int, List.drop_zero, List.drop_succ_cons, List.take_succ_cons, List.take_zero, List.getElem?_cons_zero, List.getElem?_cons_succ] at k0 k1 k2
    obtain ⟨a, e0, _, _⟩ := DataW.trod_int Try.underlying3 k0
    obtain ⟨b, e1, _, _⟩ := DataW.trod_int Try.underlying3 k1
    obtain ⟨c, e2, _, _⟩ := DataW.trod_int Try.underlying3 k2
    simp only [List.cons.injEq, and_true] at e0 e1 e2
    subst e0 e1 e2
    exact ⟨(a, b, c), rfl⟩
set_option maxRecDepth 100000 in
theorem open_head {b0 : Nat} {v : Value} {d : DataW H} {p : List MemPlace} (hv : Value.okWide Try.prog w .any b0 23 v) (h : DataW.Trod enc Try.prog w base spare held 23 v d p) : ∃ y : Hd, v = .agg (hdc y) := by
  have hv' := hv
  simp only [Value.okWide, Try.underlying23] at hv'
  obtain ⟨cs, rfl, h2, _⟩ := hv'
  obtain ⟨fuel, hf⟩ := h
  obtain ⟨y, e⟩ := open_head_cells hf
  refine ⟨y, ?_⟩
  change cs.toList = _ at e
  rw [Array.toList_inj.1 e]
set_option maxRecDepth 100000 in
theorem open_meta_cells {fuel : Nat} {cs : List Value} {x : DataW H × List MemPlace} (h : DataW.trod enc Try.prog w base spare held fuel 55 cs = some x) : ∃ y : Mt, cs = mtc y := by
  obtain ⟨xs, n, _, rfl, hl, hlen, hf⟩ := DataW.trod_struct Try.underlying55 h
  rw [hcells_meta] at hl
  match xs, hlen, cs, hl with
  | [y0, y1, y2, y3, y4, y5, y6], _, [u0, u1, u2, u3, u4, u5, u6], _ =>
    have k0 := hf 0 _ rfl
    have k1 := hf 1 _ rfl
    have k2 := hf 2 _ rfl
    have k3 := hf 3 _ rfl
    have k4 := hf 4 _ rfl
    have k5 := hf 5 _ rfl
    have k6 := hf 6 _ rfl
    simp only [List.getElem_toArray, List.getElem_cons_zero, List.getElem_cons_succ, hcells_int, List.drop_zero, List.drop_succ_cons, List.take_succ_cons, List.take_zero, List.getElem?_cons_zero, List.getElem?_cons_succ] at k0 k1 k2 k3 k4 k5 k6
    obtain ⟨a0, e0, _, _⟩ := DataW.trod_int Try.underlying3 k0
    obtain ⟨a1, e1, _, _⟩ := DataW.trod_int Try.underlying3 k1
    obtain ⟨a2, e2, _, _⟩ := DataW.trod_int Try.underlying3 k2
    obtain ⟨a3, e3, _, _⟩ := DataW.trod_int Try.underlying3 k3
    obtain ⟨a4, e4, _, _⟩ := DataW.trod_int Try.underlying3 k4
    obtain ⟨a5, e5, _, _⟩ := DataW.trod_int Try.underlying3 k5
    obtain ⟨a6, e6, _, _⟩ := DataW.trod_int Try.underlying3 k6
    simp only [List.cons.injEq, and_true] at e0 e1 e2 e3 e4 e5 e6
    subst e0 e1 e2 e3 e4 e5 e6
    exact ⟨(a0, a1, a2, a3, a4, a5, a6), rfl⟩
set_option maxRecDepth 100000 in
theorem open_metas {b0 : Nat} {v : Value} {d : DataW H} {p : List MemPlace} (hv : Value.okWide Try.prog w .any b0 37 v) (h : DataW.Trod enc Try.prog w base spare held 37 v d p) :
    ∃ (A : Option Addr) (l : List Mt) (c : Nat), v = .slice A l.length c ∧ l.length ≤ maxLen ∧ l.length ≤ c ∧ Reads w w.heap.size 7 A l.length (dcs mtc l) := by
  obtain ⟨A, n, c, rfl⟩ := okWide_slice Try.underlying37 hv
  obtain ⟨fuel, hf⟩ := h
  rcases open_slice Try.underlying37 hf with ⟨hcs, _⟩ | ⟨a, len, cap, m, q, D, Pl, hcs, hlc, hl, hm, hmm, _, hx⟩
  · simp [Value.cells] at hcs
    obtain ⟨rfl, rfl, rfl⟩ := hcs
    exact ⟨none, [], 0, rfl, Nat.zero_le _, Nat.zero_le _, Reads.none_⟩
  · simp [Value.cells] at hcs
    obtain ⟨rfl, rfl, rfl⟩ := hcs
    have each : ∀ i, i < n → ∃ y : Mt, ∀ j u, (mtc y)[j]? = some u → w.cell? (a.add (i * 7 + j)) = some u := fun i hi => by
      obtain ⟨cs, g, ht2⟩ := hx i (by rw [hmm]; split <;> omega)
      obtain ⟨y, e⟩ := open_meta_cells ht2
      rw [hcells_meta] at g
      obtain ⟨-, hlen, hc⟩ := World.cells?_some g
      refine ⟨y, fun j u hu => ?_⟩
      subst e
      have hj : j < 7 := by
        have := (List.getElem?_eq_some_iff.1 hu).1
        rw [mtc_len] at this
        exact this
      have := hc j hj
      rw [add_of_add] at this
      rw [this]
      first | exact hu | simpa using hu
    obtain ⟨f, hf2⟩ := choose_lt each
    refine ⟨some a, (List.range n).map f, c, by simp, by simp; omega, by simp; omega, ⟨dcs_length mtc 7 mtc_len _, fun hn => ?_⟩⟩
    have hn' : 0 < n := by simpa using hn
    have h3 := hf2 0 hn' 0 _ rfl
    have hlt0 := cell_lt h3
    have hsp0 : a.spot = none := by simpa [Addr.add] using World.cell?_spot h3
    obtain ⟨b, off, sp⟩ := a
    simp only at hsp0
    subst hsp0
    refine ⟨b, off, rfl, by simpa [block_of_add] using hlt0, fun j u hu => ?_⟩
    rw [← add_mk]
    have hj : j < n * 7 := by
      have := (List.getElem?_eq_some_iff.1 hu).1
      rw [dcs_length mtc 7 mtc_len] at this
      simpa using this
    obtain ⟨i, k, hi, hk, rfl⟩ : ∃ i k, i < n ∧ k < 7 ∧ j = i * 7 + k := ⟨j / 7, j % 7, by omega, by omega, by omega⟩
    rw [dcs_at mtc 7 mtc_len _ i (by simpa using hi) k hk] at hu
    refine hf2 i hi k u ?_
    simpa using hu
end
end Go.Proofs.Ytjodckinfoldgaa
