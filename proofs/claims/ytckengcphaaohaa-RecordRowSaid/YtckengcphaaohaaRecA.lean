/-
  Layer 15: records in memory (three cells each), and as arguments, over any program (ahead of the code's landing).
-/
import Derived.Test.YtckengcphaaohaaRecM
import Derived.Test.YtckengcphaaohaaBase
import Derived.Test.YtckengcphaaohaaBytes
import Derived.Lib.SmallJoins
import Derived.Deep.Slices
import Derived.Deep.Strs
namespace Go.Proofs.Ytckengcphaaohaa
set_option linter.unusedSimpArgs false
set_option linter.unusedVariables false
open Go.ChangeShapes Go.WideShapes Go.ChangeAt Go.RowKit Go.Joins Go.Deep
def rval (r : Rc) : Value := .agg #[.int .i64 r.1, .int .i64 r.2.1, .string ⟨r.2.2.toArray⟩]
def rcs (l : List Rc) : List Value := l.flatMap fun r => [.int .i64 r.1, .int .i64 r.2.1, .string ⟨r.2.2.toArray⟩]
theorem rcs_cons (r : Rc) (l : List Rc) : rcs (r :: l) = .int .i64 r.1 :: .int .i64 r.2.1 :: .string ⟨r.2.2.toArray⟩ :: rcs l := rfl
theorem rcs_length (l : List Rc) : (rcs l).length = l.length * 3 := by
  induction l with
  | nil => rfl
  | cons r l ih => rw [rcs_cons]; simp [ih]; omega
theorem rcs_app (a b : List Rc) : rcs (a ++ b) = rcs a ++ rcs b := by simp [rcs]
theorem rcs_at (l : List Rc) : ∀ (i : Nat) (h : i < l.length), (rcs l)[i * 3]? = some (.int .i64 l[i].1) ∧ (rcs l)[i * 3 + 1]? = some (.int .i64 l[i].2.1) ∧ (rcs l)[i * 3 + 2]? = some (.string ⟨l[i].2.2.toArray⟩) := by
  induction l with
  | nil => intro i h; cases h
  | cons r l ih =>
    intro i h
    cases i with
    | zero => exact ⟨rfl, rfl, rfl⟩
    | succ i =>
      rw [rcs_cons, show (i + 1) * 3 = i * 3 + 1 + 1 + 1 from by omega]
      simpa using ih i (by simpa using h)
theorem rec_cells {w : World} {B n : Nat} {A : Option Addr} {l : List Rc} (hr : Reads w B 3 A n (rcs l)) (hl : l.length = n) (k : Nat) (hk : k < n) :
    ∃ b off, A = some ⟨b, off, none⟩ ∧ b < B ∧ ∀ i (hi : i < l.length), w.cell? ⟨b, off + i * 3, none⟩ = some (.int .i64 l[i].1) ∧ w.cell? ⟨b, off + i * 3 + 1, none⟩ = some (.int .i64 l[i].2.1) ∧ w.cell? ⟨b, off + i * 3 + 2, none⟩ = some (.string ⟨l[i].2.2.toArray⟩) := by
  obtain ⟨b, off, e, hb, hc⟩ := hr.2 (by omega)
  refine ⟨b, off, e, hb, fun i hi => ?_⟩
  obtain ⟨h0, h1, h2⟩ := rcs_at l i hi
  exact ⟨hc _ _ h0, hc _ _ h1, hc _ _ h2⟩
section
variable {H : Type} {enc : TypeId × Value → H} {P : Program} {w : World} {base : Nat} {spare : Nat → Bool} {held : Bool}
theorem open_rec {b0 : Nat} {t : TypeId} {f0 f1 f2 : Field} {v : Value} {d : DataW H} {p : List MemPlace} (hs : P.underlying t = some (.struct #[f0, f1, f2])) (hone : oneCellFields P #[f0, f1, f2] = true) (hC : P.cellsOf t = 3)
    (h0 : P.underlying f0.type = some (.int .i64)) (h1 : P.underlying f1.type = some (.int .i64)) (h2 : P.underlying f2.type = some .string) (hv : Value.okWide P w .any b0 t v) (h : DataW.Trod enc P w base spare held t v d p) :
    ∃ r : Rc, v = rval r ∧ r.1 < 9223372036854775808 ∧ r.2.1 < 9223372036854775808 := by
  obtain ⟨v0, v1, v2, y0, y1, y2, m, rfl, -, -, k0, k1, k2⟩ := open_agg3 hs hone hC hv h
  obtain ⟨a, e0, _, wa⟩ := DataW.trod_int h0 k0
  obtain ⟨b, e1, _, wb⟩ := DataW.trod_int h1 k1
  obtain ⟨s, e2, _, _⟩ := DataW.trod_string h2 k2
  simp at e0 e1 e2
  subst e0 e1 e2
  refine ⟨(a, b, s.data.toList), by unfold rval; rw [← ba_list], ?_, ?_⟩
  · exact Int.lt_of_le_of_lt (bounds_i64 wa).2 (by decide)
  · exact Int.lt_of_le_of_lt (bounds_i64 wb).2 (by decide)
theorem open_recs {b0 : Nat} {t e : TypeId} {f0 f1 f2 : Field} {v : Value} {d : DataW H} {p : List MemPlace} (ht : P.underlying t = some (.slice e)) (he : P.underlying e = some (.struct #[f0, f1, f2])) (hone : oneCellFields P #[f0, f1, f2] = true) (ce : P.cellsOf e = 3)
    (h0 : P.underlying f0.type = some (.int .i64)) (h1 : P.underlying f1.type = some (.int .i64)) (h2 : P.underlying f2.type = some .string) (hv : Value.okWide P w .any b0 t v) (h : DataW.Trod enc P w base spare held t v d p) :
    ∃ (A : Option Addr) (n c : Nat) (l : List Rc), v = .slice A n c ∧ l.length = n ∧ n ≤ c ∧ c ≤ maxLen ∧ Reads w w.heap.size 3 A n (rcs l) ∧ ∀ r ∈ l, r.1 < 9223372036854775808 ∧ r.2.1 < 9223372036854775808 := by
  obtain ⟨A, n, c, rfl⟩ := okWide_slice ht hv
  obtain ⟨fuel, hf⟩ := h
  rcases open_slice ht hf with ⟨hcs, _⟩ | ⟨a, len, cap, m, q, D, Pl, hcs, _, hl, hm, hmm, _, hx⟩
  · simp [Value.cells] at hcs
    obtain ⟨rfl, rfl, rfl⟩ := hcs
    exact ⟨none, 0, 0, [], rfl, rfl, Nat.le_refl _, Nat.zero_le _, Reads.none_, by simp⟩
  · simp [Value.cells] at hcs
    obtain ⟨rfl, rfl, rfl⟩ := hcs
    obtain ⟨o0, c0⟩ := hone_of hone 0 f0 rfl
    obtain ⟨o1, c1⟩ := hone_of hone 1 f1 rfl
    obtain ⟨o2, c2⟩ := hone_of hone 2 f2 rfl
    have each : ∀ i, i < n → ∃ r : Rc, (w.cell? (a.add (i * 3)) = some (.int .i64 r.1) ∧ w.cell? (a.add (i * 3 + 1)) = some (.int .i64 r.2.1) ∧ w.cell? (a.add (i * 3 + 2)) = some (.string ⟨r.2.2.toArray⟩)) ∧ r.1 < 9223372036854775808 ∧ r.2.1 < 9223372036854775808 := fun i hi => by
      obtain ⟨cs, g, ht2⟩ := hx i (by rw [hmm]; split <;> omega)
      obtain ⟨y0, y1, y2, m2, -, hlen, k0, k1, k2⟩ := trod_struct3 he ht2
      rw [ce] at g hlen
      obtain ⟨-, -, hc⟩ := World.cells?_some g
      match cs, hlen with
      | [u0, u1, u2], _ =>
        simp [o0, c0] at k0
        simp [o1, c1] at k1
        simp [o2, c2] at k2
        obtain ⟨x, e0, _, wx⟩ := DataW.trod_int h0 k0
        obtain ⟨y, e1, _, wy⟩ := DataW.trod_int h1 k1
        obtain ⟨s, e2, _, _⟩ := DataW.trod_string h2 k2
        simp at e0 e1 e2
        subst e0 e1 e2
        have q0 := hc 0 (by omega)
        have q1 := hc 1 (by omega)
        have q2 := hc 2 (by omega)
        rw [add_of_add] at q0 q1 q2
        refine ⟨(x, y, s.data.toList), ⟨by simpa using q0, by simpa using q1, ?_⟩, ?_, ?_⟩
        · rw [← ba_list]
          simpa using q2
        · exact Int.lt_of_le_of_lt (bounds_i64 wx).2 (by decide)
        · exact Int.lt_of_le_of_lt (bounds_i64 wy).2 (by decide)
    obtain ⟨f, hf2⟩ := choose_lt each
    refine ⟨some a, n, c, (List.range n).map f, rfl, by simp, hl, hm, ⟨by rw [rcs_length]; simp, fun hn => ?_⟩, fun r hr => ?_⟩
    · have h3 := (hf2 0 hn).1.1
      have hlt0 := cell_lt h3
      have hsp0 : a.spot = none := by simpa [Addr.add] using World.cell?_spot h3
      obtain ⟨b, off, sp⟩ := a
      simp only at hsp0
      subst hsp0
      refine ⟨b, off, rfl, by simpa [block_of_add] using hlt0, fun j u hu => ?_⟩
      rw [← add_mk]
      have hj : j < n * 3 := by
        have := (List.getElem?_eq_some_iff.1 hu).1
        rw [rcs_length] at this
        simpa using this
      obtain ⟨i, hi, hj2⟩ : ∃ i, i < n ∧ (j = i * 3 ∨ j = i * 3 + 1 ∨ j = i * 3 + 2) := ⟨j / 3, by omega, by omega⟩
      obtain ⟨g0, g1, g2⟩ := rcs_at ((List.range n).map f) i (by simp; omega)
      have hfi := (hf2 i hi).1
      rcases hj2 with rfl | rfl | rfl
      · rw [g0] at hu
        injection hu with hu
        subst hu
        simpa using hfi.1
      · rw [g1] at hu
        injection hu with hu
        subst hu
        simpa using hfi.2.1
      · rw [g2] at hu
        injection hu with hu
        subst hu
        simpa using hfi.2.2
    · obtain ⟨i, hi, rfl⟩ := List.mem_map.1 hr
      exact (hf2 i (List.mem_range.1 hi)).2
end
end Go.Proofs.Ytckengcphaaohaa
