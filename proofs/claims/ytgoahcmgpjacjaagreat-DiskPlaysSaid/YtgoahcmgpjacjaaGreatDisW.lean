/-
  Layer 20: acts in memory, and as arguments (ahead of the code's landing).
-/
import Derived.Test.YtgoahcmgpjacjaaGreatDisT
import Derived.Deep.Slices
import Derived.Deep.Strs
import Derived.ChangeArms
namespace Go.Proofs.YtgoahcmgpjacjaaGreat
set_option linter.unusedSimpArgs false
set_option linter.unusedVariables false
open Go.ChangeShapes Go.WideShapes Go.ChangeAt Go.RowKit Go.Joins Go.Deep
structure Ac where
  kind : Int
  n : Int
  s : List UInt8
  t : List UInt8
  dir : Int
  cuts : List Int
  marks : List (List UInt8)
  cA : Option Addr
  cc : Nat
  mA : Option Addr
  mc : Nat
instance : Inhabited Ac := ⟨⟨0, 0, [], [], 0, [], [], none, 0, none, 0⟩⟩
abbrev chf (x : Ac) : List Value := [.int .i64 x.dir, .slice x.cA x.cuts.length x.cc, .slice x.mA x.marks.length x.mc]
abbrev acf (x : Ac) : List Value := [.int .i64 x.kind, .int .i64 x.n, .string ⟨x.s.toArray⟩, .string ⟨x.t.toArray⟩, .int .i64 x.dir, .slice x.cA x.cuts.length x.cc, .slice x.mA x.marks.length x.mc]
set_option maxRecDepth 100000 in
theorem acf_len (x : Ac) : (acf x).length = 7 := rfl
structure AcOk (W : World) (B : Nat) (x : Ac) : Prop where
  cuts : Reads W B 1 x.cA x.cuts.length (ints x.cuts)
  marks : Reads W B 1 x.mA x.marks.length (dcs sfc x.marks)
  k1 : x.cuts.length ≤ x.cc
  k2 : x.marks.length ≤ x.mc
  m1 : x.cuts.length ≤ maxLen
  m2 : x.marks.length ≤ maxLen
  num : -9223372036854775808 ≤ x.n ∧ x.n < 9223372036854775808
  dir : -9223372036854775808 ≤ x.dir ∧ x.dir < 9223372036854775808
set_option maxRecDepth 100000 in
theorem AcOk.on {W W' : World} {B : Nat} {x : Ac} (h : AcOk W B x) (hb : Below B W W') : AcOk W' B x := ⟨h.cuts.below hb, h.marks.below hb, h.k1, h.k2, h.m1, h.m2, h.num, h.dir⟩
section
variable {H : Type} {enc : TypeId × Value → H} {w : World} {base : Nat} {spare : Nat → Bool} {held : Bool}
set_option maxRecDepth 100000 in
theorem cells_int : Tryz.prog.cellsOf 3 = 1 := by kernel_rfl
set_option maxRecDepth 100000 in
theorem cells_string : Tryz.prog.cellsOf 9 = 1 := by kernel_rfl
set_option maxRecDepth 100000 in
theorem cells_ints : Tryz.prog.cellsOf 38 = 1 := by kernel_rfl
set_option maxRecDepth 100000 in
theorem cells_strs : Tryz.prog.cellsOf 39 = 1 := by kernel_rfl
set_option maxRecDepth 100000 in
theorem cells_choice : Tryz.prog.cellsOf 41 = 3 := by kernel_rfl
set_option maxRecDepth 100000 in
theorem cells_act : Tryz.prog.cellsOf 43 = 7 := by kernel_rfl
set_option maxRecDepth 100000 in
theorem open_ints_cell {fuel : Nat} {cs : List Value} {x : DataW H × List MemPlace} (h : DataW.trod enc Tryz.prog w base spare held fuel 38 cs = some x) :
    ∃ (A : Option Addr) (l : List Int) (c : Nat), cs = [.slice A l.length c] ∧ l.length ≤ c ∧ c ≤ maxLen ∧ Reads w w.heap.size 1 A l.length (ints l) := by
  rcases open_ints Tryz.underlying38 Tryz.underlying3 cells_int h with ⟨hcs, _⟩ | ⟨a, len, cap, zs, hcs, hb, hl, hm, hzl, _, hz, hw⟩
  · exact ⟨none, [], 0, hcs, Nat.le_refl _, Nat.zero_le _, Reads.none_⟩
  · have hlm : len ≤ zs.length := by rw [hzl]; split <;> omega
    have hlen : (zs.take len).length = len := by rw [List.length_take]; omega
    refine ⟨some a, zs.take len, cap, by rw [hlen]; exact hcs, by rw [hlen]; exact hl, hm, ⟨by rw [ints_length, Nat.mul_one], fun hn => ?_⟩⟩
    rw [hlen] at hn
    have h0 := hz 0 (by omega)
    have hlt0 := cell_lt h0
    have hsp0 : a.spot = none := by simpa [Addr.add] using World.cell?_spot h0
    obtain ⟨b, off, sp⟩ := a
    simp only at hsp0
    subst hsp0
    refine ⟨b, off, rfl, by simpa [block_of_add] using hlt0, fun j u hu => ?_⟩
    have hj : j < len := by
      have := (List.getElem?_eq_some_iff.1 hu).1
      rw [ints_length, hlen] at this
      exact this
    have hc := hz j (by omega)
    rw [add_mk] at hc
    rw [hc, ← hu]
    simp [ints, hj, List.getElem?_eq_getElem (by omega : j < zs.length)]
set_option maxRecDepth 100000 in
theorem open_strs_cell {fuel : Nat} {cs : List Value} {x : DataW H × List MemPlace} (h : DataW.trod enc Tryz.prog w base spare held fuel 39 cs = some x) :
    ∃ (A : Option Addr) (l : List (List UInt8)) (c : Nat), cs = [.slice A l.length c] ∧ l.length ≤ c ∧ c ≤ maxLen ∧ Reads w w.heap.size 1 A l.length (dcs sfc l) := by
  rcases open_strs Tryz.underlying39 Tryz.underlying9 cells_string h with ⟨hcs, _⟩ | ⟨a, len, cap, m, Sx, hcs, hb, hl, hm, hmm, _, hx⟩
  · exact ⟨none, [], 0, hcs, Nat.le_refl _, Nat.zero_le _, Reads.none_⟩
  · have hlm : len ≤ m := by rw [hmm]; split <;> omega
    have hlen : ((List.range len).map fun i => (Sx i).data.toList).length = len := by simp
    refine ⟨some a, (List.range len).map fun i => (Sx i).data.toList, cap, by rw [hlen]; exact hcs, by rw [hlen]; exact hl, hm, ⟨dcs_length sfc 1 sfc_len _, fun hn => ?_⟩⟩
    rw [hlen] at hn
    have h0 := (hx 0 (by omega)).1
    have hlt0 := cell_lt h0
    have hsp0 : a.spot = none := by simpa [Addr.add] using World.cell?_spot h0
    obtain ⟨b, off, sp⟩ := a
    simp only at hsp0
    subst hsp0
    refine ⟨b, off, rfl, by simpa [block_of_add] using hlt0, fun j u hu => ?_⟩
    have hj : j < len := by
      have := (List.getElem?_eq_some_iff.1 hu).1
      rw [dcs_length sfc 1 sfc_len, hlen, Nat.mul_one] at this
      exact this
    have hc := (hx j (by omega)).1
    rw [add_mk] at hc
    have h1 := dcs_at sfc 1 sfc_len ((List.range len).map fun i => (Sx i).data.toList) j (by simpa using hj) 0 (by omega)
    rw [Nat.mul_one, Nat.add_zero, hu] at h1
    rw [hc]
    simp at h1
    rw [h1]
set_option maxRecDepth 100000 in
theorem open_choice_cells {fuel : Nat} {cs : List Value} {x : DataW H × List MemPlace} (h : DataW.trod enc Tryz.prog w base spare held fuel 41 cs = some x) :
    ∃ (y : Ac), cs = chf y ∧ y.n = 0 ∧ AcOk w w.heap.size y := by
  obtain ⟨xs, n, _, rfl, hl, hlen, hf⟩ := DataW.trod_struct Tryz.underlying41 h
  rw [cells_choice] at hl
  match xs, hlen, cs, hl with
  | [y0, y1, y2], _, [u0, u1, u2], _ =>
    have k0 := hf 0 _ rfl
    have k1 := hf 1 _ rfl
    have k2 := hf 2 _ rfl
    simp only [List.getElem_toArray, List.getElem_cons_zero, List.getElem_cons_succ, cells_int, cells_ints, cells_strs, List.drop_zero, List.drop_succ_cons, List.take_succ_cons, List.take_zero, List.getElem?_cons_zero, List.getElem?_cons_succ] at k0 k1 k2
    obtain ⟨d, e0, _, wd⟩ := DataW.trod_int Tryz.underlying3 k0
    obtain ⟨A, l, c, e1, h1, h2, h3⟩ := open_ints_cell k1
    obtain ⟨A2, l2, c2, e2, h4, h5, h6⟩ := open_strs_cell k2
    simp only [List.cons.injEq, and_true] at e0 e1 e2
    subst e0 e1 e2
    exact ⟨⟨0, 0, [], [], d, l, l2, A, c, A2, c2⟩, rfl, rfl, ⟨h3, h6, h1, h4, Nat.le_trans h1 h2, Nat.le_trans h4 h5, ⟨(by decide : (-9223372036854775808 : Int) ≤ 0), (by decide : (0 : Int) < 9223372036854775808)⟩, ⟨(bounds_i64 wd).1, Int.lt_of_le_of_lt (bounds_i64 wd).2 (by decide)⟩⟩⟩
set_option maxRecDepth 100000 in
theorem open_act_cells {fuel : Nat} {cs : List Value} {x : DataW H × List MemPlace} (h : DataW.trod enc Tryz.prog w base spare held fuel 43 cs = some x) :
    ∃ (y : Ac), cs = acf y ∧ AcOk w w.heap.size y := by
  obtain ⟨xs, n, _, rfl, hl, hlen, hf⟩ := DataW.trod_struct Tryz.underlying43 h
  rw [cells_act] at hl
  match xs, hlen, cs, hl with
  | [y0, y1, y2, y3, y4], _, [u0, u1, u2, u3, u4, u5, u6], _ =>
    have k0 := hf 0 _ rfl
    have k1 := hf 1 _ rfl
    have k2 := hf 2 _ rfl
    have k3 := hf 3 _ rfl
    have k4 := hf 4 _ rfl
    simp only [List.getElem_toArray, List.getElem_cons_zero, List.getElem_cons_succ, cells_int, cells_string, cells_choice, List.drop_zero, List.drop_succ_cons, List.take_succ_cons, List.take_zero, List.getElem?_cons_zero, List.getElem?_cons_succ] at k0 k1 k2 k3 k4
    obtain ⟨a, e0, _, wa⟩ := DataW.trod_int Tryz.underlying3 k0
    obtain ⟨b, e1, _, wb⟩ := DataW.trod_int Tryz.underlying3 k1
    obtain ⟨s, e2, _, _⟩ := DataW.trod_string Tryz.underlying9 k2
    obtain ⟨t, e3, _, _⟩ := DataW.trod_string Tryz.underlying9 k3
    obtain ⟨y, e4, -, hy⟩ := open_choice_cells k4
    simp only [List.cons.injEq, and_true] at e0 e1 e2 e3 e4
    obtain ⟨e4, e5, e6⟩ := e4
    subst e0 e1 e2 e3 e4 e5 e6
    refine ⟨{ y with kind := a, n := b, s := s.data.toList, t := t.data.toList }, ?_, ⟨hy.cuts, hy.marks, hy.k1, hy.k2, hy.m1, hy.m2, ⟨(bounds_i64 wb).1, Int.lt_of_le_of_lt (bounds_i64 wb).2 (by decide)⟩, hy.dir⟩⟩
    show ([.int .i64 a, .int .i64 b, .string s, .string t, .int .i64 y.dir, .slice y.cA y.cuts.length y.cc, .slice y.mA y.marks.length y.mc] : List Value) = [.int .i64 a, .int .i64 b, .string ⟨s.data.toList.toArray⟩, .string ⟨t.data.toList.toArray⟩, .int .i64 y.dir, .slice y.cA y.cuts.length y.cc, .slice y.mA y.marks.length y.mc]
    rw [← ba_list, ← ba_list]
set_option maxRecDepth 100000 in
theorem open_acts {b0 : Nat} {v : Value} {d : DataW H} {p : List MemPlace} (hv : Value.okWide Tryz.prog w .any b0 22 v) (h : DataW.Trod enc Tryz.prog w base spare held 22 v d p) :
    ∃ (A : Option Addr) (l : List Ac) (c : Nat), v = .slice A l.length c ∧ l.length ≤ maxLen ∧ Reads w w.heap.size 7 A l.length (dcs acf l) ∧ ∀ x ∈ l, AcOk w w.heap.size x := by
  obtain ⟨A, n, c, rfl⟩ := okWide_slice Tryz.underlying22 hv
  obtain ⟨fuel, hf⟩ := h
  rcases open_slice Tryz.underlying22 hf with ⟨hcs, _⟩ | ⟨a, len, cap, m, q, D, Pl, hcs, _, hl, hm, hmm, _, hx⟩
  · simp [Value.cells] at hcs
    obtain ⟨rfl, rfl, rfl⟩ := hcs
    exact ⟨none, [], 0, rfl, Nat.zero_le _, Reads.none_, by simp⟩
  · simp [Value.cells] at hcs
    obtain ⟨rfl, rfl, rfl⟩ := hcs
    have each : ∀ i, i < n → ∃ y : Ac, (∀ j u, (acf y)[j]? = some u → w.cell? (a.add (i * 7 + j)) = some u) ∧ AcOk w w.heap.size y := fun i hi => by
      obtain ⟨cs, g, ht2⟩ := hx i (by rw [hmm]; split <;> omega)
      obtain ⟨y, e, hy⟩ := open_act_cells ht2
      rw [cells_act] at g
      obtain ⟨-, hlen, hc⟩ := World.cells?_some g
      refine ⟨y, fun j u hu => ?_, hy⟩
      subst e
      have hj : j < 7 := by
        have := (List.getElem?_eq_some_iff.1 hu).1
        rw [acf_len] at this
        exact this
      have := hc j hj
      rw [add_of_add] at this
      rw [this]
      first | exact hu | simpa using hu
    obtain ⟨f, hf2⟩ := choose_lt each
    refine ⟨some a, (List.range n).map f, c, by simp, by simp; omega, ⟨dcs_length acf 7 acf_len _, fun hn => ?_⟩, fun r hr => ?_⟩
    · have hn' : 0 < n := by simpa using hn
      have h3 := (hf2 0 hn').1 0 _ rfl
      have hlt0 := cell_lt h3
      have hsp0 : a.spot = none := by simpa [Addr.add] using World.cell?_spot h3
      obtain ⟨b, off, sp⟩ := a
      simp only at hsp0
      subst hsp0
      refine ⟨b, off, rfl, by simpa [block_of_add] using hlt0, fun j u hu => ?_⟩
      rw [← add_mk]
      have hj : j < n * 7 := by
        have := (List.getElem?_eq_some_iff.1 hu).1
        rw [dcs_length acf 7 acf_len] at this
        simpa using this
      obtain ⟨i, k, hi, hk, rfl⟩ : ∃ i k, i < n ∧ k < 7 ∧ j = i * 7 + k := ⟨j / 7, j % 7, by omega, by omega, by omega⟩
      rw [dcs_at acf 7 acf_len _ i (by simpa using hi) k hk] at hu
      refine (hf2 i hi).1 k u ?_
      simpa using hu
    · obtain ⟨i, hi, rfl⟩ := List.mem_map.1 hr
      exact (hf2 i (List.mem_range.1 hi)).2
end
end Go.Proofs.YtgoahcmgpjacjaaGreat
