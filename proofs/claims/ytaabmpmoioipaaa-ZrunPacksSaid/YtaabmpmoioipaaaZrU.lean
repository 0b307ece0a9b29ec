/-
  Layer 7: what Unpack returns, for every list and every bound: its two closures, and walk over them.
-/
import Derived.Test.YtaabmpmoioipaaaZrC
import Derived.Deep.OwnRows
namespace Go.Proofs.Ytaabmpmoioipaaa
set_option linter.unusedSimpArgs false
set_option linter.unusedVariables false
open Go.ChangeShapes Go.WideShapes Go.ChangeAt Go.RowKit Go.Joins Go.Deep Go.Shelf

theorem zints_zero (n : Nat) : madeCells #[.int .i64 0] n = (ints (List.replicate n 0)).toArray := by
  unfold ints
  apply Array.ext'
  simp [madeCells, Nat.mod_one]
  rw [List.map_const', List.length_range]
theorem zmk_ints (n : Int) (N : Nat) (hN : (N : Int) = n) (h : N ≤ 17592186044416) (w : World) :
    (Instr.makeSlice 22 (.int .i64 n) (.int .i64 n)).run Try.prog w = .ok (.slice (some ⟨w.heap.size, 0, none⟩) N N) (w.alloc (.cells (ints (List.replicate N 0)).toArray 3)) := by
  subst hN
  rw [← zints_zero]
  exact run_make_row' (P := Try.prog) 22 3 (.int .i64 0) 8 Try.underlying22 zint_info rfl .i64 .i64 N (by omega) (by omega) w

/-- The ranks so far, and noughts behind them. -/
def zrow (N : Nat) (out : List Int) : List Int := out ++ List.replicate (N - out.length) 0
theorem zrow_noughts (N v : Nat) (out : List Int) (h : out.length + v ≤ N) : zrow N (out ++ List.replicate v 0) = zrow N out := by
  unfold zrow
  rw [List.append_assoc, List.replicate_append_replicate, List.length_append, List.length_replicate]
  congr 2
  omega
theorem zrow_set (N : Nat) (out : List Int) (x : Int) (h : out.length < N) : (zrow N out).set out.length x = zrow N (out ++ [x]) := by
  unfold zrow
  rw [show N - out.length = (N - (out.length + 1)) + 1 from by omega, List.replicate_succ]
  simp
theorem zrow_all (N : Nat) (out : List Int) (h : out.length = N) : zrow N out = out := by simp [zrow, h]
theorem zrow_len (N : Nat) (out : List Int) (h : out.length ≤ N) : (zrow N out).length = N := by simp [zrow]; omega
theorem zints_set (l : List Int) (k : Nat) (v : Int) : (ints l).toArray.setIfInBounds k (.int .i64 v) = (ints (l.set k v)).toArray := by
  rw [List.setIfInBounds_toArray]
  simp [ints, List.map_set]

/-- The ranks' row, its variable's box, the place's box. -/
structure ZUn (B g N : Nat) (out : List Int) (W : World) : Prop where
  row : Blk W g 3 (ints (zrow N out)).toArray
  box : Blk W (g + 1) 22 #[.slice (some ⟨g, 0, none⟩) N N]
  place : Blk W (g + 2) 3 #[.int .i64 (out.length : Int)]
  bg : B ≤ g
  le : out.length ≤ N
  size : B ≤ W.heap.size
section
variable {B g N : Nat} {out : List Int} {W W' : World}
theorem ZUn.below (h : ZUn B g N out W) (hb : Below W.heap.size W W') : ZUn B g N out W' :=
  ⟨h.row.below hb h.row.lt, h.box.below hb h.box.lt, h.place.below hb h.place.lt, h.bg, h.le, Nat.le_trans h.size hb.size⟩
end

set_option maxRecDepth 100000 in
set_option maxHeartbeats 2000000 in
theorem zr_urun_any (B g N m c : Nat) (out : List Int) (Ap : Option Addr) (p : List Int) (W : World) (hp : p.length = m) (hm : m ≤ 1000000) (hN : N ≤ 100000) (hv : out.length + zv p ≤ N) (hg : zgood 1 p = true) (hr : Reads W B 1 Ap m (ints p)) (hP : ZUn B g N out W) :
    Calls Try.prog 22 #[.slice Ap m c, .pointer (some ⟨g + 2, 0, none⟩)] W fun e W' => (∃ r, e = .returned r) ∧ ZUn B g N (out ++ List.replicate (zv p) 0) W' ∧ Below B W W' := by
  have c1 : W.cell? ⟨g + 2, 0, none⟩ = some (.int .i64 (out.length : Int)) := hP.place.cell 0
  have f1 := hP.place.frozen 0
  have Hnum := Lib.hid fun (W2 : World) (hb : Reads W2 W2.heap.size 1 Ap m (ints p)) => zr_number_any p hg Ap m c W2 (by omega) hb
  have hr2 := hr.more hP.size
  have e1 : zval p = zv p := by unfold zval; omega
  have hal := hP.place.lt
  have fin : ∀ W2 (z : Int), Below W.heap.size W W2 → z = ((out.length + zv p : Nat) : Int) → ZUn B g N (out ++ List.replicate (zv p) 0) (W2.setCell ⟨g + 2, 0, none⟩ (.int .i64 z)) ∧ Below B W (W2.setCell ⟨g + 2, 0, none⟩ (.int .i64 z)) := fun W2 z hb hz => by
    subst hz
    have h2 := hP.below hb
    refine ⟨⟨?_, h2.box.far (by simp) _, ?_, hP.bg, by rw [List.length_append, List.length_replicate]; exact hv, ?_⟩, (hb.mono hP.size).setCell (p := ⟨g + 2, 0, none⟩) (by have := hP.bg; simp; omega) _⟩
    · rw [zrow_noughts N _ out hv]
      exact h2.row.far (by simp) _
    · have := h2.place.set_ 0 (.int .i64 ((out.length + zv p : Nat) : Int))
      rw [List.length_append, List.length_replicate]
      simpa using this
    · have := h2.size
      simpa [World.setCell] using this
  have Fin := Lib.hid fin
  have Hr := Lib.hid hr2
  have hb1 : (0 : Int) ≤ (out.length : Int) ∧ (out.length : Int) ≤ 100000 ∧ (0 : Int) ≤ (zv p : Int) ∧ (zv p : Int) ≤ 100000 := by omega
  rw [e1] at Hnum
  clear fin hP hr hr2 hg e1 hv
  generalize zv p = v at *
  generalize out.length = q at *
  go_enter Try.func22, Try.ntmps22
  go_wp2
  go_region_with (go_at_call 23; refine (Hnum.out _ Hr.out.drew).mono ?_; rintro e w1 ⟨rfl, hb1⟩; replace hb1 := zof_drew hb1; have c2 := (hb1.cell (p := ⟨g + 2, 0, none⟩) hal).trans c1; have f2 := (hb1.frozen (p := ⟨g + 2, 0, none⟩) hal).trans f1; have Hb1 := Lib.hid hb1; clear hb1)
  all_goals go_end0
  all_goals exact ⟨⟨_, rfl⟩, Fin.out _ _ Hb1.out (by first | rfl | (rw [IntKind.wrap_i64]; omega) | omega)⟩

set_option maxRecDepth 100000 in
set_option maxHeartbeats 2000000 in
theorem zr_uother_any (B g N : Nat) (out : List Int) (x : Int) (W : World) (hx : -10 ≤ x ∧ x ≤ 1000) (hN : N ≤ 100000) (hv : out.length < N) (hP : ZUn B g N out W) :
    Calls Try.prog 24 #[.int .i64 x, .pointer (some ⟨g + 1, 0, none⟩), .pointer (some ⟨g + 2, 0, none⟩)] W fun e W' => (∃ r, e = .returned r) ∧ ZUn B g N (out ++ [x - 1]) W' ∧ Below B W W' := by
  have c1 : W.cell? ⟨g + 1, 0, none⟩ = some (.slice (some ⟨g, 0, none⟩) N N) := hP.box.cell 0
  have c2 : W.cell? ⟨g + 2, 0, none⟩ = some (.int .i64 (out.length : Int)) := hP.place.cell 0
  have f2 := hP.place.frozen 0
  obtain ⟨u, c3⟩ : ∃ u, W.cell? ⟨g, out.length, none⟩ = some u := by
    rw [hP.row.cell]
    exact ⟨_, Array.getElem?_eq_getElem (by simp [ints_length, zrow_len N out hP.le, hv])⟩
  have f3 := hP.row.frozen out.length
  have fin : ∀ z y : Int, z = ((out.length + 1 : Nat) : Int) → y = x - 1 → ZUn B g N (out ++ [x - 1]) ((W.setCell ⟨g, out.length, none⟩ (.int .i64 y)).setCell ⟨g + 2, 0, none⟩ (.int .i64 z)) ∧ Below B W ((W.setCell ⟨g, out.length, none⟩ (.int .i64 y)).setCell ⟨g + 2, 0, none⟩ (.int .i64 z)) := fun z y hz hy => by
    subst hz
    subst hy
    have hbg := hP.bg
    refine ⟨⟨?_, (hP.box.far (by simp) _).far (by simp) _, ?_, hP.bg, by rw [List.length_append]; exact hv, ?_⟩, ((Below.refl _ _).setCell (p := ⟨g, out.length, none⟩) hbg _).setCell (p := ⟨g + 2, 0, none⟩) (by simp; omega) _⟩
    · have := hP.row.set_ out.length (.int .i64 (x - 1))
      rw [zints_set, zrow_set N out _ hv] at this
      exact this.far (by simp) _
    · have := (hP.place.far (p := ⟨g, out.length, none⟩) (by simp) (.int .i64 (x - 1))).set_ 0 (.int .i64 ((out.length + 1 : Nat) : Int))
      rw [List.length_append]
      simpa using this
    · have := hP.size
      simpa [World.setCell] using this
  have Fin := Lib.hid fin
  have hb1 : (0 : Int) ≤ (out.length : Int) ∧ (out.length : Int) < N ∧ (out.length : Int) ≤ 100000 := by omega
  clear fin hP
  generalize out.length = q at *
  go_enter Try.func24, Try.ntmps24
  go_wp2
  go_end0
  exact ⟨⟨_, rfl⟩, Fin.out _ _ (by omega) (by omega)⟩
end Go.Proofs.Ytaabmpmoioipaaa
