/-
 What the law of the last of these texts stands on, part 38.
-/
import Derived.Test.YtanjhbkbpalnaaaGreatMa29
set_option maxRecDepth 100000
set_option maxHeartbeats 8000000
open Go.Proofs.Tryz
namespace Go.Proofs.YtanjhbkbpalnaaaGreat
set_option linter.unusedSimpArgs false
set_option linter.unusedVariables false
open Go.ChangeShapes Go.WideShapes Go.ChangeAt Go.RowKit Go.Joins Go.Deep Go.Shelf
theorem zints_zero (n : Nat) : madeCells #[.int .i64 0] n = (ints (List.replicate n 0)).toArray := by
 unfold ints
 apply Array.ext'
 simp [madeCells, Nat.mod_one]
 rw [qcw, qa7]
theorem zmk_ints (n : Int) (N : Nat) (hN : (N : Int) = n) (h : N ≤ 17592186044416) (w : World) :
  (Instr.makeSlice 28 (.int .i64 n) (.int .i64 n)).run prog w = .ok (.slice (some ⟨w.heap.size, 0, none⟩) N N) (w.alloc (.cells (ints (List.replicate N 0)).toArray 3)) := by
 subst hN
 rw [← zints_zero]
 exact run_make_row' (P := prog) 28 3 (.int .i64 0) 8 underlying28 ycv rfl .i64 .i64 N (by omega) (by omega) w
def zrow (N : Nat) (out : List Int) : List Int := out ++ List.replicate (N - out.length) 0
theorem zrow_noughts (N v : Nat) (out : List Int) (h : out.length + v ≤ N) : zrow N (out ++ List.replicate v 0) = zrow N out := by
 unfold zrow
 rw [qam, qcj, qab, qav]
 congr 2
 omega
theorem zrow_set (N : Nat) (out : List Int) (x : Int) (h : out.length < N) : (zrow N out).set out.length x = zrow N (out ++ [x]) := by
 unfold zrow
 rw [show N - out.length = (N - (out.length + 1)) + 1 from by omega, qaP]
 simp
theorem zrow_all (N : Nat) (out : List Int) (h : out.length = N) : zrow N out = out := by simp [zrow, h]
theorem zrow_len (N : Nat) (out : List Int) (h : out.length ≤ N) : (zrow N out).length = N := by simp [zrow]; omega
theorem zints_set (l : List Int) (k : Nat) (v : Int) : (ints l).toArray.setIfInBounds k (.int .i64 v) = (ints (l.set k v)).toArray := by
 rw [qac]
 simp [ints, qcu]
structure ZUn (B g N : Nat) (out : List Int) (W : World) : Prop where
 row : Blk W g 3 (ints (zrow N out)).toArray
 box : Blk W (g + 1) 28 #[.slice (some ⟨g, 0, none⟩) N N]
 place : Blk W (g + 2) 3 #[.int .i64 (out.length : Int)]
 bg : B ≤ g
 le : out.length ≤ N
 size : B ≤ W.heap.size
section
variable {B g N : Nat} {out : List Int} {W W' : World}
theorem ZUn.below (h : ZUn B g N out W) (hb : Below W.heap.size W W') : ZUn B g N out W' :=
 ⟨h.row.below hb h.row.lt, h.box.below hb h.box.lt, h.place.below hb h.place.lt, h.bg, h.le, qaA h.size hb.size⟩
end
theorem zr_urun_any (B g N m c : Nat) (out : List Int) (Ap : Option Addr) (p : List Int) (W : World) (hp : p.length = m) (hm : m ≤ 1000000) (hN : N ≤ 100000) (hv : out.length + zv p ≤ N) (hg : ya2 1 p = true) (hr : Reads W B 1 Ap m (ints p)) (hP : ZUn B g N out W) :
  Calls prog 133 #[.slice Ap m c, .pointer (some ⟨g + 2, 0, none⟩)] W fun e W' => (∃ r, e = .returned r) ∧ ZUn B g N (out ++ List.replicate (zv p) 0) W' ∧ Below B W W' := by
 have c1 : W.cell? ⟨g + 2, 0, none⟩ = some (.int .i64 (out.length : Int)) := hP.place.cell 0
 have f1 := hP.place.frozen 0
 have Hnum := qaa fun (W2 : World) (hb : Reads W2 W2.heap.size 1 Ap m (ints p)) => ye7 p hg Ap m c W2 (by omega) hb
 have hr2 := hr.more hP.size
 have e1 : zval p = zv p := by unfold zval; omega
 have hal := hP.place.lt
 have fin : ∀ W2 (z : Int), Below W.heap.size W W2 → z = ((out.length + zv p : Nat) : Int) → ZUn B g N (out ++ List.replicate (zv p) 0) (W2.setCell ⟨g + 2, 0, none⟩ (.int .i64 z)) ∧ Below B W (W2.setCell ⟨g + 2, 0, none⟩ (.int .i64 z)) := fun W2 z hb hz => by
  subst hz
  have h2 := hP.below hb
  refine ⟨⟨?_, h2.box.far (by simp) _, ?_, hP.bg, by rw [qab, qav]; exact hv, ?_⟩, (hb.mono hP.size).setCell (p := ⟨g + 2, 0, none⟩) (by have := hP.bg; simp; omega) _⟩
  ·rw [zrow_noughts N _ out hv]
   exact h2.row.far (by simp) _
  ·have := h2.place.set_ 0 (.int .i64 ((out.length + zv p : Nat) : Int))
   rw [qab, qav]
   simpa using this
  ·have := h2.size
   simpa [World.setCell] using this
 have Fin := qaa fin
 have Hr := qaa hr2
 have hb1 : (0 : Int) ≤ (out.length : Int) ∧ (out.length : Int) ≤ 100000 ∧ (0 : Int) ≤ (zv p : Int) ∧ (zv p : Int) ≤ 100000 := by omega
 rw [e1] at Hnum
 clear fin hP hr hr2 hg e1 hv
 generalize zv p = v at *
 generalize out.length = q at *
 go_enter func133, ntmps133
 go_wp2
 go_region_with (go_at_call 134; refine (Hnum.out _ Hr.out.drew).mono ?_; rintro e w1 ⟨rfl, hb1⟩; replace hb1 := zof_drew hb1; have c2 := (hb1.cell (p := ⟨g + 2, 0, none⟩) hal).trans c1; have f2 := (hb1.frozen (p := ⟨g + 2, 0, none⟩) hal).trans f1; have Hb1 := qaa hb1; clear hb1)
 all_goals go_end0
 all_goals exact ⟨⟨_, rfl⟩, Fin.out _ _ Hb1.out (by first | rfl | (rw [qal]; omega) | omega)⟩
theorem zr_uother_any (B g N : Nat) (out : List Int) (x : Int) (W : World) (hx : -10 ≤ x ∧ x ≤ 1000) (hN : N ≤ 100000) (hv : out.length < N) (hP : ZUn B g N out W) :
  Calls prog 135 #[.int .i64 x, .pointer (some ⟨g + 1, 0, none⟩), .pointer (some ⟨g + 2, 0, none⟩)] W fun e W' => (∃ r, e = .returned r) ∧ ZUn B g N (out ++ [x - 1]) W' ∧ Below B W W' := by
 have c1 : W.cell? ⟨g + 1, 0, none⟩ = some (.slice (some ⟨g, 0, none⟩) N N) := hP.box.cell 0
 have c2 : W.cell? ⟨g + 2, 0, none⟩ = some (.int .i64 (out.length : Int)) := hP.place.cell 0
 have f2 := hP.place.frozen 0
 obtain ⟨u, c3⟩ : ∃ u, W.cell? ⟨g, out.length, none⟩ = some u := by
  rw [hP.row.cell]
  exact ⟨_, qbY (by simp [yab, zrow_len N out hP.le, hv])⟩
 have f3 := hP.row.frozen out.length
 have fin : ∀ z y : Int, z = ((out.length + 1 : Nat) : Int) → y = x - 1 → ZUn B g N (out ++ [x - 1]) ((W.setCell ⟨g, out.length, none⟩ (.int .i64 y)).setCell ⟨g + 2, 0, none⟩ (.int .i64 z)) ∧ Below B W ((W.setCell ⟨g, out.length, none⟩ (.int .i64 y)).setCell ⟨g + 2, 0, none⟩ (.int .i64 z)) := fun z y hz hy => by
  subst hz
  subst hy
  have hbg := hP.bg
  refine ⟨⟨?_, (hP.box.far (by simp) _).far (by simp) _, ?_, hP.bg, by rw [qab]; exact hv, ?_⟩, ((qak _ _).setCell (p := ⟨g, out.length, none⟩) hbg _).setCell (p := ⟨g + 2, 0, none⟩) (by simp; omega) _⟩
  ·have := hP.row.set_ out.length (.int .i64 (x - 1))
   rw [zints_set, zrow_set N out _ hv] at this
   exact this.far (by simp) _
  ·have := (hP.place.far (p := ⟨g, out.length, none⟩) (by simp) (.int .i64 (x - 1))).set_ 0 (.int .i64 ((out.length + 1 : Nat) : Int))
   rw [qab]
   simpa using this
  ·have := hP.size
   simpa [World.setCell] using this
 have Fin := qaa fin
 have hb1 : (0 : Int) ≤ (out.length : Int) ∧ (out.length : Int) < N ∧ (out.length : Int) ≤ 100000 := by omega
 clear fin hP
 generalize out.length = q at *
 go_enter func135, ntmps135
 go_wp2
 go_end0
 exact ⟨⟨_, rfl⟩, Fin.out _ _ (by omega) (by omega)⟩
end Go.Proofs.YtanjhbkbpalnaaaGreat
