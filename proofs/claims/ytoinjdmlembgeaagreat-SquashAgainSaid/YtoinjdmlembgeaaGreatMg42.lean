/-
 What the law of the last of these texts stands on, part 42.
-/
import Derived.Test.YtoinjdmlembgeaaGreatMg35
namespace Go.Proofs.YtoinjdmlembgeaaGreat
set_option linter.unusedSimpArgs false
set_option linter.unusedVariables false
open Go.ChangeShapes Go.WideShapes Go.ChangeAt Go.RowKit Go.Joins Go.Deep Go.Shelf
theorem zints_zero (n : Nat) : madeCells #[.int .i64 0] n = (ints (List.replicate n 0)).toArray := by
 unfold ints
 apply Array.ext'
 simp [madeCells, Nat.mod_one]
 rw [List.map_const', List.length_range]
theorem zmk_ints (n : Int) (N : Nat) (hN : (N : Int) = n) (h : N ≤ 17592186044416) (w : World) :
  (Instr.makeSlice 28 (.int .i64 n) (.int .i64 n)).run Tryz.prog w = .ok (.slice (some ⟨w.heap.size, 0, none⟩) N N) (w.alloc (.cells (ints (List.replicate N 0)).toArray 3)) := by
 subst hN
 rw [← zints_zero]
 exact run_make_row' (P := Tryz.prog) 28 3 (.int .i64 0) 8 Tryz.underlying28 yc9 rfl .i64 .i64 N (by omega) (by omega) w
def zrow (N : Nat) (out : List Int) : List Int := out ++ List.replicate (N - out.length) 0
theorem zrow_noughts (N v : Nat) (out : List Int) (h : out.length + v ≤ N) : zrow N (out ++ List.replicate v 0) = zrow N out := by
 unfold zrow
 rw [List.append_assoc, List.replicate_append_replicate, List.length_append, List.length_replicate]
 congr 2
 omega
theorem zrow_set (N : Nat) (out : List Int) (x : Int) (h : out.length < N) : (zrow N out).set out.length x = zrow N (out ++ [x]) := by
 unfold zrow
 rw [show N - out.length = (N - (out.length + 1)) + 1 from by omega, List.replicate_succ]
 simp
theorem zrow_all (N : Nat) (out : List Int) (h : out.length = N) : zrow N out = out := by simp [zrow, h]
theorem zrow_len (N : Nat) (out : List Int) (h : out.length ≤ N) : (zrow N out).length = N := by simp [zrow]; omega
theorem zints_set (l : List Int) (k : Nat) (v : Int) : (ints l).toArray.setIfInBounds k (.int .i64 v) = (ints (l.set k v)).toArray := by
 rw [List.setIfInBounds_toArray]
 simp [ints, List.map_set]
structure ZUn (B g N : Nat) (out : List Int) (W : World) : Prop where
 row : Blk W g 3 (ints (zrow N out)).toArray
 box : Blk W (g + 1) 28 #[.slice (some ⟨g, 0, none⟩) N N]
 place : Blk W (g + 2) 3 #[.int .i64 (out.length : Int)]
 bg : B ≤ g
 le : out.length ≤ N
 size : B ≤ W.heap.size
section
variable {B g N : Nat} {out : List Int} {W W' : World}
theorem ZUn.below (h : ZUn B g N out W) (hb : Below W.heap.size W W') : ZUn B g N out W' :=
 ⟨h.row.below hb h.row.lt, h.box.below hb h.box.lt, h.place.below hb h.place.lt, h.bg, h.le, Nat.le_trans h.size hb.size⟩
end
set_option maxRecDepth 100000 in
set_option maxHeartbeats 2000000 in
theorem zr_urun_any (B g N m c : Nat) (out : List Int) (Ap : Option Addr) (p : List Int) (W : World) (hp : p.length = m) (hm : m ≤ 1000000) (hN : N ≤ 100000) (hv : out.length + zv p ≤ N) (hg : ya5 1 p = true) (hr : Reads W B 1 Ap m (ints p)) (hP : ZUn B g N out W) :
  Calls Tryz.prog 94 #[.slice Ap m c, .pointer (some ⟨g + 2, 0, none⟩)] W fun e W' => (∃ r, e = .returned r) ∧ ZUn B g N (out ++ List.replicate (zv p) 0) W' ∧ Below B W W' := by
 have c1 : W.cell? ⟨g + 2, 0, none⟩ = some (.int .i64 (out.length : Int)) := hP.place.cell 0
 have f1 := hP.place.frozen 0
 have Hnum := Lib.hid fun (W2 : World) (hb : Reads W2 W2.heap.size 1 Ap m (ints p)) => yfc p hg Ap m c W2 (by omega) hb
 have hr2 := hr.more hP.size
 have e1 : zval p = zv p := by unfold zval; omega
 have hal := hP.place.lt
 have fin : ∀ W2 (z : Int), Below W.heap.size W W2 → z = ((out.length + zv p : Nat) : Int) → ZUn B g N (out ++ List.replicate (zv p) 0) (W2.setCell ⟨g + 2, 0, none⟩ (.int .i64 z)) ∧ Below B W (W2.setCell ⟨g + 2, 0, none⟩ (.int .i64 z)) := fun W2 z hb hz => by
  subst hz
  have h2 := hP.below hb
  refine ⟨⟨?_, h2.box.far (by simp) _, ?_, hP.bg, by rw [List.length_append, List.length_replicate]; exact hv, ?_⟩, (hb.mono hP.size).setCell (p := ⟨g + 2, 0, none⟩) (by have := hP.bg; simp; omega) _⟩
  ·rw [zrow_noughts N _ out hv]
   exact h2.row.far (by simp) _
  ·have := h2.place.set_ 0 (.int .i64 ((out.length + zv p : Nat) : Int))
   rw [List.length_append, List.length_replicate]
   simpa using this
  ·have := h2.size
   simpa [World.setCell] using this
 have Fin := Lib.hid fin
 have Hr := Lib.hid hr2
 have hb1 : (0 : Int) ≤ (out.length : Int) ∧ (out.length : Int) ≤ 100000 ∧ (0 : Int) ≤ (zv p : Int) ∧ (zv p : Int) ≤ 100000 := by omega
 rw [e1] at Hnum
 clear fin hP hr hr2 hg e1 hv
 generalize zv p = v at *
 generalize out.length = q at *
 go_enter Tryz.func94, Tryz.ntmps94
 go_wp2
 go_region_with (go_at_call 95; refine (Hnum.out _ Hr.out.drew).mono ?_; rintro e w1 ⟨rfl, hb1⟩; replace hb1 := zof_drew hb1; have c2 := (hb1.cell (p := ⟨g + 2, 0, none⟩) hal).trans c1; have f2 := (hb1.frozen (p := ⟨g + 2, 0, none⟩) hal).trans f1; have Hb1 := Lib.hid hb1; clear hb1)
 all_goals go_end0
 all_goals exact ⟨⟨_, rfl⟩, Fin.out _ _ Hb1.out (by first | rfl | (rw [IntKind.wrap_i64]; omega) | omega)⟩
set_option maxRecDepth 100000 in
set_option maxHeartbeats 2000000 in
theorem zr_uother_any (B g N : Nat) (out : List Int) (x : Int) (W : World) (hx : -10 ≤ x ∧ x ≤ 1000) (hN : N ≤ 100000) (hv : out.length < N) (hP : ZUn B g N out W) :
  Calls Tryz.prog 96 #[.int .i64 x, .pointer (some ⟨g + 1, 0, none⟩), .pointer (some ⟨g + 2, 0, none⟩)] W fun e W' => (∃ r, e = .returned r) ∧ ZUn B g N (out ++ [x - 1]) W' ∧ Below B W W' := by
 have c1 : W.cell? ⟨g + 1, 0, none⟩ = some (.slice (some ⟨g, 0, none⟩) N N) := hP.box.cell 0
 have c2 : W.cell? ⟨g + 2, 0, none⟩ = some (.int .i64 (out.length : Int)) := hP.place.cell 0
 have f2 := hP.place.frozen 0
 obtain ⟨u, c3⟩ : ∃ u, W.cell? ⟨g, out.length, none⟩ = some u := by
  rw [hP.row.cell]
  exact ⟨_, Array.getElem?_eq_getElem (by simp [yab, zrow_len N out hP.le, hv])⟩
 have f3 := hP.row.frozen out.length
 have fin : ∀ z y : Int, z = ((out.length + 1 : Nat) : Int) → y = x - 1 → ZUn B g N (out ++ [x - 1]) ((W.setCell ⟨g, out.length, none⟩ (.int .i64 y)).setCell ⟨g + 2, 0, none⟩ (.int .i64 z)) ∧ Below B W ((W.setCell ⟨g, out.length, none⟩ (.int .i64 y)).setCell ⟨g + 2, 0, none⟩ (.int .i64 z)) := fun z y hz hy => by
  subst hz
  subst hy
  have hbg := hP.bg
  refine ⟨⟨?_, (hP.box.far (by simp) _).far (by simp) _, ?_, hP.bg, by rw [List.length_append]; exact hv, ?_⟩, ((Below.refl _ _).setCell (p := ⟨g, out.length, none⟩) hbg _).setCell (p := ⟨g + 2, 0, none⟩) (by simp; omega) _⟩
  ·have := hP.row.set_ out.length (.int .i64 (x - 1))
   rw [zints_set, zrow_set N out _ hv] at this
   exact this.far (by simp) _
  ·have := (hP.place.far (p := ⟨g, out.length, none⟩) (by simp) (.int .i64 (x - 1))).set_ 0 (.int .i64 ((out.length + 1 : Nat) : Int))
   rw [List.length_append]
   simpa using this
  ·have := hP.size
   simpa [World.setCell] using this
 have Fin := Lib.hid fin
 have hb1 : (0 : Int) ≤ (out.length : Int) ∧ (out.length : Int) < N ∧ (out.length : Int) ≤ 100000 := by omega
 clear fin hP
 generalize out.length = q at *
 go_enter Tryz.func96, Tryz.ntmps96
 go_wp2
 go_end0
 exact ⟨⟨_, rfl⟩, Fin.out _ _ (by omega) (by omega)⟩
theorem zun_step (l : List Int) (k j : Nat) (hkj : k ≤ j) (hg : ya5 1 ((l.take j).drop k) = true) (hx : ∀ hj : j < l.length, zin 1 l[j] = false) : zun [] (l.drop k) = List.replicate (zv ((l.take j).drop k)) 0 ++ zun [] (l.drop j) := by
 rw [zsplit l k j hkj, zun_run [] _ _ hg, List.nil_append, zun_end _ _ (yf2 l j 1 hx)]
theorem zun_next (l : List Int) (j : Nat) (hj : j < l.length) (hx : zin 1 l[j] = false) : zun [] (l.drop j) = (l[j] - 1) :: zun [] (l.drop (j + 1)) := by
 rw [List.drop_eq_getElem_cons hj]
 exact zun_cons _ _ fun h => by rw [(ybX _ _).2 h] at hx; cases hx
def zuw (w1 : World) (N : Nat) : World := ((w1.alloc (.cells (ints (List.replicate N 0)).toArray 3)).alloc (.cells #[.slice (some ⟨w1.heap.size, 0, none⟩) N N] 28)).alloc (.cells #[.int .i64 0] 3)
theorem zr_uwalk_any (l : List Int) (A : Option Addr) (n c B N : Nat) (w1 : World) (hn : l.length = n) (hm : n ≤ 1000000) (hc : n ≤ c) (hB : B ≤ w1.heap.size) (hg : ya5 256 l = true) (hN : N ≤ 100000) (hT : (zun [] l).length = N) (hr : Reads w1 B 1 A n (ints l)) :
  Calls Tryz.prog 38 #[.slice A n c, .int .i64 1, .func (.func 94) #[] #[.pointer (some ⟨w1.heap.size + 2, 0, none⟩)], .func (.func 96) #[] #[.pointer (some ⟨w1.heap.size + 1, 0, none⟩), .pointer (some ⟨w1.heap.size + 2, 0, none⟩)]] (zuw w1 N) fun e W' =>
   (∃ v, e = .returned v) ∧ ZUn B w1.heap.size N (zun [] l) W' ∧ Below B w1 W' := by
 have hlen : ∀ out k, out ++ zun [] (l.drop k) = zun [] l → out.length + (zun [] (l.drop k)).length = N := fun out k h => by
  have := congrArg List.length h
  rw [List.length_append] at this
  omega
 refine (yeg l 1 n B c A _ _ _ _ (fun k W => Below B w1 W ∧ ∃ out, ZUn B w1.heap.size N out W ∧ out ++ zun [] (l.drop k) = zun [] l) ⟨?er, ?eo, ?reads, ?run, ?other⟩ (zuw w1 N) hn (by omega) hc ?h0).mono ?fin
 case er => exact enters_of Tryz.func94 (by kernel_rfl) rfl
 case eo => exact enters_of Tryz.func96 (by kernel_rfl) rfl
 case reads => exact fun k W h => hr.below h.1
 case run =>
  rintro k j W Ap hkj hjn hgp hx ⟨hb, out, hP, ho⟩ hrp
  have h1 := hlen out k ho
  have h2 := zun_step l k j hkj hgp hx
  rw [h2, List.length_append, List.length_replicate] at h1
  refine (zr_urun_any B w1.heap.size N (j - k) (j - k) out Ap _ W (by rw [List.length_drop, List.length_take]; omega) (by omega) hN (by omega) hgp hrp hP).mono ?_
  rintro e W' ⟨he, hP', hb'⟩
  refine ⟨he, hb.trans hb', _, hP', ?_⟩
  rw [List.append_assoc, ← h2, ho]
 case other =>
  rintro j W hj hx ⟨hb, out, hP, ho⟩
  have h1 := hlen out j ho
  have h2 := zun_next l j hj hx
  have h3 := yaZ hg j hj
  rw [h2, List.length_cons] at h1
  refine (zr_uother_any B w1.heap.size N out l[j] W (by omega) hN (by omega) hP).mono ?_
  rintro e W' ⟨he, hP', hb'⟩
  refine ⟨he, hb.trans hb', _, hP', ?_⟩
  rw [← ho, h2]
  simp
 case h0 =>
  have hbw : Below B w1 (zuw w1 N) := (((Below.refl _ _).alloc hB _).alloc (by simp; omega) _).alloc (by simp; omega) _
  refine ⟨hbw, [], ⟨?_, ?_, ?_, hB, by simp, Nat.le_trans hB hbw.size⟩, rfl⟩
  ·have : zrow N [] = List.replicate N 0 := by simp [zrow]
   rw [this]
   exact ((Blk.new w1 _ _).alloc _).alloc _
  ·have := Blk.new (w1.alloc (.cells (ints (List.replicate N 0)).toArray 3)) 28 #[.slice (some ⟨w1.heap.size, 0, none⟩) N N]
   rw [show (w1.alloc (.cells (ints (List.replicate N 0)).toArray 3)).heap.size = w1.heap.size + 1 from by simp] at this
   exact this.alloc _
  ·have := Blk.new ((w1.alloc (.cells (ints (List.replicate N 0)).toArray 3)).alloc (.cells #[.slice (some ⟨w1.heap.size, 0, none⟩) N N] 28)) 3 #[.int .i64 0]
   rwa [show ((w1.alloc (.cells (ints (List.replicate N 0)).toArray 3)).alloc (.cells #[.slice (some ⟨w1.heap.size, 0, none⟩) N N] 28)).heap.size = w1.heap.size + 2 from by simp] at this
 case fin =>
  rintro e W' ⟨he, hb, out, hP, ho⟩
  refine ⟨he, ?_, hb⟩
  rw [← ho, List.drop_of_length_le (by omega)]
  simpa [zun, zv] using hP
theorem zun_reads {B g N : Nat} {out : List Int} {W : World} (h : ZUn B g N out W) (hN : out.length = N) : Reads W W.heap.size 1 (some ⟨g, 0, none⟩) N (ints out) := by
 have hr := h.row
 rw [zrow_all N out hN] at hr
 refine ⟨by rw [yab, hN, Nat.mul_one], fun _ => ⟨g, 0, rfl, hr.lt, fun j u hu => ?_⟩⟩
 rw [Nat.zero_add, hr.cell]
 simpa using hu
set_option maxRecDepth 100000 in
set_option maxHeartbeats 4000000 in
theorem zr_unpack_any (l : List Int) (most : Int) (A : Option Addr) (n c : Nat) (w : World) (hm : n ≤ 1000000) (hc : n ≤ c) (hr : Reads w w.heap.size 1 A n (ints l)) :
  Calls Tryz.prog 59 #[.slice A n c, .int .i64 most] w fun e w' => ∃ A' c', e = .returned (.tuple #[.slice A' (zunF l most).1.length c', .int .i64 (zunF l most).2]) ∧ (zunF l most).1.length ≤ c' ∧ Reads w' w'.heap.size 1 A' (zunF l most).1.length (ints (zunF l most).1) ∧ Below w.heap.size w w' := by
 have hmf := yeE
 have en : l.length = n := by have := hr.1; rw [yab] at this; omega
 have Hall := Lib.hid (zr_all_any l 256 A n c w (by omega) hr)
 have Hcount := Lib.hid fun w1 (hb : Below w.heap.size w w1) => zr_count_any l A n c w1 hm hc ((hr.below hb).more hb.size)
 unfold zunF
 cases hg : ya5 256 l with
 | true =>
  rw [hg] at Hall
  rw [if_pos rfl]
  by_cases hbig : (ybd l : Int) > most ∨ (ybd l : Int) > 100000
  ·rw [if_pos hbig]
   show Calls _ _ _ _ fun e w' => ∃ A' c', e = .returned (.tuple #[.slice A' 0 c', .int .i64 3]) ∧ 0 ≤ c' ∧ Reads w' w'.heap.size 1 A' 0 [] ∧ Below w.heap.size w w'
   clear hg hr hm hc
   generalize (ybd l : Int) = z at *
   go_enter Tryz.func59, Tryz.ntmps59
   go_wp2_with (first
    | (go_at_call 36; refine Hall.out.mono ?_; rintro e w1 ⟨rfl, hb1⟩; have Hb1 := Lib.hid hb1; clear hb1)
    | (go_at_call 93; refine (Hcount.out _ Hb1.out).mono ?_; rintro e w2 ⟨rfl, hb2⟩; have Hb2 := Lib.hid (Hb1.out.trans (hb2.mono Hb1.out.size)); clear hb2))
   all_goals go_ret2
   all_goals exact ⟨none, ⟨0, rfl⟩, Reads.none_, Hb2.out⟩
  ·rw [if_neg hbig]
   show Calls _ _ _ _ fun e w' => ∃ A' c', e = .returned (.tuple #[.slice A' (zun [] l).length c', .int .i64 0]) ∧ (zun [] l).length ≤ c' ∧ Reads w' w'.heap.size 1 A' (zun [] l).length (ints (zun [] l)) ∧ Below w.heap.size w w'
   have hz : ybd l = (zun [] l).length := by
    rw [zun_len l [] hg]
    unfold ybd at hbig ⊢
    omega
   rw [hz] at Hcount hbig
   have hb2 : ((zun [] l).length : Int) ≤ most ∧ ((zun [] l).length : Int) ≤ 100000 := by omega
   have Hwalk := Lib.hid fun w1 (hb : Below w.heap.size w w1) => zr_uwalk_any l A n c w.heap.size (zun [] l).length w1 en hm hc hb.size hg (by omega) rfl (hr.below hb)
   clear hg hr hm hc hbig hz
   generalize zun [] l = T at *
   have hmk := fun W => zmk_ints (T.length : Int) T.length rfl (by omega) W
   have HT : Hid (∀ (B g : Nat) (W : World), ZUn B g T.length T W → Reads W W.heap.size 1 (some ⟨g, 0, none⟩) T.length (ints T)) := Lib.hid fun B g W h => zun_reads h rfl
   unfold zuw at Hwalk
   generalize (ints (List.replicate T.length 0)).toArray = Z0 at *
   obtain ⟨hz1, hz2⟩ := hb2
   go_enter Tryz.func59, Tryz.ntmps59
   go_wp2_with (first
    | (go_at_call 36; refine Hall.out.mono ?_; rintro e w1 ⟨rfl, hb1⟩; have Hb1 := Lib.hid hb1; clear hb1)
    | (go_at_call 93; refine (Hcount.out _ Hb1.out).mono ?_; rintro e w2 ⟨rfl, hb2⟩; have Hb2 := Lib.hid (Hb1.out.trans (hb2.mono Hb1.out.size)); clear hb2)
    | (go_at_call 38; refine (Hwalk.out _ Hb2.out).mono ?_; rintro e w3 ⟨⟨r, rfl⟩, hP, hb3⟩; have x1 := hP.box.cell 0; have Hr3 := Lib.hid (HT.out _ _ _ hP); have Hb3 := Lib.hid hb3; clear hP hb3))
   all_goals go_ret2
   all_goals exact ⟨_, _, rfl, Nat.le_refl _, Hr3.out, Hb2.out.trans Hb3.out⟩
 | false =>
  rw [hg] at Hall
  clear hg hr hm hc
  rw [if_neg (by decide)]
  go_enter Tryz.func59, Tryz.ntmps59
  go_wp2_with (go_at_call 36; refine Hall.out.mono ?_; rintro e w1 ⟨rfl, hb1⟩; have Hb1 := Lib.hid hb1; clear hb1)
  go_ret2
  exact ⟨none, 0, rfl, Nat.le_refl _, Reads.none_, Hb1.out⟩
end Go.Proofs.YtoinjdmlembgeaaGreat
