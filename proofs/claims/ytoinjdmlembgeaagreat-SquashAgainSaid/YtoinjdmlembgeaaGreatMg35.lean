/-
 What the law of the last of these texts stands on, part 35.
-/
import Derived.Test.YtoinjdmlembgeaaGreatMg31
import Derived.Test.YtoinjdmlembgeaaGreatMg34
namespace Go.Proofs.YtoinjdmlembgeaaGreat
set_option linter.unusedSimpArgs false
set_option linter.unusedVariables false
open Go.ChangeShapes Go.WideShapes Go.ChangeAt Go.RowKit Go.Joins Go.Deep Go.Shelf
def zsumV (sb : Nat) : Value := .func (.func 128) #[] #[.pointer (some ⟨sb, 0, none⟩)]
structure ZCt (B sb ab : Nat) (s : Nat) (W : World) : Prop where
 box : Blk W sb 3 #[.int .i64 (s : Int)]
 add : Blk W ab 72 #[zsumV sb]
 bs : B ≤ sb
 ba : B ≤ ab
 size : B ≤ W.heap.size
 le : s ≤ 100001
section
variable {B sb ab s : Nat} {W W' : World}
theorem zof_drew (h : Below B W.drew W') : Below B W W' := ⟨h.os, h.tape, h.output, h.size, h.block⟩
theorem ZCt.below (h : ZCt B sb ab s W) (hb : Below W.heap.size W W') : ZCt B sb ab s W' :=
 ⟨h.box.below hb h.box.lt, h.add.below hb h.add.lt, h.bs, h.ba, Nat.le_trans h.size hb.size, h.le⟩
theorem ZCt.apart (h : ZCt B sb ab s W) : ab ≠ sb := fun e => by
 have h1 := h.box
 have h2 := h.add
 rw [e] at h2
 unfold Blk at h1 h2
 rw [h1] at h2
 injection h2 with h2
 injection h2 with _ h2
 exact absurd h2 (by decide)
end
set_option maxRecDepth 100000 in
theorem zr_sum_any (B sb ab s x : Nat) (W : World) (hx : x ≤ 100001) (hP : ZCt B sb ab s W) :
  Calls Tryz.prog 128 #[.int .i64 (x : Int), .pointer (some ⟨sb, 0, none⟩)] W fun e W' => (∃ r, e = .returned r) ∧ ZCt B sb ab (min (s + x) 100001) W' ∧ Below B W W' := by
 have c1 : W.cell? ⟨sb, 0, none⟩ = some (.int .i64 (s : Int)) := hP.box.cell 0
 have c2 := hP.box.frozen 0
 have hsl := hP.box.lt
 have hle : (s : Int) ≤ 100001 ∧ (x : Int) ≤ 100001 ∧ 0 ≤ (s : Int) ∧ 0 ≤ (x : Int) := by have := hP.le; omega
 have fin : ∀ z : Int, z = ((min (s + x) 100001 : Nat) : Int) → ZCt B sb ab (min (s + x) 100001) (W.setCell ⟨sb, 0, none⟩ (.int .i64 z)) ∧ Below B W (W.setCell ⟨sb, 0, none⟩ (.int .i64 z)) := fun z hz => by
  subst hz
  refine ⟨⟨?_, hP.add.far hP.apart _, hP.bs, hP.ba, ?_, by omega⟩, (Below.refl _ _).setCell (p := ⟨sb, 0, none⟩) hP.bs _⟩
  ·simpa using hP.box.set_ 0 (.int .i64 ((min (s + x) 100001 : Nat) : Int))
  ·have := hP.size
   simpa [World.setCell] using this
 have Fin := Lib.hid fin
 clear fin hP
 go_enter Tryz.func128, Tryz.ntmps128
 go_wp2
 all_goals go_end0
 all_goals exact ⟨⟨_, rfl⟩, Fin.out _ (by omega)⟩
set_option maxRecDepth 100000 in
set_option maxHeartbeats 2000000 in
theorem zr_crun_any (B sb ab s m c : Nat) (Ap : Option Addr) (p : List Int) (W : World) (hp : p.length = m) (hm : m ≤ 1000000) (hg : ya5 1 p = true) (hr : Reads W B 1 Ap m (ints p)) (hP : ZCt B sb ab s W) :
  Calls Tryz.prog 129 #[.slice Ap m c, .pointer (some ⟨ab, 0, none⟩)] W fun e W' => (∃ r, e = .returned r) ∧ ZCt B sb ab (min (s + zval p) 100001) W' ∧ Below B W W' := by
 have c1 : W.cell? ⟨ab, 0, none⟩ = some (zsumV sb) := hP.add.cell 0
 have Hnum := Lib.hid fun (W2 : World) (hb : Reads W2 W2.heap.size 1 Ap m (ints p)) => yfc p hg Ap m c W2 (by omega) hb
 have hr2 := hr.more hP.size
 have hv : zval p ≤ 100001 := by unfold zval; omega
 have Hsum := Lib.hid fun (W2 : World) h => zr_sum_any B sb ab s (zval p) W2 hv h
 have hal := hP.add.lt
 have HP := Lib.hid hP
 have Hr := Lib.hid hr2
 clear hP hr hg hr2 hv
 generalize zval p = z at *
 unfold zsumV at c1
 go_enter Tryz.func129, Tryz.ntmps129
 go_wp2
 go_region_with (first
  | (go_at_call 95; refine (Hnum.out _ Hr.out.drew).mono ?_; rintro e w1 ⟨rfl, hb1⟩; replace hb1 := zof_drew hb1; have c2 := (hb1.cell (p := ⟨ab, 0, none⟩) hal).trans c1; have Hb1 := Lib.hid hb1; clear hb1)
  | (go_at_call 128; refine (Hsum.out _ (HP.out.below Hb1.out)).mono ?_; rintro e w2 ⟨⟨r, rfl⟩, hP2, hb2⟩; have HP2 := Lib.hid hP2; have Hb2 := Lib.hid hb2; clear hP2 hb2))
 all_goals go_end0
 all_goals exact ⟨⟨_, rfl⟩, HP2.out, (Hb1.out.mono HP.out.size).trans Hb2.out⟩
def zone (x : Int) : Nat := if 2 ≤ x ∧ x ≤ 256 then 1 else 0
set_option maxHeartbeats 1000000 in
theorem zr_cother_any (B sb ab s : Nat) (x : Int) (W : World) (hx : ¬(0 ≤ x ∧ x ≤ 1)) (hP : ZCt B sb ab s W) :
  Calls Tryz.prog 130 #[.int .i64 x, .pointer (some ⟨ab, 0, none⟩)] W fun e W' => (∃ r, e = .returned r) ∧ ZCt B sb ab (min (s + zone x) 100001) W' ∧ Below B W W' := by
 have c1 : W.cell? ⟨ab, 0, none⟩ = some (.func (.func 128) #[] #[.pointer (some ⟨sb, 0, none⟩)]) := hP.add.cell 0
 have hw := fun W => ycR x 256 W
 have Hsum := Lib.hid (zr_sum_any B sb ab s 1 W (by omega) hP)
 have HP := Lib.hid hP
 clear hP
 by_cases h : 0 ≤ x ∧ x ≤ 256
 ·have e1 : zone x = 1 := by unfold zone; rw [if_pos (by omega)]
  rw [(ybX _ _).2 h] at hw
  have Hw := Lib.hid hw
  rw [e1]
  clear e1 hw h hx
  go_enter Tryz.func130, Tryz.ntmps130
  go_wp2_with (first
   | (go_at_call 82; refine (Hw.out _).mono ?_; rintro e w1 ⟨rfl, rfl⟩)
   | (go_at_call 128; refine Hsum.out.mono ?_; rintro e w2 ⟨⟨r, rfl⟩, hP2, hb2⟩; have HP2 := Lib.hid hP2; have Hb2 := Lib.hid hb2; clear hP2 hb2))
  go_end0
  exact ⟨⟨_, rfl⟩, HP2.out, Hb2.out⟩
 ·have e1 : zone x = 0 := by unfold zone; rw [if_neg (by omega)]
  rw [zin_no _ _ h] at hw
  have Hw := Lib.hid hw
  have hs : min (s + 0) 100001 = s := by have := HP.out.le; omega
  rw [e1, hs]
  clear e1 hw h hx hs
  go_enter Tryz.func130, Tryz.ntmps130
  go_wp2_with (go_at_call 82; refine (Hw.out _).mono ?_; rintro e w1 ⟨rfl, rfl⟩)
  go_end0
  exact ⟨⟨_, rfl⟩, HP.out, Below.refl _ _⟩
theorem zct_step (l : List Int) (k j : Nat) (hkj : k ≤ j) (hg : ya5 1 ((l.take j).drop k) = true) (hx : ∀ hj : j < l.length, zin 1 l[j] = false) : zct [] (l.drop k) = zv ((l.take j).drop k) + zct [] (l.drop j) := by
 rw [zsplit l k j hkj, zct_run [] _ _ hg, List.nil_append, zct_end _ _ (yf2 l j 1 hx)]
theorem zct_next (l : List Int) (j : Nat) (hj : j < l.length) (hx : zin 1 l[j] = false) : zct [] (l.drop j) = zone l[j] + zct [] (l.drop (j + 1)) := by
 rw [List.drop_eq_getElem_cons hj]
 exact zct_cons _ _ fun h => by rw [(ybX _ _).2 h] at hx; cases hx
def zcw (w1 : World) : World := (w1.alloc (.cells #[.int .i64 0] 3)).alloc (.cells #[zsumV w1.heap.size] 72)
theorem zr_cwalk_any (l : List Int) (A : Option Addr) (n c : Nat) (w : World) (hn : l.length = n) (hm : n ≤ 1000000) (hc : n ≤ c) (hr : Reads w w.heap.size 1 A n (ints l)) :
  Calls Tryz.prog 38 #[.slice A n c, .int .i64 1, .func (.func 129) #[] #[.pointer (some ⟨w.heap.size + 1, 0, none⟩)], .func (.func 130) #[] #[.pointer (some ⟨w.heap.size + 1, 0, none⟩)]] (zcw w) fun e W' =>
   (∃ v, e = .returned v) ∧ ZCt w.heap.size w.heap.size (w.heap.size + 1) (ybd l) W' ∧ Below w.heap.size w W' := by
 refine (yeg l 1 n w.heap.size c A _ _ _ _ (fun k W => Below w.heap.size w W ∧ ∃ s, ZCt w.heap.size w.heap.size (w.heap.size + 1) s W ∧ min (s + zct [] (l.drop k)) 100001 = ybd l) ⟨?er, ?eo, ?reads, ?run, ?other⟩ (zcw w) hn (by omega) hc ?h0).mono ?fin
 case er => exact enters_of Tryz.func129 (by kernel_rfl) rfl
 case eo => exact enters_of Tryz.func130 (by kernel_rfl) rfl
 case reads => exact fun k W h => hr.below h.1
 case run =>
  rintro k j W Ap hkj hjn hgp hx ⟨hb, s, hP, hs⟩ hrp
  refine (zr_crun_any w.heap.size w.heap.size (w.heap.size + 1) s (j - k) (j - k) Ap _ W (by rw [List.length_drop, List.length_take]; omega) (by omega) hgp hrp hP).mono ?_
  rintro e W' ⟨he, hP', hb'⟩
  refine ⟨he, hb.trans hb', _, hP', ?_⟩
  rw [← hs, zct_step l k j hkj hgp hx]
  unfold zval
  omega
 case other =>
  rintro j W hj hx ⟨hb, s, hP, hs⟩
  refine (zr_cother_any w.heap.size w.heap.size (w.heap.size + 1) s l[j] W (fun h => by rw [(ybX _ _).2 h] at hx; cases hx) hP).mono ?_
  rintro e W' ⟨he, hP', hb'⟩
  refine ⟨he, hb.trans hb', _, hP', ?_⟩
  rw [← hs, zct_next l j hj hx]
  omega
 case h0 =>
  have hbw : Below w.heap.size w (zcw w) := ((Below.refl _ _).alloc (Nat.le_refl _) _).alloc (by simp) _
  refine ⟨hbw, 0, ⟨(Blk.new w _ _).alloc _, ?_, Nat.le_refl _, by omega, hbw.size, by omega⟩, ?_⟩
  ·have := Blk.new (w.alloc (.cells #[.int .i64 0] 3)) 72 #[zsumV w.heap.size]
   rwa [show (w.alloc (.cells #[.int .i64 0] 3)).heap.size = w.heap.size + 1 from by simp] at this
  ·rw [Nat.zero_add]; rfl
 case fin =>
  rintro e W' ⟨he, hb, s, hP, hs⟩
  refine ⟨he, ?_, hb⟩
  rw [← hs, List.drop_of_length_le (by omega), show min (s + zct [] []) 100001 = s from by have := hP.le; simp [zct, zv]; omega]
  exact hP
set_option maxRecDepth 100000 in
set_option maxHeartbeats 1000000 in
theorem zr_count_any (l : List Int) (A : Option Addr) (n c : Nat) (w : World) (hm : n ≤ 1000000) (hc : n ≤ c) (hr : Reads w w.heap.size 1 A n (ints l)) :
  Calls Tryz.prog 93 #[.slice A n c] w fun e w' => e = .returned (.int .i64 (ybd l : Int)) ∧ Below w.heap.size w w' := by
 have hmf := yeE
 have en : l.length = n := by have := hr.1; rw [yab] at this; omega
 have Hwalk := Lib.hid (zr_cwalk_any l A n c w en hm hc hr)
 clear hr hm hc
 generalize ybd l = z at *
 go_enter Tryz.func93, Tryz.ntmps93
 go_wp2_with (go_at_call 38; refine Hwalk.out.mono ?_; rintro e w2 ⟨⟨r, rfl⟩, hP, hb2⟩; have x1 := hP.box.cell 0; have Hb2 := Lib.hid hb2; clear hP hb2)
 go_ret
 exact ⟨rfl, Hb2.out⟩
end Go.Proofs.YtoinjdmlembgeaaGreat
