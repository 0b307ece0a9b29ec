/-
 What the law of the last of these texts stands on, part 32.
-/
import Derived.Test.YtanjhbkbpalnaaaGreatMc23
import Derived.Test.YtanjhbkbpalnaaaGreatMc29
set_option maxRecDepth 100000
set_option maxHeartbeats 8000000
open Go.Proofs.Tryz
namespace Go.Proofs.YtanjhbkbpalnaaaGreat
set_option linter.unusedSimpArgs false
set_option linter.unusedVariables false
open Go.ChangeShapes Go.WideShapes Go.ChangeAt Go.RowKit Go.Joins Go.Deep Go.Shelf
def zsumV (sb : Nat) : Value := .func (.func 172) #[] #[.pointer (some ⟨sb, 0, none⟩)]
structure ZCt (B sb ab : Nat) (s : Nat) (W : World) : Prop where
 box : Blk W sb 3 #[.int .i64 (s : Int)]
 add : Blk W ab 109 #[zsumV sb]
 bs : B ≤ sb
 ba : B ≤ ab
 size : B ≤ W.heap.size
 le : s ≤ 100001
section
variable {B sb ab s : Nat} {W W' : World}
theorem zof_drew (h : Below B W.drew W') : Below B W W' := ⟨h.os, h.tape, h.output, h.size, h.block⟩
theorem ZCt.below (h : ZCt B sb ab s W) (hb : Below W.heap.size W W') : ZCt B sb ab s W' :=
 ⟨h.box.below hb h.box.lt, h.add.below hb h.add.lt, h.bs, h.ba, qaG h.size hb.size, h.le⟩
theorem ZCt.apart (h : ZCt B sb ab s W) : ab ≠ sb := fun e => by
 have h1 := h.box
 have h2 := h.add
 rw [e] at h2
 unfold Blk at h1 h2
 rw [h1] at h2
 injection h2 with h2
 injection h2 with _ h2
 exact absurd h2 (by decide)
end
theorem zr_sum_any (B sb ab s x : Nat) (W : World) (hx : x ≤ 100001) (hP : ZCt B sb ab s W) :
  Calls prog 172 #[.int .i64 (x : Int), .pointer (some ⟨sb, 0, none⟩)] W fun e W' => (∃ r, e = .returned r) ∧ ZCt B sb ab (min (s + x) 100001) W' ∧ Below B W W' := by
 have c1 : W.cell? ⟨sb, 0, none⟩ = some (.int .i64 (s : Int)) := hP.box.cell 0
 have c2 := hP.box.frozen 0
 have hsl := hP.box.lt
 have hle : (s : Int) ≤ 100001 ∧ (x : Int) ≤ 100001 ∧ 0 ≤ (s : Int) ∧ 0 ≤ (x : Int) := by have := hP.le; omega
 have fin : ∀ z : Int, z = ((min (s + x) 100001 : Nat) : Int) → ZCt B sb ab (min (s + x) 100001) (W.setCell ⟨sb, 0, none⟩ (.int .i64 z)) ∧ Below B W (W.setCell ⟨sb, 0, none⟩ (.int .i64 z)) := fun z hz => by
  subst hz
  refine ⟨⟨?_, hP.add.far hP.apart _, hP.bs, hP.ba, ?_, by omega⟩, (qam _ _).setCell (p := ⟨sb, 0, none⟩) hP.bs _⟩
  ·simpa using hP.box.set_ 0 (.int .i64 ((min (s + x) 100001 : Nat) : Int))
  ·have := hP.size
   simpa [World.setCell] using this
 have Fin := qaa fin
 clear fin hP
 go_enter func172, ntmps172
 go_wp2
 all_goals go_end0
 all_goals exact ⟨⟨_, rfl⟩, Fin.out _ (by omega)⟩
theorem zr_crun_any (B sb ab s m c : Nat) (Ap : Option Addr) (p : List Int) (W : World) (hp : p.length = m) (hm : m ≤ 1000000) (hg : ya5 1 p = true) (hr : Reads W B 1 Ap m (ints p)) (hP : ZCt B sb ab s W) :
  Calls prog 173 #[.slice Ap m c, .pointer (some ⟨ab, 0, none⟩)] W fun e W' => (∃ r, e = .returned r) ∧ ZCt B sb ab (min (s + zval p) 100001) W' ∧ Below B W W' := by
 have c1 : W.cell? ⟨ab, 0, none⟩ = some (zsumV sb) := hP.add.cell 0
 have Hnum := qaa fun (W2 : World) (hb : Reads W2 W2.heap.size 1 Ap m (ints p)) => yen p hg Ap m c W2 (by omega) hb
 have hr2 := hr.more hP.size
 have hv : zval p ≤ 100001 := by unfold zval; omega
 have Hsum := qaa fun (W2 : World) h => zr_sum_any B sb ab s (zval p) W2 hv h
 have hal := hP.add.lt
 have HP := qaa hP
 have Hr := qaa hr2
 clear hP hr hg hr2 hv
 generalize zval p = z at *
 unfold zsumV at c1
 go_enter func173, ntmps173
 go_wp2
 go_region_with (first
  | (go_at_call 134; refine (Hnum.out _ Hr.out.drew).mono ?_; rintro e w1 ⟨rfl, hb1⟩; replace hb1 := zof_drew hb1; have c2 := (hb1.cell (p := ⟨ab, 0, none⟩) hal).trans c1; have Hb1 := qaa hb1; clear hb1)
  | (go_at_call 172; refine (Hsum.out _ (HP.out.below Hb1.out)).mono ?_; rintro e w2 ⟨⟨r, rfl⟩, hP2, hb2⟩; have HP2 := qaa hP2; have Hb2 := qaa hb2; clear hP2 hb2))
 all_goals go_end0
 all_goals exact ⟨⟨_, rfl⟩, HP2.out, (Hb1.out.mono HP.out.size).trans Hb2.out⟩
def zone (x : Int) : Nat := if 2 ≤ x ∧ x ≤ 256 then 1 else 0
theorem zr_cother_any (B sb ab s : Nat) (x : Int) (W : World) (hx : ¬(0 ≤ x ∧ x ≤ 1)) (hP : ZCt B sb ab s W) :
  Calls prog 174 #[.int .i64 x, .pointer (some ⟨ab, 0, none⟩)] W fun e W' => (∃ r, e = .returned r) ∧ ZCt B sb ab (min (s + zone x) 100001) W' ∧ Below B W W' := by
 have c1 : W.cell? ⟨ab, 0, none⟩ = some (.func (.func 172) #[] #[.pointer (some ⟨sb, 0, none⟩)]) := hP.add.cell 0
 have hw := fun W => yc7 x 256 W
 have Hsum := qaa (zr_sum_any B sb ab s 1 W (by omega) hP)
 have HP := qaa hP
 clear hP
 by_cases h : 0 ≤ x ∧ x ≤ 256
 ·have e1 : zone x = 1 := by unfold zone; rw [qah (by omega)]
  rw [(ybP _ _).2 h] at hw
  have Hw := qaa hw
  rw [e1]
  clear e1 hw h hx
  go_enter func174, ntmps174
  go_wp2_with (first
   | (go_at_call 120; refine (Hw.out _).mono ?_; rintro e w1 ⟨rfl, rfl⟩)
   | (go_at_call 172; refine Hsum.out.mono ?_; rintro e w2 ⟨⟨r, rfl⟩, hP2, hb2⟩; have HP2 := qaa hP2; have Hb2 := qaa hb2; clear hP2 hb2))
  go_end0
  exact ⟨⟨_, rfl⟩, HP2.out, Hb2.out⟩
 ·have e1 : zone x = 0 := by unfold zone; rw [qag (by omega)]
  rw [zin_no _ _ h] at hw
  have Hw := qaa hw
  have hs : min (s + 0) 100001 = s := by have := HP.out.le; omega
  rw [e1, hs]
  clear e1 hw h hx hs
  go_enter func174, ntmps174
  go_wp2_with (go_at_call 120; refine (Hw.out _).mono ?_; rintro e w1 ⟨rfl, rfl⟩)
  go_end0
  exact ⟨⟨_, rfl⟩, HP.out, qam _ _⟩
theorem zct_step (l : List Int) (k j : Nat) (hkj : k ≤ j) (hg : ya5 1 ((l.take j).drop k) = true) (hx : ∀ hj : j < l.length, zin 1 l[j] = false) : zct [] (l.drop k) = zv ((l.take j).drop k) + zct [] (l.drop j) := by
 rw [zsplit l k j hkj, zct_run [] _ _ hg, qaS, zct_end _ _ (yeE l j 1 hx)]
theorem zct_next (l : List Int) (j : Nat) (hj : j < l.length) (hx : zin 1 l[j] = false) : zct [] (l.drop j) = zone l[j] + zct [] (l.drop (j + 1)) := by
 rw [qa6 hj]
 exact zct_cons _ _ fun h => by rw [(ybP _ _).2 h] at hx; cases hx
def zcw (w1 : World) : World := (w1.alloc (.cells #[.int .i64 0] 3)).alloc (.cells #[zsumV w1.heap.size] 109)
theorem zr_cwalk_any (l : List Int) (A : Option Addr) (n c : Nat) (w : World) (hn : l.length = n) (hm : n ≤ 1000000) (hc : n ≤ c) (hr : Reads w w.heap.size 1 A n (ints l)) :
  Calls prog 71 #[.slice A n c, .int .i64 1, .func (.func 173) #[] #[.pointer (some ⟨w.heap.size + 1, 0, none⟩)], .func (.func 174) #[] #[.pointer (some ⟨w.heap.size + 1, 0, none⟩)]] (zcw w) fun e W' =>
   (∃ v, e = .returned v) ∧ ZCt w.heap.size w.heap.size (w.heap.size + 1) (yaW l) W' ∧ Below w.heap.size w W' := by
 refine (ydD l 1 n w.heap.size c A _ _ _ _ (fun k W => Below w.heap.size w W ∧ ∃ s, ZCt w.heap.size w.heap.size (w.heap.size + 1) s W ∧ min (s + zct [] (l.drop k)) 100001 = yaW l) ⟨?er, ?eo, ?reads, ?run, ?other⟩ (zcw w) hn (by omega) hc ?h0).mono ?fin
 case er => exact enters_of func173 (by kernel_rfl) rfl
 case eo => exact enters_of func174 (by kernel_rfl) rfl
 case reads => exact fun k W h => hr.below h.1
 case run =>
  rintro k j W Ap hkj hjn hgp hx ⟨hb, s, hP, hs⟩ hrp
  refine (zr_crun_any w.heap.size w.heap.size (w.heap.size + 1) s (j - k) (j - k) Ap _ W (by rw [qat, qao]; omega) (by omega) hgp hrp hP).mono ?_
  rintro e W' ⟨he, hP', hb'⟩
  refine ⟨he, hb.trans hb', _, hP', ?_⟩
  rw [← hs, zct_step l k j hkj hgp hx]
  unfold zval
  omega
 case other =>
  rintro j W hj hx ⟨hb, s, hP, hs⟩
  refine (zr_cother_any w.heap.size w.heap.size (w.heap.size + 1) s l[j] W (fun h => by rw [(ybP _ _).2 h] at hx; cases hx) hP).mono ?_
  rintro e W' ⟨he, hP', hb'⟩
  refine ⟨he, hb.trans hb', _, hP', ?_⟩
  rw [← hs, zct_next l j hj hx]
  omega
 case h0 =>
  have hbw : Below w.heap.size w (zcw w) := ((qam _ _).alloc (qaf _) _).alloc (by simp) _
  refine ⟨hbw, 0, ⟨(Blk.new w _ _).alloc _, ?_, qaf _, by omega, hbw.size, by omega⟩, ?_⟩
  ·have := Blk.new (w.alloc (.cells #[.int .i64 0] 3)) 109 #[zsumV w.heap.size]
   rwa [show (w.alloc (.cells #[.int .i64 0] 3)).heap.size = w.heap.size + 1 from by simp] at this
  ·rw [qaL]; rfl
 case fin =>
  rintro e W' ⟨he, hb, s, hP, hs⟩
  refine ⟨he, ?_, hb⟩
  rw [← hs, qaO (by omega), show min (s + zct [] []) 100001 = s from by have := hP.le; simp [zct, zv]; omega]
  exact hP
theorem zr_count_any (l : List Int) (A : Option Addr) (n c : Nat) (w : World) (hm : n ≤ 1000000) (hc : n ≤ c) (hr : Reads w w.heap.size 1 A n (ints l)) :
  Calls prog 132 #[.slice A n c] w fun e w' => e = .returned (.int .i64 (yaW l : Int)) ∧ Below w.heap.size w w' := by
 have hmf := ye0
 have en : l.length = n := by have := hr.1; rw [yac] at this; omega
 have Hwalk := qaa (zr_cwalk_any l A n c w en hm hc hr)
 clear hr hm hc
 generalize yaW l = z at *
 go_enter func132, ntmps132
 go_wp2_with (go_at_call 71; refine Hwalk.out.mono ?_; rintro e w2 ⟨⟨r, rfl⟩, hP, hb2⟩; have x1 := hP.box.cell 0; have Hb2 := qaa hb2; clear hP hb2)
 go_ret
 exact ⟨rfl, Hb2.out⟩
end Go.Proofs.YtanjhbkbpalnaaaGreat
