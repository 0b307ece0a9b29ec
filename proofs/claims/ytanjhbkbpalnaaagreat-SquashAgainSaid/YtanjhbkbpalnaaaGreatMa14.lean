/-
 What the law of the last of these texts stands on, part 14.
-/
import Derived.Test.YtanjhbkbpalnaaaGreatMa04
import Derived.Test.YtanjhbkbpalnaaaGreatMa09
import Derived.Test.YtanjhbkbpalnaaaGreatMa13
import Derived.Lib.OwnBridge
import Derived.Shelf.SlSorted.Search
set_option maxRecDepth 100000
set_option maxHeartbeats 8000000
open Go.Proofs.Tryz
namespace Go.Proofs.YtanjhbkbpalnaaaGreat
set_option linter.unusedSimpArgs false
set_option linter.unusedVariables false
open Go.ChangeShapes Go.WideShapes Go.ChangeAt Go.RowKit Go.Joins Go.Deep Go.Shelf
open Go.Sort (SWO swp size_swp HoldsK)
structure PEl where
 th : LTh
 A : Option Addr
 c : Nat
 no : Nat
instance : Inhabited PEl := ⟨⟨⟨0, [], false⟩, none, 0, 0⟩⟩
def penc (x : PEl) : List Value := [.int .i64 x.th.w, .slice x.A x.th.syms.length x.c]
def pcf (x y : PEl) : Int := Lib.compareInt x.th.w y.th.w
def yaB (E : List PEl) : List Value := (E.map penc).flatten
theorem ybM (x : PEl) (E : List PEl) : yaB (x :: E) = .int .i64 x.th.w :: .slice x.A x.th.syms.length x.c :: yaB E := rfl
theorem yfz (E E2 : List PEl) : yaB (E ++ E2) = yaB E ++ yaB E2 := by simp [yaB]
theorem yfj : ∀ E : List PEl, (yaB E).length = E.length * 2
 | [] => rfl
 | x :: E => by rw [ybM, qap, qap, yfj E, qap]; omega
theorem pcells_one : ∀ (E : List PEl), ∀ u ∈ yaB E, u.oneCell' = true
 | [], u, h => by cases h
 | x :: E, u, h => by
  rw [ybM] at h
  simp only [qaC] at h
  rcases h with rfl | rfl | h
  ·rfl
  ·rfl
  ·exact pcells_one E u h
theorem yff : ∀ (E : List PEl) (i : Nat) (h : i < E.length), (yaB E)[i * 2]? = some (.int .i64 E[i].th.w) ∧ (yaB E)[i * 2 + 1]? = some (.slice E[i].A E[i].th.syms.length E[i].c)
 | x :: E, 0, _ => ⟨rfl, rfl⟩
 | x :: E, i + 1, h => by
  obtain ⟨h1, h2⟩ := yff E i (by simpa using h)
  rw [ybM, show (i + 1) * 2 = i * 2 + 1 + 1 from by omega]
  exact ⟨by simpa using h1, by simpa using h2⟩
theorem ydX (E : List PEl) : (Go.Sort.flatK penc 2 E.toArray).toList = yaB E := by
 apply qc8
 intro t
 by_cases ht : t < E.length * 2
 ·have h1 : (Go.Sort.flatK penc 2 E.toArray).toList[t]? = some (Go.Sort.flatK penc 2 E.toArray)[t]! := by
   rw [Array.getElem?_toList, getElem!_pos _ t (by simpa using ht), qbY (by simpa using ht)]
  rw [h1, Go.Sort.get_flatK _ _ _ _ (by simpa using ht)]
  have hd : t / 2 < E.length := by omega
  obtain ⟨g1, g2⟩ := yff E (t / 2) hd
  rw [get_list hd]
  rcases Nat.mod_two_eq_zero_or_one t with e | e
  ·have et : t = t / 2 * 2 := by omega
   rw [e]
   conv => rhs; rw [et]
   rw [g1]
   rfl
  ·have et : t = t / 2 * 2 + 1 := by omega
   rw [e]
   conv => rhs; rw [et]
   rw [g2]
   rfl
 ·rw [qbq (by simp; omega), qbq (by rw [yfj]; omega)]
theorem pcf_lt (x y : PEl) : ltOf pcf x y = decide (x.th.w < y.th.w) := by
 unfold ltOf pcf Lib.compareInt
 by_cases h : x.th.w < y.th.w
 ·rw [qag h]; simp [h]
 ·rw [qae h]
  split <;> simp [h]
theorem pcf_swo : SWO (ltOf pcf) where
 irrefl x := by rw [pcf_lt]; simp
 trans x y z h k := by rw [pcf_lt] at *; simp only [qck] at *; omega
 ntrans x y z h k := by rw [pcf_lt] at *; simp only [decide_eq_false_iff_not] at *; omega
theorem yhl (a : Int) (W : World) : Calls prog 207 #[.int .i64 a] W fun e w' => e = .returned (.bool false) ∧ w' = W := by
 have h : (a == a) = true := by simp
 go_enter func207, ntmps207
 go_wp2
 go_ret
 exact ⟨by simp, rfl⟩
theorem compare_any (a b : Int) (W : World) : Calls prog 201 #[.int .i64 a, .int .i64 b] W fun e w' => e = .returned (.int .i64 (Lib.compareInt a b)) ∧ w' = W := by
 obtain ⟨r, hr⟩ : ∃ r, Lib.compareInt a b = r := ⟨_, rfl⟩
 rw [hr]
 unfold Lib.compareInt at hr
 by_cases h : a < b
 ·rw [qag h] at hr
  subst hr
  go_enter func201, ntmps201
  go_wp2_with (go_at_call 207; refine (yhl _ _).mono ?_; rintro e w1 ⟨rfl, rfl⟩)
  go_ret
  exact ⟨rfl, rfl⟩
 ·rw [qae h] at hr
  by_cases h2 : b < a
  ·rw [qag h2] at hr
   subst hr
   go_enter func201, ntmps201
   go_wp2_with (go_at_call 207; refine (yhl _ _).mono ?_; rintro e w1 ⟨rfl, rfl⟩)
   go_ret
   exact ⟨rfl, rfl⟩
  ·rw [qae h2] at hr
   subst hr
   go_enter func201, ntmps201
   go_wp2_with (go_at_call 207; refine (yhl _ _).mono ?_; rintro e w1 ⟨rfl, rfl⟩)
   go_ret
   exact ⟨rfl, rfl⟩
theorem order_any (x y : PEl) (W : World) : Calls prog 184 #[.agg (penc x).toArray, .agg (penc y).toArray] W fun e w' => e = .returned (.int .i64 (pcf x y)) ∧ ∃ q os', w' = Sort.grow (W.drewN q) os' := by
 have hcon := fun W' => compare_any x.th.w y.th.w W'
 unfold pcf penc
 generalize Lib.compareInt x.th.w y.th.w = r at hcon ⊢
 generalize Value.slice x.A x.th.syms.length x.c = vx
 generalize Value.slice y.A y.th.syms.length y.c = vy
 go_enter func184, ntmps184
 go_wp2_with (go_at_call 201; refine (hcon _).mono ?_; rintro e w' ⟨rfl, rfl⟩)
 go_ret
 exact ⟨rfl, 0, _, by rw [Sort.alloc_eq_grow, Sort.alloc_eq_grow, Sort.grow_grow]; rfl⟩
theorem stable_nil (fv : Value) (w : World) : Calls prog 200 #[.slice none 0 0, .int .i64 0, fv] w fun e w' => e = .returned (.tuple #[]) ∧ w' = w := by
 have hins : ∀ W, Calls prog 205 #[.slice none 0 0, .int .i64 0, .int .i64 0, fv] W fun e w' => e = .returned (.tuple #[]) ∧ w' = W := fun W => by
  go_enter func205, ntmps205
  go_wp2
  refine wp_loop_rounds 1 ?_
  rw [rounds_succ]
  go_wp2
  go_end0
  exact ⟨rfl, rfl⟩
 go_enter func200, ntmps200
 go_wp2
 refine wp_loop_rounds 1 ?_
 rw [rounds_succ]
 go_wp2_with (go_at_call 205; refine (hins _).mono ?_; rintro e w' ⟨rfl, rfl⟩)
 refine wp_loop_rounds 1 ?_
 rw [rounds_succ]
 go_wp2
 go_end0
 exact ⟨rfl, rfl⟩
theorem below_sorted {B blk off n : Nat} {w : World} {d : Array PEl} {os : Array Obj} (hB : B ≤ blk) (hw : B ≤ w.heap.size) : Below B w (sortWorldK penc 2 w blk off n d os) := by
 refine ⟨rfl, rfl, rfl, ?_, fun k hk => ?_⟩
 ·unfold sortWorldK
  rw [Go.Sort.size_grow, Go.Sort.size_putRowK]
  exact Nat.le_add_right _ _
 ·have e : (sortWorldK penc 2 w blk off n d os).heap[k]? = (Go.Sort.putRowK penc 2 (Sort.ahead w n) blk off d).heap[k]? := by
   unfold sortWorldK Sort.grow
   rw [Array.getElem?_append_left (by rw [Go.Sort.size_putRowK]; exact qaZ hk hw)]
  rw [e]
  simp [Go.Sort.putRowK, Go.Sort.putRow, Go.Sort.mapBlock, Sort.ahead, Array.getElem?_modify, show blk ≠ k by omega]
theorem sort_any (v : Value) (n base : Nat) (E : List PEl) (w : World) (hO : w.ownsRow base 190 2 v n (yaB E)) (hb : base ≤ w.heap.size) (hE : E.length = n) (hn : E.Pairwise (fun x y => x.no < y.no)) (hsz : n ≤ 1000000) :
  Calls prog 183 #[v, .func (.func 184) #[] #[]] w fun e w' =>
   e = .returned (.tuple #[]) ∧ ∃ (Z : List PEl) (A : Option Addr) (c : Nat), v = .slice A n c ∧ n ≤ c ∧ Z.Perm E ∧ Z.Pairwise (sord (ltOf pcf) (·.no)) ∧ Reads w' w'.heap.size 2 A n (yaB Z) ∧ Below base w w' := by
 have ho := hO
 rcases hO.2 with ⟨rfl, rfl⟩ | ⟨g, cap, cur, rfl, hbg, hg, hnc, hcm, hcs, htake⟩
 ·have e : E = [] := qa1.1 hE
  subst e
  go_enter func183, ntmps183
  go_wp2_with (go_at_call 200; refine (stable_nil _ _).mono ?_; rintro e w' ⟨rfl, rfl⟩)
  go_end0
  exact ⟨rfl, [], none, 0, rfl, qad _, qc3 _, qbA, Reads.none_, qak _ _⟩
 ·have hlt : g < w.heap.size := Blk.lt (cs := cur) hg
  have hH : HoldsK penc 2 w g 0 E.toArray := by
   intro j hj
   have hj2 : j < n * 2 := by simpa [hE] using hj
   refine ⟨?_, by rw [qaz]; exact ho.frozenAt j⟩
   rw [qaz, ho.cellAt j hj2]
   have hj3 : j < (Go.Sort.flatK penc 2 E.toArray).size := hj
   rw [← ydX, Array.getElem?_toList, qbY hj3, getElem!_pos _ j hj3]
   rfl
  have R : RowK penc 2 w g 0 E.toArray := ⟨fun _ => rfl, fun x u hu => by simp [penc] at hu; rcases hu with rfl | rfl <;> rfl, hH, hlt⟩
  have eg : ∀ args w, (callFunc 184 args).run prog w = .ok (.enter 184 args) w := enters_of func184 (by kernel_rfl) rfl
  have hst := stable_any (no := fun x : PEl => x.no) stAll pcf_swo 184 #[] E n cap w eg (fun m os dk _ x y => order_any x y _) hE hn (by omega) R (by simpa using hE) (SWK.start hH)
  have Hfin : Hid (∀ w' (Z : List PEl), Z.Perm E → Z.Pairwise (sord (ltOf pcf) (·.no)) → SWK penc 2 w g 0 Z.toArray w' → Reads w' w'.heap.size 2 (some ⟨g, 0, none⟩) n (yaB Z) ∧ Below base w w') := qaa fun w' Z hp ho hS => by
   have hZ : Z.length = n := by rw [hp.length_eq]; exact hE
   have hh := hS.holds hlt hH (by simp [hZ, hE])
   refine ⟨⟨by rw [yfj, hZ], fun _ => ⟨g, 0, rfl, hS.lt hlt, fun j u hu => ?_⟩⟩, ?_⟩
   ·have hj : j < (Go.Sort.flatK penc 2 Z.toArray).size := by
     rw [← ydX, Array.getElem?_toList] at hu
     exact (Array.getElem?_eq_some_iff.1 hu).1
    rw [(hh j hj).1, ← hu, ← ydX, Array.getElem?_toList, qbY hj, getElem!_pos _ j hj]
    rfl
   ·obtain ⟨q, os, rfl⟩ := hS
    exact below_sorted hbg hb
  clear ho hO hH R eg htake hcs hg hn
  go_enter func183, ntmps183
  go_wp2_with (go_at_call 200; refine hst.mono ?_; rintro e w' ⟨rfl, Z, hp, ho, hS⟩; have HS := qaa hS; clear hS)
  go_end0
  obtain ⟨f1, f2⟩ := Hfin.out _ Z hp ho HS.out
  exact ⟨rfl, Z, _, cap, rfl, hnc, hp, ho, f1, f2⟩
end Go.Proofs.YtanjhbkbpalnaaaGreat
namespace Go.Proofs.YtanjhbkbpalnaaaGreat
set_option linter.unusedSimpArgs false
set_option linter.unusedVariables false
open Go.ChangeShapes Go.WideShapes Go.ChangeAt Go.RowKit Go.Joins Go.Deep Go.Shelf
structure POk (ok : Nat → Prop) (W : World) (B : Nat) (x : PEl) : Prop where
 room : x.th.syms.length ≤ x.c
 reads : Reads W B 1 x.A x.th.syms.length (ints (lsy x.th.syms))
 ty : 0 < x.th.syms.length → ∃ b off cs, x.A = some ⟨b, off, none⟩ ∧ Blk W b 3 cs ∧ ok b
theorem POk.keep {ok : Nat → Prop} {W W' : World} {B : Nat} {x : PEl} (h : POk ok W B x) (hk : ∀ b cs, b < B → Blk W b 3 cs → W'.heap[b]? = W.heap[b]?) : POk ok W' B x := by
 refine ⟨h.room, ⟨h.reads.1, fun hp => ?_⟩, fun hp => ?_⟩
 ·obtain ⟨b, off, e, hb, hc⟩ := h.reads.2 hp
  obtain ⟨b2, off2, cs, e2, hB, hok⟩ := h.ty hp
  rw [e] at e2
  injection e2 with e2
  injection e2 with e3 e4
  subst e3
  exact ⟨b, off, e, hb, fun j u hu => (qbO (a := ⟨b, off + j, none⟩) (hk b cs hb hB)).trans (hc j u hu)⟩
 ·obtain ⟨b, off, e, hb, hc⟩ := h.reads.2 hp
  obtain ⟨b2, off2, cs, e2, hB, hok⟩ := h.ty hp
  have e3 := e
  rw [e2] at e3
  injection e3 with e3
  injection e3 with e4 e5
  subst e4
  exact ⟨b2, off2, cs, e2, (hk b2 cs hb hB).trans hB, hok⟩
theorem POk.below {ok : Nat → Prop} {W W' : World} {B : Nat} {x : PEl} (h : POk ok W B x) (hb : Below B W W') : POk ok W' B x := h.keep fun b _ hB _ => hb.block b hB
theorem POk.more {ok : Nat → Prop} {W : World} {B B' : Nat} {x : PEl} (h : POk ok W B x) (hB : B ≤ B') : POk ok W B' x := ⟨h.room, h.reads.more hB, h.ty⟩
theorem POk.drew {ok : Nat → Prop} {W : World} {B : Nat} {x : PEl} (h : POk ok W B x) : POk ok W.drew B x := h.keep fun _ _ _ _ => rfl
theorem POk.store {ok : Nat → Prop} {W : World} {B g : Nat} {x : PEl} {cs : Array Value} (h : POk ok W B x) (hg : Blk W g 190 cs) (i : Nat) (u : Value) : POk ok (W.setCell ⟨g, i, none⟩ u) B x := h.keep fun b cs2 _ hb => by
 refine Below.heap_setCell W _ u b fun e => ?_
 have e2 : b = g := e
 subst e2
 unfold Blk at hb hg
 rw [hg] at hb
 injection hb with hb
 injection hb with _ hb _
 exact absurd hb (by decide)
theorem POk.grown {ok : Nat → Prop} {W W' : World} {B base n size : Nat} {v : Value} {xs : List Value} {x : PEl} (h : POk ok W B x) (hB : B ≤ W.heap.size) (ho : W.ownsRow base 190 size v n xs) (hg : W.grownBy W' v.ownBlock) : POk ok W' B x := h.keep fun b cs hb hbl =>
 hg.block b (by omega) fun e => ya5 ho hbl (by decide) e.symm
theorem POk.ok' {ok ok' : Nat → Prop} {W : World} {B : Nat} {x : PEl} (h : POk ok W B x) (hk : ∀ b, b < B → ok' b) : POk ok' W B x := by
 refine ⟨h.room, h.reads, fun hp => ?_⟩
 obtain ⟨b, off, e, hb, hc⟩ := h.reads.2 hp
 obtain ⟨b2, off2, cs, e2, hB, _⟩ := h.ty hp
 have e3 := e
 rw [e2] at e3
 injection e3 with e3
 injection e3 with e4 e5
 subst e4
 exact ⟨b2, off2, cs, e2, hB, hk b2 hb⟩
theorem plsy_app (a b : List Nat) : ints (lsy (a ++ b)) = ints (lsy a) ++ ints (lsy b) := by simp [ints, lsy]
theorem pcat_two (A1 A2 : Option Addr) (n1 n2 c1 c2 c : Nat) (s1 s2 : List Nat) (B : Nat) (W : World) (hB : B ≤ W.heap.size) (l1 : s1.length = n1) (l2 : s2.length = n2) (hn : n1 + n2 ≤ 1000000)
  (h1 : Reads W B 1 A1 n1 (ints (lsy s1))) (h2 : Reads W B 1 A2 n2 (ints (lsy s2))) (g : Nat) (hg : Blk W g 28 #[.slice A1 n1 c1, .slice A2 n2 c2]) :
  Calls prog 208 #[.slice (some ⟨g, 0, none⟩) 2 c] W fun e w' => ∃ A' c', e = .returned (.slice A' (n1 + n2) c') ∧ (n1 + n2 ≤ c' ∧ Reads w' w'.heap.size 1 A' (n1 + n2) (ints (lsy (s1 ++ s2))) ∧ (0 < n1 + n2 → ∃ b off cs, A' = some ⟨b, off, none⟩ ∧ Blk w' b 3 cs ∧ W.heap.size ≤ b)) ∧ Below W.heap.size W w' := by
 have h := icat_any [⟨A1, n1, c1, ints (lsy s1)⟩, ⟨A2, n2, c2, ints (lsy s2)⟩] (some ⟨g, 0, none⟩) 2 c W rfl (by show n1 + (n2 + 0) ≤ _; omega) (by omega) (fun _ => ⟨g, 0, rfl, hg.lt, fun i hi => ?_⟩) (fun s hs => ?_)
 ·have es : CSum [⟨A1, n1, c1, ints (lsy s1)⟩, ⟨A2, n2, c2, ints (lsy s2)⟩] = n1 + n2 := by show n1 + (n2 + 0) = _; omega
  have ev : CAll [⟨A1, n1, c1, ints (lsy s1)⟩, ⟨A2, n2, c2, ints (lsy s2)⟩] = ints (lsy (s1 ++ s2)) := by rw [plsy_app]; simp [CAll]
  rw [es, ev] at h
  refine h.mono ?_
  rintro e w' ⟨A', c', rfl, ho, hb⟩
  obtain ⟨A2', c2', e2, hc, hr⟩ := yae ho
  injection e2 with e3 e4 e5
  subst e3 e5
  refine ⟨A', c', rfl, ⟨hc, hr, fun hp => ?_⟩, hb⟩
  rcases ho.2 with ⟨_, h0⟩ | ⟨g2, cap, cur, e6, hbg, hg2, _⟩
  ·omega
  ·injection e6 with e6 _ _
   exact ⟨g2, 0, cur, e6, hg2, hbg⟩
 ·have hi2 : i < 2 := hi
  rcases (show i = 0 ∨ i = 1 by omega) with rfl | rfl
  ·exact hg.two.1
  ·exact hg.two.2.1
 ·have h1' : ∀ l : List Int, ∀ u ∈ ints l, u.oneCell' = true := by
   intro l u hu
   obtain ⟨z, _, rfl⟩ := qb5.1 hu
   rfl
  rcases qaC.1 hs with rfl | hs
  ·exact ⟨h1.more hB, h1' _⟩
  ·rcases qaC.1 hs with rfl | hs
   ·exact ⟨h2.more hB, h1' _⟩
   ·cases hs
def WHeld (w wi : World) (a b : Int) (u v : Value) : Prop :=
 Below w.heap.size w wi ∧ w.heap.size + 1 + 1 + 1 ≤ wi.heap.size ∧ Blk wi w.heap.size 190 #[.int .i64 a, u] ∧ Blk wi (w.heap.size + 1) 190 #[.int .i64 b, v] ∧ ∃ z1 z2, Blk wi (w.heap.size + 1 + 1) 190 #[z1, z2]
section
variable {w wi w' : World} {a b : Int} {u v : Value}
abbrev LWS (w wi : World) (a b : Int) (u v : Value) : Prop := wi.cell? ⟨w.heap.size, 0, none⟩ = some (.int .i64 a) ∧ wi.cell? ⟨w.heap.size, 1, none⟩ = some u ∧ wi.cell? ⟨w.heap.size + 1, 0, none⟩ = some (.int .i64 b) ∧ wi.cell? ⟨w.heap.size + 1, 1, none⟩ = some v ∧ WHeld w wi a b u v
theorem WHeld.conds (h : WHeld w wi a b u v) : LWS w wi a b u v := ⟨h.2.2.1.two.1, h.2.2.1.two.2.1, h.2.2.2.1.two.1, h.2.2.2.1.two.2.1, h⟩
theorem WHeld.next (h : LWS w wi a b u v) (hb : Below wi.heap.size wi w') : LWS w w' a b u v := by
 obtain ⟨h1, h2, h3, h4, z1, z2, h5⟩ := h.2.2.2.2
 exact WHeld.conds ⟨h1.trans (hb.mono h1.size), qaA h2 hb.size, h3.below hb h3.lt, h4.below hb h4.lt, z1, z2, h5.below hb h5.lt⟩
theorem WHeld.drew (h : WHeld w wi a b u v) : WHeld w wi.drew a b u v := ⟨h.1.drew, h.2.1, h.2.2.1, h.2.2.2.1, h.2.2.2.2⟩
theorem WHeld.below (h : LWS w wi a b u v) : Below w.heap.size w wi := h.2.2.2.2.1
theorem WHeld.three (h : LWS w wi a b u v) (hb : Below wi.heap.size wi w') : ∃ z1 z2, w'.cell? ⟨w.heap.size + 1 + 1, 0, none⟩ = some z1 ∧ w'.cell? ⟨w.heap.size + 1 + 1, 1, none⟩ = some z2 ∧ w'.frozen? ⟨w.heap.size + 1 + 1, 0, none⟩ = false ∧ w'.frozen? ⟨w.heap.size + 1 + 1, 1, none⟩ = false ∧ Hid (Blk w' (w.heap.size + 1 + 1) 190 #[z1, z2]) := by
 obtain ⟨h1, h2, h3, h4, z1, z2, h5⟩ := h.2.2.2.2
 obtain ⟨k1, k2, k3, k4⟩ := (h5.below hb h5.lt).two
 exact ⟨z1, z2, k1, k2, k3, k4, h5.below hb h5.lt⟩
theorem blk_fourth (w : World) (X Y Z : Obj) (t : TypeId) (cs : Array Value) : Blk ((((w.alloc X).alloc Y).alloc Z).alloc (.cells cs t)).drew (w.heap.size + 1 + 1 + 1) t cs := by
 have h := Blk.new (((w.alloc X).alloc Y).alloc Z) t cs
 rw [show (((w.alloc X).alloc Y).alloc Z).heap.size = w.heap.size + 1 + 1 + 1 from by simp] at h
 exact h
theorem WHeld.grow {o : Obj} (h : LWS w wi a b u v) : LWS w (wi.alloc o) a b u v := WHeld.next h ((qak _ _).alloc (qad _) o)
theorem WHeld.put (h : LWS w wi a b u v) (x y : Value) : LWS w ((wi.setCell ⟨w.heap.size + 1 + 1, 0, none⟩ x).setCell ⟨w.heap.size + 1 + 1, 1, none⟩ y) a b u v := by
 obtain ⟨h1, h2, h3, h4, z1, z2, h5⟩ := h.2.2.2.2
 refine WHeld.conds ⟨(h1.setCell (by simp only; omega) x).setCell (by simp only; omega) y, by simpa [World.setCell] using h2, (h3.far (by simp only; omega) x).far (by simp only; omega) y, (h4.far (by simp only; omega) x).far (by simp only; omega) y, x, y, ?_⟩
 exact (h5.set_ 0 x).set_ 1 y
theorem WHeld.start (w : World) (a b : Int) (u v z1 z2 : Value) : WHeld w (((w.alloc (.cells #[.int .i64 a, u] 190)).alloc (.cells #[.int .i64 b, v] 190)).alloc (.cells #[z1, z2] 190)) a b u v := by
 refine ⟨by go_grown, by simp, ((Blk.new w _ _).alloc _).alloc _, ?_, z1, z2, ?_⟩
 ·have h := (Blk.new (w.alloc (.cells #[.int .i64 a, u] 190)) 190 #[.int .i64 b, v]).alloc (.cells #[z1, z2] 190)
  rw [show (w.alloc (.cells #[.int .i64 a, u] 190)).heap.size = w.heap.size + 1 from by simp] at h
  exact h
 ·have h := Blk.new ((w.alloc (.cells #[.int .i64 a, u] 190)).alloc (.cells #[.int .i64 b, v] 190)) 190 #[z1, z2]
  rw [show ((w.alloc (.cells #[.int .i64 a, u] 190)).alloc (.cells #[.int .i64 b, v] 190)).heap.size = w.heap.size + 1 + 1 from by simp] at h
  exact h
end
theorem with_any (ok : Nat → Prop) (x y : PEl) (B : Nat) (w : World) (hB : B ≤ w.heap.size) (hok : ∀ b, w.heap.size ≤ b → ok b) (hx : POk ok w B x) (hy : POk ok w B y) (hn : x.th.syms.length + y.th.syms.length ≤ 1000000) (hwx : -1000000000000 ≤ x.th.w ∧ x.th.w ≤ 1000000000000) (hwy : -1000000000000 ≤ y.th.w ∧ y.th.w ≤ 1000000000000) :
  Calls prog 202 #[.agg (penc x).toArray, .agg (penc y).toArray] w fun e w' => ∃ A' c', e = .returned (.agg (penc ⟨yb5 x.th y.th, A', c', 0⟩).toArray) ∧ POk ok w' w'.heap.size ⟨yb5 x.th y.th, A', c', 0⟩ ∧ Below w.heap.size w w' := by
 obtain ⟨⟨a, s1, f1⟩, A1, c1, i1⟩ := x
 obtain ⟨⟨b, s2, f2⟩, A2, c2, i2⟩ := y
 simp only at hn hwx hwy
 have hx1 := hx.reads
 have hy1 := hy.reads
 simp only at hx1 hy1
 obtain ⟨n1, hn1⟩ : ∃ n1, s1.length = n1 := ⟨_, rfl⟩
 obtain ⟨n2, hn2⟩ : ∃ n2, s2.length = n2 := ⟨_, rfl⟩
 have Hcat := qaa fun (W : World) (g c : Nat) (hb : Below w.heap.size w W) (hg : Blk W g 28 #[.slice A1 n1 c1, .slice A2 n2 c2]) => pcat_two A1 A2 n1 n2 c1 c2 c s1 s2 w.heap.size W hb.size hn1 hn2 (by omega) (by rw [← hn1]; exact (hx1.more hB).below hb) (by rw [← hn2]; exact (hy1.more hB).below hb) g hg
 have hn3 : n1 + n2 ≤ 1000000 := by omega
 have Hfin : Hid (∀ W W' A' c', Below w.heap.size w W → (n1 + n2 ≤ c' ∧ Reads W' W'.heap.size 1 A' (n1 + n2) (ints (lsy (s1 ++ s2))) ∧ (0 < n1 + n2 → ∃ b off cs, A' = some ⟨b, off, none⟩ ∧ Blk W' b 3 cs ∧ W.heap.size ≤ b)) → POk ok W' W'.heap.size ⟨⟨a + b, s1 ++ s2, false⟩, A', c', 0⟩) := qaa fun W W' A' c' hW ⟨h1, h2, h3⟩ => by
  have hl : (s1 ++ s2).length = n1 + n2 := by rw [qab, hn1, hn2]
  exact ⟨by rw [hl]; exact h1, by rw [hl]; exact h2, by
   rw [hl]
   intro hp
   obtain ⟨b2, off2, cs, e2, hB2, hb2⟩ := h3 hp
   exact ⟨b2, off2, cs, e2, hB2, hok b2 (qaA hW.size hb2)⟩⟩
 unfold penc yb5
 simp only
 rw [show (s1 ++ s2).length = n1 + n2 from by rw [qab, hn1, hn2], hn1, hn2]
 clear hn1 hn2 hn hx hy hx1 hy1 hok
 have hab : IntKind.i64.wrap (a + b) = a + b := by rw [qal]; omega
 go_enter func202, ntmps202
 go_wp2
 have hH := WHeld.start w a b (.slice A1 n1 c1) (.slice A2 n2 c2) (.int .i64 0) (.slice none 0 0)
 have HH := qaa hH
 clear hH
 go_region_held3 (fun w' => w'.cell? ⟨w.heap.size, 0, none⟩ = some (.int .i64 a) ∧ w'.cell? ⟨w.heap.size, 1, none⟩ = some (.slice A1 n1 c1) ∧ w'.cell? ⟨w.heap.size + 1, 0, none⟩ = some (.int .i64 b) ∧ w'.cell? ⟨w.heap.size + 1, 1, none⟩ = some (.slice A2 n2 c2) ∧ WHeld w w' a b (.slice A1 n1 c1) (.slice A2 n2 c2))
  (first | exact WHeld.conds (WHeld.drew HH.out) | exact WHeld.grow (by assumption) | exact WHeld.put (by assumption) _ _ | exact WHeld.next (by assumption) hb1)
  (first
   | (go_at_call 208; (with_reducible refine (Hcat.out _ _ _ (WHeld.below (by assumption)) (blk_fourth _ _ _ _ _ _)).mono ?_); rintro e w1 ⟨A', c', rfl, hr, hb1⟩; have HP := qaa (Hfin.out _ _ _ _ (WHeld.below (by assumption)) hr); clear hr; obtain ⟨z1, z2, m1, m2, m3, m4, m5⟩ := WHeld.three (by assumption) hb1)
   | (go_at_call 208; (with_reducible refine (Hcat.out _ _ _ (WHeld.below (by assumption)) (Blk.new _ _ _)).mono ?_); rintro e w1 ⟨A', c', rfl, hr, hb1⟩; have HP := qaa (Hfin.out _ _ _ _ (WHeld.below (by assumption)) hr); clear hr; obtain ⟨z1, z2, m1, m2, m3, m4, m5⟩ := WHeld.three (by assumption) hb1))
 ·rename_i hS
  have hbel := WHeld.below hS
  have hB1 := (m5.out.set_ 0 (.int .i64 (a + b))).set_ 1 (.slice A' (n1 + n2) c')
  have hP1 := (HP.out.store m5.out 0 (.int .i64 (a + b))).store (m5.out.set_ 0 (.int .i64 (a + b))) 1 (.slice A' (n1 + n2) c')
  have hP2 := hP1.more (B' := ((w1.setCell ⟨w.heap.size + 1 + 1, 0, none⟩ (.int .i64 (a + b))).setCell ⟨w.heap.size + 1 + 1, 1, none⟩ (.slice A' (n1 + n2) c')).heap.size) (by simp [World.setCell])
  have hc := Blk.two (show Blk _ _ _ #[.int .i64 (a + b), .slice A' (n1 + n2) c'] from hB1)
  clear hS hB1 hP1 HP m1 m2 m3 m4 m5 hb1 HH Hfin Hcat
  have HP2 := qaa hP2
  have Hbel := qaa hbel
  clear hP2 hbel
  generalize (w1.setCell ⟨w.heap.size + 1 + 1, 0, none⟩ (.int .i64 (a + b))).setCell ⟨w.heap.size + 1 + 1, 1, none⟩ (.slice A' (n1 + n2) c') = X at *
  obtain ⟨y1, y2, y3, y4⟩ := hc
  go_wp2
  refine qbw (v := .agg #[.int .i64 (a + b), .slice A' (n1 + n2) c']) (by simp [results, results202, go_sem, y1, y2]) rfl ⟨A', c', rfl, HP2.out, Hbel.out⟩
def PRow (ok : Nat → Prop) (W : World) (B : Nat) (A : Option Addr) (n : Nat) (E : List PEl) : Prop := E.length = n ∧ Reads W B 2 A n (yaB E) ∧ (∀ x ∈ E, POk ok W B x) ∧ LOk ok A n
section
variable {ok okx : Nat → Prop} {W W' : World} {B B' n : Nat} {A : Option Addr} {E : List PEl}
theorem PRow.below (h : PRow ok W B A n E) (hb : Below B W W') : PRow ok W' B A n E := ⟨h.1, h.2.1.below hb, fun x hx => (h.2.2.1 x hx).below hb, h.2.2.2⟩
theorem PRow.more (h : PRow ok W B A n E) (hB : B ≤ B') : PRow ok W B' A n E := ⟨h.1, h.2.1.more hB, fun x hx => (h.2.2.1 x hx).more hB, h.2.2.2⟩
theorem PRow.okto (h : PRow ok W B A n E) (hk : ∀ b, b < B → okx b) : PRow okx W B A n E := by
 refine ⟨h.1, h.2.1, fun x hx => (h.2.2.1 x hx).ok' hk, fun hp => ?_⟩
 obtain ⟨b, off, e, hb, _⟩ := h.2.1.2 hp
 exact ⟨b, off, e, hk b hb⟩
end
def pth (E : List PEl) : List LTh := E.map (·.th)
theorem lpacks_step (E : List PEl) (q : Nat) (h : 2 * q + 1 < E.length) : yas (pth (E.drop (2 * q))) = yb5 E[2 * q].th E[2 * q + 1].th :: yas (pth (E.drop (2 * (q + 1)))) := by
 rw [qau (show 2 * q < E.length by omega), qau (show 2 * q + 1 < E.length by omega)]
 rfl
theorem lpacks_done (E : List PEl) (q : Nat) (h : ¬ 2 * q + 1 < E.length) : yas (pth (E.drop (2 * q))) = [] := by
 have hl : (E.drop (2 * q)).length ≤ 1 := by rw [qas]; omega
 generalize E.drop (2 * q) = L at hl
 match L, hl with
 | [], _ => rfl
 | [x], _ => rfl
def PFit (x : PEl) : Prop := x.th.syms.length ≤ 400000 ∧ 0 ≤ x.th.w ∧ x.th.w ≤ 100000000000
theorem ygy : (prog.info? 190).map (fun i => (i.zero, i.size, i.bytes)) = some (some (.agg #[.int .i64 0, .slice none 0 0]), 2, 32) := by kernel_rfl
theorem pcell_row {W : World} {B n : Nat} {A : Option Addr} {E : List PEl} (h : Reads W B 2 A n (yaB E)) (hE : E.length = n) (hn : 0 < n) : ∃ b off, A = some ⟨b, off, none⟩ ∧ b < B ∧ ∀ i (hi : i < E.length), W.cell? ⟨b, off + i * 2, none⟩ = some (.int .i64 E[i].th.w) ∧ W.cell? ⟨b, off + i * 2 + 1, none⟩ = some (.slice E[i].A E[i].th.syms.length E[i].c) := by
 obtain ⟨b, off, e, hb, hc⟩ := h.2 hn
 refine ⟨b, off, e, hb, fun i hi => ?_⟩
 obtain ⟨g1, g2⟩ := yff E i hi
 exact ⟨hc _ _ g1, by rw [qbU]; exact hc _ _ g2⟩
theorem POk.alloc' {ok : Nat → Prop} {W : World} {B : Nat} {x : PEl} (h : POk ok W B x) (o : Obj) (hB : B ≤ W.heap.size) : POk ok (W.alloc o) B x := h.below ((qak _ _).alloc hB o)
theorem pone_two {a : Int} {A : Option Addr} {n c : Nat} : ∀ u ∈ [Value.int .i64 a, Value.slice A n c], u.oneCell' = true := by
 intro u hu
 simp only [qaC, List.not_mem_nil, or_false] at hu
 rcases hu with rfl | rfl <;> rfl
theorem pafter {w wr w5 w6 : World} {o : Obj} {e : TypeId} {size n : Nat} {v : Value} {xs : List Value} (h1 : Below w.heap.size w wr) (h2 : Below wr.heap.size wr w5) (h3 : (w5.alloc o).ownsRow w.heap.size e size v n xs) (h4 : (w5.alloc o).grownBy w6 v.ownBlock) : Below w.heap.size w w6 := by
 have h5 : Below w.heap.size w (w5.alloc o) := (h1.trans (h2.mono h1.size)).alloc (qaA h1.size h2.size) o
 exact h5.trans (ye8 h3 h4 h5.size)
theorem packages_any (ok : Nat → Prop) (E : List PEl) (A : Option Addr) (n c : Nat) (w : World) (hok : ∀ b, w.heap.size ≤ b → ok b) (hr : PRow ok w w.heap.size A n E) (hn : n ≤ 100000) (hf : ∀ x ∈ E, PFit x) :
  Calls prog 185 #[.slice A n c] w fun e w' => ∃ (Ep : List PEl) (A' : Option Addr) (c' : Nat), e = .returned (.slice A' Ep.length c') ∧ Ep.length ≤ c' ∧ pth Ep = yas (pth E) ∧ PRow ok w' w'.heap.size A' Ep.length Ep ∧ Below w.heap.size w w' := by
 obtain ⟨j0, hj, hy0, hy1, hy2⟩ : ∃ i0, prog.info? 190 = some i0 ∧ i0.zero = some (.agg #[.int .i64 0, .slice none 0 0]) ∧ i0.size = 2 ∧ i0.bytes = 32 := by
  have h := ygy
  cases hi : prog.info? 190 with
  | none => rw [hi] at h; cases h
  | some i0 =>
   rw [hi] at h
   simp only [qbR, qch, qb8] at h
   exact ⟨i0, rfl, h.1, h.2.1, h.2.2⟩
 obtain ⟨hE, hrd, hok2, _⟩ := hr
 have En := qaa hE
 have Hcell : Hid (0 < n → ∃ b off, A = some ⟨b, off, none⟩ ∧ ∀ wr, Below w.heap.size w wr → ∀ i (hi : i < E.length), wr.cell? ⟨b, off + i * 2, none⟩ = some (.int .i64 E[i].th.w) ∧ wr.cell? ⟨b, off + i * 2 + 1, none⟩ = some (.slice E[i].A E[i].th.syms.length E[i].c)) := qaa fun h => by
  obtain ⟨b, off, e, hb, hc⟩ := pcell_row hrd hE h
  exact ⟨b, off, e, fun wr hw i hi => ⟨(hw.cell (p := ⟨b, off + i * 2, none⟩) hb).trans (hc i hi).1, (hw.cell (p := ⟨b, off + i * 2 + 1, none⟩) hb).trans (hc i hi).2⟩⟩
 have Hwith := qaa fun (i j : Nat) (hi : i < E.length) (hj : j < E.length) (W : World) (hW : Below w.heap.size w W) => with_any ok E[i] E[j] w.heap.size W hW.size (fun b hb => hok b (qaA hW.size hb)) ((hok2 _ (qaq hi)).below hW) ((hok2 _ (qaq hj)).below hW) (by have := (hf _ (qaq hi)).1; have := (hf _ (qaq hj)).1; omega) (by have := (hf _ (qaq hi)).2; omega) (by have := (hf _ (qaq hj)).2; omega)
 have Hstep := qaa fun q (h : 2 * q + 1 < E.length) => lpacks_step E q h
 have Hdone := qaa fun q (h : ¬ 2 * q + 1 < E.length) => lpacks_done E q h
 have Hst : Hid (pth [] ++ yas (pth (E.drop (2 * 0))) = yas (pth E)) := qaa rfl
 have hni : (n : Int) ≤ 100000 := by omega
 have Hok := qaa hok
 clear hE hrd hok hok2 hf
 generalize yas (pth E) = T at *
 go_enter func185, ntmps185
 go_wp2
 go_loopw [3, 4] (fun v i wr => ∃ (q cp : Nat) (Ap : Option Addr) (Ep : List PEl), 2 * q ≤ n ∧ Ep.length = q ∧ v = .slice Ap q cp ∧ i = .int .i64 ((2 * q + 1 : Nat) : Int) ∧ Hid (pth Ep ++ yas (pth (E.drop (2 * q))) = T) ∧ Hid (wr.ownsRow w.heap.size 190 2 (.slice Ap q cp) q (yaB Ep)) ∧ Hid (∀ x ∈ Ep, POk ok wr wr.heap.size x) ∧ Hid (Below w.heap.size w wr)) (fun _ i _ => n + 1 - (intOf i).toNat)
 case atStart => exact ⟨0, 0, none, [], by omega, rfl, rfl, rfl, Hst, ⟨rfl, qay ⟨rfl, rfl⟩⟩, qaa (fun x hx => absurd hx (by simp)), qak _ _⟩
 case round =>
  obtain ⟨q, cp, Ap, Ep, hq, hEp, rfl, rfl, HT, HO, HP, HB⟩ := hrel
  by_cases hlt : 2 * q + 1 < n
  ·have hlz : ((2 * q + 1 : Nat) : Int) < (n : Int) := by omega
   obtain ⟨k0, hk0⟩ : ∃ k0, 2 * q = k0 := ⟨_, rfl⟩
   obtain ⟨k1, hk1⟩ : ∃ k1, 2 * q + 1 = k1 := ⟨_, rfl⟩
   have hk0l : k0 < E.length := by rw [En.out]; omega
   have hk1l : k1 < E.length := by rw [En.out]; omega
   obtain ⟨b, off, rfl, hcell⟩ := Hcell.out (by omega)
   have HS := qaa fun wr hw => (⟨(hcell wr hw k0 hk0l).1, (hcell wr hw k0 hk0l).2, (hcell wr hw k1 hk1l).1, (hcell wr hw k1 hk1l).2⟩ : _ ∧ _ ∧ _ ∧ _)
   have Hw := qaa fun W hW => Hwith.out k0 k1 hk0l hk1l W hW
   have hT := HT.out
   have hT3 : yas (pth (E.drop (2 * q))) = yb5 E[k0].th E[k1].th :: yas (pth (E.drop (2 * (q + 1)))) := by subst hk0 hk1; exact Hstep.out q hk1l
   rw [hT3] at hT
   have HT2 : Hid (∀ x : PEl, x.th = yb5 E[k0].th E[k1].th → pth (Ep ++ [x]) ++ yas (pth (E.drop (2 * (q + 1)))) = T) := qaa fun x hx => by rw [← hT, ← hx]; simp [pth]
   clear hcell hT hT3 HT
   generalize E[k0] = x0 at *
   generalize E[k1] = x1 at *
   rw [hk1] at hlz ⊢
   have hkz : (k1 : Int) - 1 = (k0 : Int) := by omega
   have hkw : IntKind.i64.wrap ((k1 : Int) - 1) = (k0 : Int) := by rw [qal]; omega
   have hkw0 : IntKind.i64.wrap (k0 : Int) = (k0 : Int) := by rw [qal]; omega
   have hkb : (0 : Int) ≤ (k0 : Int) ∧ (k0 : Int) < (n : Int) := by omega
   have hkb1 : (0 : Int) ≤ (k1 : Int) ∧ (k1 : Int) < (n : Int) := by omega
   obtain ⟨NS, hNS⟩ : ∃ NS, (yb5 x0.th x1.th).syms.length = NS := ⟨_, rfl⟩
   have Hcall : Hid (Calls prog 202 #[.agg #[.int .i64 x0.th.w, .slice x0.A x0.th.syms.length x0.c], .agg #[.int .i64 x1.th.w, .slice x1.A x1.th.syms.length x1.c]] wr.drew fun e w' => ∃ A' c', e = .returned (.agg #[.int .i64 (x0.th.w + x1.th.w), .slice A' NS c']) ∧ Hid (POk ok w' w'.heap.size ⟨yb5 x0.th x1.th, A', c', 0⟩) ∧ Below wr.heap.size wr w') := qaa (by
    refine (Hw.out wr.drew HB.out.drew).mono ?_
    rintro e w' ⟨A', c', rfl, h1, h2⟩
    exact ⟨A', c', by rw [← hNS]; rfl, h1, (qak wr.heap.size wr).drew.trans h2⟩)
   have HNS := qaa hNS
   clear Hw hNS
   generalize x0.th.syms.length = ns0 at *
   generalize x1.th.syms.length = ns1 at *
   have HOw := qaa fun (W : World) (hW : Below wr.heap.size wr W) (o : Obj) => (yah HO.out hW (qad _)).alloc o
   have hq63 : q ≤ 100000 := by omega
   go_wp2
   have HS0 := HS.out wr.drew HB.out.drew
   go_region_held3 (fun w' => w'.cell? ⟨b, off + k0 * 2, none⟩ = some (.int .i64 x0.th.w) ∧ w'.cell? ⟨b, off + k0 * 2 + 1, none⟩ = some (.slice x0.A ns0 x0.c) ∧ w'.cell? ⟨b, off + k1 * 2, none⟩ = some (.int .i64 x1.th.w) ∧ w'.cell? ⟨b, off + k1 * 2 + 1, none⟩ = some (.slice x1.A ns1 x1.c)) (first | go_keep | exact hS1 | exact hS2 _ | exact hS3) (first
    | (go_at_call 202; refine Hcall.out.mono ?_; rintro e w5 ⟨A5, c5, rfl, HP5, hb5⟩; have Hb5 := qaa hb5; have hS1 := HS.out w5 (HB.out.trans (hb5.mono HB.out.size)); have hS2 := fun o => HS.out (w5.alloc o) ((HB.out.trans (hb5.mono HB.out.size)).alloc (qaA HB.out.size hb5.size) o); clear hb5)
    | (refine yac (by rfl) (.tmp 11) (.tmp 22) 185 (by rfl) w.heap.size 190 j0 _ 2 32 underlying185 hj hy0 hy1 hy2 rfl (by decide) (.slice Ap q cp) q (yaB Ep) (by rfl) (HOw.out w5 Hb5.out _) (some ⟨w5.heap.size, 0, none⟩) 1 1 _ [.int .i64 (x0.th.w + x1.th.w), .slice A5 NS c5] (by rfl) (ya0 w5 190 #[.int .i64 (x0.th.w + x1.th.w), .slice A5 NS c5] 2 1 rfl) pone_two (by unfold maxLen; omega) (by omega) (by rw [qaw]; exact Nat.le_succ_of_le (qaA HB.out.size Hb5.out.size)) (q + 1) rfl ?_; intro A6 c6 w6 hO6 hg6 _; have HO6 := qaa hO6; have HG6 := qaa hg6; have hS3 := HS.out w6 (pafter HB.out Hb5.out (HOw.out w5 Hb5.out _) hg6); clear hO6 hg6)
    | fail)
   have HB6 := qaa (pafter HB.out Hb5.out (HOw.out w5 Hb5.out _) HG6.out)
   have HP6 : Hid (∀ x ∈ Ep ++ [⟨yb5 x0.th x1.th, A5, c5, 0⟩], POk ok w6 w6.heap.size x) := qaa fun x hx => by
    have hsz := HG6.out.size
    rw [qaw] at hsz
    have hs5 := Hb5.out.size
    rcases qbk.1 hx with hx | hx
    ·have h1 := ((HP.out x hx).below Hb5.out).alloc' (.cells #[.int .i64 (x0.th.w + x1.th.w), .slice A5 NS c5] 190) hs5
     exact (h1.grown (by rw [qaw]; omega) (HOw.out w5 Hb5.out _) HG6.out).more (by omega)
    ·rw [qcq.1 hx]
     have h1 := HP5.out.alloc' (.cells #[.int .i64 (x0.th.w + x1.th.w), .slice A5 NS c5] 190) (qad _)
     exact (h1.grown (by rw [qaw]; omega) (HOw.out w5 Hb5.out _) HG6.out).more (by omega)
   have HO7 : Hid (w6.ownsRow w.heap.size 190 2 (.slice A6 (q + 1) c6) (q + 1) (yaB (Ep ++ [⟨yb5 x0.th x1.th, A5, c5, 0⟩]))) := qaa (by
    rw [yfz, show yaB [(⟨yb5 x0.th x1.th, A5, c5, 0⟩ : PEl)] = [.int .i64 (x0.th.w + x1.th.w), .slice A5 NS c5] from by rw [← HNS.out]; rfl]
    exact HO6.out)
   have HT6 := qaa (HT2.out ⟨yb5 x0.th x1.th, A5, c5, 0⟩ rfl)
   have hlen6 : (Ep ++ [(⟨yb5 x0.th x1.th, A5, c5, 0⟩ : PEl)]).length = q + 1 := by rw [qab, hEp]; rfl
   generalize Ep ++ [(⟨yb5 x0.th x1.th, A5, c5, 0⟩ : PEl)] = Ep6 at *
   clear HO6 HG6 HP5 Hb5 hS1 hS2 hS3 HS0 Hcall HOw HS HT2
   go_wp2
   go_roundw
   case rel => exact ⟨q + 1, c6, A6, Ep6, by omega, hlen6, rfl, iv (by omega), HT6.out, HO7.out, HP6.out, HB6.out⟩
   case measure => simp only [intOf]; omega
  ·have hlz : ¬ ((2 * q + 1 : Nat) : Int) < (n : Int) := by omega
   have hT := HT.out
   rw [Hdone.out q (by rw [En.out]; exact hlt), qa8] at hT
   obtain ⟨k1, hk1⟩ : ∃ k1, 2 * q + 1 = k1 := ⟨_, rfl⟩
   rw [hk1] at hlz ⊢
   obtain ⟨A7, c7, e7, hc7, hr7⟩ := yae HO.out
   injection e7 with e8 _ e9
   subst e8 e9
   have HR7 := qaa hr7
   have HTT := qaa hT
   clear hr7 hT HT
   subst hEp
   go_wp2
   go_ret
   exact ⟨Ep, _, _, rfl, hc7, HTT.out, ⟨rfl, HR7.out, HP.out, ygP HO.out Hok.out⟩, HB.out⟩
def plv : Nat → List Int → List LTh
 | _, [] => []
 | i, c :: t => if 0 < c then ⟨c, [i], true⟩ :: plv (i + 1) t else plv (i + 1) t
theorem plv_yes (i : Nat) (c : Int) (t : List Int) (h : 0 < c) : plv i (c :: t) = ⟨c, [i], true⟩ :: plv (i + 1) t := qag h
theorem plv_no (i : Nat) (c : Int) (t : List Int) (h : ¬ 0 < c) : plv i (c :: t) = plv (i + 1) t := qae h
theorem reads_new1 (W : World) (o : Obj) (t : TypeId) (cs : Array Value) (size n : Nat) (hl : cs.size = n * size) : Reads ((W.alloc o).alloc (.cells cs t)) (W.heap.size + 1 + 1) size (some ⟨W.heap.size + 1, 0, none⟩) n cs.toList := by
 have h := ya0 (W.alloc o) t cs size n hl
 rw [qaw] at h
 exact h
theorem leaves_any (ok : Nat → Prop) (counts : List Int) (A : Option Addr) (n c : Nat) (w : World) (hok : ∀ b, w.heap.size ≤ b → ok b) (hr : Reads w w.heap.size 1 A n (ints counts)) (hn : n ≤ 100000) :
  Calls prog 145 #[.slice A n c] w fun e w' => ∃ (E : List PEl) (A' : Option Addr) (c' : Nat), e = .returned (.slice A' E.length c') ∧ E.length ≤ c' ∧ pth E = plv 0 counts ∧ PRow ok w' w'.heap.size A' E.length E ∧ Below w.heap.size w w' := by
 obtain ⟨j0, hj, hy0, hy1, hy2⟩ : ∃ i0, prog.info? 190 = some i0 ∧ i0.zero = some (.agg #[.int .i64 0, .slice none 0 0]) ∧ i0.size = 2 ∧ i0.bytes = 32 := by
  have h := ygy
  cases hi : prog.info? 190 with
  | none => rw [hi] at h; cases h
  | some i0 =>
   rw [hi] at h
   simp only [qbR, qch, qb8] at h
   exact ⟨i0, rfl, h.1, h.2.1, h.2.2⟩
 have en : counts.length = n := by have := hr.1; rw [yab] at this; omega
 have En := qaa en
 have Hcell : Hid (0 < n → ∃ b off, A = some ⟨b, off, none⟩ ∧ ∀ wr, Below w.heap.size w wr → ∀ k, (hk : k < counts.length) → wr.cell? ⟨b, off + k, none⟩ = some (.int .i64 counts[k])) := qaa fun h => by
  obtain ⟨b, off, e, hb, hc⟩ := hr.2 h
  exact ⟨b, off, e, fun wr hw k hk => (hw.cell (p := ⟨b, off + k, none⟩) hb).trans (hc k _ (yai counts k hk))⟩
 have Hst : Hid (pth [] ++ plv 0 (counts.drop 0) = plv 0 counts) := qaa rfl
 have hni : (n : Int) ≤ 100000 := by omega
 have Hok := qaa hok
 clear hr en hok
 generalize plv 0 counts = T at *
 go_enter func145, ntmps145
 go_wp2
 go_loopw [3, 4, 5, 8] (fun v s x i wr => ∃ (k q cp : Nat) (Ap : Option Addr) (Ep : List PEl), k ≤ n ∧ q ≤ k ∧ Ep.length = q ∧ v = .slice Ap q cp ∧ i = .int .i64 k ∧ Hid (pth Ep ++ plv k (counts.drop k) = T) ∧ Hid (wr.ownsRow w.heap.size 190 2 (.slice Ap q cp) q (yaB Ep)) ∧ Hid (∀ x ∈ Ep, POk ok wr wr.heap.size x) ∧ Hid (Below w.heap.size w wr)) (fun _ _ _ i _ => n - (intOf i).toNat)
 case atStart => exact ⟨0, 0, 0, none, [], by omega, by omega, rfl, rfl, rfl, Hst, ⟨rfl, qay ⟨rfl, rfl⟩⟩, qaa (fun x hx => absurd hx (by simp)), qak _ _⟩
 case round =>
  obtain ⟨k, q, cp, Ap, Ep, hk, hqk, hEp, rfl, rfl, HT, HO, HP, HB⟩ := hrel
  by_cases hlt : k < n
  ·have hki : (0 : Int) ≤ (k : Int) ∧ (k : Int) < n := by omega
   have hkl : k < counts.length := by rw [En.out]; exact hlt
   obtain ⟨b, off, rfl, hcell⟩ := Hcell.out (by omega)
   have hx := hcell wr HB.out k hkl
   have hT := HT.out
   rw [qau hkl] at hT
   clear hcell HT
   generalize counts[k] = x at *
   by_cases hx0 : 0 < x
   ·rw [plv_yes _ _ _ hx0] at hT
    have HT2 : Hid (∀ y : PEl, y.th = ⟨x, [k], true⟩ → pth (Ep ++ [y]) ++ plv (k + 1) (counts.drop (k + 1)) = T) := qaa fun y hy => by rw [← hT, ← hy]; simp [pth]
    clear hT
    go_wp2_with (at_builtin; refine yaf _ rfl _ _ 185 rfl w.heap.size 190 j0 (.agg #[.int .i64 0, .slice none 0 0]) 2 32 underlying185 hj hy0 hy1 hy2 rfl (by decide) _ _ _ rfl ((HO.out.alloc _).alloc _) _ 1 1 _ _ rfl (reads_new1 wr (.cells #[.int .i64 (k : Int)] 3) 190 #[.int .i64 x, .slice (some ⟨wr.heap.size, 0, none⟩) 1 1] 2 1 rfl) ?c1 ?c2 ?c3 ?c4 ?_)
    case c1 => exact ⟨rfl, rfl⟩
    case c2 => unfold maxLen; omega
    case c3 => omega
    case c4 => rw [qaw, qaw]; have := HB.out.size; omega
    intro v6 w6 hO6 hg6 _
    have hbb : Below wr.heap.size wr ((wr.alloc (.cells #[.int .i64 (k : Int)] 3)).alloc (.cells #[.int .i64 x, .slice (some ⟨wr.heap.size, 0, none⟩) 1 1] 190)) := by go_grown
    have hO5 := (HO.out.alloc (.cells #[.int .i64 (k : Int)] 3)).alloc (.cells #[.int .i64 x, .slice (some ⟨wr.heap.size, 0, none⟩) 1 1] 190)
    have hsz := hg6.size
    simp only [qaw] at hsz
    have hbase := HB.out.size
    have HB6 : Hid (Below w.heap.size w w6) := qaa ((HB.out.trans (hbb.mono hbase)).trans (ye8 hO5 hg6 (by simp only [qaw] at *; omega)))
    have HP6 : Hid (∀ y ∈ Ep ++ [⟨⟨x, [k], true⟩, some ⟨wr.heap.size, 0, none⟩, 1, 0⟩], POk ok w6 w6.heap.size y) := qaa fun y hy => by
     rcases qbk.1 hy with hy | hy
     ·exact (((HP.out y hy).below hbb).grown (by simp only [qaw] at *; omega) hO5 hg6).more (by omega)
     ·rw [qcq.1 hy]
      have hnew : POk ok (wr.alloc (.cells #[.int .i64 (k : Int)] 3)) (wr.alloc (.cells #[.int .i64 (k : Int)] 3)).heap.size ⟨⟨x, [k], true⟩, some ⟨wr.heap.size, 0, none⟩, 1, 0⟩ :=
       ⟨qad _, lone_reads wr k, fun _ => ⟨_, _, _, rfl, Blk.new wr _ _, Hok.out _ HB.out.size⟩⟩
      exact ((hnew.alloc' _ (qad _)).grown (by simp only [qaw] at *; omega) hO5 hg6).more (by simp only [qaw] at *; omega)
    obtain ⟨A6, c6, rfl, _, _⟩ := yae hO6
    have HO7 : Hid (w6.ownsRow w.heap.size 190 2 (.slice A6 (q + 1) c6) (q + 1) (yaB (Ep ++ [⟨⟨x, [k], true⟩, some ⟨wr.heap.size, 0, none⟩, 1, 0⟩]))) := qaa (by
     rw [yfz]
     exact hO6)
    have HT6 := qaa (HT2.out ⟨⟨x, [k], true⟩, some ⟨wr.heap.size, 0, none⟩, 1, 0⟩ rfl)
    have hlen6 : (Ep ++ [(⟨⟨x, [k], true⟩, some ⟨wr.heap.size, 0, none⟩, 1, 0⟩ : PEl)]).length = q + 1 := by rw [qab, hEp]; rfl
    generalize Ep ++ [(⟨⟨x, [k], true⟩, some ⟨wr.heap.size, 0, none⟩, 1, 0⟩ : PEl)] = Ep6 at *
    clear hO6 hg6 hO5 hbb hsz HT2
    go_wp2
    go_roundw
    case rel => exact ⟨k + 1, q + 1, c6, A6, Ep6, by omega, by omega, hlen6, rfl, iv (by omega), HT6.out, HO7.out, HP6.out, HB6.out⟩
    case measure => simp only [intOf]; omega
   ·rw [plv_no _ _ _ hx0] at hT
    have HT6 := qaa hT
    clear hT
    go_wp2
    go_roundw
    case rel => exact ⟨k + 1, q, cp, Ap, Ep, by omega, by omega, hEp, rfl, iv (by omega), HT6.out, HO.out, HP.out, HB.out⟩
    case measure => simp only [intOf]; omega
  ·obtain rfl : k = n := by omega
   have hT := HT.out
   rw [qaH (by rw [En.out]; exact qad _)] at hT
   have hT2 : pth Ep = T := by rw [← hT]; simp [plv]
   obtain ⟨A7, c7, e7, hc7, hr7⟩ := yae HO.out
   injection e7 with e8 _ e9
   subst e8 e9
   have HR7 := qaa hr7
   have HTT := qaa hT2
   clear hr7 hT HT hT2
   subst hEp
   go_wp2
   go_ret
   exact ⟨Ep, _, _, rfl, hc7, HTT.out, ⟨rfl, HR7.out, HP.out, ygP HO.out Hok.out⟩, HB.out⟩
def yb7 : Nat → List PEl → List PEl
 | _, [] => []
 | k, x :: t => { x with no := k } :: yb7 (k + 1) t
theorem ygB : ∀ (E : List PEl) (k : Nat), yaB (yb7 k E) = yaB E
 | [], _ => rfl
 | x :: t, k => by
  show yaB ({ x with no := k } :: yb7 (k + 1) t) = _
  rw [ybM, ybM, ygB t (k + 1)]
theorem yhA : ∀ (E : List PEl) (k : Nat), (yb7 k E).length = E.length
 | [], _ => rfl
 | x :: t, k => by show (yb7 (k + 1) t).length + 1 = t.length + 1; rw [yhA t (k + 1)]
theorem yga : ∀ (E : List PEl) (k : Nat), pth (yb7 k E) = pth E
 | [], _ => rfl
 | x :: t, k => by
  show x.th :: pth (yb7 (k + 1) t) = x.th :: pth t
  rw [yga t (k + 1)]
theorem ygQ : ∀ (E : List PEl) (k : Nat), ∀ y ∈ yb7 k E, k ≤ y.no ∧ ∃ x ∈ E, y.th = x.th ∧ y.A = x.A ∧ y.c = x.c
 | [], _, y, h => by cases h
 | x :: t, k, y, h => by
  rcases qaC.1 h with rfl | h
  ·exact ⟨qad _, x, by simp, rfl, rfl, rfl⟩
  ·obtain ⟨h1, z, h2, h3⟩ := ygQ t (k + 1) y h
   exact ⟨by omega, z, qa4 _ h2, h3⟩
theorem ygc : ∀ (E : List PEl) (k : Nat), (yb7 k E).Pairwise (fun x y => x.no < y.no)
 | [], _ => qbA
 | x :: t, k => qa9.2 ⟨fun y hy => by have := (ygQ t (k + 1) y hy).1; show k < y.no; omega, ygc t (k + 1)⟩
theorem renum_app : ∀ (E E2 : List PEl) (k : Nat), yb7 k (E ++ E2) = yb7 k E ++ yb7 (k + E.length) E2
 | [], E2, k => by simp [yb7]
 | x :: t, E2, k => by
  show { x with no := k } :: yb7 (k + 1) (t ++ E2) = { x with no := k } :: (yb7 (k + 1) t ++ _)
  rw [renum_app t E2 (k + 1), show k + 1 + t.length = k + (x :: t).length from by simp; omega]
theorem pw_of_no {P : PEl → PEl → Prop} {E : List PEl} (h : E.Pairwise P) (hn : E.Pairwise (fun x y => x.no < y.no)) {x y : PEl} (hx : x ∈ E) (hy : y ∈ E) (k : x.no < y.no) : P x y := by
 obtain ⟨i, hi, rfl⟩ := qaJ hx
 obtain ⟨j, hj, rfl⟩ := qaJ hy
 rcases qcA i j with e | e | e
 ·exact qaV.1 h i j hi hj e
 ·subst e; omega
 ·have := qaV.1 hn j i hj hi e
  omega
theorem pw_pth {P : LTh → LTh → Prop} (E : List PEl) : (pth E).Pairwise P ↔ E.Pairwise (fun x y => P x.th y.th) := by unfold pth; rw [List.pairwise_map]
theorem yed : ∀ {l p R R' : List LTh}, LRow l p R → LRow l p R' → R = R'
 | l, p, [], R', h, k => by
  have h1 := h.lv
  have h2 := h.pk
  simp only [List.filter_nil] at h1 h2
  cases R' with
  | nil => rfl
  | cons y t =>
   have k1 := k.lv
   have k2 := k.pk
   rw [← h1] at k1
   rw [← h2] at k2
   cases hy : y.leaf with
   | true => rw [qaG, qag (by simpa using hy)] at k1; cases k1
   | false => rw [qaG, qag (by simp [hy])] at k2; cases k2
 | l, p, x :: t, [], h, k => by
  have h1 := k.lv
  have h2 := k.pk
  simp only [List.filter_nil] at h1 h2
  have k1 := h.lv
  have k2 := h.pk
  rw [← h1] at k1
  rw [← h2] at k2
  cases hy : x.leaf with
  | true => rw [qaG, qag (by simpa using hy)] at k1; cases k1
  | false => rw [qaG, qag (by simp [hy])] at k2; cases k2
 | l, p, x :: t, y :: u, h, k => by
  obtain ⟨o1, o2⟩ := qa9.1 h.order
  obtain ⟨q1, q2⟩ := qa9.1 k.order
  have h1 := h.lv; have h2 := h.pk; have k1 := k.lv; have k2 := k.pk
  cases hx : x.leaf with
  | true =>
   rw [qaG, qag (by simpa using hx)] at h1
   rw [qaG, qae (by simp [hx])] at h2
   cases hy : y.leaf with
   | true =>
    rw [qaG, qag (by simpa using hy)] at k1
    rw [qaG, qae (by simp [hy])] at k2
    rw [← h1] at k1
    injection k1 with e1 e2
    rw [e1, yed (l := t.filter (fun x => x.leaf)) (p := p) ⟨o2, rfl, h2⟩ ⟨q2, e2, k2⟩]
   | false =>
    exfalso
    rw [qaG, qae (by simp [hy])] at k1
    rw [qaG, qag (by simp [hy])] at k2
    have hyt : y ∈ t := by
     have : y ∈ t.filter (fun x => !x.leaf) := by rw [h2, ← k2]; simp
     exact (qaT.1 this).1
    have hxu : x ∈ u := by
     have : x ∈ u.filter (fun x => x.leaf) := by rw [k1, ← h1]; simp
     exact (qaT.1 this).1
    have a1 := (ybn _ _).1 (o1 y hyt)
    have a2 := (ybn _ _).1 (q1 x hxu)
    rw [hx, hy] at a2
    simp at a2
    omega
  | false =>
   rw [qaG, qae (by simp [hx])] at h1
   rw [qaG, qag (by simp [hx])] at h2
   cases hy : y.leaf with
   | false =>
    rw [qaG, qae (by simp [hy])] at k1
    rw [qaG, qag (by simp [hy])] at k2
    rw [← h2] at k2
    injection k2 with e1 e2
    rw [e1, yed (l := l) (p := t.filter (fun x => !x.leaf)) ⟨o2, h1, rfl⟩ ⟨q2, k1, e2⟩]
   | true =>
    exfalso
    rw [qaG, qag (by simpa using hy)] at k1
    rw [qaG, qae (by simp [hy])] at k2
    have hyt : y ∈ t := by
     have : y ∈ t.filter (fun x => x.leaf) := by rw [h1, ← k1]; simp
     exact (qaT.1 this).1
    have hxu : x ∈ u := by
     have : x ∈ u.filter (fun x => !x.leaf) := by rw [k2, ← h2]; simp
     exact (qaT.1 this).1
    have a1 := (ybn _ _).1 (o1 y hyt)
    have a2 := (ybn _ _).1 (q1 x hxu)
    rw [hx, hy] at a1
    simp at a1
    omega
theorem sord_w {x y : PEl} (h : sord (ltOf pcf) (·.no) x y) : x.th.w < y.th.w ∨ (x.th.w = y.th.w ∧ x.no < y.no) := by
 rcases h with h | ⟨h1, h2⟩
 ·rw [pcf_lt] at h
  exact qay (by simpa using h)
 ·rw [pcf_lt] at h1
  simp only [decide_eq_false_iff_not] at h1
  rcases Int.lt_or_eq_of_le (Int.not_lt.1 h1) with e | e
  ·exact qay e
  ·exact qaI ⟨e, h2⟩
theorem w_sord {x y : PEl} (h : x.th.w ≤ y.th.w) (hn : x.no < y.no) : sord (ltOf pcf) (·.no) x y := qaI ⟨by rw [pcf_lt]; simp; omega, hn⟩
theorem prow_next (leaves R : List LTh) (E1 E2 Z : List PEl) (hl : yaP leaves) (hr : R.Pairwise (fun a b => a.w ≤ b.w)) (h1 : pth E1 = leaves) (h2 : pth E2 = yas R) (hp : Z.Perm (yb7 0 (E1 ++ E2))) (ho : Z.Pairwise (sord (ltOf pcf) (·.no))) : pth Z = ygx R leaves := by
 have hno := ygc (E1 ++ E2) 0
 refine yed (l := leaves) (p := yas R) ?_ (ygC hl hr)
 rw [renum_app] at hp hno
 have hn1 := yga E1 0
 have hn2 := yga E2 (0 + E1.length)
 rw [h1] at hn1
 rw [h2] at hn2
 generalize yb7 0 E1 = F1 at *
 generalize yb7 (0 + E1.length) E2 = F2 at *
 have f1 : ∀ x ∈ F1, x.th.leaf = true := fun x hx => hl.all _ (by rw [← hn1]; exact qb5.2 ⟨x, hx, rfl⟩)
 have f2 : ∀ x ∈ F2, x.th.leaf = false := fun x hx => ybS R _ (by rw [← hn2]; exact qb5.2 ⟨x, hx, rfl⟩)
 have hlf : (F1 ++ F2).Pairwise (fun x y => x.th.leaf = true ∨ y.th.leaf = false) := by
  rw [qa2]
  refine ⟨?_, ?_, fun x hx y hy => qay (f1 x hx)⟩
  ·exact qbs (fun hx _ _ => qay (f1 _ hx)) (qa2.1 hno).1
  ·exact qbs (fun _ hy _ => qaI (f2 _ hy)) (qa2.1 hno).2.1
 have hsortF : ∀ F : List PEl, F.Pairwise (fun x y => x.no < y.no) → (pth F).Pairwise (fun a b => a.w ≤ b.w) → F.Pairwise (sord (ltOf pcf) (·.no)) := fun F k1 k2 => by
  rw [pw_pth] at k2
  exact (k1.and k2).imp fun h => w_sord h.2 h.1
 refine ⟨?_, ?_, ?_⟩
 ·rw [pw_pth]
  refine qbs (fun {x y} hx hy hs => ?_) ho
  rw [ybn]
  rcases sord_w hs with e | ⟨e, e2⟩
  ·exact qay e
  ·exact qaI ⟨e, pw_of_no hlf hno (hp.subset hx) (hp.subset hy) e2⟩
 ·have e1 : (pth Z).filter (fun x => x.leaf) = pth (Z.filter (fun x => x.th.leaf)) := by unfold pth; rw [List.filter_map]; rfl
  have e2 : (F1 ++ F2).filter (fun x => x.th.leaf) = F1 := by
   rw [qbr, qcE.2 (fun x hx => by simpa using f1 x hx), qcg.2 (fun x hx => by simp [f2 x hx]), qa8]
  have hpf := hp.filter (fun x => x.th.leaf)
  rw [e2] at hpf
  rw [e1, ybD (fun x y => sord_asymm pcf_swo) hpf (ho.filter _) (hsortF F1 (qa2.1 hno).1 (by rw [hn1]; exact hl.order)), hn1]
 ·have e1 : (pth Z).filter (fun x => !x.leaf) = pth (Z.filter (fun x => !x.th.leaf)) := by unfold pth; rw [List.filter_map]; rfl
  have e2 : (F1 ++ F2).filter (fun x => !x.th.leaf) = F2 := by
   rw [qbr, qcg.2 (fun x hx => by simp [f1 x hx]), qcE.2 (fun x hx => by simp [f2 x hx]), qbc]
  have hpf := hp.filter (fun x => !x.th.leaf)
  rw [e2] at hpf
  rw [e1, ybD (fun x y => sord_asymm pcf_swo) hpf (ho.filter _) (hsortF F2 (qa2.1 hno).2.1 (by rw [hn2]; exact yeM (ydk R hr))), hn2]
def fkey (x : LTh) : Nat := x.syms.headD 0
def ordF (a b : LTh) : Prop := a.w < b.w ∨ (a.w = b.w ∧ fkey a < fkey b)
theorem lput_perm (x : LTh) (R : List LTh) : (lput R x).Perm (R ++ [x]) := by
 obtain ⟨r1, r2, h1, h2, _, _⟩ := yaY x R
 rw [h2, h1, qam]
 exact qcy r1 (List.perm_append_comm (l₁ := [x]))
theorem ydV : ∀ (l : List Int) (i : Nat) (out : List LTh), (ybc i l out).Perm (out ++ plv i l)
 | [], i, out => by simp [ybc, plv]
 | c :: t, i, out => by
  by_cases h : 0 < c
  ·rw [yfv _ _ _ _ h, plv_yes _ _ _ h]
   refine (ydV t (i + 1) _).trans ?_
   refine (List.Perm.append_right _ (lput_perm _ _)).trans ?_
   simp
  ·rw [yh6 _ _ _ _ h, plv_no _ _ _ h]
   exact ydV t (i + 1) out
theorem yf0 : ∀ (l : List Int) (i : Nat) (out : List LTh), out.Pairwise ordF → (∀ x ∈ out, x.leaf = true ∧ fkey x < i) → (ybc i l out).Pairwise ordF
 | [], i, out, h, _ => h
 | c :: t, i, out, h, hk => by
  by_cases h0 : 0 < c
  ·rw [yfv _ _ _ _ h0]
   obtain ⟨r1, r2, h1, h2, h3, h4⟩ := yaY ⟨c, [i], true⟩ out
   refine yf0 t (i + 1) _ ?_ fun x hx => ?_
   ·rw [h2]
    rw [h1] at h
    obtain ⟨o1, o2, o3⟩ := qa2.1 h
    have hr2 : ∀ z ∈ r2, c < z.w := by
     intro z hz
     cases hr : r2 with
     | nil => rw [hr] at hz; cases hz
     | cons y u =>
      have hy := h4 y u hr
      have hyl := (hk y (by rw [h1, hr]; simp)).1
      have hyw : c < y.w := by
       have hn : ¬ lle y ⟨c, [i], true⟩ = true := by rw [hy]; decide
       rw [ybn] at hn
       rcases Int.lt_or_le c y.w with e | e
       ·exact e
       ·exfalso
        apply hn
        rcases Int.lt_or_eq_of_le e with e | e
        ·exact qay e
        ·exact qaI ⟨e, qay hyl⟩
      rw [hr] at hz o2
      rcases qaC.1 hz with rfl | hz
      ·exact hyw
      ·rcases (qa9.1 o2).1 z hz with e | ⟨e, _⟩ <;> omega
    rw [qa2]
    refine ⟨o1, qa9.2 ⟨fun z hz => qay (hr2 z hz), o2⟩, ?_⟩
    intro a ha b hb
    rcases qaC.1 hb with rfl | hb
    ·have hle := lle_w (h3 a ha)
     have hka := (hk a (by rw [h1]; simp [ha])).2
     rcases Int.lt_or_eq_of_le hle with e | e
     ·exact qay e
     ·exact qaI ⟨e, hka⟩
    ·exact o3 a ha b hb
   ·rcases (ye1 _ _ _).1 hx with rfl | hx
    ·exact ⟨rfl, by show i < i + 1; omega⟩
    ·have := hk x hx; exact ⟨this.1, by omega⟩
  ·rw [yh6 _ _ _ _ h0]
   exact yf0 t (i + 1) out h fun x hx => ⟨(hk x hx).1, by have := (hk x hx).2; omega⟩
theorem plv_key : ∀ (l : List Int) (i : Nat), (plv i l).Pairwise (fun a b => fkey a < fkey b) ∧ ∀ x ∈ plv i l, i ≤ fkey x
 | [], i => ⟨qbA, fun x h => by cases h⟩
 | c :: t, i => by
  obtain ⟨h1, h2⟩ := plv_key t (i + 1)
  by_cases h : 0 < c
  ·rw [plv_yes _ _ _ h]
   refine ⟨qa9.2 ⟨fun y hy => by have := h2 y hy; show i < fkey y; omega, h1⟩, fun x hx => ?_⟩
   rcases qaC.1 hx with rfl | hx
   ·exact qad _
   ·have := h2 x hx; omega
  ·rw [plv_no _ _ _ h]
   exact ⟨h1, fun x hx => by have := h2 x hx; omega⟩
theorem first_row (counts : List Int) (E Z : List PEl) (h1 : pth E = plv 0 counts) (hp : Z.Perm (yb7 0 E)) (ho : Z.Pairwise (sord (ltOf pcf) (·.no))) : pth Z = yaa counts := by
 have hno := ygc E 0
 have hth := yga E 0
 rw [h1] at hth
 generalize yb7 0 E = F at *
 have hk : F.Pairwise (fun x y => fkey x.th < fkey y.th) := by
  have := (plv_key counts 0).1
  rw [← hth, pw_pth] at this
  exact this
 have p1 : (pth Z).Perm (yaa counts) := by
  have h := ydV counts 0 []
  rw [qbc, ← hth] at h
  exact (hp.map _).trans h.symm
 refine ybD (r := ordF) ?_ p1 ?_ (yf0 counts 0 [] qbA fun x hx => by cases hx)
 ·intro x y h k
  rcases h with h | ⟨h, h2⟩ <;> rcases k with k | ⟨k, k2⟩ <;> omega
 ·rw [pw_pth]
  refine qbs (fun {x y} hx hy hs => ?_) ho
  rcases sord_w hs with e | ⟨e, e2⟩
  ·exact qay e
  ·exact qaI ⟨e, pw_of_no hk hno (hp.subset hx) (hp.subset hy) e2⟩
structure RSrc where
 A : Option Addr
 n : Nat
 c : Nat
 E : List PEl
def rsrc (s : RSrc) : CSrc := ⟨s.A, s.n, s.c, yaB s.E⟩
def rall (l : List RSrc) : List PEl := (l.map (·.E)).flatten
theorem rsum_all : ∀ (l : List RSrc), (∀ s ∈ l, s.E.length = s.n) → CSum (l.map rsrc) = (rall l).length
 | [], _ => rfl
 | s :: t, h => by
  have h1 := rsum_all t fun x hx => h x (qa4 _ hx)
  have h2 := h s (by simp)
  show s.n + CSum (t.map rsrc) = (s.E ++ rall t).length
  rw [qab, h1, h2]
theorem rall_cells : ∀ (l : List RSrc), CAll (l.map rsrc) = yaB (rall l)
 | [] => rfl
 | s :: t => by
  show yaB s.E ++ CAll (t.map rsrc) = yaB (s.E ++ rall t)
  rw [yfz, rall_cells t]
theorem row_any (ok : Nat → Prop) (l : List RSrc) (AL : Option Addr) (K c : Nat) (w : World) (hK : l.length = K) (hKb : K ≤ 1000) (hrow : CRow w AL (l.map rsrc)) (hokn : ∀ b, w.heap.size ≤ b → ok b) (hsrc : ∀ s ∈ l, PRow ok w w.heap.size s.A s.n s.E) (hn : (rall l).length ≤ 100000) :
  Calls prog 144 #[.slice AL K c] w fun e w' => ∃ (Z : List PEl) (A' : Option Addr) (c' : Nat), e = .returned (.slice A' Z.length c') ∧ Z.length ≤ c' ∧ Z.Perm (yb7 0 (rall l)) ∧ Z.Pairwise (sord (ltOf pcf) (·.no)) ∧ PRow ok w' w'.heap.size A' Z.length Z ∧ Below w.heap.size w w' := by
 have hsum := rsum_all l fun s hs => (hsrc s hs).1
 have Hcat := qaa (tcat_any (l.map rsrc) AL K c w (by rw [qaD]; exact hK) (by rw [hsum]; omega) (by omega) hrow (fun s hs => by
  obtain ⟨x, hx, rfl⟩ := qb5.1 hs
  exact ⟨(hsrc x hx).2.1, pcells_one _⟩))
 rw [hsum, rall_cells] at Hcat
 have Hok : Hid (∀ x ∈ yb7 0 (rall l), POk ok w w.heap.size x) := qaa fun y hy => by
  obtain ⟨_, x, hx, e1, e2, e3⟩ := ygQ _ _ _ hy
  obtain ⟨E, hE, hx⟩ := List.mem_flatten.1 hx
  obtain ⟨s, hs, rfl⟩ := qb5.1 hE
  have := (hsrc s hs).2.2.1 x hx
  exact ⟨by rw [e1, e3]; exact this.room, by rw [e1, e2]; exact this.reads, by rw [e1, e2]; exact this.ty⟩
 have Hsort := qaa fun (v : Value) (W : World) (hO : W.ownsRow w.heap.size 190 2 v (rall l).length (yaB (rall l))) (hb : w.heap.size ≤ W.heap.size) =>
  sort_any v (rall l).length w.heap.size (yb7 0 (rall l)) W (by rw [ygB]; exact hO) hb (yhA _ _) (ygc _ _) (by omega)
 have Hlen := qaa (yhA (rall l) 0)
 have Hokn := qaa hokn
 clear hsum hrow hsrc hokn
 generalize rall l = E at *
 go_enter func144, ntmps144
 go_wp2_with (first
  | (go_at_call 182; refine Hcat.out.mono ?_; rintro e w1 ⟨A1, c1, rfl, hO1, hB1⟩; have HO1 := qaa hO1; have HB1 := qaa hB1; clear hO1 hB1)
  | (go_at_call 183; refine (Hsort.out _ _ HO1.out HB1.out.size).mono ?_; rintro e w2 ⟨rfl, Z, A2, c2, hv, hc2, hp, ho, hr, hb⟩; have HV := qaa hv; have HP := qaa hp; have HO := qaa ho; have HR := qaa hr; have HB := qaa hb; clear hv hp ho hr hb))
 go_ret
 have hv := HV.out
 injection hv with e1 _ e3
 subst e1 e3
 have hZ : Z.length = E.length := by rw [HP.out.length_eq, Hlen.out]
 have hbel : Below w.heap.size w w2 := HB1.out.trans HB.out
 refine ⟨Z, A1, c1, by rw [hZ]; rfl, by rw [hZ]; exact hc2, HP.out, HO.out, ⟨rfl, by rw [hZ]; exact HR.out, fun x hx => ?_, by rw [hZ]; exact ygP HO1.out Hokn.out⟩, hbel⟩
 exact ((Hok.out x (HP.out.subset hx)).below hbel).more hbel.size
theorem lexp_le {k : Nat} (h : k ≤ 14) : (2 ^ k : Nat) ≤ 16384 := qaA (qa0 (by omega) h) (by decide)
theorem ppk_len {Ep Z : List PEl} (h : pth Ep = yas (pth Z)) (hz : Z.length ≤ 2000) : Ep.length ≤ 1000 := by
 have h1 := qbC List.length h
 rw [ycw] at h1
 unfold pth at h1
 rw [qaD, qaD] at h1
 omega
theorem last_any (ok : Nat → Prop) (counts : List Int) (E1 : List PEl) (rows : Nat) (A1 : Option Addr) (c1 : Nat) (w : World) (hl : counts.length ≤ 257) (hg : yev counts = true) (h1 : pth E1 = yaa counts) (hokn : ∀ b, w.heap.size ≤ b → ok b) (hr : PRow ok w w.heap.size A1 E1.length E1) (hc1 : E1.length ≤ c1) (hrows : 1 ≤ rows ∧ rows ≤ 15) :
  Calls prog 146 #[.slice A1 E1.length c1, .int .i64 rows] w fun e w' => ∃ (Z : List PEl) (A' : Option Addr) (c' : Nat), e = .returned (.slice A' Z.length c') ∧ Z.length ≤ c' ∧ pth Z = lrow (yaa counts) (rows - 1) ∧ PRow ok w' w'.heap.size A' Z.length Z ∧ Below w.heap.size w w' := by
 have hll := yaE counts
 have hE1 : E1.length ≤ 257 := by
  have h2 := ycH counts
  rw [← h1] at h2
  unfold pth at h2
  rw [qaD] at h2
  omega
 have Hlen : Hid (∀ k (Z : List PEl), pth Z = lrow (yaa counts) k → Z.length ≤ 514) := qaa fun k Z hZ => by
  have h2 := yd1 hll k
  rw [← hZ, ← h1] at h2
  unfold pth at h2
  rw [qaD, qaD] at h2
  omega
 have Hfit : Hid (∀ k (Z : List PEl), k ≤ 14 → pth Z = lrow (yaa counts) k → ∀ x ∈ Z, PFit x) := qaa fun k Z hk hZ x hx => by
  obtain ⟨f1, f2, f3, _⟩ := yeG counts hg k x.th (by rw [← hZ]; exact qb5.2 ⟨x, hx, rfl⟩)
  have := lexp_le hk
  refine ⟨by omega, f2, ?_⟩
  have : ((2 ^ k : Nat) : Int) * 1000000 ≤ 16384 * 1000000 := qco (by omega) (by omega)
  omega
 have Hnext : Hid (∀ k (Z Ep Z2 : List PEl), pth Z = lrow (yaa counts) k → pth Ep = yas (pth Z) → Z2.Perm (yb7 0 (E1 ++ Ep)) → Z2.Pairwise (sord (ltOf pcf) (·.no)) → pth Z2 = lrow (yaa counts) (k + 1)) := qaa fun k Z Ep Z2 a1 a2 a3 a4 => by
  rw [a1] at a2
  exact prow_next (yaa counts) (lrow (yaa counts) k) E1 Ep Z2 hll (yfc hll k) h1 a2 a3 a4
 have Hr := qaa hr
 have H1 : Hid (pth E1 = lrow (yaa counts) 0) := qaa h1
 have hri : (1 : Int) ≤ (rows : Int) ∧ (rows : Int) ≤ 15 := by omega
 have Hokn := qaa hokn
 clear hr h1 hll hg hokn
 generalize yaa counts = LV at *
 obtain ⟨n1, hn1⟩ : ∃ n1, E1.length = n1 := ⟨_, rfl⟩
 have En := qaa hn1
 rw [hn1] at Hr hc1 hE1 ⊢
 clear hn1
 go_enter func146, ntmps146
 go_wp2
 go_loopw [5, 9] (fun v i wr => ∃ (k nz cz : Nat) (Az : Option Addr) (Z : List PEl), k + 1 ≤ rows ∧ i = .int .i64 k ∧ v = .slice Az nz cz ∧ Z.length = nz ∧ nz ≤ cz ∧ Hid (pth Z = lrow LV k) ∧ Hid (PRow ok wr wr.heap.size Az nz Z) ∧ Hid (Below w.heap.size w wr)) (fun _ i _ => rows - (intOf i).toNat)
 case atStart => exact ⟨0, n1, c1, A1, E1, by omega, rfl, rfl, En.out, hc1, H1, Hr, qak _ _⟩
 case round =>
  obtain ⟨k, nz, cz, Az, Z, hk, rfl, rfl, hnz, hcz, HZ, HRz, HB⟩ := hrel
  by_cases hlt : k + 1 < rows
  ·have hlz : (k : Int) < (rows : Int) - 1 := by omega
   have hnz5 : nz ≤ 514 := by rw [← hnz]; exact Hlen.out k Z HZ.out
   have Hpk := qaa (packages_any ok Z Az nz cz wr (fun b hb => Hokn.out b (qaA HB.out.size hb)) HRz.out (by omega) (Hfit.out k Z (by omega) HZ.out))
   have Hrow := qaa fun (W : World) (Ep : List PEl) (Ap : Option Addr) (cp : Nat) (hb : Below wr.heap.size wr W) (hpr : PRow ok W W.heap.size Ap Ep.length Ep) (hpl : Ep.length ≤ 1000) =>
    row_any ok [⟨A1, n1, c1, E1⟩, ⟨Ap, Ep.length, cp, Ep⟩] (some ⟨W.heap.size, 0, none⟩) 2 2 (W.alloc (.cells #[.slice A1 n1 c1, .slice Ap Ep.length cp] 185)) rfl (by omega)
     (fun _ => ⟨W.heap.size, 0, rfl, by rw [qaw]; omega, fun i hi => by
      have hi2 : i < 2 := hi
      have hB := (Blk.new W 185 #[.slice A1 n1 c1, .slice Ap Ep.length cp]).two
      rcases (show i = 0 ∨ i = 1 by omega) with rfl | rfl
      ·exact hB.1
      ·exact hB.2.1⟩)
     (fun b hb2 => Hokn.out b (by rw [qaw] at hb2; have h1 := HB.out.size; have h2 := hb.size; omega))
     (fun s hs => by
      have hba : Below W.heap.size W (W.alloc (.cells #[.slice A1 n1 c1, .slice Ap Ep.length cp] 185)) := (qak _ _).alloc (qad _) _
      have hwW : Below w.heap.size w W := HB.out.trans (hb.mono HB.out.size)
      rcases qaC.1 hs with rfl | hs
      ·exact ((Hr.out.below (hwW.trans (hba.mono hwW.size))).more (qaA hwW.size hba.size))
      ·rcases qaC.1 hs with rfl | hs
       ·exact (hpr.below hba).more hba.size
       ·cases hs)
     (by show (E1 ++ (Ep ++ [])).length ≤ _; rw [qa8, qab, En.out]; omega)
   go_wp2_with (first
    | (go_at_call 185; refine Hpk.out.mono ?_; rintro e w1 ⟨Ep, Ap, cp, rfl, hcp, hp1, hp2, hp3⟩; have HP1 := qaa hp1; have HP2 := qaa hp2; have HP3 := qaa hp3; have hepl : Ep.length ≤ 1000 := ppk_len hp1 (by omega); clear hp1 hp2 hp3)
    | (go_at_call 144; refine (Hrow.out _ _ _ _ HP3.out HP2.out hepl).mono ?_; rintro e w2 ⟨Z2, A2, c2, rfl, hc2, hq1, hq2, hq3, hq4⟩; have HQ1 := qaa hq1; have HQ2 := qaa hq2; have HQ3 := qaa hq3; have HQ4 := qaa hq4; clear hq1 hq2 hq3 hq4))
   have HB2 : Hid (Below w.heap.size w w2) := qaa (by
    have hb1 : Below w.heap.size w w1 := HB.out.trans (HP3.out.mono HB.out.size)
    have hb2 := hb1.alloc hb1.size (.cells #[.slice A1 n1 c1, .slice Ap Ep.length cp] 185)
    exact hb2.trans (HQ4.out.mono hb2.size))
   have HZ2 : Hid (pth Z2 = lrow LV (k + 1)) := qaa (Hnext.out k Z Ep Z2 HZ.out HP1.out (by have := HQ1.out; simpa [rall] using this) HQ2.out)
   go_roundw
   case rel => exact ⟨k + 1, Z2.length, c2, A2, Z2, by omega, iv (by omega), rfl, rfl, hc2, HZ2, HQ3, HB2⟩
   case measure => simp only [intOf]; omega
  ·obtain rfl : rows = k + 1 := by omega
   have hlz : ¬ (k : Int) < ((k + 1 : Nat) : Int) - 1 := by omega
   subst hnz
   go_wp2
   go_ret
   exact ⟨Z, Az, cz, rfl, hcz, HZ.out, HRz.out, HB.out⟩
end Go.Proofs.YtanjhbkbpalnaaaGreat
namespace Go.Proofs.YtanjhbkbpalnaaaGreat
set_option linter.unusedSimpArgs false
set_option linter.unusedVariables false
open Go.ChangeShapes Go.WideShapes Go.ChangeAt Go.RowKit Go.Joins Go.Deep
theorem lints_zero (n : Nat) : madeCells #[.int .i64 0] n = (ints (List.replicate n 0)).toArray := by
 unfold ints
 apply Array.ext'
 simp [madeCells, Nat.mod_one]
 rw [qcw, qa7]
theorem lmk_ints (n : Int) (N : Nat) (hN : (N : Int) = n) (h : N ≤ 17592186044416) (w : World) :
  (Instr.makeSlice 28 (.int .i64 n) (.int .i64 n)).run prog w = .ok (.slice (some ⟨w.heap.size, 0, none⟩) N N) (w.alloc (.cells (ints (List.replicate N 0)).toArray 3)) := by
 subst hN
 rw [← lints_zero]
 exact run_make_row' (P := prog) 28 3 (.int .i64 0) 8 underlying28 lint_info rfl .i64 .i64 N (by omega) (by omega) w
theorem lints_set (l : List Int) (k : Nat) (v : Int) : (ints l).toArray.setIfInBounds k (.int .i64 v) = (ints (l.set k v)).toArray := by
 rw [qac]
 simp [ints, qcu]
theorem lout_zero (n : Nat) : List.replicate n (0 : Int) = lout n (fun _ => 0) := by
 unfold lout
 rw [qcw, qa7]
theorem LOk.of {ok ok' : Nat → Prop} {W : World} {B size n : Nat} {A : Option Addr} {xs : List Value} (hr : Reads W B size A n xs) (h : ∀ b, b < B → ok' b) : LOk ok' A n := fun hn => by
 obtain ⟨b, off, e, hb, _⟩ := hr.2 hn
 exact ⟨b, off, e, h b hb⟩
theorem LMem.ok' {ok ok' : Nat → Prop} {W : World} {B : Nat} (h : ∀ b, b < B → ok' b) : ∀ {R : List LTh} {xs : List Value}, LMem W B ok xs R → LMem W B ok' xs R
 | [], _, k => k
 | x :: t, _, ⟨As, ns, cs, rest, e, hn, hc, hr, ht⟩ => ⟨As, ns, cs, rest, e, hn, hc, ⟨hr.1, LOk.of (ok := ok) hr.1 h⟩, LMem.ok' h ht⟩
theorem LHRow.ok' {ok ok' : Nat → Prop} {W : World} {B n : Nat} {A : Option Addr} {R : List LTh} (k : LHRow W B ok A n R) (h : ∀ b, b < B → ok' b) : LHRow W B ok' A n R := by
 obtain ⟨hn, ho, xs, hr, hm⟩ := k
 exact ⟨hn, LOk.of (ok := ok) hr h, xs, hr, hm.ok' h⟩
theorem LHRow.cells {W : World} {n g : Nat} {A : Option Addr} {R : List LTh} (k : LHRow W W.heap.size (fun b => b ≠ g) A n R) (i : Nat) (hi : i < R.length) :
  ∃ b off As cs, A = some ⟨b, off, none⟩ ∧ (∀ W', W.grownBy W' (some g) → W'.cell? ⟨b, off + i * 3 + 1, none⟩ = some (.slice As R[i].syms.length cs)) ∧
   ∀ q (hq : q < R[i].syms.length), ∃ bs os, As = some ⟨bs, os, none⟩ ∧ ∀ W', W.grownBy W' (some g) → W'.cell? ⟨bs, os + q, none⟩ = some (.int .i64 (R[i].syms[q] : Int)) := by
 obtain ⟨hn, ho, xs, hr, hm⟩ := k
 obtain ⟨As, cs, h1, h2, h3, h4, h5, h6⟩ := hm.at i hi
 obtain ⟨b, off, e, hb, hc⟩ := hr.2 (by omega)
 obtain ⟨b', off', e', hbg⟩ := ho (by omega)
 rw [e] at e'
 injection e' with e'
 injection e' with e1 e2
 subst e1
 refine ⟨b, off, As, cs, e, fun W' hg => ?_, fun q hq => ?_⟩
 ·refine (qbO (a := ⟨b, off + i * 3 + 1, none⟩) (hg.block b hb (fun h => by injection h with h; exact hbg h))).trans ?_
  rw [qbU]
  exact hc _ _ h2
 ·obtain ⟨bs, os, es, hbs, hcs⟩ := h5.2 (by omega)
  obtain ⟨bs', os', es', hbsg⟩ := h6 (by omega)
  rw [es] at es'
  injection es' with es'
  injection es' with e3 e4
  subst e3
  refine ⟨bs, os, es, fun W' hg => ?_⟩
  refine (qbO (a := ⟨bs, os + q, none⟩) (hg.block bs hbs (fun h => by injection h with h; exact hbsg h))).trans (hcs q _ ?_)
  rw [yai _ q (by simpa [lsy] using hq)]
  simp [lsy]
theorem lhas_bound (s : Nat) (x : LTh) (h : x.syms.length ≤ 400000) : 0 ≤ lhas s x ∧ lhas s x ≤ 400000 := by
 unfold lhas
 have := List.count_le_length (a := s) (l := x.syms)
 omega
theorem lsum_bound (s : Nat) : ∀ (R : List LTh), (∀ x ∈ R, x.syms.length ≤ 400000) → 0 ≤ lsum (lhas s) R ∧ lsum (lhas s) R ≤ 400000 * R.length
 | [], _ => by simp [lsum]
 | x :: t, h => by
  have h1 := lhas_bound s x (h x (by simp))
  have h2 := lsum_bound s t fun y hy => h y (by simp [hy])
  simp only [lsum, qap]
  omega
theorem yfh (R : List LTh) (i k s : Nat) (hi : i < R.length) (h : ∀ x ∈ R, x.syms.length ≤ 400000) : 0 ≤ lfar R i k s ∧ lfar R i k s ≤ 400000 * (i + 1) := by
 unfold lfar
 have h1 := lsum_bound s (R.take i) fun x hx => h x (qaN hx)
 rw [qao] at h1
 rw [qah hi]
 simp only [qbR, qbG]
 have h2 := List.count_le_length (a := s) (l := R[i].syms.take k)
 rw [qao] at h2
 have h3 := h R[i] (qaq hi)
 omega
theorem yfs {W : World} {g n : Nat} {R : List LTh} {i k : Nat} (hB : Blk W g 3 (ints (lout n (lfar R i k))).toArray) (hi : i < R.length) (hk : k < R[i].syms.length) (hs : R[i].syms[k] < n) :
  W.cell? ⟨g, R[i].syms[k], none⟩ = some (.int .i64 (lfar R i k R[i].syms[k])) ∧ W.frozen? ⟨g, R[i].syms[k], none⟩ = false ∧
   Blk (W.setCell ⟨g, R[i].syms[k], none⟩ (.int .i64 (lfar R i k R[i].syms[k] + 1))) g 3 (ints (lout n (lfar R i (k + 1)))).toArray := by
 refine ⟨?_, hB.frozen _, ?_⟩
 ·rw [hB.cell]
  simp only [qaB]
  unfold ints
  rw [List.getElem?_map, ye2 n _ _ hs]
  rfl
 ·have h := hB.set_ R[i].syms[k] (.int .i64 (lfar R i k R[i].syms[k] + 1))
  rw [lints_set, lout_set n (lfar R i k) (lfar R i (k + 1)) _ _ (by rw [lfar_step R i k _ hi hk, qag rfl]) (fun t ht => by rw [lfar_step R i k t hi hk, qae ht]; omega)] at h
  exact h
theorem yee {W : World} {g n : Nat} {R : List LTh} {i : Nat} (hi : i < R.length) (h : Blk W g 3 (ints (lout n (lfar R i R[i].syms.length))).toArray) : Blk W g 3 (ints (lout n (lfar R (i + 1) 0))).toArray := by
 rw [ybK n (lfar R (i + 1) 0) (lfar R i R[i].syms.length) fun t _ => by rw [yep, lfar_end R i t hi]]
 exact h
theorem ygK (x : LTh) : ∀ k, lrow [x] k = [x]
 | 0 => rfl
 | k + 1 => by
  show ygx (lrow [x] k) [x] = [x]
  rw [ygK x k]
  rfl
theorem lbest_taken (counts : List Int) (L : Nat) : yaq counts L = lout counts.length (fun s => lsum (lhas s) ((lrow (yaa counts) (L - 1)).take (max (2 * (yaa counts).length - 2) (yaa counts).length))) := by
 by_cases h : (yaa counts).length = 1
 ·obtain ⟨x, hx⟩ := List.length_eq_one_iff.1 h
  obtain ⟨j, hj, hp, e⟩ := (yan counts x).1 (by rw [hx]; simp)
  obtain ⟨_, h2⟩ := lbestL_one counts L j h (by simp only [hx, qaE, e])
  rw [← h2, lout_set counts.length (fun _ => 0) (fun t => if t = j then 1 else 0) j 1 (by simp) (fun t ht => qae ht)]
  refine ybK _ _ _ fun t _ => ?_
  rw [hx, ygK]
  simp only [lsum, lhas, e, qcp]
  by_cases ht : t = j
  ·subst ht; simp [lsum, lhas]
  ·rw [qae ht]
   simp [lsum, lhas, List.count_cons, Ne.symm ht]
 ·rw [ydQ counts L h]
  refine ybK _ _ _ fun t _ => ?_
  unfold yfE
  rw [show max (2 * (yaa counts).length - 2) (yaa counts).length = 2 * (yaa counts).length - 2 from by omega]
theorem PRow.cells {W : World} {n g : Nat} {A : Option Addr} {E : List PEl} (h : PRow (fun b => b ≠ g) W W.heap.size A n E) (i : Nat) (hi : i < E.length) :
  ∃ b off, A = some ⟨b, off, none⟩ ∧ b ≠ g ∧ (∀ W', W.grownBy W' (some g) → W'.cell? ⟨b, off + i * 2, none⟩ = some (.int .i64 E[i].th.w) ∧ W'.cell? ⟨b, off + i * 2 + 1, none⟩ = some (.slice E[i].A E[i].th.syms.length E[i].c)) ∧
   ∀ q (hq : q < E[i].th.syms.length), ∃ bs os, E[i].A = some ⟨bs, os, none⟩ ∧ ∀ W', W.grownBy W' (some g) → W'.cell? ⟨bs, os + q, none⟩ = some (.int .i64 (E[i].th.syms[q] : Int)) := by
 obtain ⟨hn, hr, hok, ho⟩ := h
 obtain ⟨b, off, e, hb, hc⟩ := pcell_row hr hn (by omega)
 obtain ⟨b', off', e', hbg⟩ := ho (by omega)
 rw [e] at e'
 injection e' with e'
 injection e' with e1 e2
 subst e1
 obtain ⟨c1, c2⟩ := hc i hi
 refine ⟨b, off, e, hbg, fun W' hg => ⟨?_, ?_⟩, fun q hq => ?_⟩
 ·exact (qbO (a := ⟨b, off + i * 2, none⟩) (hg.block b hb (fun h => by injection h with h; exact hbg h))).trans c1
 ·exact (qbO (a := ⟨b, off + i * 2 + 1, none⟩) (hg.block b hb (fun h => by injection h with h; exact hbg h))).trans c2
 ·have hx := hok _ (qaq hi)
  obtain ⟨bs, os, es, hbs, hcs⟩ := hx.reads.2 (by omega)
  obtain ⟨bs', os', cs', es', _, hbsg⟩ := hx.ty (by omega)
  rw [es] at es'
  injection es' with es'
  injection es' with e3 e4
  subst e3
  refine ⟨bs, os, es, fun W' hg => ?_⟩
  refine (qbO (a := ⟨bs, os + q, none⟩) (hg.block bs hbs (fun h => by injection h with h; exact hbsg h))).trans (hcs q _ ?_)
  rw [yai _ q (by simpa [lsy] using hq)]
  simp [lsy]
theorem pplv_len : ∀ (l : List Int) (i : Nat), (plv i l).length ≤ l.length
 | [], _ => qad _
 | c :: t, i => by
  have := pplv_len t (i + 1)
  by_cases h : 0 < c
  ·rw [plv_yes _ _ _ h, qap, qap]; omega
  ·rw [plv_no _ _ _ h, qap]; omega
theorem ybh {w w1 w2 w3 : World} {o : Obj} (h1 : Below w.heap.size w w1) (h2 : Below w1.heap.size w1 w2) (h3 : Below (w2.alloc o).heap.size (w2.alloc o) w3) : Below w.heap.size w w3 := by
 have h4 : Below w.heap.size w w2 := h1.trans (h2.mono h1.size)
 have h5 := h4.alloc h4.size o
 exact h5.trans (h3.mono h5.size)
theorem pbest_row {W : World} {A : Option Addr} {n : Nat} {E : List PEl} {o : Obj} (h : PRow (fun _ => True) W W.heap.size A n E) : PRow (fun b => b ≠ W.heap.size) (W.alloc o) (W.alloc o).heap.size A n E :=
 ((h.okto (fun b hb => by show b ≠ W.heap.size; omega)).below ((qak _ _).alloc (qad _) o)).more (by rw [qaw]; omega)
theorem pbest_new (W : World) (o : Obj) : ∀ b, (W.alloc o).heap.size ≤ b → b ≠ W.heap.size := fun b hb => by rw [qaw] at hb; omega
theorem pbest_room {Z : List PEl} {R : List LTh} {c t : Nat} (h : pth Z = R) (hc : Z.length ≤ c) (ht : t ≤ R.length) : (t : Int) ≤ (c : Int) := by
 have : Z.length = R.length := by rw [← h]; simp [pth]
 omega
theorem ycl {w w3 w5 : World} {o : Obj} (h1 : Below w.heap.size w w3) (h2 : Below (w3.alloc o).heap.size (w3.alloc o) w5) : Below w.heap.size w w5 := by
 have h5 := h1.alloc h1.size o
 exact h5.trans (h2.mono h5.size)
theorem pbest_none {Z : List PEl} {R : List LTh} {W : World} {t : Nat} {ok : Nat → Prop} (h : pth Z = R) (hq : PRow ok W W.heap.size none Z.length Z) (ht : t ≤ R.length) : t = 0 := by
 have : Z.length = R.length := by rw [← h]; simp [pth]
 rcases qbm Z.length with e | e
 ·omega
 ·obtain ⟨b, off, e2, _⟩ := hq.2.1.2 e
  cases e2
theorem yeQ (n : Nat) (RW : List LTh) {w3 w5 : World} (h : Below (w3.alloc (.cells (ints (lout n (fun _ => 0))).toArray 3)).heap.size (w3.alloc (.cells (ints (lout n (fun _ => 0))).toArray 3)) w5) : Blk w5 w3.heap.size 3 (ints (lout n (lfar RW 0 0))).toArray := by
 have h1 := Blk.new w3 3 (ints (lout n (fun _ => 0))).toArray
 have h2 := h1.below h h1.lt
 rw [ybK n (lfar RW 0 0) (fun _ => 0) fun t _ => by rw [yep]; rfl]
 exact h2
theorem pbest_th {Z : List PEl} {R : List LTh} (h : pth Z = R) (k : Nat) (hk : k < R.length) : ∃ hz : k < Z.length, Z[k].th = R[k] := by
 subst h
 unfold pth at hk ⊢
 rw [qaD] at hk
 exact ⟨hk, by rw [qaQ]⟩
theorem ycY (RW : List LTh) (n t : Nat) (BL : List Int) (F : List Int × Int) (W : World) (g : Nat) (w : World) (hBL : BL = lout n (fun s => lsum (lhas s) (RW.take t))) (hF : (BL, (0 : Int)) = F) (hB : Blk W g 3 (ints (lout n (lfar RW t 0))).toArray) (hw : Below w.heap.size w W) :
  ∃ A' c', Ending.returned (.tuple #[.slice (some ⟨g, 0, none⟩) n n, .int .i64 0]) = Ending.returned (.tuple #[.slice A' F.1.length c', .int .i64 F.2]) ∧ F.1.length ≤ c' ∧ Reads W W.heap.size 1 A' F.1.length (ints F.1) ∧ Below w.heap.size w W := by
 subst hF
 have hl : BL.length = n := by rw [hBL, yds]
 refine ⟨some ⟨g, 0, none⟩, n, by rw [hl], by rw [hl]; exact qad _, ?_, hw⟩
 refine ⟨by rw [yab]; omega, fun _ => ⟨g, 0, rfl, hB.lt, fun j u hu => ?_⟩⟩
 rw [qaz, hB.cell, qaB, ybK n (lfar RW t 0) (fun s => lsum (lhas s) (RW.take t)) fun s _ => yep RW t s, ← hBL]
 exact hu
theorem yfy {w w5 W : World} {g : Nat} (h : Below w.heap.size w w5) (hg : w5.grownBy W (some g)) (hgw : w.heap.size ≤ g) : Below w.heap.size w W := h.trans (ydB hg hgw h.size)
theorem p_best_any (counts : List Int) (most : Int) (A : Option Addr) (n c : Nat) (w : World) (hm : n ≤ 100000) (hr : Reads w w.heap.size 1 A n (ints counts)) :
  Calls prog 103 #[.slice A n c, .int .i64 most] w fun e w' => ∃ A' c', e = .returned (.tuple #[.slice A' (yb9 counts most).1.length c', .int .i64 (yb9 counts most).2]) ∧ (yb9 counts most).1.length ≤ c' ∧ Reads w' w'.heap.size 1 A' (yb9 counts most).1.length (ints (yb9 counts most).1) ∧ Below w.heap.size w w' := by
 have en : counts.length = n := by have := hr.1; rw [yab] at this; omega
 have hni : (n : Int) ≤ 100000 := by omega
 have En := qaa en
 have Hall := qaa (a_all_any counts 1000000 A n c w (by omega) hr)
 obtain ⟨F, hF⟩ : ∃ F, yb9 counts most = F := ⟨_, rfl⟩
 rw [hF]
 unfold yb9 at hF
 rw [en] at hF
 by_cases h1 : 257 < n
 ·have h1i : (257 : Int) < n := by omega
  rw [qag h1] at hF
  have Hf := qaa hF
  clear hF hr
  go_enter func103, ntmps103
  go_wp2
  go_ret2
  rw [← Hf.out]
  exact ⟨none, 0, rfl, qad _, Reads.none_, qak _ _⟩
 ·have h1i : ¬ (257 : Int) < n := by omega
  rw [qae h1] at hF
  by_cases hg : yev counts = true
  ·have hga : ycA 1000000 counts = true := hg
   rw [hga] at Hall
   by_cases h2 : most < 1
   ·rw [qag (qay h2)] at hF
    have Hf := qaa hF
    clear hF hr hg hga
    go_enter func103, ntmps103
    go_wp2_with (go_at_call 143; refine Hall.out.mono ?_; rintro e w1 ⟨rfl, hb1⟩; have Hb1 := qaa hb1; clear hb1)
    go_ret2
    rw [← Hf.out]
    exact ⟨none, 0, rfl, qad _, Reads.none_, Hb1.out⟩
   ·by_cases h3 : 15 < most
    ·rw [qag (qaI h3)] at hF
     have Hf := qaa hF
     clear hF hr hg hga
     go_enter func103, ntmps103
     go_wp2_with (go_at_call 143; refine Hall.out.mono ?_; rintro e w1 ⟨rfl, hb1⟩; have Hb1 := qaa hb1; clear hb1)
     go_ret2
     rw [← Hf.out]
     exact ⟨none, 0, rfl, qad _, Reads.none_, Hb1.out⟩
    ·rw [qae (by omega), qag hg] at hF
     obtain ⟨L, rfl⟩ : ∃ L : Nat, most = L := ⟨most.toNat, by omega⟩
     rw [qan] at hF
     have hL : 1 ≤ L ∧ L ≤ 15 := by omega
     have hLi : (1 : Int) ≤ (L : Int) ∧ (L : Int) ≤ 15 := by omega
     have hllen : (yaa counts).length ≤ n := by have := ycH counts; omega
     have Hleaves := qaa fun (W : World) (hW : Below w.heap.size w W) => leaves_any (fun _ => True) counts A n c W (fun _ _ => trivial) ((hr.below hW).more hW.size) (by omega)
     have Hrow := qaa fun (W : World) (E : List PEl) (A2 : Option Addr) (c2 : Nat) (hp : PRow (fun _ => True) W W.heap.size A2 E.length E) (hpl : E.length ≤ 1000) =>
      row_any (fun _ => True) [⟨A2, E.length, c2, E⟩] (some ⟨W.heap.size, 0, none⟩) 1 1 (W.alloc (.cells #[.slice A2 E.length c2] 185)) rfl (by omega)
       (fun _ => ⟨W.heap.size, 0, rfl, by rw [qaw]; omega, fun i hi => by
        have hi2 : i < 1 := hi
        obtain rfl : i = 0 := by omega
        exact (Blk.new W 185 #[.slice A2 E.length c2]).cell 0⟩)
       (fun _ _ => trivial)
       (fun s hs => by
        rw [qcq.1 hs]
        have hba : Below W.heap.size W (W.alloc (.cells #[.slice A2 E.length c2] 185)) := (qak _ _).alloc (qad _) _
        exact (hp.below hba).more hba.size)
       (by show (E ++ []).length ≤ _; rw [qa8]; omega)
     have Hfirst : Hid (∀ (E Z : List PEl), pth E = plv 0 counts → Z.Perm (yb7 0 (rall [(⟨none, 0, 0, E⟩ : RSrc)])) → Z.Pairwise (sord (ltOf pcf) (·.no)) → pth Z = yaa counts) := qaa fun E Z a1 a2 a3 => first_row counts E Z a1 (by simpa [rall] using a2) a3
     have Hlast := qaa fun (g : Nat) (E1 : List PEl) (A1 : Option Addr) (c1 : Nat) (W : World) (a1 : pth E1 = yaa counts) (a2 : PRow (fun b => b ≠ g) W W.heap.size A1 E1.length E1) (a3 : E1.length ≤ c1) (a4 : ∀ b, W.heap.size ≤ b → b ≠ g) => last_any (fun b => b ≠ g) counts E1 L A1 c1 W (by omega) hg a1 a4 a2 a3 hL
     have hElen : Hid (∀ E : List PEl, pth E = plv 0 counts → E.length ≤ 1000) := qaa fun E hE => by
      have h5 := qbC List.length hE
      have h6 := pplv_len counts 0
      unfold pth at h5
      rw [qaD] at h5
      omega
     have hZlen : Hid (∀ Z : List PEl, pth Z = yaa counts → Z.length = (yaa counts).length) := qaa fun Z hZ => by rw [← hZ]; simp [pth]
     have hroom : 2 ^ L < (yaa counts).length ∨ max (2 * (yaa counts).length - 2) (yaa counts).length ≤ (lrow (yaa counts) (L - 1)).length := by
      by_cases hb : 2 ^ L < (yaa counts).length
      ·exact qay hb
      ·refine qaI ?_
       by_cases hm2 : 2 ≤ (yaa counts).length
       ·have := yeC (yaE counts) (ybX counts) (L - 1) hm2 (by rw [show L - 1 + 1 = L from by omega]; omega)
        omega
       ·have : ∀ k, (yaa counts).length ≤ (lrow (yaa counts) k).length := fun k => by
         cases k with
         | zero => exact qad _
         | succ k => rw [ygj (yaE counts)]; omega
        have := this (L - 1)
        omega
     have Hfits : Hid (∀ x ∈ lrow (yaa counts) (L - 1), x.syms.length ≤ 400000 ∧ ∀ s ∈ x.syms, s < n) := qaa fun x hx => by
      obtain ⟨f1, _, _, f4⟩ := yeG counts hg (L - 1) x hx
      have := lexp_le (show L - 1 ≤ 14 by omega)
      exact ⟨by omega, fun s hs => by have := f4 s hs; omega⟩
     have Hrl : Hid ((lrow (yaa counts) (L - 1)).length ≤ 600) := qaa (by have := yd1 (yaE counts) (L - 1); omega)
     have Htake := qaa (lbest_taken counts L)
     rw [en] at Htake
     have hp15 : (2 ^ L : Nat) ≤ 32768 := qaA (qa0 (by omega) hL.2) (by decide)
     have hmk := fun W => lmk_ints (n : Int) n rfl (by omega) W
     rw [lout_zero] at hmk
     have HF := qaa hF
     clear hr hg hga hF
     generalize yaq counts L = BL at *
     generalize lrow (yaa counts) (L - 1) = RW at *
     generalize hm0 : yaa counts = LV at *
     clear hm0
     obtain ⟨m, hmm⟩ : ∃ m, LV.length = m := ⟨_, rfl⟩
     rw [hmm] at HF hZlen hroom Htake hllen
     clear hmm
     have hpw : ((2 : Int) ^ L) = ((2 ^ L : Nat) : Int) := by simp
     by_cases hbig : 2 ^ L < m
     ·have hf := HF.out
      rw [qag hbig] at hf
      have Hf := qaa hf
      have hbi : ((2 ^ L : Nat) : Int) < (m : Int) := by omega
      generalize (2 ^ L : Nat) = PW at *
      clear hf HF hroom Htake
      go_enter func103, ntmps103
      go_wp2_with (first
       | (go_at_call 143; refine Hall.out.mono ?_; rintro e w1 ⟨rfl, hb1⟩; have Hb1 := qaa hb1; clear hb1)
       | (go_at_call 145; refine (Hleaves.out _ Hb1.out).mono ?_; rintro e w2 ⟨E, A2, c2, rfl, hc2, hp2, hq2, hb2⟩; have HP2 := qaa hp2; have HQ2 := qaa hq2; have HB2 := qaa hb2; clear hp2 hq2 hb2)
       | (go_at_call 144; refine (Hrow.out _ _ _ _ HQ2.out (hElen.out E HP2.out)).mono ?_; rintro e w3 ⟨Z, A3, c3, rfl, hc3, hp3, ho3, hq3, hb3⟩; have HZ : Hid (pth Z = LV) := qaa (Hfirst.out E Z HP2.out hp3 ho3); have hzl : (Z.length : Int) = (m : Int) := qbC Nat.cast (hZlen.out Z HZ.out); have HQ3 := qaa hq3; have HB3 := qaa hb3; clear hp3 ho3 hq3 hb3))
      go_ret2
      rw [← Hf.out]
      exact ⟨none, 0, rfl, qad _, Reads.none_, ybh Hb1.out HB2.out HB3.out⟩
     ·have hbi : ¬ ((2 ^ L : Nat) : Int) < (m : Int) := by omega
      have hf := HF.out
      rw [qae hbig] at hf
      have Hf := qaa hf
      obtain ⟨t, ht⟩ : ∃ t, max (2 * m - 2) m = t := ⟨_, rfl⟩
      have htR : t ≤ RW.length := by
       rcases hroom with h | h
       ·exact absurd h hbig
       ·omega
      have hrl := Hrl.out
      have hti : (t : Int) ≤ 600 := by omega
      rw [ht] at Htake
      generalize (2 ^ L : Nat) = PW at *
      clear hf HF hbig
      by_cases hm2 : 2 ≤ m
      ·skip
       have zt : 2 * (m : Int) - 2 = (t : Int) := by omega
       have zt2 : ¬ (t : Int) < (m : Int) := by omega
       have zt3 : (m : Int) ≤ (t : Int) := by omega
       clear hroom
       go_enter func103, ntmps103
       go_wp2_with (first
        | (go_at_call 143; refine Hall.out.mono ?_; rintro e w1 ⟨rfl, hb1⟩; have Hb1 := qaa hb1; clear hb1)
        | (go_at_call 145; refine (Hleaves.out _ Hb1.out).mono ?_; rintro e w2 ⟨E, A2, c2, rfl, hc2, hp2, hq2, hb2⟩; have HP2 := qaa hp2; have HQ2 := qaa hq2; have HB2 := qaa hb2; clear hp2 hq2 hb2)
        | (go_at_call 144; refine (Hrow.out _ _ _ _ HQ2.out (hElen.out E HP2.out)).mono ?_; rintro e w3 ⟨Z, A3, c3, rfl, hc3, hp3, ho3, hq3, hb3⟩; have HZ : Hid (pth Z = LV) := qaa (Hfirst.out E Z HP2.out hp3 ho3); have hzl : (Z.length : Int) = (m : Int) := qbC Nat.cast (hZlen.out Z HZ.out); have HQ3 := qaa hq3; have HB3 := qaa hb3; have Hc3 := qaa hc3; clear hp3 ho3 hq3 hb3 hc3)
        | (go_at_call 146; refine (Hlast.out w3.heap.size Z A3 c3 _ HZ.out (pbest_row HQ3.out) Hc3.out (pbest_new _ _)).mono ?_; rintro e w5 ⟨Z5, A5, c5, rfl, hc5, hp5, hq5, hb5⟩; have HP5 := qaa hp5; have HQ5 := qaa hq5; have HB5 := qaa hb5; have Hc5 := qaa hc5; have htc : (t : Int) ≤ (c5 : Int) := pbest_room hp5 hc5 htR; clear hp5 hq5 hb5 hc5; rcases A5 with _ | ⟨b5, off5, sp5⟩))
       ·-- no thing at all
        have ht0 : t = 0 := pbest_none HP5.out HQ5.out htR
        subst ht0
        have hBg : Hid (Blk w5 w3.heap.size 3 (ints (lout n (lfar RW 0 0))).toArray) := qaa (yeQ n RW HB5.out)
        have hW5 : Hid (Below w.heap.size w w5) := qaa (ycl (ybh Hb1.out HB2.out HB3.out) HB5.out)
        go_loopw [10, 12, 50, 57] (fun bx sy i j wr => i = .int .i64 (0 : Int) ∧ Hid (wr = w5)) (fun _ _ i _ _ => 0)
        case atStart => exact ⟨rfl, rfl⟩
        case round =>
         obtain ⟨rfl, Hw⟩ := hrel
         have hw : w5 = wr := Hw.out.symm
         subst hw
         go_wp2
         all_goals (go_ret2; exact ycY RW n 0 BL F w5 w3.heap.size w Htake.out Hf.out hBg.out hW5.out)
       ·have Hcl := qaa fun i hi => PRow.cells HQ5.out i hi
        have hBg : Hid (Blk w5 w3.heap.size 3 (ints (lout n (lfar RW 0 0))).toArray) := qaa (yeQ n RW HB5.out)
        have hW5 : Hid (Below w.heap.size w w5) := qaa (ycl (ybh Hb1.out HB2.out HB3.out) HB5.out)
        have hgw : Hid (w.heap.size ≤ w3.heap.size) := qaa (ybh Hb1.out HB2.out HB3.out).size
        have Hth : Hid (∀ k (hk : k < RW.length), ∃ hz : k < Z5.length, Z5[k].th = RW[k]) := qaa fun k hk => pbest_th HP5.out k hk
        clear HQ5 HB5 HP5 Hc5 hmk Hb1 HB2 HB3 Hall Hleaves Hrow Hlast Hfirst hElen hZlen HQ3 HQ2 HP2 Hc3 HZ
        go_loopw [10, 12, 50, 57] (fun bx sy i j wr => ∃ k : Nat, k ≤ t ∧ i = .int .i64 k ∧ Hid (Blk wr w3.heap.size 3 (ints (lout n (lfar RW k 0))).toArray) ∧ Hid (w5.grownBy wr (some w3.heap.size))) (fun _ _ i _ _ => t - (intOf i).toNat)
        case atStart => exact ⟨0, by omega, rfl, hBg, ycT _ _⟩
        case round =>
         obtain ⟨k, hk, rfl, HB, HG⟩ := hrel
         by_cases hlt : k < t
         ·have hki : (0 : Int) ≤ (k : Int) ∧ (k : Int) < (t : Int) := by omega
          have hkR : k < RW.length := by omega
          obtain ⟨hz, hth⟩ := Hth.out k hkR
          obtain ⟨b, off, e5, hbg, hc1, hc2⟩ := Hcl.out k hz
          injection e5 with e5
          injection e5 with e6 e7 e8
          subst e6 e7 e8
          obtain ⟨x1, x2⟩ := hc1 wr HG.out
          have Hsy : Hid (∀ q (hq : q < RW[k].syms.length), ∃ bs os, Z5[k].A = some ⟨bs, os, none⟩ ∧ ∀ W', w5.grownBy W' (some w3.heap.size) → W'.cell? ⟨bs, os + q, none⟩ = some (.int .i64 (RW[k].syms[q] : Int))) := qaa fun q hq => by
           rw [← hth] at hq
           obtain ⟨bs, os, f1, f2⟩ := hc2 q hq
           exact ⟨bs, os, f1, fun W' hW => by simp only [← hth]; exact f2 W' hW⟩
          have Hfk : Hid (∀ q (hq : q < RW[k].syms.length), RW[k].syms[q] < n) := qaa fun q hq => (Hfits.out _ (qaq hkR)).2 _ (qaq hq)
          have hns : RW[k].syms.length ≤ 400000 := (Hfits.out _ (qaq hkR)).1
          have Hbnd : Hid (∀ q s, 0 ≤ lfar RW k q s ∧ lfar RW k q s ≤ 400000 * (k + 1)) := qaa fun q s => yfh RW k q s hkR fun x hx => (Hfits.out x hx).1
          rw [hth] at x2
          clear hc1 hc2
          obtain ⟨ns, hns2⟩ : ∃ ns, RW[k].syms.length = ns := ⟨_, rfl⟩
          rw [hns2] at x2 hns
          have Hns := qaa hns2
          clear hns2 hth
          generalize Z5[k].th.w = zw at *
          generalize Z5[k].c = zc at *
          generalize Z5[k].A = zA at *
          clear hz Hcl Hth
          go_wp2
          have HB1 : Hid (Blk (wr.alloc (.cells #[.int .i64 zw, .slice zA ns zc] 190)) w3.heap.size 3 (ints (lout n (lfar RW k 0))).toArray) := qaa (HB.out.alloc _)
          have HG1 : Hid (w5.grownBy (wr.alloc (.cells #[.int .i64 zw, .slice zA ns zc] 190)) (some w3.heap.size)) := qaa (ydC HG.out _)
          clear HB HG
          generalize wr.alloc (.cells #[.int .i64 zw, .slice zA ns zc] 190) = wb at *
          go_loopw [12, 57] (fun sy j W => ∃ q : Nat, q ≤ ns ∧ j = .int .i64 q ∧ Hid (Blk W w3.heap.size 3 (ints (lout n (lfar RW k q))).toArray) ∧ Hid (w5.grownBy W (some w3.heap.size))) (fun _ j _ => ns - (intOf j).toNat)
          case atStart => exact ⟨0, by omega, rfl, HB1, HG1⟩
          case round =>
           obtain ⟨q, hq, rfl, HB2, HG2⟩ := hrel
           clear HB1 HG1
           by_cases hqt : q < ns
           ·have hqi : (0 : Int) ≤ (q : Int) ∧ (q : Int) < (ns : Int) := by omega
            have hqs : q < RW[k].syms.length := by rw [Hns.out]; exact hqt
            obtain ⟨bs, os, rfl, hcs⟩ := Hsy.out q hqs
            have hsc := hcs _ HG2.out
            have hsn := Hfk.out q hqs
            obtain ⟨d1, d2, d3⟩ := yfs HB2.out hkR hqs hsn
            have hbd := Hbnd.out q RW[k].syms[q]
            have HB3 := qaa d3
            have hsi : (0 : Int) ≤ (RW[k].syms[q] : Int) ∧ (RW[k].syms[q] : Int) < (n : Int) := by omega
            clear d3 hcs
            generalize lfar RW k q RW[k].syms[q] = fv at *
            generalize RW[k].syms[q] = sy at *
            have hfv : (0 : Int) ≤ fv ∧ fv ≤ 400000000 := by omega
            go_wp2
            go_roundw
            case rel => exact ⟨q + 1, by omega, iv (by omega), HB3, qaa (ybe HG2.out (qay rfl) _)⟩
            case measure => simp only [intOf]; omega
           ·have hqi : ¬ (q : Int) < (ns : Int) := by omega
            obtain rfl : q = ns := by omega
            have hb4 := HB2.out
            rw [← Hns.out] at hb4
            have HB4 := qaa (yee hkR hb4)
            clear hb4
            go_wp2
            go_roundw
            case rel => exact ⟨k + 1, by omega, iv (by omega), HB4, HG2⟩
            case measure => simp only [intOf]; omega
         ·have hki : ¬ (k : Int) < (t : Int) := by omega
          obtain rfl : k = t := by omega
          go_wp2
          go_ret2
          exact ycY RW n k BL F _ w3.heap.size w Htake.out Hf.out HB.out (yfy hW5.out HG.out hgw.out)

      ·skip
       have zt : 2 * (m : Int) - 2 < (m : Int) := by omega
       have zt1 : 2 * (m : Int) - 2 ≤ (m : Int) := by omega
       have zt3 : (m : Int) = (t : Int) := by omega
       clear hroom
       go_enter func103, ntmps103
       go_wp2_with (first
        | (go_at_call 143; refine Hall.out.mono ?_; rintro e w1 ⟨rfl, hb1⟩; have Hb1 := qaa hb1; clear hb1)
        | (go_at_call 145; refine (Hleaves.out _ Hb1.out).mono ?_; rintro e w2 ⟨E, A2, c2, rfl, hc2, hp2, hq2, hb2⟩; have HP2 := qaa hp2; have HQ2 := qaa hq2; have HB2 := qaa hb2; clear hp2 hq2 hb2)
        | (go_at_call 144; refine (Hrow.out _ _ _ _ HQ2.out (hElen.out E HP2.out)).mono ?_; rintro e w3 ⟨Z, A3, c3, rfl, hc3, hp3, ho3, hq3, hb3⟩; have HZ : Hid (pth Z = LV) := qaa (Hfirst.out E Z HP2.out hp3 ho3); have hzl : (Z.length : Int) = (m : Int) := qbC Nat.cast (hZlen.out Z HZ.out); have HQ3 := qaa hq3; have HB3 := qaa hb3; have Hc3 := qaa hc3; clear hp3 ho3 hq3 hb3 hc3)
        | (go_at_call 146; refine (Hlast.out w3.heap.size Z A3 c3 _ HZ.out (pbest_row HQ3.out) Hc3.out (pbest_new _ _)).mono ?_; rintro e w5 ⟨Z5, A5, c5, rfl, hc5, hp5, hq5, hb5⟩; have HP5 := qaa hp5; have HQ5 := qaa hq5; have HB5 := qaa hb5; have Hc5 := qaa hc5; have htc : (t : Int) ≤ (c5 : Int) := pbest_room hp5 hc5 htR; clear hp5 hq5 hb5 hc5; rcases A5 with _ | ⟨b5, off5, sp5⟩))
       ·-- no thing at all
        have ht0 : t = 0 := pbest_none HP5.out HQ5.out htR
        subst ht0
        have hBg : Hid (Blk w5 w3.heap.size 3 (ints (lout n (lfar RW 0 0))).toArray) := qaa (yeQ n RW HB5.out)
        have hW5 : Hid (Below w.heap.size w w5) := qaa (ycl (ybh Hb1.out HB2.out HB3.out) HB5.out)
        go_loopw [10, 12, 50, 57] (fun bx sy i j wr => i = .int .i64 (0 : Int) ∧ Hid (wr = w5)) (fun _ _ i _ _ => 0)
        case atStart => exact ⟨rfl, rfl⟩
        case round =>
         obtain ⟨rfl, Hw⟩ := hrel
         have hw : w5 = wr := Hw.out.symm
         subst hw
         go_wp2
         all_goals (go_ret2; exact ycY RW n 0 BL F w5 w3.heap.size w Htake.out Hf.out hBg.out hW5.out)
       ·have Hcl := qaa fun i hi => PRow.cells HQ5.out i hi
        have hBg : Hid (Blk w5 w3.heap.size 3 (ints (lout n (lfar RW 0 0))).toArray) := qaa (yeQ n RW HB5.out)
        have hW5 : Hid (Below w.heap.size w w5) := qaa (ycl (ybh Hb1.out HB2.out HB3.out) HB5.out)
        have hgw : Hid (w.heap.size ≤ w3.heap.size) := qaa (ybh Hb1.out HB2.out HB3.out).size
        have Hth : Hid (∀ k (hk : k < RW.length), ∃ hz : k < Z5.length, Z5[k].th = RW[k]) := qaa fun k hk => pbest_th HP5.out k hk
        clear HQ5 HB5 HP5 Hc5 hmk Hb1 HB2 HB3 Hall Hleaves Hrow Hlast Hfirst hElen hZlen HQ3 HQ2 HP2 Hc3 HZ
        go_loopw [10, 12, 50, 57] (fun bx sy i j wr => ∃ k : Nat, k ≤ t ∧ i = .int .i64 k ∧ Hid (Blk wr w3.heap.size 3 (ints (lout n (lfar RW k 0))).toArray) ∧ Hid (w5.grownBy wr (some w3.heap.size))) (fun _ _ i _ _ => t - (intOf i).toNat)
        case atStart => exact ⟨0, by omega, rfl, hBg, ycT _ _⟩
        case round =>
         obtain ⟨k, hk, rfl, HB, HG⟩ := hrel
         by_cases hlt : k < t
         ·have hki : (0 : Int) ≤ (k : Int) ∧ (k : Int) < (t : Int) := by omega
          have hkR : k < RW.length := by omega
          obtain ⟨hz, hth⟩ := Hth.out k hkR
          obtain ⟨b, off, e5, hbg, hc1, hc2⟩ := Hcl.out k hz
          injection e5 with e5
          injection e5 with e6 e7 e8
          subst e6 e7 e8
          obtain ⟨x1, x2⟩ := hc1 wr HG.out
          have Hsy : Hid (∀ q (hq : q < RW[k].syms.length), ∃ bs os, Z5[k].A = some ⟨bs, os, none⟩ ∧ ∀ W', w5.grownBy W' (some w3.heap.size) → W'.cell? ⟨bs, os + q, none⟩ = some (.int .i64 (RW[k].syms[q] : Int))) := qaa fun q hq => by
           rw [← hth] at hq
           obtain ⟨bs, os, f1, f2⟩ := hc2 q hq
           exact ⟨bs, os, f1, fun W' hW => by simp only [← hth]; exact f2 W' hW⟩
          have Hfk : Hid (∀ q (hq : q < RW[k].syms.length), RW[k].syms[q] < n) := qaa fun q hq => (Hfits.out _ (qaq hkR)).2 _ (qaq hq)
          have hns : RW[k].syms.length ≤ 400000 := (Hfits.out _ (qaq hkR)).1
          have Hbnd : Hid (∀ q s, 0 ≤ lfar RW k q s ∧ lfar RW k q s ≤ 400000 * (k + 1)) := qaa fun q s => yfh RW k q s hkR fun x hx => (Hfits.out x hx).1
          rw [hth] at x2
          clear hc1 hc2
          obtain ⟨ns, hns2⟩ : ∃ ns, RW[k].syms.length = ns := ⟨_, rfl⟩
          rw [hns2] at x2 hns
          have Hns := qaa hns2
          clear hns2 hth
          generalize Z5[k].th.w = zw at *
          generalize Z5[k].c = zc at *
          generalize Z5[k].A = zA at *
          clear hz Hcl Hth
          go_wp2
          have HB1 : Hid (Blk (wr.alloc (.cells #[.int .i64 zw, .slice zA ns zc] 190)) w3.heap.size 3 (ints (lout n (lfar RW k 0))).toArray) := qaa (HB.out.alloc _)
          have HG1 : Hid (w5.grownBy (wr.alloc (.cells #[.int .i64 zw, .slice zA ns zc] 190)) (some w3.heap.size)) := qaa (ydC HG.out _)
          clear HB HG
          generalize wr.alloc (.cells #[.int .i64 zw, .slice zA ns zc] 190) = wb at *
          go_loopw [12, 57] (fun sy j W => ∃ q : Nat, q ≤ ns ∧ j = .int .i64 q ∧ Hid (Blk W w3.heap.size 3 (ints (lout n (lfar RW k q))).toArray) ∧ Hid (w5.grownBy W (some w3.heap.size))) (fun _ j _ => ns - (intOf j).toNat)
          case atStart => exact ⟨0, by omega, rfl, HB1, HG1⟩
          case round =>
           obtain ⟨q, hq, rfl, HB2, HG2⟩ := hrel
           clear HB1 HG1
           by_cases hqt : q < ns
           ·have hqi : (0 : Int) ≤ (q : Int) ∧ (q : Int) < (ns : Int) := by omega
            have hqs : q < RW[k].syms.length := by rw [Hns.out]; exact hqt
            obtain ⟨bs, os, rfl, hcs⟩ := Hsy.out q hqs
            have hsc := hcs _ HG2.out
            have hsn := Hfk.out q hqs
            obtain ⟨d1, d2, d3⟩ := yfs HB2.out hkR hqs hsn
            have hbd := Hbnd.out q RW[k].syms[q]
            have HB3 := qaa d3
            have hsi : (0 : Int) ≤ (RW[k].syms[q] : Int) ∧ (RW[k].syms[q] : Int) < (n : Int) := by omega
            clear d3 hcs
            generalize lfar RW k q RW[k].syms[q] = fv at *
            generalize RW[k].syms[q] = sy at *
            have hfv : (0 : Int) ≤ fv ∧ fv ≤ 400000000 := by omega
            go_wp2
            go_roundw
            case rel => exact ⟨q + 1, by omega, iv (by omega), HB3, qaa (ybe HG2.out (qay rfl) _)⟩
            case measure => simp only [intOf]; omega
           ·have hqi : ¬ (q : Int) < (ns : Int) := by omega
            obtain rfl : q = ns := by omega
            have hb4 := HB2.out
            rw [← Hns.out] at hb4
            have HB4 := qaa (yee hkR hb4)
            clear hb4
            go_wp2
            go_roundw
            case rel => exact ⟨k + 1, by omega, iv (by omega), HB4, HG2⟩
            case measure => simp only [intOf]; omega
         ·have hki : ¬ (k : Int) < (t : Int) := by omega
          obtain rfl : k = t := by omega
          go_wp2
          go_ret2
          exact ycY RW n k BL F _ w3.heap.size w Htake.out Hf.out HB.out (yfy hW5.out HG.out hgw.out)

  ·have hga : ycA 1000000 counts = false := by
    cases h : ycA 1000000 counts with
    | false => rfl
    | true => exact absurd h hg
   have hf : (([], 2) : List Int × Int) = F := by
    rw [← hF]
    by_cases h2 : most < 1 ∨ 15 < most
    ·rw [qag h2]
    ·rw [qae h2, qae hg]
   rw [hga] at Hall
   have Hf := qaa hf
   clear hF hf hg hga hr
   go_enter func103, ntmps103
   go_wp2_with (go_at_call 143; refine Hall.out.mono ?_; rintro e w1 ⟨rfl, hb1⟩; have Hb1 := qaa hb1; clear hb1)
   go_ret2
   rw [← Hf.out]
   exact ⟨none, 0, rfl, qad _, Reads.none_, Hb1.out⟩
end Go.Proofs.YtanjhbkbpalnaaaGreat
