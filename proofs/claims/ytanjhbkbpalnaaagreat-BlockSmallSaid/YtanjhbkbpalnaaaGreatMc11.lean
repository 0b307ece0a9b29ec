/-
 What the law of the last of these texts stands on, part 11.
-/
import Derived.Test.YtanjhbkbpalnaaaGreatMc05
import Derived.Test.YtanjhbkbpalnaaaGreatMc06
import Derived.Test.YtanjhbkbpalnaaaGreatMc08
import Derived.Lib.OwnBridge
import Derived.Shelf.SlSorted.Search
set_option maxRecDepth 100000
set_option maxHeartbeats 8000000
open Go.Proofs.Tryz
namespace Go.Proofs.YtanjhbkbpalnaaaGreat
set_option linter.unusedSimpArgs false
set_option linter.unusedVariables false
open Go.ChangeShapes Go.WideShapes Go.ChangeAt Go.RowKit Go.Joins Go.Deep Go.Shelf
open Go.Sort (SWO swp size_swp HoldsK)
structure PEl where
 th : LTh
 A : Option Addr
 c : Nat
 no : Nat
instance : Inhabited PEl := ⟨⟨⟨0, [], false⟩, none, 0, 0⟩⟩
def penc (x : PEl) : List Value := [.int .i64 x.th.w, .slice x.A x.th.syms.length x.c]
def pcf (x y : PEl) : Int := Lib.compareInt x.th.w y.th.w
def ya8 (E : List PEl) : List Value := (E.map penc).flatten
theorem ybI (x : PEl) (E : List PEl) : ya8 (x :: E) = .int .i64 x.th.w :: .slice x.A x.th.syms.length x.c :: ya8 E := rfl
theorem yeX (E E2 : List PEl) : ya8 (E ++ E2) = ya8 E ++ ya8 E2 := by simp [ya8]
theorem yfb : ∀ E : List PEl, (ya8 E).length = E.length * 2
 | [] => rfl
 | x :: E => by rw [ybI, qau, qau, yfb E, qau]; omega
theorem pcells_one : ∀ (E : List PEl), ∀ u ∈ ya8 E, u.oneCell' = true
 | [], u, h => by cases h
 | x :: E, u, h => by
  rw [ybI] at h
  simp only [qaB] at h
  rcases h with rfl | rfl | h
  ·rfl
  ·rfl
  ·exact pcells_one E u h
theorem yeM : ∀ (E : List PEl) (i : Nat) (h : i < E.length), (ya8 E)[i * 2]? = some (.int .i64 E[i].th.w) ∧ (ya8 E)[i * 2 + 1]? = some (.slice E[i].A E[i].th.syms.length E[i].c)
 | x :: E, 0, _ => ⟨rfl, rfl⟩
 | x :: E, i + 1, h => by
  obtain ⟨h1, h2⟩ := yeM E i (by simpa using h)
  rw [ybI, show (i + 1) * 2 = i * 2 + 1 + 1 from by omega]
  exact ⟨by simpa using h1, by simpa using h2⟩
theorem ydM (E : List PEl) : (Go.Sort.flatK penc 2 E.toArray).toList = ya8 E := by
 apply qc4
 intro t
 by_cases ht : t < E.length * 2
 ·have h1 : (Go.Sort.flatK penc 2 E.toArray).toList[t]? = some (Go.Sort.flatK penc 2 E.toArray)[t]! := by
   rw [Array.getElem?_toList, getElem!_pos _ t (by simpa using ht), qbU (by simpa using ht)]
  rw [h1, Go.Sort.get_flatK _ _ _ _ (by simpa using ht)]
  have hd : t / 2 < E.length := by omega
  obtain ⟨g1, g2⟩ := yeM E (t / 2) hd
  rw [get_list hd]
  rcases Nat.mod_two_eq_zero_or_one t with e | e
  ·have et : t = t / 2 * 2 := by omega
   rw [e]
   conv => rhs; rw [et]
   rw [g1]
   rfl
  ·have et : t = t / 2 * 2 + 1 := by omega
   rw [e]
   conv => rhs; rw [et]
   rw [g2]
   rfl
 ·rw [qbw (by simp; omega), qbw (by rw [yfb]; omega)]
theorem pcf_lt (x y : PEl) : ltOf pcf x y = decide (x.th.w < y.th.w) := by
 unfold ltOf pcf Lib.compareInt
 by_cases h : x.th.w < y.th.w
 ·rw [qah h]; simp [h]
 ·rw [qag h]
  split <;> simp [h]
theorem pcf_swo : SWO (ltOf pcf) where
 irrefl x := by rw [pcf_lt]; simp
 trans x y z h k := by rw [pcf_lt] at *; simp only [qch] at *; omega
 ntrans x y z h k := by rw [pcf_lt] at *; simp only [decide_eq_false_iff_not] at *; omega
theorem ygf (a : Int) (W : World) : Calls prog 207 #[.int .i64 a] W fun e w' => e = .returned (.bool false) ∧ w' = W := by
 have h : (a == a) = true := by simp
 go_enter func207, ntmps207
 go_wp2
 go_ret
 exact ⟨by simp, rfl⟩
theorem compare_any (a b : Int) (W : World) : Calls prog 201 #[.int .i64 a, .int .i64 b] W fun e w' => e = .returned (.int .i64 (Lib.compareInt a b)) ∧ w' = W := by
 obtain ⟨r, hr⟩ : ∃ r, Lib.compareInt a b = r := ⟨_, rfl⟩
 rw [hr]
 unfold Lib.compareInt at hr
 by_cases h : a < b
 ·rw [qah h] at hr
  subst hr
  go_enter func201, ntmps201
  go_wp2_with (go_at_call 207; refine (ygf _ _).mono ?_; rintro e w1 ⟨rfl, rfl⟩)
  go_ret
  exact ⟨rfl, rfl⟩
 ·rw [qag h] at hr
  by_cases h2 : b < a
  ·rw [qah h2] at hr
   subst hr
   go_enter func201, ntmps201
   go_wp2_with (go_at_call 207; refine (ygf _ _).mono ?_; rintro e w1 ⟨rfl, rfl⟩)
   go_ret
   exact ⟨rfl, rfl⟩
  ·rw [qag h2] at hr
   subst hr
   go_enter func201, ntmps201
   go_wp2_with (go_at_call 207; refine (ygf _ _).mono ?_; rintro e w1 ⟨rfl, rfl⟩)
   go_ret
   exact ⟨rfl, rfl⟩
theorem order_any (x y : PEl) (W : World) : Calls prog 184 #[.agg (penc x).toArray, .agg (penc y).toArray] W fun e w' => e = .returned (.int .i64 (pcf x y)) ∧ ∃ q os', w' = Sort.grow (W.drewN q) os' := by
 have hcon := fun W' => compare_any x.th.w y.th.w W'
 unfold pcf penc
 generalize Lib.compareInt x.th.w y.th.w = r at hcon ⊢
 generalize Value.slice x.A x.th.syms.length x.c = vx
 generalize Value.slice y.A y.th.syms.length y.c = vy
 go_enter func184, ntmps184
 go_wp2_with (go_at_call 201; refine (hcon _).mono ?_; rintro e w' ⟨rfl, rfl⟩)
 go_ret
 exact ⟨rfl, 0, _, by rw [Sort.alloc_eq_grow, Sort.alloc_eq_grow, Sort.grow_grow]; rfl⟩
theorem stable_nil (fv : Value) (w : World) : Calls prog 200 #[.slice none 0 0, .int .i64 0, fv] w fun e w' => e = .returned (.tuple #[]) ∧ w' = w := by
 have hins : ∀ W, Calls prog 205 #[.slice none 0 0, .int .i64 0, .int .i64 0, fv] W fun e w' => e = .returned (.tuple #[]) ∧ w' = W := fun W => by
  go_enter func205, ntmps205
  go_wp2
  refine wp_loop_rounds 1 ?_
  rw [rounds_succ]
  go_wp2
  go_end0
  exact ⟨rfl, rfl⟩
 go_enter func200, ntmps200
 go_wp2
 refine wp_loop_rounds 1 ?_
 rw [rounds_succ]
 go_wp2_with (go_at_call 205; refine (hins _).mono ?_; rintro e w' ⟨rfl, rfl⟩)
 refine wp_loop_rounds 1 ?_
 rw [rounds_succ]
 go_wp2
 go_end0
 exact ⟨rfl, rfl⟩
theorem below_sorted {B blk off n : Nat} {w : World} {d : Array PEl} {os : Array Obj} (hB : B ≤ blk) (hw : B ≤ w.heap.size) : Below B w (sortWorldK penc 2 w blk off n d os) := by
 refine ⟨rfl, rfl, rfl, ?_, fun k hk => ?_⟩
 ·unfold sortWorldK
  rw [Go.Sort.size_grow, Go.Sort.size_putRowK]
  exact Nat.le_add_right _ _
 ·have e : (sortWorldK penc 2 w blk off n d os).heap[k]? = (Go.Sort.putRowK penc 2 (Sort.ahead w n) blk off d).heap[k]? := by
   unfold sortWorldK Sort.grow
   rw [Array.getElem?_append_left (by rw [Go.Sort.size_putRowK]; exact qaZ hk hw)]
  rw [e]
  simp [Go.Sort.putRowK, Go.Sort.putRow, Go.Sort.mapBlock, Sort.ahead, Array.getElem?_modify, show blk ≠ k by omega]
theorem sort_any (v : Value) (n base : Nat) (E : List PEl) (w : World) (hO : w.ownsRow base 190 2 v n (ya8 E)) (hb : base ≤ w.heap.size) (hE : E.length = n) (hn : E.Pairwise (fun x y => x.no < y.no)) (hsz : n ≤ 1000000) :
  Calls prog 183 #[v, .func (.func 184) #[] #[]] w fun e w' =>
   e = .returned (.tuple #[]) ∧ ∃ (Z : List PEl) (A : Option Addr) (c : Nat), v = .slice A n c ∧ n ≤ c ∧ Z.Perm E ∧ Z.Pairwise (sord (ltOf pcf) (·.no)) ∧ Reads w' w'.heap.size 2 A n (ya8 Z) ∧ Below base w w' := by
 have ho := hO
 rcases hO.2 with ⟨rfl, rfl⟩ | ⟨g, cap, cur, rfl, hbg, hg, hnc, hcm, hcs, htake⟩
 ·have e : E = [] := qaz.1 hE
  subst e
  go_enter func183, ntmps183
  go_wp2_with (go_at_call 200; refine (stable_nil _ _).mono ?_; rintro e w' ⟨rfl, rfl⟩)
  go_end0
  exact ⟨rfl, [], none, 0, rfl, qaf _, qcx _, qb8, Reads.none_, qam _ _⟩
 ·have hlt : g < w.heap.size := Blk.lt (cs := cur) hg
  have hH : HoldsK penc 2 w g 0 E.toArray := by
   intro j hj
   have hj2 : j < n * 2 := by simpa [hE] using hj
   refine ⟨?_, by rw [qaL]; exact ho.frozenAt j⟩
   rw [qaL, ho.cellAt j hj2]
   have hj3 : j < (Go.Sort.flatK penc 2 E.toArray).size := hj
   rw [← ydM, Array.getElem?_toList, qbU hj3, getElem!_pos _ j hj3]
   rfl
  have R : RowK penc 2 w g 0 E.toArray := ⟨fun _ => rfl, fun x u hu => by simp [penc] at hu; rcases hu with rfl | rfl <;> rfl, hH, hlt⟩
  have eg : ∀ args w, (callFunc 184 args).run prog w = .ok (.enter 184 args) w := enters_of func184 (by kernel_rfl) rfl
  have hst := stable_any (no := fun x : PEl => x.no) stAll pcf_swo 184 #[] E n cap w eg (fun m os dk _ x y => order_any x y _) hE hn (by omega) R (by simpa using hE) (SWK.start hH)
  have Hfin : Hid (∀ w' (Z : List PEl), Z.Perm E → Z.Pairwise (sord (ltOf pcf) (·.no)) → SWK penc 2 w g 0 Z.toArray w' → Reads w' w'.heap.size 2 (some ⟨g, 0, none⟩) n (ya8 Z) ∧ Below base w w') := qaa fun w' Z hp ho hS => by
   have hZ : Z.length = n := by rw [hp.length_eq]; exact hE
   have hh := hS.holds hlt hH (by simp [hZ, hE])
   refine ⟨⟨by rw [yfb, hZ], fun _ => ⟨g, 0, rfl, hS.lt hlt, fun j u hu => ?_⟩⟩, ?_⟩
   ·have hj : j < (Go.Sort.flatK penc 2 Z.toArray).size := by
     rw [← ydM, Array.getElem?_toList] at hu
     exact (Array.getElem?_eq_some_iff.1 hu).1
    rw [(hh j hj).1, ← hu, ← ydM, Array.getElem?_toList, qbU hj, getElem!_pos _ j hj]
    rfl
   ·obtain ⟨q, os, rfl⟩ := hS
    exact below_sorted hbg hb
  clear ho hO hH R eg htake hcs hg hn
  go_enter func183, ntmps183
  go_wp2_with (go_at_call 200; refine hst.mono ?_; rintro e w' ⟨rfl, Z, hp, ho, hS⟩; have HS := qaa hS; clear hS)
  go_end0
  obtain ⟨f1, f2⟩ := Hfin.out _ Z hp ho HS.out
  exact ⟨rfl, Z, _, cap, rfl, hnc, hp, ho, f1, f2⟩
end Go.Proofs.YtanjhbkbpalnaaaGreat
namespace Go.Proofs.YtanjhbkbpalnaaaGreat
set_option linter.unusedSimpArgs false
set_option linter.unusedVariables false
open Go.ChangeShapes Go.WideShapes Go.ChangeAt Go.RowKit Go.Joins Go.Deep Go.Shelf
structure POk (ok : Nat → Prop) (W : World) (B : Nat) (x : PEl) : Prop where
 room : x.th.syms.length ≤ x.c
 reads : Reads W B 1 x.A x.th.syms.length (ints (lsy x.th.syms))
 ty : 0 < x.th.syms.length → ∃ b off cs, x.A = some ⟨b, off, none⟩ ∧ Blk W b 3 cs ∧ ok b
theorem POk.keep {ok : Nat → Prop} {W W' : World} {B : Nat} {x : PEl} (h : POk ok W B x) (hk : ∀ b cs, b < B → Blk W b 3 cs → W'.heap[b]? = W.heap[b]?) : POk ok W' B x := by
 refine ⟨h.room, ⟨h.reads.1, fun hp => ?_⟩, fun hp => ?_⟩
 ·obtain ⟨b, off, e, hb, hc⟩ := h.reads.2 hp
  obtain ⟨b2, off2, cs, e2, hB, hok⟩ := h.ty hp
  rw [e] at e2
  injection e2 with e2
  injection e2 with e3 e4
  subst e3
  exact ⟨b, off, e, hb, fun j u hu => (qcb (a := ⟨b, off + j, none⟩) (hk b cs hb hB)).trans (hc j u hu)⟩
 ·obtain ⟨b, off, e, hb, hc⟩ := h.reads.2 hp
  obtain ⟨b2, off2, cs, e2, hB, hok⟩ := h.ty hp
  have e3 := e
  rw [e2] at e3
  injection e3 with e3
  injection e3 with e4 e5
  subst e4
  exact ⟨b2, off2, cs, e2, (hk b2 cs hb hB).trans hB, hok⟩
theorem POk.below {ok : Nat → Prop} {W W' : World} {B : Nat} {x : PEl} (h : POk ok W B x) (hb : Below B W W') : POk ok W' B x := h.keep fun b _ hB _ => hb.block b hB
theorem POk.more {ok : Nat → Prop} {W : World} {B B' : Nat} {x : PEl} (h : POk ok W B x) (hB : B ≤ B') : POk ok W B' x := ⟨h.room, h.reads.more hB, h.ty⟩
theorem POk.drew {ok : Nat → Prop} {W : World} {B : Nat} {x : PEl} (h : POk ok W B x) : POk ok W.drew B x := h.keep fun _ _ _ _ => rfl
theorem POk.store {ok : Nat → Prop} {W : World} {B g : Nat} {x : PEl} {cs : Array Value} (h : POk ok W B x) (hg : Blk W g 190 cs) (i : Nat) (u : Value) : POk ok (W.setCell ⟨g, i, none⟩ u) B x := h.keep fun b cs2 _ hb => by
 refine Below.heap_setCell W _ u b fun e => ?_
 have e2 : b = g := e
 subst e2
 unfold Blk at hb hg
 rw [hg] at hb
 injection hb with hb
 injection hb with _ hb _
 exact absurd hb (by decide)
theorem POk.grown {ok : Nat → Prop} {W W' : World} {B base n size : Nat} {v : Value} {xs : List Value} {x : PEl} (h : POk ok W B x) (hB : B ≤ W.heap.size) (ho : W.ownsRow base 190 size v n xs) (hg : W.grownBy W' v.ownBlock) : POk ok W' B x := h.keep fun b cs hb hbl =>
 hg.block b (by omega) fun e => ya4 ho hbl (by decide) e.symm
theorem POk.ok' {ok ok' : Nat → Prop} {W : World} {B : Nat} {x : PEl} (h : POk ok W B x) (hk : ∀ b, b < B → ok' b) : POk ok' W B x := by
 refine ⟨h.room, h.reads, fun hp => ?_⟩
 obtain ⟨b, off, e, hb, hc⟩ := h.reads.2 hp
 obtain ⟨b2, off2, cs, e2, hB, _⟩ := h.ty hp
 have e3 := e
 rw [e2] at e3
 injection e3 with e3
 injection e3 with e4 e5
 subst e4
 exact ⟨b2, off2, cs, e2, hB, hk b2 hb⟩
theorem plsy_app (a b : List Nat) : ints (lsy (a ++ b)) = ints (lsy a) ++ ints (lsy b) := by simp [ints, lsy]
theorem pcat_two (A1 A2 : Option Addr) (n1 n2 c1 c2 c : Nat) (s1 s2 : List Nat) (B : Nat) (W : World) (hB : B ≤ W.heap.size) (l1 : s1.length = n1) (l2 : s2.length = n2) (hn : n1 + n2 ≤ 1000000)
  (h1 : Reads W B 1 A1 n1 (ints (lsy s1))) (h2 : Reads W B 1 A2 n2 (ints (lsy s2))) (g : Nat) (hg : Blk W g 28 #[.slice A1 n1 c1, .slice A2 n2 c2]) :
  Calls prog 208 #[.slice (some ⟨g, 0, none⟩) 2 c] W fun e w' => ∃ A' c', e = .returned (.slice A' (n1 + n2) c') ∧ (n1 + n2 ≤ c' ∧ Reads w' w'.heap.size 1 A' (n1 + n2) (ints (lsy (s1 ++ s2))) ∧ (0 < n1 + n2 → ∃ b off cs, A' = some ⟨b, off, none⟩ ∧ Blk w' b 3 cs ∧ W.heap.size ≤ b)) ∧ Below W.heap.size W w' := by
 have h := icat_any [⟨A1, n1, c1, ints (lsy s1)⟩, ⟨A2, n2, c2, ints (lsy s2)⟩] (some ⟨g, 0, none⟩) 2 c W rfl (by show n1 + (n2 + 0) ≤ _; omega) (by omega) (fun _ => ⟨g, 0, rfl, hg.lt, fun i hi => ?_⟩) (fun s hs => ?_)
 ·have es : CSum [⟨A1, n1, c1, ints (lsy s1)⟩, ⟨A2, n2, c2, ints (lsy s2)⟩] = n1 + n2 := by show n1 + (n2 + 0) = _; omega
  have ev : CAll [⟨A1, n1, c1, ints (lsy s1)⟩, ⟨A2, n2, c2, ints (lsy s2)⟩] = ints (lsy (s1 ++ s2)) := by rw [plsy_app]; simp [CAll]
  rw [es, ev] at h
  refine h.mono ?_
  rintro e w' ⟨A', c', rfl, ho, hb⟩
  obtain ⟨A2', c2', e2, hc, hr⟩ := yag ho
  injection e2 with e3 e4 e5
  subst e3 e5
  refine ⟨A', c', rfl, ⟨hc, hr, fun hp => ?_⟩, hb⟩
  rcases ho.2 with ⟨_, h0⟩ | ⟨g2, cap, cur, e6, hbg, hg2, _⟩
  ·omega
  ·injection e6 with e6 _ _
   exact ⟨g2, 0, cur, e6, hg2, hbg⟩
 ·have hi2 : i < 2 := hi
  rcases (show i = 0 ∨ i = 1 by omega) with rfl | rfl
  ·exact hg.two.1
  ·exact hg.two.2.1
 ·have h1' : ∀ l : List Int, ∀ u ∈ ints l, u.oneCell' = true := by
   intro l u hu
   obtain ⟨z, _, rfl⟩ := qbI.1 hu
   rfl
  rcases qaB.1 hs with rfl | hs
  ·exact ⟨h1.more hB, h1' _⟩
  ·rcases qaB.1 hs with rfl | hs
   ·exact ⟨h2.more hB, h1' _⟩
   ·cases hs
def WHeld (w wi : World) (a b : Int) (u v : Value) : Prop :=
 Below w.heap.size w wi ∧ w.heap.size + 1 + 1 + 1 ≤ wi.heap.size ∧ Blk wi w.heap.size 190 #[.int .i64 a, u] ∧ Blk wi (w.heap.size + 1) 190 #[.int .i64 b, v] ∧ ∃ z1 z2, Blk wi (w.heap.size + 1 + 1) 190 #[z1, z2]
section
variable {w wi w' : World} {a b : Int} {u v : Value}
abbrev LWS (w wi : World) (a b : Int) (u v : Value) : Prop := wi.cell? ⟨w.heap.size, 0, none⟩ = some (.int .i64 a) ∧ wi.cell? ⟨w.heap.size, 1, none⟩ = some u ∧ wi.cell? ⟨w.heap.size + 1, 0, none⟩ = some (.int .i64 b) ∧ wi.cell? ⟨w.heap.size + 1, 1, none⟩ = some v ∧ WHeld w wi a b u v
theorem WHeld.conds (h : WHeld w wi a b u v) : LWS w wi a b u v := ⟨h.2.2.1.two.1, h.2.2.1.two.2.1, h.2.2.2.1.two.1, h.2.2.2.1.two.2.1, h⟩
theorem WHeld.next (h : LWS w wi a b u v) (hb : Below wi.heap.size wi w') : LWS w w' a b u v := by
 obtain ⟨h1, h2, h3, h4, z1, z2, h5⟩ := h.2.2.2.2
 exact WHeld.conds ⟨h1.trans (hb.mono h1.size), qaG h2 hb.size, h3.below hb h3.lt, h4.below hb h4.lt, z1, z2, h5.below hb h5.lt⟩
theorem WHeld.drew (h : WHeld w wi a b u v) : WHeld w wi.drew a b u v := ⟨h.1.drew, h.2.1, h.2.2.1, h.2.2.2.1, h.2.2.2.2⟩
theorem WHeld.below (h : LWS w wi a b u v) : Below w.heap.size w wi := h.2.2.2.2.1
theorem WHeld.three (h : LWS w wi a b u v) (hb : Below wi.heap.size wi w') : ∃ z1 z2, w'.cell? ⟨w.heap.size + 1 + 1, 0, none⟩ = some z1 ∧ w'.cell? ⟨w.heap.size + 1 + 1, 1, none⟩ = some z2 ∧ w'.frozen? ⟨w.heap.size + 1 + 1, 0, none⟩ = false ∧ w'.frozen? ⟨w.heap.size + 1 + 1, 1, none⟩ = false ∧ Hid (Blk w' (w.heap.size + 1 + 1) 190 #[z1, z2]) := by
 obtain ⟨h1, h2, h3, h4, z1, z2, h5⟩ := h.2.2.2.2
 obtain ⟨k1, k2, k3, k4⟩ := (h5.below hb h5.lt).two
 exact ⟨z1, z2, k1, k2, k3, k4, h5.below hb h5.lt⟩
theorem blk_fourth (w : World) (X Y Z : Obj) (t : TypeId) (cs : Array Value) : Blk ((((w.alloc X).alloc Y).alloc Z).alloc (.cells cs t)).drew (w.heap.size + 1 + 1 + 1) t cs := by
 have h := Blk.new (((w.alloc X).alloc Y).alloc Z) t cs
 rw [show (((w.alloc X).alloc Y).alloc Z).heap.size = w.heap.size + 1 + 1 + 1 from by simp] at h
 exact h
theorem WHeld.grow {o : Obj} (h : LWS w wi a b u v) : LWS w (wi.alloc o) a b u v := WHeld.next h ((qam _ _).alloc (qaf _) o)
theorem WHeld.put (h : LWS w wi a b u v) (x y : Value) : LWS w ((wi.setCell ⟨w.heap.size + 1 + 1, 0, none⟩ x).setCell ⟨w.heap.size + 1 + 1, 1, none⟩ y) a b u v := by
 obtain ⟨h1, h2, h3, h4, z1, z2, h5⟩ := h.2.2.2.2
 refine WHeld.conds ⟨(h1.setCell (by simp only; omega) x).setCell (by simp only; omega) y, by simpa [World.setCell] using h2, (h3.far (by simp only; omega) x).far (by simp only; omega) y, (h4.far (by simp only; omega) x).far (by simp only; omega) y, x, y, ?_⟩
 exact (h5.set_ 0 x).set_ 1 y
theorem WHeld.start (w : World) (a b : Int) (u v z1 z2 : Value) : WHeld w (((w.alloc (.cells #[.int .i64 a, u] 190)).alloc (.cells #[.int .i64 b, v] 190)).alloc (.cells #[z1, z2] 190)) a b u v := by
 refine ⟨by go_grown, by simp, ((Blk.new w _ _).alloc _).alloc _, ?_, z1, z2, ?_⟩
 ·have h := (Blk.new (w.alloc (.cells #[.int .i64 a, u] 190)) 190 #[.int .i64 b, v]).alloc (.cells #[z1, z2] 190)
  rw [show (w.alloc (.cells #[.int .i64 a, u] 190)).heap.size = w.heap.size + 1 from by simp] at h
  exact h
 ·have h := Blk.new ((w.alloc (.cells #[.int .i64 a, u] 190)).alloc (.cells #[.int .i64 b, v] 190)) 190 #[z1, z2]
  rw [show ((w.alloc (.cells #[.int .i64 a, u] 190)).alloc (.cells #[.int .i64 b, v] 190)).heap.size = w.heap.size + 1 + 1 from by simp] at h
  exact h
end
theorem with_any (ok : Nat → Prop) (x y : PEl) (B : Nat) (w : World) (hB : B ≤ w.heap.size) (hok : ∀ b, w.heap.size ≤ b → ok b) (hx : POk ok w B x) (hy : POk ok w B y) (hn : x.th.syms.length + y.th.syms.length ≤ 1000000) (hwx : -1000000000000 ≤ x.th.w ∧ x.th.w ≤ 1000000000000) (hwy : -1000000000000 ≤ y.th.w ∧ y.th.w ≤ 1000000000000) :
  Calls prog 202 #[.agg (penc x).toArray, .agg (penc y).toArray] w fun e w' => ∃ A' c', e = .returned (.agg (penc ⟨ycd x.th y.th, A', c', 0⟩).toArray) ∧ POk ok w' w'.heap.size ⟨ycd x.th y.th, A', c', 0⟩ ∧ Below w.heap.size w w' := by
 obtain ⟨⟨a, s1, f1⟩, A1, c1, i1⟩ := x
 obtain ⟨⟨b, s2, f2⟩, A2, c2, i2⟩ := y
 simp only at hn hwx hwy
 have hx1 := hx.reads
 have hy1 := hy.reads
 simp only at hx1 hy1
 obtain ⟨n1, hn1⟩ : ∃ n1, s1.length = n1 := ⟨_, rfl⟩
 obtain ⟨n2, hn2⟩ : ∃ n2, s2.length = n2 := ⟨_, rfl⟩
 have Hcat := qaa fun (W : World) (g c : Nat) (hb : Below w.heap.size w W) (hg : Blk W g 28 #[.slice A1 n1 c1, .slice A2 n2 c2]) => pcat_two A1 A2 n1 n2 c1 c2 c s1 s2 w.heap.size W hb.size hn1 hn2 (by omega) (by rw [← hn1]; exact (hx1.more hB).below hb) (by rw [← hn2]; exact (hy1.more hB).below hb) g hg
 have hn3 : n1 + n2 ≤ 1000000 := by omega
 have Hfin : Hid (∀ W W' A' c', Below w.heap.size w W → (n1 + n2 ≤ c' ∧ Reads W' W'.heap.size 1 A' (n1 + n2) (ints (lsy (s1 ++ s2))) ∧ (0 < n1 + n2 → ∃ b off cs, A' = some ⟨b, off, none⟩ ∧ Blk W' b 3 cs ∧ W.heap.size ≤ b)) → POk ok W' W'.heap.size ⟨⟨a + b, s1 ++ s2, false⟩, A', c', 0⟩) := qaa fun W W' A' c' hW ⟨h1, h2, h3⟩ => by
  have hl : (s1 ++ s2).length = n1 + n2 := by rw [qae, hn1, hn2]
  exact ⟨by rw [hl]; exact h1, by rw [hl]; exact h2, by
   rw [hl]
   intro hp
   obtain ⟨b2, off2, cs, e2, hB2, hb2⟩ := h3 hp
   exact ⟨b2, off2, cs, e2, hB2, hok b2 (qaG hW.size hb2)⟩⟩
 unfold penc ycd
 simp only
 rw [show (s1 ++ s2).length = n1 + n2 from by rw [qae, hn1, hn2], hn1, hn2]
 clear hn1 hn2 hn hx hy hx1 hy1 hok
 have hab : IntKind.i64.wrap (a + b) = a + b := by rw [qai]; omega
 go_enter func202, ntmps202
 go_wp2
 have hH := WHeld.start w a b (.slice A1 n1 c1) (.slice A2 n2 c2) (.int .i64 0) (.slice none 0 0)
 have HH := qaa hH
 clear hH
 go_region_held3 (fun w' => w'.cell? ⟨w.heap.size, 0, none⟩ = some (.int .i64 a) ∧ w'.cell? ⟨w.heap.size, 1, none⟩ = some (.slice A1 n1 c1) ∧ w'.cell? ⟨w.heap.size + 1, 0, none⟩ = some (.int .i64 b) ∧ w'.cell? ⟨w.heap.size + 1, 1, none⟩ = some (.slice A2 n2 c2) ∧ WHeld w w' a b (.slice A1 n1 c1) (.slice A2 n2 c2))
  (first | exact WHeld.conds (WHeld.drew HH.out) | exact WHeld.grow (by assumption) | exact WHeld.put (by assumption) _ _ | exact WHeld.next (by assumption) hb1)
  (first
   | (go_at_call 208; (with_reducible refine (Hcat.out _ _ _ (WHeld.below (by assumption)) (blk_fourth _ _ _ _ _ _)).mono ?_); rintro e w1 ⟨A', c', rfl, hr, hb1⟩; have HP := qaa (Hfin.out _ _ _ _ (WHeld.below (by assumption)) hr); clear hr; obtain ⟨z1, z2, m1, m2, m3, m4, m5⟩ := WHeld.three (by assumption) hb1)
   | (go_at_call 208; (with_reducible refine (Hcat.out _ _ _ (WHeld.below (by assumption)) (Blk.new _ _ _)).mono ?_); rintro e w1 ⟨A', c', rfl, hr, hb1⟩; have HP := qaa (Hfin.out _ _ _ _ (WHeld.below (by assumption)) hr); clear hr; obtain ⟨z1, z2, m1, m2, m3, m4, m5⟩ := WHeld.three (by assumption) hb1))
 ·rename_i hS
  have hbel := WHeld.below hS
  have hB1 := (m5.out.set_ 0 (.int .i64 (a + b))).set_ 1 (.slice A' (n1 + n2) c')
  have hP1 := (HP.out.store m5.out 0 (.int .i64 (a + b))).store (m5.out.set_ 0 (.int .i64 (a + b))) 1 (.slice A' (n1 + n2) c')
  have hP2 := hP1.more (B' := ((w1.setCell ⟨w.heap.size + 1 + 1, 0, none⟩ (.int .i64 (a + b))).setCell ⟨w.heap.size + 1 + 1, 1, none⟩ (.slice A' (n1 + n2) c')).heap.size) (by simp [World.setCell])
  have hc := Blk.two (show Blk _ _ _ #[.int .i64 (a + b), .slice A' (n1 + n2) c'] from hB1)
  clear hS hB1 hP1 HP m1 m2 m3 m4 m5 hb1 HH Hfin Hcat
  have HP2 := qaa hP2
  have Hbel := qaa hbel
  clear hP2 hbel
  generalize (w1.setCell ⟨w.heap.size + 1 + 1, 0, none⟩ (.int .i64 (a + b))).setCell ⟨w.heap.size + 1 + 1, 1, none⟩ (.slice A' (n1 + n2) c') = X at *
  obtain ⟨y1, y2, y3, y4⟩ := hc
  go_wp2
  refine qaN (v := .agg #[.int .i64 (a + b), .slice A' (n1 + n2) c']) (by simp [results, results202, go_sem, y1, y2]) rfl ⟨A', c', rfl, HP2.out, Hbel.out⟩
def PRow (ok : Nat → Prop) (W : World) (B : Nat) (A : Option Addr) (n : Nat) (E : List PEl) : Prop := E.length = n ∧ Reads W B 2 A n (ya8 E) ∧ (∀ x ∈ E, POk ok W B x) ∧ LOk ok A n
section
variable {ok okx : Nat → Prop} {W W' : World} {B B' n : Nat} {A : Option Addr} {E : List PEl}
theorem PRow.below (h : PRow ok W B A n E) (hb : Below B W W') : PRow ok W' B A n E := ⟨h.1, h.2.1.below hb, fun x hx => (h.2.2.1 x hx).below hb, h.2.2.2⟩
theorem PRow.more (h : PRow ok W B A n E) (hB : B ≤ B') : PRow ok W B' A n E := ⟨h.1, h.2.1.more hB, fun x hx => (h.2.2.1 x hx).more hB, h.2.2.2⟩
theorem PRow.okto (h : PRow ok W B A n E) (hk : ∀ b, b < B → okx b) : PRow okx W B A n E := by
 refine ⟨h.1, h.2.1, fun x hx => (h.2.2.1 x hx).ok' hk, fun hp => ?_⟩
 obtain ⟨b, off, e, hb, _⟩ := h.2.1.2 hp
 exact ⟨b, off, e, hk b hb⟩
end
def pth (E : List PEl) : List LTh := E.map (·.th)
theorem lpacks_step (E : List PEl) (q : Nat) (h : 2 * q + 1 < E.length) : yav (pth (E.drop (2 * q))) = ycd E[2 * q].th E[2 * q + 1].th :: yav (pth (E.drop (2 * (q + 1)))) := by
 rw [qa6 (show 2 * q < E.length by omega), qa6 (show 2 * q + 1 < E.length by omega)]
 rfl
theorem lpacks_done (E : List PEl) (q : Nat) (h : ¬ 2 * q + 1 < E.length) : yav (pth (E.drop (2 * q))) = [] := by
 have hl : (E.drop (2 * q)).length ≤ 1 := by rw [qat]; omega
 generalize E.drop (2 * q) = L at hl
 match L, hl with
 | [], _ => rfl
 | [x], _ => rfl
def PFit (x : PEl) : Prop := x.th.syms.length ≤ 400000 ∧ 0 ≤ x.th.w ∧ x.th.w ≤ 100000000000
theorem yg5 : (prog.info? 190).map (fun i => (i.zero, i.size, i.bytes)) = some (some (.agg #[.int .i64 0, .slice none 0 0]), 2, 32) := by kernel_rfl
theorem pcell_row {W : World} {B n : Nat} {A : Option Addr} {E : List PEl} (h : Reads W B 2 A n (ya8 E)) (hE : E.length = n) (hn : 0 < n) : ∃ b off, A = some ⟨b, off, none⟩ ∧ b < B ∧ ∀ i (hi : i < E.length), W.cell? ⟨b, off + i * 2, none⟩ = some (.int .i64 E[i].th.w) ∧ W.cell? ⟨b, off + i * 2 + 1, none⟩ = some (.slice E[i].A E[i].th.syms.length E[i].c) := by
 obtain ⟨b, off, e, hb, hc⟩ := h.2 hn
 refine ⟨b, off, e, hb, fun i hi => ?_⟩
 obtain ⟨g1, g2⟩ := yeM E i hi
 exact ⟨hc _ _ g1, by rw [qcn]; exact hc _ _ g2⟩
theorem POk.alloc' {ok : Nat → Prop} {W : World} {B : Nat} {x : PEl} (h : POk ok W B x) (o : Obj) (hB : B ≤ W.heap.size) : POk ok (W.alloc o) B x := h.below ((qam _ _).alloc hB o)
theorem pone_two {a : Int} {A : Option Addr} {n c : Nat} : ∀ u ∈ [Value.int .i64 a, Value.slice A n c], u.oneCell' = true := by
 intro u hu
 simp only [qaB, List.not_mem_nil, or_false] at hu
 rcases hu with rfl | rfl <;> rfl
theorem pafter {w wr w5 w6 : World} {o : Obj} {e : TypeId} {size n : Nat} {v : Value} {xs : List Value} (h1 : Below w.heap.size w wr) (h2 : Below wr.heap.size wr w5) (h3 : (w5.alloc o).ownsRow w.heap.size e size v n xs) (h4 : (w5.alloc o).grownBy w6 v.ownBlock) : Below w.heap.size w w6 := by
 have h5 : Below w.heap.size w (w5.alloc o) := (h1.trans (h2.mono h1.size)).alloc (qaG h1.size h2.size) o
 exact h5.trans (yej h3 h4 h5.size)
theorem packages_any (ok : Nat → Prop) (E : List PEl) (A : Option Addr) (n c : Nat) (w : World) (hok : ∀ b, w.heap.size ≤ b → ok b) (hr : PRow ok w w.heap.size A n E) (hn : n ≤ 100000) (hf : ∀ x ∈ E, PFit x) :
  Calls prog 185 #[.slice A n c] w fun e w' => ∃ (Ep : List PEl) (A' : Option Addr) (c' : Nat), e = .returned (.slice A' Ep.length c') ∧ Ep.length ≤ c' ∧ pth Ep = yav (pth E) ∧ PRow ok w' w'.heap.size A' Ep.length Ep ∧ Below w.heap.size w w' := by
 obtain ⟨j0, hj, hy0, hy1, hy2⟩ : ∃ i0, prog.info? 190 = some i0 ∧ i0.zero = some (.agg #[.int .i64 0, .slice none 0 0]) ∧ i0.size = 2 ∧ i0.bytes = 32 := by
  have h := yg5
  cases hi : prog.info? 190 with
  | none => rw [hi] at h; cases h
  | some i0 =>
   rw [hi] at h
   simp only [qbN, qcg, qb3] at h
   exact ⟨i0, rfl, h.1, h.2.1, h.2.2⟩
 obtain ⟨hE, hrd, hok2, _⟩ := hr
 have En := qaa hE
 have Hcell : Hid (0 < n → ∃ b off, A = some ⟨b, off, none⟩ ∧ ∀ wr, Below w.heap.size w wr → ∀ i (hi : i < E.length), wr.cell? ⟨b, off + i * 2, none⟩ = some (.int .i64 E[i].th.w) ∧ wr.cell? ⟨b, off + i * 2 + 1, none⟩ = some (.slice E[i].A E[i].th.syms.length E[i].c)) := qaa fun h => by
  obtain ⟨b, off, e, hb, hc⟩ := pcell_row hrd hE h
  exact ⟨b, off, e, fun wr hw i hi => ⟨(hw.cell (p := ⟨b, off + i * 2, none⟩) hb).trans (hc i hi).1, (hw.cell (p := ⟨b, off + i * 2 + 1, none⟩) hb).trans (hc i hi).2⟩⟩
 have Hwith := qaa fun (i j : Nat) (hi : i < E.length) (hj : j < E.length) (W : World) (hW : Below w.heap.size w W) => with_any ok E[i] E[j] w.heap.size W hW.size (fun b hb => hok b (qaG hW.size hb)) ((hok2 _ (qaq hi)).below hW) ((hok2 _ (qaq hj)).below hW) (by have := (hf _ (qaq hi)).1; have := (hf _ (qaq hj)).1; omega) (by have := (hf _ (qaq hi)).2; omega) (by have := (hf _ (qaq hj)).2; omega)
 have Hstep := qaa fun q (h : 2 * q + 1 < E.length) => lpacks_step E q h
 have Hdone := qaa fun q (h : ¬ 2 * q + 1 < E.length) => lpacks_done E q h
 have Hst : Hid (pth [] ++ yav (pth (E.drop (2 * 0))) = yav (pth E)) := qaa rfl
 have hni : (n : Int) ≤ 100000 := by omega
 have Hok := qaa hok
 clear hE hrd hok hok2 hf
 generalize yav (pth E) = T at *
 go_enter func185, ntmps185
 go_wp2
 go_loopw [3, 4] (fun v i wr => ∃ (q cp : Nat) (Ap : Option Addr) (Ep : List PEl), 2 * q ≤ n ∧ Ep.length = q ∧ v = .slice Ap q cp ∧ i = .int .i64 ((2 * q + 1 : Nat) : Int) ∧ Hid (pth Ep ++ yav (pth (E.drop (2 * q))) = T) ∧ Hid (wr.ownsRow w.heap.size 190 2 (.slice Ap q cp) q (ya8 Ep)) ∧ Hid (∀ x ∈ Ep, POk ok wr wr.heap.size x) ∧ Hid (Below w.heap.size w wr)) (fun _ i _ => n + 1 - (intOf i).toNat)
 case atStart => exact ⟨0, 0, none, [], by omega, rfl, rfl, rfl, Hst, ⟨rfl, qas ⟨rfl, rfl⟩⟩, qaa (fun x hx => absurd hx (by simp)), qam _ _⟩
 case round =>
  obtain ⟨q, cp, Ap, Ep, hq, hEp, rfl, rfl, HT, HO, HP, HB⟩ := hrel
  by_cases hlt : 2 * q + 1 < n
  ·have hlz : ((2 * q + 1 : Nat) : Int) < (n : Int) := by omega
   obtain ⟨k0, hk0⟩ : ∃ k0, 2 * q = k0 := ⟨_, rfl⟩
   obtain ⟨k1, hk1⟩ : ∃ k1, 2 * q + 1 = k1 := ⟨_, rfl⟩
   have hk0l : k0 < E.length := by rw [En.out]; omega
   have hk1l : k1 < E.length := by rw [En.out]; omega
   obtain ⟨b, off, rfl, hcell⟩ := Hcell.out (by omega)
   have HS := qaa fun wr hw => (⟨(hcell wr hw k0 hk0l).1, (hcell wr hw k0 hk0l).2, (hcell wr hw k1 hk1l).1, (hcell wr hw k1 hk1l).2⟩ : _ ∧ _ ∧ _ ∧ _)
   have Hw := qaa fun W hW => Hwith.out k0 k1 hk0l hk1l W hW
   have hT := HT.out
   have hT3 : yav (pth (E.drop (2 * q))) = ycd E[k0].th E[k1].th :: yav (pth (E.drop (2 * (q + 1)))) := by subst hk0 hk1; exact Hstep.out q hk1l
   rw [hT3] at hT
   have HT2 : Hid (∀ x : PEl, x.th = ycd E[k0].th E[k1].th → pth (Ep ++ [x]) ++ yav (pth (E.drop (2 * (q + 1)))) = T) := qaa fun x hx => by rw [← hT, ← hx]; simp [pth]
   clear hcell hT hT3 HT
   generalize E[k0] = x0 at *
   generalize E[k1] = x1 at *
   rw [hk1] at hlz ⊢
   have hkz : (k1 : Int) - 1 = (k0 : Int) := by omega
   have hkw : IntKind.i64.wrap ((k1 : Int) - 1) = (k0 : Int) := by rw [qai]; omega
   have hkw0 : IntKind.i64.wrap (k0 : Int) = (k0 : Int) := by rw [qai]; omega
   have hkb : (0 : Int) ≤ (k0 : Int) ∧ (k0 : Int) < (n : Int) := by omega
   have hkb1 : (0 : Int) ≤ (k1 : Int) ∧ (k1 : Int) < (n : Int) := by omega
   obtain ⟨NS, hNS⟩ : ∃ NS, (ycd x0.th x1.th).syms.length = NS := ⟨_, rfl⟩
   have Hcall : Hid (Calls prog 202 #[.agg #[.int .i64 x0.th.w, .slice x0.A x0.th.syms.length x0.c], .agg #[.int .i64 x1.th.w, .slice x1.A x1.th.syms.length x1.c]] wr.drew fun e w' => ∃ A' c', e = .returned (.agg #[.int .i64 (x0.th.w + x1.th.w), .slice A' NS c']) ∧ Hid (POk ok w' w'.heap.size ⟨ycd x0.th x1.th, A', c', 0⟩) ∧ Below wr.heap.size wr w') := qaa (by
    refine (Hw.out wr.drew HB.out.drew).mono ?_
    rintro e w' ⟨A', c', rfl, h1, h2⟩
    exact ⟨A', c', by rw [← hNS]; rfl, h1, (qam wr.heap.size wr).drew.trans h2⟩)
   have HNS := qaa hNS
   clear Hw hNS
   generalize x0.th.syms.length = ns0 at *
   generalize x1.th.syms.length = ns1 at *
   have HOw := qaa fun (W : World) (hW : Below wr.heap.size wr W) (o : Obj) => (yah HO.out hW (qaf _)).alloc o
   have hq63 : q ≤ 100000 := by omega
   go_wp2
   have HS0 := HS.out wr.drew HB.out.drew
   go_region_held3 (fun w' => w'.cell? ⟨b, off + k0 * 2, none⟩ = some (.int .i64 x0.th.w) ∧ w'.cell? ⟨b, off + k0 * 2 + 1, none⟩ = some (.slice x0.A ns0 x0.c) ∧ w'.cell? ⟨b, off + k1 * 2, none⟩ = some (.int .i64 x1.th.w) ∧ w'.cell? ⟨b, off + k1 * 2 + 1, none⟩ = some (.slice x1.A ns1 x1.c)) (first | go_keep | exact hS1 | exact hS2 _ | exact hS3) (first
    | (go_at_call 202; refine Hcall.out.mono ?_; rintro e w5 ⟨A5, c5, rfl, HP5, hb5⟩; have Hb5 := qaa hb5; have hS1 := HS.out w5 (HB.out.trans (hb5.mono HB.out.size)); have hS2 := fun o => HS.out (w5.alloc o) ((HB.out.trans (hb5.mono HB.out.size)).alloc (qaG HB.out.size hb5.size) o); clear hb5)
    | (refine yat (by rfl) (.tmp 11) (.tmp 22) 185 (by rfl) w.heap.size 190 j0 _ 2 32 underlying185 hj hy0 hy1 hy2 rfl (by decide) (.slice Ap q cp) q (ya8 Ep) (by rfl) (HOw.out w5 Hb5.out _) (some ⟨w5.heap.size, 0, none⟩) 1 1 _ [.int .i64 (x0.th.w + x1.th.w), .slice A5 NS c5] (by rfl) (yaB w5 190 #[.int .i64 (x0.th.w + x1.th.w), .slice A5 NS c5] 2 1 rfl) pone_two (by unfold maxLen; omega) (by omega) (by rw [qay]; exact Nat.le_succ_of_le (qaG HB.out.size Hb5.out.size)) (q + 1) rfl ?_; intro A6 c6 w6 hO6 hg6 _; have HO6 := qaa hO6; have HG6 := qaa hg6; have hS3 := HS.out w6 (pafter HB.out Hb5.out (HOw.out w5 Hb5.out _) hg6); clear hO6 hg6)
    | fail)
   have HB6 := qaa (pafter HB.out Hb5.out (HOw.out w5 Hb5.out _) HG6.out)
   have HP6 : Hid (∀ x ∈ Ep ++ [⟨ycd x0.th x1.th, A5, c5, 0⟩], POk ok w6 w6.heap.size x) := qaa fun x hx => by
    have hsz := HG6.out.size
    rw [qay] at hsz
    have hs5 := Hb5.out.size
    rcases qbm.1 hx with hx | hx
    ·have h1 := ((HP.out x hx).below Hb5.out).alloc' (.cells #[.int .i64 (x0.th.w + x1.th.w), .slice A5 NS c5] 190) hs5
     exact (h1.grown (by rw [qay]; omega) (HOw.out w5 Hb5.out _) HG6.out).more (by omega)
    ·rw [qbZ.1 hx]
     have h1 := HP5.out.alloc' (.cells #[.int .i64 (x0.th.w + x1.th.w), .slice A5 NS c5] 190) (qaf _)
     exact (h1.grown (by rw [qay]; omega) (HOw.out w5 Hb5.out _) HG6.out).more (by omega)
   have HO7 : Hid (w6.ownsRow w.heap.size 190 2 (.slice A6 (q + 1) c6) (q + 1) (ya8 (Ep ++ [⟨ycd x0.th x1.th, A5, c5, 0⟩]))) := qaa (by
    rw [yeX, show ya8 [(⟨ycd x0.th x1.th, A5, c5, 0⟩ : PEl)] = [.int .i64 (x0.th.w + x1.th.w), .slice A5 NS c5] from by rw [← HNS.out]; rfl]
    exact HO6.out)
   have HT6 := qaa (HT2.out ⟨ycd x0.th x1.th, A5, c5, 0⟩ rfl)
   have hlen6 : (Ep ++ [(⟨ycd x0.th x1.th, A5, c5, 0⟩ : PEl)]).length = q + 1 := by rw [qae, hEp]; rfl
   generalize Ep ++ [(⟨ycd x0.th x1.th, A5, c5, 0⟩ : PEl)] = Ep6 at *
   clear HO6 HG6 HP5 Hb5 hS1 hS2 hS3 HS0 Hcall HOw HS HT2
   go_wp2
   go_roundw
   case rel => exact ⟨q + 1, c6, A6, Ep6, by omega, hlen6, rfl, iv (by omega), HT6.out, HO7.out, HP6.out, HB6.out⟩
   case measure => simp only [intOf]; omega
  ·have hlz : ¬ ((2 * q + 1 : Nat) : Int) < (n : Int) := by omega
   have hT := HT.out
   rw [Hdone.out q (by rw [En.out]; exact hlt), qa8] at hT
   obtain ⟨k1, hk1⟩ : ∃ k1, 2 * q + 1 = k1 := ⟨_, rfl⟩
   rw [hk1] at hlz ⊢
   obtain ⟨A7, c7, e7, hc7, hr7⟩ := yag HO.out
   injection e7 with e8 _ e9
   subst e8 e9
   have HR7 := qaa hr7
   have HTT := qaa hT
   clear hr7 hT HT
   subst hEp
   go_wp2
   go_ret
   exact ⟨Ep, _, _, rfl, hc7, HTT.out, ⟨rfl, HR7.out, HP.out, lok_own HO.out Hok.out⟩, HB.out⟩
def plv : Nat → List Int → List LTh
 | _, [] => []
 | i, c :: t => if 0 < c then ⟨c, [i], true⟩ :: plv (i + 1) t else plv (i + 1) t
theorem plv_yes (i : Nat) (c : Int) (t : List Int) (h : 0 < c) : plv i (c :: t) = ⟨c, [i], true⟩ :: plv (i + 1) t := qah h
theorem plv_no (i : Nat) (c : Int) (t : List Int) (h : ¬ 0 < c) : plv i (c :: t) = plv (i + 1) t := qag h
theorem reads_new1 (W : World) (o : Obj) (t : TypeId) (cs : Array Value) (size n : Nat) (hl : cs.size = n * size) : Reads ((W.alloc o).alloc (.cells cs t)) (W.heap.size + 1 + 1) size (some ⟨W.heap.size + 1, 0, none⟩) n cs.toList := by
 have h := yaB (W.alloc o) t cs size n hl
 rw [qay] at h
 exact h
theorem leaves_any (ok : Nat → Prop) (counts : List Int) (A : Option Addr) (n c : Nat) (w : World) (hok : ∀ b, w.heap.size ≤ b → ok b) (hr : Reads w w.heap.size 1 A n (ints counts)) (hn : n ≤ 100000) :
  Calls prog 145 #[.slice A n c] w fun e w' => ∃ (E : List PEl) (A' : Option Addr) (c' : Nat), e = .returned (.slice A' E.length c') ∧ E.length ≤ c' ∧ pth E = plv 0 counts ∧ PRow ok w' w'.heap.size A' E.length E ∧ Below w.heap.size w w' := by
 obtain ⟨j0, hj, hy0, hy1, hy2⟩ : ∃ i0, prog.info? 190 = some i0 ∧ i0.zero = some (.agg #[.int .i64 0, .slice none 0 0]) ∧ i0.size = 2 ∧ i0.bytes = 32 := by
  have h := yg5
  cases hi : prog.info? 190 with
  | none => rw [hi] at h; cases h
  | some i0 =>
   rw [hi] at h
   simp only [qbN, qcg, qb3] at h
   exact ⟨i0, rfl, h.1, h.2.1, h.2.2⟩
 have en : counts.length = n := by have := hr.1; rw [yac] at this; omega
 have En := qaa en
 have Hcell : Hid (0 < n → ∃ b off, A = some ⟨b, off, none⟩ ∧ ∀ wr, Below w.heap.size w wr → ∀ k, (hk : k < counts.length) → wr.cell? ⟨b, off + k, none⟩ = some (.int .i64 counts[k])) := qaa fun h => by
  obtain ⟨b, off, e, hb, hc⟩ := hr.2 h
  exact ⟨b, off, e, fun wr hw k hk => (hw.cell (p := ⟨b, off + k, none⟩) hb).trans (hc k _ (yao counts k hk))⟩
 have Hst : Hid (pth [] ++ plv 0 (counts.drop 0) = plv 0 counts) := qaa rfl
 have hni : (n : Int) ≤ 100000 := by omega
 have Hok := qaa hok
 clear hr en hok
 generalize plv 0 counts = T at *
 go_enter func145, ntmps145
 go_wp2
 go_loopw [3, 4, 5, 8] (fun v s x i wr => ∃ (k q cp : Nat) (Ap : Option Addr) (Ep : List PEl), k ≤ n ∧ q ≤ k ∧ Ep.length = q ∧ v = .slice Ap q cp ∧ i = .int .i64 k ∧ Hid (pth Ep ++ plv k (counts.drop k) = T) ∧ Hid (wr.ownsRow w.heap.size 190 2 (.slice Ap q cp) q (ya8 Ep)) ∧ Hid (∀ x ∈ Ep, POk ok wr wr.heap.size x) ∧ Hid (Below w.heap.size w wr)) (fun _ _ _ i _ => n - (intOf i).toNat)
 case atStart => exact ⟨0, 0, 0, none, [], by omega, by omega, rfl, rfl, rfl, Hst, ⟨rfl, qas ⟨rfl, rfl⟩⟩, qaa (fun x hx => absurd hx (by simp)), qam _ _⟩
 case round =>
  obtain ⟨k, q, cp, Ap, Ep, hk, hqk, hEp, rfl, rfl, HT, HO, HP, HB⟩ := hrel
  by_cases hlt : k < n
  ·have hki : (0 : Int) ≤ (k : Int) ∧ (k : Int) < n := by omega
   have hkl : k < counts.length := by rw [En.out]; exact hlt
   obtain ⟨b, off, rfl, hcell⟩ := Hcell.out (by omega)
   have hx := hcell wr HB.out k hkl
   have hT := HT.out
   rw [qa6 hkl] at hT
   clear hcell HT
   generalize counts[k] = x at *
   by_cases hx0 : 0 < x
   ·rw [plv_yes _ _ _ hx0] at hT
    have HT2 : Hid (∀ y : PEl, y.th = ⟨x, [k], true⟩ → pth (Ep ++ [y]) ++ plv (k + 1) (counts.drop (k + 1)) = T) := qaa fun y hy => by rw [← hT, ← hy]; simp [pth]
    clear hT
    go_wp2_with (at_builtin; refine yan _ rfl _ _ 185 rfl w.heap.size 190 j0 (.agg #[.int .i64 0, .slice none 0 0]) 2 32 underlying185 hj hy0 hy1 hy2 rfl (by decide) _ _ _ rfl ((HO.out.alloc _).alloc _) _ 1 1 _ _ rfl (reads_new1 wr (.cells #[.int .i64 (k : Int)] 3) 190 #[.int .i64 x, .slice (some ⟨wr.heap.size, 0, none⟩) 1 1] 2 1 rfl) ?c1 ?c2 ?c3 ?c4 ?_)
    case c1 => exact ⟨rfl, rfl⟩
    case c2 => unfold maxLen; omega
    case c3 => omega
    case c4 => rw [qay, qay]; have := HB.out.size; omega
    intro v6 w6 hO6 hg6 _
    have hbb : Below wr.heap.size wr ((wr.alloc (.cells #[.int .i64 (k : Int)] 3)).alloc (.cells #[.int .i64 x, .slice (some ⟨wr.heap.size, 0, none⟩) 1 1] 190)) := by go_grown
    have hO5 := (HO.out.alloc (.cells #[.int .i64 (k : Int)] 3)).alloc (.cells #[.int .i64 x, .slice (some ⟨wr.heap.size, 0, none⟩) 1 1] 190)
    have hsz := hg6.size
    simp only [qay] at hsz
    have hbase := HB.out.size
    have HB6 : Hid (Below w.heap.size w w6) := qaa ((HB.out.trans (hbb.mono hbase)).trans (yej hO5 hg6 (by simp only [qay] at *; omega)))
    have HP6 : Hid (∀ y ∈ Ep ++ [⟨⟨x, [k], true⟩, some ⟨wr.heap.size, 0, none⟩, 1, 0⟩], POk ok w6 w6.heap.size y) := qaa fun y hy => by
     rcases qbm.1 hy with hy | hy
     ·exact (((HP.out y hy).below hbb).grown (by simp only [qay] at *; omega) hO5 hg6).more (by omega)
     ·rw [qbZ.1 hy]
      have hnew : POk ok (wr.alloc (.cells #[.int .i64 (k : Int)] 3)) (wr.alloc (.cells #[.int .i64 (k : Int)] 3)).heap.size ⟨⟨x, [k], true⟩, some ⟨wr.heap.size, 0, none⟩, 1, 0⟩ :=
       ⟨qaf _, lone_reads wr k, fun _ => ⟨_, _, _, rfl, Blk.new wr _ _, Hok.out _ HB.out.size⟩⟩
      exact ((hnew.alloc' _ (qaf _)).grown (by simp only [qay] at *; omega) hO5 hg6).more (by simp only [qay] at *; omega)
    obtain ⟨A6, c6, rfl, _, _⟩ := yag hO6
    have HO7 : Hid (w6.ownsRow w.heap.size 190 2 (.slice A6 (q + 1) c6) (q + 1) (ya8 (Ep ++ [⟨⟨x, [k], true⟩, some ⟨wr.heap.size, 0, none⟩, 1, 0⟩]))) := qaa (by
     rw [yeX]
     exact hO6)
    have HT6 := qaa (HT2.out ⟨⟨x, [k], true⟩, some ⟨wr.heap.size, 0, none⟩, 1, 0⟩ rfl)
    have hlen6 : (Ep ++ [(⟨⟨x, [k], true⟩, some ⟨wr.heap.size, 0, none⟩, 1, 0⟩ : PEl)]).length = q + 1 := by rw [qae, hEp]; rfl
    generalize Ep ++ [(⟨⟨x, [k], true⟩, some ⟨wr.heap.size, 0, none⟩, 1, 0⟩ : PEl)] = Ep6 at *
    clear hO6 hg6 hO5 hbb hsz HT2
    go_wp2
    go_roundw
    case rel => exact ⟨k + 1, q + 1, c6, A6, Ep6, by omega, by omega, hlen6, rfl, iv (by omega), HT6.out, HO7.out, HP6.out, HB6.out⟩
    case measure => simp only [intOf]; omega
   ·rw [plv_no _ _ _ hx0] at hT
    have HT6 := qaa hT
    clear hT
    go_wp2
    go_roundw
    case rel => exact ⟨k + 1, q, cp, Ap, Ep, by omega, by omega, hEp, rfl, iv (by omega), HT6.out, HO.out, HP.out, HB.out⟩
    case measure => simp only [intOf]; omega
  ·obtain rfl : k = n := by omega
   have hT := HT.out
   rw [qaO (by rw [En.out]; exact qaf _)] at hT
   have hT2 : pth Ep = T := by rw [← hT]; simp [plv]
   obtain ⟨A7, c7, e7, hc7, hr7⟩ := yag HO.out
   injection e7 with e8 _ e9
   subst e8 e9
   have HR7 := qaa hr7
   have HTT := qaa hT2
   clear hr7 hT HT hT2
   subst hEp
   go_wp2
   go_ret
   exact ⟨Ep, _, _, rfl, hc7, HTT.out, ⟨rfl, HR7.out, HP.out, lok_own HO.out Hok.out⟩, HB.out⟩
def yb2 : Nat → List PEl → List PEl
 | _, [] => []
 | k, x :: t => { x with no := k } :: yb2 (k + 1) t
theorem yg7 : ∀ (E : List PEl) (k : Nat), ya8 (yb2 k E) = ya8 E
 | [], _ => rfl
 | x :: t, k => by
  show ya8 ({ x with no := k } :: yb2 (k + 1) t) = _
  rw [ybI, ybI, yg7 t (k + 1)]
theorem yfP : ∀ (E : List PEl) (k : Nat), (yb2 k E).length = E.length
 | [], _ => rfl
 | x :: t, k => by show (yb2 (k + 1) t).length + 1 = t.length + 1; rw [yfP t (k + 1)]
theorem yf0 : ∀ (E : List PEl) (k : Nat), pth (yb2 k E) = pth E
 | [], _ => rfl
 | x :: t, k => by
  show x.th :: pth (yb2 (k + 1) t) = x.th :: pth t
  rw [yf0 t (k + 1)]
theorem yfY : ∀ (E : List PEl) (k : Nat), ∀ y ∈ yb2 k E, k ≤ y.no ∧ ∃ x ∈ E, y.th = x.th ∧ y.A = x.A ∧ y.c = x.c
 | [], _, y, h => by cases h
 | x :: t, k, y, h => by
  rcases qaB.1 h with rfl | h
  ·exact ⟨qaf _, x, by simp, rfl, rfl, rfl⟩
  ·obtain ⟨h1, z, h2, h3⟩ := yfY t (k + 1) y h
   exact ⟨by omega, z, qa3 _ h2, h3⟩
theorem yfO : ∀ (E : List PEl) (k : Nat), (yb2 k E).Pairwise (fun x y => x.no < y.no)
 | [], _ => qb8
 | x :: t, k => qa7.2 ⟨fun y hy => by have := (yfY t (k + 1) y hy).1; show k < y.no; omega, yfO t (k + 1)⟩
theorem renum_app : ∀ (E E2 : List PEl) (k : Nat), yb2 k (E ++ E2) = yb2 k E ++ yb2 (k + E.length) E2
 | [], E2, k => by simp [yb2]
 | x :: t, E2, k => by
  show { x with no := k } :: yb2 (k + 1) (t ++ E2) = { x with no := k } :: (yb2 (k + 1) t ++ _)
  rw [renum_app t E2 (k + 1), show k + 1 + t.length = k + (x :: t).length from by simp; omega]
theorem pw_of_no {P : PEl → PEl → Prop} {E : List PEl} (h : E.Pairwise P) (hn : E.Pairwise (fun x y => x.no < y.no)) {x y : PEl} (hx : x ∈ E) (hy : y ∈ E) (k : x.no < y.no) : P x y := by
 obtain ⟨i, hi, rfl⟩ := qaI hx
 obtain ⟨j, hj, rfl⟩ := qaI hy
 rcases qc2 i j with e | e | e
 ·exact qbd.1 h i j hi hj e
 ·subst e; omega
 ·have := qbd.1 hn j i hj hi e
  omega
theorem pw_pth {P : LTh → LTh → Prop} (E : List PEl) : (pth E).Pairwise P ↔ E.Pairwise (fun x y => P x.th y.th) := by unfold pth; rw [List.pairwise_map]
theorem ydL : ∀ {l p R R' : List LTh}, LRow l p R → LRow l p R' → R = R'
 | l, p, [], R', h, k => by
  have h1 := h.lv
  have h2 := h.pk
  simp only [List.filter_nil] at h1 h2
  cases R' with
  | nil => rfl
  | cons y t =>
   have k1 := k.lv
   have k2 := k.pk
   rw [← h1] at k1
   rw [← h2] at k2
   cases hy : y.leaf with
   | true => rw [qaD, qah (by simpa using hy)] at k1; cases k1
   | false => rw [qaD, qah (by simp [hy])] at k2; cases k2
 | l, p, x :: t, [], h, k => by
  have h1 := k.lv
  have h2 := k.pk
  simp only [List.filter_nil] at h1 h2
  have k1 := h.lv
  have k2 := h.pk
  rw [← h1] at k1
  rw [← h2] at k2
  cases hy : x.leaf with
  | true => rw [qaD, qah (by simpa using hy)] at k1; cases k1
  | false => rw [qaD, qah (by simp [hy])] at k2; cases k2
 | l, p, x :: t, y :: u, h, k => by
  obtain ⟨o1, o2⟩ := qa7.1 h.order
  obtain ⟨q1, q2⟩ := qa7.1 k.order
  have h1 := h.lv; have h2 := h.pk; have k1 := k.lv; have k2 := k.pk
  cases hx : x.leaf with
  | true =>
   rw [qaD, qah (by simpa using hx)] at h1
   rw [qaD, qag (by simp [hx])] at h2
   cases hy : y.leaf with
   | true =>
    rw [qaD, qah (by simpa using hy)] at k1
    rw [qaD, qag (by simp [hy])] at k2
    rw [← h1] at k1
    injection k1 with e1 e2
    rw [e1, ydL (l := t.filter (fun x => x.leaf)) (p := p) ⟨o2, rfl, h2⟩ ⟨q2, e2, k2⟩]
   | false =>
    exfalso
    rw [qaD, qag (by simp [hy])] at k1
    rw [qaD, qah (by simp [hy])] at k2
    have hyt : y ∈ t := by
     have : y ∈ t.filter (fun x => !x.leaf) := by rw [h2, ← k2]; simp
     exact (qaT.1 this).1
    have hxu : x ∈ u := by
     have : x ∈ u.filter (fun x => x.leaf) := by rw [k1, ← h1]; simp
     exact (qaT.1 this).1
    have a1 := (yb3 _ _).1 (o1 y hyt)
    have a2 := (yb3 _ _).1 (q1 x hxu)
    rw [hx, hy] at a2
    simp at a2
    omega
  | false =>
   rw [qaD, qag (by simp [hx])] at h1
   rw [qaD, qah (by simp [hx])] at h2
   cases hy : y.leaf with
   | false =>
    rw [qaD, qag (by simp [hy])] at k1
    rw [qaD, qah (by simp [hy])] at k2
    rw [← h2] at k2
    injection k2 with e1 e2
    rw [e1, ydL (l := l) (p := t.filter (fun x => !x.leaf)) ⟨o2, h1, rfl⟩ ⟨q2, k1, e2⟩]
   | true =>
    exfalso
    rw [qaD, qah (by simpa using hy)] at k1
    rw [qaD, qag (by simp [hy])] at k2
    have hyt : y ∈ t := by
     have : y ∈ t.filter (fun x => x.leaf) := by rw [h1, ← k1]; simp
     exact (qaT.1 this).1
    have hxu : x ∈ u := by
     have : x ∈ u.filter (fun x => !x.leaf) := by rw [k2, ← h2]; simp
     exact (qaT.1 this).1
    have a1 := (yb3 _ _).1 (o1 y hyt)
    have a2 := (yb3 _ _).1 (q1 x hxu)
    rw [hx, hy] at a1
    simp at a1
    omega
theorem sord_w {x y : PEl} (h : sord (ltOf pcf) (·.no) x y) : x.th.w < y.th.w ∨ (x.th.w = y.th.w ∧ x.no < y.no) := by
 rcases h with h | ⟨h1, h2⟩
 ·rw [pcf_lt] at h
  exact qas (by simpa using h)
 ·rw [pcf_lt] at h1
  simp only [decide_eq_false_iff_not] at h1
  rcases Int.lt_or_eq_of_le (Int.not_lt.1 h1) with e | e
  ·exact qas e
  ·exact qaK ⟨e, h2⟩
theorem w_sord {x y : PEl} (h : x.th.w ≤ y.th.w) (hn : x.no < y.no) : sord (ltOf pcf) (·.no) x y := qaK ⟨by rw [pcf_lt]; simp; omega, hn⟩
theorem prow_next (leaves R : List LTh) (E1 E2 Z : List PEl) (hl : yaH leaves) (hr : R.Pairwise (fun a b => a.w ≤ b.w)) (h1 : pth E1 = leaves) (h2 : pth E2 = yav R) (hp : Z.Perm (yb2 0 (E1 ++ E2))) (ho : Z.Pairwise (sord (ltOf pcf) (·.no))) : pth Z = lnext R leaves := by
 have hno := yfO (E1 ++ E2) 0
 refine ydL (l := leaves) (p := yav R) ?_ (ygz hl hr)
 rw [renum_app] at hp hno
 have hn1 := yf0 E1 0
 have hn2 := yf0 E2 (0 + E1.length)
 rw [h1] at hn1
 rw [h2] at hn2
 generalize yb2 0 E1 = F1 at *
 generalize yb2 (0 + E1.length) E2 = F2 at *
 have f1 : ∀ x ∈ F1, x.th.leaf = true := fun x hx => hl.all _ (by rw [← hn1]; exact qbI.2 ⟨x, hx, rfl⟩)
 have f2 : ∀ x ∈ F2, x.th.leaf = false := fun x hx => ybS R _ (by rw [← hn2]; exact qbI.2 ⟨x, hx, rfl⟩)
 have hlf : (F1 ++ F2).Pairwise (fun x y => x.th.leaf = true ∨ y.th.leaf = false) := by
  rw [qa2]
  refine ⟨?_, ?_, fun x hx y hy => qas (f1 x hx)⟩
  ·exact qbr (fun hx _ _ => qas (f1 _ hx)) (qa2.1 hno).1
  ·exact qbr (fun _ hy _ => qaK (f2 _ hy)) (qa2.1 hno).2.1
 have hsortF : ∀ F : List PEl, F.Pairwise (fun x y => x.no < y.no) → (pth F).Pairwise (fun a b => a.w ≤ b.w) → F.Pairwise (sord (ltOf pcf) (·.no)) := fun F k1 k2 => by
  rw [pw_pth] at k2
  exact (k1.and k2).imp fun h => w_sord h.2 h.1
 refine ⟨?_, ?_, ?_⟩
 ·rw [pw_pth]
  refine qbr (fun {x y} hx hy hs => ?_) ho
  rw [yb3]
  rcases sord_w hs with e | ⟨e, e2⟩
  ·exact qas e
  ·exact qaK ⟨e, pw_of_no hlf hno (hp.subset hx) (hp.subset hy) e2⟩
 ·have e1 : (pth Z).filter (fun x => x.leaf) = pth (Z.filter (fun x => x.th.leaf)) := by unfold pth; rw [List.filter_map]; rfl
  have e2 : (F1 ++ F2).filter (fun x => x.th.leaf) = F1 := by
   rw [qbq, qc6.2 (fun x hx => by simpa using f1 x hx), qcd.2 (fun x hx => by simp [f2 x hx]), qa8]
  have hpf := hp.filter (fun x => x.th.leaf)
  rw [e2] at hpf
  rw [e1, ybB (fun x y => sord_asymm pcf_swo) hpf (ho.filter _) (hsortF F1 (qa2.1 hno).1 (by rw [hn1]; exact hl.order)), hn1]
 ·have e1 : (pth Z).filter (fun x => !x.leaf) = pth (Z.filter (fun x => !x.th.leaf)) := by unfold pth; rw [List.filter_map]; rfl
  have e2 : (F1 ++ F2).filter (fun x => !x.th.leaf) = F2 := by
   rw [qbq, qcd.2 (fun x hx => by simp [f1 x hx]), qc6.2 (fun x hx => by simp [f2 x hx]), qaS]
  have hpf := hp.filter (fun x => !x.th.leaf)
  rw [e2] at hpf
  rw [e1, ybB (fun x y => sord_asymm pcf_swo) hpf (ho.filter _) (hsortF F2 (qa2.1 hno).2.1 (by rw [hn2]; exact yea (ycK R hr))), hn2]
def fkey (x : LTh) : Nat := x.syms.headD 0
def ordF (a b : LTh) : Prop := a.w < b.w ∨ (a.w = b.w ∧ fkey a < fkey b)
theorem lput_perm (x : LTh) (R : List LTh) : (lput R x).Perm (R ++ [x]) := by
 obtain ⟨r1, r2, h1, h2, _, _⟩ := ybh x R
 rw [h2, h1, qak]
 exact qct r1 (List.perm_append_comm (l₁ := [x]))
theorem ydE : ∀ (l : List Int) (i : Nat) (out : List LTh), (ybo i l out).Perm (out ++ plv i l)
 | [], i, out => by simp [ybo, plv]
 | c :: t, i, out => by
  by_cases h : 0 < c
  ·rw [lfirst_yes _ _ _ _ h, plv_yes _ _ _ h]
   refine (ydE t (i + 1) _).trans ?_
   refine (List.Perm.append_right _ (lput_perm _ _)).trans ?_
   simp
  ·rw [lfirst_no _ _ _ _ h, plv_no _ _ _ h]
   exact ydE t (i + 1) out
theorem yff : ∀ (l : List Int) (i : Nat) (out : List LTh), out.Pairwise ordF → (∀ x ∈ out, x.leaf = true ∧ fkey x < i) → (ybo i l out).Pairwise ordF
 | [], i, out, h, _ => h
 | c :: t, i, out, h, hk => by
  by_cases h0 : 0 < c
  ·rw [lfirst_yes _ _ _ _ h0]
   obtain ⟨r1, r2, h1, h2, h3, h4⟩ := ybh ⟨c, [i], true⟩ out
   refine yff t (i + 1) _ ?_ fun x hx => ?_
   ·rw [h2]
    rw [h1] at h
    obtain ⟨o1, o2, o3⟩ := qa2.1 h
    have hr2 : ∀ z ∈ r2, c < z.w := by
     intro z hz
     cases hr : r2 with
     | nil => rw [hr] at hz; cases hz
     | cons y u =>
      have hy := h4 y u hr
      have hyl := (hk y (by rw [h1, hr]; simp)).1
      have hyw : c < y.w := by
       have hn : ¬ lle y ⟨c, [i], true⟩ = true := by rw [hy]; decide
       rw [yb3] at hn
       rcases Int.lt_or_le c y.w with e | e
       ·exact e
       ·exfalso
        apply hn
        rcases Int.lt_or_eq_of_le e with e | e
        ·exact qas e
        ·exact qaK ⟨e, qas hyl⟩
      rw [hr] at hz o2
      rcases qaB.1 hz with rfl | hz
      ·exact hyw
      ·rcases (qa7.1 o2).1 z hz with e | ⟨e, _⟩ <;> omega
    rw [qa2]
    refine ⟨o1, qa7.2 ⟨fun z hz => qas (hr2 z hz), o2⟩, ?_⟩
    intro a ha b hb
    rcases qaB.1 hb with rfl | hb
    ·have hle := lle_w (h3 a ha)
     have hka := (hk a (by rw [h1]; simp [ha])).2
     rcases Int.lt_or_eq_of_le hle with e | e
     ·exact qas e
     ·exact qaK ⟨e, hka⟩
    ·exact o3 a ha b hb
   ·rcases (yeo _ _ _).1 hx with rfl | hx
    ·exact ⟨rfl, by show i < i + 1; omega⟩
    ·have := hk x hx; exact ⟨this.1, by omega⟩
  ·rw [lfirst_no _ _ _ _ h0]
   exact yff t (i + 1) out h fun x hx => ⟨(hk x hx).1, by have := (hk x hx).2; omega⟩
theorem plv_key : ∀ (l : List Int) (i : Nat), (plv i l).Pairwise (fun a b => fkey a < fkey b) ∧ ∀ x ∈ plv i l, i ≤ fkey x
 | [], i => ⟨qb8, fun x h => by cases h⟩
 | c :: t, i => by
  obtain ⟨h1, h2⟩ := plv_key t (i + 1)
  by_cases h : 0 < c
  ·rw [plv_yes _ _ _ h]
   refine ⟨qa7.2 ⟨fun y hy => by have := h2 y hy; show i < fkey y; omega, h1⟩, fun x hx => ?_⟩
   rcases qaB.1 hx with rfl | hx
   ·exact qaf _
   ·have := h2 x hx; omega
  ·rw [plv_no _ _ _ h]
   exact ⟨h1, fun x hx => by have := h2 x hx; omega⟩
theorem first_row (counts : List Int) (E Z : List PEl) (h1 : pth E = plv 0 counts) (hp : Z.Perm (yb2 0 E)) (ho : Z.Pairwise (sord (ltOf pcf) (·.no))) : pth Z = yaa counts := by
 have hno := yfO E 0
 have hth := yf0 E 0
 rw [h1] at hth
 generalize yb2 0 E = F at *
 have hk : F.Pairwise (fun x y => fkey x.th < fkey y.th) := by
  have := (plv_key counts 0).1
  rw [← hth, pw_pth] at this
  exact this
 have p1 : (pth Z).Perm (yaa counts) := by
  have h := ydE counts 0 []
  rw [qaS, ← hth] at h
  exact (hp.map _).trans h.symm
 refine ybB (r := ordF) ?_ p1 ?_ (yff counts 0 [] qb8 fun x hx => by cases hx)
 ·intro x y h k
  rcases h with h | ⟨h, h2⟩ <;> rcases k with k | ⟨k, k2⟩ <;> omega
 ·rw [pw_pth]
  refine qbr (fun {x y} hx hy hs => ?_) ho
  rcases sord_w hs with e | ⟨e, e2⟩
  ·exact qas e
  ·exact qaK ⟨e, pw_of_no hk hno (hp.subset hx) (hp.subset hy) e2⟩
end Go.Proofs.YtanjhbkbpalnaaaGreat
