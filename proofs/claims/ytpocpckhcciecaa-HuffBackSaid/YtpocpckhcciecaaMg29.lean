/-
  What the law of the last of these texts stands on, part 29.
-/
import Derived.Test.YtpocpckhcciecaaRows
import Derived.Test.YtpocpckhcciecaaMg01
import Derived.Test.YtpocpckhcciecaaMg02
import Derived.Test.YtpocpckhcciecaaMg03
import Derived.Test.YtpocpckhcciecaaMg04
import Derived.Test.YtpocpckhcciecaaMg05
import Derived.Test.YtpocpckhcciecaaMg06
import Derived.Test.YtpocpckhcciecaaMg10
import Derived.Test.YtpocpckhcciecaaMg23
import Derived.Test.YtpocpckhcciecaaMg24
import Derived.Test.YtpocpckhcciecaaMg25
import Derived.Test.YtpocpckhcciecaaMg26
import Derived.Test.YtpocpckhcciecaaMg27
import Derived.Test.YtpocpckhcciecaaMg28
import Derived.Lib.OwnBridge
import Derived.Shelf.SlSorted.Search
import Derived.WalkKit
import Derived.WalkSpells
import Derived.WalkLawsBesides
import Derived.ProofKit
import Derived.OpenShut
import Derived.Handy
import Derived.SizedLaws
import Derived.JoinedOf
import Derived.KernelRfl
import Derived.Lib.Hide
import Derived.Lib.SmallJoins
import Derived.Deep.Slices
import Derived.Deep.Fields
import Derived.Deep.SlicePairs
import Derived.Deep.Draws
import Derived.Deep.AppendLies
import Derived.Deep.QuietTactic
import Derived.BigQuiet
import Derived.Deep.RegionHeld3
import Derived.StillTailTactics
import Derived.Laws.OwnMore
import Derived.Laws.Rows
import Derived.Below
import Derived.Carry
import Derived.WalkMore
import Derived.Laws.BytesString
import Derived.Laws.BitsLemmas
import Derived.Laws.Concat
import Derived.Shelf.Spec.SlicesGrow
import Derived.Deep.Upon
import Derived.Sort.WalkB2
import Derived.Sort.WalkB12
import Derived.Deep.LoopGhost
import Derived.Shelf.SlSortCmp.KitK
import Derived.Deep.RegionLaw
namespace Go.Proofs.Ytpocpckhcciecaa
set_option linter.unusedSimpArgs false
set_option linter.unusedVariables false
open Go.ChangeShapes Go.WideShapes Go.ChangeAt Go.RowKit Go.Joins Go.Deep Go.Shelf
open Go.Sort (SWO swp size_swp HoldsK)
/-- A thing, where its symbols lie, and its place. -/
structure PEl where
  th : LTh
  A : Option Addr
  c : Nat
  no : Nat
instance : Inhabited PEl := ⟨⟨⟨0, [], false⟩, none, 0, 0⟩⟩
def penc (x : PEl) : List Value := [.int .i64 x.th.w, .slice x.A x.th.syms.length x.c]
def pcf (x y : PEl) : Int := Lib.compareInt x.th.w y.th.w
def pcells (E : List PEl) : List Value := (E.map penc).flatten
theorem pcells_cons (x : PEl) (E : List PEl) : pcells (x :: E) = .int .i64 x.th.w :: .slice x.A x.th.syms.length x.c :: pcells E := rfl
theorem pcells_app (E E2 : List PEl) : pcells (E ++ E2) = pcells E ++ pcells E2 := by simp [pcells]
theorem pcells_len : ∀ E : List PEl, (pcells E).length = E.length * 2
  | [] => rfl
  | x :: E => by rw [pcells_cons, List.length_cons, List.length_cons, pcells_len E, List.length_cons]; omega
theorem pcells_one : ∀ (E : List PEl), ∀ u ∈ pcells E, u.oneCell' = true
  | [], u, h => by cases h
  | x :: E, u, h => by
    rw [pcells_cons] at h
    simp only [List.mem_cons] at h
    rcases h with rfl | rfl | h
    · rfl
    · rfl
    · exact pcells_one E u h
theorem pcells_get : ∀ (E : List PEl) (i : Nat) (h : i < E.length), (pcells E)[i * 2]? = some (.int .i64 E[i].th.w) ∧ (pcells E)[i * 2 + 1]? = some (.slice E[i].A E[i].th.syms.length E[i].c)
  | x :: E, 0, _ => ⟨rfl, rfl⟩
  | x :: E, i + 1, h => by
    obtain ⟨h1, h2⟩ := pcells_get E i (by simpa using h)
    rw [pcells_cons, show (i + 1) * 2 = i * 2 + 1 + 1 from by omega]
    exact ⟨by simpa using h1, by simpa using h2⟩
theorem pcells_flat (E : List PEl) : (Go.Sort.flatK penc 2 E.toArray).toList = pcells E := by
  apply List.ext_getElem?
  intro t
  by_cases ht : t < E.length * 2
  · have h1 : (Go.Sort.flatK penc 2 E.toArray).toList[t]? = some (Go.Sort.flatK penc 2 E.toArray)[t]! := by
      rw [Array.getElem?_toList, getElem!_pos _ t (by simpa using ht), Array.getElem?_eq_getElem (by simpa using ht)]
    rw [h1, Go.Sort.get_flatK _ _ _ _ (by simpa using ht)]
    have hd : t / 2 < E.length := by omega
    obtain ⟨g1, g2⟩ := pcells_get E (t / 2) hd
    rw [get_list hd]
    rcases Nat.mod_two_eq_zero_or_one t with e | e
    · have et : t = t / 2 * 2 := by omega
      rw [e]
      conv => rhs; rw [et]
      rw [g1]
      rfl
    · have et : t = t / 2 * 2 + 1 := by omega
      rw [e]
      conv => rhs; rw [et]
      rw [g2]
      rfl
  · rw [List.getElem?_eq_none (by simp; omega), List.getElem?_eq_none (by rw [pcells_len]; omega)]
theorem pcf_lt (x y : PEl) : ltOf pcf x y = decide (x.th.w < y.th.w) := by
  unfold ltOf pcf Lib.compareInt
  by_cases h : x.th.w < y.th.w
  · rw [if_pos h]; simp [h]
  · rw [if_neg h]
    split <;> simp [h]
theorem pcf_swo : SWO (ltOf pcf) where
  irrefl x := by rw [pcf_lt]; simp
  trans x y z h k := by rw [pcf_lt] at *; simp only [decide_eq_true_eq] at *; omega
  ntrans x y z h k := by rw [pcf_lt] at *; simp only [decide_eq_false_iff_not] at *; omega
theorem isnan_any (a : Int) (W : World) : Calls Try.prog 89 #[.int .i64 a] W fun e w' => e = .returned (.bool false) ∧ w' = W := by
  have h : (a == a) = true := by simp
  go_enter Try.func89, Try.ntmps89
  go_wp2
  go_ret
  exact ⟨by simp, rfl⟩
theorem compare_any (a b : Int) (W : World) : Calls Try.prog 80 #[.int .i64 a, .int .i64 b] W fun e w' => e = .returned (.int .i64 (Lib.compareInt a b)) ∧ w' = W := by
  obtain ⟨r, hr⟩ : ∃ r, Lib.compareInt a b = r := ⟨_, rfl⟩
  rw [hr]
  unfold Lib.compareInt at hr
  by_cases h : a < b
  · rw [if_pos h] at hr
    subst hr
    go_enter Try.func80, Try.ntmps80
    go_wp2_with (go_at_call 89; refine (isnan_any _ _).mono ?_; rintro e w1 ⟨rfl, rfl⟩)
    go_ret
    exact ⟨rfl, rfl⟩
  · rw [if_neg h] at hr
    by_cases h2 : b < a
    · rw [if_pos h2] at hr
      subst hr
      go_enter Try.func80, Try.ntmps80
      go_wp2_with (go_at_call 89; refine (isnan_any _ _).mono ?_; rintro e w1 ⟨rfl, rfl⟩)
      go_ret
      exact ⟨rfl, rfl⟩
    · rw [if_neg h2] at hr
      subst hr
      go_enter Try.func80, Try.ntmps80
      go_wp2_with (go_at_call 89; refine (isnan_any _ _).mono ?_; rintro e w1 ⟨rfl, rfl⟩)
      go_ret
      exact ⟨rfl, rfl⟩
theorem order_any (x y : PEl) (W : World) : Calls Try.prog 61 #[.agg (penc x).toArray, .agg (penc y).toArray] W fun e w' => e = .returned (.int .i64 (pcf x y)) ∧ ∃ q os', w' = Sort.grow (W.drewN q) os' := by
  have hcon := fun W' => compare_any x.th.w y.th.w W'
  unfold pcf penc
  generalize Lib.compareInt x.th.w y.th.w = r at hcon ⊢
  generalize Value.slice x.A x.th.syms.length x.c = vx
  generalize Value.slice y.A y.th.syms.length y.c = vy
  go_enter Try.func61, Try.ntmps61
  go_wp2_with (go_at_call 80; refine (hcon _).mono ?_; rintro e w' ⟨rfl, rfl⟩)
  go_ret
  exact ⟨rfl, 0, _, by rw [Sort.alloc_eq_grow, Sort.alloc_eq_grow, Sort.grow_grow]; rfl⟩
theorem stable_nil (fv : Value) (w : World) : Calls Try.prog 79 #[.slice none 0 0, .int .i64 0, fv] w fun e w' => e = .returned (.tuple #[]) ∧ w' = w := by
  have hins : ∀ W, Calls Try.prog 87 #[.slice none 0 0, .int .i64 0, .int .i64 0, fv] W fun e w' => e = .returned (.tuple #[]) ∧ w' = W := fun W => by
    go_enter Try.func87, Try.ntmps87
    go_wp2
    refine wp_loop_rounds 1 ?_
    rw [rounds_succ]
    go_wp2
    go_end0
    exact ⟨rfl, rfl⟩
  go_enter Try.func79, Try.ntmps79
  go_wp2
  refine wp_loop_rounds 1 ?_
  rw [rounds_succ]
  go_wp2_with (go_at_call 87; refine (hins _).mono ?_; rintro e w' ⟨rfl, rfl⟩)
  refine wp_loop_rounds 1 ?_
  rw [rounds_succ]
  go_wp2
  go_end0
  exact ⟨rfl, rfl⟩
theorem below_sorted {B blk off n : Nat} {w : World} {d : Array PEl} {os : Array Obj} (hB : B ≤ blk) (hw : B ≤ w.heap.size) : Below B w (sortWorldK penc 2 w blk off n d os) := by
  refine ⟨rfl, rfl, rfl, ?_, fun k hk => ?_⟩
  · unfold sortWorldK
    rw [Go.Sort.size_grow, Go.Sort.size_putRowK]
    exact Nat.le_add_right _ _
  · have e : (sortWorldK penc 2 w blk off n d os).heap[k]? = (Go.Sort.putRowK penc 2 (Sort.ahead w n) blk off d).heap[k]? := by
      unfold sortWorldK Sort.grow
      rw [Array.getElem?_append_left (by rw [Go.Sort.size_putRowK]; exact Nat.lt_of_lt_of_le hk hw)]
    rw [e]
    simp [Go.Sort.putRowK, Go.Sort.putRow, Go.Sort.mapBlock, Sort.ahead, Array.getElem?_modify, show blk ≠ k by omega]
/-- slices.SortStableFunc of a row of things by their weights. -/
theorem sort_any (v : Value) (n base : Nat) (E : List PEl) (w : World) (hO : w.ownsRow base 65 2 v n (pcells E)) (hb : base ≤ w.heap.size) (hE : E.length = n) (hn : E.Pairwise (fun x y => x.no < y.no)) (hsz : n ≤ 1000000) :
    Calls Try.prog 60 #[v, .func (.func 61) #[] #[]] w fun e w' =>
      e = .returned (.tuple #[]) ∧ ∃ (Z : List PEl) (A : Option Addr) (c : Nat), v = .slice A n c ∧ n ≤ c ∧ Z.Perm E ∧ Z.Pairwise (sord (ltOf pcf) (·.no)) ∧ Reads w' w'.heap.size 2 A n (pcells Z) ∧ Below base w w' := by
  have ho := hO
  rcases hO.2 with ⟨rfl, rfl⟩ | ⟨g, cap, cur, rfl, hbg, hg, hnc, hcm, hcs, htake⟩
  · have e : E = [] := List.length_eq_zero_iff.1 hE
    subst e
    go_enter Try.func60, Try.ntmps60
    go_wp2_with (go_at_call 79; refine (stable_nil _ _).mono ?_; rintro e w' ⟨rfl, rfl⟩)
    go_end0
    exact ⟨rfl, [], none, 0, rfl, Nat.le_refl _, List.Perm.refl _, List.Pairwise.nil, Reads.none_, Below.refl _ _⟩
  · have hlt : g < w.heap.size := Blk.lt (cs := cur) hg
    have hH : HoldsK penc 2 w g 0 E.toArray := by
      intro j hj
      have hj2 : j < n * 2 := by simpa [hE] using hj
      refine ⟨?_, by rw [Nat.zero_add]; exact ho.frozenAt j⟩
      rw [Nat.zero_add, ho.cellAt j hj2]
      have hj3 : j < (Go.Sort.flatK penc 2 E.toArray).size := hj
      rw [← pcells_flat, Array.getElem?_toList, Array.getElem?_eq_getElem hj3, getElem!_pos _ j hj3]
      rfl
    have R : RowK penc 2 w g 0 E.toArray := ⟨fun _ => rfl, fun x u hu => by simp [penc] at hu; rcases hu with rfl | rfl <;> rfl, hH, hlt⟩
    have eg : ∀ args w, (callFunc 61 args).run Try.prog w = .ok (.enter 61 args) w := enters_of Try.func61 (by kernel_rfl) rfl
    have hst := stable_any (no := fun x : PEl => x.no) stAll pcf_swo 61 #[] E n cap w eg (fun m os dk _ x y => order_any x y _) hE hn (by omega) R (by simpa using hE) (SWK.start hH)
    have Hfin : Hid (∀ w' (Z : List PEl), Z.Perm E → Z.Pairwise (sord (ltOf pcf) (·.no)) → SWK penc 2 w g 0 Z.toArray w' → Reads w' w'.heap.size 2 (some ⟨g, 0, none⟩) n (pcells Z) ∧ Below base w w') := Lib.hid fun w' Z hp ho hS => by
      have hZ : Z.length = n := by rw [hp.length_eq]; exact hE
      have hh := hS.holds hlt hH (by simp [hZ, hE])
      refine ⟨⟨by rw [pcells_len, hZ], fun _ => ⟨g, 0, rfl, hS.lt hlt, fun j u hu => ?_⟩⟩, ?_⟩
      · have hj : j < (Go.Sort.flatK penc 2 Z.toArray).size := by
          rw [← pcells_flat, Array.getElem?_toList] at hu
          exact (Array.getElem?_eq_some_iff.1 hu).1
        rw [(hh j hj).1, ← hu, ← pcells_flat, Array.getElem?_toList, Array.getElem?_eq_getElem hj, getElem!_pos _ j hj]
        rfl
      · obtain ⟨q, os, rfl⟩ := hS
        exact below_sorted hbg hb
    clear ho hO hH R eg htake hcs hg hn
    go_enter Try.func60, Try.ntmps60
    go_wp2_with (go_at_call 79; refine hst.mono ?_; rintro e w' ⟨rfl, Z, hp, ho, hS⟩; have HS := Lib.hid hS; clear hS)
    go_end0
    obtain ⟨f1, f2⟩ := Hfin.out _ Z hp ho HS.out
    exact ⟨rfl, Z, _, cap, rfl, hnc, hp, ho, f1, f2⟩
end Go.Proofs.Ytpocpckhcciecaa
namespace Go.Proofs.Ytpocpckhcciecaa
set_option linter.unusedSimpArgs false
set_option linter.unusedVariables false
open Go.ChangeShapes Go.WideShapes Go.ChangeAt Go.RowKit Go.Joins Go.Deep Go.Shelf
/-- Where a thing's symbols lie, they read so, in a block of integers. -/
structure POk (ok : Nat → Prop) (W : World) (B : Nat) (x : PEl) : Prop where
  room : x.th.syms.length ≤ x.c
  reads : Reads W B 1 x.A x.th.syms.length (ints (lsy x.th.syms))
  ty : 0 < x.th.syms.length → ∃ b off cs, x.A = some ⟨b, off, none⟩ ∧ Blk W b 3 cs ∧ ok b
/-- What no block of integers suffers. -/
theorem POk.keep {ok : Nat → Prop} {W W' : World} {B : Nat} {x : PEl} (h : POk ok W B x) (hk : ∀ b cs, b < B → Blk W b 3 cs → W'.heap[b]? = W.heap[b]?) : POk ok W' B x := by
  refine ⟨h.room, ⟨h.reads.1, fun hp => ?_⟩, fun hp => ?_⟩
  · obtain ⟨b, off, e, hb, hc⟩ := h.reads.2 hp
    obtain ⟨b2, off2, cs, e2, hB, hok⟩ := h.ty hp
    rw [e] at e2
    injection e2 with e2
    injection e2 with e3 e4
    subst e3
    exact ⟨b, off, e, hb, fun j u hu => (World.cell?_of_block (a := ⟨b, off + j, none⟩) (hk b cs hb hB)).trans (hc j u hu)⟩
  · obtain ⟨b, off, e, hb, hc⟩ := h.reads.2 hp
    obtain ⟨b2, off2, cs, e2, hB, hok⟩ := h.ty hp
    have e3 := e
    rw [e2] at e3
    injection e3 with e3
    injection e3 with e4 e5
    subst e4
    exact ⟨b2, off2, cs, e2, (hk b2 cs hb hB).trans hB, hok⟩
theorem POk.below {ok : Nat → Prop} {W W' : World} {B : Nat} {x : PEl} (h : POk ok W B x) (hb : Below B W W') : POk ok W' B x := h.keep fun b _ hB _ => hb.block b hB
theorem POk.more {ok : Nat → Prop} {W : World} {B B' : Nat} {x : PEl} (h : POk ok W B x) (hB : B ≤ B') : POk ok W B' x := ⟨h.room, h.reads.more hB, h.ty⟩
theorem POk.drew {ok : Nat → Prop} {W : World} {B : Nat} {x : PEl} (h : POk ok W B x) : POk ok W.drew B x := h.keep fun _ _ _ _ => rfl
/-- A store into a block of things. -/
theorem POk.store {ok : Nat → Prop} {W : World} {B g : Nat} {x : PEl} {cs : Array Value} (h : POk ok W B x) (hg : Blk W g 65 cs) (i : Nat) (u : Value) : POk ok (W.setCell ⟨g, i, none⟩ u) B x := h.keep fun b cs2 _ hb => by
  refine Below.heap_setCell W _ u b fun e => ?_
  have e2 : b = g := e
  subst e2
  unfold Blk at hb hg
  rw [hg] at hb
  injection hb with hb
  injection hb with _ hb _
  exact absurd hb (by decide)
/-- An append to a row of things. -/
theorem POk.grown {ok : Nat → Prop} {W W' : World} {B base n size : Nat} {v : Value} {xs : List Value} {x : PEl} (h : POk ok W B x) (hB : B ≤ W.heap.size) (ho : W.ownsRow base 65 size v n xs) (hg : W.grownBy W' v.ownBlock) : POk ok W' B x := h.keep fun b cs hb hbl =>
  hg.block b (by omega) fun e => owns_apart ho hbl (by decide) e.symm
theorem POk.ok' {ok ok' : Nat → Prop} {W : World} {B : Nat} {x : PEl} (h : POk ok W B x) (hk : ∀ b, b < B → ok' b) : POk ok' W B x := by
  refine ⟨h.room, h.reads, fun hp => ?_⟩
  obtain ⟨b, off, e, hb, hc⟩ := h.reads.2 hp
  obtain ⟨b2, off2, cs, e2, hB, _⟩ := h.ty hp
  have e3 := e
  rw [e2] at e3
  injection e3 with e3
  injection e3 with e4 e5
  subst e4
  exact ⟨b2, off2, cs, e2, hB, hk b2 hb⟩
theorem plsy_app (a b : List Nat) : ints (lsy (a ++ b)) = ints (lsy a) ++ ints (lsy b) := by simp [ints, lsy]
/-- Two lists of integers, one behind the other. -/
theorem pcat_two (A1 A2 : Option Addr) (n1 n2 c1 c2 c : Nat) (s1 s2 : List Nat) (B : Nat) (W : World) (hB : B ≤ W.heap.size) (l1 : s1.length = n1) (l2 : s2.length = n2) (hn : n1 + n2 ≤ 1000000)
    (h1 : Reads W B 1 A1 n1 (ints (lsy s1))) (h2 : Reads W B 1 A2 n2 (ints (lsy s2))) (g : Nat) (hg : Blk W g 22 #[.slice A1 n1 c1, .slice A2 n2 c2]) :
    Calls Try.prog 90 #[.slice (some ⟨g, 0, none⟩) 2 c] W fun e w' => ∃ A' c', e = .returned (.slice A' (n1 + n2) c') ∧ (n1 + n2 ≤ c' ∧ Reads w' w'.heap.size 1 A' (n1 + n2) (ints (lsy (s1 ++ s2))) ∧ (0 < n1 + n2 → ∃ b off cs, A' = some ⟨b, off, none⟩ ∧ Blk w' b 3 cs ∧ W.heap.size ≤ b)) ∧ Below W.heap.size W w' := by
  have h := icat_any [⟨A1, n1, c1, ints (lsy s1)⟩, ⟨A2, n2, c2, ints (lsy s2)⟩] (some ⟨g, 0, none⟩) 2 c W rfl (by show n1 + (n2 + 0) ≤ _; omega) (by omega) (fun _ => ⟨g, 0, rfl, hg.lt, fun i hi => ?_⟩) (fun s hs => ?_)
  · have es : CSum [⟨A1, n1, c1, ints (lsy s1)⟩, ⟨A2, n2, c2, ints (lsy s2)⟩] = n1 + n2 := by show n1 + (n2 + 0) = _; omega
    have ev : CAll [⟨A1, n1, c1, ints (lsy s1)⟩, ⟨A2, n2, c2, ints (lsy s2)⟩] = ints (lsy (s1 ++ s2)) := by rw [plsy_app]; simp [CAll]
    rw [es, ev] at h
    refine h.mono ?_
    rintro e w' ⟨A', c', rfl, ho, hb⟩
    obtain ⟨A2', c2', e2, hc, hr⟩ := owns_cells ho
    injection e2 with e3 e4 e5
    subst e3 e5
    refine ⟨A', c', rfl, ⟨hc, hr, fun hp => ?_⟩, hb⟩
    rcases ho.2 with ⟨_, h0⟩ | ⟨g2, cap, cur, e6, hbg, hg2, _⟩
    · omega
    · injection e6 with e6 _ _
      exact ⟨g2, 0, cur, e6, hg2, hbg⟩
  · have hi2 : i < 2 := hi
    rcases (show i = 0 ∨ i = 1 by omega) with rfl | rfl
    · exact hg.two.1
    · exact hg.two.2.1
  · have h1' : ∀ l : List Int, ∀ u ∈ ints l, u.oneCell' = true := by
      intro l u hu
      obtain ⟨z, _, rfl⟩ := List.mem_map.1 hu
      rfl
    rcases List.mem_cons.1 hs with rfl | hs
    · exact ⟨h1.more hB, h1' _⟩
    · rcases List.mem_cons.1 hs with rfl | hs
      · exact ⟨h2.more hB, h1' _⟩
      · cases hs
/-- What is held while a package is made. -/
def WHeld (w wi : World) (a b : Int) (u v : Value) : Prop :=
  Below w.heap.size w wi ∧ w.heap.size + 1 + 1 + 1 ≤ wi.heap.size ∧ Blk wi w.heap.size 65 #[.int .i64 a, u] ∧ Blk wi (w.heap.size + 1) 65 #[.int .i64 b, v] ∧ ∃ z1 z2, Blk wi (w.heap.size + 1 + 1) 65 #[z1, z2]
section
variable {w wi w' : World} {a b : Int} {u v : Value}
/-- The cells that the region loads, and what is held. -/
abbrev LWS (w wi : World) (a b : Int) (u v : Value) : Prop := wi.cell? ⟨w.heap.size, 0, none⟩ = some (.int .i64 a) ∧ wi.cell? ⟨w.heap.size, 1, none⟩ = some u ∧ wi.cell? ⟨w.heap.size + 1, 0, none⟩ = some (.int .i64 b) ∧ wi.cell? ⟨w.heap.size + 1, 1, none⟩ = some v ∧ WHeld w wi a b u v
theorem WHeld.conds (h : WHeld w wi a b u v) : LWS w wi a b u v := ⟨h.2.2.1.two.1, h.2.2.1.two.2.1, h.2.2.2.1.two.1, h.2.2.2.1.two.2.1, h⟩
theorem WHeld.next (h : LWS w wi a b u v) (hb : Below wi.heap.size wi w') : LWS w w' a b u v := by
  obtain ⟨h1, h2, h3, h4, z1, z2, h5⟩ := h.2.2.2.2
  exact WHeld.conds ⟨h1.trans (hb.mono h1.size), Nat.le_trans h2 hb.size, h3.below hb h3.lt, h4.below hb h4.lt, z1, z2, h5.below hb h5.lt⟩
theorem WHeld.drew (h : WHeld w wi a b u v) : WHeld w wi.drew a b u v := ⟨h.1.drew, h.2.1, h.2.2.1, h.2.2.2.1, h.2.2.2.2⟩
theorem WHeld.below (h : LWS w wi a b u v) : Below w.heap.size w wi := h.2.2.2.2.1
theorem WHeld.three (h : LWS w wi a b u v) (hb : Below wi.heap.size wi w') : ∃ z1 z2, w'.cell? ⟨w.heap.size + 1 + 1, 0, none⟩ = some z1 ∧ w'.cell? ⟨w.heap.size + 1 + 1, 1, none⟩ = some z2 ∧ w'.frozen? ⟨w.heap.size + 1 + 1, 0, none⟩ = false ∧ w'.frozen? ⟨w.heap.size + 1 + 1, 1, none⟩ = false ∧ Hid (Blk w' (w.heap.size + 1 + 1) 65 #[z1, z2]) := by
  obtain ⟨h1, h2, h3, h4, z1, z2, h5⟩ := h.2.2.2.2
  obtain ⟨k1, k2, k3, k4⟩ := (h5.below hb h5.lt).two
  exact ⟨z1, z2, k1, k2, k3, k4, h5.below hb h5.lt⟩
theorem blk_fourth (w : World) (X Y Z : Obj) (t : TypeId) (cs : Array Value) : Blk ((((w.alloc X).alloc Y).alloc Z).alloc (.cells cs t)).drew (w.heap.size + 1 + 1 + 1) t cs := by
  have h := Blk.new (((w.alloc X).alloc Y).alloc Z) t cs
  rw [show (((w.alloc X).alloc Y).alloc Z).heap.size = w.heap.size + 1 + 1 + 1 from by simp] at h
  exact h
theorem WHeld.grow {o : Obj} (h : LWS w wi a b u v) : LWS w (wi.alloc o) a b u v := WHeld.next h ((Below.refl _ _).alloc (Nat.le_refl _) o)
theorem WHeld.put (h : LWS w wi a b u v) (x y : Value) : LWS w ((wi.setCell ⟨w.heap.size + 1 + 1, 0, none⟩ x).setCell ⟨w.heap.size + 1 + 1, 1, none⟩ y) a b u v := by
  obtain ⟨h1, h2, h3, h4, z1, z2, h5⟩ := h.2.2.2.2
  refine WHeld.conds ⟨(h1.setCell (by simp only; omega) x).setCell (by simp only; omega) y, by simpa [World.setCell] using h2, (h3.far (by simp only; omega) x).far (by simp only; omega) y, (h4.far (by simp only; omega) x).far (by simp only; omega) y, x, y, ?_⟩
  exact (h5.set_ 0 x).set_ 1 y
theorem WHeld.start (w : World) (a b : Int) (u v z1 z2 : Value) : WHeld w (((w.alloc (.cells #[.int .i64 a, u] 65)).alloc (.cells #[.int .i64 b, v] 65)).alloc (.cells #[z1, z2] 65)) a b u v := by
  refine ⟨by go_grown, by simp, ((Blk.new w _ _).alloc _).alloc _, ?_, z1, z2, ?_⟩
  · have h := (Blk.new (w.alloc (.cells #[.int .i64 a, u] 65)) 65 #[.int .i64 b, v]).alloc (.cells #[z1, z2] 65)
    rw [show (w.alloc (.cells #[.int .i64 a, u] 65)).heap.size = w.heap.size + 1 from by simp] at h
    exact h
  · have h := Blk.new ((w.alloc (.cells #[.int .i64 a, u] 65)).alloc (.cells #[.int .i64 b, v] 65)) 65 #[z1, z2]
    rw [show ((w.alloc (.cells #[.int .i64 a, u] 65)).alloc (.cells #[.int .i64 b, v] 65)).heap.size = w.heap.size + 1 + 1 from by simp] at h
    exact h
end
set_option maxRecDepth 100000 in
set_option maxHeartbeats 4000000 in
theorem with_any (ok : Nat → Prop) (x y : PEl) (B : Nat) (w : World) (hB : B ≤ w.heap.size) (hok : ∀ b, w.heap.size ≤ b → ok b) (hx : POk ok w B x) (hy : POk ok w B y) (hn : x.th.syms.length + y.th.syms.length ≤ 1000000) (hwx : -1000000000000 ≤ x.th.w ∧ x.th.w ≤ 1000000000000) (hwy : -1000000000000 ≤ y.th.w ∧ y.th.w ≤ 1000000000000) :
    Calls Try.prog 81 #[.agg (penc x).toArray, .agg (penc y).toArray] w fun e w' => ∃ A' c', e = .returned (.agg (penc ⟨lpack x.th y.th, A', c', 0⟩).toArray) ∧ POk ok w' w'.heap.size ⟨lpack x.th y.th, A', c', 0⟩ ∧ Below w.heap.size w w' := by
  obtain ⟨⟨a, s1, f1⟩, A1, c1, i1⟩ := x
  obtain ⟨⟨b, s2, f2⟩, A2, c2, i2⟩ := y
  simp only at hn hwx hwy
  have hx1 := hx.reads
  have hy1 := hy.reads
  simp only at hx1 hy1
  obtain ⟨n1, hn1⟩ : ∃ n1, s1.length = n1 := ⟨_, rfl⟩
  obtain ⟨n2, hn2⟩ : ∃ n2, s2.length = n2 := ⟨_, rfl⟩
  have Hcat := Lib.hid fun (W : World) (g c : Nat) (hb : Below w.heap.size w W) (hg : Blk W g 22 #[.slice A1 n1 c1, .slice A2 n2 c2]) => pcat_two A1 A2 n1 n2 c1 c2 c s1 s2 w.heap.size W hb.size hn1 hn2 (by omega) (by rw [← hn1]; exact (hx1.more hB).below hb) (by rw [← hn2]; exact (hy1.more hB).below hb) g hg
  have hn3 : n1 + n2 ≤ 1000000 := by omega
  have Hfin : Hid (∀ W W' A' c', Below w.heap.size w W → (n1 + n2 ≤ c' ∧ Reads W' W'.heap.size 1 A' (n1 + n2) (ints (lsy (s1 ++ s2))) ∧ (0 < n1 + n2 → ∃ b off cs, A' = some ⟨b, off, none⟩ ∧ Blk W' b 3 cs ∧ W.heap.size ≤ b)) → POk ok W' W'.heap.size ⟨⟨a + b, s1 ++ s2, false⟩, A', c', 0⟩) := Lib.hid fun W W' A' c' hW ⟨h1, h2, h3⟩ => by
    have hl : (s1 ++ s2).length = n1 + n2 := by rw [List.length_append, hn1, hn2]
    exact ⟨by rw [hl]; exact h1, by rw [hl]; exact h2, by
      rw [hl]
      intro hp
      obtain ⟨b2, off2, cs, e2, hB2, hb2⟩ := h3 hp
      exact ⟨b2, off2, cs, e2, hB2, hok b2 (Nat.le_trans hW.size hb2)⟩⟩
  unfold penc lpack
  simp only
  rw [show (s1 ++ s2).length = n1 + n2 from by rw [List.length_append, hn1, hn2], hn1, hn2]
  clear hn1 hn2 hn hx hy hx1 hy1 hok
  have hab : IntKind.i64.wrap (a + b) = a + b := by rw [IntKind.wrap_i64]; omega
  go_enter Try.func81, Try.ntmps81
  go_wp2
  have hH := WHeld.start w a b (.slice A1 n1 c1) (.slice A2 n2 c2) (.int .i64 0) (.slice none 0 0)
  have HH := Lib.hid hH
  clear hH
  go_region_held3 (fun w' => w'.cell? ⟨w.heap.size, 0, none⟩ = some (.int .i64 a) ∧ w'.cell? ⟨w.heap.size, 1, none⟩ = some (.slice A1 n1 c1) ∧ w'.cell? ⟨w.heap.size + 1, 0, none⟩ = some (.int .i64 b) ∧ w'.cell? ⟨w.heap.size + 1, 1, none⟩ = some (.slice A2 n2 c2) ∧ WHeld w w' a b (.slice A1 n1 c1) (.slice A2 n2 c2))
    (first | exact WHeld.conds (WHeld.drew HH.out) | exact WHeld.grow (by assumption) | exact WHeld.put (by assumption) _ _ | exact WHeld.next (by assumption) hb1)
    (first
      | (go_at_call 90; (with_reducible refine (Hcat.out _ _ _ (WHeld.below (by assumption)) (blk_fourth _ _ _ _ _ _)).mono ?_); rintro e w1 ⟨A', c', rfl, hr, hb1⟩; have HP := Lib.hid (Hfin.out _ _ _ _ (WHeld.below (by assumption)) hr); clear hr; obtain ⟨z1, z2, m1, m2, m3, m4, m5⟩ := WHeld.three (by assumption) hb1)
      | (go_at_call 90; (with_reducible refine (Hcat.out _ _ _ (WHeld.below (by assumption)) (Blk.new _ _ _)).mono ?_); rintro e w1 ⟨A', c', rfl, hr, hb1⟩; have HP := Lib.hid (Hfin.out _ _ _ _ (WHeld.below (by assumption)) hr); clear hr; obtain ⟨z1, z2, m1, m2, m3, m4, m5⟩ := WHeld.three (by assumption) hb1))
  · rename_i hS
    have hbel := WHeld.below hS
    have hB1 := (m5.out.set_ 0 (.int .i64 (a + b))).set_ 1 (.slice A' (n1 + n2) c')
    have hP1 := (HP.out.store m5.out 0 (.int .i64 (a + b))).store (m5.out.set_ 0 (.int .i64 (a + b))) 1 (.slice A' (n1 + n2) c')
    have hP2 := hP1.more (B' := ((w1.setCell ⟨w.heap.size + 1 + 1, 0, none⟩ (.int .i64 (a + b))).setCell ⟨w.heap.size + 1 + 1, 1, none⟩ (.slice A' (n1 + n2) c')).heap.size) (by simp [World.setCell])
    have hc := Blk.two (show Blk _ _ _ #[.int .i64 (a + b), .slice A' (n1 + n2) c'] from hB1)
    clear hS hB1 hP1 HP m1 m2 m3 m4 m5 hb1 HH Hfin Hcat
    have HP2 := Lib.hid hP2
    have Hbel := Lib.hid hbel
    clear hP2 hbel
    generalize (w1.setCell ⟨w.heap.size + 1 + 1, 0, none⟩ (.int .i64 (a + b))).setCell ⟨w.heap.size + 1 + 1, 1, none⟩ (.slice A' (n1 + n2) c') = X at *
    obtain ⟨y1, y2, y3, y4⟩ := hc
    go_wp2
    refine bodyPost_ret (v := .agg #[.int .i64 (a + b), .slice A' (n1 + n2) c']) (by simp [results, Try.results81, go_sem, y1, y2]) rfl ⟨A', c', rfl, HP2.out, Hbel.out⟩
end Go.Proofs.Ytpocpckhcciecaa
