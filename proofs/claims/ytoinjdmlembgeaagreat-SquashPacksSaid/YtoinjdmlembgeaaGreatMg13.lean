/-
 What the law of the last of these texts stands on, part 13.
-/
import Derived.Test.YtoinjdmlembgeaaGreatMg12
import Derived.OwnWalk
import Derived.Laws.IdiomStrings
namespace Go.Proofs.YtoinjdmlembgeaaGreat
set_option linter.unusedSimpArgs false
set_option linter.unusedVariables false
open Go.ChangeShapes Go.WideShapes Go.ChangeAt Go.RowKit Go.Joins Go.Deep
theorem lint_info : (Tryz.prog.info? 3).map (fun i => (i.zero, i.size, i.bytes)) = some (some (.int .i64 0), 1, 8) := by kernel_rfl
theorem lisblk {W : World} {g : Nat} {t : TypeId} {cs : Array Value} (h : Blk W g t cs) : Blk W g t cs := h
theorem lnot_own {W : World} {B n size : Nat} {e : TypeId} {v : Value} {xs : List Value} (h : W.ownsRow B e size v n xs) (k : v.ownBlock = some W.heap.size) : False := by
 have := (h.lt _ k).2
 omega
theorem lnot_blk {W : World} {B n size g : Nat} {e t : TypeId} {v : Value} {xs : List Value} {cs : Array Value} (h : W.ownsRow B e size v n xs) (hb : Blk W g t cs) (hne : e ≠ t) : v.ownBlock ≠ some g := ya7 h hb hne
theorem lpacks_two (R : List LTh) (k : Nat) (h : k + 1 < R.length) : yas (R.drop k) = yb8 (R[k]'(by omega)) R[k + 1] :: yas (R.drop (k + 2)) := by
 rw [List.drop_eq_getElem_cons (by omega), List.drop_eq_getElem_cons h]
 rfl
theorem lpacks_few (R : List LTh) (k : Nat) (h : R.length ≤ k + 1) : yas (R.drop k) = [] := by
 have hl : (R.drop k).length ≤ 1 := by rw [List.length_drop]; omega
 cases hd : R.drop k with
 | nil => rfl
 | cons a t =>
  rw [hd] at hl
  cases t with
  | nil => rfl
  | cons b u => simp at hl
section
variable {P : Program} {op : Op} {ty : TypeId} {pos : String} {af : Array Edge} {gd : Option (Nat × Bool)} {ys : Nat → Option Bool} {a : Act} {K : Act → World → Prop} {Q : Exit → Act → World → Prop} {E : Prop}
theorem lguardD1 (d : Nat) (wr : World) {o : Obj} (h : if Region.wanted ⟨some d, op, ty, pos, af, gd⟩ ys = true then Oper.wp P ⟨some d, op, ty, pos, af, gd⟩ a (wr.alloc o).drew K Q else E) : if Region.wanted ⟨some d, op, ty, pos, af, gd⟩ ys = true then Oper.wp P ⟨some d, op, ty, pos, af, gd⟩ a (wr.alloc o).drew K Q else E := h
theorem lguardD2 (d : Nat) (wr : World) (cs : Array Value) {t : TypeId} {o : Obj} (h : if Region.wanted ⟨some d, op, ty, pos, af, gd⟩ ys = true then Oper.wp P ⟨some d, op, ty, pos, af, gd⟩ a ((wr.alloc (.cells cs t)).alloc o).drew K Q else E) : if Region.wanted ⟨some d, op, ty, pos, af, gd⟩ ys = true then Oper.wp P ⟨some d, op, ty, pos, af, gd⟩ a ((wr.alloc (.cells cs t)).alloc o).drew K Q else E := h
theorem lbd1 (wr : World) (o : Obj) : Below wr.heap.size wr (wr.alloc o).drew := yaj ((Below.refl _ _).alloc (Nat.le_refl _) o) 1
theorem lbd2 (wr : World) (o o2 : Obj) : Below wr.heap.size wr ((wr.alloc o).alloc o2).drew := yaj (((Below.refl _ _).alloc (Nat.le_refl _) o).alloc (by simp) o2) 1
theorem lblkD1 (wr : World) (t : TypeId) (cs : Array Value) : Blk (wr.alloc (.cells cs t)).drew wr.heap.size t cs := (Blk.new wr t cs).drew
theorem lblkD2 (wr : World) (o : Obj) (t : TypeId) (cs : Array Value) : Blk ((wr.alloc (.cells cs t)).alloc o).drew wr.heap.size t cs := ((Blk.new wr t cs).alloc o).drew
theorem lblkD3 (wr : World) (o : Obj) (t : TypeId) (cs : Array Value) : Blk ((wr.alloc o).alloc (.cells cs t)).drew (wr.heap.size + 1) t cs := by
 have := (Blk.new (wr.alloc o) t cs).drew
 simpa using this
end
theorem lbset {wr w2 : World} {g : Nat} (h : Below wr.heap.size wr w2) (hg : wr.heap.size ≤ g) (v0 v1 v2 : Value) : Below wr.heap.size wr (((w2.setCell ⟨g, 0, none⟩ v0).setCell ⟨g, 1, none⟩ v1).setCell ⟨g, 2, none⟩ v2) := ((h.setCell (p := ⟨g, 0, none⟩) hg v0).setCell (p := ⟨g, 1, none⟩) hg v1).setCell (p := ⟨g, 2, none⟩) hg v2
theorem lown_sets {W : World} {B n size g : Nat} {e t : TypeId} {v : Value} {xs : List Value} {cs : Array Value} (h : W.ownsRow B e size v n xs) (hb : Blk W g t cs) (hne : e ≠ t) (v0 v1 v2 : Value) : (((W.setCell ⟨g, 0, none⟩ v0).setCell ⟨g, 1, none⟩ v1).setCell ⟨g, 2, none⟩ v2).ownsRow B e size v n xs :=
 yaz h ((((Touch.refl W (fun k => k = g)).set (p := ⟨g, 0, none⟩) (Or.inl rfl) v0).set (p := ⟨g, 1, none⟩) (Or.inl rfl) v1).set (p := ⟨g, 2, none⟩) (Or.inl rfl) v2) fun k hk e => by
  subst e
  exact ya7 h hb hne hk
theorem lowns_reads {w : World} {base size n c : Nat} {e : TypeId} {A : Option Addr} {xs : List Value} (h : w.ownsRow base e size (.slice A n c) n xs) : Reads w w.heap.size size A n xs ∧ n ≤ c := by
 obtain ⟨A2, c2, e2, hc, hr⟩ := yae h
 injection e2 with e2 _ e3
 subst e2
 subst e3
 exact ⟨hr, hc⟩
theorem lsy_app (a b : List Nat) : lsy (a ++ b) = lsy a ++ lsy b := by simp [lsy]
theorem lints_app (a b : List Int) : ints (a ++ b) = ints a ++ ints b := by simp [ints]
set_option maxRecDepth 100000 in
set_option maxHeartbeats 40000000 in
theorem lref_next_any (ok : Nat → Prop) (R leaves : List LTh) (A AL : Option Addr) (n c m d : Nat) (w : World) (hn : n ≤ 10000) (hc : n ≤ c) (hm : m ≤ 10000) (hd : m ≤ d) (hsy : ∀ x ∈ R, x.syms.length ≤ 1000000 ∧ 0 ≤ x.w ∧ x.w ≤ 1000000000000) (hok : ∀ b, w.heap.size ≤ b → ok b) (hR : LHRow w w.heap.size ok A n R) (hL : LHRow w w.heap.size ok AL m leaves) :
  Calls Tryz.prog 110 #[.slice A n c, .slice AL m d] w fun e w' => ∃ A' c', e = .returned (.slice A' (yhF R leaves).length c') ∧ (yhF R leaves).length ≤ c' ∧ LHRow w' w'.heap.size ok A' (yhF R leaves).length (yhF R leaves) ∧ Below w.heap.size w w' := by
 obtain ⟨j0, hj, hy0, hy1, hy2⟩ := info_parts lint_info
 obtain ⟨en, _, xs, hrx, hmx⟩ := hR
 obtain ⟨em, _, ys, hry, hmy⟩ := hL
 have Hcell : Hid (∀ k (hk : k < R.length), ∃ b off As cs, A = some ⟨b, off, none⟩ ∧ b < w.heap.size ∧ R[k].syms.length ≤ cs ∧ Reads w w.heap.size 1 As R[k].syms.length (ints (lsy R[k].syms)) ∧ ∀ W, Below w.heap.size w W → W.cell? ⟨b, off + k * 3, none⟩ = some (.int .i64 R[k].w) ∧ W.cell? ⟨b, off + k * 3 + 1, none⟩ = some (.slice As R[k].syms.length cs)) := Lib.hid fun k hk => by
  obtain ⟨As2, cs2, h1, h2, h3, h4, h5⟩ := hmx.at k hk
  obtain ⟨b, off, e, hb, hcell⟩ := hrx.2 (by omega)
  refine ⟨b, off, As2, cs2, e, hb, h4, h5.1, fun W hW => ⟨?_, ?_⟩⟩
  ·exact (hW.cell (p := ⟨b, off + k * 3, none⟩) hb).trans (hcell _ _ h1)
  ·exact (hW.cell (p := ⟨b, off + k * 3 + 1, none⟩) hb).trans (by rw [Nat.add_assoc]; exact hcell _ _ h2)
 have HLcell : Hid (∀ k (hk : k < leaves.length), ∃ b off As cs, AL = some ⟨b, off, none⟩ ∧ b < w.heap.size ∧ leaves[k].syms.length ≤ cs ∧ (Reads w w.heap.size 1 As leaves[k].syms.length (ints (lsy leaves[k].syms)) ∧ LOk ok As leaves[k].syms.length) ∧ ∀ W, Below w.heap.size w W → W.cell? ⟨b, off + k * 3, none⟩ = some (.int .i64 leaves[k].w) ∧ W.cell? ⟨b, off + k * 3 + 1, none⟩ = some (.slice As leaves[k].syms.length cs) ∧ W.cell? ⟨b, off + k * 3 + 2, none⟩ = some (.bool leaves[k].leaf)) := Lib.hid fun k hk => by
  obtain ⟨As2, cs2, h1, h2, h3, h4, h5⟩ := hmy.at k hk
  obtain ⟨b, off, e, hb, hcell⟩ := hry.2 (by omega)
  refine ⟨b, off, As2, cs2, e, hb, h4, h5, fun W hW => ⟨?_, ?_, ?_⟩⟩
  ·exact (hW.cell (p := ⟨b, off + k * 3, none⟩) hb).trans (hcell _ _ h1)
  ·exact (hW.cell (p := ⟨b, off + k * 3 + 1, none⟩) hb).trans (by rw [Nat.add_assoc]; exact hcell _ _ h2)
  ·exact (hW.cell (p := ⟨b, off + k * 3 + 2, none⟩) hb).trans (by rw [Nat.add_assoc]; exact hcell _ _ h3)
 have Hsy := Lib.hid hsy
 have hni : (n : Int) ≤ 10000 ∧ (m : Int) ≤ 10000 := by omega
 have En := Lib.hid en
 have Em := Lib.hid em
 clear hrx hmx hry hmy hsy en em
 obtain ⟨T1, hT1⟩ : ∃ T1, (yas R).foldl lput [] = T1 := ⟨_, rfl⟩
 obtain ⟨T2, hT2⟩ : ∃ T2, yhF R leaves = T2 := ⟨_, rfl⟩
 have HT : Hid (leaves.foldl lput T1 = T2) := Lib.hid (by rw [← hT2, ← hT1]; rfl)
 have Hstart : Hid ((yas (R.drop 0)).foldl lput [] = T1) := Lib.hid hT1
 rw [hT2]
 clear hT1 hT2
 go_enter Tryz.func110, Tryz.ntmps110
 go_wp2
 go_loopw [5, 6] (fun v i wr => ∃ (k p cp : Nat) (Ap : Option Addr) (Rp : List LTh), k ≤ n + 1 ∧ p ≤ k ∧ p ≤ cp ∧ v = .slice Ap p cp ∧ i = .int .i64 k ∧ Hid ((yas (R.drop k)).foldl lput Rp = T1) ∧ Hid (LHRow wr wr.heap.size ok Ap p Rp) ∧ Hid (Below w.heap.size w wr)) (fun _ i _ => n + 1 - (intOf i).toNat)
 case atStart => exact ⟨0, 0, 0, none, [], by omega, by omega, by omega, rfl, rfl, Hstart.out, LHRow.nil _ _ _, Below.refl _ _⟩
 case round =>
  obtain ⟨k, p, cp, Ap, Rp, hk, hpk, hpc, rfl, rfl, Hf, HRp, Hb⟩ := hrel
  by_cases hlt : k + 1 < n
  ·have hki : (0 : Int) ≤ (k : Int) ∧ (k : Int) + 1 < n ∧ (k : Int) < n := by omega
   have hk1 : k + 1 < R.length := by rw [En.out]; exact hlt
   have hk0 : k < R.length := by omega
   obtain ⟨b, off, As1, cs1, rfl, hb, hle1, hrs1, hcell1⟩ := Hcell.out k hk0
   obtain ⟨b', off', As2, cs2, e2, hb', hle2, hrs2, hcell2⟩ := Hcell.out (k + 1) hk1
   injection e2 with e2
   injection e2 with e3 e4
   subst e3
   subst e4
   obtain ⟨x1, x2⟩ := hcell1 wr Hb.out
   obtain ⟨x3, x4⟩ := hcell2 wr Hb.out
   have hsl1 := Hsy.out R[k] (List.getElem_mem hk0)
   have hsl2 := Hsy.out R[k + 1] (List.getElem_mem hk1)
   have hf := Hf.out
   rw [lpacks_two R k hk1, List.foldl_cons] at hf
   have Hf2 := Lib.hid hf
   have HSof : Hid (∀ W, Below wr.heap.size wr W → W.cell? ⟨b, off + k * 3, none⟩ = some (.int .i64 R[k].w) ∧ W.cell? ⟨b, off + k * 3 + 1, none⟩ = some (.slice As1 R[k].syms.length cs1) ∧ W.cell? ⟨b, off + (k + 1) * 3, none⟩ = some (.int .i64 R[k + 1].w) ∧ W.cell? ⟨b, off + (k + 1) * 3 + 1, none⟩ = some (.slice As2 R[k + 1].syms.length cs2)) := Lib.hid fun W hW => by
    have h1 := Hb.out.trans (hW.mono Hb.out.size)
    exact ⟨(hcell1 W h1).1, (hcell1 W h1).2, (hcell2 W h1).1, (hcell2 W h1).2⟩
   have Hrd1 : Hid (∀ W, Below wr.heap.size wr W → Reads W wr.heap.size 1 As1 R[k].syms.length (ints (lsy R[k].syms))) := Lib.hid fun W hW => (hrs1.below (Hb.out.trans (hW.mono Hb.out.size))).more Hb.out.size
   have Hrd2 : Hid (∀ W, Below wr.heap.size wr W → Reads W wr.heap.size 1 As2 R[k + 1].syms.length (ints (lsy R[k + 1].syms))) := Lib.hid fun W hW => (hrs2.below (Hb.out.trans (hW.mono Hb.out.size))).more Hb.out.size
   have hint : ∀ l : List Int, ∀ u ∈ ints l, u.oneCell' = true := fun l u hu => by
    obtain ⟨z, _, rfl⟩ := List.mem_map.1 hu
    rfl
   have Hone1 := Lib.hid (hint (lsy R[k].syms))
   have Hone2 := Lib.hid (hint (lsy R[k + 1].syms))
   clear hcell1 hcell2 hrs1 hrs2 hint hf Hf
   generalize hq1 : R[k] = q1 at *
   generalize hq2 : R[k + 1] = q2 at *
   clear hq1 hq2
   obtain ⟨k2, hk2⟩ : ∃ k2, k + 1 = k2 := ⟨_, rfl⟩
   have hsum : (k : Int) + 1 = (k2 : Int) := by omega
   have hwk : IntKind.i64.wrap ((k : Int) + 1) = (k2 : Int) := by rw [IntKind.wrap_i64]; omega
   have hwk2 : IntKind.i64.wrap (k2 : Int) = (k2 : Int) := by rw [IntKind.wrap_i64]; omega
   have hk2i : (0 : Int) ≤ (k2 : Int) ∧ (k2 : Int) < n := by omega
   rw [hk2] at x3 x4 HSof
   obtain ⟨a1, s1, l1⟩ := q1
   obtain ⟨a2, s2, l2⟩ := q2
   simp only at *
   generalize hns1 : s1.length = ns1 at *
   generalize hns2 : s2.length = ns2 at *
   have Hput : Hid (∀ W4 B2 d2, Below wr.heap.size wr W4 → W4.ownsRow wr.heap.size 3 1 (.slice B2 (ns1 + ns2) d2) (ns1 + ns2) (ints (lsy s1) ++ ints (lsy s2)) → Calls Tryz.prog 142 #[.slice Ap p cp, .agg #[.int .i64 (a1 + a2), .slice B2 (ns1 + ns2) d2, .bool false]] W4 fun e w' => ∃ A' c', e = .returned (.slice A' (p + 1) c') ∧ p + 1 ≤ c' ∧ LHRow w' w'.heap.size ok A' (p + 1) (lput Rp (yb8 ⟨a1, s1, l1⟩ ⟨a2, s2, l2⟩)) ∧ Below w.heap.size w w') := Lib.hid fun W4 B2 d2 hb4 ho4 => by
    obtain ⟨hr4, hd4⟩ := lowns_reads ho4
    have hlen : (yb8 ⟨a1, s1, l1⟩ ⟨a2, s2, l2⟩).syms.length = ns1 + ns2 := by show (s1 ++ s2).length = _; rw [List.length_append, hns1, hns2]
    have hsy4 : ints (lsy (yb8 ⟨a1, s1, l1⟩ ⟨a2, s2, l2⟩).syms) = ints (lsy s1) ++ ints (lsy s2) := by show ints (lsy (s1 ++ s2)) = _; rw [lsy_app, lints_app]
    have := ydg ok Rp (yb8 ⟨a1, s1, l1⟩ ⟨a2, s2, l2⟩) Ap B2 p cp d2 W4 (by omega) hpc (fun b hb2 => hok b (Nat.le_trans (Nat.le_trans Hb.out.size hb4.size) hb2)) ((HRp.out.below hb4).more hb4.size) (by rw [hlen]; exact hd4) (by rw [hlen, hsy4]; exact ⟨hr4, yg0 ho4 fun b hb2 => hok b (Nat.le_trans Hb.out.size hb2)⟩)
    rw [hlen] at this
    refine this.mono ?_
    rintro e w' ⟨A', c', rfl, h1, h2, h3⟩
    exact ⟨A', c', rfl, h1, h2, (Hb.out.trans (hb4.mono Hb.out.size)).trans (h3.mono (Nat.le_trans Hb.out.size hb4.size))⟩
   have hws : IntKind.i64.wrap (a1 + a2) = a1 + a2 := by rw [IntKind.wrap_i64]; omega
   go_wp2
   go_region_held3 (fun w' => w'.cell? ⟨b, off + k * 3, none⟩ = some (.int .i64 a1) ∧ w'.cell? ⟨b, off + k * 3 + 1, none⟩ = some (.slice As1 ns1 cs1) ∧ w'.cell? ⟨b, off + k2 * 3, none⟩ = some (.int .i64 a2) ∧ w'.cell? ⟨b, off + k2 * 3 + 1, none⟩ = some (.slice As2 ns2 cs2)) (first | go_keep | exact hS1 | exact hS2 _ _ _) (first
    | (((with_reducible refine lguardD1 34 wr ?_); refine yac (by rfl) (.tmp 28) (.tmp 33) 28 (by rfl) wr.heap.size 3 j0 _ 1 8 Tryz.underlying28 hj hy0 hy1 hy2 rfl (by decide) (.slice (some ⟨wr.heap.size, 0, none⟩) 0 0) (0) ([]) (by rfl) (yaG (lblkD1 wr _ _) (by omega)) (As1) (ns1) (cs1) (wr.heap.size) (ints (lsy s1)) (by rfl) (Hrd1.out _ (lbd1 wr _)) (Hone1.out) (by unfold maxLen; omega) (by omega) (by simp) (ns1) (Nat.zero_add ns1) ?_; intro B1 d1 w1 hown1 hgrow1 _; have Hb1 : Hid (Below wr.heap.size wr w1) := Lib.hid (Below.grown (lbd1 wr _) hgrow1 (by simp) (fun g hg => by injection hg with hg; simp at hg; omega)); have hS1 := HSof.out w1 Hb1.out; have HZ1 : Hid True := Lib.hid trivial; have Hown1 := Lib.hid (show w1.ownsRow wr.heap.size 3 1 (.slice B1 ns1 d1) ns1 (ints (lsy s1)) by simpa using hown1); clear hown1 hgrow1))
    | (((with_reducible refine lguardD2 34 wr #[] ?_); refine yac (by rfl) (.tmp 28) (.tmp 33) 28 (by rfl) wr.heap.size 3 j0 _ 1 8 Tryz.underlying28 hj hy0 hy1 hy2 rfl (by decide) (.slice (some ⟨wr.heap.size, 0, none⟩) 0 0) (0) ([]) (by rfl) (yaG (lblkD2 wr _ _ _) (by omega)) (As1) (ns1) (cs1) (wr.heap.size) (ints (lsy s1)) (by rfl) (Hrd1.out _ (lbd2 wr _ _)) (Hone1.out) (by unfold maxLen; omega) (by omega) (by simp; omega) (ns1) (Nat.zero_add ns1) ?_; intro B1 d1 w1 hown1 hgrow1 _; have Hb1 : Hid (Below wr.heap.size wr w1) := Lib.hid (Below.grown (lbd2 wr _ _) hgrow1 (by simp; omega) (fun g hg => by injection hg with hg; simp at hg; omega)); have hS1 := HSof.out w1 Hb1.out; have HZ1 : Hid (Blk w1 (wr.heap.size + 1) 153 #[.int .i64 0, .slice none 0 0, .bool false]) := Lib.hid (Blk.grow' (lblkD3 wr _ _ _) hgrow1 (by intro h; injection h with h; simp at h)); have HG1 := Lib.hid (show wr.heap.size ≤ wr.heap.size + 1 from Nat.le_succ _); have Hown1 := Lib.hid (show w1.ownsRow wr.heap.size 3 1 (.slice B1 ns1 d1) ns1 (ints (lsy s1)) by simpa using hown1); clear hown1 hgrow1))
    | (((with_reducible refine lguardD2 34 wr #[.int .i64 0, .slice none 0 0, .bool false] ?_); refine yac (by rfl) (.tmp 28) (.tmp 33) 28 (by rfl) wr.heap.size 3 j0 _ 1 8 Tryz.underlying28 hj hy0 hy1 hy2 rfl (by decide) (.slice (some ⟨wr.heap.size + 1, 0, none⟩) 0 0) (0) ([]) (by rfl) (yaG (lblkD3 wr _ _ _) (by omega)) (As1) (ns1) (cs1) (wr.heap.size) (ints (lsy s1)) (by rfl) (Hrd1.out _ (lbd2 wr _ _)) (Hone1.out) (by unfold maxLen; omega) (by omega) (by simp; omega) (ns1) (Nat.zero_add ns1) ?_; intro B1 d1 w1 hown1 hgrow1 _; have Hb1 : Hid (Below wr.heap.size wr w1) := Lib.hid (Below.grown (lbd2 wr _ _) hgrow1 (by simp; omega) (fun g hg => by injection hg with hg; simp at hg; omega)); have hS1 := HSof.out w1 Hb1.out; have HZ1 : Hid (Blk w1 (wr.heap.size) 153 #[.int .i64 0, .slice none 0 0, .bool false]) := Lib.hid (Blk.grow' (lblkD2 wr _ _ _) hgrow1 (by intro h; injection h with h; simp at h)); have HG1 := Lib.hid (show wr.heap.size ≤ wr.heap.size from Nat.le_refl _); have Hown1 := Lib.hid (show w1.ownsRow wr.heap.size 3 1 (.slice B1 ns1 d1) ns1 (ints (lsy s1)) by simpa using hown1); clear hown1 hgrow1))
    | (((with_reducible refine lguard3 41 w1 ?_); refine yac (by rfl) (.tmp 34) (.tmp 40) 28 (by rfl) wr.heap.size 3 j0 _ 1 8 Tryz.underlying28 hj hy0 hy1 hy2 rfl (by decide) (.slice B1 ns1 d1) (ns1) (ints (lsy s1)) (by rfl) (Hown1.out.alloc _) (As2) (ns2) (cs2) (wr.heap.size) (ints (lsy s2)) (by rfl) (Hrd2.out _ (Hb1.out.alloc Hb1.out.size _)) (Hone2.out) (by unfold maxLen; omega) (by omega) (by have := Hb1.out.size; simp; omega) (ns1 + ns2) (rfl) ?_; intro B2 d2 w2 hown2 hgrow2 _; have Hb2 : Hid (Below wr.heap.size wr w2) := Lib.hid (Below.grown (Hb1.out.alloc Hb1.out.size _) hgrow2 (by have := Hb1.out.size; simp; omega) (fun g hg => (Hown1.out.lt g hg).1)); have hS1 := HSof.out w2 Hb2.out; have HZ2 : Hid (Blk w2 w1.heap.size 153 #[.int .i64 0, .slice none 0 0, .bool false]) := Lib.hid (Blk.grow' (Blk.new _ _ _) hgrow2 (fun h => lnot_own Hown1.out h)); have z0 := HZ2.out.cell 0; have z1 := HZ2.out.cell 1; have z2 := HZ2.out.cell 2; have zf0 := HZ2.out.frozen 0; have zf1 := HZ2.out.frozen 1; have zf2 := HZ2.out.frozen 2; have hS2 := fun v0 v1 v2 => HSof.out _ (lbset Hb2.out Hb1.out.size v0 v1 v2); have Hown2 := Lib.hid (show w2.ownsRow wr.heap.size 3 1 (.slice B2 (ns1 + ns2) d2) (ns1 + ns2) (ints (lsy s1) ++ ints (lsy s2)) by simpa using hown2); clear hown2 hgrow2; have hO2 := fun v0 v1 v2 => lown_sets Hown2.out HZ2.out (by decide) v0 v1 v2; have hBs := fun v0 v1 v2 => lbset Hb2.out Hb1.out.size v0 v1 v2))
    | (((with_reducible refine yfL 41 ?_); have HZ0 := lisblk HZ1.out; refine yac (by rfl) (.tmp 34) (.tmp 40) 28 (by rfl) wr.heap.size 3 j0 _ 1 8 Tryz.underlying28 hj hy0 hy1 hy2 rfl (by decide) (.slice B1 ns1 d1) (ns1) (ints (lsy s1)) (by rfl) (Hown1.out) (As2) (ns2) (cs2) (wr.heap.size) (ints (lsy s2)) (by rfl) (Hrd2.out _ (Hb1.out)) (Hone2.out) (by unfold maxLen; omega) (by omega) (Hb1.out.size) (ns1 + ns2) (rfl) ?_; intro B2 d2 w2 hown2 hgrow2 _; have Hb2 : Hid (Below wr.heap.size wr w2) := Lib.hid (Below.grown (Hb1.out) hgrow2 (by have := Hb1.out.size; simp; omega) (fun g hg => (Hown1.out.lt g hg).1)); have hS1 := HSof.out w2 Hb2.out; have HZ2 := Lib.hid (Blk.grow' HZ0 hgrow2 (lnot_blk Hown1.out HZ0 (by decide))); have z0 := HZ2.out.cell 0; have z1 := HZ2.out.cell 1; have z2 := HZ2.out.cell 2; have zf0 := HZ2.out.frozen 0; have zf1 := HZ2.out.frozen 1; have zf2 := HZ2.out.frozen 2; have hS2 := fun v0 v1 v2 => HSof.out _ (lbset Hb2.out HG1.out v0 v1 v2); have Hown2 := Lib.hid (show w2.ownsRow wr.heap.size 3 1 (.slice B2 (ns1 + ns2) d2) (ns1 + ns2) (ints (lsy s1) ++ ints (lsy s2)) by simpa using hown2); clear hown2 hgrow2; have hO2 := fun v0 v1 v2 => lown_sets Hown2.out HZ2.out (by decide) v0 v1 v2; have hBs := fun v0 v1 v2 => lbset Hb2.out HG1.out v0 v1 v2))
    | (((with_reducible refine yfL 41 ?_); refine yac (by rfl) (.tmp 34) (.tmp 40) 28 (by rfl) wr.heap.size 3 j0 _ 1 8 Tryz.underlying28 hj hy0 hy1 hy2 rfl (by decide) (.slice B1 ns1 d1) (ns1) (ints (lsy s1)) (by rfl) (Hown1.out) (As2) (ns2) (cs2) (wr.heap.size) (ints (lsy s2)) (by rfl) (Hrd2.out _ (Hb1.out)) (Hone2.out) (by unfold maxLen; omega) (by omega) (Hb1.out.size) (ns1 + ns2) (rfl) ?_; intro B2 d2 w2 hown2 hgrow2 _; have Hb2 : Hid (Below wr.heap.size wr w2) := Lib.hid (Below.grown (Hb1.out) hgrow2 (by have := Hb1.out.size; simp; omega) (fun g hg => (Hown1.out.lt g hg).1)); have hS1 := HSof.out w2 Hb2.out; have Hown2 := Lib.hid (show w2.ownsRow wr.heap.size 3 1 (.slice B2 (ns1 + ns2) d2) (ns1 + ns2) (ints (lsy s1) ++ ints (lsy s2)) by simpa using hown2); clear hown2 hgrow2))
    | fail)
   all_goals go_wp2_with (go_at_call 142; refine (Hput.out _ _ _ (by first | exact Hb2.out.alloc Hb2.out.size _ | exact hBs _ _ _) (by first | exact Hown2.out.alloc _ | exact hO2 _ _ _)).mono ?_; rintro e w5 ⟨A5, c5, rfl, hc5, hR5, hb5⟩; have Hc5 := Lib.hid hc5; have HR5 := Lib.hid hR5; have Hb5 := Lib.hid hb5; clear hc5 hR5 hb5)
   all_goals go_roundw
   all_goals (first | exact ⟨k + 2, p + 1, c5, A5, _, by omega, by omega, Hc5.out, rfl, iv (by omega), Hf2.out, HR5.out, Hb5.out⟩ | (simp only [intOf]; omega))
  ·have hf := Hf.out
   rw [lpacks_few R k (by have := En.out; omega)] at hf
   have hf2 : Rp = T1 := hf
   subst hf2
   have hnk : (n : Int) ≤ (k : Int) + 1 := by omega
   have HT2 : Hid ((leaves.drop 0).foldl lput Rp = T2) := HT
   have hp0 : p ≤ 10001 := by omega
   clear hf Hf
   go_wp2
   go_loopw [5, 8] (fun v i W => ∃ (q p2 cp2 : Nat) (Ap2 : Option Addr) (Rp2 : List LTh), q ≤ m ∧ p2 ≤ 10001 + q ∧ p2 ≤ cp2 ∧ v = .slice Ap2 p2 cp2 ∧ i = .int .i64 q ∧ Hid ((leaves.drop q).foldl lput Rp2 = T2) ∧ Hid (LHRow W W.heap.size ok Ap2 p2 Rp2) ∧ Hid (Below w.heap.size w W)) (fun _ i _ => m - (intOf i).toNat)
   case atStart => exact ⟨0, p, cp, Ap, Rp, by omega, by omega, hpc, rfl, rfl, HT2.out, HRp.out, Hb.out⟩
   case round =>
    obtain ⟨q, p2, cp2, Ap2, Rp2, hq, hp2, hpc2, rfl, rfl, Hf, HR2, Hb2⟩ := hrel
    by_cases hlq : q < m
    ·have hqi : (0 : Int) ≤ (q : Int) ∧ (q : Int) < m := by omega
     have hql : q < leaves.length := by rw [Em.out]; exact hlq
     obtain ⟨b, off, As, cs, rfl, hb, hcs, hrs, hcell⟩ := HLcell.out q hql
     obtain ⟨x1, x2, x3⟩ := hcell _ Hb2.out
     have hf := Hf.out
     rw [List.drop_eq_getElem_cons hql, List.foldl_cons] at hf
     have Hf2 := Lib.hid hf
     have hput := fun W (hb4 : Below w.heap.size w W) (hR4 : LHRow W W.heap.size ok Ap2 p2 Rp2) => ydg ok Rp2 leaves[q] Ap2 As p2 cp2 cs W (by omega) hpc2 (fun b hb2 => hok b (Nat.le_trans hb4.size hb2)) hR4 hcs ⟨(hrs.1.below hb4).more hb4.size, hrs.2⟩
     have Hput := Lib.hid hput
     clear hcell hrs hf hput Hf
     generalize leaves[q] = y at *
     generalize hns : y.syms.length = ns at *
     generalize hyw : y.w = yw at *
     generalize hyl : y.leaf = yl at *
     go_wp2_with (go_at_call 142; refine (Hput.out _ Hb2.out HR2.out).mono ?_; rintro e w5 ⟨A5, c5, rfl, hc5, hR5, hb5⟩; have Hc5 := Lib.hid hc5; have HR5 := Lib.hid hR5; have Hb5 := Lib.hid (Hb2.out.trans (hb5.mono Hb2.out.size)); clear hc5 hR5 hb5)
     go_roundw
     case rel => exact ⟨q + 1, p2 + 1, c5, A5, _, by omega, by omega, Hc5.out, rfl, iv (by omega), Hf2.out, HR5.out, Hb5.out⟩
     case measure => simp only [intOf]; omega
    ·obtain rfl : q = m := by omega
     have hf := Hf.out
     rw [List.drop_of_length_le (by rw [Em.out]; exact Nat.le_refl _)] at hf
     have hf2 : Rp2 = T2 := hf
     subst hf2
     have hlen := HR2.out.1
     subst hlen
     clear hf Hf
     go_wp2
     go_ret
     exact ⟨Ap2, cp2, rfl, hpc2, HR2.out, Hb2.out⟩
def ye4 (l : List Int) : Bool := l.all fun c => decide (0 ≤ c) && decide (c ≤ 1000000)
theorem yds {l : List Int} (h : ye4 l = true) (i : Nat) (hi : i < l.length) : 0 ≤ l[i] ∧ l[i] ≤ 1000000 := by
 unfold ye4 at h
 rw [List.all_eq_true] at h
 simpa using h l[i] (List.getElem_mem hi)
theorem cgood_of {l : List Int} (h : ∀ i (hi : i < l.length), 0 ≤ l[i] ∧ l[i] ≤ 1000000) : ye4 l = true := by
 unfold ye4
 rw [List.all_eq_true]
 intro x hx
 obtain ⟨i, hi, rfl⟩ := List.getElem_of_mem hx
 simpa using h i hi
def ybD (counts : List Int) (most : Int) : List Int × Int :=
 if 257 < counts.length then ([], 3) else if most < 1 ∨ 15 < most then ([], 2) else if ye4 counts = true then
  (if 2 ^ most.toNat < (yaa counts).length then ([], 3) else (yar counts most.toNat, 0)) else ([], 2)
theorem ycS (counts : List Int) : (yaa counts).length ≤ counts.length := by
 have h1 := ybS counts (fun _ => 1)
 rw [ydL] at h1
 have h2 : ∀ (l : List Int) (i : Nat), isum (fun _ c => if 0 < c then 1 else 0) i l ≤ l.length := by
  intro l
  induction l with
  | nil => intro i; simp [isum]
  | cons c t ih =>
   intro i
   have := ih (i + 1)
   simp only [isum, List.length_cons]
   split <;> omega
 have := h2 counts 0
 omega
theorem yd5 {leaves : List LTh} (hl : yaO leaves) : ∀ k, (lrow leaves k).length ≤ 2 * leaves.length
 | 0 => by show leaves.length ≤ _; omega
 | k + 1 => by
  have := yd5 hl k
  rw [ygw hl k]
  omega
theorem lpacks_all {P Q : LTh → Prop} (h : ∀ a b, P a → P b → Q (yb8 a b)) : ∀ R : List LTh, (∀ x ∈ R, P x) → ∀ x ∈ yas R, Q x
 | [], _, x, hx => by cases hx
 | [_], _, x, hx => by cases hx
 | a :: b :: t, hp, x, hx => by
  rcases List.mem_cons.1 hx with rfl | hx
  ·exact h a b (hp a (by simp)) (hp b (by simp))
  ·exact lpacks_all h t (fun y hy => hp y (by simp [hy])) x hx
def LFits (n k : Nat) (x : LTh) : Prop := x.syms.length ≤ 2 ^ k ∧ 0 ≤ x.w ∧ x.w ≤ ((2 ^ k : Nat) : Int) * 1000000 ∧ ∀ s ∈ x.syms, s < n
theorem yeK (counts : List Int) (hg : ye4 counts = true) : ∀ k, ∀ x ∈ lrow (yaa counts) k, LFits counts.length k x
 | 0, x, h => by
  obtain ⟨j, hj, hp, rfl⟩ := (yan counts x).1 h
  have := yds hg j hj
  refine ⟨by simp, by show 0 ≤ counts[j]; omega, by show counts[j] ≤ _; simp; omega, fun s hs => ?_⟩
  have : s = j := by simpa using hs
  omega
 | k + 1, x, h => by
  have hl := yaH counts
  have hr := yb2 hl k
  have ih := yeK counts hg k
  have h2 : (2 ^ (k + 1) : Nat) = 2 ^ k + 2 ^ k := by rw [Nat.pow_succ]; omega
  have hp1 : 0 < (2 ^ k : Nat) := Nat.pow_pos (by omega)
  cases hx : x.leaf with
  | true =>
   have h0 : x ∈ yaa counts := by rw [← hr.lv]; exact List.mem_filter.2 ⟨h, hx⟩
   obtain ⟨j, hj, hp, rfl⟩ := (yan counts x).1 h0
   have := yds hg j hj
   refine ⟨by show 1 ≤ _; omega, by show 0 ≤ counts[j]; omega, ?_, fun s hs => ?_⟩
   ·show counts[j] ≤ _
    have : (1 : Int) * 1000000 ≤ ((2 ^ (k + 1) : Nat) : Int) * 1000000 := Int.mul_le_mul_of_nonneg_right (by omega) (by omega)
    omega
   ·have : s = j := by simpa using hs
    omega
  | false =>
   refine lpacks_all (P := LFits counts.length k) ?_ (lrow (yaa counts) k) ih x (by rw [← hr.pk]; exact List.mem_filter.2 ⟨h, by simp [hx]⟩)
   rintro a b ⟨a1, a2, a3, a4⟩ ⟨b1, b2, b3, b4⟩
   refine ⟨?_, ?_, ?_, ?_⟩
   ·show (a.syms ++ b.syms).length ≤ _
    rw [List.length_append]
    omega
   ·show 0 ≤ a.w + b.w
    omega
   ·show a.w + b.w ≤ _
    rw [h2, Int.natCast_add, Int.add_mul]
    omega
   ·intro s hs
    rcases List.mem_append.1 (show s ∈ a.syms ++ b.syms from hs) with hs | hs
    ·exact a4 s hs
    ·exact b4 s hs
def lout (n : Nat) (f : Nat → Int) : List Int := (List.range n).map f
theorem ydK (n : Nat) (f : Nat → Int) : (lout n f).length = n := by simp [lout]
theorem ye2 (n : Nat) (f : Nat → Int) (s : Nat) (h : s < n) : (lout n f)[s]? = some (f s) := by simp [lout, h]
theorem lout_set (n : Nat) (f g : Nat → Int) (s : Nat) (v : Int) (hs : g s = v) (ho : ∀ t, t ≠ s → g t = f t) : (lout n f).set s v = lout n g := by
 apply List.ext_getElem?
 intro t
 by_cases ht : t < n
 ·rw [List.getElem?_set, ye2 n f t ht, ye2 n g t ht, ydK]
  by_cases e : s = t
  ·subst e
   rw [if_pos rfl, if_pos ht, hs]
  ·rw [if_neg e, ho t (fun h => e h.symm)]
 ·rw [List.getElem?_eq_none (by rw [List.length_set, ydK]; omega), List.getElem?_eq_none (by rw [ydK]; omega)]
theorem ybK (n : Nat) (f g : Nat → Int) (h : ∀ t, t < n → f t = g t) : lout n f = lout n g := by
 unfold lout
 exact List.map_congr_left fun t ht => h t (List.mem_range.1 ht)
def lfar (R : List LTh) (i k s : Nat) : Int := lsum (lhas s) (R.take i) + ((((R[i]?).map (·.syms)).getD []).take k).count s
theorem yeT (R : List LTh) (i s : Nat) : lfar R i 0 s = lsum (lhas s) (R.take i) := by simp [lfar]
theorem lfar_step (R : List LTh) (i k s : Nat) (hi : i < R.length) (hk : k < R[i].syms.length) : lfar R i (k + 1) s = lfar R i k s + if s = R[i].syms[k] then 1 else 0 := by
 unfold lfar
 rw [List.getElem?_eq_getElem hi]
 simp only [Option.map_some, Option.getD_some]
 rw [List.take_succ_eq_append_getElem hk, List.count_append, List.count_singleton]
 by_cases e : s = R[i].syms[k]
 ·rw [if_pos e, if_pos (by simp [e])]; omega
 ·rw [if_neg e, if_neg (by simpa using fun h => e h.symm)]; omega
theorem lfar_end (R : List LTh) (i s : Nat) (hi : i < R.length) : lfar R i R[i].syms.length s = lsum (lhas s) (R.take (i + 1)) := by
 unfold lfar
 rw [List.getElem?_eq_getElem hi]
 simp only [Option.map_some, Option.getD_some, List.take_length]
 rw [List.take_succ_eq_append_getElem hi, ycH]
 simp [lsum, lhas]
theorem yeu (counts : List Int) (most : Nat) (h : (yaa counts).length ≠ 1) : yar counts most = lout counts.length (fun s => lsum (lhas s) (yfQ counts most)) := by
 unfold yar
 rw [if_neg h]
 rfl
theorem lbestL_one (counts : List Int) (most s : Nat) (h : (yaa counts).length = 1) (hs : ((yaa counts)[0]'(by omega)).syms = [s]) : s < counts.length ∧ (lout counts.length (fun _ => 0)).set s 1 = yar counts most := by
 obtain ⟨j, hj, hp, e⟩ := (yan counts _).1 (List.getElem_mem (show 0 < (yaa counts).length by omega))
 have hjs : j = s := by
  rw [e] at hs
  simpa using hs
 subst hjs
 refine ⟨hj, ?_⟩
 rw [lout_set counts.length (fun _ => 0) (fun t => if t = j then 1 else 0) j 1 (by simp) (fun t ht => if_neg ht)]
 unfold yar
 rw [if_pos h]
 apply List.ext_getElem
 ·simp [lout]
 ·intro t h1 h2
  have ht : t < counts.length := by simpa using h2
  simp only [lout, List.getElem_map, List.getElem_range]
  by_cases e2 : t = j
  ·subst e2
   rw [if_pos rfl, if_pos hp]
  ·rw [if_neg e2, if_neg ?_]
   intro hp2
   obtain ⟨r, hr, e3⟩ := List.getElem_of_mem ((yan counts ⟨counts[t], [t], true⟩).2 ⟨t, ht, hp2, rfl⟩)
   obtain rfl : r = 0 := by omega
   rw [e] at e3
   injection e3 with _ e4 _
   injection e4 with e4 _
   exact e2 e4.symm
def cterm (c l : Int) : Int := if 0 ≤ c ∧ c ≤ 1000000 ∧ 0 ≤ l ∧ l ≤ 15 then c * l else 0
def ccost : List Int → List Int → Int
 | c :: t, l :: u => cterm c l + ccost t u
 | _, _ => 0
def ygC (counts lens : List Int) : Int := ccost (counts.take 257) (lens.take 257)
theorem ye1 (a b : List Int) (h : a = [] ∨ b = []) : ccost a b = 0 := by
 rcases h with rfl | rfl
 ·cases b <;> rfl
 ·cases a <;> rfl
def begF : List Nat → List Nat → Bool × Bool
 | _, [] => (true, true)
 | [], _ :: _ => (true, false)
 | a :: t, b :: u => if a = b then begF t u else (false, false)
def yaD (ws : List (Int × Int)) (s : Int) : List Nat × Int := if 0 ≤ s ∧ s < ws.length ∧ (ws.getD s.toNat (0, 0)).2 ≠ 0 then (digI (ws.getD s.toNat (0, 0)).1 (ws.getD s.toNat (0, 0)).2, 0) else ([], 70)
theorem cfields_at {w : World} {B n : Nat} {A : Option Addr} {l : List (Int × Int)} (hr : Reads w B 2 A n (ybi .i64 l)) (hn : 0 < n) : ∃ b off, A = some ⟨b, off, none⟩ ∧ b < B ∧ ∀ k, (hk : k < l.length) → w.cell? ⟨b, off + k * 2, none⟩ = some (.int .i64 l[k].1) ∧ w.cell? ⟨b, off + k * 2 + 1, none⟩ = some (.int .i64 l[k].2) := by
 obtain ⟨b, off, e, hb, hc⟩ := hr.2 hn
 exact ⟨b, off, e, hb, fun k hk => ⟨hc _ _ (ydx .i64 l k hk), hc _ _ (ydm .i64 l k hk)⟩⟩
theorem cheld_next {w' w1 : World} {b o1 o2 : Nat} {x y : Value} (h : w'.cell? ⟨b, o1, none⟩ = some x ∧ w'.cell? ⟨b, o2, none⟩ = some y ∧ b < w'.heap.size) (hb : Below w'.heap.size w' w1) : w1.cell? ⟨b, o1, none⟩ = some x ∧ w1.cell? ⟨b, o2, none⟩ = some y ∧ b < w1.heap.size :=
 ⟨(hb.cell (p := ⟨b, o1, none⟩) h.2.2).trans h.1, (hb.cell (p := ⟨b, o2, none⟩) h.2.2).trans h.2.1, Nat.lt_of_lt_of_le h.2.2 hb.size⟩
def CWordPost (w w' : World) (e : Ending) (F : List Nat × Int) : Prop := ∃ D m cd, e = .returned (.tuple #[.slice D m cd, .int .i64 F.2]) ∧ F.1.length = m ∧ Reads w' w'.heap.size 1 D m (bcs F.1) ∧ Below w.heap.size w w'
set_option maxRecDepth 100000 in
set_option maxHeartbeats 4000000 in
theorem cref_word_any (ws : List (Int × Int)) (A : Option Addr) (n c : Nat) (s : Int) (w : World) (hn : ws.length = n) (hl : n ≤ 1000) (hr : Reads w w.heap.size 2 A n (ybi .i64 ws)) (hf : ∀ f ∈ ws, fits f.1 f.2) :
  Calls Tryz.prog 76 #[.slice A n c, .int .i64 s] w fun e w' => CWordPost w w' e (yaD ws s) := by
 have hni : (n : Int) ≤ 1000 := by omega
 by_cases h0 : s < 0
 ·have hF : yaD ws s = ([], 70) := by unfold yaD; rw [if_neg (by omega)]
  rw [hF]
  clear hr hf hF hn
  go_enter Tryz.func76, Tryz.ntmps76
  go_wp2
  go_ret2
  exact ⟨none, 0, 0, rfl, rfl, Reads.none_, by go_grown⟩
 by_cases h1 : (n : Int) ≤ s
 ·have hF : yaD ws s = ([], 70) := by unfold yaD; rw [if_neg (by omega)]
  rw [hF]
  clear hr hf hF hn
  go_enter Tryz.func76, Tryz.ntmps76
  go_wp2
  go_ret2
  exact ⟨none, 0, 0, rfl, rfl, Reads.none_, by go_grown⟩
 obtain ⟨k, rfl⟩ := Int.eq_ofNat_of_zero_le (by omega : 0 ≤ s)
 have hkl : k < ws.length := by omega
 have hkn : k < n := by omega
 obtain ⟨b, off, rfl, hb, hc⟩ := cfields_at hr (by omega)
 obtain ⟨x1, x2⟩ := hc k hkl
 have hki : (0 : Int) ≤ (k : Int) ∧ (k : Int) < (n : Int) := by omega
 have hgd : ws.getD k (0, 0) = ws[k] := by rw [List.getD_eq_getElem?_getD, List.getElem?_eq_getElem hkl]; rfl
 have hfit := hf _ (List.getElem_mem hkl)
 have hFF : yaD ws (k : Int) = if ws[k].2 ≠ 0 then (digI ws[k].1 ws[k].2, 0) else ([], 70) := by
  unfold yaD
  rw [Int.toNat_natCast, hgd]
  by_cases hz : ws[k].2 ≠ 0
  ·rw [if_pos hz, if_pos ⟨by omega, by omega, hz⟩]
  ·rw [if_neg hz, if_neg (fun h => hz h.2.2)]
 rw [hFF]
 clear hFF hgd hc hf hr hn
 generalize ws[k].1 = fn at *
 generalize ws[k].2 = fw at *
 by_cases hz : fw = 0
 ·subst hz
  rw [if_neg (by simp)]
  clear hfit
  go_enter Tryz.func76, Tryz.ntmps76
  go_wp2
  try go_quiet (fail)
  go_wp2
  go_ret2
  exact ⟨none, 0, 0, rfl, rfl, Reads.none_, by go_grown <;> refine yaj ?_ _ <;> go_grown⟩
 ·rw [if_pos hz]
  have hdg := fun W => ydD fn fw W hfit
  have hdl : (digI fn fw).length = fw.toNat := yad _ _
  have hzb : (fw == (0 : Int)) = false := by simpa using hz
  clear hfit
  generalize digI fn fw = D at *
  generalize fw.toNat = m at *
  go_enter Tryz.func76, Tryz.ntmps76
  go_wp2
  try go_quiet (fail)
  go_wp2
  go_region_held3 (fun w' => w'.cell? ⟨b, off + k * 2, none⟩ = some (.int .i64 fn) ∧ w'.cell? ⟨b, off + k * 2 + 1, none⟩ = some (.int .i64 fw) ∧ b < w'.heap.size)
   (first | exact cheld_next (by assumption) hb1 | exact ⟨x1, x2, hb⟩)
   (first | (go_at_call 112; (with_reducible refine (hdg _).mono ?_); rintro e w1 ⟨g, rfl, hB1, hg1, hb1⟩))
  rename_i hS
  have hb1' : Below w.heap.size w w1 := ⟨hb1.os, hb1.tape, hb1.output, hb1.size, hb1.block⟩
  go_wp2
  go_ret2
  exact ⟨some ⟨g, 0, none⟩, m, m, rfl, hdl, yeH _ hB1 m (by rw [ydN]; exact hdl), hb1'⟩
def ybs : List (Int × Int) → Nat → List Nat → Int → Int × Int × Int
 | [], _, _, E => (0, 0, E)
 | f :: t, s, R, E => if f.2 = 0 then ybs t (s + 1) R E else if (begF R (digI f.1 f.2)).2 = true then ((s : Int), ((digI f.1 f.2).length : Int), 0) else ybs t (s + 1) R (if (begF R (digI f.1 f.2)).1 = true then 4 else E)
def ybo (ws : List (Int × Int)) (L : List Nat) (p : Nat) : Int × Int × Int := ybs ws 0 (L.drop p) (if p = L.length then 4 else 40)
theorem cword_at (ws : List (Int × Int)) (k : Nat) (h : k < ws.length) : yaD ws (k : Int) = if ws[k].2 ≠ 0 then (digI ws[k].1 ws[k].2, 0) else ([], 70) := by
 have hgd : ws.getD k (0, 0) = ws[k] := by rw [List.getD_eq_getElem?_getD, List.getElem?_eq_getElem h]; rfl
 unfold yaD
 rw [Int.toNat_natCast, hgd]
 by_cases hz : ws[k].2 ≠ 0
 ·rw [if_pos hz, if_pos ⟨by omega, by omega, hz⟩]
 ·rw [if_neg hz, if_neg (fun h => hz h.2.2)]
theorem cwords_fit (l : List Int) : ∀ f ∈ (ycb l).1, fits f.1 f.2 := by
 unfold ycb
 by_cases h0 : yaw l = 0
 ·rw [if_pos h0]
  obtain ⟨hl, hg, hca⟩ := ycp h0
  intro f hf
  obtain ⟨j, hj, rfl⟩ := List.mem_map.1 (show f ∈ wat (l.map Int.toNat) 16 0 from hf)
  have hjl := List.mem_range.1 hj
  have hjl2 : j < l.length := by simpa using hjl
  have hgd : (l.map Int.toNat).getD j 0 = (l.map Int.toNat)[j] := by rw [List.getD_eq_getElem?_getD, List.getElem?_eq_getElem hjl]; rfl
  have hle : (l.map Int.toNat)[j] ≤ 15 := by
   have := yaI hg j hjl2
   rw [List.getElem_map]
   omega
  unfold cat1
  rw [hgd]
  by_cases hp : 0 < (l.map Int.toNat)[j] ∧ ((l.map Int.toNat)[j] < 16 ∨ ((l.map Int.toNat)[j] = 16 ∧ j < 0))
  ·rw [if_pos hp]
   have hlt := cword_lt (ls := l.map Int.toNat) (l.map Int.toNat)[j] j hjl rfl ⟨hp.1, hle⟩ hca
   refine ⟨by show (0 : Int) ≤ _; omega, by show (_ : Int) ≤ 32; omega, by show (0 : Int) ≤ _; omega, ?_⟩
   show ((ybr (l.map Int.toNat) (l.map Int.toNat)[j] j : Nat) : Int) < 2 ^ (((l.map Int.toNat)[j] : Nat) : Int).toNat
   rw [Int.toNat_natCast]
   exact_mod_cast hlt
  ·rw [if_neg hp]
   exact ⟨by decide, by decide, by decide, by decide⟩
 ·rw [if_neg h0]
  intro f hf
  cases hf
theorem yet {ws : List (Int × Int)} (hf : ∀ f ∈ ws, fits f.1 f.2) (s : Int) : (yaD ws s).1.length ≤ 32 ∧ Bin (yaD ws s).1 := by
 unfold yaD
 by_cases h : 0 ≤ s ∧ s < ws.length ∧ (ws.getD s.toNat (0, 0)).2 ≠ 0
 ·rw [if_pos h]
  have hk : s.toNat < ws.length := by omega
  have hgd : ws.getD s.toNat (0, 0) = ws[s.toNat] := by rw [List.getD_eq_getElem?_getD, List.getElem?_eq_getElem hk]; rfl
  have hfit := hf _ (List.getElem_mem hk)
  rw [← hgd] at hfit
  refine ⟨?_, ycF _ _⟩
  show (digI _ _).length ≤ 32
  unfold digI
  rw [yad]
  have := hfit.2.1
  omega
 ·rw [if_neg h]
  exact ⟨Nat.zero_le _, yfr⟩
theorem begF_len : ∀ (R d : List Nat), (begF R d).2 = true → d.length ≤ R.length
 | _, [], _ => Nat.zero_le _
 | [], _ :: _, h => by cases h
 | a :: t, b :: u, h => by
  unfold begF at h
  by_cases e : a = b
  ·rw [if_pos e] at h
   have := begF_len t u h
   simp only [List.length_cons]
   omega
  ·rw [if_neg e] at h
   cases h
theorem ygm (R : List Nat) : ∀ (ws : List (Int × Int)) (s : Nat) (E : Int), E = 4 ∨ E = 40 → (∀ f ∈ ws, fits f.1 f.2) → ((ybs ws s R E).2.2 = 0 ∧ ∃ x k : Nat, (ybs ws s R E).1 = (x : Int) ∧ x < s + ws.length ∧ (ybs ws s R E).2.1 = (k : Int) ∧ k ≤ R.length ∧ k ≤ 32) ∨ ((ybs ws s R E).2.2 = 4 ∨ (ybs ws s R E).2.2 = 40) ∧ (ybs ws s R E).1 = 0 ∧ (ybs ws s R E).2.1 = 0
 | [], s, E, hE, _ => Or.inr ⟨hE, rfl, rfl⟩
 | f :: t, s, E, hE, hf => by
  have hft : ∀ f ∈ t, fits f.1 f.2 := fun g hg => hf g (List.mem_cons_of_mem _ hg)
  have hff := hf f (List.mem_cons_self ..)
  unfold ybs
  by_cases hz : f.2 = 0
  ·rw [if_pos hz]
   rcases ygm R t (s + 1) E hE hft with ⟨h1, x, k, h2, h3, h4⟩ | h
   ·exact Or.inl ⟨h1, x, k, h2, by simp only [List.length_cons]; omega, h4⟩
   ·exact Or.inr h
  ·rw [if_neg hz]
   by_cases hb : (begF R (digI f.1 f.2)).2 = true
   ·rw [if_pos hb]
    refine Or.inl ⟨rfl, s, _, rfl, by simp, rfl, begF_len _ _ hb, ?_⟩
    unfold digI
    rw [yad]
    have := hff.2.1
    omega
   ·rw [if_neg hb]
    rcases ygm R t (s + 1) (if (begF R (digI f.1 f.2)).1 = true then 4 else E) (by split <;> omega) hft with ⟨h1, x, k, h2, h3, h4⟩ | h
    ·exact Or.inl ⟨h1, x, k, h2, by simp only [List.length_cons]; omega, h4⟩
    ·exact Or.inr h
def cunp (ws : List (Int × Int)) (L : List Nat) : Nat → Nat → List Int → List Int × Nat × Int
 | 0, p, acc => (acc, p, 0)
 | i + 1, p, acc => if (ybo ws L p).2.2 = 0 then cunp ws L i (p + (ybo ws L p).2.1.toNat) (acc ++ [(ybo ws L p).1]) else (acc, p, (ybo ws L p).2.2)
theorem ydp (ws : List (Int × Int)) (L : List Nat) (i p : Nat) (acc : List Int) : cunp ws L (i + 1) p acc = if (ybo ws L p).2.2 = 0 then cunp ws L i (p + (ybo ws L p).2.1.toNat) (acc ++ [(ybo ws L p).1]) else (acc, p, (ybo ws L p).2.2) := rfl
theorem cgetF_ok (ws : List (Int × Int)) (L : List Nat) (p nl : Nat) (hL : L.length = nl) (hp : p ≤ nl) (hw : ws.length ≤ 257) (hf : ∀ f ∈ ws, fits f.1 f.2) : ((ybo ws L p).2.2 = 0 ∧ ∃ x k : Nat, (ybo ws L p).1 = (x : Int) ∧ x < 257 ∧ (ybo ws L p).2.1 = (k : Int) ∧ p + k ≤ nl) ∨ (ybo ws L p).2.2 ≠ 0 := by
 unfold ybo
 rcases ygm (L.drop p) ws 0 (if p = L.length then 4 else 40) (by split <;> omega) hf with ⟨h1, x, k, h2, h3, h4, h5, h6⟩ | ⟨h, _⟩
 ·refine Or.inl ⟨h1, x, k, h2, by omega, h4, ?_⟩
  rw [List.length_drop] at h5
  omega
 ·exact Or.inr (by omega)
structure BRow (w : World) (g : Nat) (l : List UInt8) : Prop where
 lt : g < w.heap.size
 cell : ∀ j b, l[j]? = some b → w.cell? ⟨g, j, none⟩ = some (.int .u8 (b.toNat : Int))
 free : ∀ j, j < l.length → w.frozen? ⟨g, j, none⟩ = false
section
variable {w w' : World} {g : Nat} {l : List UInt8}
theorem BRow.below {B : Nat} (h : BRow w g l) (hb : Below B w w') (hg : g < B) : BRow w' g l :=
 ⟨Nat.lt_of_lt_of_le h.lt hb.size, fun j b hj => (hb.cell (p := ⟨g, j, none⟩) hg).trans (h.cell j b hj), fun j hj => (hb.frozen (p := ⟨g, j, none⟩) hg).trans (h.free j hj)⟩
theorem BRow.drew (h : BRow w g l) : BRow w.drew g l := ⟨h.lt, h.cell, h.free⟩
theorem BRow.drewN (h : BRow w g l) (n : Nat) : BRow (w.drewN n) g l := ⟨h.lt, h.cell, h.free⟩
theorem BRow.set (h : BRow w g l) (i : Nat) (b : UInt8) (hi : i < l.length) : BRow (w.setCell ⟨g, i, none⟩ (.int .u8 (b.toNat : Int))) g (l.set i b) := by
 obtain ⟨c0, hc0⟩ : ∃ c, l[i]? = some c := ⟨l[i], List.getElem?_eq_getElem hi⟩
 have hold := h.cell i c0 hc0
 refine ⟨by simpa [World.setCell] using h.lt, fun j c hj => ?_, fun j hj => ?_⟩
 ·rw [List.getElem?_set] at hj
  by_cases e : i = j
  ·subst e
   rw [if_pos rfl, if_pos hi] at hj
   injection hj with hj
   subst hj
   exact World.cell?_setCell_same _ _ _ hold
  ·rw [if_neg e] at hj
   rw [World.cell?_setCell_other _ _ _ _ (by intro e2; injection e2 with _ e3; exact e e3)]
   exact h.cell j c hj
 ·rw [World.frozen?_setCell]
  exact h.free j (by simpa using hj)
theorem run_bytes_row {P : Program} (w : World) (src dst e : TypeId) (l : List UInt8) (hs : P.underlying src = some .string) (hd : P.underlying dst = some (.slice e)) (he : P.underlying e = some (.int .u8)) :
  ∃ cap W', (convert src dst (.string ⟨l.toArray⟩)).run P w = .ok (.slice (some ⟨w.heap.size, 0, none⟩) l.length cap) W' ∧ BRow W' w.heap.size l ∧ Below w.heap.size w W' ∧ l.length ≤ cap := by
 have h := run_bytes_of_string (P := P) w src dst e ⟨l.toArray⟩ hs hd he
 have hsz : (ByteArray.mk l.toArray).size = l.length := by rw [ByteArray.size_mk']; simp
 rw [hsz] at h
 refine ⟨_, _, h, ?_, ?_, ?_⟩
 ·generalize grownCap w l.length 0 e = cp
  have hlen : (bytesRow ⟨l.toArray⟩ cp).size = l.length + (cp - l.length) := by simp [bytesRow, hsz]
  have hh : (w.drew.alloc (.cells (bytesRow ⟨l.toArray⟩ cp) e ((bytesRow ⟨l.toArray⟩ cp).size, (bytesRow ⟨l.toArray⟩ cp).size + 1))).heap[w.heap.size]? = some (.cells (bytesRow ⟨l.toArray⟩ cp) e ((bytesRow ⟨l.toArray⟩ cp).size, (bytesRow ⟨l.toArray⟩ cp).size + 1)) := heap_alloc_new w.drew _
  refine ⟨by show w.heap.size < (w.heap.push _).size; simp, fun j b hj => ?_, fun j hj => ?_⟩
  ·rw [cell_of_row _ _ j _ e _ hh]
   have hjl : j < l.length := (List.getElem?_eq_some_iff.1 hj).1
   have hjb : l[j] = b := (List.getElem?_eq_some_iff.1 hj).2
   subst hjb
   simp [bytesRow, Array.getElem?_append, hjl]
  ·simp only [World.frozen?, hh]
   rw [hlen]
   simp
   omega
 ·exact (Below.refl _ _).drew.alloc (Nat.le_refl _) _
 ·exact grownCap_ge w _ _ _
end
end Go.Proofs.YtoinjdmlembgeaaGreat
