/-
 What the law of the last of these texts stands on, part 6.
-/
import Derived.Test.YtoinjdmlembgeaaGreatMg05
import Derived.Deep.RegionWith
namespace Go.Proofs.YtoinjdmlembgeaaGreat
set_option linter.unusedSimpArgs false
set_option linter.unusedVariables false
open Go.ChangeShapes Go.WideShapes Go.ChangeAt Go.RowKit Go.Joins Go.Deep
theorem lput_at (x : LTh) (R : List LTh) : ∃ j, j ≤ R.length ∧ lput R x = R.take j ++ x :: R.drop j ∧ (∀ k (hk : k < R.length), k < j → lle R[k] x = true) ∧ ∀ hj : j < R.length, lle R[j] x = false := by
 obtain ⟨r1, r2, h1, h2, h3, h4⟩ := ybc x R
 refine ⟨r1.length, by rw [h1, List.length_append]; omega, ?_, ?_, ?_⟩
 ·rw [h2, h1, List.take_left' rfl, List.drop_left' rfl]
 ·intro k hk hlt
  have e : R[k] = r1[k] := by simp only [h1]; exact List.getElem_append_left hlt
  rw [e]
  exact h3 _ (List.getElem_mem hlt)
 ·intro hj
  cases r2 with
  | nil => rw [h1, List.append_nil] at hj; omega
  | cons y t =>
   have e : R[r1.length] = y := by simp only [h1]; rw [List.getElem_append_right (Nat.le_refl _)]; simp
   rw [e]
   exact h4 y t rfl
theorem lslice_head {P : Program} {t e : TypeId} {i : TypeInfo} {size : Nat} (ht : P.underlying t = some (.slice e)) (hi : P.info? e = some i) (hs : i.size = size) (A : Option Addr) (n c k : Nat) (hk : k ≤ c) (w : World) :
  (Instr.slice t (.slice A n c) none (some (.int .i64 (k : Int))) none).run P w = .ok (.slice A k c) w := by
 have he : P.elem t = e := by simp [Program.elem, ht]
 rw [run_slice_h w t A n c (by rw [he]; exact ht) .i64 k (by omega) (by omega), he]
 simp [sizeOf, typeInfo, hi, hs, sliced]
 cases A with
 | none => simp
 | some a => simp [Addr.add]
section
variable {w wr : World} {B : Nat}
theorem lb1 (h : Below w.heap.size w wr) (d : Nat) (o : Obj) : Below w.heap.size w ((wr.drewN d).alloc o) := (yaj h d).alloc h.size o
theorem lb2 (h : Below w.heap.size w wr) (d : Nat) (o o2 : Obj) : Below w.heap.size w (((wr.drewN d).alloc o).alloc o2) := (lb1 h d o).alloc (by have := h.size; simp; omega) o2
theorem lblk3 (wr : World) (d : Nat) (o : Obj) (t : TypeId) (cs : Array Value) : Blk (((wr.drewN d).alloc o).alloc (.cells cs t)) (wr.heap.size + 1) t cs := by
 have := Blk.new ((wr.drewN d).alloc o) t cs
 simpa using this
theorem lblk2 (wr : World) (d : Nat) (o : Obj) (t : TypeId) (cs : Array Value) : Blk (((wr.drewN d).alloc (.cells cs t)).alloc o) wr.heap.size t cs := (Blk.new (wr.drewN d) t cs).alloc o
theorem ybM {W : World} {g size : Nat} {t : TypeId} {cs : Array Value} (h : Blk W g t cs) (hn : cs.size = size) : Reads W W.heap.size size (some ⟨g, 0, none⟩) 1 cs.toList := by
 refine ⟨by simp [hn], fun _ => ⟨g, 0, rfl, h.lt, fun j u hu => ?_⟩⟩
 rw [Nat.zero_add, h.cell]
 simpa using hu
theorem yaG {W : World} {g B size : Nat} {e : TypeId} (h : Blk W g e #[]) (hb : B ≤ g) : W.ownsRow B e size (.slice (some ⟨g, 0, none⟩) 0 0) 0 [] :=
 ⟨by simp, Or.inr ⟨g, 0, #[], rfl, hb, h, Nat.le_refl _, by unfold maxLen; omega, by simp, by simp⟩⟩
end
section
variable {P : Program} {op : Op} {ty : TypeId} {pos : String} {af : Array Edge} {gd : Option (Nat × Bool)} {ys : Nat → Option Bool} {a : Act} {K : Act → World → Prop} {Q : Exit → Act → World → Prop} {E : Prop}
theorem yfL (d : Nat) {w : World} (h : if Region.wanted ⟨some d, op, ty, pos, af, gd⟩ ys = true then Oper.wp P ⟨some d, op, ty, pos, af, gd⟩ a w K Q else E) : if Region.wanted ⟨some d, op, ty, pos, af, gd⟩ ys = true then Oper.wp P ⟨some d, op, ty, pos, af, gd⟩ a w K Q else E := h
theorem lguard1 (d : Nat) (wr : World) {n : Nat} {o : Obj} (h : if Region.wanted ⟨some d, op, ty, pos, af, gd⟩ ys = true then Oper.wp P ⟨some d, op, ty, pos, af, gd⟩ a ((wr.drewN n).alloc o) K Q else E) : if Region.wanted ⟨some d, op, ty, pos, af, gd⟩ ys = true then Oper.wp P ⟨some d, op, ty, pos, af, gd⟩ a ((wr.drewN n).alloc o) K Q else E := h
theorem yfu (d : Nat) (wr : World) (cs : Array Value) {n : Nat} {t : TypeId} {o : Obj} (h : if Region.wanted ⟨some d, op, ty, pos, af, gd⟩ ys = true then Oper.wp P ⟨some d, op, ty, pos, af, gd⟩ a (((wr.drewN n).alloc (.cells cs t)).alloc o) K Q else E) : if Region.wanted ⟨some d, op, ty, pos, af, gd⟩ ys = true then Oper.wp P ⟨some d, op, ty, pos, af, gd⟩ a (((wr.drewN n).alloc (.cells cs t)).alloc o) K Q else E := h
theorem lguard3 (d : Nat) (wr : World) {o : Obj} (h : if Region.wanted ⟨some d, op, ty, pos, af, gd⟩ ys = true then Oper.wp P ⟨some d, op, ty, pos, af, gd⟩ a (wr.alloc o) K Q else E) : if Region.wanted ⟨some d, op, ty, pos, af, gd⟩ ys = true then Oper.wp P ⟨some d, op, ty, pos, af, gd⟩ a (wr.alloc o) K Q else E := h
end
set_option maxRecDepth 100000 in
set_option maxHeartbeats 40000000 in
theorem ydg (ok : Nat → Prop) (R : List LTh) (x : LTh) (A As : Option Addr) (n c cs : Nat) (w : World) (hm : n ≤ 100000) (hc : n ≤ c) (hok : ∀ b, w.heap.size ≤ b → ok b) (hR : LHRow w w.heap.size ok A n R) (hcs : x.syms.length ≤ cs) (hS : Reads w w.heap.size 1 As x.syms.length (ints (lsy x.syms)) ∧ LOk ok As x.syms.length) :
  Calls Tryz.prog 142 #[.slice A n c, .agg #[.int .i64 x.w, .slice As x.syms.length cs, .bool x.leaf]] w fun e w' => ∃ A' c', e = .returned (.slice A' (n + 1) c') ∧ n + 1 ≤ c' ∧ LHRow w' w'.heap.size ok A' (n + 1) (lput R x) ∧ Below w.heap.size w w' := by
 obtain ⟨en, hoA, xs, hrx, hmx⟩ := hR
 obtain ⟨i0, hi, hz0, hz1, hz2⟩ := info_parts lthing_info
 obtain ⟨j, hj, hput, hpass, hstop⟩ := lput_at x R
 have Hcell : Hid (∀ k (hk : k < R.length), ∃ b off, A = some ⟨b, off, none⟩ ∧ b < w.heap.size ∧ ∀ W, Below w.heap.size w W → W.cell? ⟨b, off + k * 3, none⟩ = some (.int .i64 R[k].w) ∧ W.cell? ⟨b, off + k * 3 + 2, none⟩ = some (.bool R[k].leaf)) := Lib.hid fun k hk => by
  obtain ⟨As2, cs2, h1, h2, h3, _, _⟩ := hmx.at k hk
  obtain ⟨b, off, e, hb, hcell⟩ := hrx.2 (by omega)
  refine ⟨b, off, e, hb, fun W hW => ⟨?_, ?_⟩⟩
  ·exact (hW.cell (p := ⟨b, off + k * 3, none⟩) hb).trans (hcell _ _ h1)
  ·exact (hW.cell (p := ⟨b, off + k * 3 + 2, none⟩) hb).trans (by rw [Nat.add_assoc]; exact hcell _ _ h3)
 have Hpass := Lib.hid hpass
 have Hstop := Lib.hid hstop
 have hjn : (j : Int) ≤ n := by omega
 have En := Lib.hid en
 have Hrx := Lib.hid hrx
 have Hmx := Lib.hid hmx
 have HS := Lib.hid hS
 have hlf := x.leaf
 clear hrx hmx hS hpass hstop
 obtain ⟨xw, hxw⟩ : ∃ xw, x.w = xw := ⟨_, rfl⟩
 obtain ⟨xl, hxl⟩ : ∃ xl, x.leaf = xl := ⟨_, rfl⟩
 obtain ⟨ns, hns⟩ : ∃ ns, x.syms.length = ns := ⟨_, rfl⟩
 rw [hxw, hxl, hns]
 have HX := Lib.hid (And.intro hxw (And.intro hxl hns))
 clear hxw hxl hns
 go_enter Tryz.func142, Tryz.ntmps142
 go_wp2
 go_loopw [5] (fun i wr => ∃ k : Nat, k ≤ j ∧ i = .int .i64 k ∧ Hid (Below w.heap.size w wr) ∧ Hid (Blk wr w.heap.size 153 #[.int .i64 xw, .slice As ns cs, .bool xl])) (fun i _ => j - (intOf i).toNat)
 case atStart => exact ⟨0, by omega, rfl, Lib.hid ((Below.refl _ _).alloc (Nat.le_refl _) _), Blk.new w _ _⟩
 case round =>
  obtain ⟨k, hk, rfl, Hb, HB⟩ := hrel
  have q0 : wr.cell? ⟨w.heap.size, 0, none⟩ = some (.int .i64 xw) := HB.out.cell 0
  have q1 : wr.cell? ⟨w.heap.size, 1, none⟩ = some (.slice As ns cs) := HB.out.cell 1
  have q2 : wr.cell? ⟨w.heap.size, 2, none⟩ = some (.bool xl) := HB.out.cell 2
  by_cases hlt : k < j
  ·have hkl : k < R.length := by omega
   obtain ⟨b, off, rfl, hb, hcell⟩ := Hcell.out k hkl
   obtain ⟨hx1, hx2⟩ := hcell wr Hb.out
   have hp := Hpass.out k hkl hlt
   rw [ybq, HX.out.1, HX.out.2.1] at hp
   have hki : (0 : Int) ≤ (k : Int) ∧ (k : Int) < n := by omega
   generalize R[k].w = yw at *
   generalize R[k].leaf = yl at *
   by_cases h1 : yw < xw
   ·go_wp2
    go_quiet (fail)
    go_wp2
    go_roundw
    case rel => exact ⟨k + 1, by omega, iv (by omega), yaj Hb.out _, HB.out.drewN _⟩
    case measure => simp only [intOf]; omega
   ·rcases hp with hp | ⟨hp, hp2⟩
    ·exact absurd hp h1
    ·subst hp
     have hbe : (yw == yw) = true := by simp
     have hlt0 : ¬ yw < yw := by omega
     clear h1
     cases yl with
     | true =>
      go_wp2
      go_quiet (fail)
      go_wp2
      go_roundw
      case rel => exact ⟨k + 1, by omega, iv (by omega), yaj Hb.out _, HB.out.drewN _⟩
      case measure => simp only [intOf]; omega
     | false =>
      rcases hp2 with hp2 | hp2
      ·cases hp2
      ·subst hp2
       go_wp2
       go_quiet (fail)
       go_wp2
       go_roundw
       case rel => exact ⟨k + 1, by omega, iv (by omega), yaj Hb.out _, HB.out.drewN _⟩
       case measure => simp only [intOf]; omega
  ·obtain rfl : k = j := by omega
   have hki : (0 : Int) ≤ (k : Int) ∧ (k : Int) ≤ c ∧ (k : Int) ≤ n ∧ (n : Int) ≤ 100000 := by omega
   have hk5 : k ≤ 100000 ∧ n - k ≤ 100000 := by omega
   have hsl1 := fun W => lslice_head (P := Tryz.prog) Tryz.underlying150 hi hz1 A n c k (by omega) W
   have hsl2 := fun W => yb5 (P := Tryz.prog) Tryz.underlying150 hi hz1 A n c k (by omega) W
   obtain ⟨Ad, hAd⟩ : ∃ Ad, (if c = k then A else A.map (·.add (k * 3))) = Ad := ⟨_, rfl⟩
   rw [hAd] at hsl2
   have Hone1 : Hid (∀ u ∈ xs.take (k * 3), u.oneCell' = true) := Lib.hid fun u hu => Hmx.out.one u (List.mem_of_mem_take hu)
   have Hone3 : Hid (∀ u ∈ xs.drop (k * 3), u.oneCell' = true) := Lib.hid fun u hu => Hmx.out.one u (List.mem_of_mem_drop hu)
   have Hone2 : Hid (∀ u ∈ [Value.int .i64 xw, .slice As ns cs, .bool xl], u.oneCell' = true) := Lib.hid fun u hu => by
    simp only [List.mem_cons, List.not_mem_nil, or_false] at hu
    rcases hu with rfl | rfl | rfl <;> rfl
   have Hrd1 : Hid (∀ W, Below wr.heap.size wr W → Reads W w.heap.size 3 A k (xs.take (k * 3))) := Lib.hid fun W hW => (Hrx.out.front3 (by omega) (by decide)).below (Hb.out.trans (hW.mono Hb.out.size))
   have Hrd3 : Hid (∀ W, Below wr.heap.size wr W → Reads W w.heap.size 3 Ad (n - k) (xs.drop (k * 3))) := Lib.hid fun W hW => by
    rw [← hAd]
    exact (Hrx.out.cut (by omega) (by omega)).below (Hb.out.trans (hW.mono Hb.out.size))
   have HSof : Hid (∀ W, Below wr.heap.size wr W → W.cell? ⟨w.heap.size, 0, none⟩ = some (.int .i64 xw) ∧ W.cell? ⟨w.heap.size, 1, none⟩ = some (.slice As ns cs) ∧ W.cell? ⟨w.heap.size, 2, none⟩ = some (.bool xl)) := Lib.hid fun W hW => ⟨(hW.cell (p := ⟨w.heap.size, 0, none⟩) HB.out.lt).trans q0, (hW.cell (p := ⟨w.heap.size, 1, none⟩) HB.out.lt).trans q1, (hW.cell (p := ⟨w.heap.size, 2, none⟩) HB.out.lt).trans q2⟩
   have Hfin : Hid (∀ A3 c3 w3, w3.ownsRow wr.heap.size 153 3 (.slice A3 (n + 1) c3) (n + 1) ((xs.take (k * 3) ++ [.int .i64 xw, .slice As ns cs, .bool xl]) ++ xs.drop (k * 3)) → Below wr.heap.size wr w3 → n + 1 ≤ c3 ∧ LHRow w3 w3.heap.size ok A3 (n + 1) (lput R x) ∧ Below w.heap.size w w3) := Lib.hid fun A3 c3 w3 ho hb => by
    have hbw := Hb.out.trans (hb.mono Hb.out.size)
    obtain ⟨A4, c4, e4, hc4, hr4⟩ := yae ho
    injection e4 with e5 _ e6
    subst e5
    subst e6
    have hm0 : LMem w w.heap.size ok xs (R.take k ++ R.drop k) := by rw [List.take_append_drop]; exact Hmx.out
    obtain ⟨h1, h2⟩ := hm0.parts
    rw [List.length_take, Nat.min_eq_left hj] at h1 h2
    obtain ⟨e7, e8, e9⟩ := HX.out
    refine ⟨hc4, ⟨by rw [hput, List.length_append, List.length_cons, List.length_take, List.length_drop]; omega, yg0 ho (fun b hb2 => hok b (Nat.le_trans Hb.out.size hb2)), _, hr4, ?_⟩, hbw⟩
    rw [hput, List.append_assoc]
    have h3 : LMem w w.heap.size ok ([.int .i64 xw, .slice As ns cs, .bool xl] ++ xs.drop (k * 3)) (x :: R.drop k) := ⟨As, ns, cs, xs.drop (k * 3), by rw [e7, e8]; rfl, e9.symm, by rw [← e9]; exact hcs, by rw [← e9]; exact HS.out, h2⟩
    exact ((h1.app h3).below hbw).more hbw.size
   by_cases hkn : k < n
   ·have hkl : k < R.length := by omega
    have hki2 : (k : Int) < (n : Int) := by omega
    obtain ⟨b, off, rfl, hb, hcell⟩ := Hcell.out k hkl
    obtain ⟨hx1, hx2⟩ := hcell wr Hb.out
    have hst : ¬ lle R[k] x = true := by rw [Hstop.out hkl]; decide
    rw [ybq, HX.out.1, HX.out.2.1] at hst
    clear hcell
    generalize R[k].w = yw at *
    generalize R[k].leaf = yl at *
    have h1 : ¬ yw < xw := fun h => hst (Or.inl h)
    by_cases h2 : yw = xw
    ·have hbe : (yw == xw) = true := by simpa using h2
     have hyl : yl = false := by
      cases yl with
      | false => rfl
      | true => exact absurd (Or.inr ⟨h2, Or.inl rfl⟩) hst
     have hxl : xl = true := by
      cases xl with
      | true => rfl
      | false => exact absurd (Or.inr ⟨h2, Or.inr rfl⟩) hst
     subst hyl
     subst hxl
     clear hst
     go_wp2
     go_quiet (fail)
     go_wp2
     go_region_held3 (fun w' => w'.cell? ⟨w.heap.size, 0, none⟩ = some (.int .i64 xw) ∧ w'.cell? ⟨w.heap.size, 1, none⟩ = some (.slice As ns cs) ∧ w'.cell? ⟨w.heap.size, 2, none⟩ = some (.bool true)) (first | go_keep | exact hS1) (first
      | (((with_reducible refine lguard1 48 wr ?_); refine yac (by rfl) (.tmp 44) (.tmp 47) 150 (by rfl) wr.heap.size 153 i0 _ 3 40 Tryz.underlying150 hi hz0 hz1 hz2 rfl (by decide) (.slice (some ⟨wr.heap.size, 0, none⟩) 0 0) (0) ([]) (by rfl) (yaG (Blk.new _ _ _) (by omega)) (some ⟨b, off, none⟩) (k) (c) (w.heap.size) (xs.take (k * 3)) (by rfl) (Hrd1.out _ (lb1 (Below.refl _ _) _ _)) (Hone1.out) (by unfold maxLen; omega) (by omega) (by simp) (k) (Nat.zero_add k) ?_; intro A1 c1 w1 hown1 hgrow1 _; have Hb1 : Hid (Below wr.heap.size wr w1) := Lib.hid (Below.grown (lb1 (Below.refl _ _) _ _) hgrow1 (by simp) (fun g hg => by injection hg with hg; simp at hg; omega)); have hS1 := HSof.out w1 Hb1.out; have Hown1 := Lib.hid (show w1.ownsRow wr.heap.size 153 3 (.slice A1 k c1) k (xs.take (k * 3)) by simpa using hown1); clear hown1 hgrow1))
      | (((with_reducible refine yfu 48 wr #[] ?_); refine yac (by rfl) (.tmp 44) (.tmp 47) 150 (by rfl) wr.heap.size 153 i0 _ 3 40 Tryz.underlying150 hi hz0 hz1 hz2 rfl (by decide) (.slice (some ⟨wr.heap.size, 0, none⟩) 0 0) (0) ([]) (by rfl) (yaG ((Blk.new _ _ _).alloc _) (by omega)) (some ⟨b, off, none⟩) (k) (c) (w.heap.size) (xs.take (k * 3)) (by rfl) (Hrd1.out _ (lb2 (Below.refl _ _) _ _ _)) (Hone1.out) (by unfold maxLen; omega) (by omega) (by simp; omega) (k) (Nat.zero_add k) ?_; intro A1 c1 w1 hown1 hgrow1 _; have Hb1 : Hid (Below wr.heap.size wr w1) := Lib.hid (Below.grown (lb2 (Below.refl _ _) _ _ _) hgrow1 (by simp; omega) (fun g hg => by injection hg with hg; simp at hg; omega)); have hS1 := HSof.out w1 Hb1.out; have HX1 : Hid (Blk w1 (wr.heap.size + 1) 153 #[.int .i64 xw, .slice As ns cs, .bool true]) := Lib.hid (Blk.grow' (lblk3 wr _ _ _ _) hgrow1 (by intro h; injection h with h; simp at h)); have Hown1 := Lib.hid (show w1.ownsRow wr.heap.size 153 3 (.slice A1 k c1) k (xs.take (k * 3)) by simpa using hown1); clear hown1 hgrow1))
      | (((with_reducible refine yfu 48 wr #[.int .i64 xw, .slice As ns cs, .bool true] ?_); refine yac (by rfl) (.tmp 44) (.tmp 47) 150 (by rfl) wr.heap.size 153 i0 _ 3 40 Tryz.underlying150 hi hz0 hz1 hz2 rfl (by decide) (.slice (some ⟨wr.heap.size + 1, 0, none⟩) 0 0) (0) ([]) (by rfl) (yaG (lblk3 _ _ _ _ _) (by omega)) (some ⟨b, off, none⟩) (k) (c) (w.heap.size) (xs.take (k * 3)) (by rfl) (Hrd1.out _ (lb2 (Below.refl _ _) _ _ _)) (Hone1.out) (by unfold maxLen; omega) (by omega) (by simp; omega) (k) (Nat.zero_add k) ?_; intro A1 c1 w1 hown1 hgrow1 _; have Hb1 : Hid (Below wr.heap.size wr w1) := Lib.hid (Below.grown (lb2 (Below.refl _ _) _ _ _) hgrow1 (by simp; omega) (fun g hg => by injection hg with hg; simp at hg; omega)); have hS1 := HSof.out w1 Hb1.out; have HX1 : Hid (Blk w1 (wr.heap.size) 153 #[.int .i64 xw, .slice As ns cs, .bool true]) := Lib.hid (Blk.grow' (lblk2 wr _ _ _ _) hgrow1 (by intro h; injection h with h; simp at h)); have Hown1 := Lib.hid (show w1.ownsRow wr.heap.size 153 3 (.slice A1 k c1) k (xs.take (k * 3)) by simpa using hown1); clear hown1 hgrow1))
      | (((with_reducible refine lguard3 51 w1 ?_); refine yac (by rfl) (.tmp 48) (.tmp 50) 150 (by rfl) wr.heap.size 153 i0 _ 3 40 Tryz.underlying150 hi hz0 hz1 hz2 rfl (by decide) (.slice A1 k c1) (k) (xs.take (k * 3)) (by rfl) (Hown1.out.alloc _) (some ⟨w1.heap.size, 0, none⟩) (1) (1) (_) ([.int .i64 xw, .slice As ns cs, .bool true]) (by rfl) (ybM (Blk.new _ _ _) rfl) (Hone2.out) (by unfold maxLen; omega) (by omega) (by have := Hb1.out.size; simp; omega) (k + 1) (rfl) ?_; intro A2 c2 w2 hown2 hgrow2 _; have Hb2 : Hid (Below wr.heap.size wr w2) := Lib.hid (Below.grown (Hb1.out.alloc Hb1.out.size _) hgrow2 (by have := Hb1.out.size; simp; omega) (fun g hg => (Hown1.out.lt g hg).1)); have hS1 := HSof.out w2 Hb2.out; have Hown2 := Lib.hid (show w2.ownsRow wr.heap.size 153 3 (.slice A2 (k + 1) c2) (k + 1) (xs.take (k * 3) ++ [.int .i64 xw, .slice As ns cs, .bool true]) by simpa using hown2); clear hown2 hgrow2))
      | (((with_reducible refine yfL 51 ?_); refine yac (by rfl) (.tmp 48) (.tmp 50) 150 (by rfl) wr.heap.size 153 i0 _ 3 40 Tryz.underlying150 hi hz0 hz1 hz2 rfl (by decide) (.slice A1 k c1) (k) (xs.take (k * 3)) (by rfl) (Hown1.out) (some ⟨_, 0, none⟩) (1) (1) (_) ([.int .i64 xw, .slice As ns cs, .bool true]) (by rfl) (ybM HX1.out rfl) (Hone2.out) (by unfold maxLen; omega) (by omega) (Hb1.out.size) (k + 1) (rfl) ?_; intro A2 c2 w2 hown2 hgrow2 _; have Hb2 : Hid (Below wr.heap.size wr w2) := Lib.hid (Below.grown (Hb1.out) hgrow2 (by have := Hb1.out.size; simp; omega) (fun g hg => (Hown1.out.lt g hg).1)); have hS1 := HSof.out w2 Hb2.out; have Hown2 := Lib.hid (show w2.ownsRow wr.heap.size 153 3 (.slice A2 (k + 1) c2) (k + 1) (xs.take (k * 3) ++ [.int .i64 xw, .slice As ns cs, .bool true]) by simpa using hown2); clear hown2 hgrow2))
      | (((with_reducible refine yfL 55 ?_); refine yac (by rfl) (.tmp 51) (.tmp 54) 150 (by rfl) wr.heap.size 153 i0 _ 3 40 Tryz.underlying150 hi hz0 hz1 hz2 rfl (by decide) (.slice A2 (k + 1) c2) (k + 1) (xs.take (k * 3) ++ [.int .i64 xw, .slice As ns cs, .bool true]) (by rfl) (Hown2.out) (Ad) (n - k) (c - k) (w.heap.size) (xs.drop (k * 3)) (by rfl) (Hrd3.out _ Hb2.out) (Hone3.out) (by unfold maxLen; omega) (by omega) (Hb2.out.size) (n + 1) (by omega) ?_; intro A3 c3 w3 hown3 hgrow3 _; have Hb3 : Hid (Below wr.heap.size wr w3) := Lib.hid (Below.grown Hb2.out hgrow3 Hb2.out.size (fun g hg => (Hown2.out.lt g hg).1)); have hS1 := HSof.out w3 Hb3.out; have Hown3 := Lib.hid hown3; clear hown3 hgrow3)))
     all_goals go_wp2
     all_goals go_ret
     all_goals (obtain ⟨f1, f2, f3⟩ := Hfin.out _ _ _ Hown3.out Hb3.out; exact ⟨A3, c3, rfl, f1, f2, f3⟩)
    ·have hbe : (yw == xw) = false := by simpa using h2
     have h4 : decide (yw < xw) = false := by simpa using h1
     clear hst h1 h2
     go_wp2
     go_quiet (fail)
     go_wp2
     go_region_held3 (fun w' => w'.cell? ⟨w.heap.size, 0, none⟩ = some (.int .i64 xw) ∧ w'.cell? ⟨w.heap.size, 1, none⟩ = some (.slice As ns cs) ∧ w'.cell? ⟨w.heap.size, 2, none⟩ = some (.bool xl)) (first | go_keep | exact hS1) (first
      | (((with_reducible refine lguard1 48 wr ?_); refine yac (by rfl) (.tmp 44) (.tmp 47) 150 (by rfl) wr.heap.size 153 i0 _ 3 40 Tryz.underlying150 hi hz0 hz1 hz2 rfl (by decide) (.slice (some ⟨wr.heap.size, 0, none⟩) 0 0) (0) ([]) (by rfl) (yaG (Blk.new _ _ _) (by omega)) (some ⟨b, off, none⟩) (k) (c) (w.heap.size) (xs.take (k * 3)) (by rfl) (Hrd1.out _ (lb1 (Below.refl _ _) _ _)) (Hone1.out) (by unfold maxLen; omega) (by omega) (by simp) (k) (Nat.zero_add k) ?_; intro A1 c1 w1 hown1 hgrow1 _; have Hb1 : Hid (Below wr.heap.size wr w1) := Lib.hid (Below.grown (lb1 (Below.refl _ _) _ _) hgrow1 (by simp) (fun g hg => by injection hg with hg; simp at hg; omega)); have hS1 := HSof.out w1 Hb1.out; have Hown1 := Lib.hid (show w1.ownsRow wr.heap.size 153 3 (.slice A1 k c1) k (xs.take (k * 3)) by simpa using hown1); clear hown1 hgrow1))
      | (((with_reducible refine yfu 48 wr #[] ?_); refine yac (by rfl) (.tmp 44) (.tmp 47) 150 (by rfl) wr.heap.size 153 i0 _ 3 40 Tryz.underlying150 hi hz0 hz1 hz2 rfl (by decide) (.slice (some ⟨wr.heap.size, 0, none⟩) 0 0) (0) ([]) (by rfl) (yaG ((Blk.new _ _ _).alloc _) (by omega)) (some ⟨b, off, none⟩) (k) (c) (w.heap.size) (xs.take (k * 3)) (by rfl) (Hrd1.out _ (lb2 (Below.refl _ _) _ _ _)) (Hone1.out) (by unfold maxLen; omega) (by omega) (by simp; omega) (k) (Nat.zero_add k) ?_; intro A1 c1 w1 hown1 hgrow1 _; have Hb1 : Hid (Below wr.heap.size wr w1) := Lib.hid (Below.grown (lb2 (Below.refl _ _) _ _ _) hgrow1 (by simp; omega) (fun g hg => by injection hg with hg; simp at hg; omega)); have hS1 := HSof.out w1 Hb1.out; have HX1 : Hid (Blk w1 (wr.heap.size + 1) 153 #[.int .i64 xw, .slice As ns cs, .bool xl]) := Lib.hid (Blk.grow' (lblk3 wr _ _ _ _) hgrow1 (by intro h; injection h with h; simp at h)); have Hown1 := Lib.hid (show w1.ownsRow wr.heap.size 153 3 (.slice A1 k c1) k (xs.take (k * 3)) by simpa using hown1); clear hown1 hgrow1))
      | (((with_reducible refine yfu 48 wr #[.int .i64 xw, .slice As ns cs, .bool xl] ?_); refine yac (by rfl) (.tmp 44) (.tmp 47) 150 (by rfl) wr.heap.size 153 i0 _ 3 40 Tryz.underlying150 hi hz0 hz1 hz2 rfl (by decide) (.slice (some ⟨wr.heap.size + 1, 0, none⟩) 0 0) (0) ([]) (by rfl) (yaG (lblk3 _ _ _ _ _) (by omega)) (some ⟨b, off, none⟩) (k) (c) (w.heap.size) (xs.take (k * 3)) (by rfl) (Hrd1.out _ (lb2 (Below.refl _ _) _ _ _)) (Hone1.out) (by unfold maxLen; omega) (by omega) (by simp; omega) (k) (Nat.zero_add k) ?_; intro A1 c1 w1 hown1 hgrow1 _; have Hb1 : Hid (Below wr.heap.size wr w1) := Lib.hid (Below.grown (lb2 (Below.refl _ _) _ _ _) hgrow1 (by simp; omega) (fun g hg => by injection hg with hg; simp at hg; omega)); have hS1 := HSof.out w1 Hb1.out; have HX1 : Hid (Blk w1 (wr.heap.size) 153 #[.int .i64 xw, .slice As ns cs, .bool xl]) := Lib.hid (Blk.grow' (lblk2 wr _ _ _ _) hgrow1 (by intro h; injection h with h; simp at h)); have Hown1 := Lib.hid (show w1.ownsRow wr.heap.size 153 3 (.slice A1 k c1) k (xs.take (k * 3)) by simpa using hown1); clear hown1 hgrow1))
      | (((with_reducible refine lguard3 51 w1 ?_); refine yac (by rfl) (.tmp 48) (.tmp 50) 150 (by rfl) wr.heap.size 153 i0 _ 3 40 Tryz.underlying150 hi hz0 hz1 hz2 rfl (by decide) (.slice A1 k c1) (k) (xs.take (k * 3)) (by rfl) (Hown1.out.alloc _) (some ⟨w1.heap.size, 0, none⟩) (1) (1) (_) ([.int .i64 xw, .slice As ns cs, .bool xl]) (by rfl) (ybM (Blk.new _ _ _) rfl) (Hone2.out) (by unfold maxLen; omega) (by omega) (by have := Hb1.out.size; simp; omega) (k + 1) (rfl) ?_; intro A2 c2 w2 hown2 hgrow2 _; have Hb2 : Hid (Below wr.heap.size wr w2) := Lib.hid (Below.grown (Hb1.out.alloc Hb1.out.size _) hgrow2 (by have := Hb1.out.size; simp; omega) (fun g hg => (Hown1.out.lt g hg).1)); have hS1 := HSof.out w2 Hb2.out; have Hown2 := Lib.hid (show w2.ownsRow wr.heap.size 153 3 (.slice A2 (k + 1) c2) (k + 1) (xs.take (k * 3) ++ [.int .i64 xw, .slice As ns cs, .bool xl]) by simpa using hown2); clear hown2 hgrow2))
      | (((with_reducible refine yfL 51 ?_); refine yac (by rfl) (.tmp 48) (.tmp 50) 150 (by rfl) wr.heap.size 153 i0 _ 3 40 Tryz.underlying150 hi hz0 hz1 hz2 rfl (by decide) (.slice A1 k c1) (k) (xs.take (k * 3)) (by rfl) (Hown1.out) (some ⟨_, 0, none⟩) (1) (1) (_) ([.int .i64 xw, .slice As ns cs, .bool xl]) (by rfl) (ybM HX1.out rfl) (Hone2.out) (by unfold maxLen; omega) (by omega) (Hb1.out.size) (k + 1) (rfl) ?_; intro A2 c2 w2 hown2 hgrow2 _; have Hb2 : Hid (Below wr.heap.size wr w2) := Lib.hid (Below.grown (Hb1.out) hgrow2 (by have := Hb1.out.size; simp; omega) (fun g hg => (Hown1.out.lt g hg).1)); have hS1 := HSof.out w2 Hb2.out; have Hown2 := Lib.hid (show w2.ownsRow wr.heap.size 153 3 (.slice A2 (k + 1) c2) (k + 1) (xs.take (k * 3) ++ [.int .i64 xw, .slice As ns cs, .bool xl]) by simpa using hown2); clear hown2 hgrow2))
      | (((with_reducible refine yfL 55 ?_); refine yac (by rfl) (.tmp 51) (.tmp 54) 150 (by rfl) wr.heap.size 153 i0 _ 3 40 Tryz.underlying150 hi hz0 hz1 hz2 rfl (by decide) (.slice A2 (k + 1) c2) (k + 1) (xs.take (k * 3) ++ [.int .i64 xw, .slice As ns cs, .bool xl]) (by rfl) (Hown2.out) (Ad) (n - k) (c - k) (w.heap.size) (xs.drop (k * 3)) (by rfl) (Hrd3.out _ Hb2.out) (Hone3.out) (by unfold maxLen; omega) (by omega) (Hb2.out.size) (n + 1) (by omega) ?_; intro A3 c3 w3 hown3 hgrow3 _; have Hb3 : Hid (Below wr.heap.size wr w3) := Lib.hid (Below.grown Hb2.out hgrow3 Hb2.out.size (fun g hg => (Hown2.out.lt g hg).1)); have hS1 := HSof.out w3 Hb3.out; have Hown3 := Lib.hid hown3; clear hown3 hgrow3)))
     all_goals go_wp2
     all_goals go_ret
     all_goals (obtain ⟨f1, f2, f3⟩ := Hfin.out _ _ _ Hown3.out Hb3.out; exact ⟨A3, c3, rfl, f1, f2, f3⟩)
   ·have hkn2 : ¬ (k : Int) < (n : Int) := by omega
    go_wp2
    go_quiet (fail)
    go_wp2
    go_region_held3 (fun w' => w'.cell? ⟨w.heap.size, 0, none⟩ = some (.int .i64 xw) ∧ w'.cell? ⟨w.heap.size, 1, none⟩ = some (.slice As ns cs) ∧ w'.cell? ⟨w.heap.size, 2, none⟩ = some (.bool xl)) (first | go_keep | exact hS1) (first
     | (((with_reducible refine lguard1 48 wr ?_); refine yac (by rfl) (.tmp 44) (.tmp 47) 150 (by rfl) wr.heap.size 153 i0 _ 3 40 Tryz.underlying150 hi hz0 hz1 hz2 rfl (by decide) (.slice (some ⟨wr.heap.size, 0, none⟩) 0 0) (0) ([]) (by rfl) (yaG (Blk.new _ _ _) (by omega)) (A) (k) (c) (w.heap.size) (xs.take (k * 3)) (by rfl) (Hrd1.out _ (lb1 (Below.refl _ _) _ _)) (Hone1.out) (by unfold maxLen; omega) (by omega) (by simp) (k) (Nat.zero_add k) ?_; intro A1 c1 w1 hown1 hgrow1 _; have Hb1 : Hid (Below wr.heap.size wr w1) := Lib.hid (Below.grown (lb1 (Below.refl _ _) _ _) hgrow1 (by simp) (fun g hg => by injection hg with hg; simp at hg; omega)); have hS1 := HSof.out w1 Hb1.out; have Hown1 := Lib.hid (show w1.ownsRow wr.heap.size 153 3 (.slice A1 k c1) k (xs.take (k * 3)) by simpa using hown1); clear hown1 hgrow1))
     | (((with_reducible refine yfu 48 wr #[] ?_); refine yac (by rfl) (.tmp 44) (.tmp 47) 150 (by rfl) wr.heap.size 153 i0 _ 3 40 Tryz.underlying150 hi hz0 hz1 hz2 rfl (by decide) (.slice (some ⟨wr.heap.size, 0, none⟩) 0 0) (0) ([]) (by rfl) (yaG ((Blk.new _ _ _).alloc _) (by omega)) (A) (k) (c) (w.heap.size) (xs.take (k * 3)) (by rfl) (Hrd1.out _ (lb2 (Below.refl _ _) _ _ _)) (Hone1.out) (by unfold maxLen; omega) (by omega) (by simp; omega) (k) (Nat.zero_add k) ?_; intro A1 c1 w1 hown1 hgrow1 _; have Hb1 : Hid (Below wr.heap.size wr w1) := Lib.hid (Below.grown (lb2 (Below.refl _ _) _ _ _) hgrow1 (by simp; omega) (fun g hg => by injection hg with hg; simp at hg; omega)); have hS1 := HSof.out w1 Hb1.out; have HX1 : Hid (Blk w1 (wr.heap.size + 1) 153 #[.int .i64 xw, .slice As ns cs, .bool xl]) := Lib.hid (Blk.grow' (lblk3 wr _ _ _ _) hgrow1 (by intro h; injection h with h; simp at h)); have Hown1 := Lib.hid (show w1.ownsRow wr.heap.size 153 3 (.slice A1 k c1) k (xs.take (k * 3)) by simpa using hown1); clear hown1 hgrow1))
     | (((with_reducible refine yfu 48 wr #[.int .i64 xw, .slice As ns cs, .bool xl] ?_); refine yac (by rfl) (.tmp 44) (.tmp 47) 150 (by rfl) wr.heap.size 153 i0 _ 3 40 Tryz.underlying150 hi hz0 hz1 hz2 rfl (by decide) (.slice (some ⟨wr.heap.size + 1, 0, none⟩) 0 0) (0) ([]) (by rfl) (yaG (lblk3 _ _ _ _ _) (by omega)) (A) (k) (c) (w.heap.size) (xs.take (k * 3)) (by rfl) (Hrd1.out _ (lb2 (Below.refl _ _) _ _ _)) (Hone1.out) (by unfold maxLen; omega) (by omega) (by simp; omega) (k) (Nat.zero_add k) ?_; intro A1 c1 w1 hown1 hgrow1 _; have Hb1 : Hid (Below wr.heap.size wr w1) := Lib.hid (Below.grown (lb2 (Below.refl _ _) _ _ _) hgrow1 (by simp; omega) (fun g hg => by injection hg with hg; simp at hg; omega)); have hS1 := HSof.out w1 Hb1.out; have HX1 : Hid (Blk w1 (wr.heap.size) 153 #[.int .i64 xw, .slice As ns cs, .bool xl]) := Lib.hid (Blk.grow' (lblk2 wr _ _ _ _) hgrow1 (by intro h; injection h with h; simp at h)); have Hown1 := Lib.hid (show w1.ownsRow wr.heap.size 153 3 (.slice A1 k c1) k (xs.take (k * 3)) by simpa using hown1); clear hown1 hgrow1))
     | (((with_reducible refine lguard3 51 w1 ?_); refine yac (by rfl) (.tmp 48) (.tmp 50) 150 (by rfl) wr.heap.size 153 i0 _ 3 40 Tryz.underlying150 hi hz0 hz1 hz2 rfl (by decide) (.slice A1 k c1) (k) (xs.take (k * 3)) (by rfl) (Hown1.out.alloc _) (some ⟨w1.heap.size, 0, none⟩) (1) (1) (_) ([.int .i64 xw, .slice As ns cs, .bool xl]) (by rfl) (ybM (Blk.new _ _ _) rfl) (Hone2.out) (by unfold maxLen; omega) (by omega) (by have := Hb1.out.size; simp; omega) (k + 1) (rfl) ?_; intro A2 c2 w2 hown2 hgrow2 _; have Hb2 : Hid (Below wr.heap.size wr w2) := Lib.hid (Below.grown (Hb1.out.alloc Hb1.out.size _) hgrow2 (by have := Hb1.out.size; simp; omega) (fun g hg => (Hown1.out.lt g hg).1)); have hS1 := HSof.out w2 Hb2.out; have Hown2 := Lib.hid (show w2.ownsRow wr.heap.size 153 3 (.slice A2 (k + 1) c2) (k + 1) (xs.take (k * 3) ++ [.int .i64 xw, .slice As ns cs, .bool xl]) by simpa using hown2); clear hown2 hgrow2))
     | (((with_reducible refine yfL 51 ?_); refine yac (by rfl) (.tmp 48) (.tmp 50) 150 (by rfl) wr.heap.size 153 i0 _ 3 40 Tryz.underlying150 hi hz0 hz1 hz2 rfl (by decide) (.slice A1 k c1) (k) (xs.take (k * 3)) (by rfl) (Hown1.out) (some ⟨_, 0, none⟩) (1) (1) (_) ([.int .i64 xw, .slice As ns cs, .bool xl]) (by rfl) (ybM HX1.out rfl) (Hone2.out) (by unfold maxLen; omega) (by omega) (Hb1.out.size) (k + 1) (rfl) ?_; intro A2 c2 w2 hown2 hgrow2 _; have Hb2 : Hid (Below wr.heap.size wr w2) := Lib.hid (Below.grown (Hb1.out) hgrow2 (by have := Hb1.out.size; simp; omega) (fun g hg => (Hown1.out.lt g hg).1)); have hS1 := HSof.out w2 Hb2.out; have Hown2 := Lib.hid (show w2.ownsRow wr.heap.size 153 3 (.slice A2 (k + 1) c2) (k + 1) (xs.take (k * 3) ++ [.int .i64 xw, .slice As ns cs, .bool xl]) by simpa using hown2); clear hown2 hgrow2))
     | (((with_reducible refine yfL 55 ?_); refine yac (by rfl) (.tmp 51) (.tmp 54) 150 (by rfl) wr.heap.size 153 i0 _ 3 40 Tryz.underlying150 hi hz0 hz1 hz2 rfl (by decide) (.slice A2 (k + 1) c2) (k + 1) (xs.take (k * 3) ++ [.int .i64 xw, .slice As ns cs, .bool xl]) (by rfl) (Hown2.out) (Ad) (n - k) (c - k) (w.heap.size) (xs.drop (k * 3)) (by rfl) (Hrd3.out _ Hb2.out) (Hone3.out) (by unfold maxLen; omega) (by omega) (Hb2.out.size) (n + 1) (by omega) ?_; intro A3 c3 w3 hown3 hgrow3 _; have Hb3 : Hid (Below wr.heap.size wr w3) := Lib.hid (Below.grown Hb2.out hgrow3 Hb2.out.size (fun g hg => (Hown2.out.lt g hg).1)); have hS1 := HSof.out w3 Hb3.out; have Hown3 := Lib.hid hown3; clear hown3 hgrow3)))
    all_goals go_wp2
    all_goals go_ret
    all_goals (obtain ⟨f1, f2, f3⟩ := Hfin.out _ _ _ Hown3.out Hb3.out; exact ⟨A3, c3, rfl, f1, f2, f3⟩)
def dig : Nat → Nat → List Nat
 | 0, _ => []
 | w + 1, n => dig w (n / 2) ++ [n % 2]
theorem yad : ∀ w n, (dig w n).length = w
 | 0, _ => rfl
 | w + 1, n => by simp [dig, yad w]
def Bin (l : List Nat) : Prop := ∀ d ∈ l, d < 2
theorem yfr : Bin [] := by simp [Bin]
theorem Bin.app {a b : List Nat} (h : Bin a) (k : Bin b) : Bin (a ++ b) := fun d hd => by
 rcases List.mem_append.1 hd with hd | hd
 ·exact h d hd
 ·exact k d hd
theorem ycF : ∀ w n, Bin (dig w n)
 | 0, _ => yfr
 | w + 1, n => (ycF w (n / 2)).app fun d hd => by
  rw [List.mem_singleton] at hd
  omega
theorem ycu : ∀ (a b n : Nat), dig (a + b) n = dig a (n / 2 ^ b) ++ dig b n
 | a, 0, n => by simp [dig]
 | a, b + 1, n => by
  show dig (a + b) (n / 2) ++ [n % 2] = _
  rw [ycu a b (n / 2), Nat.div_div_eq_div_mul, Nat.mul_comm 2, ← Nat.pow_succ, dig, List.append_assoc]
theorem ydA : ∀ w, dig w 0 = List.replicate w 0
 | 0 => rfl
 | w + 1 => by
  rw [dig, List.replicate_succ', Nat.zero_div, ydA w]
def num (l : List Nat) : Nat := l.foldl (fun s d => 2 * s + d) 0
theorem num_fold (l : List Nat) : ∀ s, l.foldl (fun s d => 2 * s + d) s = s * 2 ^ l.length + num l := by
 induction l with
 | nil => intro s; simp [num]
 | cons a t ih =>
  intro s
  have e : num (a :: t) = a * 2 ^ t.length + num t := by
   show (a :: t).foldl (fun s d => 2 * s + d) 0 = _
   rw [List.foldl_cons, ih]
   simp
  rw [List.foldl_cons, ih, e, List.length_cons, Nat.pow_succ]
  simp only [Nat.add_mul]
  rw [Nat.mul_comm 2 s, Nat.mul_assoc, Nat.mul_comm 2, Nat.add_assoc]
theorem ybP (a b : List Nat) : num (a ++ b) = num a * 2 ^ b.length + num b := by
 unfold num
 rw [List.foldl_append, num_fold]
 rfl
theorem ygt (a : List Nat) (d : Nat) : num (a ++ [d]) = 2 * num a + d := by
 rw [ybP]
 simp [num]
 omega
theorem ycK : ∀ w n, num (dig w n) = n % 2 ^ w
 | 0, n => by simp [dig, num, Nat.mod_one]
 | w + 1, n => by
  rw [dig, ygt, ycK w, Nat.pow_succ, Nat.mul_comm (2 ^ w), Nat.mod_mul]
  omega
theorem Bin.snoc {l : List Nat} {d : Nat} (h : Bin (l ++ [d])) : Bin l ∧ d < 2 :=
 ⟨fun x hx => h x (by simp [hx]), h d (by simp)⟩
theorem snoc_of {n : Nat} {l : List Nat} (h : l.length = n + 1) : ∃ a d, l = a ++ [d] ∧ a.length = n := by
 have hne : l ≠ [] := by
  rintro rfl
  simp at h
 exact ⟨l.dropLast, l.getLast hne, (List.dropLast_concat_getLast hne).symm, by simp; omega⟩
theorem num_lt_of : ∀ (n : Nat) (l : List Nat), l.length = n → Bin l → num l < 2 ^ n
 | 0, l, h, _ => by
  rw [List.length_eq_zero_iff.1 h]
  simp [num]
 | n + 1, l, h, hb => by
  obtain ⟨a, d, rfl, ha⟩ := snoc_of h
  have := num_lt_of n a ha hb.snoc.1
  have := hb.snoc.2
  rw [ygt, Nat.pow_succ]
  omega
theorem ydV {l : List Nat} (h : Bin l) : num l < 2 ^ l.length := num_lt_of _ l rfl h
theorem yd8 : ∀ (n : Nat) (l : List Nat), l.length = n → Bin l → dig n (num l) = l
 | 0, l, h, _ => by
  rw [List.length_eq_zero_iff.1 h]
  rfl
 | n + 1, l, h, hb => by
  obtain ⟨a, d, rfl, ha⟩ := snoc_of h
  have h1 := yd8 n a ha hb.snoc.1
  have := hb.snoc.2
  rw [ygt, dig, show (2 * num a + d) / 2 = num a from by omega, show (2 * num a + d) % 2 = d from by omega, h1]
theorem dig_num {l : List Nat} (h : Bin l) : dig l.length (num l) = l := yd8 _ l rfl h
theorem dig_mid (a p c n : Nat) : ((dig (a + p + c) n).drop a).take p = dig p (n / 2 ^ c) := by
 rw [ycu (a + p) c, ycu a p, List.append_assoc, List.drop_left' (yad _ _), List.take_left' (yad _ _)]
def text : List Nat → List UInt8
 | [] => []
 | a :: t => UInt8.ofNat (num ((a :: t).take 8) * 2 ^ (8 - ((a :: t).take 8).length)) :: text (t.drop 7)
termination_by l => l.length
decreasing_by simp; omega
theorem yck : text [] = [] := by rw [text]
theorem ydk (l : List Nat) (h : l ≠ []) : text l = UInt8.ofNat (num (l.take 8) * 2 ^ (8 - (l.take 8).length)) :: text (l.drop 8) := by
 cases l with
 | nil => exact absurd rfl h
 | cons a t => rw [text]; rfl
theorem ybz : ∀ (q : Nat) (A B : List Nat), A.length = 8 * q → text (A ++ B) = text A ++ text B
 | 0, A, B, h => by
  obtain rfl := List.length_eq_zero_iff.1 (show A.length = 0 by omega)
  simp [yck]
 | q + 1, A, B, h => by
  have hA : A ≠ [] := by
   rintro rfl
   simp at h
  rw [ydk (A ++ B) (by simp [hA]), ydk A hA, List.take_append_of_le_length (by omega), List.drop_append_of_le_length (by omega), ybz q (A.drop 8) B (by simp; omega)]
  rfl
theorem yb0 (B : List Nat) (h0 : 0 < B.length) (h8 : B.length ≤ 8) : text B = [UInt8.ofNat (num B * 2 ^ (8 - B.length))] := by
 rw [ydk B (by rintro rfl; simp at h0), List.take_of_length_le h8, List.drop_of_length_le h8, yck]
theorem ydT : ∀ (n : Nat) (l : List Nat), l.length ≤ n → (text l).length = (l.length + 7) / 8
 | 0, l, h => by
  obtain rfl := List.length_eq_zero_iff.1 (show l.length = 0 by omega)
  rw [yck]
  rfl
 | n + 1, l, h => by
  by_cases hl : l = []
  ·subst hl
   rw [yck]
   rfl
  ·have hpos : 0 < l.length := List.length_pos_iff.2 hl
   rw [ydk l hl, List.length_cons, ydT n _ (by simp; omega), List.length_drop]
   omega
theorem yaW (l : List Nat) : (text l).length = (l.length + 7) / 8 := ydT _ l (Nat.le_refl _)
def fr (l : List Nat) : Nat := (8 - l.length % 8) % 8
theorem fr_lt (l : List Nat) : fr l < 8 := by unfold fr; omega
theorem text_new (R P : List Nat) (hR : fr R = 0) (h0 : 0 < P.length) (h8 : P.length ≤ 8) : text (R ++ P) = text R ++ [UInt8.ofNat (num P * 2 ^ (8 - P.length))] := by
 rw [ybz (R.length / 8) R P (by unfold fr at hR; omega), yb0 P h0 h8]
theorem text_more (R P : List Nat) (f : Nat) (hR : fr R = f) (hf : 0 < f) (hb : Bin R) (hP : P.length ≤ f) :
  ∃ T b, text R = T ++ [b] ∧ text (R ++ P) = T ++ [UInt8.ofNat (b.toNat + num P * 2 ^ (f - P.length))] ∧ b.toNat % 2 ^ f = 0 := by
 have hf8 : f < 8 := by rw [← hR]; exact fr_lt R
 have hAl : (R.take (8 * (R.length / 8))).length = 8 * (R.length / 8) := by simp; omega
 have hBl : (R.drop (8 * (R.length / 8))).length = 8 - f := by simp; unfold fr at hR; omega
 have hsp := List.take_append_drop (8 * (R.length / 8)) R
 have hBb : Bin (R.drop (8 * (R.length / 8))) := fun d hd => hb d (List.mem_of_mem_drop hd)
 generalize R.take (8 * (R.length / 8)) = A at *
 generalize R.drop (8 * (R.length / 8)) = B at *
 have hnB := ydV hBb
 rw [hBl] at hnB
 have hsz : num B * 2 ^ f < 256 := by
  have h1 : num B * 2 ^ f < 2 ^ (8 - f) * 2 ^ f := Nat.mul_lt_mul_of_pos_right hnB (Nat.pow_pos (by omega))
  rw [← Nat.pow_add, show 8 - f + f = 8 from by omega] at h1
  exact h1
 refine ⟨text A, UInt8.ofNat (num B * 2 ^ f), ?_, ?_, ?_⟩
 ·rw [← hsp, ybz _ A B hAl, yb0 B (by omega) (by omega), hBl, show 8 - (8 - f) = f from by omega]
 ·rw [← hsp, List.append_assoc, ybz _ A (B ++ P) hAl, yb0 (B ++ P) (by rw [List.length_append]; omega) (by rw [List.length_append]; omega), ybP, List.length_append, hBl,
   show 8 - (8 - f + P.length) = f - P.length from by omega, ya0 _ hsz, Nat.add_mul, Nat.mul_assoc, ← Nat.pow_add, show P.length + (f - P.length) = f from by omega]
 ·rw [ya0 _ hsz]
  exact Nat.mul_mod_left _ _
def yag (s : List UInt8) : List Nat := s.flatMap fun b => dig 8 b.toNat
theorem yev (b : UInt8) (s : List UInt8) : yag (b :: s) = dig 8 b.toNat ++ yag s := rfl
theorem row_append (a b : List UInt8) : yag (a ++ b) = yag a ++ yag b := by simp [yag]
theorem yay (s : List UInt8) : (yag s).length = 8 * s.length := by
 induction s with
 | nil => rfl
 | cons b s ih => rw [yev, List.length_append, yad, ih, List.length_cons]; omega
theorem ycX : ∀ s, Bin (yag s)
 | [] => yfr
 | b :: s => (ycF 8 b.toNat).app (ycX s)
theorem row_drop : ∀ (s : List UInt8) (q : Nat), (yag s).drop (8 * q) = yag (s.drop q)
 | s, 0 => by simp
 | [], q + 1 => by simp [yag]
 | b :: s, q + 1 => by
  rw [yev, List.drop_succ_cons, ← row_drop s q, show 8 * (q + 1) = 8 + 8 * q from by omega, ← List.drop_drop, List.drop_left' (yad _ _)]
theorem row_mid (s : List UInt8) (q r p : Nat) (hq : q < s.length) (hr : r + p ≤ 8) : ((yag s).drop (8 * q + r)).take p = dig p (s[q].toNat / 2 ^ (8 - r - p)) := by
 rw [← List.drop_drop, row_drop, List.drop_eq_getElem_cons hq, yev, List.drop_append_of_le_length (by rw [yad]; omega), List.take_append_of_le_length (by rw [List.length_drop, yad]; omega)]
 have := dig_mid r p (8 - r - p) s[q].toNat
 rwa [show r + p + (8 - r - p) = 8 from by omega] at this
theorem ygO : ∀ (n : Nat) (R : List Nat), R.length ≤ n → Bin R → yag (text R) = R ++ List.replicate (fr R) 0
 | 0, R, h, _ => by
  obtain rfl := List.length_eq_zero_iff.1 (show R.length = 0 by omega)
  rw [yck]
  rfl
 | n + 1, R, h, hb => by
  by_cases hl : R = []
  ·subst hl
   rw [yck]
   rfl
  ·have hpos : 0 < R.length := List.length_pos_iff.2 hl
   rw [ydk R hl, yev, ygO n (R.drop 8) (by simp; omega) (fun d hd => hb d (List.mem_of_mem_drop hd))]
   have hb8 : Bin (R.take 8) := fun d hd => hb d (List.mem_of_mem_take hd)
   have hnB := ydV hb8
   have hl8 : (R.take 8).length ≤ 8 := by simp; omega
   have hsz : num (R.take 8) * 2 ^ (8 - (R.take 8).length) < 256 := by
    have h1 : num (R.take 8) * 2 ^ (8 - (R.take 8).length) < 2 ^ (R.take 8).length * 2 ^ (8 - (R.take 8).length) := Nat.mul_lt_mul_of_pos_right hnB (Nat.pow_pos (by omega))
    rw [← Nat.pow_add, show (R.take 8).length + (8 - (R.take 8).length) = 8 from by omega] at h1
    exact h1
   rw [ya0 _ hsz]
   have hd : dig 8 (num (R.take 8) * 2 ^ (8 - (R.take 8).length)) = R.take 8 ++ List.replicate (8 - (R.take 8).length) 0 := by
    have h1 := ycu (R.take 8).length (8 - (R.take 8).length) (num (R.take 8) * 2 ^ (8 - (R.take 8).length))
    rw [show (R.take 8).length + (8 - (R.take 8).length) = 8 from by omega, Nat.mul_div_cancel _ (Nat.pow_pos (by omega)), dig_num hb8] at h1
    rw [h1]
    congr 1
    have hz : num (dig (8 - (R.take 8).length) (num (R.take 8) * 2 ^ (8 - (R.take 8).length))) = 0 := by rw [ycK]; exact Nat.mul_mod_left _ _
    have h2 := dig_num (ycF (8 - (R.take 8).length) (num (R.take 8) * 2 ^ (8 - (R.take 8).length)))
    rw [hz, yad, ydA] at h2
    exact h2.symm
   rw [hd]
   by_cases h8 : 8 ≤ R.length
   ·rw [show (R.take 8).length = 8 from by simp; omega]
    simp only [Nat.sub_self, List.replicate_zero, List.append_nil]
    rw [← List.append_assoc, List.take_append_drop]
    congr 2
    unfold fr
    simp
    omega
   ·rw [List.take_of_length_le (by omega), List.drop_of_length_le (by omega), List.nil_append]
    have : fr ([] : List Nat) = 0 := rfl
    rw [this, List.replicate_zero, List.append_nil]
    congr 2
    unfold fr
    omega
theorem row_text {R : List Nat} (h : Bin R) : yag (text R) = R ++ List.replicate (fr R) 0 := ygO _ R (Nat.le_refl _) h
def fits (n w : Int) : Prop := 0 ≤ w ∧ w ≤ 32 ∧ 0 ≤ n ∧ n < 2 ^ w.toNat
instance (n w : Int) : Decidable (fits n w) := by unfold fits; infer_instance
def digI (n w : Int) : List Nat := dig w.toNat n.toNat
def ybv (l : List Nat) (at_ w : Int) : Int × Int :=
 if w < 0 ∨ 32 < w then (0, 2) else if at_ + w > l.length then (0, 4) else ((num ((l.drop at_.toNat).take w.toNat) : Int), 0)
def dg : Nat → Nat → List UInt8
 | 0, _ => []
 | f + 1, n => if n < 128 then [UInt8.ofNat n] else UInt8.ofNat (128 + n % 128) :: dg f (n / 128)
def putB (n : Int) : List UInt8 := if n < 0 then [] else dg 9 n.toNat
def putE (n : Int) : Int := if n < 0 then 2 else 0
def sizeF (n : Int) : Int := (putB n).length
def val : List UInt8 → Nat
 | [] => 0
 | b :: t => b.toNat % 128 + 128 * val t
def lead : List UInt8 → Nat
 | [] => 0
 | b :: t => if 128 ≤ b.toNat then lead t + 1 else 0
def getR (l : List UInt8) : Int × Nat × Int :=
 if 9 ≤ lead l then (0, 0, 5) else if lead l = l.length then (0, 0, 4) else if 0 < lead l ∧ l.getD (lead l) 0 = 0 then (0, 0, 5) else ((val (l.take (lead l + 1)) : Int), lead l + 1, 0)
def getF (l : List UInt8) (p : Int) : Int × Int × Int :=
 if 0 ≤ p ∧ p ≤ l.length then (if (getR (l.drop p.toNat)).2.2 = 0 then ((getR (l.drop p.toNat)).1, p + (getR (l.drop p.toNat)).2.1, 0) else (0, 0, (getR (l.drop p.toNat)).2.2)) else (0, 0, 2)
theorem dg_le : ∀ f n, (dg f n).length ≤ f
 | 0, _ => Nat.le_refl _
 | f + 1, n => by
  unfold dg
  split
  ·simp
  ·have := dg_le f (n / 128); simp; omega
theorem dg_pos (f n : Nat) : 0 < (dg (f + 1) n).length := by
 unfold dg
 split <;> simp
theorem lead_le : ∀ l, lead l ≤ l.length
 | [] => Nat.le_refl _
 | b :: t => by
  have := lead_le t
  unfold lead
  split <;> simp <;> omega
theorem lead_at : ∀ (l : List UInt8) (j : Nat) (h : j < lead l), 128 ≤ (l[j]'(Nat.lt_of_lt_of_le h (lead_le l))).toNat
 | [], j, h => by simp [lead] at h
 | b :: t, 0, h => by
  unfold lead at h
  split at h
  ·assumption
  ·simp at h
 | b :: t, j + 1, h => by
  unfold lead at h
  split at h
  ·simpa using lead_at t j (by omega)
  ·simp at h
theorem lead_end : ∀ (l : List UInt8) (h : lead l < l.length), (l[lead l]'h).toNat < 128
 | [], h => by simp at h
 | b :: t, h => by
  by_cases hb : 128 ≤ b.toNat
  ·have e : lead (b :: t) = lead t + 1 := by simp [lead, hb]
   have ht : lead t < t.length := by rw [e] at h; simpa using h
   have := lead_end t ht
   simp only [e, List.getElem_cons_succ]
   exact this
  ·have e : lead (b :: t) = 0 := by simp [lead, hb]
   simp only [e, List.getElem_cons_zero]
   omega
theorem lead_is (l : List UInt8) (k : Nat) (hk : k ≤ lead l) (h : k < l.length) (hb : (l[k]'h).toNat < 128) : lead l = k := by
 rcases Nat.lt_or_ge k (lead l) with hlt | hge
 ·have := lead_at l k hlt; omega
 ·omega
theorem lead_more (l : List UInt8) (k : Nat) (hk : k ≤ lead l) (h : k < l.length) (hb : 128 ≤ (l[k]'h).toNat) : k + 1 ≤ lead l := by
 rcases Nat.lt_or_ge k (lead l) with hlt | hge
 ·omega
 ·have e : lead l = k := by omega
  have hh : lead l < l.length := by omega
  have := lead_end l hh
  simp only [e] at this
  omega
theorem val_lt : ∀ l, val l < 128 ^ l.length
 | [] => by simp [val]
 | b :: t => by
  have := val_lt t
  have hb := Nat.mod_lt b.toNat (by omega : 0 < 128)
  simp only [val, List.length_cons, Nat.pow_succ]
  omega
theorem val_snoc : ∀ (l : List UInt8) (b : UInt8), val (l ++ [b]) = val l + 128 ^ l.length * (b.toNat % 128)
 | [], b => by simp [val]
 | a :: t, b => by
  simp only [List.cons_append, val, val_snoc t b, List.length_cons, Nat.pow_succ]
  rw [Nat.mul_add, ← Nat.mul_assoc, Nat.mul_comm 128 (128 ^ t.length)]
  omega
theorem yge (l : List UInt8) (k : Nat) (h : k < l.length) : val (l.take (k + 1)) = val (l.take k) + 128 ^ k * ((l[k]'h).toNat % 128) := by
 rw [List.take_succ_eq_append_getElem h, val_snoc]
 simp [Nat.min_eq_left (Nat.le_of_lt h)]
theorem dg_val : ∀ (f n : Nat), n < 128 ^ f → val (dg f n) = n
 | 0, n, h => by simp at h; subst h; rfl
 | f + 1, n, h => by
  unfold dg
  split
  ·rename_i h1
   simp only [val, ya0 n (by omega)]
   omega
  ·have hd : n / 128 < 128 ^ f := by rw [Nat.div_lt_iff_lt_mul (by omega)]; rw [Nat.pow_succ] at h; exact h
   simp only [val, ya0 (128 + n % 128) (by omega), dg_val f _ hd]
   omega
theorem dg_lead : ∀ (f n : Nat) (rest : List UInt8), n < 128 ^ (f + 1) → lead (dg (f + 1) n ++ rest) = (dg (f + 1) n).length - 1
 | f, n, rest, h => by
  by_cases h1 : n < 128
  ·have e : dg (f + 1) n = [UInt8.ofNat n] := by simp [dg, h1]
   rw [e]
   simp [lead, ya0 n (by omega)]
   omega
  ·have e : dg (f + 1) n = UInt8.ofNat (128 + n % 128) :: dg f (n / 128) := by simp [dg, h1]
   cases f with
   | zero => simp at h; omega
   | succ f =>
    have hd : n / 128 < 128 ^ (f + 1) := by rw [Nat.div_lt_iff_lt_mul (by omega)]; rw [Nat.pow_succ] at h; exact h
    have ih := dg_lead f (n / 128) rest hd
    have hp := dg_pos f (n / 128)
    rw [e, List.cons_append]
    simp only [lead, ya0 (128 + n % 128) (by omega), ih, List.length_cons]
    rw [if_pos (by omega)]
    omega
theorem dg_last : ∀ (f n : Nat), n < 128 ^ (f + 1) → 1 < (dg (f + 1) n).length → (dg (f + 1) n).getLast? ≠ some 0
 | f, n, h, hl => by
  by_cases h1 : n < 128
  ·simp [dg, h1] at hl
  ·have e : dg (f + 1) n = UInt8.ofNat (128 + n % 128) :: dg f (n / 128) := by simp [dg, h1]
   cases f with
   | zero => simp at h; omega
   | succ f =>
    have hd : n / 128 < 128 ^ (f + 1) := by rw [Nat.div_lt_iff_lt_mul (by omega)]; rw [Nat.pow_succ] at h; exact h
    have hp := dg_pos f (n / 128)
    rw [e]
    obtain ⟨a, t, ht⟩ : ∃ a t, dg (f + 1) (n / 128) = a :: t := by
     cases hx : dg (f + 1) (n / 128) with
     | nil => rw [hx] at hp; simp at hp
     | cons a t => exact ⟨a, t, rfl⟩
    rw [ht, List.getLast?_cons_cons, ← ht]
    by_cases h2 : n / 128 < 128
    ·have e2 : dg (f + 1) (n / 128) = [UInt8.ofNat (n / 128)] := by simp [dg, h2]
     rw [e2]
     simp only [List.getLast?_singleton, ne_eq, Option.some.injEq]
     intro hz
     have := congrArg UInt8.toNat hz
     rw [ya0 _ (by omega)] at this
     simp at this
     omega
    ·refine dg_last f (n / 128) hd ?_
     have e2 : dg (f + 1) (n / 128) = UInt8.ofNat (128 + n / 128 % 128) :: dg f (n / 128 / 128) := by simp [dg, h2]
     cases f with
     | zero => simp at hd; omega
     | succ f => rw [e2]; have := dg_pos f (n / 128 / 128); simp; omega
theorem pow9 : (128 : Nat) ^ 9 = 9223372036854775808 := by decide
theorem getR_put (n : Nat) (rest : List UInt8) (h : n < 9223372036854775808) : getR (dg 9 n ++ rest) = ((n : Int), (dg 9 n).length, 0) := by
 rw [← pow9] at h
 have hl : lead (dg 9 n ++ rest) = (dg 9 n).length - 1 := dg_lead 8 n rest h
 have hp : 0 < (dg 9 n).length := dg_pos 8 n
 have hle := dg_le 9 n
 unfold getR
 rw [hl]
 have hlen : (dg 9 n ++ rest).length = (dg 9 n).length + rest.length := List.length_append
 rw [if_neg (by omega), if_neg (by omega)]
 have hx : (dg 9 n ++ rest).getD ((dg 9 n).length - 1) 0 = (dg 9 n).getLast?.getD 0 := by
  rw [List.getLast?_eq_getElem?, List.getD_eq_getElem?_getD, List.getElem?_append_left (by omega)]
 have hz : ¬ (0 < (dg 9 n).length - 1 ∧ (dg 9 n ++ rest).getD ((dg 9 n).length - 1) 0 = 0) := by
  rintro ⟨h1, h2⟩
  have hne : (dg 9 n).getLast? ≠ some 0 := dg_last 8 n h (by show 1 < (dg 9 n).length; omega)
  rw [hx] at h2
  cases hg : (dg 9 n).getLast? with
  | none => simp at hg; rw [hg] at hp; simp at hp
  | some b => rw [hg] at h2 hne; simp at h2; exact hne (by rw [h2])
 rw [if_neg hz, show (dg 9 n).length - 1 + 1 = (dg 9 n).length from by omega, List.take_left' rfl, dg_val 9 n h]
theorem getF_put (pre rest : List UInt8) (n : Nat) (h : n < 9223372036854775808) : getF (pre ++ (dg 9 n ++ rest)) pre.length = ((n : Int), (pre.length : Int) + (dg 9 n).length, 0) := by
 unfold getF
 rw [if_pos ⟨by omega, by rw [List.length_append]; omega⟩, Int.toNat_natCast, List.drop_left' rfl, getR_put n rest h]
 simp
theorem dg_of_lead : ∀ (f : Nat) (l : List UInt8), lead l < f + 1 → (h : lead l < l.length) → (lead l = 0 ∨ l.getD (lead l) 0 ≠ 0) → dg (f + 1) (val (l.take (lead l + 1))) = l.take (lead l + 1)
 | f, [], _, h, _ => by simp at h
 | f, b :: t, hf, h, hz => by
  have hb256 := u8_lt b
  by_cases hb : 128 ≤ b.toNat
  ·have e : lead (b :: t) = lead t + 1 := by simp [lead, hb]
   have ht : lead t < t.length := by rw [e] at h; simpa using h
   cases f with
   | zero => omega
   | succ f =>
    have hz' : t.getD (lead t) 0 ≠ 0 := by
     rcases hz with h0 | h0
     ·omega
     ·rw [e] at h0; simpa using h0
    have ih := dg_of_lead f t (by omega) ht (Or.inr hz')
    rw [e, List.take_succ_cons]
    -- the value behind is not 0
    have hend := lead_end t ht
    have hv : val (t.take (lead t + 1)) = val (t.take (lead t)) + 128 ^ lead t * ((t[lead t]'ht).toNat % 128) := yge t _ ht
    have hne : (t[lead t]'ht).toNat ≠ 0 := by
     intro h0
     refine hz' ?_
     rw [List.getD_eq_getElem?_getD, List.getElem?_eq_getElem ht]
     exact u8_eq (by simpa using h0)
    have hpos : 0 < 128 ^ lead t * ((t[lead t]'ht).toNat % 128) := Nat.mul_pos (Nat.pow_pos (by omega)) (by omega)
    have hvpos : 0 < val (t.take (lead t + 1)) := by omega
    simp only [val]
    generalize val (t.take (lead t + 1)) = v at *
    have hn : ¬ b.toNat % 128 + 128 * v < 128 := by omega
    have hdiv : (b.toNat % 128 + 128 * v) / 128 = v := by omega
    have hmod : (b.toNat % 128 + 128 * v) % 128 = b.toNat % 128 := by omega
    rw [dg, if_neg hn, hdiv, hmod, ih]
    congr 1
    exact u8_eq (by rw [ya0 _ (by omega)]; omega)
  ·have e : lead (b :: t) = 0 := by simp [lead, hb]
   rw [e]
   have hv : val (List.take (0 + 1) (b :: t)) = b.toNat := by simp [val]; omega
   rw [hv, dg, if_pos (by omega)]
   simp
theorem getR_ok (l : List UInt8) (h : (getR l).2.2 = 0) : ∃ m : Nat, m < 9223372036854775808 ∧ (getR l).1 = m ∧ 0 < (getR l).2.1 ∧ (getR l).2.1 ≤ l.length ∧ l.take (getR l).2.1 = dg 9 m := by
 unfold getR at h ⊢
 by_cases h1 : 9 ≤ lead l
 ·rw [if_pos h1] at h; simp at h
 ·rw [if_neg h1] at h ⊢
  by_cases h2 : lead l = l.length
  ·rw [if_pos h2] at h; simp at h
  ·rw [if_neg h2] at h ⊢
   by_cases h3 : 0 < lead l ∧ l.getD (lead l) 0 = 0
   ·rw [if_pos h3] at h; simp at h
   ·rw [if_neg h3]
    have hlt : lead l < l.length := by have := lead_le l; omega
    have hd := dg_of_lead 8 l (by omega) hlt (by
     by_cases h0 : lead l = 0
     ·exact Or.inl h0
     ·exact Or.inr fun hc => h3 ⟨by omega, hc⟩)
    refine ⟨val (l.take (lead l + 1)), ?_, rfl, by simp, by simp only; omega, hd.symm⟩
    have := val_lt (l.take (lead l + 1))
    rw [← pow9]
    refine Nat.lt_of_lt_of_le this (Nat.pow_le_pow_right (by omega) ?_)
    simp; omega
def val8 : List UInt8 → Nat
 | [] => 0
 | b :: t => b.toNat + 256 * val8 t
def ya8 (l : List UInt8) (p w : Int) : Int × Int × Int :=
 if 1 ≤ w ∧ w ≤ 8 ∧ 0 ≤ p ∧ p ≤ l.length then
  if l.length < p + w then (0, 0, 4)
  else if 9223372036854775808 ≤ val8 ((l.drop p.toNat).take w.toNat) then (0, 0, 5)
  else ((val8 ((l.drop p.toNat).take w.toNat) : Int), p + w, 0)
 else (0, 0, 2)
theorem val8_lt : ∀ l, val8 l < 256 ^ l.length
 | [] => by simp [val8]
 | b :: t => by
  have := val8_lt t
  have hb := u8_lt b
  simp only [val8, List.length_cons, Nat.pow_succ]
  omega
theorem val8_snoc : ∀ (l : List UInt8) (b : UInt8), val8 (l ++ [b]) = val8 l + 256 ^ l.length * b.toNat
 | [], b => by simp [val8]
 | a :: t, b => by
  simp only [List.cons_append, val8, val8_snoc t b, List.length_cons, Nat.pow_succ]
  rw [Nat.mul_add, ← Nat.mul_assoc, Nat.mul_comm 256 (256 ^ t.length)]
  omega
theorem val8_take (l : List UInt8) (k : Nat) (h : k < l.length) : val8 (l.take (k + 1)) = val8 (l.take k) + 256 ^ k * (l[k]'h).toNat := by
 rw [List.take_succ_eq_append_getElem h, val8_snoc]
 simp [Nat.min_eq_left (Nat.le_of_lt h)]
theorem yec {n : Int} (h : 0 ≤ n) : putB n = dg 9 n.toNat := by unfold putB; rw [if_neg (by omega)]
def trip (r : Int × Int × Int) : Value := .tuple #[.int .i64 r.1, .int .i64 r.2.1, .int .i64 r.2.2]
theorem ycB (l : List UInt8) (p : Int) (w : World) : Calls Tryz.prog 158 #[.string ⟨l.toArray⟩, .int .i64 p] w fun e w' => e = .returned (.bool (decide (0 ≤ p) && decide (p ≤ l.length))) ∧ w = w' := by
 go_enter Tryz.func158, Tryz.ntmps158
 go_wp2
 ·rename_i h
  go_ret
  exact ⟨by simp [h], rfl⟩
 ·rename_i h
  go_ret
  exact ⟨by simp; omega, rfl⟩
theorem pow128 (k : Nat) : (128 : Nat) ^ k = 2 ^ (7 * k) := by rw [Nat.pow_mul]
theorem pow256 (k : Nat) : (256 : Nat) ^ k = 2 ^ (8 * k) := by rw [Nat.pow_mul]
theorem or_digit (X b k : Nat) (hX : X < 128 ^ k) (hk : k < 9) : bits .or .i64 (X : Int) (wrap64 ((b : Int) % 128 * 2 ^ (7 * k))) = ((X + 128 ^ k * (b % 128) : Nat) : Int) := by
 have hb : b % 128 < 128 := Nat.mod_lt _ (by omega)
 have h1 : X + 128 ^ k * (b % 128) < 128 ^ (k + 1) := by
  rw [Nat.pow_succ]
  have : 128 ^ k * (b % 128) ≤ 128 ^ k * 127 := Nat.mul_le_mul_left _ (by omega)
  omega
 have h2 : 128 ^ (k + 1) ≤ 128 ^ 9 := Nat.pow_le_pow_right (by omega) (by omega)
 rw [pow9] at h2
 have e : ((X : Int) + (b : Int) % 128 * 2 ^ (7 * k)) = ((X + 128 ^ k * (b % 128) : Nat) : Int) := by
  rw [pow128, Int.natCast_add, Int.natCast_mul, Int.natCast_pow, Int.natCast_emod, Int.mul_comm]
  rfl
 have hX' : (X : Int) < 2 ^ (7 * k) := by
  have : ((X : Nat) : Int) < ((2 ^ (7 * k) : Nat) : Int) := by rw [← pow128]; exact Int.ofNat_lt.2 hX
  rwa [Int.natCast_pow] at this
 rw [or_i64 (X : Int) ((b : Int) % 128) (7 * k) (by omega) hX' (by omega) (by rw [e]; omega), e]
section
variable {l : List UInt8} {p : Nat} (hp : p ≤ l.length)
include hp
theorem getF_err {e : Int} (he : e ≠ 0) (h : getR (l.drop p) = (0, 0, e)) : getF l p = (0, 0, e) := by
 unfold getF
 rw [if_pos ⟨by omega, by omega⟩, Int.toNat_natCast, h, if_neg he]
theorem getF_form (h : 9 ≤ lead (l.drop p)) : getF l p = (0, 0, 5) := getF_err hp (by decide) (by unfold getR; rw [if_pos h])
theorem getF_short (h : lead (l.drop p) < 9) (h2 : lead (l.drop p) = l.length - p) : getF l p = (0, 0, 4) := getF_err hp (by decide) (by unfold getR; rw [if_neg (by omega), if_pos (by rw [List.length_drop]; exact h2)])
theorem getF_zero (h : lead (l.drop p) < 9) (h2 : lead (l.drop p) < l.length - p) (h3 : 0 < lead (l.drop p)) (h4 : l[p + lead (l.drop p)]'(by omega) = 0) : getF l p = (0, 0, 5) := getF_err hp (by decide) (by
 have hz : (l.drop p).getD (lead (l.drop p)) 0 = 0 := by
  rw [List.getD_eq_getElem?_getD, List.getElem?_drop, List.getElem?_eq_getElem (by omega), h4]
  rfl
 unfold getR
 rw [if_neg (by omega), if_neg (by rw [List.length_drop]; omega), if_pos ⟨h3, hz⟩])
theorem getF_ok (h : lead (l.drop p) < 9) (h2 : lead (l.drop p) < l.length - p) (h4 : lead (l.drop p) = 0 ∨ l[p + lead (l.drop p)]'(by omega) ≠ 0) : getF l p = ((val ((l.drop p).take (lead (l.drop p) + 1)) : Int), (p : Int) + ((lead (l.drop p) + 1 : Nat) : Int), 0) := by
 have e : getR (l.drop p) = ((val ((l.drop p).take (lead (l.drop p) + 1)) : Int), lead (l.drop p) + 1, 0) := by
  unfold getR
  rw [if_neg (by omega), if_neg (by rw [List.length_drop]; omega), if_neg ?_]
  rintro ⟨h5, h6⟩
  rw [List.getD_eq_getElem?_getD, List.getElem?_drop, List.getElem?_eq_getElem (by omega)] at h6
  rcases h4 with h4 | h4
  ·omega
  ·exact h4 h6
 unfold getF
 rw [if_pos ⟨by omega, by omega⟩, Int.toNat_natCast, e]
 simp
end
set_option maxRecDepth 100000 in
theorem get_in (l : List UInt8) (p : Nat) (w : World) (hp : p ≤ l.length) (hl : l.length ≤ 4611686018427387904) : Calls Tryz.prog 146 #[.string ⟨l.toArray⟩, .int .i64 p] w fun e w' => e = .returned (trip (getF l p)) ∧ w = w' := by
 go_enter Tryz.func146, Tryz.ntmps146
 go_wp2
 go_step3
 go_wp2_with (refine (ycB l p w).mono ?_; rintro e w1 ⟨rfl, rfl⟩; rw [show (decide (0 ≤ (p : Int)) && decide ((p : Int) ≤ l.length)) = true from by simp; omega])
 go_step3
 go_wp2
 go_loop [4, 13] (fun n i => ∃ (k X : Nat), k ≤ 9 ∧ p + k ≤ l.length ∧ i = .int .i64 k ∧ n = .int .i64 X ∧ Hid (k ≤ lead (l.drop p) ∧ X = val ((l.drop p).take k))) (fun _ i => match i with | .int _ m => 9 - m.toNat | _ => 0)
 case atStart => exact ⟨0, 0, by omega, by omega, rfl, rfl, ⟨by omega, by simp [val]⟩⟩
 case round =>
  obtain ⟨k, X, hk, hpk, rfl, rfl, hd⟩ := hrel
  go_wp2
  ·rename_i hx _
   have hx : p + k = l.length := by have := WalkArith.int_eq hx; omega
   have hle := lead_le (l.drop p)
   rw [List.length_drop] at hle
   try rw [Exit.noGoto_ret]
   go_ret3
   refine ⟨?_, rfl⟩
   rw [getF_short hp (by have := hd.out.1; omega) (by have := hd.out.1; omega)]
   rfl
  ·-- a byte that goes on
   rename_i hx hin _ _ hb
   have hlt : p + k < l.length := by omega
   rw [ycZ] at hb ⊢
   have hb' : 128 ≤ (l[p + k]).toNat := by omega
   obtain ⟨hd1, hd2⟩ := hd.out
   have hdl : k < (l.drop p).length := by rw [List.length_drop]; omega
   have hge : (l.drop p)[k]'hdl = l[p + k] := List.getElem_drop ..
   have hmore := lead_more (l.drop p) k hd1 hdl (by rw [hge]; exact hb')
   have hXlt : X < 128 ^ k := by
    rw [hd2]
    have := val_lt ((l.drop p).take k)
    rwa [List.length_take, Nat.min_eq_left (by omega)] at this
   rw [or_digit X _ k hXlt (by omega)]
   refine ⟨⟨k + 1, X + 128 ^ k * ((l[p + k]).toNat % 128), by omega, by omega, iv (by omega), rfl, hmore, ?_⟩, ?_⟩
   ·rw [yge _ k hdl, hge, ← hd2]
   ·show 9 - Int.toNat _ < 9 - Int.toNat _
    omega
  ·-- a last byte of 0 that is not the only one
   rename_i hb0 hk0
   have hlt : p + k < l.length := by omega
   rw [ycZ] at hb0
   obtain ⟨hd1, hd2⟩ := hd.out
   have hdl : k < (l.drop p).length := by rw [List.length_drop]; omega
   have hge : (l.drop p)[k]'hdl = l[p + k] := List.getElem_drop ..
   have hlead := lead_is (l.drop p) k hd1 hdl (by rw [hge]; omega)
   rw [Exit.noGoto_ret]
   go_ret3
   refine ⟨?_, rfl⟩
   rw [getF_zero hp (by omega) (by omega) (by omega) (by simp only [hlead]; exact u8_eq (by simpa using hb0))]
   rfl
  ·-- a 0 that is the only byte
   rename_i hb0 hk0
   have hlt : p + k < l.length := by omega
   rw [ycZ] at hb0
   obtain ⟨hd1, hd2⟩ := hd.out
   have hk0' : k = 0 := by omega
   subst hk0'
   have hdl : 0 < (l.drop p).length := by rw [List.length_drop]; omega
   have hge : (l.drop p)[0]'hdl = l[p + 0] := List.getElem_drop ..
   have hlead := lead_is (l.drop p) 0 hd1 hdl (by rw [hge]; omega)
   rw [Exit.noGoto_ret]
   go_ret3
   refine ⟨?_, rfl⟩
   rw [getF_ok hp (by omega) (by omega) (Or.inl hlead), hlead, yge _ 0 hdl, hge, hb0]
   simp at hd2
   subst hd2
   refine tv _ _ _ _ _ _ ?_
   have h00 := or_digit 0 0 0 (by decide) (by decide)
   simp [val] at h00 ⊢
   exact h00
  ·rename_i hb hb0
   have hlt : p + k < l.length := by omega
   rw [ycZ] at hb hb0
   rw [ycZ]
   obtain ⟨hd1, hd2⟩ := hd.out
   have hdl : k < (l.drop p).length := by rw [List.length_drop]; omega
   have hge : (l.drop p)[k]'hdl = l[p + k] := List.getElem_drop ..
   have hlead := lead_is (l.drop p) k hd1 hdl (by rw [hge]; omega)
   have hXlt : X < 128 ^ k := by
    rw [hd2]
    have := val_lt ((l.drop p).take k)
    rwa [List.length_take, Nat.min_eq_left (by omega)] at this
   rw [or_digit X _ k hXlt (by omega)]
   rw [Exit.noGoto_ret]
   go_ret3
   refine ⟨?_, rfl⟩
   rw [getF_ok hp (by omega) (by omega) (Or.inr (by simp only [hlead]; exact fun h => hb0 (by rw [h]; rfl))), hlead, yge _ k hdl, hge, ← hd2]
   refine tv _ _ _ _ _ _ ?_
   simp only [Prod.mk.injEq, true_and, and_true]
   omega
  ·exfalso
   have := WalkArith.int_ne (by assumption : ((p : Int) + (k : Int) == (l.length : Int)) = false)
   omega
  ·rename_i hx
   go_ret3
   refine ⟨?_, rfl⟩
   rw [getF_form hp (by have := hd.out.1; omega)]
   rfl
theorem get_any (l : List UInt8) (p : Int) (w : World) (hl : l.length ≤ 4611686018427387904) : Calls Tryz.prog 146 #[.string ⟨l.toArray⟩, .int .i64 p] w fun e w' => e = .returned (trip (getF l p)) ∧ w = w' := by
 by_cases hp : 0 ≤ p ∧ p ≤ l.length
 ·obtain ⟨q, rfl⟩ := Int.eq_ofNat_of_zero_le hp.1
  exact get_in l q w (by omega) hl
 ·have fin : getF l p = (0, 0, 2) := by unfold getF; rw [if_neg hp]
  rw [fin]
  clear fin
  go_enter Tryz.func146, Tryz.ntmps146
  go_wp2
  go_step3
  go_wp2_with (refine (ycB l p w).mono ?_; rintro e w1 ⟨rfl, rfl⟩; rw [show (decide (0 ≤ p) && decide (p ≤ l.length)) = false from by simp; omega])
  rw [Exit.noGoto_ret]
  go_ret3
  exact ⟨rfl, rfl⟩
theorem or_byte (X b k : Nat) (hX : X < 256 ^ k) (hk : k < 8) (hb : b < 256) :
  (X + 256 ^ k * b < 9223372036854775808 → bits .or .i64 (X : Int) (wrap64 ((b : Int) * 2 ^ (8 * k))) = ((X + 256 ^ k * b : Nat) : Int)) ∧
  (9223372036854775808 ≤ X + 256 ^ k * b → k = 7 ∧ bits .or .i64 (X : Int) (wrap64 ((b : Int) * 2 ^ (8 * k))) < 0) := by
 constructor
 ·intro h
  have e : ((X : Int) + (b : Int) * 2 ^ (8 * k)) = ((X + 256 ^ k * b : Nat) : Int) := by
   rw [pow256, Int.natCast_add, Int.natCast_mul, Int.natCast_pow, Int.mul_comm]
   rfl
  have hX' : (X : Int) < 2 ^ (8 * k) := by
   have : ((X : Nat) : Int) < ((2 ^ (8 * k) : Nat) : Int) := by rw [← pow256]; exact Int.ofNat_lt.2 hX
   rwa [Int.natCast_pow] at this
  rw [or_i64 (X : Int) (b : Int) (8 * k) (by omega) hX' (by omega) (by rw [e]; omega), e]
 ·intro h
  have hk7 : k = 7 := by
   rcases Nat.lt_or_ge k 7 with hlt | hge
   ·exfalso
    have h1 : 256 ^ k * b ≤ 256 ^ k * 255 := Nat.mul_le_mul_left _ (by omega)
    have h2 : 256 ^ k ≤ 256 ^ 6 := Nat.pow_le_pow_right (by omega) (by omega)
    have e6 : (256 : Nat) ^ 6 = 281474976710656 := by decide
    omega
   ·omega
  subst hk7
  refine ⟨rfl, ?_⟩
  have e7 : (256 : Nat) ^ 7 = 72057594037927936 := by decide
  have e56 : (2 : Int) ^ (8 * 7) = 72057594037927936 := by decide
  rw [e7] at hX h
  rw [e56]
  have hw : wrap64 ((b : Int) * 72057594037927936) = (b : Int) * 72057594037927936 - 18446744073709551616 := by unfold wrap64; omega
  rw [hw]
  exact or_neg _ _ (by omega) (by omega) (by omega) (by omega)
set_option maxRecDepth 100000 in
theorem unfix_in (l : List UInt8) (p v : Nat) (w : World) (h1 : 1 ≤ v) (h8 : v ≤ 8) (hp : p + v ≤ l.length) (hl : l.length ≤ 4611686018427387904) :
  Calls Tryz.prog 145 #[.string ⟨l.toArray⟩, .int .i64 p, .int .i64 v] w fun e w' => e = .returned (trip (ya8 l p v)) ∧ w = w' := by
 have hv8 := val8_lt ((l.drop p).take v)
 rw [List.length_take, List.length_drop, Nat.min_eq_left (by omega)] at hv8
 have hv8 := Lib.hid hv8
 have fin : ya8 l p v = if 9223372036854775808 ≤ val8 ((l.drop p).take v) then (0, 0, 5) else ((val8 ((l.drop p).take v) : Int), (p : Int) + v, 0) := by
  unfold ya8
  rw [if_pos ⟨by omega, by omega, by omega, by omega⟩, if_neg (by omega), Int.toNat_natCast, Int.toNat_natCast]
 rw [fin]
 clear fin
 go_enter Tryz.func145, Tryz.ntmps145
 go_wp2_with (refine (ycB l p w).mono ?_; rintro e w1 ⟨rfl, rfl⟩; rw [show (decide (0 ≤ (p : Int)) && decide ((p : Int) ≤ l.length)) = true from by simp; omega])
 go_loop [6, 29] (fun n i => ∃ (k : Nat) (X : Int), k ≤ v ∧ i = .int .i64 k ∧ n = .int .i64 X ∧ Hid (val8 ((l.drop p).take k) < 9223372036854775808 → X = val8 ((l.drop p).take k)) ∧ Hid (9223372036854775808 ≤ val8 ((l.drop p).take k) → k = 8 ∧ X < 0)) (fun _ i => match i with | .int _ m => 9 - m.toNat | _ => 0)
 case atStart => exact ⟨0, 0, by omega, rfl, rfl, (fun _ => rfl), fun h => absurd h (by simp [val8])⟩
 case round =>
  obtain ⟨k, X, hk, rfl, rfl, hd1, hd2⟩ := hrel
  go_wp2
  ·rename_i hkv _
   have hdl : k < (l.drop p).length := by rw [List.length_drop]; omega
   have hge : (l.drop p)[k]'hdl = l[p + k] := List.getElem_drop ..
   rw [ycZ]
   have hb := u8_lt l[p + k]
   have hwb : wrap64 ((l[p + k]).toNat : Int) = ((l[p + k]).toNat : Int) := by unfold wrap64; omega
   rw [hwb]
   have hvl := val8_lt ((l.drop p).take k)
   rw [List.length_take, Nat.min_eq_left (by omega)] at hvl
   have hX : X = val8 ((l.drop p).take k) := by
    rcases Nat.lt_or_ge (val8 ((l.drop p).take k)) 9223372036854775808 with h | h
    ·exact hd1.out h
    ·have := (hd2.out h).1; omega
   rw [hX]
   obtain ⟨o1, o2⟩ := or_byte _ (l[p + k]).toNat k hvl (by omega) hb
   refine ⟨⟨k + 1, _, by omega, iv (by omega), rfl, ?_, ?_⟩, ?_⟩
   ·intro h
    rw [val8_take _ k hdl, hge] at h ⊢
    exact o1 h
   ·intro h
    rw [val8_take _ k hdl, hge] at h
    obtain ⟨h7, hneg⟩ := o2 h
    exact ⟨by omega, hneg⟩
   ·show 9 - Int.toNat _ < 9 - Int.toNat _
    omega
  all_goals
   obtain rfl : k = v := by omega
   go_ret3
   refine ⟨?_, rfl⟩
   rcases Nat.lt_or_ge (val8 ((l.drop p).take k)) 9223372036854775808 with hlt | hge
   ·have hX := hd1.out hlt
    first
    | (exfalso; omega)
    | (refine tv _ _ _ _ _ _ ?_; rw [hX])
   ·have hX := (hd2.out hge).2
    first
    | (exfalso; omega)
    | rfl
theorem unfix_any (l : List UInt8) (p v : Int) (w : World) (hl : l.length ≤ 4611686018427387904) :
  Calls Tryz.prog 145 #[.string ⟨l.toArray⟩, .int .i64 p, .int .i64 v] w fun e w' => e = .returned (trip (ya8 l p v)) ∧ w = w' := by
 by_cases hv : 1 ≤ v
 ·by_cases hv8 : v ≤ 8
  ·by_cases hp : 0 ≤ p ∧ p ≤ l.length
   ·by_cases hs : l.length < p + v
    ·have fin : ya8 l p v = (0, 0, 4) := by unfold ya8; rw [if_pos ⟨hv, hv8, hp.1, hp.2⟩, if_pos hs]
     rw [fin]
     clear fin
     go_enter Tryz.func145, Tryz.ntmps145
     go_wp2_with (refine (ycB l p w).mono ?_; rintro e w1 ⟨rfl, rfl⟩; rw [show (decide (0 ≤ p) && decide (p ≤ l.length)) = true from by simp; omega])
     go_ret3
     exact ⟨rfl, rfl⟩
    ·obtain ⟨q, rfl⟩ := Int.eq_ofNat_of_zero_le hp.1
     obtain ⟨u, rfl⟩ := Int.eq_ofNat_of_zero_le (by omega : 0 ≤ v)
     exact unfix_in l q u w (by omega) (by omega) (by omega) hl
   ·have fin : ya8 l p v = (0, 0, 2) := by unfold ya8; rw [if_neg (by omega)]
    rw [fin]
    clear fin
    go_enter Tryz.func145, Tryz.ntmps145
    go_wp2_with (refine (ycB l p w).mono ?_; rintro e w1 ⟨rfl, rfl⟩; rw [show (decide (0 ≤ p) && decide (p ≤ l.length)) = false from by simp; omega])
    go_ret3
    exact ⟨rfl, rfl⟩
  ·have fin : ya8 l p v = (0, 0, 2) := by unfold ya8; rw [if_neg (by omega)]
   rw [fin]
   clear fin
   go_enter Tryz.func145, Tryz.ntmps145
   go_wp2
   go_ret3
   exact ⟨rfl, rfl⟩
 ·have fin : ya8 l p v = (0, 0, 2) := by unfold ya8; rw [if_neg (by omega)]
  rw [fin]
  clear fin
  go_enter Tryz.func145, Tryz.ntmps145
  go_wp2
  go_ret3
  exact ⟨rfl, rfl⟩
end Go.Proofs.YtoinjdmlembgeaaGreat
