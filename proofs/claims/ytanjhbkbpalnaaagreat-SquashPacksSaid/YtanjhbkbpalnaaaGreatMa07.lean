/-
 What the law of the last of these texts stands on, part 7.
-/
import Derived.Test.YtanjhbkbpalnaaaGreatMa06
import Derived.Deep.RegionWith
import Derived.OrdersHeld
set_option maxRecDepth 100000
set_option maxHeartbeats 8000000
open Go.Proofs.Tryz
namespace Go.Proofs.YtanjhbkbpalnaaaGreat
set_option linter.unusedSimpArgs false
set_option linter.unusedVariables false
open Go.ChangeShapes Go.WideShapes Go.ChangeAt Go.RowKit Go.Joins Go.Deep
theorem lput_at (x : LTh) (R : List LTh) : ∃ j, j ≤ R.length ∧ lput R x = R.take j ++ x :: R.drop j ∧ (∀ k (hk : k < R.length), k < j → lle R[k] x = true) ∧ ∀ hj : j < R.length, lle R[j] x = false := by
 obtain ⟨r1, r2, h1, h2, h3, h4⟩ := yaY x R
 refine ⟨r1.length, by rw [h1, qab]; omega, ?_, ?_, ?_⟩
 ·rw [h2, h1, qcd rfl, qbK rfl]
 ·intro k hk hlt
  have e : R[k] = r1[k] := by simp only [h1]; exact List.getElem_append_left hlt
  rw [e]
  exact h3 _ (qaq hlt)
 ·intro hj
  cases r2 with
  | nil => rw [h1, qa8] at hj; omega
  | cons y t =>
   have e : R[r1.length] = y := by simp only [h1]; rw [List.getElem_append_right (qad _)]; simp
   rw [e]
   exact h4 y t rfl
theorem lslice_head {P : Program} {t e : TypeId} {i : TypeInfo} {size : Nat} (ht : P.underlying t = some (.slice e)) (hi : P.info? e = some i) (hs : i.size = size) (A : Option Addr) (n c k : Nat) (hk : k ≤ c) (w : World) :
  (Instr.slice t (.slice A n c) none (some (.int .i64 (k : Int))) none).run P w = .ok (.slice A k c) w := by
 have he : P.elem t = e := by simp [Program.elem, ht]
 rw [run_slice_h w t A n c (by rw [he]; exact ht) .i64 k (by omega) (by omega), he]
 simp [sizeOf, typeInfo, hi, hs, sliced]
 cases A with
 | none => simp
 | some a => simp [Addr.add]
section
variable {w wr : World} {B : Nat}
theorem lb1 (h : Below w.heap.size w wr) (d : Nat) (o : Obj) : Below w.heap.size w ((wr.drewN d).alloc o) := (yaj h d).alloc h.size o
theorem lb2 (h : Below w.heap.size w wr) (d : Nat) (o o2 : Obj) : Below w.heap.size w (((wr.drewN d).alloc o).alloc o2) := (lb1 h d o).alloc (by have := h.size; simp; omega) o2
theorem lblk3 (wr : World) (d : Nat) (o : Obj) (t : TypeId) (cs : Array Value) : Blk (((wr.drewN d).alloc o).alloc (.cells cs t)) (wr.heap.size + 1) t cs := by
 have := Blk.new ((wr.drewN d).alloc o) t cs
 simpa using this
theorem lblk2 (wr : World) (d : Nat) (o : Obj) (t : TypeId) (cs : Array Value) : Blk (((wr.drewN d).alloc (.cells cs t)).alloc o) wr.heap.size t cs := (Blk.new (wr.drewN d) t cs).alloc o
theorem ybL {W : World} {g size : Nat} {t : TypeId} {cs : Array Value} (h : Blk W g t cs) (hn : cs.size = size) : Reads W W.heap.size size (some ⟨g, 0, none⟩) 1 cs.toList := by
 refine ⟨by simp [hn], fun _ => ⟨g, 0, rfl, h.lt, fun j u hu => ?_⟩⟩
 rw [qaz, h.cell]
 simpa using hu
theorem yaG {W : World} {g B size : Nat} {e : TypeId} (h : Blk W g e #[]) (hb : B ≤ g) : W.ownsRow B e size (.slice (some ⟨g, 0, none⟩) 0 0) 0 [] :=
 ⟨by simp, qaI ⟨g, 0, #[], rfl, hb, h, qad _, by unfold maxLen; omega, by simp, by simp⟩⟩
end
section
variable {P : Program} {op : Op} {ty : TypeId} {pos : String} {af : Array Edge} {gd : Option (Nat × Bool)} {ys : Nat → Option Bool} {a : Act} {K : Act → World → Prop} {Q : Exit → Act → World → Prop} {E : Prop}
theorem yfF (d : Nat) {w : World} (h : if Region.wanted ⟨some d, op, ty, pos, af, gd⟩ ys = true then Oper.wp P ⟨some d, op, ty, pos, af, gd⟩ a w K Q else E) : if Region.wanted ⟨some d, op, ty, pos, af, gd⟩ ys = true then Oper.wp P ⟨some d, op, ty, pos, af, gd⟩ a w K Q else E := h
theorem lguard1 (d : Nat) (wr : World) {n : Nat} {o : Obj} (h : if Region.wanted ⟨some d, op, ty, pos, af, gd⟩ ys = true then Oper.wp P ⟨some d, op, ty, pos, af, gd⟩ a ((wr.drewN n).alloc o) K Q else E) : if Region.wanted ⟨some d, op, ty, pos, af, gd⟩ ys = true then Oper.wp P ⟨some d, op, ty, pos, af, gd⟩ a ((wr.drewN n).alloc o) K Q else E := h
theorem yft (d : Nat) (wr : World) (cs : Array Value) {n : Nat} {t : TypeId} {o : Obj} (h : if Region.wanted ⟨some d, op, ty, pos, af, gd⟩ ys = true then Oper.wp P ⟨some d, op, ty, pos, af, gd⟩ a (((wr.drewN n).alloc (.cells cs t)).alloc o) K Q else E) : if Region.wanted ⟨some d, op, ty, pos, af, gd⟩ ys = true then Oper.wp P ⟨some d, op, ty, pos, af, gd⟩ a (((wr.drewN n).alloc (.cells cs t)).alloc o) K Q else E := h
theorem lguard3 (d : Nat) (wr : World) {o : Obj} (h : if Region.wanted ⟨some d, op, ty, pos, af, gd⟩ ys = true then Oper.wp P ⟨some d, op, ty, pos, af, gd⟩ a (wr.alloc o) K Q else E) : if Region.wanted ⟨some d, op, ty, pos, af, gd⟩ ys = true then Oper.wp P ⟨some d, op, ty, pos, af, gd⟩ a (wr.alloc o) K Q else E := h
end
theorem ydg (ok : Nat → Prop) (R : List LTh) (x : LTh) (A As : Option Addr) (n c cs : Nat) (w : World) (hm : n ≤ 100000) (hc : n ≤ c) (hok : ∀ b, w.heap.size ≤ b → ok b) (hR : LHRow w w.heap.size ok A n R) (hcs : x.syms.length ≤ cs) (hS : Reads w w.heap.size 1 As x.syms.length (ints (lsy x.syms)) ∧ LOk ok As x.syms.length) :
  Calls prog 188 #[.slice A n c, .agg #[.int .i64 x.w, .slice As x.syms.length cs, .bool x.leaf]] w fun e w' => ∃ A' c', e = .returned (.slice A' (n + 1) c') ∧ n + 1 ≤ c' ∧ LHRow w' w'.heap.size ok A' (n + 1) (lput R x) ∧ Below w.heap.size w w' := by
 obtain ⟨en, hoA, xs, hrx, hmx⟩ := hR
 obtain ⟨i0, hi, hz0, hz1, hz2⟩ := qb1 lthing_info
 obtain ⟨j, hj, hput, hpass, hstop⟩ := lput_at x R
 have Hcell : Hid (∀ k (hk : k < R.length), ∃ b off, A = some ⟨b, off, none⟩ ∧ b < w.heap.size ∧ ∀ W, Below w.heap.size w W → W.cell? ⟨b, off + k * 3, none⟩ = some (.int .i64 R[k].w) ∧ W.cell? ⟨b, off + k * 3 + 2, none⟩ = some (.bool R[k].leaf)) := qaa fun k hk => by
  obtain ⟨As2, cs2, h1, h2, h3, _, _⟩ := hmx.at k hk
  obtain ⟨b, off, e, hb, hcell⟩ := hrx.2 (by omega)
  refine ⟨b, off, e, hb, fun W hW => ⟨?_, ?_⟩⟩
  ·exact (hW.cell (p := ⟨b, off + k * 3, none⟩) hb).trans (hcell _ _ h1)
  ·exact (hW.cell (p := ⟨b, off + k * 3 + 2, none⟩) hb).trans (by rw [qbU]; exact hcell _ _ h3)
 have Hpass := qaa hpass
 have Hstop := qaa hstop
 have hjn : (j : Int) ≤ n := by omega
 have En := qaa en
 have Hrx := qaa hrx
 have Hmx := qaa hmx
 have HS := qaa hS
 have hlf := x.leaf
 clear hrx hmx hS hpass hstop
 obtain ⟨xw, hxw⟩ : ∃ xw, x.w = xw := ⟨_, rfl⟩
 obtain ⟨xl, hxl⟩ : ∃ xl, x.leaf = xl := ⟨_, rfl⟩
 obtain ⟨ns, hns⟩ : ∃ ns, x.syms.length = ns := ⟨_, rfl⟩
 rw [hxw, hxl, hns]
 have HX := qaa (And.intro hxw (And.intro hxl hns))
 clear hxw hxl hns
 go_enter func188, ntmps188
 go_wp2
 go_loopw [5] (fun i wr => ∃ k : Nat, k ≤ j ∧ i = .int .i64 k ∧ Hid (Below w.heap.size w wr) ∧ Hid (Blk wr w.heap.size 198 #[.int .i64 xw, .slice As ns cs, .bool xl])) (fun i _ => j - (intOf i).toNat)
 case atStart => exact ⟨0, by omega, rfl, qaa ((qak _ _).alloc (qad _) _), Blk.new w _ _⟩
 case round =>
  obtain ⟨k, hk, rfl, Hb, HB⟩ := hrel
  have q0 : wr.cell? ⟨w.heap.size, 0, none⟩ = some (.int .i64 xw) := HB.out.cell 0
  have q1 : wr.cell? ⟨w.heap.size, 1, none⟩ = some (.slice As ns cs) := HB.out.cell 1
  have q2 : wr.cell? ⟨w.heap.size, 2, none⟩ = some (.bool xl) := HB.out.cell 2
  by_cases hlt : k < j
  ·have hkl : k < R.length := by omega
   obtain ⟨b, off, rfl, hb, hcell⟩ := Hcell.out k hkl
   obtain ⟨hx1, hx2⟩ := hcell wr Hb.out
   have hp := Hpass.out k hkl hlt
   rw [ybn, HX.out.1, HX.out.2.1] at hp
   have hki : (0 : Int) ≤ (k : Int) ∧ (k : Int) < n := by omega
   generalize R[k].w = yw at *
   generalize R[k].leaf = yl at *
   by_cases h1 : yw < xw
   ·go_wp2
    go_quiet (fail)
    go_wp2
    go_roundw
    case rel => exact ⟨k + 1, by omega, iv (by omega), yaj Hb.out _, HB.out.drewN _⟩
    case measure => simp only [intOf]; omega
   ·rcases hp with hp | ⟨hp, hp2⟩
    ·exact absurd hp h1
    ·subst hp
     have hbe : (yw == yw) = true := by simp
     have hlt0 : ¬ yw < yw := by omega
     clear h1
     cases yl with
     | true =>
      go_wp2
      go_quiet (fail)
      go_wp2
      go_roundw
      case rel => exact ⟨k + 1, by omega, iv (by omega), yaj Hb.out _, HB.out.drewN _⟩
      case measure => simp only [intOf]; omega
     | false =>
      rcases hp2 with hp2 | hp2
      ·cases hp2
      ·subst hp2
       go_wp2
       go_quiet (fail)
       go_wp2
       go_roundw
       case rel => exact ⟨k + 1, by omega, iv (by omega), yaj Hb.out _, HB.out.drewN _⟩
       case measure => simp only [intOf]; omega
  ·obtain rfl : k = j := by omega
   have hki : (0 : Int) ≤ (k : Int) ∧ (k : Int) ≤ c ∧ (k : Int) ≤ n ∧ (n : Int) ≤ 100000 := by omega
   have hk5 : k ≤ 100000 ∧ n - k ≤ 100000 := by omega
   have hsl1 := fun W => lslice_head (P := prog) underlying195 hi hz1 A n c k (by omega) W
   have hsl2 := fun W => yby (P := prog) underlying195 hi hz1 A n c k (by omega) W
   obtain ⟨Ad, hAd⟩ : ∃ Ad, (if c = k then A else A.map (·.add (k * 3))) = Ad := ⟨_, rfl⟩
   rw [hAd] at hsl2
   have Hone1 : Hid (∀ u ∈ xs.take (k * 3), u.oneCell' = true) := qaa fun u hu => Hmx.out.one u (qaN hu)
   have Hone3 : Hid (∀ u ∈ xs.drop (k * 3), u.oneCell' = true) := qaa fun u hu => Hmx.out.one u (qbg hu)
   have Hone2 : Hid (∀ u ∈ [Value.int .i64 xw, .slice As ns cs, .bool xl], u.oneCell' = true) := qaa fun u hu => by
    simp only [qaC, List.not_mem_nil, or_false] at hu
    rcases hu with rfl | rfl | rfl <;> rfl
   have Hrd1 : Hid (∀ W, Below wr.heap.size wr W → Reads W w.heap.size 3 A k (xs.take (k * 3))) := qaa fun W hW => (Hrx.out.front3 (by omega) (by decide)).below (Hb.out.trans (hW.mono Hb.out.size))
   have Hrd3 : Hid (∀ W, Below wr.heap.size wr W → Reads W w.heap.size 3 Ad (n - k) (xs.drop (k * 3))) := qaa fun W hW => by
    rw [← hAd]
    exact (Hrx.out.cut (by omega) (by omega)).below (Hb.out.trans (hW.mono Hb.out.size))
   have HSof : Hid (∀ W, Below wr.heap.size wr W → W.cell? ⟨w.heap.size, 0, none⟩ = some (.int .i64 xw) ∧ W.cell? ⟨w.heap.size, 1, none⟩ = some (.slice As ns cs) ∧ W.cell? ⟨w.heap.size, 2, none⟩ = some (.bool xl)) := qaa fun W hW => ⟨(hW.cell (p := ⟨w.heap.size, 0, none⟩) HB.out.lt).trans q0, (hW.cell (p := ⟨w.heap.size, 1, none⟩) HB.out.lt).trans q1, (hW.cell (p := ⟨w.heap.size, 2, none⟩) HB.out.lt).trans q2⟩
   have Hfin : Hid (∀ A3 c3 w3, w3.ownsRow wr.heap.size 198 3 (.slice A3 (n + 1) c3) (n + 1) ((xs.take (k * 3) ++ [.int .i64 xw, .slice As ns cs, .bool xl]) ++ xs.drop (k * 3)) → Below wr.heap.size wr w3 → n + 1 ≤ c3 ∧ LHRow w3 w3.heap.size ok A3 (n + 1) (lput R x) ∧ Below w.heap.size w w3) := qaa fun A3 c3 w3 ho hb => by
    have hbw := Hb.out.trans (hb.mono Hb.out.size)
    obtain ⟨A4, c4, e4, hc4, hr4⟩ := yae ho
    injection e4 with e5 _ e6
    subst e5
    subst e6
    have hm0 : LMem w w.heap.size ok xs (R.take k ++ R.drop k) := by rw [qax]; exact Hmx.out
    obtain ⟨h1, h2⟩ := hm0.parts
    rw [qao, qbf hj] at h1 h2
    obtain ⟨e7, e8, e9⟩ := HX.out
    refine ⟨hc4, ⟨by rw [hput, qab, qap, qao, qas]; omega, ygP ho (fun b hb2 => hok b (qaA Hb.out.size hb2)), _, hr4, ?_⟩, hbw⟩
    rw [hput, qam]
    have h3 : LMem w w.heap.size ok ([.int .i64 xw, .slice As ns cs, .bool xl] ++ xs.drop (k * 3)) (x :: R.drop k) := ⟨As, ns, cs, xs.drop (k * 3), by rw [e7, e8]; rfl, e9.symm, by rw [← e9]; exact hcs, by rw [← e9]; exact HS.out, h2⟩
    exact ((h1.app h3).below hbw).more hbw.size
   by_cases hkn : k < n
   ·have hkl : k < R.length := by omega
    have hki2 : (k : Int) < (n : Int) := by omega
    obtain ⟨b, off, rfl, hb, hcell⟩ := Hcell.out k hkl
    obtain ⟨hx1, hx2⟩ := hcell wr Hb.out
    have hst : ¬ lle R[k] x = true := by rw [Hstop.out hkl]; decide
    rw [ybn, HX.out.1, HX.out.2.1] at hst
    clear hcell
    generalize R[k].w = yw at *
    generalize R[k].leaf = yl at *
    have h1 : ¬ yw < xw := fun h => hst (qay h)
    by_cases h2 : yw = xw
    ·have hbe : (yw == xw) = true := by simpa using h2
     have hyl : yl = false := by
      cases yl with
      | false => rfl
      | true => exact absurd (qaI ⟨h2, qay rfl⟩) hst
     have hxl : xl = true := by
      cases xl with
      | true => rfl
      | false => exact absurd (qaI ⟨h2, qaI rfl⟩) hst
     subst hyl
     subst hxl
     clear hst
     go_wp2
     go_quiet (fail)
     go_wp2
     go_region_held3 (fun w' => w'.cell? ⟨w.heap.size, 0, none⟩ = some (.int .i64 xw) ∧ w'.cell? ⟨w.heap.size, 1, none⟩ = some (.slice As ns cs) ∧ w'.cell? ⟨w.heap.size, 2, none⟩ = some (.bool true)) (first | go_keep | exact hS1) (first
      | (((with_reducible refine lguard1 48 wr ?_); refine yac (by rfl) (.tmp 44) (.tmp 47) 195 (by rfl) wr.heap.size 198 i0 _ 3 40 underlying195 hi hz0 hz1 hz2 rfl (by decide) (.slice (some ⟨wr.heap.size, 0, none⟩) 0 0) (0) ([]) (by rfl) (yaG (Blk.new _ _ _) (by omega)) (some ⟨b, off, none⟩) (k) (c) (w.heap.size) (xs.take (k * 3)) (by rfl) (Hrd1.out _ (lb1 (qak _ _) _ _)) (Hone1.out) (by unfold maxLen; omega) (by omega) (by simp) (k) (qaz k) ?_; intro A1 c1 w1 hown1 hgrow1 _; have Hb1 : Hid (Below wr.heap.size wr w1) := qaa (qbz (lb1 (qak _ _) _ _) hgrow1 (by simp) (fun g hg => by injection hg with hg; simp at hg; omega)); have hS1 := HSof.out w1 Hb1.out; have Hown1 := qaa (show w1.ownsRow wr.heap.size 198 3 (.slice A1 k c1) k (xs.take (k * 3)) by simpa using hown1); clear hown1 hgrow1))
      | (((with_reducible refine yft 48 wr #[] ?_); refine yac (by rfl) (.tmp 44) (.tmp 47) 195 (by rfl) wr.heap.size 198 i0 _ 3 40 underlying195 hi hz0 hz1 hz2 rfl (by decide) (.slice (some ⟨wr.heap.size, 0, none⟩) 0 0) (0) ([]) (by rfl) (yaG ((Blk.new _ _ _).alloc _) (by omega)) (some ⟨b, off, none⟩) (k) (c) (w.heap.size) (xs.take (k * 3)) (by rfl) (Hrd1.out _ (lb2 (qak _ _) _ _ _)) (Hone1.out) (by unfold maxLen; omega) (by omega) (by simp; omega) (k) (qaz k) ?_; intro A1 c1 w1 hown1 hgrow1 _; have Hb1 : Hid (Below wr.heap.size wr w1) := qaa (qbz (lb2 (qak _ _) _ _ _) hgrow1 (by simp; omega) (fun g hg => by injection hg with hg; simp at hg; omega)); have hS1 := HSof.out w1 Hb1.out; have HX1 : Hid (Blk w1 (wr.heap.size + 1) 198 #[.int .i64 xw, .slice As ns cs, .bool true]) := qaa (Blk.grow' (lblk3 wr _ _ _ _) hgrow1 (by intro h; injection h with h; simp at h)); have Hown1 := qaa (show w1.ownsRow wr.heap.size 198 3 (.slice A1 k c1) k (xs.take (k * 3)) by simpa using hown1); clear hown1 hgrow1))
      | (((with_reducible refine yft 48 wr #[.int .i64 xw, .slice As ns cs, .bool true] ?_); refine yac (by rfl) (.tmp 44) (.tmp 47) 195 (by rfl) wr.heap.size 198 i0 _ 3 40 underlying195 hi hz0 hz1 hz2 rfl (by decide) (.slice (some ⟨wr.heap.size + 1, 0, none⟩) 0 0) (0) ([]) (by rfl) (yaG (lblk3 _ _ _ _ _) (by omega)) (some ⟨b, off, none⟩) (k) (c) (w.heap.size) (xs.take (k * 3)) (by rfl) (Hrd1.out _ (lb2 (qak _ _) _ _ _)) (Hone1.out) (by unfold maxLen; omega) (by omega) (by simp; omega) (k) (qaz k) ?_; intro A1 c1 w1 hown1 hgrow1 _; have Hb1 : Hid (Below wr.heap.size wr w1) := qaa (qbz (lb2 (qak _ _) _ _ _) hgrow1 (by simp; omega) (fun g hg => by injection hg with hg; simp at hg; omega)); have hS1 := HSof.out w1 Hb1.out; have HX1 : Hid (Blk w1 (wr.heap.size) 198 #[.int .i64 xw, .slice As ns cs, .bool true]) := qaa (Blk.grow' (lblk2 wr _ _ _ _) hgrow1 (by intro h; injection h with h; simp at h)); have Hown1 := qaa (show w1.ownsRow wr.heap.size 198 3 (.slice A1 k c1) k (xs.take (k * 3)) by simpa using hown1); clear hown1 hgrow1))
      | (((with_reducible refine lguard3 51 w1 ?_); refine yac (by rfl) (.tmp 48) (.tmp 50) 195 (by rfl) wr.heap.size 198 i0 _ 3 40 underlying195 hi hz0 hz1 hz2 rfl (by decide) (.slice A1 k c1) (k) (xs.take (k * 3)) (by rfl) (Hown1.out.alloc _) (some ⟨w1.heap.size, 0, none⟩) (1) (1) (_) ([.int .i64 xw, .slice As ns cs, .bool true]) (by rfl) (ybL (Blk.new _ _ _) rfl) (Hone2.out) (by unfold maxLen; omega) (by omega) (by have := Hb1.out.size; simp; omega) (k + 1) (rfl) ?_; intro A2 c2 w2 hown2 hgrow2 _; have Hb2 : Hid (Below wr.heap.size wr w2) := qaa (qbz (Hb1.out.alloc Hb1.out.size _) hgrow2 (by have := Hb1.out.size; simp; omega) (fun g hg => (Hown1.out.lt g hg).1)); have hS1 := HSof.out w2 Hb2.out; have Hown2 := qaa (show w2.ownsRow wr.heap.size 198 3 (.slice A2 (k + 1) c2) (k + 1) (xs.take (k * 3) ++ [.int .i64 xw, .slice As ns cs, .bool true]) by simpa using hown2); clear hown2 hgrow2))
      | (((with_reducible refine yfF 51 ?_); refine yac (by rfl) (.tmp 48) (.tmp 50) 195 (by rfl) wr.heap.size 198 i0 _ 3 40 underlying195 hi hz0 hz1 hz2 rfl (by decide) (.slice A1 k c1) (k) (xs.take (k * 3)) (by rfl) (Hown1.out) (some ⟨_, 0, none⟩) (1) (1) (_) ([.int .i64 xw, .slice As ns cs, .bool true]) (by rfl) (ybL HX1.out rfl) (Hone2.out) (by unfold maxLen; omega) (by omega) (Hb1.out.size) (k + 1) (rfl) ?_; intro A2 c2 w2 hown2 hgrow2 _; have Hb2 : Hid (Below wr.heap.size wr w2) := qaa (qbz (Hb1.out) hgrow2 (by have := Hb1.out.size; simp; omega) (fun g hg => (Hown1.out.lt g hg).1)); have hS1 := HSof.out w2 Hb2.out; have Hown2 := qaa (show w2.ownsRow wr.heap.size 198 3 (.slice A2 (k + 1) c2) (k + 1) (xs.take (k * 3) ++ [.int .i64 xw, .slice As ns cs, .bool true]) by simpa using hown2); clear hown2 hgrow2))
      | (((with_reducible refine yfF 55 ?_); refine yac (by rfl) (.tmp 51) (.tmp 54) 195 (by rfl) wr.heap.size 198 i0 _ 3 40 underlying195 hi hz0 hz1 hz2 rfl (by decide) (.slice A2 (k + 1) c2) (k + 1) (xs.take (k * 3) ++ [.int .i64 xw, .slice As ns cs, .bool true]) (by rfl) (Hown2.out) (Ad) (n - k) (c - k) (w.heap.size) (xs.drop (k * 3)) (by rfl) (Hrd3.out _ Hb2.out) (Hone3.out) (by unfold maxLen; omega) (by omega) (Hb2.out.size) (n + 1) (by omega) ?_; intro A3 c3 w3 hown3 hgrow3 _; have Hb3 : Hid (Below wr.heap.size wr w3) := qaa (qbz Hb2.out hgrow3 Hb2.out.size (fun g hg => (Hown2.out.lt g hg).1)); have hS1 := HSof.out w3 Hb3.out; have Hown3 := qaa hown3; clear hown3 hgrow3)))
     all_goals go_wp2
     all_goals go_ret
     all_goals (obtain ⟨f1, f2, f3⟩ := Hfin.out _ _ _ Hown3.out Hb3.out; exact ⟨A3, c3, rfl, f1, f2, f3⟩)
    ·have hbe : (yw == xw) = false := by simpa using h2
     have h4 : decide (yw < xw) = false := by simpa using h1
     clear hst h1 h2
     go_wp2
     go_quiet (fail)
     go_wp2
     go_region_held3 (fun w' => w'.cell? ⟨w.heap.size, 0, none⟩ = some (.int .i64 xw) ∧ w'.cell? ⟨w.heap.size, 1, none⟩ = some (.slice As ns cs) ∧ w'.cell? ⟨w.heap.size, 2, none⟩ = some (.bool xl)) (first | go_keep | exact hS1) (first
      | (((with_reducible refine lguard1 48 wr ?_); refine yac (by rfl) (.tmp 44) (.tmp 47) 195 (by rfl) wr.heap.size 198 i0 _ 3 40 underlying195 hi hz0 hz1 hz2 rfl (by decide) (.slice (some ⟨wr.heap.size, 0, none⟩) 0 0) (0) ([]) (by rfl) (yaG (Blk.new _ _ _) (by omega)) (some ⟨b, off, none⟩) (k) (c) (w.heap.size) (xs.take (k * 3)) (by rfl) (Hrd1.out _ (lb1 (qak _ _) _ _)) (Hone1.out) (by unfold maxLen; omega) (by omega) (by simp) (k) (qaz k) ?_; intro A1 c1 w1 hown1 hgrow1 _; have Hb1 : Hid (Below wr.heap.size wr w1) := qaa (qbz (lb1 (qak _ _) _ _) hgrow1 (by simp) (fun g hg => by injection hg with hg; simp at hg; omega)); have hS1 := HSof.out w1 Hb1.out; have Hown1 := qaa (show w1.ownsRow wr.heap.size 198 3 (.slice A1 k c1) k (xs.take (k * 3)) by simpa using hown1); clear hown1 hgrow1))
      | (((with_reducible refine yft 48 wr #[] ?_); refine yac (by rfl) (.tmp 44) (.tmp 47) 195 (by rfl) wr.heap.size 198 i0 _ 3 40 underlying195 hi hz0 hz1 hz2 rfl (by decide) (.slice (some ⟨wr.heap.size, 0, none⟩) 0 0) (0) ([]) (by rfl) (yaG ((Blk.new _ _ _).alloc _) (by omega)) (some ⟨b, off, none⟩) (k) (c) (w.heap.size) (xs.take (k * 3)) (by rfl) (Hrd1.out _ (lb2 (qak _ _) _ _ _)) (Hone1.out) (by unfold maxLen; omega) (by omega) (by simp; omega) (k) (qaz k) ?_; intro A1 c1 w1 hown1 hgrow1 _; have Hb1 : Hid (Below wr.heap.size wr w1) := qaa (qbz (lb2 (qak _ _) _ _ _) hgrow1 (by simp; omega) (fun g hg => by injection hg with hg; simp at hg; omega)); have hS1 := HSof.out w1 Hb1.out; have HX1 : Hid (Blk w1 (wr.heap.size + 1) 198 #[.int .i64 xw, .slice As ns cs, .bool xl]) := qaa (Blk.grow' (lblk3 wr _ _ _ _) hgrow1 (by intro h; injection h with h; simp at h)); have Hown1 := qaa (show w1.ownsRow wr.heap.size 198 3 (.slice A1 k c1) k (xs.take (k * 3)) by simpa using hown1); clear hown1 hgrow1))
      | (((with_reducible refine yft 48 wr #[.int .i64 xw, .slice As ns cs, .bool xl] ?_); refine yac (by rfl) (.tmp 44) (.tmp 47) 195 (by rfl) wr.heap.size 198 i0 _ 3 40 underlying195 hi hz0 hz1 hz2 rfl (by decide) (.slice (some ⟨wr.heap.size + 1, 0, none⟩) 0 0) (0) ([]) (by rfl) (yaG (lblk3 _ _ _ _ _) (by omega)) (some ⟨b, off, none⟩) (k) (c) (w.heap.size) (xs.take (k * 3)) (by rfl) (Hrd1.out _ (lb2 (qak _ _) _ _ _)) (Hone1.out) (by unfold maxLen; omega) (by omega) (by simp; omega) (k) (qaz k) ?_; intro A1 c1 w1 hown1 hgrow1 _; have Hb1 : Hid (Below wr.heap.size wr w1) := qaa (qbz (lb2 (qak _ _) _ _ _) hgrow1 (by simp; omega) (fun g hg => by injection hg with hg; simp at hg; omega)); have hS1 := HSof.out w1 Hb1.out; have HX1 : Hid (Blk w1 (wr.heap.size) 198 #[.int .i64 xw, .slice As ns cs, .bool xl]) := qaa (Blk.grow' (lblk2 wr _ _ _ _) hgrow1 (by intro h; injection h with h; simp at h)); have Hown1 := qaa (show w1.ownsRow wr.heap.size 198 3 (.slice A1 k c1) k (xs.take (k * 3)) by simpa using hown1); clear hown1 hgrow1))
      | (((with_reducible refine lguard3 51 w1 ?_); refine yac (by rfl) (.tmp 48) (.tmp 50) 195 (by rfl) wr.heap.size 198 i0 _ 3 40 underlying195 hi hz0 hz1 hz2 rfl (by decide) (.slice A1 k c1) (k) (xs.take (k * 3)) (by rfl) (Hown1.out.alloc _) (some ⟨w1.heap.size, 0, none⟩) (1) (1) (_) ([.int .i64 xw, .slice As ns cs, .bool xl]) (by rfl) (ybL (Blk.new _ _ _) rfl) (Hone2.out) (by unfold maxLen; omega) (by omega) (by have := Hb1.out.size; simp; omega) (k + 1) (rfl) ?_; intro A2 c2 w2 hown2 hgrow2 _; have Hb2 : Hid (Below wr.heap.size wr w2) := qaa (qbz (Hb1.out.alloc Hb1.out.size _) hgrow2 (by have := Hb1.out.size; simp; omega) (fun g hg => (Hown1.out.lt g hg).1)); have hS1 := HSof.out w2 Hb2.out; have Hown2 := qaa (show w2.ownsRow wr.heap.size 198 3 (.slice A2 (k + 1) c2) (k + 1) (xs.take (k * 3) ++ [.int .i64 xw, .slice As ns cs, .bool xl]) by simpa using hown2); clear hown2 hgrow2))
      | (((with_reducible refine yfF 51 ?_); refine yac (by rfl) (.tmp 48) (.tmp 50) 195 (by rfl) wr.heap.size 198 i0 _ 3 40 underlying195 hi hz0 hz1 hz2 rfl (by decide) (.slice A1 k c1) (k) (xs.take (k * 3)) (by rfl) (Hown1.out) (some ⟨_, 0, none⟩) (1) (1) (_) ([.int .i64 xw, .slice As ns cs, .bool xl]) (by rfl) (ybL HX1.out rfl) (Hone2.out) (by unfold maxLen; omega) (by omega) (Hb1.out.size) (k + 1) (rfl) ?_; intro A2 c2 w2 hown2 hgrow2 _; have Hb2 : Hid (Below wr.heap.size wr w2) := qaa (qbz (Hb1.out) hgrow2 (by have := Hb1.out.size; simp; omega) (fun g hg => (Hown1.out.lt g hg).1)); have hS1 := HSof.out w2 Hb2.out; have Hown2 := qaa (show w2.ownsRow wr.heap.size 198 3 (.slice A2 (k + 1) c2) (k + 1) (xs.take (k * 3) ++ [.int .i64 xw, .slice As ns cs, .bool xl]) by simpa using hown2); clear hown2 hgrow2))
      | (((with_reducible refine yfF 55 ?_); refine yac (by rfl) (.tmp 51) (.tmp 54) 195 (by rfl) wr.heap.size 198 i0 _ 3 40 underlying195 hi hz0 hz1 hz2 rfl (by decide) (.slice A2 (k + 1) c2) (k + 1) (xs.take (k * 3) ++ [.int .i64 xw, .slice As ns cs, .bool xl]) (by rfl) (Hown2.out) (Ad) (n - k) (c - k) (w.heap.size) (xs.drop (k * 3)) (by rfl) (Hrd3.out _ Hb2.out) (Hone3.out) (by unfold maxLen; omega) (by omega) (Hb2.out.size) (n + 1) (by omega) ?_; intro A3 c3 w3 hown3 hgrow3 _; have Hb3 : Hid (Below wr.heap.size wr w3) := qaa (qbz Hb2.out hgrow3 Hb2.out.size (fun g hg => (Hown2.out.lt g hg).1)); have hS1 := HSof.out w3 Hb3.out; have Hown3 := qaa hown3; clear hown3 hgrow3)))
     all_goals go_wp2
     all_goals go_ret
     all_goals (obtain ⟨f1, f2, f3⟩ := Hfin.out _ _ _ Hown3.out Hb3.out; exact ⟨A3, c3, rfl, f1, f2, f3⟩)
   ·have hkn2 : ¬ (k : Int) < (n : Int) := by omega
    go_wp2
    go_quiet (fail)
    go_wp2
    go_region_held3 (fun w' => w'.cell? ⟨w.heap.size, 0, none⟩ = some (.int .i64 xw) ∧ w'.cell? ⟨w.heap.size, 1, none⟩ = some (.slice As ns cs) ∧ w'.cell? ⟨w.heap.size, 2, none⟩ = some (.bool xl)) (first | go_keep | exact hS1) (first
     | (((with_reducible refine lguard1 48 wr ?_); refine yac (by rfl) (.tmp 44) (.tmp 47) 195 (by rfl) wr.heap.size 198 i0 _ 3 40 underlying195 hi hz0 hz1 hz2 rfl (by decide) (.slice (some ⟨wr.heap.size, 0, none⟩) 0 0) (0) ([]) (by rfl) (yaG (Blk.new _ _ _) (by omega)) (A) (k) (c) (w.heap.size) (xs.take (k * 3)) (by rfl) (Hrd1.out _ (lb1 (qak _ _) _ _)) (Hone1.out) (by unfold maxLen; omega) (by omega) (by simp) (k) (qaz k) ?_; intro A1 c1 w1 hown1 hgrow1 _; have Hb1 : Hid (Below wr.heap.size wr w1) := qaa (qbz (lb1 (qak _ _) _ _) hgrow1 (by simp) (fun g hg => by injection hg with hg; simp at hg; omega)); have hS1 := HSof.out w1 Hb1.out; have Hown1 := qaa (show w1.ownsRow wr.heap.size 198 3 (.slice A1 k c1) k (xs.take (k * 3)) by simpa using hown1); clear hown1 hgrow1))
     | (((with_reducible refine yft 48 wr #[] ?_); refine yac (by rfl) (.tmp 44) (.tmp 47) 195 (by rfl) wr.heap.size 198 i0 _ 3 40 underlying195 hi hz0 hz1 hz2 rfl (by decide) (.slice (some ⟨wr.heap.size, 0, none⟩) 0 0) (0) ([]) (by rfl) (yaG ((Blk.new _ _ _).alloc _) (by omega)) (A) (k) (c) (w.heap.size) (xs.take (k * 3)) (by rfl) (Hrd1.out _ (lb2 (qak _ _) _ _ _)) (Hone1.out) (by unfold maxLen; omega) (by omega) (by simp; omega) (k) (qaz k) ?_; intro A1 c1 w1 hown1 hgrow1 _; have Hb1 : Hid (Below wr.heap.size wr w1) := qaa (qbz (lb2 (qak _ _) _ _ _) hgrow1 (by simp; omega) (fun g hg => by injection hg with hg; simp at hg; omega)); have hS1 := HSof.out w1 Hb1.out; have HX1 : Hid (Blk w1 (wr.heap.size + 1) 198 #[.int .i64 xw, .slice As ns cs, .bool xl]) := qaa (Blk.grow' (lblk3 wr _ _ _ _) hgrow1 (by intro h; injection h with h; simp at h)); have Hown1 := qaa (show w1.ownsRow wr.heap.size 198 3 (.slice A1 k c1) k (xs.take (k * 3)) by simpa using hown1); clear hown1 hgrow1))
     | (((with_reducible refine yft 48 wr #[.int .i64 xw, .slice As ns cs, .bool xl] ?_); refine yac (by rfl) (.tmp 44) (.tmp 47) 195 (by rfl) wr.heap.size 198 i0 _ 3 40 underlying195 hi hz0 hz1 hz2 rfl (by decide) (.slice (some ⟨wr.heap.size + 1, 0, none⟩) 0 0) (0) ([]) (by rfl) (yaG (lblk3 _ _ _ _ _) (by omega)) (A) (k) (c) (w.heap.size) (xs.take (k * 3)) (by rfl) (Hrd1.out _ (lb2 (qak _ _) _ _ _)) (Hone1.out) (by unfold maxLen; omega) (by omega) (by simp; omega) (k) (qaz k) ?_; intro A1 c1 w1 hown1 hgrow1 _; have Hb1 : Hid (Below wr.heap.size wr w1) := qaa (qbz (lb2 (qak _ _) _ _ _) hgrow1 (by simp; omega) (fun g hg => by injection hg with hg; simp at hg; omega)); have hS1 := HSof.out w1 Hb1.out; have HX1 : Hid (Blk w1 (wr.heap.size) 198 #[.int .i64 xw, .slice As ns cs, .bool xl]) := qaa (Blk.grow' (lblk2 wr _ _ _ _) hgrow1 (by intro h; injection h with h; simp at h)); have Hown1 := qaa (show w1.ownsRow wr.heap.size 198 3 (.slice A1 k c1) k (xs.take (k * 3)) by simpa using hown1); clear hown1 hgrow1))
     | (((with_reducible refine lguard3 51 w1 ?_); refine yac (by rfl) (.tmp 48) (.tmp 50) 195 (by rfl) wr.heap.size 198 i0 _ 3 40 underlying195 hi hz0 hz1 hz2 rfl (by decide) (.slice A1 k c1) (k) (xs.take (k * 3)) (by rfl) (Hown1.out.alloc _) (some ⟨w1.heap.size, 0, none⟩) (1) (1) (_) ([.int .i64 xw, .slice As ns cs, .bool xl]) (by rfl) (ybL (Blk.new _ _ _) rfl) (Hone2.out) (by unfold maxLen; omega) (by omega) (by have := Hb1.out.size; simp; omega) (k + 1) (rfl) ?_; intro A2 c2 w2 hown2 hgrow2 _; have Hb2 : Hid (Below wr.heap.size wr w2) := qaa (qbz (Hb1.out.alloc Hb1.out.size _) hgrow2 (by have := Hb1.out.size; simp; omega) (fun g hg => (Hown1.out.lt g hg).1)); have hS1 := HSof.out w2 Hb2.out; have Hown2 := qaa (show w2.ownsRow wr.heap.size 198 3 (.slice A2 (k + 1) c2) (k + 1) (xs.take (k * 3) ++ [.int .i64 xw, .slice As ns cs, .bool xl]) by simpa using hown2); clear hown2 hgrow2))
     | (((with_reducible refine yfF 51 ?_); refine yac (by rfl) (.tmp 48) (.tmp 50) 195 (by rfl) wr.heap.size 198 i0 _ 3 40 underlying195 hi hz0 hz1 hz2 rfl (by decide) (.slice A1 k c1) (k) (xs.take (k * 3)) (by rfl) (Hown1.out) (some ⟨_, 0, none⟩) (1) (1) (_) ([.int .i64 xw, .slice As ns cs, .bool xl]) (by rfl) (ybL HX1.out rfl) (Hone2.out) (by unfold maxLen; omega) (by omega) (Hb1.out.size) (k + 1) (rfl) ?_; intro A2 c2 w2 hown2 hgrow2 _; have Hb2 : Hid (Below wr.heap.size wr w2) := qaa (qbz (Hb1.out) hgrow2 (by have := Hb1.out.size; simp; omega) (fun g hg => (Hown1.out.lt g hg).1)); have hS1 := HSof.out w2 Hb2.out; have Hown2 := qaa (show w2.ownsRow wr.heap.size 198 3 (.slice A2 (k + 1) c2) (k + 1) (xs.take (k * 3) ++ [.int .i64 xw, .slice As ns cs, .bool xl]) by simpa using hown2); clear hown2 hgrow2))
     | (((with_reducible refine yfF 55 ?_); refine yac (by rfl) (.tmp 51) (.tmp 54) 195 (by rfl) wr.heap.size 198 i0 _ 3 40 underlying195 hi hz0 hz1 hz2 rfl (by decide) (.slice A2 (k + 1) c2) (k + 1) (xs.take (k * 3) ++ [.int .i64 xw, .slice As ns cs, .bool xl]) (by rfl) (Hown2.out) (Ad) (n - k) (c - k) (w.heap.size) (xs.drop (k * 3)) (by rfl) (Hrd3.out _ Hb2.out) (Hone3.out) (by unfold maxLen; omega) (by omega) (Hb2.out.size) (n + 1) (by omega) ?_; intro A3 c3 w3 hown3 hgrow3 _; have Hb3 : Hid (Below wr.heap.size wr w3) := qaa (qbz Hb2.out hgrow3 Hb2.out.size (fun g hg => (Hown2.out.lt g hg).1)); have hS1 := HSof.out w3 Hb3.out; have Hown3 := qaa hown3; clear hown3 hgrow3)))
    all_goals go_wp2
    all_goals go_ret
    all_goals (obtain ⟨f1, f2, f3⟩ := Hfin.out _ _ _ Hown3.out Hb3.out; exact ⟨A3, c3, rfl, f1, f2, f3⟩)
theorem LHRow.nil (W : World) (B : Nat) (ok : Nat → Prop) : LHRow W B ok none 0 [] := ⟨rfl, fun h => absurd h (by omega), [], Reads.none_, rfl⟩
theorem yfv (i : Nat) (c : Int) (t : List Int) (R : List LTh) (h : 0 < c) : ybc i (c :: t) R = ybc (i + 1) t (lput R ⟨c, [i], true⟩) := by
 conv => lhs; unfold ybc
 rw [qag h]
theorem yh6 (i : Nat) (c : Int) (t : List Int) (R : List LTh) (h : ¬ 0 < c) : ybc i (c :: t) R = ybc (i + 1) t R := by
 conv => lhs; unfold ybc
 rw [qae h]
theorem lone_reads (W : World) (s : Nat) : Reads (W.alloc (.cells #[.int .i64 (s : Int)] 3)) (W.alloc (.cells #[.int .i64 (s : Int)] 3)).heap.size 1 (some ⟨W.heap.size, 0, none⟩) 1 (ints (lsy [s])) := by
 have := ya0 W 3 #[.int .i64 (s : Int)] 1 1 rfl
 exact this.more (by simp)
theorem lref_first_any (ok : Nat → Prop) (counts : List Int) (A : Option Addr) (n c : Nat) (w : World) (hm : n ≤ 100000) (hok : ∀ b, w.heap.size ≤ b → ok b) (hr : Reads w w.heap.size 1 A n (ints counts)) :
  Calls prog 152 #[.slice A n c] w fun e w' => ∃ A' c', e = .returned (.slice A' (yaa counts).length c') ∧ (yaa counts).length ≤ c' ∧ LHRow w' w'.heap.size ok A' (yaa counts).length (yaa counts) ∧ Below w.heap.size w w' := by
 have en : counts.length = n := by have := hr.1; rw [yab] at this; omega
 have Hcell : Hid (0 < n → ∃ b off, A = some ⟨b, off, none⟩ ∧ ∀ wr, Below w.heap.size w wr → ∀ k, (hk : k < counts.length) → wr.cell? ⟨b, off + k, none⟩ = some (.int .i64 counts[k])) := qaa fun h => by
  obtain ⟨b, off, e, hb, hc⟩ := hr.2 h
  exact ⟨b, off, e, fun wr hw k hk => (hw.cell (p := ⟨b, off + k, none⟩) hb).trans (hc k _ (yai counts k hk))⟩
 have Hstart : Hid (ybc 0 (counts.drop 0) [] = yaa counts) := qaa rfl
 have En := qaa en
 have hnn : (n : Int) ≤ 100000 := by omega
 clear hr en
 generalize yaa counts = T at *
 go_enter func152, ntmps152
 go_wp2
 go_loopw [3, 4] (fun v i wr => ∃ (k m cm : Nat) (Am : Option Addr) (R : List LTh), k ≤ n ∧ m ≤ k ∧ m ≤ cm ∧ v = .slice Am m cm ∧ i = .int .i64 k ∧ Hid (ybc k (counts.drop k) R = T) ∧ Hid (LHRow wr wr.heap.size ok Am m R) ∧ Hid (Below w.heap.size w wr)) (fun _ i _ => n - (intOf i).toNat)
 case atStart => exact ⟨0, 0, 0, none, [], by omega, by omega, by omega, rfl, rfl, Hstart.out, LHRow.nil _ _ _, qak _ _⟩
 case round =>
  obtain ⟨k, m, cm, Am, R, hk, hmk, hmc, rfl, rfl, Hf, HR, Hb⟩ := hrel
  by_cases hlt : k < n
  ·have hki : (0 : Int) ≤ (k : Int) ∧ (k : Int) < n := by omega
   have hkl : k < counts.length := by rw [En.out]; exact hlt
   obtain ⟨b, off, rfl, hcell⟩ := Hcell.out (by omega)
   have hx := hcell wr Hb.out k hkl
   have hf := Hf.out
   rw [qau hkl] at hf
   clear hcell Hf
   generalize counts[k] = x at *
   by_cases hx0 : 0 < x
   ·rw [yfv _ _ _ _ hx0] at hf
    have Hf2 := qaa hf
    have Hput : Hid (Calls prog 188 #[.slice Am m cm, .agg #[.int .i64 x, .slice (some ⟨wr.heap.size, 0, none⟩) 1 1, .bool true]] (wr.alloc (.cells #[.int .i64 (k : Int)] 3)) fun e w' => ∃ A' c', e = .returned (.slice A' (m + 1) c') ∧ m + 1 ≤ c' ∧ LHRow w' w'.heap.size ok A' (m + 1) (lput R ⟨x, [k], true⟩) ∧ Below (wr.alloc (.cells #[.int .i64 (k : Int)] 3)).heap.size (wr.alloc (.cells #[.int .i64 (k : Int)] 3)) w') := qaa (by
     have hba : Below wr.heap.size wr (wr.alloc (.cells #[.int .i64 (k : Int)] 3)) := (qak _ _).alloc (qad _) _
     exact ydg ok R ⟨x, [k], true⟩ Am (some ⟨wr.heap.size, 0, none⟩) m cm 1 (wr.alloc (.cells #[.int .i64 (k : Int)] 3)) (by omega) hmc (fun b hb2 => hok b (qaA (qaA Hb.out.size hba.size) hb2)) ((HR.out.below hba).more hba.size) (qad _) ⟨lone_reads wr k, fun _ => ⟨_, _, rfl, hok _ Hb.out.size⟩⟩)
    clear hf
    go_wp2_with (go_at_call 188; refine Hput.out.mono ?_; rintro e w2 ⟨A2, c2, rfl, hc2, hR2, hb2⟩; have HR2 := qaa hR2; have Hc2 := qaa hc2; have Hb2 := qaa (Hb.out.trans ((((qak wr.heap.size wr).alloc (qad _) (.cells #[.int .i64 (k : Int)] 3)).trans (hb2.mono (by simp))).mono Hb.out.size)); clear hR2 hc2 hb2)
    go_roundw
    case rel => exact ⟨k + 1, m + 1, c2, A2, _, by omega, by omega, Hc2.out, rfl, iv (by omega), Hf2.out, HR2.out, Hb2.out⟩
    case measure => simp only [intOf]; omega
   ·rw [yh6 _ _ _ _ hx0] at hf
    have Hf2 := qaa hf
    clear hf
    go_wp2
    go_roundw
    case rel => exact ⟨k + 1, m, cm, Am, R, by omega, by omega, hmc, rfl, iv (by omega), Hf2.out, HR.out, Hb.out⟩
    case measure => simp only [intOf]; omega
  ·obtain rfl : k = n := by omega
   have hf := Hf.out
   rw [qaH (by rw [En.out]; exact qad _)] at hf
   have hf2 : R = T := hf
   subst hf2
   have hlen := HR.out.1
   subst hlen
   clear hf Hf
   go_wp2
   go_ret
   exact ⟨Am, cm, rfl, hmc, HR.out, Hb.out⟩
theorem lint_info : (prog.info? 3).map (fun i => (i.zero, i.size, i.bytes)) = some (some (.int .i64 0), 1, 8) := by kernel_rfl
theorem lisblk {W : World} {g : Nat} {t : TypeId} {cs : Array Value} (h : Blk W g t cs) : Blk W g t cs := h
theorem lnot_own {W : World} {B n size : Nat} {e : TypeId} {v : Value} {xs : List Value} (h : W.ownsRow B e size v n xs) (k : v.ownBlock = some W.heap.size) : False := by
 have := (h.lt _ k).2
 omega
theorem lnot_blk {W : World} {B n size g : Nat} {e t : TypeId} {v : Value} {xs : List Value} {cs : Array Value} (h : W.ownsRow B e size v n xs) (hb : Blk W g t cs) (hne : e ≠ t) : v.ownBlock ≠ some g := ya5 h hb hne
theorem lpacks_two (R : List LTh) (k : Nat) (h : k + 1 < R.length) : yas (R.drop k) = yb5 (R[k]'(by omega)) R[k + 1] :: yas (R.drop (k + 2)) := by
 rw [qau (by omega), qau h]
 rfl
theorem lpacks_few (R : List LTh) (k : Nat) (h : R.length ≤ k + 1) : yas (R.drop k) = [] := by
 have hl : (R.drop k).length ≤ 1 := by rw [qas]; omega
 cases hd : R.drop k with
 | nil => rfl
 | cons a t =>
  rw [hd] at hl
  cases t with
  | nil => rfl
  | cons b u => simp at hl
section
variable {P : Program} {op : Op} {ty : TypeId} {pos : String} {af : Array Edge} {gd : Option (Nat × Bool)} {ys : Nat → Option Bool} {a : Act} {K : Act → World → Prop} {Q : Exit → Act → World → Prop} {E : Prop}
theorem lguardD1 (d : Nat) (wr : World) {o : Obj} (h : if Region.wanted ⟨some d, op, ty, pos, af, gd⟩ ys = true then Oper.wp P ⟨some d, op, ty, pos, af, gd⟩ a (wr.alloc o).drew K Q else E) : if Region.wanted ⟨some d, op, ty, pos, af, gd⟩ ys = true then Oper.wp P ⟨some d, op, ty, pos, af, gd⟩ a (wr.alloc o).drew K Q else E := h
theorem lguardD2 (d : Nat) (wr : World) (cs : Array Value) {t : TypeId} {o : Obj} (h : if Region.wanted ⟨some d, op, ty, pos, af, gd⟩ ys = true then Oper.wp P ⟨some d, op, ty, pos, af, gd⟩ a ((wr.alloc (.cells cs t)).alloc o).drew K Q else E) : if Region.wanted ⟨some d, op, ty, pos, af, gd⟩ ys = true then Oper.wp P ⟨some d, op, ty, pos, af, gd⟩ a ((wr.alloc (.cells cs t)).alloc o).drew K Q else E := h
theorem lbd1 (wr : World) (o : Obj) : Below wr.heap.size wr (wr.alloc o).drew := yaj ((qak _ _).alloc (qad _) o) 1
theorem lbd2 (wr : World) (o o2 : Obj) : Below wr.heap.size wr ((wr.alloc o).alloc o2).drew := yaj (((qak _ _).alloc (qad _) o).alloc (by simp) o2) 1
theorem lblkD1 (wr : World) (t : TypeId) (cs : Array Value) : Blk (wr.alloc (.cells cs t)).drew wr.heap.size t cs := (Blk.new wr t cs).drew
theorem lblkD2 (wr : World) (o : Obj) (t : TypeId) (cs : Array Value) : Blk ((wr.alloc (.cells cs t)).alloc o).drew wr.heap.size t cs := ((Blk.new wr t cs).alloc o).drew
theorem lblkD3 (wr : World) (o : Obj) (t : TypeId) (cs : Array Value) : Blk ((wr.alloc o).alloc (.cells cs t)).drew (wr.heap.size + 1) t cs := by
 have := (Blk.new (wr.alloc o) t cs).drew
 simpa using this
end
theorem lbset {wr w2 : World} {g : Nat} (h : Below wr.heap.size wr w2) (hg : wr.heap.size ≤ g) (v0 v1 v2 : Value) : Below wr.heap.size wr (((w2.setCell ⟨g, 0, none⟩ v0).setCell ⟨g, 1, none⟩ v1).setCell ⟨g, 2, none⟩ v2) := ((h.setCell (p := ⟨g, 0, none⟩) hg v0).setCell (p := ⟨g, 1, none⟩) hg v1).setCell (p := ⟨g, 2, none⟩) hg v2
theorem lown_sets {W : World} {B n size g : Nat} {e t : TypeId} {v : Value} {xs : List Value} {cs : Array Value} (h : W.ownsRow B e size v n xs) (hb : Blk W g t cs) (hne : e ≠ t) (v0 v1 v2 : Value) : (((W.setCell ⟨g, 0, none⟩ v0).setCell ⟨g, 1, none⟩ v1).setCell ⟨g, 2, none⟩ v2).ownsRow B e size v n xs :=
 yay h ((((Touch.refl W (fun k => k = g)).set (p := ⟨g, 0, none⟩) (qay rfl) v0).set (p := ⟨g, 1, none⟩) (qay rfl) v1).set (p := ⟨g, 2, none⟩) (qay rfl) v2) fun k hk e => by
  subst e
  exact ya5 h hb hne hk
theorem lowns_reads {w : World} {base size n c : Nat} {e : TypeId} {A : Option Addr} {xs : List Value} (h : w.ownsRow base e size (.slice A n c) n xs) : Reads w w.heap.size size A n xs ∧ n ≤ c := by
 obtain ⟨A2, c2, e2, hc, hr⟩ := yae h
 injection e2 with e2 _ e3
 subst e2
 subst e3
 exact ⟨hr, hc⟩
theorem lsy_app (a b : List Nat) : lsy (a ++ b) = lsy a ++ lsy b := by simp [lsy]
theorem lints_app (a b : List Int) : ints (a ++ b) = ints a ++ ints b := by simp [ints]
theorem lref_next_any (ok : Nat → Prop) (R leaves : List LTh) (A AL : Option Addr) (n c m d : Nat) (w : World) (hn : n ≤ 10000) (hc : n ≤ c) (hm : m ≤ 10000) (hd : m ≤ d) (hsy : ∀ x ∈ R, x.syms.length ≤ 1000000 ∧ 0 ≤ x.w ∧ x.w ≤ 1000000000000) (hok : ∀ b, w.heap.size ≤ b → ok b) (hR : LHRow w w.heap.size ok A n R) (hL : LHRow w w.heap.size ok AL m leaves) :
  Calls prog 154 #[.slice A n c, .slice AL m d] w fun e w' => ∃ A' c', e = .returned (.slice A' (ygx R leaves).length c') ∧ (ygx R leaves).length ≤ c' ∧ LHRow w' w'.heap.size ok A' (ygx R leaves).length (ygx R leaves) ∧ Below w.heap.size w w' := by
 obtain ⟨j0, hj, hy0, hy1, hy2⟩ := qb1 lint_info
 obtain ⟨en, _, xs, hrx, hmx⟩ := hR
 obtain ⟨em, _, ys, hry, hmy⟩ := hL
 have Hcell : Hid (∀ k (hk : k < R.length), ∃ b off As cs, A = some ⟨b, off, none⟩ ∧ b < w.heap.size ∧ R[k].syms.length ≤ cs ∧ Reads w w.heap.size 1 As R[k].syms.length (ints (lsy R[k].syms)) ∧ ∀ W, Below w.heap.size w W → W.cell? ⟨b, off + k * 3, none⟩ = some (.int .i64 R[k].w) ∧ W.cell? ⟨b, off + k * 3 + 1, none⟩ = some (.slice As R[k].syms.length cs)) := qaa fun k hk => by
  obtain ⟨As2, cs2, h1, h2, h3, h4, h5⟩ := hmx.at k hk
  obtain ⟨b, off, e, hb, hcell⟩ := hrx.2 (by omega)
  refine ⟨b, off, As2, cs2, e, hb, h4, h5.1, fun W hW => ⟨?_, ?_⟩⟩
  ·exact (hW.cell (p := ⟨b, off + k * 3, none⟩) hb).trans (hcell _ _ h1)
  ·exact (hW.cell (p := ⟨b, off + k * 3 + 1, none⟩) hb).trans (by rw [qbU]; exact hcell _ _ h2)
 have HLcell : Hid (∀ k (hk : k < leaves.length), ∃ b off As cs, AL = some ⟨b, off, none⟩ ∧ b < w.heap.size ∧ leaves[k].syms.length ≤ cs ∧ (Reads w w.heap.size 1 As leaves[k].syms.length (ints (lsy leaves[k].syms)) ∧ LOk ok As leaves[k].syms.length) ∧ ∀ W, Below w.heap.size w W → W.cell? ⟨b, off + k * 3, none⟩ = some (.int .i64 leaves[k].w) ∧ W.cell? ⟨b, off + k * 3 + 1, none⟩ = some (.slice As leaves[k].syms.length cs) ∧ W.cell? ⟨b, off + k * 3 + 2, none⟩ = some (.bool leaves[k].leaf)) := qaa fun k hk => by
  obtain ⟨As2, cs2, h1, h2, h3, h4, h5⟩ := hmy.at k hk
  obtain ⟨b, off, e, hb, hcell⟩ := hry.2 (by omega)
  refine ⟨b, off, As2, cs2, e, hb, h4, h5, fun W hW => ⟨?_, ?_, ?_⟩⟩
  ·exact (hW.cell (p := ⟨b, off + k * 3, none⟩) hb).trans (hcell _ _ h1)
  ·exact (hW.cell (p := ⟨b, off + k * 3 + 1, none⟩) hb).trans (by rw [qbU]; exact hcell _ _ h2)
  ·exact (hW.cell (p := ⟨b, off + k * 3 + 2, none⟩) hb).trans (by rw [qbU]; exact hcell _ _ h3)
 have Hsy := qaa hsy
 have hni : (n : Int) ≤ 10000 ∧ (m : Int) ≤ 10000 := by omega
 have En := qaa en
 have Em := qaa em
 clear hrx hmx hry hmy hsy en em
 obtain ⟨T1, hT1⟩ : ∃ T1, (yas R).foldl lput [] = T1 := ⟨_, rfl⟩
 obtain ⟨T2, hT2⟩ : ∃ T2, ygx R leaves = T2 := ⟨_, rfl⟩
 have HT : Hid (leaves.foldl lput T1 = T2) := qaa (by rw [← hT2, ← hT1]; rfl)
 have Hstart : Hid ((yas (R.drop 0)).foldl lput [] = T1) := qaa hT1
 rw [hT2]
 clear hT1 hT2
 go_enter func154, ntmps154
 go_wp2
 go_loopw [5, 6] (fun v i wr => ∃ (k p cp : Nat) (Ap : Option Addr) (Rp : List LTh), k ≤ n + 1 ∧ p ≤ k ∧ p ≤ cp ∧ v = .slice Ap p cp ∧ i = .int .i64 k ∧ Hid ((yas (R.drop k)).foldl lput Rp = T1) ∧ Hid (LHRow wr wr.heap.size ok Ap p Rp) ∧ Hid (Below w.heap.size w wr)) (fun _ i _ => n + 1 - (intOf i).toNat)
 case atStart => exact ⟨0, 0, 0, none, [], by omega, by omega, by omega, rfl, rfl, Hstart.out, LHRow.nil _ _ _, qak _ _⟩
 case round =>
  obtain ⟨k, p, cp, Ap, Rp, hk, hpk, hpc, rfl, rfl, Hf, HRp, Hb⟩ := hrel
  by_cases hlt : k + 1 < n
  ·have hki : (0 : Int) ≤ (k : Int) ∧ (k : Int) + 1 < n ∧ (k : Int) < n := by omega
   have hk1 : k + 1 < R.length := by rw [En.out]; exact hlt
   have hk0 : k < R.length := by omega
   obtain ⟨b, off, As1, cs1, rfl, hb, hle1, hrs1, hcell1⟩ := Hcell.out k hk0
   obtain ⟨b', off', As2, cs2, e2, hb', hle2, hrs2, hcell2⟩ := Hcell.out (k + 1) hk1
   injection e2 with e2
   injection e2 with e3 e4
   subst e3
   subst e4
   obtain ⟨x1, x2⟩ := hcell1 wr Hb.out
   obtain ⟨x3, x4⟩ := hcell2 wr Hb.out
   have hsl1 := Hsy.out R[k] (qaq hk0)
   have hsl2 := Hsy.out R[k + 1] (qaq hk1)
   have hf := Hf.out
   rw [lpacks_two R k hk1, List.foldl_cons] at hf
   have Hf2 := qaa hf
   have HSof : Hid (∀ W, Below wr.heap.size wr W → W.cell? ⟨b, off + k * 3, none⟩ = some (.int .i64 R[k].w) ∧ W.cell? ⟨b, off + k * 3 + 1, none⟩ = some (.slice As1 R[k].syms.length cs1) ∧ W.cell? ⟨b, off + (k + 1) * 3, none⟩ = some (.int .i64 R[k + 1].w) ∧ W.cell? ⟨b, off + (k + 1) * 3 + 1, none⟩ = some (.slice As2 R[k + 1].syms.length cs2)) := qaa fun W hW => by
    have h1 := Hb.out.trans (hW.mono Hb.out.size)
    exact ⟨(hcell1 W h1).1, (hcell1 W h1).2, (hcell2 W h1).1, (hcell2 W h1).2⟩
   have Hrd1 : Hid (∀ W, Below wr.heap.size wr W → Reads W wr.heap.size 1 As1 R[k].syms.length (ints (lsy R[k].syms))) := qaa fun W hW => (hrs1.below (Hb.out.trans (hW.mono Hb.out.size))).more Hb.out.size
   have Hrd2 : Hid (∀ W, Below wr.heap.size wr W → Reads W wr.heap.size 1 As2 R[k + 1].syms.length (ints (lsy R[k + 1].syms))) := qaa fun W hW => (hrs2.below (Hb.out.trans (hW.mono Hb.out.size))).more Hb.out.size
   have hint : ∀ l : List Int, ∀ u ∈ ints l, u.oneCell' = true := fun l u hu => by
    obtain ⟨z, _, rfl⟩ := qb5.1 hu
    rfl
   have Hone1 := qaa (hint (lsy R[k].syms))
   have Hone2 := qaa (hint (lsy R[k + 1].syms))
   clear hcell1 hcell2 hrs1 hrs2 hint hf Hf
   generalize hq1 : R[k] = q1 at *
   generalize hq2 : R[k + 1] = q2 at *
   clear hq1 hq2
   obtain ⟨k2, hk2⟩ : ∃ k2, k + 1 = k2 := ⟨_, rfl⟩
   have hsum : (k : Int) + 1 = (k2 : Int) := by omega
   have hwk : IntKind.i64.wrap ((k : Int) + 1) = (k2 : Int) := by rw [qal]; omega
   have hwk2 : IntKind.i64.wrap (k2 : Int) = (k2 : Int) := by rw [qal]; omega
   have hk2i : (0 : Int) ≤ (k2 : Int) ∧ (k2 : Int) < n := by omega
   rw [hk2] at x3 x4 HSof
   obtain ⟨a1, s1, l1⟩ := q1
   obtain ⟨a2, s2, l2⟩ := q2
   simp only at *
   generalize hns1 : s1.length = ns1 at *
   generalize hns2 : s2.length = ns2 at *
   have Hput : Hid (∀ W4 B2 d2, Below wr.heap.size wr W4 → W4.ownsRow wr.heap.size 3 1 (.slice B2 (ns1 + ns2) d2) (ns1 + ns2) (ints (lsy s1) ++ ints (lsy s2)) → Calls prog 188 #[.slice Ap p cp, .agg #[.int .i64 (a1 + a2), .slice B2 (ns1 + ns2) d2, .bool false]] W4 fun e w' => ∃ A' c', e = .returned (.slice A' (p + 1) c') ∧ p + 1 ≤ c' ∧ LHRow w' w'.heap.size ok A' (p + 1) (lput Rp (yb5 ⟨a1, s1, l1⟩ ⟨a2, s2, l2⟩)) ∧ Below w.heap.size w w') := qaa fun W4 B2 d2 hb4 ho4 => by
    obtain ⟨hr4, hd4⟩ := lowns_reads ho4
    have hlen : (yb5 ⟨a1, s1, l1⟩ ⟨a2, s2, l2⟩).syms.length = ns1 + ns2 := by show (s1 ++ s2).length = _; rw [qab, hns1, hns2]
    have hsy4 : ints (lsy (yb5 ⟨a1, s1, l1⟩ ⟨a2, s2, l2⟩).syms) = ints (lsy s1) ++ ints (lsy s2) := by show ints (lsy (s1 ++ s2)) = _; rw [lsy_app, lints_app]
    have := ydg ok Rp (yb5 ⟨a1, s1, l1⟩ ⟨a2, s2, l2⟩) Ap B2 p cp d2 W4 (by omega) hpc (fun b hb2 => hok b (qaA (qaA Hb.out.size hb4.size) hb2)) ((HRp.out.below hb4).more hb4.size) (by rw [hlen]; exact hd4) (by rw [hlen, hsy4]; exact ⟨hr4, ygP ho4 fun b hb2 => hok b (qaA Hb.out.size hb2)⟩)
    rw [hlen] at this
    refine this.mono ?_
    rintro e w' ⟨A', c', rfl, h1, h2, h3⟩
    exact ⟨A', c', rfl, h1, h2, (Hb.out.trans (hb4.mono Hb.out.size)).trans (h3.mono (qaA Hb.out.size hb4.size))⟩
   have hws : IntKind.i64.wrap (a1 + a2) = a1 + a2 := by rw [qal]; omega
   go_wp2
   go_region_held3 (fun w' => w'.cell? ⟨b, off + k * 3, none⟩ = some (.int .i64 a1) ∧ w'.cell? ⟨b, off + k * 3 + 1, none⟩ = some (.slice As1 ns1 cs1) ∧ w'.cell? ⟨b, off + k2 * 3, none⟩ = some (.int .i64 a2) ∧ w'.cell? ⟨b, off + k2 * 3 + 1, none⟩ = some (.slice As2 ns2 cs2)) (first | go_keep | exact hS1 | exact hS2 _ _ _) (first
    | (((with_reducible refine lguardD1 34 wr ?_); refine yac (by rfl) (.tmp 28) (.tmp 33) 28 (by rfl) wr.heap.size 3 j0 _ 1 8 underlying28 hj hy0 hy1 hy2 rfl (by decide) (.slice (some ⟨wr.heap.size, 0, none⟩) 0 0) (0) ([]) (by rfl) (yaG (lblkD1 wr _ _) (by omega)) (As1) (ns1) (cs1) (wr.heap.size) (ints (lsy s1)) (by rfl) (Hrd1.out _ (lbd1 wr _)) (Hone1.out) (by unfold maxLen; omega) (by omega) (by simp) (ns1) (qaz ns1) ?_; intro B1 d1 w1 hown1 hgrow1 _; have Hb1 : Hid (Below wr.heap.size wr w1) := qaa (qbz (lbd1 wr _) hgrow1 (by simp) (fun g hg => by injection hg with hg; simp at hg; omega)); have hS1 := HSof.out w1 Hb1.out; have HZ1 : Hid True := qaa trivial; have Hown1 := qaa (show w1.ownsRow wr.heap.size 3 1 (.slice B1 ns1 d1) ns1 (ints (lsy s1)) by simpa using hown1); clear hown1 hgrow1))
    | (((with_reducible refine lguardD2 34 wr #[] ?_); refine yac (by rfl) (.tmp 28) (.tmp 33) 28 (by rfl) wr.heap.size 3 j0 _ 1 8 underlying28 hj hy0 hy1 hy2 rfl (by decide) (.slice (some ⟨wr.heap.size, 0, none⟩) 0 0) (0) ([]) (by rfl) (yaG (lblkD2 wr _ _ _) (by omega)) (As1) (ns1) (cs1) (wr.heap.size) (ints (lsy s1)) (by rfl) (Hrd1.out _ (lbd2 wr _ _)) (Hone1.out) (by unfold maxLen; omega) (by omega) (by simp; omega) (ns1) (qaz ns1) ?_; intro B1 d1 w1 hown1 hgrow1 _; have Hb1 : Hid (Below wr.heap.size wr w1) := qaa (qbz (lbd2 wr _ _) hgrow1 (by simp; omega) (fun g hg => by injection hg with hg; simp at hg; omega)); have hS1 := HSof.out w1 Hb1.out; have HZ1 : Hid (Blk w1 (wr.heap.size + 1) 198 #[.int .i64 0, .slice none 0 0, .bool false]) := qaa (Blk.grow' (lblkD3 wr _ _ _) hgrow1 (by intro h; injection h with h; simp at h)); have HG1 := qaa (show wr.heap.size ≤ wr.heap.size + 1 from Nat.le_succ _); have Hown1 := qaa (show w1.ownsRow wr.heap.size 3 1 (.slice B1 ns1 d1) ns1 (ints (lsy s1)) by simpa using hown1); clear hown1 hgrow1))
    | (((with_reducible refine lguardD2 34 wr #[.int .i64 0, .slice none 0 0, .bool false] ?_); refine yac (by rfl) (.tmp 28) (.tmp 33) 28 (by rfl) wr.heap.size 3 j0 _ 1 8 underlying28 hj hy0 hy1 hy2 rfl (by decide) (.slice (some ⟨wr.heap.size + 1, 0, none⟩) 0 0) (0) ([]) (by rfl) (yaG (lblkD3 wr _ _ _) (by omega)) (As1) (ns1) (cs1) (wr.heap.size) (ints (lsy s1)) (by rfl) (Hrd1.out _ (lbd2 wr _ _)) (Hone1.out) (by unfold maxLen; omega) (by omega) (by simp; omega) (ns1) (qaz ns1) ?_; intro B1 d1 w1 hown1 hgrow1 _; have Hb1 : Hid (Below wr.heap.size wr w1) := qaa (qbz (lbd2 wr _ _) hgrow1 (by simp; omega) (fun g hg => by injection hg with hg; simp at hg; omega)); have hS1 := HSof.out w1 Hb1.out; have HZ1 : Hid (Blk w1 (wr.heap.size) 198 #[.int .i64 0, .slice none 0 0, .bool false]) := qaa (Blk.grow' (lblkD2 wr _ _ _) hgrow1 (by intro h; injection h with h; simp at h)); have HG1 := qaa (show wr.heap.size ≤ wr.heap.size from qad _); have Hown1 := qaa (show w1.ownsRow wr.heap.size 3 1 (.slice B1 ns1 d1) ns1 (ints (lsy s1)) by simpa using hown1); clear hown1 hgrow1))
    | (((with_reducible refine lguard3 41 w1 ?_); refine yac (by rfl) (.tmp 34) (.tmp 40) 28 (by rfl) wr.heap.size 3 j0 _ 1 8 underlying28 hj hy0 hy1 hy2 rfl (by decide) (.slice B1 ns1 d1) (ns1) (ints (lsy s1)) (by rfl) (Hown1.out.alloc _) (As2) (ns2) (cs2) (wr.heap.size) (ints (lsy s2)) (by rfl) (Hrd2.out _ (Hb1.out.alloc Hb1.out.size _)) (Hone2.out) (by unfold maxLen; omega) (by omega) (by have := Hb1.out.size; simp; omega) (ns1 + ns2) (rfl) ?_; intro B2 d2 w2 hown2 hgrow2 _; have Hb2 : Hid (Below wr.heap.size wr w2) := qaa (qbz (Hb1.out.alloc Hb1.out.size _) hgrow2 (by have := Hb1.out.size; simp; omega) (fun g hg => (Hown1.out.lt g hg).1)); have hS1 := HSof.out w2 Hb2.out; have HZ2 : Hid (Blk w2 w1.heap.size 198 #[.int .i64 0, .slice none 0 0, .bool false]) := qaa (Blk.grow' (Blk.new _ _ _) hgrow2 (fun h => lnot_own Hown1.out h)); have z0 := HZ2.out.cell 0; have z1 := HZ2.out.cell 1; have z2 := HZ2.out.cell 2; have zf0 := HZ2.out.frozen 0; have zf1 := HZ2.out.frozen 1; have zf2 := HZ2.out.frozen 2; have hS2 := fun v0 v1 v2 => HSof.out _ (lbset Hb2.out Hb1.out.size v0 v1 v2); have Hown2 := qaa (show w2.ownsRow wr.heap.size 3 1 (.slice B2 (ns1 + ns2) d2) (ns1 + ns2) (ints (lsy s1) ++ ints (lsy s2)) by simpa using hown2); clear hown2 hgrow2; have hO2 := fun v0 v1 v2 => lown_sets Hown2.out HZ2.out (by decide) v0 v1 v2; have hBs := fun v0 v1 v2 => lbset Hb2.out Hb1.out.size v0 v1 v2))
    | (((with_reducible refine yfF 41 ?_); have HZ0 := lisblk HZ1.out; refine yac (by rfl) (.tmp 34) (.tmp 40) 28 (by rfl) wr.heap.size 3 j0 _ 1 8 underlying28 hj hy0 hy1 hy2 rfl (by decide) (.slice B1 ns1 d1) (ns1) (ints (lsy s1)) (by rfl) (Hown1.out) (As2) (ns2) (cs2) (wr.heap.size) (ints (lsy s2)) (by rfl) (Hrd2.out _ (Hb1.out)) (Hone2.out) (by unfold maxLen; omega) (by omega) (Hb1.out.size) (ns1 + ns2) (rfl) ?_; intro B2 d2 w2 hown2 hgrow2 _; have Hb2 : Hid (Below wr.heap.size wr w2) := qaa (qbz (Hb1.out) hgrow2 (by have := Hb1.out.size; simp; omega) (fun g hg => (Hown1.out.lt g hg).1)); have hS1 := HSof.out w2 Hb2.out; have HZ2 := qaa (Blk.grow' HZ0 hgrow2 (lnot_blk Hown1.out HZ0 (by decide))); have z0 := HZ2.out.cell 0; have z1 := HZ2.out.cell 1; have z2 := HZ2.out.cell 2; have zf0 := HZ2.out.frozen 0; have zf1 := HZ2.out.frozen 1; have zf2 := HZ2.out.frozen 2; have hS2 := fun v0 v1 v2 => HSof.out _ (lbset Hb2.out HG1.out v0 v1 v2); have Hown2 := qaa (show w2.ownsRow wr.heap.size 3 1 (.slice B2 (ns1 + ns2) d2) (ns1 + ns2) (ints (lsy s1) ++ ints (lsy s2)) by simpa using hown2); clear hown2 hgrow2; have hO2 := fun v0 v1 v2 => lown_sets Hown2.out HZ2.out (by decide) v0 v1 v2; have hBs := fun v0 v1 v2 => lbset Hb2.out HG1.out v0 v1 v2))
    | (((with_reducible refine yfF 41 ?_); refine yac (by rfl) (.tmp 34) (.tmp 40) 28 (by rfl) wr.heap.size 3 j0 _ 1 8 underlying28 hj hy0 hy1 hy2 rfl (by decide) (.slice B1 ns1 d1) (ns1) (ints (lsy s1)) (by rfl) (Hown1.out) (As2) (ns2) (cs2) (wr.heap.size) (ints (lsy s2)) (by rfl) (Hrd2.out _ (Hb1.out)) (Hone2.out) (by unfold maxLen; omega) (by omega) (Hb1.out.size) (ns1 + ns2) (rfl) ?_; intro B2 d2 w2 hown2 hgrow2 _; have Hb2 : Hid (Below wr.heap.size wr w2) := qaa (qbz (Hb1.out) hgrow2 (by have := Hb1.out.size; simp; omega) (fun g hg => (Hown1.out.lt g hg).1)); have hS1 := HSof.out w2 Hb2.out; have Hown2 := qaa (show w2.ownsRow wr.heap.size 3 1 (.slice B2 (ns1 + ns2) d2) (ns1 + ns2) (ints (lsy s1) ++ ints (lsy s2)) by simpa using hown2); clear hown2 hgrow2))
    | fail)
   all_goals go_wp2_with (go_at_call 188; refine (Hput.out _ _ _ (by first | exact Hb2.out.alloc Hb2.out.size _ | exact hBs _ _ _) (by first | exact Hown2.out.alloc _ | exact hO2 _ _ _)).mono ?_; rintro e w5 ⟨A5, c5, rfl, hc5, hR5, hb5⟩; have Hc5 := qaa hc5; have HR5 := qaa hR5; have Hb5 := qaa hb5; clear hc5 hR5 hb5)
   all_goals go_roundw
   all_goals (first | exact ⟨k + 2, p + 1, c5, A5, _, by omega, by omega, Hc5.out, rfl, iv (by omega), Hf2.out, HR5.out, Hb5.out⟩ | (simp only [intOf]; omega))
  ·have hf := Hf.out
   rw [lpacks_few R k (by have := En.out; omega)] at hf
   have hf2 : Rp = T1 := hf
   subst hf2
   have hnk : (n : Int) ≤ (k : Int) + 1 := by omega
   have HT2 : Hid ((leaves.drop 0).foldl lput Rp = T2) := HT
   have hp0 : p ≤ 10001 := by omega
   clear hf Hf
   go_wp2
   go_loopw [5, 8] (fun v i W => ∃ (q p2 cp2 : Nat) (Ap2 : Option Addr) (Rp2 : List LTh), q ≤ m ∧ p2 ≤ 10001 + q ∧ p2 ≤ cp2 ∧ v = .slice Ap2 p2 cp2 ∧ i = .int .i64 q ∧ Hid ((leaves.drop q).foldl lput Rp2 = T2) ∧ Hid (LHRow W W.heap.size ok Ap2 p2 Rp2) ∧ Hid (Below w.heap.size w W)) (fun _ i _ => m - (intOf i).toNat)
   case atStart => exact ⟨0, p, cp, Ap, Rp, by omega, by omega, hpc, rfl, rfl, HT2.out, HRp.out, Hb.out⟩
   case round =>
    obtain ⟨q, p2, cp2, Ap2, Rp2, hq, hp2, hpc2, rfl, rfl, Hf, HR2, Hb2⟩ := hrel
    by_cases hlq : q < m
    ·have hqi : (0 : Int) ≤ (q : Int) ∧ (q : Int) < m := by omega
     have hql : q < leaves.length := by rw [Em.out]; exact hlq
     obtain ⟨b, off, As, cs, rfl, hb, hcs, hrs, hcell⟩ := HLcell.out q hql
     obtain ⟨x1, x2, x3⟩ := hcell _ Hb2.out
     have hf := Hf.out
     rw [qau hql, List.foldl_cons] at hf
     have Hf2 := qaa hf
     have hput := fun W (hb4 : Below w.heap.size w W) (hR4 : LHRow W W.heap.size ok Ap2 p2 Rp2) => ydg ok Rp2 leaves[q] Ap2 As p2 cp2 cs W (by omega) hpc2 (fun b hb2 => hok b (qaA hb4.size hb2)) hR4 hcs ⟨(hrs.1.below hb4).more hb4.size, hrs.2⟩
     have Hput := qaa hput
     clear hcell hrs hf hput Hf
     generalize leaves[q] = y at *
     generalize hns : y.syms.length = ns at *
     generalize hyw : y.w = yw at *
     generalize hyl : y.leaf = yl at *
     go_wp2_with (go_at_call 188; refine (Hput.out _ Hb2.out HR2.out).mono ?_; rintro e w5 ⟨A5, c5, rfl, hc5, hR5, hb5⟩; have Hc5 := qaa hc5; have HR5 := qaa hR5; have Hb5 := qaa (Hb2.out.trans (hb5.mono Hb2.out.size)); clear hc5 hR5 hb5)
     go_roundw
     case rel => exact ⟨q + 1, p2 + 1, c5, A5, _, by omega, by omega, Hc5.out, rfl, iv (by omega), Hf2.out, HR5.out, Hb5.out⟩
     case measure => simp only [intOf]; omega
    ·obtain rfl : q = m := by omega
     have hf := Hf.out
     rw [qaH (by rw [Em.out]; exact qad _)] at hf
     have hf2 : Rp2 = T2 := hf
     subst hf2
     have hlen := HR2.out.1
     subst hlen
     clear hf Hf
     go_wp2
     go_ret
     exact ⟨Ap2, cp2, rfl, hpc2, HR2.out, Hb2.out⟩
theorem str_from (l : List UInt8) (p : Nat) (hp : p ≤ l.length) (w : World) :
  (Instr.slice 9 (.string ⟨l.toArray⟩) (some (.int .i64 (p : Int))) none none).run prog w = .ok (.string ⟨(l.drop p).toArray⟩) w := by
 rw [run_slice_string_l w 9 ⟨l.toArray⟩ underlying9 .i64 (p : Int) (by omega) (by rw [qaL, qa3]; omega), qce, qaL, qa3, qan, qar (by rw [qas]; omega)]
theorem run_slice_top {P : Program} {t e : TypeId} {i : TypeInfo} {size : Nat} (ht : P.underlying t = some (.slice e)) (hi : P.info? e = some i) (hs : i.size = size) (A : Option Addr) (n c k : Nat) (hk : k ≤ c) (w : World) :
  (Instr.slice t (.slice A n c) none (some (.int .i64 (k : Int))) none).run P w = .ok (.slice A k c) w := by
 have he : P.elem t = e := by simp [Program.elem, ht]
 rw [run_slice_h w t A n c (by rw [he]; exact ht) .i64 k (by omega) (by omega), he]
 simp [sizeOf, typeInfo, hi, hs, sliced]
 intro _
 cases A with
 | none => rfl
 | some a => simp [Addr.add]
theorem s_empty {N : Nat} (W : World) (h : N ≤ W.heap.size) : (W.alloc (.cells #[] 3)).ownsRow N 3 1 (.slice (some ⟨W.heap.size, 0, none⟩) 0 0) 0 (ints []) :=
 ⟨rfl, qaI ⟨W.heap.size, 0, #[], rfl, h, Blk.new W _ _, qad _, by unfold maxLen; omega, rfl, rfl⟩⟩
def SOne (N : Nat) (W : World) (g : Nat) (x : Int) : Prop := Blk W g 3 #[.int .i64 x] ∧ N ≤ g
theorem SOne.alloc {N g : Nat} {W : World} {x : Int} (h : SOne N W g x) (o : Obj) : SOne N (W.alloc o) g x := ⟨h.1.alloc o, h.2⟩
theorem s_new {N : Nat} (W : World) (x : Int) (h : N ≤ W.heap.size) : SOne N (W.alloc (.cells #[.int .i64 x] 3)) W.heap.size x := ⟨Blk.new W _ _, h⟩
theorem s_reads {N g : Nat} {W : World} {x : Int} (h : SOne N W g x) : Reads W W.heap.size 1 (some ⟨g, 0, none⟩) 1 (ints [x]) := yar (l := [x]) h.1 rfl
theorem s_sepA {N g : Nat} {W : World} {x : Int} (h : SOne N W g x) (o : Obj) : (Value.slice (some ⟨W.heap.size, 0, none⟩) 0 0).ownBlock ≠ some g := fun e => by
 have := h.1.lt
 injection e with e
 simp only at e
 omega
theorem s_sepB {N n : Nat} {W : World} {v : Value} {xs : List Value} (h : W.ownsRow N 3 1 v n xs) : v.ownBlock ≠ some W.heap.size := fun e => by
 have := (h.lt _ e).2
 omega
theorem s_sepC {N g : Nat} {W : World} {x : Int} {v v' : Value} (h : SOne N W g x) (hv : v.ownBlock ≠ some g) (hs : Sep W v v') : v'.ownBlock ≠ some g := fun e => by
 have := h.1.lt
 rcases hs g e with e2 | e2
 ·exact hv e2
 ·omega
theorem s_keep {N g : Nat} {W W' : World} {x : Int} {v : Value} (h : SOne N W g x) (hv : v.ownBlock ≠ some g) (hg : W.grownBy W' v.ownBlock) : SOne N W' g x := ⟨h.1.grow' hg hv, h.2⟩
theorem yaU {w1 W W' : World} {n : Nat} {v : Value} {xs : List Value} (hb : Below w1.heap.size w1 W) (h : W.ownsRow w1.heap.size 3 1 v n xs) (hg : W.grownBy W' v.ownBlock) : Below w1.heap.size w1 W' := hb.grown hg hb.size fun b hb => (h.lt b hb).1
theorem s_base {N M n : Nat} {W : World} {v : Value} {xs : List Value} (h : W.ownsRow N 3 1 v n xs) (hm : M ≤ N) : W.ownsRow M 3 1 v n xs := by
 refine ⟨h.1, ?_⟩
 rcases h.2 with h0 | ⟨g, cap, cur, a1, a2, rest⟩
 ·exact qay h0
 ·exact qaI ⟨g, cap, cur, a1, qaA hm a2, rest⟩
theorem s_three (a b : List Nat) (k : Nat) : splc (a ++ k :: b) = (([] ++ splc a) ++ [(k : Int)]) ++ splc b := by simp [splc]
theorem Reads.headOf {w : World} {B n m : Nat} {A : Option Addr} {xs : List Value} (h : Reads w B 1 A n xs) (hm : m ≤ n) : Reads w B 1 A m (xs.take m) := by
 refine ⟨by rw [qao, h.1]; omega, fun hp => ?_⟩
 obtain ⟨b, off, e, hb, hc⟩ := h.2 (by omega)
 refine ⟨b, off, e, hb, fun j u hu => hc j u ?_⟩
 rw [qc2] at hu
 split at hu
 ·exact hu
 ·cases hu
theorem saF_no {s : List UInt8} (h : 20000 < s.length) : saF s = ([], 3) := qag h
theorem saF_yes {s : List UInt8} (h : ¬ 20000 < s.length) : saF s = (splc (sarr s), 0) := qae h
theorem sref_array_any (s : List UInt8) (w : World) (hs : s.length ≤ 1099511627776) :
  Calls prog 77 #[.string ⟨s.toArray⟩] w fun e w' => yfR w w' e (saF s) := by
 obtain ⟨i0, hi, hz0, hz1, hz9⟩ := qb1 ydc
 have hsi : (s.length : Int) ≤ 1099511627776 := by omega
 by_cases hbig : 20000 < s.length
 ·rw [saF_no hbig]
  have hb1 : (20000 : Int) < (s.length : Int) := by omega
  go_enter func77, ntmps77
  go_wp2
  go_ret2
  exact yfx (qak _ _)
 have hb1 : ¬ (20000 : Int) < (s.length : Int) := by omega
 have hst : ∀ p, p ≤ s.length → ∀ w, (Instr.slice 9 (.string ⟨s.toArray⟩) (some (.int .i64 (p : Int))) none none).run prog w = .ok (.string ⟨(s.drop p).toArray⟩) w := fun p hp w => str_from s p hp w
 rw [saF_yes hbig]
 have htl : ∀ l : List UInt8, (ByteArray.mk l.toArray).toList = l := fun l => by rw [Lib.toList_data]
 have Hst := qaa hst
 have Hbig := qaa hbig
 clear hst hbig
 go_enter func77, ntmps77
 go_wp2
 go_loopw [4, 5, 6, 7, 8] (fun v i lx hx mx wr => ∃ (k : Nat) (Av : Option Addr) (cv : Nat), k ≤ s.length + 1 ∧ v = .slice Av k cv ∧ i = .int .i64 k ∧ Hid (wr.ownsRow w.heap.size 3 1 (.slice Av k cv) k (ints (splc (slay (slt s) k)))) ∧ Hid (Below w.heap.size w wr)) (fun _ i _ _ _ _ => s.length + 1 - (intOf i).toNat)
 case atStart => exact ⟨0, none, 0, by omega, rfl, rfl, qaa (qbn _ _ _ _), qaa (qak _ _)⟩
 case round =>
  obtain ⟨k, Av, cv, hk, rfl, rfl, HO, HB⟩ := hrel
  obtain ⟨w1, rfl⟩ : ∃ w1, w1 = wr := ⟨_, rfl⟩
  by_cases hlt : k ≤ s.length
  ·have hki : (k : Int) ≤ (s.length : Int) := by omega
   have hsk := Hst.out k hlt
   obtain ⟨A2, c2, e2, hkc, hrd⟩ := yae HO.out
   injection e2 with e3 _ e4
   subst e3 e4
   have hlen := ygd (slt s) k
   have hmem := yeI (slt s) k
   have hsort := yeN (yco s) k (by omega)
   have Hsort := qaa hsort
   have Hlen := qaa hlen
   have Hmem := qaa hmem
   have Hrd := qaa hrd
   clear hsort hmem hrd
   obtain ⟨L, hL⟩ : ∃ L, slay (slt s) k = L := ⟨_, rfl⟩
   have HL := qaa hL
   rw [hL] at HO Hsort Hlen Hmem Hrd hlen
   clear hL hlen
   go_wp2
   go_loopw [6, 7, 8] (fun lx hx mx W => ∃ lo hi : Nat, lo ≤ hi ∧ hi ≤ k ∧ lx = .int .i64 lo ∧ hx = .int .i64 hi ∧ Hid (∀ i (h : i < L.length), i < lo → slt s L[i] k = true) ∧ Hid (∀ i (h : i < L.length), hi ≤ i → slt s L[i] k = false) ∧ Hid (Below w1.heap.size w1 W)) (fun lx hx _ _ => (intOf hx).toNat - (intOf lx).toNat)
   case atStart => exact ⟨0, k, by omega, by omega, rfl, rfl, qaa fun i _ h => by omega, qaa fun i h h2 => by rw [Hlen.out] at h; omega, qaa (qak _ _)⟩
   case round =>
    obtain ⟨lo, hi2, hlh, hhk, rfl, rfl, H1, H2, HW⟩ := hrel
    by_cases hll : lo < hi2
    ·have hli : (lo : Int) < (hi2 : Int) := by omega
     obtain ⟨m, hm⟩ : ∃ m, (lo + hi2) / 2 = m := ⟨_, rfl⟩
     have hmi : ((lo : Int) + (hi2 : Int)) / 2 = (m : Int) := by omega
     have hmb : lo ≤ m ∧ m < hi2 := by omega
     have hmz : (0 : Int) ≤ (m : Int) ∧ (m : Int) < (k : Int) ∧ (hi2 : Int) ≤ 20001 := by omega
     have hml : m < L.length := by rw [Hlen.out]; omega
     obtain ⟨b, off, rfl, hbl, hc⟩ := Hrd.out.2 (by omega)
     have x1 := (HW.out.cell (p := ⟨b, off + m, none⟩) hbl).trans (hc m _ (yai _ m (by rw [yao]; exact hml)))
     rw [yeJ] at x1
     have hq := (Hmem.out L[m]).1 (qaq hml)
     have hsq := Hst.out L[m] (by omega)
     have hb0 : Op.bytesLess (s.drop L[m]) (s.drop k) = slt s L[m] k := rfl
     cases hd : slt s L[m] k with
     | true =>
      rw [hd] at hb0
      have H1' : Hid (∀ i (h : i < L.length), i < m + 1 → slt s L[i] k = true) := qaa fun i hi him => by
       rcases Nat.lt_or_eq_of_le (Nat.lt_succ_iff.1 him) with h | h
       ·exact (yco s).tr _ _ _ (yb6 Hsort.out i m hi hml h) hd
       ·subst h; exact hd
      clear hd hc
      generalize L[m] = p at *
      go_wp2
      go_quiet (fail)
      go_wp2
      go_roundw
      case rel => exact ⟨m + 1, hi2, by omega, by omega, iv (by omega), rfl, H1', H2, qaa (yaj HW.out _)⟩
      case measure => simp only [intOf]; omega
     | false =>
      rw [hd] at hb0
      have H2' : Hid (∀ i (h : i < L.length), m ≤ i → slt s L[i] k = false) := qaa fun i hi him => by
       rcases Nat.lt_or_eq_of_le him with h | h
       ·cases h2 : slt s L[i] k with
        | false => rfl
        | true =>
         have := (yco s).tr _ _ _ (yb6 Hsort.out m i hml hi h) h2
         rw [hd] at this
         cases this
       ·subst h; exact hd
      clear hd hc
      generalize L[m] = p at *
      go_wp2
      go_quiet (fail)
      go_wp2
      go_roundw
      case rel => exact ⟨lo, m, by omega, by omega, rfl, iv hmi, H1, H2', qaa (yaj HW.out _)⟩
      case measure => simp only [intOf]; omega
    ·obtain rfl : lo = hi2 := by omega
     have hii : ¬ (lo : Int) < (lo : Int) := by omega
     have hcut := scut_is (slt s) k L lo (by rw [Hlen.out]; exact hhk) H1.out (fun i hi he => H2.out i hi (by omega))
     have hins : slay (slt s) (k + 1) = L.take lo ++ k :: L.drop lo := by
      show sins (slt s) k (slay (slt s) k) = _
      rw [HL.out]
      unfold sins
      rw [hcut]
     have Hins := qaa hins
     have htop := fun W => run_slice_top (P := prog) underlying28 hi hz1 Av k cv lo (by omega) W
     have hfrom := fun W => yby (P := prog) underlying28 hi hz1 Av k cv lo (by omega) W
     have hcutr := Hrd.out.cut (k := lo) (cap := cv) (by omega) hkc
     rw [qcK, gints_drop, splc_drop] at hcutr
     rw [qcK] at hfrom
     obtain ⟨A5, hA5⟩ : ∃ A5, (if cv = lo then Av else Av.map (·.add lo)) = A5 := ⟨_, rfl⟩
     rw [hA5] at hcutr hfrom
     obtain ⟨c5, hc5⟩ : ∃ c5, cv - lo = c5 := ⟨_, rfl⟩
     rw [hc5] at hfrom
     have hfr := Hrd.out.headOf (m := lo) (by omega)
     rw [gints_take, splc_take] at hfr
     have HR1 := qaa fun (W : World) (h : Below w1.heap.size w1 W) => hfr.below h
     have HR2 := qaa fun (W : World) (h : Below w1.heap.size w1 W) => hcutr.below h
     have HBw := qaa HW.out.drew
     have hlk : lo ≤ k ∧ k ≤ 20001 := by have := Hbig.out; omega
     clear hcut hins hA5 hc5 hfr hcutr hsk
     go_wp2
     -- INS
     refine wp_region_held_drew (S := (fun _ => True)) (by kernel_rfl) (trivial) (fun hHeld => ?_)
     refine qaU (i := 1) (oi := _) (v := ?_) rfl (by kernel_rfl) (by kernel_rfl) (by kernel_rfl) (fun _ _ _ h => h) (qay ⟨by rfl, ?_⟩) hHeld ?_
     rotate_left
     ·(intro wz hSw; go_simp; try (with_reducible rfl))
     try simp only [Act.put, qac, qai, qaf]
     refine qaU (i := 2) (oi := _) (v := ?_) rfl (by kernel_rfl) (by kernel_rfl) (by kernel_rfl) (fun _ _ _ h => h) (qay ⟨by rfl, ?_⟩) hHeld ?_
     rotate_left
     ·(intro wz hSw; go_simp; try (with_reducible rfl))
     try simp only [Act.put, qac, qai, qaf]
     refine qaU (i := 3) (oi := _) (v := ?_) rfl (by kernel_rfl) (by kernel_rfl) (by kernel_rfl) (fun _ _ _ h => h) (qay ⟨by rfl, ?_⟩) hHeld ?_
     rotate_left
     ·(intro wz hSw; go_simp; try (with_reducible rfl))
     try simp only [Act.put, qac, qai, qaf]
     refine qaU (i := 5) (oi := _) (v := ?_) rfl (by kernel_rfl) (by kernel_rfl) (by kernel_rfl) (fun _ _ _ h => h) (qay ⟨by rfl, ?_⟩) hHeld ?_
     rotate_left
     ·(intro wz hSw; go_simp; try (with_reducible rfl))
     try simp only [Act.put, qac, qai, qaf]
     refine qaU (i := 8) (oi := _) (v := ?_) rfl (by kernel_rfl) (by kernel_rfl) (by kernel_rfl) (fun _ _ _ h => h) (qay ⟨by rfl, ?_⟩) hHeld ?_
     rotate_left
     ·(intro wz hSw; go_simp; try (with_reducible rfl))
     try simp only [Act.put, qac, qai, qaf]
     refine qaU (i := 9) (oi := _) (v := ?_) rfl (by kernel_rfl) (by kernel_rfl) (by kernel_rfl) (fun _ _ _ h => h) (qay ⟨by rfl, ?_⟩) hHeld ?_
     rotate_left
     ·(intro wz hSw; go_simp; try (with_reducible rfl))
     try simp only [Act.put, qac, qai, qaf]
     refine qaU (i := 10) (oi := _) (v := ?_) rfl (by kernel_rfl) (by kernel_rfl) (by kernel_rfl) (fun _ _ _ h => h) (qay ⟨by rfl, ?_⟩) hHeld ?_
     rotate_left
     ·(intro wz hSw; go_simp; try (with_reducible rfl))
     try simp only [Act.put, qac, qai, qaf]
     refine qaO (rs := [0, 6]) (by kernel_rfl) (by simp) ?_
     refine qa6 (o := _) rfl (fun K hK => ?_) ?_
     ·skip
      go_simp
      refine hK.out _ _ (trivial) (fun _ => ?_)
      clear hK K
      have HA := qaa (s_empty _ HBw.out.size)
      try (have HS := qaa (s_sepA HX.out (.cells #[] 3)))
      try (replace HX := qaa (HX.out.alloc (.cells #[] 3)))
      replace HBw := qaa (HBw.out.alloc HBw.out.size (.cells #[] 3))
      try rw [qaw] at HA
      try rw [qaw] at HS
      try simp only [Act.put, qac, qai, qaf]
      refine qaO (rs := [4, 6]) (by kernel_rfl) (by simp) ?_
      refine qa6 (o := _) rfl (fun K hK => ?_) ?_
      ·skip
       refine yac (by rfl) (.tmp 40) (.tmp 43) 28 (by rfl) w1.heap.size 3 i0 _ 1 8 underlying28 hi hz0 hz1 hz9 rfl (by decide) _ 0 (ints ([])) (by rfl) HA.out Av lo cv _ (ints (splc (L.take lo))) (by rfl) (HR1.out _ HBw.out) (ya4 _) (by unfold maxLen; omega) (by omega) HBw.out.size (lo) (qaz lo) ?_
       intro A_HA1 c_HA1 w_HA1 ho_ hg_ hs_
       refine hK.out _ _ (trivial) (fun _ => ?_)
       clear hK K
       try (have HS2 := qaa (s_sepC HX.out HS.out hs_))
       try (replace HX := qaa (s_keep HX.out HS.out hg_))
       try (replace HS := HS2)
       have HA1 : Hid (w_HA1.ownsRow w1.heap.size 3 1 (.slice A_HA1 (lo) c_HA1) (lo) (ints (([]) ++ (splc (L.take lo))))) := qaa (by rw [yav]; exact ho_)
       replace HBw := qaa (yaU HBw.out HA.out hg_)
       clear ho_ hg_ hs_
       try simp only [Act.put, qac, qai, qaf]
       refine qaO (rs := [6]) (by kernel_rfl) (by simp) ?_
       refine qa6 (o := _) rfl (fun K hK => ?_) qaK
       go_simp
       refine hK.out _ _ (trivial) (fun _ => ?_)
       clear hK K
       have HX := qaa (s_new _ (k : Int) HBw.out.size)
       try (have HS := qaa (s_sepB HA.out))
       try (have HS := qaa (s_sepB HA1.out))
       try (replace HA := qaa (HA.out.alloc (.cells #[.int .i64 (k : Int)] 3)))
       try (replace HA1 := qaa (HA1.out.alloc (.cells #[.int .i64 (k : Int)] 3)))
       replace HBw := qaa (HBw.out.alloc HBw.out.size (.cells #[.int .i64 (k : Int)] 3))
       try rw [qaw] at HX
       try rw [qaw] at HS
       try simp only [Act.put, qac, qai, qaf]
       refine qaO (rs := [7]) (by kernel_rfl) (by simp) ?_
       refine qa6 (o := _) rfl (fun K hK => ?_) qaK
       refine yac (by rfl) (.tmp 44) (.tmp 46) 28 (by rfl) w1.heap.size 3 i0 _ 1 8 underlying28 hi hz0 hz1 hz9 rfl (by decide) _ lo (ints ([] ++ splc (L.take lo))) (by rfl) HA1.out _ 1 1 _ (ints ([(k : Int)])) (by rfl) (s_reads HX.out) (ya4 _) (by unfold maxLen; omega) (by omega) HBw.out.size (lo + 1) rfl ?_
       intro A_HA2 c_HA2 w_HA2 ho_ hg_ hs_
       refine hK.out _ _ (trivial) (fun _ => ?_)
       clear hK K
       have HA2 : Hid (w_HA2.ownsRow w1.heap.size 3 1 (.slice A_HA2 (lo + 1) c_HA2) (lo + 1) (ints (([] ++ splc (L.take lo)) ++ ([(k : Int)])))) := qaa (by rw [yav]; exact ho_)
       replace HBw := qaa (yaU HBw.out HA1.out hg_)
       clear ho_ hg_ hs_
       try simp only [Act.put, qac, qai, qaf]
       refine qaO (rs := [11]) (by kernel_rfl) (by simp) ?_
       refine qa6 (o := _) rfl (fun K hK => ?_) qaK
       refine yac (by rfl) (.tmp 47) (.tmp 50) 28 (by rfl) w1.heap.size 3 i0 _ 1 8 underlying28 hi hz0 hz1 hz9 rfl (by decide) _ (lo + 1) (ints (([] ++ splc (L.take lo)) ++ [(k : Int)])) (by rfl) HA2.out A5 (k - lo) c5 _ (ints (splc (L.drop lo))) (by rfl) (HR2.out _ HBw.out) (ya4 _) (by unfold maxLen; omega) (by omega) HBw.out.size (k + 1) (by omega) ?_
       intro A_HA3 c_HA3 w_HA3 ho_ hg_ hs_
       refine hK.out _ _ (trivial) (fun _ => ?_)
       clear hK K
       have HA3 : Hid (w_HA3.ownsRow w1.heap.size 3 1 (.slice A_HA3 (k + 1) c_HA3) (k + 1) (ints ((([] ++ splc (L.take lo)) ++ [(k : Int)]) ++ (splc (L.drop lo))))) := qaa (by rw [yav]; exact ho_)
       replace HBw := qaa (yaU HBw.out HA2.out hg_)
       clear ho_ hg_ hs_
       try simp only [Act.put, qac, qai, qaf]
       refine qaU (i := 12) (oi := _) (v := ?_) rfl (by kernel_rfl) (by kernel_rfl) (by kernel_rfl) (fun _ _ _ h => h) (qay ⟨by rfl, ?_⟩) hHeld ?_
       rotate_left
       ·(intro wz hSw; go_simp; try (with_reducible rfl))
       try simp only [Act.put, qac, qai, qaf]
       refine qcr (by kernel_rfl) ?_ _
       have HF : Hid (w_HA3.ownsRow w.heap.size 3 1 (.slice A_HA3 (k + 1) c_HA3) (k + 1) (ints (splc (slay (slt s) (k + 1))))) := qaa (by rw [Hins.out, s_three]; exact s_base HA3.out HB.out.size)
       have HG := qaa (HB.out.trans (HBw.out.mono HB.out.size))
       go_wp2
       go_roundw
       case rel => exact ⟨k + 1, A_HA3, c_HA3, by omega, rfl, iv (by omega), HF, HG⟩
       case measure => simp only [intOf]; omega
      refine qa6 (o := _) rfl (fun K hK => ?_) qaK
      go_simp
      refine hK.out _ _ (trivial) (fun _ => ?_)
      clear hK K
      have HX := qaa (s_new _ (k : Int) HBw.out.size)
      try (have HS := qaa (s_sepB HA.out))
      try (have HS := qaa (s_sepB HA1.out))
      try (replace HA := qaa (HA.out.alloc (.cells #[.int .i64 (k : Int)] 3)))
      try (replace HA1 := qaa (HA1.out.alloc (.cells #[.int .i64 (k : Int)] 3)))
      replace HBw := qaa (HBw.out.alloc HBw.out.size (.cells #[.int .i64 (k : Int)] 3))
      try rw [qaw] at HX
      try rw [qaw] at HS
      try simp only [Act.put, qac, qai, qaf]
      refine qaO (rs := [4]) (by kernel_rfl) (by simp) ?_
      refine qa6 (o := _) rfl (fun K hK => ?_) qaK
      refine yac (by rfl) (.tmp 40) (.tmp 43) 28 (by rfl) w1.heap.size 3 i0 _ 1 8 underlying28 hi hz0 hz1 hz9 rfl (by decide) _ 0 (ints ([])) (by rfl) HA.out Av lo cv _ (ints (splc (L.take lo))) (by rfl) (HR1.out _ HBw.out) (ya4 _) (by unfold maxLen; omega) (by omega) HBw.out.size (lo) (qaz lo) ?_
      intro A_HA1 c_HA1 w_HA1 ho_ hg_ hs_
      refine hK.out _ _ (trivial) (fun _ => ?_)
      clear hK K
      try (have HS2 := qaa (s_sepC HX.out HS.out hs_))
      try (replace HX := qaa (s_keep HX.out HS.out hg_))
      try (replace HS := HS2)
      have HA1 : Hid (w_HA1.ownsRow w1.heap.size 3 1 (.slice A_HA1 (lo) c_HA1) (lo) (ints (([]) ++ (splc (L.take lo))))) := qaa (by rw [yav]; exact ho_)
      replace HBw := qaa (yaU HBw.out HA.out hg_)
      clear ho_ hg_ hs_
      try simp only [Act.put, qac, qai, qaf]
      refine qaO (rs := [7]) (by kernel_rfl) (by simp) ?_
      refine qa6 (o := _) rfl (fun K hK => ?_) qaK
      refine yac (by rfl) (.tmp 44) (.tmp 46) 28 (by rfl) w1.heap.size 3 i0 _ 1 8 underlying28 hi hz0 hz1 hz9 rfl (by decide) _ lo (ints ([] ++ splc (L.take lo))) (by rfl) HA1.out _ 1 1 _ (ints ([(k : Int)])) (by rfl) (s_reads HX.out) (ya4 _) (by unfold maxLen; omega) (by omega) HBw.out.size (lo + 1) rfl ?_
      intro A_HA2 c_HA2 w_HA2 ho_ hg_ hs_
      refine hK.out _ _ (trivial) (fun _ => ?_)
      clear hK K
      have HA2 : Hid (w_HA2.ownsRow w1.heap.size 3 1 (.slice A_HA2 (lo + 1) c_HA2) (lo + 1) (ints (([] ++ splc (L.take lo)) ++ ([(k : Int)])))) := qaa (by rw [yav]; exact ho_)
      replace HBw := qaa (yaU HBw.out HA1.out hg_)
      clear ho_ hg_ hs_
      try simp only [Act.put, qac, qai, qaf]
      refine qaO (rs := [11]) (by kernel_rfl) (by simp) ?_
      refine qa6 (o := _) rfl (fun K hK => ?_) qaK
      refine yac (by rfl) (.tmp 47) (.tmp 50) 28 (by rfl) w1.heap.size 3 i0 _ 1 8 underlying28 hi hz0 hz1 hz9 rfl (by decide) _ (lo + 1) (ints (([] ++ splc (L.take lo)) ++ [(k : Int)])) (by rfl) HA2.out A5 (k - lo) c5 _ (ints (splc (L.drop lo))) (by rfl) (HR2.out _ HBw.out) (ya4 _) (by unfold maxLen; omega) (by omega) HBw.out.size (k + 1) (by omega) ?_
      intro A_HA3 c_HA3 w_HA3 ho_ hg_ hs_
      refine hK.out _ _ (trivial) (fun _ => ?_)
      clear hK K
      have HA3 : Hid (w_HA3.ownsRow w1.heap.size 3 1 (.slice A_HA3 (k + 1) c_HA3) (k + 1) (ints ((([] ++ splc (L.take lo)) ++ [(k : Int)]) ++ (splc (L.drop lo))))) := qaa (by rw [yav]; exact ho_)
      replace HBw := qaa (yaU HBw.out HA2.out hg_)
      clear ho_ hg_ hs_
      try simp only [Act.put, qac, qai, qaf]
      refine qaU (i := 12) (oi := _) (v := ?_) rfl (by kernel_rfl) (by kernel_rfl) (by kernel_rfl) (fun _ _ _ h => h) (qay ⟨by rfl, ?_⟩) hHeld ?_
      rotate_left
      ·(intro wz hSw; go_simp; try (with_reducible rfl))
      try simp only [Act.put, qac, qai, qaf]
      refine qcr (by kernel_rfl) ?_ _
      have HF : Hid (w_HA3.ownsRow w.heap.size 3 1 (.slice A_HA3 (k + 1) c_HA3) (k + 1) (ints (splc (slay (slt s) (k + 1))))) := qaa (by rw [Hins.out, s_three]; exact s_base HA3.out HB.out.size)
      have HG := qaa (HB.out.trans (HBw.out.mono HB.out.size))
      go_wp2
      go_roundw
      case rel => exact ⟨k + 1, A_HA3, c_HA3, by omega, rfl, iv (by omega), HF, HG⟩
      case measure => simp only [intOf]; omega
     refine qa6 (o := _) rfl (fun K hK => ?_) qaK
     go_simp
     refine hK.out _ _ (trivial) (fun _ => ?_)
     clear hK K
     have HX := qaa (s_new _ (k : Int) HBw.out.size)
     try (have HS := qaa (s_sepB HA.out))
     try (have HS := qaa (s_sepB HA1.out))
     try (replace HA := qaa (HA.out.alloc (.cells #[.int .i64 (k : Int)] 3)))
     try (replace HA1 := qaa (HA1.out.alloc (.cells #[.int .i64 (k : Int)] 3)))
     replace HBw := qaa (HBw.out.alloc HBw.out.size (.cells #[.int .i64 (k : Int)] 3))
     try rw [qaw] at HX
     try rw [qaw] at HS
     try simp only [Act.put, qac, qai, qaf]
     refine qaO (rs := [0]) (by kernel_rfl) (by simp) ?_
     refine qa6 (o := _) rfl (fun K hK => ?_) qaK
     go_simp
     refine hK.out _ _ (trivial) (fun _ => ?_)
     clear hK K
     have HA := qaa (s_empty _ HBw.out.size)
     try (have HS := qaa (s_sepA HX.out (.cells #[] 3)))
     try (replace HX := qaa (HX.out.alloc (.cells #[] 3)))
     replace HBw := qaa (HBw.out.alloc HBw.out.size (.cells #[] 3))
     try rw [qaw] at HA
     try rw [qaw] at HS
     try simp only [Act.put, qac, qai, qaf]
     refine qaO (rs := [4]) (by kernel_rfl) (by simp) ?_
     refine qa6 (o := _) rfl (fun K hK => ?_) qaK
     refine yac (by rfl) (.tmp 40) (.tmp 43) 28 (by rfl) w1.heap.size 3 i0 _ 1 8 underlying28 hi hz0 hz1 hz9 rfl (by decide) _ 0 (ints ([])) (by rfl) HA.out Av lo cv _ (ints (splc (L.take lo))) (by rfl) (HR1.out _ HBw.out) (ya4 _) (by unfold maxLen; omega) (by omega) HBw.out.size (lo) (qaz lo) ?_
     intro A_HA1 c_HA1 w_HA1 ho_ hg_ hs_
     refine hK.out _ _ (trivial) (fun _ => ?_)
     clear hK K
     try (have HS2 := qaa (s_sepC HX.out HS.out hs_))
     try (replace HX := qaa (s_keep HX.out HS.out hg_))
     try (replace HS := HS2)
     have HA1 : Hid (w_HA1.ownsRow w1.heap.size 3 1 (.slice A_HA1 (lo) c_HA1) (lo) (ints (([]) ++ (splc (L.take lo))))) := qaa (by rw [yav]; exact ho_)
     replace HBw := qaa (yaU HBw.out HA.out hg_)
     clear ho_ hg_ hs_
     try simp only [Act.put, qac, qai, qaf]
     refine qaO (rs := [7]) (by kernel_rfl) (by simp) ?_
     refine qa6 (o := _) rfl (fun K hK => ?_) qaK
     refine yac (by rfl) (.tmp 44) (.tmp 46) 28 (by rfl) w1.heap.size 3 i0 _ 1 8 underlying28 hi hz0 hz1 hz9 rfl (by decide) _ lo (ints ([] ++ splc (L.take lo))) (by rfl) HA1.out _ 1 1 _ (ints ([(k : Int)])) (by rfl) (s_reads HX.out) (ya4 _) (by unfold maxLen; omega) (by omega) HBw.out.size (lo + 1) rfl ?_
     intro A_HA2 c_HA2 w_HA2 ho_ hg_ hs_
     refine hK.out _ _ (trivial) (fun _ => ?_)
     clear hK K
     have HA2 : Hid (w_HA2.ownsRow w1.heap.size 3 1 (.slice A_HA2 (lo + 1) c_HA2) (lo + 1) (ints (([] ++ splc (L.take lo)) ++ ([(k : Int)])))) := qaa (by rw [yav]; exact ho_)
     replace HBw := qaa (yaU HBw.out HA1.out hg_)
     clear ho_ hg_ hs_
     try simp only [Act.put, qac, qai, qaf]
     refine qaO (rs := [11]) (by kernel_rfl) (by simp) ?_
     refine qa6 (o := _) rfl (fun K hK => ?_) qaK
     refine yac (by rfl) (.tmp 47) (.tmp 50) 28 (by rfl) w1.heap.size 3 i0 _ 1 8 underlying28 hi hz0 hz1 hz9 rfl (by decide) _ (lo + 1) (ints (([] ++ splc (L.take lo)) ++ [(k : Int)])) (by rfl) HA2.out A5 (k - lo) c5 _ (ints (splc (L.drop lo))) (by rfl) (HR2.out _ HBw.out) (ya4 _) (by unfold maxLen; omega) (by omega) HBw.out.size (k + 1) (by omega) ?_
     intro A_HA3 c_HA3 w_HA3 ho_ hg_ hs_
     refine hK.out _ _ (trivial) (fun _ => ?_)
     clear hK K
     have HA3 : Hid (w_HA3.ownsRow w1.heap.size 3 1 (.slice A_HA3 (k + 1) c_HA3) (k + 1) (ints ((([] ++ splc (L.take lo)) ++ [(k : Int)]) ++ (splc (L.drop lo))))) := qaa (by rw [yav]; exact ho_)
     replace HBw := qaa (yaU HBw.out HA2.out hg_)
     clear ho_ hg_ hs_
     try simp only [Act.put, qac, qai, qaf]
     refine qaU (i := 12) (oi := _) (v := ?_) rfl (by kernel_rfl) (by kernel_rfl) (by kernel_rfl) (fun _ _ _ h => h) (qay ⟨by rfl, ?_⟩) hHeld ?_
     rotate_left
     ·(intro wz hSw; go_simp; try (with_reducible rfl))
     try simp only [Act.put, qac, qai, qaf]
     refine qcr (by kernel_rfl) ?_ _
     have HF : Hid (w_HA3.ownsRow w.heap.size 3 1 (.slice A_HA3 (k + 1) c_HA3) (k + 1) (ints (splc (slay (slt s) (k + 1))))) := qaa (by rw [Hins.out, s_three]; exact s_base HA3.out HB.out.size)
     have HG := qaa (HB.out.trans (HBw.out.mono HB.out.size))
     go_wp2
     go_roundw
     case rel => exact ⟨k + 1, A_HA3, c_HA3, by omega, rfl, iv (by omega), HF, HG⟩
     case measure => simp only [intOf]; omega
     -- END INS
  ·obtain rfl : k = s.length + 1 := by omega
   have hii : ¬ ((s.length + 1 : Nat) : Int) ≤ (s.length : Int) := by omega
   obtain ⟨A2, c2, e2, hkc, hrd⟩ := yae HO.out
   injection e2 with e3 _ e4
   subst e3 e4
   have Hrd := qaa hrd
   have Hkc := qaa hkc
   have Hln : Hid ((splc (sarr s)).length = s.length + 1) := qaa (by rw [yao]; exact ygd _ _)
   clear hrd hkc
   go_wp2
   go_ret2
   exact yhv Hln.out Hkc.out Hrd.out HB.out
theorem bfits_yes (n width : Int) (w : World) (h : fits n width) : Calls prog 149 #[.int .i64 n, .int .i64 width] w fun e w' => e = .returned (.bool true) ∧ w = w' := by
 obtain ⟨h1, h2, h3, h4⟩ := h
 obtain ⟨W, rfl⟩ := qaF h1
 obtain ⟨N, rfl⟩ := qaF h3
 go_enter func149, ntmps149
 go_wp2
 go_ret
 refine ⟨?_, rfl⟩
 have hd : (N : Int) / 2 ^ W = 0 := Int.ediv_eq_zero_of_lt h3 (by simpa using h4)
 show Ending.returned (.bool ((N : Int) / 2 ^ W == 0)) = _
 rw [hd]
 rfl
theorem ycp (g : Nat) (w : World) : Calls prog 129 #[.pointer (some ⟨g, 0, none⟩)] w fun e w' => e = .returned (.pointer (some ⟨g, 0, none⟩)) ∧ w = w' := by
 go_enter func129, ntmps129
 go_wp2
 go_ret
 exact ⟨rfl, rfl⟩
theorem ybC (s : ByteArray) (w : World) : Calls prog 86 #[.string s] w fun e w' => e = .returned (.pointer (some ⟨w.heap.size, 0, none⟩)) ∧ w.alloc (.cells #[.string s, .int .i64 0] 174) = w' := by
 go_enter func86, ntmps86
 go_wp2
 go_ret
 exact ⟨rfl, rfl⟩
theorem ybT (l : List UInt8) (p : Nat) (g : Nat) (w : World) (hl : l.length ≤ 4611686018427387) (hp : p ≤ 8 * l.length) (hB : Blk w g 174 #[.string ⟨l.toArray⟩, .int .i64 p]) :
  Calls prog 130 #[.pointer (some ⟨g, 0, none⟩)] w fun e w' => e = .returned (.int .i64 ((8 * l.length - p : Nat) : Int)) ∧ ∃ k, w.drewN k = w' := by
 obtain ⟨c1, c2, _, _⟩ := hB.two
 go_enter func130, ntmps130
 go_wp2_with (go_at_call 129; refine (ycp g _).mono ?_; rintro e w1 ⟨rfl, rfl⟩)
 go_quiet (fail)
 go_wp2
 go_ret
 exact ⟨qbC Ending.returned (iv (by omega)), _, rfl⟩
def WHold (w : World) (B g : Nat) (v : Value) (R : List Nat) : Prop :=
 Blk w g 102 #[v, .int .i64 (fr R)] ∧ w.ownsRow B 5 1 v (text R).length (bc (text R)).toList ∧ Bin R
section
variable {w w' : World} {B g : Nat} {v : Value} {R : List Nat} {S : Nat → Prop}
theorem WHold.touch (h : WHold w B g v R) (ht : Touch w w' S) (hg : ¬ S g) (hv : ∀ k, v.ownBlock = some k → ¬ S k) : WHold w' B g v R := ⟨h.1.touch ht hg, yay h.2.1 ht hv, h.2.2⟩
theorem WHold.below (h : WHold w B g v R) {C : Nat} (hb : Below C w w') (hC : w.heap.size ≤ C) : WHold w' B g v R := h.touch (yal (S := fun _ => False) hb hC) (fun h => h) (fun _ _ h => h)
end
theorem wtext_any (B g : Nat) (v : Value) (R : List Nat) (w : World) (hH : WHold w B g v R) :
  Calls prog 65 #[.pointer (some ⟨g, 0, none⟩)] w fun e w' => e = .returned (.string ⟨(text R).toArray⟩) ∧ w = w' := by
 obtain ⟨A, c, rfl, hc, hr⟩ := yae hH.2.1
 obtain ⟨c1, c2, _, _⟩ := hH.1.two
 have hcv : (convert 36 9 (.slice A (text R).length c)).run prog w = .ok (.string ⟨(text R).toArray⟩) w := ybZ underlying36 underlying5 underlying9 w A c _ hr
 have hg := hH.1.lt
 clear hH hr hc
 generalize (text R).length = n at *
 generalize (text R).toArray = a at *
 go_enter func65, ntmps65
 go_wp2
 go_ret
 exact ⟨rfl, rfl⟩
theorem bbyte_info : (prog.info? 5).map (fun i => (i.zero, i.size, i.bytes)) = some (some (.int .u8 0), 1, 1) := by kernel_rfl
theorem owns_some {w : World} {base size n : Nat} {e : TypeId} {v : Value} {xs : List Value} (h : w.ownsRow base e size v n xs) (hn : 0 < n) : ∃ g cap, v = .slice (some ⟨g, 0, none⟩) n cap ∧ base ≤ g ∧ n ≤ cap ∧ g < w.heap.size := by
 rcases h.2 with ⟨rfl, h0⟩ | ⟨g, cap, cur, rfl, hb, hheap, hcap, _⟩
 ·omega
 ·refine ⟨g, cap, rfl, hb, hcap, ?_⟩
  rcases qbe g w.heap.size with hlt | hge
  ·exact hlt
  ·rw [Array.getElem?_eq_none hge] at hheap; cases hheap
theorem or_u8 (x y f : Nat) (hx : x % 2 ^ f = 0) (hy : y < 2 ^ f) (hxl : x < 256) (hf : f ≤ 8) : bits .or .u8 (x : Int) (y : Int) = ((x + y : Nat) : Int) := by
 have h8 : (2 : Nat) ^ 8 = 256 := by decide
 have hp : 0 < 2 ^ f := qaX (by omega)
 have hs : x + y < 256 := by
  have h1 : x = x / 2 ^ f * 2 ^ f := by have := Nat.div_add_mod x (2 ^ f); rw [hx, qb6] at this; omega
  have h2 : 256 = 2 ^ (8 - f) * 2 ^ f := by rw [← qbF, show 8 - f + f = 8 from by omega]
  have h3 : x / 2 ^ f < 2 ^ (8 - f) := by
   rw [qbE hp, ← h2]
   exact hxl
  have h4 : (x / 2 ^ f + 1) * 2 ^ f ≤ 2 ^ (8 - f) * 2 ^ f := qct _ h3
  rw [qcs, ← h2, Nat.one_mul] at h4
  omega
 have h := bits_join .u8 8 (by decide) wraps_u8 f (x : Int) (y : Int) (by omega) (by exact_mod_cast hx) (by omega) (by omega) (by exact_mod_cast hy) (by omega)
 rw [h]
 omega
def WS (g : Nat) (v : Value) : Nat → Prop := fun k => k = g ∨ v.ownBlock = some k
structure PInv (w wr : World) (B g : Nat) (v : Value) (R : List Nat) (W N L : Nat) (v' : Value) : Prop where
 hold : WHold wr B g v' (R ++ dig (W - L) (N / 2 ^ L))
 touch : Touch w wr (WS g v)
 sep : Sep w v v'
 at_ : L = W ∨ L = 0 ∨ fr (R ++ dig (W - L) (N / 2 ^ L)) = 0
theorem fr_app (Q P : List Nat) (h : P.length ≤ fr Q) : fr (Q ++ P) = fr Q - P.length := by
 unfold fr at *
 rw [qab]
 omega
theorem fr_new (Q P : List Nat) (h : fr Q = 0) (h8 : P.length ≤ 8) (h0 : 0 < P.length) : fr (Q ++ P) = 8 - P.length := by
 unfold fr at *
 rw [qab]
 omega
theorem dig_on (R : List Nat) (W N L p : Nat) (hL : L ≤ W) (hp : p ≤ L) : R ++ dig (W - (L - p)) (N / 2 ^ (L - p)) = (R ++ dig (W - L) (N / 2 ^ L)) ++ dig p (N / 2 ^ (L - p)) := by
 rw [qam, show W - (L - p) = (W - L) + p from by omega, ycs, qbP, ← qbF, show L - p + p = L from by omega]
theorem bc_last (T : List UInt8) (b c : UInt8) : (bc (T ++ [b])).toList.set T.length (.int .u8 (c.toNat : Int)) = (bc (T ++ [c])).toList := by
 simp [bc, List.set_append]
theorem yval (N s p F : Nat) (hN : N < 4294967296) (hF : F ≤ 8) (hp : p ≤ F) (h : F = 8 ∨ N / 2 ^ s < 2 ^ p) : wrap64 ((N : Int) / 2 ^ s * 2 ^ (F - p)) % 256 = ((num (dig p (N / 2 ^ s)) * 2 ^ (F - p) : Nat) : Int) := by
 have e : (N : Int) / 2 ^ s * 2 ^ (F - p) = ((N / 2 ^ s * 2 ^ (F - p) : Nat) : Int) := by norm_cast
 have hle : N / 2 ^ s ≤ N := Nat.div_le_self _ _
 rw [e, ycL]
 generalize N / 2 ^ s = M at *
 have h8 : 2 ^ (F - p) ≤ 2 ^ 8 := qa0 (by omega) (by omega)
 have hb : M * 2 ^ (F - p) ≤ 4294967295 * 2 ^ 8 := Nat.mul_le_mul (by omega) h8
 rw [show (2 : Nat) ^ 8 = 256 from by decide] at hb
 have hw : wrap64 ((M * 2 ^ (F - p) : Nat) : Int) = ((M * 2 ^ (F - p) : Nat) : Int) := by unfold wrap64; omega
 rw [hw]
 have hkey : M * 2 ^ (F - p) % 256 = M % 2 ^ p * 2 ^ (F - p) := by
  rcases h with rfl | h
  ·rw [show 256 = 2 ^ p * 2 ^ (8 - p) from by rw [← qbF, show p + (8 - p) = 8 from by omega], Nat.mul_mod_mul_right]
  ·rw [qcJ h, qcJ]
   have h1 : M * 2 ^ (F - p) < 2 ^ p * 2 ^ (F - p) := qb9 h (qaX (by omega))
   rw [← qbF, show p + (F - p) = F from by omega] at h1
   have h2 : 2 ^ F ≤ 2 ^ 8 := qa0 (by omega) hF
   rw [show (2 : Nat) ^ 8 = 256 from by decide] at h2
   omega
 rw [← hkey]
 generalize M * 2 ^ (F - p) = K
 omega
theorem pstep {w X : World} {B g h cap W N L p F : Nat} {v : Value} {R Q : List Nat} {T : List UInt8} {b : UInt8}
  (hX : Blk X g 102 #[.slice (some ⟨h, 0, none⟩) (T.length + 1) cap, .int .i64 F]) (hown : X.ownsRow B 5 1 (.slice (some ⟨h, 0, none⟩) (T.length + 1) cap) (T.length + 1) (bc (T ++ [b])).toList)
  (ht : Touch w X (WS g v)) (hsep : Sep w v (.slice (some ⟨h, 0, none⟩) (T.length + 1) cap)) (hQ : R ++ dig (W - L) (N / 2 ^ L) = Q) (hbin : Bin Q) (hL : L ≤ W) (hp : p ≤ L) (hpF : p ≤ F) (hF8 : F ≤ 8)
  (htext : text (Q ++ dig p (N / 2 ^ (L - p))) = T ++ [UInt8.ofNat (b.toNat + num (dig p (N / 2 ^ (L - p))) * 2 ^ (F - p))]) (hfr : fr (Q ++ dig p (N / 2 ^ (L - p))) = F - p) (hb : b.toNat % 2 ^ F = 0)
  (hat : L - p = 0 ∨ F - p = 0) (f y : Int) (hf : f = ((F - p : Nat) : Int)) (hy : y = ((num (dig p (N / 2 ^ (L - p))) * 2 ^ (F - p) : Nat) : Int)) :
  PInv w ((X.setCell ⟨g, 1, none⟩ (.int .i64 f)).setCell ⟨h, T.length, none⟩ (.int .u8 (bits .or .u8 (b.toNat : Int) y))).drew B g v R W N (L - p) (.slice (some ⟨h, 0, none⟩) (T.length + 1) cap) := by
 have hne : h ≠ g := fun e => ya5 hown hX (by decide) (by rw [e]; rfl)
 have hd := dig_on R W N L p hL hp
 rw [hQ] at hd
 have hPl : num (dig p (N / 2 ^ (L - p))) < 2 ^ p := by
  have := ydN (ycD p (N / 2 ^ (L - p)))
  rwa [yad] at this
 have hlt : num (dig p (N / 2 ^ (L - p))) * 2 ^ (F - p) < 2 ^ F := by
  have h1 : num (dig p (N / 2 ^ (L - p))) * 2 ^ (F - p) < 2 ^ p * 2 ^ (F - p) := qb9 hPl (qaX (by omega))
  rwa [← qbF, show p + (F - p) = F from by omega] at h1
 subst hf
 subst hy
 rw [or_u8 b.toNat _ F hb hlt (u8_lt b) hF8]
 have hs : b.toNat + num (dig p (N / 2 ^ (L - p))) * 2 ^ (F - p) < 256 := by
  have hp' : 0 < 2 ^ F := qaX (by omega)
  have h1 : b.toNat = b.toNat / 2 ^ F * 2 ^ F := by have := Nat.div_add_mod b.toNat (2 ^ F); rw [hb, qb6] at this; omega
  have h2 : 256 = 2 ^ (8 - F) * 2 ^ F := by rw [← qbF, show 8 - F + F = 8 from by omega]
  have h3 : b.toNat / 2 ^ F < 2 ^ (8 - F) := by
   rw [qbE hp', ← h2]
   exact u8_lt b
  have h4 : (b.toNat / 2 ^ F + 1) * 2 ^ F ≤ 2 ^ (8 - F) * 2 ^ F := qct _ h3
  rw [qcs, ← h2, Nat.one_mul] at h4
  omega
 have hbn : ((b.toNat + num (dig p (N / 2 ^ (L - p))) * 2 ^ (F - p) : Nat) : Int) = ((UInt8.ofNat (b.toNat + num (dig p (N / 2 ^ (L - p))) * 2 ^ (F - p))).toNat : Int) := by rw [yaz _ hs]
 rw [hbn]
 have hB1 : Blk (X.setCell ⟨g, 1, none⟩ (.int .i64 ((F - p : Nat) : Int))) g 102 #[.slice (some ⟨h, 0, none⟩) (T.length + 1) cap, .int .i64 ((F - p : Nat) : Int)] := hX.set_ 1 _
 have hO1 : (X.setCell ⟨g, 1, none⟩ (.int .i64 ((F - p : Nat) : Int))).ownsRow B 5 1 (.slice (some ⟨h, 0, none⟩) (T.length + 1) cap) (T.length + 1) (bc (T ++ [b])).toList :=
  yay hown ((Touch.refl X (fun k => k = g)).set (qay rfl) _) (fun k hk e => by injection hk with hk; simp only at hk; omega)
 have hO2 := (hO1.stored T.length (.int .u8 ((UInt8.ofNat (b.toNat + num (dig p (N / 2 ^ (L - p))) * 2 ^ (F - p))).toNat : Int))).1
 rw [bc_last] at hO2
 refine ⟨⟨?_, ?_, ?_⟩, ?_, hsep, ?_⟩
 ·rw [hd, hfr]
  exact (hB1.far (p := ⟨h, T.length, none⟩) (fun e => hne e.symm) _).drew
 ·rw [hd, htext, qab]
  exact hO2
 ·rw [hd]
  exact hbin.app (ycD _ _)
 ·have h1 := (ht.set (p := ⟨g, 1, none⟩) (qay (qay rfl)) (.int .i64 ((F - p : Nat) : Int)))
  have h2 := h1.set (p := ⟨h, T.length, none⟩) (by
   rcases hsep h rfl with e | e
   ·exact qay (qaI e)
   ·exact qaI e) (.int .u8 ((UInt8.ofNat (b.toNat + num (dig p (N / 2 ^ (L - p))) * 2 ^ (F - p))).toNat : Int))
  exact h2.drewN 1
 ·rw [hd, hfr]
  rcases hat with e | e
  ·exact qaI (qay e)
  ·exact qaI (qaI e)
theorem put_yes (B g W N : Nat) (v : Value) (R : List Nat) (w : World) (hW : W ≤ 32) (hN : N < 2 ^ W) (hH : WHold w B g v R) (hB : B ≤ w.heap.size) (hR : R.length ≤ 1099511627776) :
  Calls prog 107 #[.pointer (some ⟨g, 0, none⟩), .int .i64 N, .int .i64 W] w fun e w' => e = .returned (.int .i64 0) ∧ ∃ v', WHold w' B g v' (R ++ dig W N) ∧ Touch w w' (WS g v) ∧ Sep w v v' := by
 obtain ⟨i0, hi, hz0, hz1, hz2⟩ := qb1 bbyte_info
 have hfit : fits N W := ⟨by omega, by omega, by omega, by exact_mod_cast hN⟩
 have HI0 : Hid (PInv w w B g v R W N W v) := qaa ⟨by rw [qbS]; simpa [dig] using hH, Touch.refl _ _, fun k hk => qay hk, qay rfl⟩
 have HN := qaa hN
 have HR := qaa hR
 have HB := qaa hB
 have Hfit := qaa hfit
 clear hN hH hR hB hfit
 go_enter func107, ntmps107
 go_wp2_with (go_at_call 149; refine (bfits_yes N W _ Hfit.out).mono ?_; rintro e w1 ⟨rfl, rfl⟩)
 go_loopw [7] (fun i wr => ∃ (L : Nat) (v' : Value), L ≤ W ∧ i = .int .i64 L ∧ Hid (PInv w wr B g v R W N L v')) (fun i _ => (intOf i).toNat)
 case atStart => exact ⟨W, v, qad _, rfl, HI0.out⟩
 case round =>
  obtain ⟨L, v', hL, rfl, HI⟩ := hrel
  by_cases hlt : 0 < L
  ·have hLi : (0 : Int) < L := by omega
   have hL32 : (L : Int) ≤ 32 := by omega
   obtain ⟨c1, c2, z1, z2⟩ := HI.out.hold.1.two
   have hgl := HI.out.hold.1.lt
   generalize hQ : R ++ dig (W - L) (N / 2 ^ L) = Q at *
   have hown := HI.out.hold.2.1
   have hbin := HI.out.hold.2.2
   rw [hQ] at hown hbin
   have Hown := qaa hown
   have Hbin := qaa hbin
   have Hlen : Hid ((text Q).length ≤ 1099511627780) := qaa (by
    have := HR.out
    rw [yaW, ← hQ, qab, yad]
    omega)
   have HQ := qaa hQ
   clear hown hbin hQ
   have HN32 : Hid (N < 4294967296) := qaa (by
    have h1 := HN.out
    have h2 : 2 ^ W ≤ 2 ^ 32 := qa0 (by omega) hW
    rw [show (2 : Nat) ^ 32 = 4294967296 from by decide] at h2
    omega)
   by_cases hf : fr Q = 0
   ·have c2' : wr.cell? ⟨g, 1, none⟩ = some (.int .i64 0) := by rw [c2, hf]; rfl
    have Hf := qaa hf
    clear hf c2
    go_wp2_with (at_builtin; refine yaf _ rfl _ _ 36 rfl B 5 i0 (.int .u8 0) 1 1 underlying36 hi hz0 hz1 hz2 rfl (by decide) _ _ _ rfl (Hown.out.alloc _) _ 1 1 _ _ rfl (ya0 wr 5 #[.int .u8 0] 1 1 rfl) ?c1 ?c2 ?c3 ?c4 ?_)
    case c1 =>
     exact rfl
    case c2 => have := Hlen.out; unfold maxLen; omega
    case c3 => have := Hlen.out; omega
    case c4 =>
     have h3 := HB.out
     have h4 := HI.out.touch.size
     simp only [qaw]
     omega
    intro v2 w2 hown2 hgrow hsep
    obtain ⟨h, cap, rfl, hBh, hcap, hhl⟩ := owns_some hown2 (by omega)
    have hbw := (HI.out.hold.1.alloc (.cells #[.int .u8 0] 5)).grow' hgrow (fun e => ya5 Hown.out HI.out.hold.1 (by decide) e)
    have d1 : ¬ h = g := fun e => ya5 hown2 hbw (by decide) (by rw [e]; rfl)
    have d2 : ¬ g = h := fun e => d1 e.symm
    have hX : Blk ((w2.setCell ⟨g, 0, none⟩ (.slice (some ⟨h, 0, none⟩) ((text Q).length + 1) cap)).setCell ⟨g, 1, none⟩ (.int .i64 8)) g 102 #[.slice (some ⟨h, 0, none⟩) ((text Q).length + 1) cap, .int .i64 ((8 : Nat) : Int)] := (hbw.set_ 0 _).set_ 1 _
    have hownX : ((w2.setCell ⟨g, 0, none⟩ (.slice (some ⟨h, 0, none⟩) ((text Q).length + 1) cap)).setCell ⟨g, 1, none⟩ (.int .i64 8)).ownsRow B 5 1 (.slice (some ⟨h, 0, none⟩) ((text Q).length + 1) cap) ((text Q).length + 1) (bc (text Q ++ [0])).toList := by
     have h1 := yay hown2 (((Touch.refl w2 (fun k => k = g)).set (p := ⟨g, 0, none⟩) (qay rfl) (.slice (some ⟨h, 0, none⟩) ((text Q).length + 1) cap)).set (p := ⟨g, 1, none⟩) (qay rfl) (.int .i64 8)) (fun k hk e => by injection hk with hk; simp only at hk; omega)
     simpa [bc] using h1
    have htX : Touch w ((w2.setCell ⟨g, 0, none⟩ (.slice (some ⟨h, 0, none⟩) ((text Q).length + 1) cap)).setCell ⟨g, 1, none⟩ (.int .i64 8)) (WS g v) := by
     have h1 := (HI.out.touch.alloc (.cells #[.int .u8 0] 5)).next (yaF hgrow) (fun k hk e => by
      rcases HI.out.sep k e.symm with e | e
      ·exact qaI e
      ·omega)
     exact (h1.set (p := ⟨g, 0, none⟩) (qay (qay rfl)) _).set (p := ⟨g, 1, none⟩) (qay (qay rfl)) _
    have hsX : Sep w v (.slice (some ⟨h, 0, none⟩) ((text Q).length + 1) cap) := fun k hk => by
     rcases hsep k hk with e | e
     ·exact HI.out.sep k e
     ·have h1 := HI.out.touch.size
      simp only [qaw] at e
      exact qaI (by omega)
    have c3 : w2.cell? ⟨h, (text Q).length, none⟩ = some (.int .u8 0) := by
     rw [hown2.cellAt _ (by omega), qbj (by simp [bc])]
     simp [bc]
    have z3 : w2.frozen? ⟨h, (text Q).length, none⟩ = false := hown2.frozenAt _
    have z4 : w2.frozen? ⟨g, 0, none⟩ = false := hbw.frozen _
    have z5 : w2.frozen? ⟨g, 1, none⟩ = false := hbw.frozen _
    have hgl2 := hbw.lt
    have HX := qaa hX
    have hXt := hX.two
    have HXt := qaa hXt
    have HXc := qaa (show _ ∧ _ from ⟨hownX.cellAt (text Q).length (by omega), hownX.frozenAt (text Q).length⟩)
    clear hXt
    have HownX := qaa hownX
    have Hnew := qaa (fun (p : Nat) (h0 : 0 < p) (h8 : p ≤ 8) (hpL : p ≤ L) (hat : L - p = 0 ∨ 8 - p = 0) (f y : Int) (hf : f = ((8 - p : Nat) : Int)) (hy : y = ((num (dig p (N / 2 ^ (L - p))) * 2 ^ (8 - p) : Nat) : Int)) =>
     pstep (w := w) (v := v) (b := 0) hX hownX htX hsX HQ.out Hbin.out hL hpL h8 (by omega)
      (by
       have := text_new Q (dig p (N / 2 ^ (L - p))) Hf.out (by rw [yad]; omega) (by rw [yad]; omega)
       rw [yad] at this
       rw [this, show (0 : UInt8).toNat = 0 from rfl, qaz])
      (by rw [fr_new Q _ Hf.out (by rw [yad]; omega) (by rw [yad]; omega), yad]) (by decide) hat f y hf hy)
    have htm : ((text Q).length : Int) ≤ 1099511627780 := by have := Hlen.out; omega
    have hbq := hbw.two
    obtain ⟨q1, q2, _, _⟩ := hbq
    clear hX hownX htX hsX hsep hgrow hown2 hbw c1 c2' z1 z2 hgl
    generalize hTT : text Q = T at *
    have HTT := qaa hTT
    clear hTT
    by_cases hFL : 8 < L
    ·have hL8 : (8 : Int) < L := by omega
     go_wp2
     generalize (w2.setCell ⟨g, 0, none⟩ (.slice (some ⟨h, 0, none⟩) (T.length + 1) cap)).setCell ⟨g, 1, none⟩ (.int .i64 8) = X at *
     obtain ⟨y1, y2, y3, y4⟩ := HXt.out
     obtain ⟨y5, y6⟩ := HXc.out
     replace y2 : X.cell? ⟨g, 1, none⟩ = some (.int .i64 8) := y2
     rw [show ((bc (T ++ [0])).toList[T.length]?) = some (.int .u8 0) from by simp [bc]] at y5
     have hwt : IntKind.i64.wrap (T.length : Int) = T.length := by rw [qal]; omega
     have ht0 : 0 ≤ (T.length : Int) ∧ (T.length : Int) < T.length + 1 := by omega
     refine qb2 23 (by kernel_rfl) (by kernel_rfl) ?_
     simp only [qaM, qbb, qbu, qbi]
     change wpStill _ _ (World.drew _) (fun a' => wpList _ _ _ _ a' (World.drew _)) _ _
     repeat still_step
     refine qc6 ?_
     go_wp2
     go_roundw
     case rel => exact ⟨L - 8, _, by omega, iv (by omega), Hnew.out 8 (by omega) (by omega) (by omega) (qaI rfl) _ _ rfl (by
      have := yval N (L - 8) 8 8 HN32.out (by omega) (by omega) (qay rfl)
      simpa using this)⟩
     case measure => (simp [intOf]; omega)
    ·have hL8 : ¬ (8 : Int) < L := by omega
     go_wp2
     generalize (w2.setCell ⟨g, 0, none⟩ (.slice (some ⟨h, 0, none⟩) (T.length + 1) cap)).setCell ⟨g, 1, none⟩ (.int .i64 8) = X at *
     obtain ⟨y1, y2, y3, y4⟩ := HXt.out
     obtain ⟨y5, y6⟩ := HXc.out
     replace y2 : X.cell? ⟨g, 1, none⟩ = some (.int .i64 8) := y2
     rw [show ((bc (T ++ [0])).toList[T.length]?) = some (.int .u8 0) from by simp [bc]] at y5
     have hwt : IntKind.i64.wrap (T.length : Int) = T.length := by rw [qal]; omega
     have ht0 : 0 ≤ (T.length : Int) ∧ (T.length : Int) < T.length + 1 := by omega
     refine qb2 23 (by kernel_rfl) (by kernel_rfl) ?_
     simp only [qaM, qbb, qbu, qbi]
     change wpStill _ _ (World.drew _) (fun a' => wpList _ _ _ _ a' (World.drew _)) _ _
     repeat still_step
     refine qc6 ?_
     go_wp2
     go_roundw
     case rel => exact ⟨L - L, _, by omega, iv (by omega), Hnew.out L (by omega) (by omega) (by omega) (qay (qbS L)) _ _ (by omega) (by
      have := yval N (L - L) L 8 HN32.out (by omega) (by omega) (qay rfl)
      simpa using this)⟩
     case measure => (simp [intOf]; omega)
   ·have hF1 : ¬ (fr Q : Int) = 0 := by omega
    have hF8 : (fr Q : Int) < 8 := by have := fr_lt Q; omega
    obtain ⟨h, cap, hv', hBh, hcap, hhl⟩ := owns_some Hown.out (by
     obtain ⟨T, b, e, _⟩ := text_more Q [] (fr Q) rfl (by omega) Hbin.out (by simp)
     rw [e]
     simp)
    subst hv'
    have hLW : L = W := by
     rcases HI.out.at_ with e | e | e
     ·exact e
     ·omega
     ·rw [HQ.out] at e
      exact absurd e hf
    have Hf := qaa hf
    clear hf
    have d1 : ¬ h = g := fun e => ya5 Hown.out HI.out.hold.1 (by decide) (by rw [e]; rfl)
    have d2 : ¬ g = h := fun e => d1 e.symm
    obtain ⟨p, hp⟩ : ∃ p, p = min L (fr Q) := ⟨_, rfl⟩
    obtain ⟨T, b, hT, htx, hbm⟩ := text_more Q (dig p (N / 2 ^ (L - p))) (fr Q) rfl (by have := Hf.out; omega) Hbin.out (by rw [yad]; omega)
    have hfrQ := fr_app Q (dig p (N / 2 ^ (L - p))) (by rw [yad]; omega)
    rw [yad] at htx hfrQ
    have hTl : (text Q).length = T.length + 1 := by rw [hT]; simp
    have c3 : wr.cell? ⟨h, T.length, none⟩ = some (.int .u8 (b.toNat : Int)) := by
     rw [Hown.out.cellAt _ (by omega), hT]
     simp [bc]
    have z3 : wr.frozen? ⟨h, T.length, none⟩ = false := Hown.out.frozenAt _
    have hown3 := Hown.out
    rw [hTl, hT] at hown3
    have hX := HI.out.hold.1
    rw [HQ.out, hTl] at hX
    rw [hTl] at c1
    have hsX := HI.out.sep
    rw [hTl] at hsX
    have hTm : (T.length : Int) ≤ 1099511627780 := by have := Hlen.out; omega
    have hsmall : N / 2 ^ (L - p) < 2 ^ p := by
     rw [qbE (qaX (by omega)), ← qbF, show p + (L - p) = L from by omega, hLW]
     exact HN.out
    have Hy := qaa (yval N (L - p) p (fr Q) HN32.out (by have := fr_lt Q; omega) (by omega) (qaI hsmall))
    have Hstep := qaa (fun (f y : Int) (hf : f = ((fr Q - p : Nat) : Int)) (hy : y = ((num (dig p (N / 2 ^ (L - p))) * 2 ^ (fr Q - p) : Nat) : Int)) =>
     pstep (w := w) (v := v) hX hown3 HI.out.touch hsX HQ.out Hbin.out hL (by omega) (by omega) (by have := fr_lt Q; omega) htx hfrQ hbm (by omega) f y hf hy)
    clear hT hTl hown3 hX hsX hsmall htx hfrQ hbm
    generalize hFF : fr Q = F at *
    have HFF := qaa hFF
    generalize (b.toNat : Int) = bv at *
    clear hFF
    have Hp := qaa hp
    clear hp
    have HLW := qaa hLW
    clear hLW
    by_cases hFL : F < L
    ·obtain rfl : p = F := by have := Hp.out; omega
     go_wp2
     have hwt : IntKind.i64.wrap (T.length : Int) = T.length := by rw [qal]; omega
     have ht0 : 0 ≤ (T.length : Int) ∧ (T.length : Int) < T.length + 1 := by omega
     refine qb2 23 (by kernel_rfl) (by kernel_rfl) ?_
     simp only [qaM, qbb, qbu, qbi]
     change wpStill _ _ (World.drew _) (fun a' => wpList _ _ _ _ a' (World.drew _)) _ _
     repeat still_step
     refine qc6 ?_
     go_wp2
     go_roundw
     case rel => exact ⟨L - p, _, by omega, iv (by omega), Hstep.out _ _ (by omega) (by
      have := Hy.out
      simpa using this)⟩
     case measure => (simp [intOf]; have := Hf.out; omega)
    ·obtain rfl : p = L := by have := Hp.out; omega
     go_wp2
     have hwt : IntKind.i64.wrap (T.length : Int) = T.length := by rw [qal]; omega
     have ht0 : 0 ≤ (T.length : Int) ∧ (T.length : Int) < T.length + 1 := by omega
     refine qb2 23 (by kernel_rfl) (by kernel_rfl) ?_
     simp only [qaM, qbb, qbu, qbi]
     change wpStill _ _ (World.drew _) (fun a' => wpList _ _ _ _ a' (World.drew _)) _ _
     repeat still_step
     refine qc6 ?_
     go_wp2
     go_roundw
     case rel => exact ⟨p - p, _, by omega, iv (by omega), Hstep.out _ _ (by omega) (by
      have := Hy.out
      simpa using this)⟩
     case measure => (simp [intOf]; omega)
  ·obtain rfl : L = 0 := by omega
   have hend := HI.out
   go_wp2
   go_ret
   refine ⟨rfl, v', ?_, hend.touch, hend.sep⟩
   have h1 := hend.hold
   simpa using h1
end Go.Proofs.YtanjhbkbpalnaaaGreat
