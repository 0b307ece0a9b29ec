/-
 What the law of the last of these texts stands on, part 13.
-/
import Derived.Test.YtanjhbkbpalnaaaGreatMb12
import Derived.Deep.RegionWith
set_option maxRecDepth 100000
set_option maxHeartbeats 8000000
open Go.Proofs.Tryz
namespace Go.Proofs.YtanjhbkbpalnaaaGreat
set_option linter.unusedSimpArgs false
set_option linter.unusedVariables false
open Go.ChangeShapes Go.WideShapes Go.ChangeAt Go.RowKit Go.Joins Go.Deep
theorem lput_at (x : LTh) (R : List LTh) : ∃ j, j ≤ R.length ∧ lput R x = R.take j ++ x :: R.drop j ∧ (∀ k (hk : k < R.length), k < j → lle R[k] x = true) ∧ ∀ hj : j < R.length, lle R[j] x = false := by
 obtain ⟨r1, r2, h1, h2, h3, h4⟩ := yaR x R
 refine ⟨r1.length, by rw [h1, qae]; omega, ?_, ?_, ?_⟩
 ·rw [h2, h1, qcg rfl, qbZ rfl]
 ·intro k hk hlt
  have e : R[k] = r1[k] := by simp only [h1]; exact List.getElem_append_left hlt
  rw [e]
  exact h3 _ (qam hlt)
 ·intro hj
  cases r2 with
  | nil => rw [h1, qa6] at hj; omega
  | cons y t =>
   have e : R[r1.length] = y := by simp only [h1]; rw [List.getElem_append_right (qaf _)]; simp
   rw [e]
   exact h4 y t rfl
theorem lslice_head {P : Program} {t e : TypeId} {i : TypeInfo} {size : Nat} (ht : P.underlying t = some (.slice e)) (hi : P.info? e = some i) (hs : i.size = size) (A : Option Addr) (n c k : Nat) (hk : k ≤ c) (w : World) :
  (Instr.slice t (.slice A n c) none (some (.int .i64 (k : Int))) none).run P w = .ok (.slice A k c) w := by
 have he : P.elem t = e := by simp [Program.elem, ht]
 rw [run_slice_h w t A n c (by rw [he]; exact ht) .i64 k (by omega) (by omega), he]
 simp [sizeOf, typeInfo, hi, hs, sliced]
 cases A with
 | none => simp
 | some a => simp [Addr.add]
section
variable {w wr : World} {B : Nat}
theorem lb1 (h : Below w.heap.size w wr) (d : Nat) (o : Obj) : Below w.heap.size w ((wr.drewN d).alloc o) := (yaj h d).alloc h.size o
theorem lb2 (h : Below w.heap.size w wr) (d : Nat) (o o2 : Obj) : Below w.heap.size w (((wr.drewN d).alloc o).alloc o2) := (lb1 h d o).alloc (by have := h.size; simp; omega) o2
theorem lblk3 (wr : World) (d : Nat) (o : Obj) (t : TypeId) (cs : Array Value) : Blk (((wr.drewN d).alloc o).alloc (.cells cs t)) (wr.heap.size + 1) t cs := by
 have := Blk.new ((wr.drewN d).alloc o) t cs
 simpa using this
theorem lblk2 (wr : World) (d : Nat) (o : Obj) (t : TypeId) (cs : Array Value) : Blk (((wr.drewN d).alloc (.cells cs t)).alloc o) wr.heap.size t cs := (Blk.new (wr.drewN d) t cs).alloc o
theorem ybA {W : World} {g size : Nat} {t : TypeId} {cs : Array Value} (h : Blk W g t cs) (hn : cs.size = size) : Reads W W.heap.size size (some ⟨g, 0, none⟩) 1 cs.toList := by
 refine ⟨by simp [hn], fun _ => ⟨g, 0, rfl, h.lt, fun j u hu => ?_⟩⟩
 rw [qaE, h.cell]
 simpa using hu
theorem yaB {W : World} {g B size : Nat} {e : TypeId} (h : Blk W g e #[]) (hb : B ≤ g) : W.ownsRow B e size (.slice (some ⟨g, 0, none⟩) 0 0) 0 [] :=
 ⟨by simp, qaT ⟨g, 0, #[], rfl, hb, h, qaf _, by unfold maxLen; omega, by simp, by simp⟩⟩
end
section
variable {P : Program} {op : Op} {ty : TypeId} {pos : String} {af : Array Edge} {gd : Option (Nat × Bool)} {ys : Nat → Option Bool} {a : Act} {K : Act → World → Prop} {Q : Exit → Act → World → Prop} {E : Prop}
theorem yeW (d : Nat) {w : World} (h : if Region.wanted ⟨some d, op, ty, pos, af, gd⟩ ys = true then Oper.wp P ⟨some d, op, ty, pos, af, gd⟩ a w K Q else E) : if Region.wanted ⟨some d, op, ty, pos, af, gd⟩ ys = true then Oper.wp P ⟨some d, op, ty, pos, af, gd⟩ a w K Q else E := h
theorem lguard1 (d : Nat) (wr : World) {n : Nat} {o : Obj} (h : if Region.wanted ⟨some d, op, ty, pos, af, gd⟩ ys = true then Oper.wp P ⟨some d, op, ty, pos, af, gd⟩ a ((wr.drewN n).alloc o) K Q else E) : if Region.wanted ⟨some d, op, ty, pos, af, gd⟩ ys = true then Oper.wp P ⟨some d, op, ty, pos, af, gd⟩ a ((wr.drewN n).alloc o) K Q else E := h
theorem yeB (d : Nat) (wr : World) (cs : Array Value) {n : Nat} {t : TypeId} {o : Obj} (h : if Region.wanted ⟨some d, op, ty, pos, af, gd⟩ ys = true then Oper.wp P ⟨some d, op, ty, pos, af, gd⟩ a (((wr.drewN n).alloc (.cells cs t)).alloc o) K Q else E) : if Region.wanted ⟨some d, op, ty, pos, af, gd⟩ ys = true then Oper.wp P ⟨some d, op, ty, pos, af, gd⟩ a (((wr.drewN n).alloc (.cells cs t)).alloc o) K Q else E := h
theorem lguard3 (d : Nat) (wr : World) {o : Obj} (h : if Region.wanted ⟨some d, op, ty, pos, af, gd⟩ ys = true then Oper.wp P ⟨some d, op, ty, pos, af, gd⟩ a (wr.alloc o) K Q else E) : if Region.wanted ⟨some d, op, ty, pos, af, gd⟩ ys = true then Oper.wp P ⟨some d, op, ty, pos, af, gd⟩ a (wr.alloc o) K Q else E := h
end
theorem yc7 (ok : Nat → Prop) (R : List LTh) (x : LTh) (A As : Option Addr) (n c cs : Nat) (w : World) (hm : n ≤ 100000) (hc : n ≤ c) (hok : ∀ b, w.heap.size ≤ b → ok b) (hR : LHRow w w.heap.size ok A n R) (hcs : x.syms.length ≤ cs) (hS : Reads w w.heap.size 1 As x.syms.length (ints (lsy x.syms)) ∧ LOk ok As x.syms.length) :
  Calls prog 188 #[.slice A n c, .agg #[.int .i64 x.w, .slice As x.syms.length cs, .bool x.leaf]] w fun e w' => ∃ A' c', e = .returned (.slice A' (n + 1) c') ∧ n + 1 ≤ c' ∧ LHRow w' w'.heap.size ok A' (n + 1) (lput R x) ∧ Below w.heap.size w w' := by
 obtain ⟨en, hoA, xs, hrx, hmx⟩ := hR
 obtain ⟨i0, hi, hz0, hz1, hz2⟩ := qbn lthing_info
 obtain ⟨j, hj, hput, hpass, hstop⟩ := lput_at x R
 have Hcell : Hid (∀ k (hk : k < R.length), ∃ b off, A = some ⟨b, off, none⟩ ∧ b < w.heap.size ∧ ∀ W, Below w.heap.size w W → W.cell? ⟨b, off + k * 3, none⟩ = some (.int .i64 R[k].w) ∧ W.cell? ⟨b, off + k * 3 + 2, none⟩ = some (.bool R[k].leaf)) := qaa fun k hk => by
  obtain ⟨As2, cs2, h1, h2, h3, _, _⟩ := hmx.at k hk
  obtain ⟨b, off, e, hb, hcell⟩ := hrx.2 (by omega)
  refine ⟨b, off, e, hb, fun W hW => ⟨?_, ?_⟩⟩
  ·exact (hW.cell (p := ⟨b, off + k * 3, none⟩) hb).trans (hcell _ _ h1)
  ·exact (hW.cell (p := ⟨b, off + k * 3 + 2, none⟩) hb).trans (by rw [qbD]; exact hcell _ _ h3)
 have Hpass := qaa hpass
 have Hstop := qaa hstop
 have hjn : (j : Int) ≤ n := by omega
 have En := qaa en
 have Hrx := qaa hrx
 have Hmx := qaa hmx
 have HS := qaa hS
 have hlf := x.leaf
 clear hrx hmx hS hpass hstop
 obtain ⟨xw, hxw⟩ : ∃ xw, x.w = xw := ⟨_, rfl⟩
 obtain ⟨xl, hxl⟩ : ∃ xl, x.leaf = xl := ⟨_, rfl⟩
 obtain ⟨ns, hns⟩ : ∃ ns, x.syms.length = ns := ⟨_, rfl⟩
 rw [hxw, hxl, hns]
 have HX := qaa (And.intro hxw (And.intro hxl hns))
 clear hxw hxl hns
 go_enter func188, ntmps188
 go_wp2
 go_loopw [5] (fun i wr => ∃ k : Nat, k ≤ j ∧ i = .int .i64 k ∧ Hid (Below w.heap.size w wr) ∧ Hid (Blk wr w.heap.size 198 #[.int .i64 xw, .slice As ns cs, .bool xl])) (fun i _ => j - (intOf i).toNat)
 case atStart => exact ⟨0, by omega, rfl, qaa ((qaj _ _).alloc (qaf _) _), Blk.new w _ _⟩
 case round =>
  obtain ⟨k, hk, rfl, Hb, HB⟩ := hrel
  have q0 : wr.cell? ⟨w.heap.size, 0, none⟩ = some (.int .i64 xw) := HB.out.cell 0
  have q1 : wr.cell? ⟨w.heap.size, 1, none⟩ = some (.slice As ns cs) := HB.out.cell 1
  have q2 : wr.cell? ⟨w.heap.size, 2, none⟩ = some (.bool xl) := HB.out.cell 2
  by_cases hlt : k < j
  ·have hkl : k < R.length := by omega
   obtain ⟨b, off, rfl, hb, hcell⟩ := Hcell.out k hkl
   obtain ⟨hx1, hx2⟩ := hcell wr Hb.out
   have hp := Hpass.out k hkl hlt
   rw [ybo, HX.out.1, HX.out.2.1] at hp
   have hki : (0 : Int) ≤ (k : Int) ∧ (k : Int) < n := by omega
   generalize R[k].w = yw at *
   generalize R[k].leaf = yl at *
   by_cases h1 : yw < xw
   ·go_wp2
    go_quiet (fail)
    go_wp2
    go_roundw
    case rel => exact ⟨k + 1, by omega, iv (by omega), yaj Hb.out _, HB.out.drewN _⟩
    case measure => simp only [intOf]; omega
   ·rcases hp with hp | ⟨hp, hp2⟩
    ·exact absurd hp h1
    ·subst hp
     have hbe : (yw == yw) = true := by simp
     have hlt0 : ¬ yw < yw := by omega
     clear h1
     cases yl with
     | true =>
      go_wp2
      go_quiet (fail)
      go_wp2
      go_roundw
      case rel => exact ⟨k + 1, by omega, iv (by omega), yaj Hb.out _, HB.out.drewN _⟩
      case measure => simp only [intOf]; omega
     | false =>
      rcases hp2 with hp2 | hp2
      ·cases hp2
      ·subst hp2
       go_wp2
       go_quiet (fail)
       go_wp2
       go_roundw
       case rel => exact ⟨k + 1, by omega, iv (by omega), yaj Hb.out _, HB.out.drewN _⟩
       case measure => simp only [intOf]; omega
  ·obtain rfl : k = j := by omega
   have hki : (0 : Int) ≤ (k : Int) ∧ (k : Int) ≤ c ∧ (k : Int) ≤ n ∧ (n : Int) ≤ 100000 := by omega
   have hk5 : k ≤ 100000 ∧ n - k ≤ 100000 := by omega
   have hsl1 := fun W => lslice_head (P := prog) underlying195 hi hz1 A n c k (by omega) W
   have hsl2 := fun W => ybw (P := prog) underlying195 hi hz1 A n c k (by omega) W
   obtain ⟨Ad, hAd⟩ : ∃ Ad, (if c = k then A else A.map (·.add (k * 3))) = Ad := ⟨_, rfl⟩
   rw [hAd] at hsl2
   have Hone1 : Hid (∀ u ∈ xs.take (k * 3), u.oneCell' = true) := qaa fun u hu => Hmx.out.one u (qaV hu)
   have Hone3 : Hid (∀ u ∈ xs.drop (k * 3), u.oneCell' = true) := qaa fun u hu => Hmx.out.one u (qbG hu)
   have Hone2 : Hid (∀ u ∈ [Value.int .i64 xw, .slice As ns cs, .bool xl], u.oneCell' = true) := qaa fun u hu => by
    simp only [qa9, List.not_mem_nil, or_false] at hu
    rcases hu with rfl | rfl | rfl <;> rfl
   have Hrd1 : Hid (∀ W, Below wr.heap.size wr W → Reads W w.heap.size 3 A k (xs.take (k * 3))) := qaa fun W hW => (Hrx.out.front3 (by omega) (by decide)).below (Hb.out.trans (hW.mono Hb.out.size))
   have Hrd3 : Hid (∀ W, Below wr.heap.size wr W → Reads W w.heap.size 3 Ad (n - k) (xs.drop (k * 3))) := qaa fun W hW => by
    rw [← hAd]
    exact (Hrx.out.cut (by omega) (by omega)).below (Hb.out.trans (hW.mono Hb.out.size))
   have HSof : Hid (∀ W, Below wr.heap.size wr W → W.cell? ⟨w.heap.size, 0, none⟩ = some (.int .i64 xw) ∧ W.cell? ⟨w.heap.size, 1, none⟩ = some (.slice As ns cs) ∧ W.cell? ⟨w.heap.size, 2, none⟩ = some (.bool xl)) := qaa fun W hW => ⟨(hW.cell (p := ⟨w.heap.size, 0, none⟩) HB.out.lt).trans q0, (hW.cell (p := ⟨w.heap.size, 1, none⟩) HB.out.lt).trans q1, (hW.cell (p := ⟨w.heap.size, 2, none⟩) HB.out.lt).trans q2⟩
   have Hfin : Hid (∀ A3 c3 w3, w3.ownsRow wr.heap.size 198 3 (.slice A3 (n + 1) c3) (n + 1) ((xs.take (k * 3) ++ [.int .i64 xw, .slice As ns cs, .bool xl]) ++ xs.drop (k * 3)) → Below wr.heap.size wr w3 → n + 1 ≤ c3 ∧ LHRow w3 w3.heap.size ok A3 (n + 1) (lput R x) ∧ Below w.heap.size w w3) := qaa fun A3 c3 w3 ho hb => by
    have hbw := Hb.out.trans (hb.mono Hb.out.size)
    obtain ⟨A4, c4, e4, hc4, hr4⟩ := yad ho
    injection e4 with e5 _ e6
    subst e5
    subst e6
    have hm0 : LMem w w.heap.size ok xs (R.take k ++ R.drop k) := by rw [qa1]; exact Hmx.out
    obtain ⟨h1, h2⟩ := hm0.parts
    rw [qar, qbh hj] at h1 h2
    obtain ⟨e7, e8, e9⟩ := HX.out
    refine ⟨hc4, ⟨by rw [hput, qae, qau, qar, qaz]; omega, ygf ho (fun b hb2 => hok b (qa7 Hb.out.size hb2)), _, hr4, ?_⟩, hbw⟩
    rw [hput, qak]
    have h3 : LMem w w.heap.size ok ([.int .i64 xw, .slice As ns cs, .bool xl] ++ xs.drop (k * 3)) (x :: R.drop k) := ⟨As, ns, cs, xs.drop (k * 3), by rw [e7, e8]; rfl, e9.symm, by rw [← e9]; exact hcs, by rw [← e9]; exact HS.out, h2⟩
    exact ((h1.app h3).below hbw).more hbw.size
   by_cases hkn : k < n
   ·have hkl : k < R.length := by omega
    have hki2 : (k : Int) < (n : Int) := by omega
    obtain ⟨b, off, rfl, hb, hcell⟩ := Hcell.out k hkl
    obtain ⟨hx1, hx2⟩ := hcell wr Hb.out
    have hst : ¬ lle R[k] x = true := by rw [Hstop.out hkl]; decide
    rw [ybo, HX.out.1, HX.out.2.1] at hst
    clear hcell
    generalize R[k].w = yw at *
    generalize R[k].leaf = yl at *
    have h1 : ¬ yw < xw := fun h => hst (qat h)
    by_cases h2 : yw = xw
    ·have hbe : (yw == xw) = true := by simpa using h2
     have hyl : yl = false := by
      cases yl with
      | false => rfl
      | true => exact absurd (qaT ⟨h2, qat rfl⟩) hst
     have hxl : xl = true := by
      cases xl with
      | true => rfl
      | false => exact absurd (qaT ⟨h2, qaT rfl⟩) hst
     subst hyl
     subst hxl
     clear hst
     go_wp2
     go_quiet (fail)
     go_wp2
     go_region_held3 (fun w' => w'.cell? ⟨w.heap.size, 0, none⟩ = some (.int .i64 xw) ∧ w'.cell? ⟨w.heap.size, 1, none⟩ = some (.slice As ns cs) ∧ w'.cell? ⟨w.heap.size, 2, none⟩ = some (.bool true)) (first | go_keep | exact hS1) (first
      | (((with_reducible refine lguard1 48 wr ?_); refine yab (by rfl) (.tmp 44) (.tmp 47) 195 (by rfl) wr.heap.size 198 i0 _ 3 40 underlying195 hi hz0 hz1 hz2 rfl (by decide) (.slice (some ⟨wr.heap.size, 0, none⟩) 0 0) (0) ([]) (by rfl) (yaB (Blk.new _ _ _) (by omega)) (some ⟨b, off, none⟩) (k) (c) (w.heap.size) (xs.take (k * 3)) (by rfl) (Hrd1.out _ (lb1 (qaj _ _) _ _)) (Hone1.out) (by unfold maxLen; omega) (by omega) (by simp) (k) (qaE k) ?_; intro A1 c1 w1 hown1 hgrow1 _; have Hb1 : Hid (Below wr.heap.size wr w1) := qaa (qbo (lb1 (qaj _ _) _ _) hgrow1 (by simp) (fun g hg => by injection hg with hg; simp at hg; omega)); have hS1 := HSof.out w1 Hb1.out; have Hown1 := qaa (show w1.ownsRow wr.heap.size 198 3 (.slice A1 k c1) k (xs.take (k * 3)) by simpa using hown1); clear hown1 hgrow1))
      | (((with_reducible refine yeB 48 wr #[] ?_); refine yab (by rfl) (.tmp 44) (.tmp 47) 195 (by rfl) wr.heap.size 198 i0 _ 3 40 underlying195 hi hz0 hz1 hz2 rfl (by decide) (.slice (some ⟨wr.heap.size, 0, none⟩) 0 0) (0) ([]) (by rfl) (yaB ((Blk.new _ _ _).alloc _) (by omega)) (some ⟨b, off, none⟩) (k) (c) (w.heap.size) (xs.take (k * 3)) (by rfl) (Hrd1.out _ (lb2 (qaj _ _) _ _ _)) (Hone1.out) (by unfold maxLen; omega) (by omega) (by simp; omega) (k) (qaE k) ?_; intro A1 c1 w1 hown1 hgrow1 _; have Hb1 : Hid (Below wr.heap.size wr w1) := qaa (qbo (lb2 (qaj _ _) _ _ _) hgrow1 (by simp; omega) (fun g hg => by injection hg with hg; simp at hg; omega)); have hS1 := HSof.out w1 Hb1.out; have HX1 : Hid (Blk w1 (wr.heap.size + 1) 198 #[.int .i64 xw, .slice As ns cs, .bool true]) := qaa (Blk.grow' (lblk3 wr _ _ _ _) hgrow1 (by intro h; injection h with h; simp at h)); have Hown1 := qaa (show w1.ownsRow wr.heap.size 198 3 (.slice A1 k c1) k (xs.take (k * 3)) by simpa using hown1); clear hown1 hgrow1))
      | (((with_reducible refine yeB 48 wr #[.int .i64 xw, .slice As ns cs, .bool true] ?_); refine yab (by rfl) (.tmp 44) (.tmp 47) 195 (by rfl) wr.heap.size 198 i0 _ 3 40 underlying195 hi hz0 hz1 hz2 rfl (by decide) (.slice (some ⟨wr.heap.size + 1, 0, none⟩) 0 0) (0) ([]) (by rfl) (yaB (lblk3 _ _ _ _ _) (by omega)) (some ⟨b, off, none⟩) (k) (c) (w.heap.size) (xs.take (k * 3)) (by rfl) (Hrd1.out _ (lb2 (qaj _ _) _ _ _)) (Hone1.out) (by unfold maxLen; omega) (by omega) (by simp; omega) (k) (qaE k) ?_; intro A1 c1 w1 hown1 hgrow1 _; have Hb1 : Hid (Below wr.heap.size wr w1) := qaa (qbo (lb2 (qaj _ _) _ _ _) hgrow1 (by simp; omega) (fun g hg => by injection hg with hg; simp at hg; omega)); have hS1 := HSof.out w1 Hb1.out; have HX1 : Hid (Blk w1 (wr.heap.size) 198 #[.int .i64 xw, .slice As ns cs, .bool true]) := qaa (Blk.grow' (lblk2 wr _ _ _ _) hgrow1 (by intro h; injection h with h; simp at h)); have Hown1 := qaa (show w1.ownsRow wr.heap.size 198 3 (.slice A1 k c1) k (xs.take (k * 3)) by simpa using hown1); clear hown1 hgrow1))
      | (((with_reducible refine lguard3 51 w1 ?_); refine yab (by rfl) (.tmp 48) (.tmp 50) 195 (by rfl) wr.heap.size 198 i0 _ 3 40 underlying195 hi hz0 hz1 hz2 rfl (by decide) (.slice A1 k c1) (k) (xs.take (k * 3)) (by rfl) (Hown1.out.alloc _) (some ⟨w1.heap.size, 0, none⟩) (1) (1) (_) ([.int .i64 xw, .slice As ns cs, .bool true]) (by rfl) (ybA (Blk.new _ _ _) rfl) (Hone2.out) (by unfold maxLen; omega) (by omega) (by have := Hb1.out.size; simp; omega) (k + 1) (rfl) ?_; intro A2 c2 w2 hown2 hgrow2 _; have Hb2 : Hid (Below wr.heap.size wr w2) := qaa (qbo (Hb1.out.alloc Hb1.out.size _) hgrow2 (by have := Hb1.out.size; simp; omega) (fun g hg => (Hown1.out.lt g hg).1)); have hS1 := HSof.out w2 Hb2.out; have Hown2 := qaa (show w2.ownsRow wr.heap.size 198 3 (.slice A2 (k + 1) c2) (k + 1) (xs.take (k * 3) ++ [.int .i64 xw, .slice As ns cs, .bool true]) by simpa using hown2); clear hown2 hgrow2))
      | (((with_reducible refine yeW 51 ?_); refine yab (by rfl) (.tmp 48) (.tmp 50) 195 (by rfl) wr.heap.size 198 i0 _ 3 40 underlying195 hi hz0 hz1 hz2 rfl (by decide) (.slice A1 k c1) (k) (xs.take (k * 3)) (by rfl) (Hown1.out) (some ⟨_, 0, none⟩) (1) (1) (_) ([.int .i64 xw, .slice As ns cs, .bool true]) (by rfl) (ybA HX1.out rfl) (Hone2.out) (by unfold maxLen; omega) (by omega) (Hb1.out.size) (k + 1) (rfl) ?_; intro A2 c2 w2 hown2 hgrow2 _; have Hb2 : Hid (Below wr.heap.size wr w2) := qaa (qbo (Hb1.out) hgrow2 (by have := Hb1.out.size; simp; omega) (fun g hg => (Hown1.out.lt g hg).1)); have hS1 := HSof.out w2 Hb2.out; have Hown2 := qaa (show w2.ownsRow wr.heap.size 198 3 (.slice A2 (k + 1) c2) (k + 1) (xs.take (k * 3) ++ [.int .i64 xw, .slice As ns cs, .bool true]) by simpa using hown2); clear hown2 hgrow2))
      | (((with_reducible refine yeW 55 ?_); refine yab (by rfl) (.tmp 51) (.tmp 54) 195 (by rfl) wr.heap.size 198 i0 _ 3 40 underlying195 hi hz0 hz1 hz2 rfl (by decide) (.slice A2 (k + 1) c2) (k + 1) (xs.take (k * 3) ++ [.int .i64 xw, .slice As ns cs, .bool true]) (by rfl) (Hown2.out) (Ad) (n - k) (c - k) (w.heap.size) (xs.drop (k * 3)) (by rfl) (Hrd3.out _ Hb2.out) (Hone3.out) (by unfold maxLen; omega) (by omega) (Hb2.out.size) (n + 1) (by omega) ?_; intro A3 c3 w3 hown3 hgrow3 _; have Hb3 : Hid (Below wr.heap.size wr w3) := qaa (qbo Hb2.out hgrow3 Hb2.out.size (fun g hg => (Hown2.out.lt g hg).1)); have hS1 := HSof.out w3 Hb3.out; have Hown3 := qaa hown3; clear hown3 hgrow3)))
     all_goals go_wp2
     all_goals go_ret
     all_goals (obtain ⟨f1, f2, f3⟩ := Hfin.out _ _ _ Hown3.out Hb3.out; exact ⟨A3, c3, rfl, f1, f2, f3⟩)
    ·have hbe : (yw == xw) = false := by simpa using h2
     have h4 : decide (yw < xw) = false := by simpa using h1
     clear hst h1 h2
     go_wp2
     go_quiet (fail)
     go_wp2
     go_region_held3 (fun w' => w'.cell? ⟨w.heap.size, 0, none⟩ = some (.int .i64 xw) ∧ w'.cell? ⟨w.heap.size, 1, none⟩ = some (.slice As ns cs) ∧ w'.cell? ⟨w.heap.size, 2, none⟩ = some (.bool xl)) (first | go_keep | exact hS1) (first
      | (((with_reducible refine lguard1 48 wr ?_); refine yab (by rfl) (.tmp 44) (.tmp 47) 195 (by rfl) wr.heap.size 198 i0 _ 3 40 underlying195 hi hz0 hz1 hz2 rfl (by decide) (.slice (some ⟨wr.heap.size, 0, none⟩) 0 0) (0) ([]) (by rfl) (yaB (Blk.new _ _ _) (by omega)) (some ⟨b, off, none⟩) (k) (c) (w.heap.size) (xs.take (k * 3)) (by rfl) (Hrd1.out _ (lb1 (qaj _ _) _ _)) (Hone1.out) (by unfold maxLen; omega) (by omega) (by simp) (k) (qaE k) ?_; intro A1 c1 w1 hown1 hgrow1 _; have Hb1 : Hid (Below wr.heap.size wr w1) := qaa (qbo (lb1 (qaj _ _) _ _) hgrow1 (by simp) (fun g hg => by injection hg with hg; simp at hg; omega)); have hS1 := HSof.out w1 Hb1.out; have Hown1 := qaa (show w1.ownsRow wr.heap.size 198 3 (.slice A1 k c1) k (xs.take (k * 3)) by simpa using hown1); clear hown1 hgrow1))
      | (((with_reducible refine yeB 48 wr #[] ?_); refine yab (by rfl) (.tmp 44) (.tmp 47) 195 (by rfl) wr.heap.size 198 i0 _ 3 40 underlying195 hi hz0 hz1 hz2 rfl (by decide) (.slice (some ⟨wr.heap.size, 0, none⟩) 0 0) (0) ([]) (by rfl) (yaB ((Blk.new _ _ _).alloc _) (by omega)) (some ⟨b, off, none⟩) (k) (c) (w.heap.size) (xs.take (k * 3)) (by rfl) (Hrd1.out _ (lb2 (qaj _ _) _ _ _)) (Hone1.out) (by unfold maxLen; omega) (by omega) (by simp; omega) (k) (qaE k) ?_; intro A1 c1 w1 hown1 hgrow1 _; have Hb1 : Hid (Below wr.heap.size wr w1) := qaa (qbo (lb2 (qaj _ _) _ _ _) hgrow1 (by simp; omega) (fun g hg => by injection hg with hg; simp at hg; omega)); have hS1 := HSof.out w1 Hb1.out; have HX1 : Hid (Blk w1 (wr.heap.size + 1) 198 #[.int .i64 xw, .slice As ns cs, .bool xl]) := qaa (Blk.grow' (lblk3 wr _ _ _ _) hgrow1 (by intro h; injection h with h; simp at h)); have Hown1 := qaa (show w1.ownsRow wr.heap.size 198 3 (.slice A1 k c1) k (xs.take (k * 3)) by simpa using hown1); clear hown1 hgrow1))
      | (((with_reducible refine yeB 48 wr #[.int .i64 xw, .slice As ns cs, .bool xl] ?_); refine yab (by rfl) (.tmp 44) (.tmp 47) 195 (by rfl) wr.heap.size 198 i0 _ 3 40 underlying195 hi hz0 hz1 hz2 rfl (by decide) (.slice (some ⟨wr.heap.size + 1, 0, none⟩) 0 0) (0) ([]) (by rfl) (yaB (lblk3 _ _ _ _ _) (by omega)) (some ⟨b, off, none⟩) (k) (c) (w.heap.size) (xs.take (k * 3)) (by rfl) (Hrd1.out _ (lb2 (qaj _ _) _ _ _)) (Hone1.out) (by unfold maxLen; omega) (by omega) (by simp; omega) (k) (qaE k) ?_; intro A1 c1 w1 hown1 hgrow1 _; have Hb1 : Hid (Below wr.heap.size wr w1) := qaa (qbo (lb2 (qaj _ _) _ _ _) hgrow1 (by simp; omega) (fun g hg => by injection hg with hg; simp at hg; omega)); have hS1 := HSof.out w1 Hb1.out; have HX1 : Hid (Blk w1 (wr.heap.size) 198 #[.int .i64 xw, .slice As ns cs, .bool xl]) := qaa (Blk.grow' (lblk2 wr _ _ _ _) hgrow1 (by intro h; injection h with h; simp at h)); have Hown1 := qaa (show w1.ownsRow wr.heap.size 198 3 (.slice A1 k c1) k (xs.take (k * 3)) by simpa using hown1); clear hown1 hgrow1))
      | (((with_reducible refine lguard3 51 w1 ?_); refine yab (by rfl) (.tmp 48) (.tmp 50) 195 (by rfl) wr.heap.size 198 i0 _ 3 40 underlying195 hi hz0 hz1 hz2 rfl (by decide) (.slice A1 k c1) (k) (xs.take (k * 3)) (by rfl) (Hown1.out.alloc _) (some ⟨w1.heap.size, 0, none⟩) (1) (1) (_) ([.int .i64 xw, .slice As ns cs, .bool xl]) (by rfl) (ybA (Blk.new _ _ _) rfl) (Hone2.out) (by unfold maxLen; omega) (by omega) (by have := Hb1.out.size; simp; omega) (k + 1) (rfl) ?_; intro A2 c2 w2 hown2 hgrow2 _; have Hb2 : Hid (Below wr.heap.size wr w2) := qaa (qbo (Hb1.out.alloc Hb1.out.size _) hgrow2 (by have := Hb1.out.size; simp; omega) (fun g hg => (Hown1.out.lt g hg).1)); have hS1 := HSof.out w2 Hb2.out; have Hown2 := qaa (show w2.ownsRow wr.heap.size 198 3 (.slice A2 (k + 1) c2) (k + 1) (xs.take (k * 3) ++ [.int .i64 xw, .slice As ns cs, .bool xl]) by simpa using hown2); clear hown2 hgrow2))
      | (((with_reducible refine yeW 51 ?_); refine yab (by rfl) (.tmp 48) (.tmp 50) 195 (by rfl) wr.heap.size 198 i0 _ 3 40 underlying195 hi hz0 hz1 hz2 rfl (by decide) (.slice A1 k c1) (k) (xs.take (k * 3)) (by rfl) (Hown1.out) (some ⟨_, 0, none⟩) (1) (1) (_) ([.int .i64 xw, .slice As ns cs, .bool xl]) (by rfl) (ybA HX1.out rfl) (Hone2.out) (by unfold maxLen; omega) (by omega) (Hb1.out.size) (k + 1) (rfl) ?_; intro A2 c2 w2 hown2 hgrow2 _; have Hb2 : Hid (Below wr.heap.size wr w2) := qaa (qbo (Hb1.out) hgrow2 (by have := Hb1.out.size; simp; omega) (fun g hg => (Hown1.out.lt g hg).1)); have hS1 := HSof.out w2 Hb2.out; have Hown2 := qaa (show w2.ownsRow wr.heap.size 198 3 (.slice A2 (k + 1) c2) (k + 1) (xs.take (k * 3) ++ [.int .i64 xw, .slice As ns cs, .bool xl]) by simpa using hown2); clear hown2 hgrow2))
      | (((with_reducible refine yeW 55 ?_); refine yab (by rfl) (.tmp 51) (.tmp 54) 195 (by rfl) wr.heap.size 198 i0 _ 3 40 underlying195 hi hz0 hz1 hz2 rfl (by decide) (.slice A2 (k + 1) c2) (k + 1) (xs.take (k * 3) ++ [.int .i64 xw, .slice As ns cs, .bool xl]) (by rfl) (Hown2.out) (Ad) (n - k) (c - k) (w.heap.size) (xs.drop (k * 3)) (by rfl) (Hrd3.out _ Hb2.out) (Hone3.out) (by unfold maxLen; omega) (by omega) (Hb2.out.size) (n + 1) (by omega) ?_; intro A3 c3 w3 hown3 hgrow3 _; have Hb3 : Hid (Below wr.heap.size wr w3) := qaa (qbo Hb2.out hgrow3 Hb2.out.size (fun g hg => (Hown2.out.lt g hg).1)); have hS1 := HSof.out w3 Hb3.out; have Hown3 := qaa hown3; clear hown3 hgrow3)))
     all_goals go_wp2
     all_goals go_ret
     all_goals (obtain ⟨f1, f2, f3⟩ := Hfin.out _ _ _ Hown3.out Hb3.out; exact ⟨A3, c3, rfl, f1, f2, f3⟩)
   ·have hkn2 : ¬ (k : Int) < (n : Int) := by omega
    go_wp2
    go_quiet (fail)
    go_wp2
    go_region_held3 (fun w' => w'.cell? ⟨w.heap.size, 0, none⟩ = some (.int .i64 xw) ∧ w'.cell? ⟨w.heap.size, 1, none⟩ = some (.slice As ns cs) ∧ w'.cell? ⟨w.heap.size, 2, none⟩ = some (.bool xl)) (first | go_keep | exact hS1) (first
     | (((with_reducible refine lguard1 48 wr ?_); refine yab (by rfl) (.tmp 44) (.tmp 47) 195 (by rfl) wr.heap.size 198 i0 _ 3 40 underlying195 hi hz0 hz1 hz2 rfl (by decide) (.slice (some ⟨wr.heap.size, 0, none⟩) 0 0) (0) ([]) (by rfl) (yaB (Blk.new _ _ _) (by omega)) (A) (k) (c) (w.heap.size) (xs.take (k * 3)) (by rfl) (Hrd1.out _ (lb1 (qaj _ _) _ _)) (Hone1.out) (by unfold maxLen; omega) (by omega) (by simp) (k) (qaE k) ?_; intro A1 c1 w1 hown1 hgrow1 _; have Hb1 : Hid (Below wr.heap.size wr w1) := qaa (qbo (lb1 (qaj _ _) _ _) hgrow1 (by simp) (fun g hg => by injection hg with hg; simp at hg; omega)); have hS1 := HSof.out w1 Hb1.out; have Hown1 := qaa (show w1.ownsRow wr.heap.size 198 3 (.slice A1 k c1) k (xs.take (k * 3)) by simpa using hown1); clear hown1 hgrow1))
     | (((with_reducible refine yeB 48 wr #[] ?_); refine yab (by rfl) (.tmp 44) (.tmp 47) 195 (by rfl) wr.heap.size 198 i0 _ 3 40 underlying195 hi hz0 hz1 hz2 rfl (by decide) (.slice (some ⟨wr.heap.size, 0, none⟩) 0 0) (0) ([]) (by rfl) (yaB ((Blk.new _ _ _).alloc _) (by omega)) (A) (k) (c) (w.heap.size) (xs.take (k * 3)) (by rfl) (Hrd1.out _ (lb2 (qaj _ _) _ _ _)) (Hone1.out) (by unfold maxLen; omega) (by omega) (by simp; omega) (k) (qaE k) ?_; intro A1 c1 w1 hown1 hgrow1 _; have Hb1 : Hid (Below wr.heap.size wr w1) := qaa (qbo (lb2 (qaj _ _) _ _ _) hgrow1 (by simp; omega) (fun g hg => by injection hg with hg; simp at hg; omega)); have hS1 := HSof.out w1 Hb1.out; have HX1 : Hid (Blk w1 (wr.heap.size + 1) 198 #[.int .i64 xw, .slice As ns cs, .bool xl]) := qaa (Blk.grow' (lblk3 wr _ _ _ _) hgrow1 (by intro h; injection h with h; simp at h)); have Hown1 := qaa (show w1.ownsRow wr.heap.size 198 3 (.slice A1 k c1) k (xs.take (k * 3)) by simpa using hown1); clear hown1 hgrow1))
     | (((with_reducible refine yeB 48 wr #[.int .i64 xw, .slice As ns cs, .bool xl] ?_); refine yab (by rfl) (.tmp 44) (.tmp 47) 195 (by rfl) wr.heap.size 198 i0 _ 3 40 underlying195 hi hz0 hz1 hz2 rfl (by decide) (.slice (some ⟨wr.heap.size + 1, 0, none⟩) 0 0) (0) ([]) (by rfl) (yaB (lblk3 _ _ _ _ _) (by omega)) (A) (k) (c) (w.heap.size) (xs.take (k * 3)) (by rfl) (Hrd1.out _ (lb2 (qaj _ _) _ _ _)) (Hone1.out) (by unfold maxLen; omega) (by omega) (by simp; omega) (k) (qaE k) ?_; intro A1 c1 w1 hown1 hgrow1 _; have Hb1 : Hid (Below wr.heap.size wr w1) := qaa (qbo (lb2 (qaj _ _) _ _ _) hgrow1 (by simp; omega) (fun g hg => by injection hg with hg; simp at hg; omega)); have hS1 := HSof.out w1 Hb1.out; have HX1 : Hid (Blk w1 (wr.heap.size) 198 #[.int .i64 xw, .slice As ns cs, .bool xl]) := qaa (Blk.grow' (lblk2 wr _ _ _ _) hgrow1 (by intro h; injection h with h; simp at h)); have Hown1 := qaa (show w1.ownsRow wr.heap.size 198 3 (.slice A1 k c1) k (xs.take (k * 3)) by simpa using hown1); clear hown1 hgrow1))
     | (((with_reducible refine lguard3 51 w1 ?_); refine yab (by rfl) (.tmp 48) (.tmp 50) 195 (by rfl) wr.heap.size 198 i0 _ 3 40 underlying195 hi hz0 hz1 hz2 rfl (by decide) (.slice A1 k c1) (k) (xs.take (k * 3)) (by rfl) (Hown1.out.alloc _) (some ⟨w1.heap.size, 0, none⟩) (1) (1) (_) ([.int .i64 xw, .slice As ns cs, .bool xl]) (by rfl) (ybA (Blk.new _ _ _) rfl) (Hone2.out) (by unfold maxLen; omega) (by omega) (by have := Hb1.out.size; simp; omega) (k + 1) (rfl) ?_; intro A2 c2 w2 hown2 hgrow2 _; have Hb2 : Hid (Below wr.heap.size wr w2) := qaa (qbo (Hb1.out.alloc Hb1.out.size _) hgrow2 (by have := Hb1.out.size; simp; omega) (fun g hg => (Hown1.out.lt g hg).1)); have hS1 := HSof.out w2 Hb2.out; have Hown2 := qaa (show w2.ownsRow wr.heap.size 198 3 (.slice A2 (k + 1) c2) (k + 1) (xs.take (k * 3) ++ [.int .i64 xw, .slice As ns cs, .bool xl]) by simpa using hown2); clear hown2 hgrow2))
     | (((with_reducible refine yeW 51 ?_); refine yab (by rfl) (.tmp 48) (.tmp 50) 195 (by rfl) wr.heap.size 198 i0 _ 3 40 underlying195 hi hz0 hz1 hz2 rfl (by decide) (.slice A1 k c1) (k) (xs.take (k * 3)) (by rfl) (Hown1.out) (some ⟨_, 0, none⟩) (1) (1) (_) ([.int .i64 xw, .slice As ns cs, .bool xl]) (by rfl) (ybA HX1.out rfl) (Hone2.out) (by unfold maxLen; omega) (by omega) (Hb1.out.size) (k + 1) (rfl) ?_; intro A2 c2 w2 hown2 hgrow2 _; have Hb2 : Hid (Below wr.heap.size wr w2) := qaa (qbo (Hb1.out) hgrow2 (by have := Hb1.out.size; simp; omega) (fun g hg => (Hown1.out.lt g hg).1)); have hS1 := HSof.out w2 Hb2.out; have Hown2 := qaa (show w2.ownsRow wr.heap.size 198 3 (.slice A2 (k + 1) c2) (k + 1) (xs.take (k * 3) ++ [.int .i64 xw, .slice As ns cs, .bool xl]) by simpa using hown2); clear hown2 hgrow2))
     | (((with_reducible refine yeW 55 ?_); refine yab (by rfl) (.tmp 51) (.tmp 54) 195 (by rfl) wr.heap.size 198 i0 _ 3 40 underlying195 hi hz0 hz1 hz2 rfl (by decide) (.slice A2 (k + 1) c2) (k + 1) (xs.take (k * 3) ++ [.int .i64 xw, .slice As ns cs, .bool xl]) (by rfl) (Hown2.out) (Ad) (n - k) (c - k) (w.heap.size) (xs.drop (k * 3)) (by rfl) (Hrd3.out _ Hb2.out) (Hone3.out) (by unfold maxLen; omega) (by omega) (Hb2.out.size) (n + 1) (by omega) ?_; intro A3 c3 w3 hown3 hgrow3 _; have Hb3 : Hid (Below wr.heap.size wr w3) := qaa (qbo Hb2.out hgrow3 Hb2.out.size (fun g hg => (Hown2.out.lt g hg).1)); have hS1 := HSof.out w3 Hb3.out; have Hown3 := qaa hown3; clear hown3 hgrow3)))
    all_goals go_wp2
    all_goals go_ret
    all_goals (obtain ⟨f1, f2, f3⟩ := Hfin.out _ _ _ Hown3.out Hb3.out; exact ⟨A3, c3, rfl, f1, f2, f3⟩)
theorem LHRow.nil (W : World) (B : Nat) (ok : Nat → Prop) : LHRow W B ok none 0 [] := ⟨rfl, fun h => absurd h (by omega), [], Reads.none_, rfl⟩
theorem yeL (i : Nat) (c : Int) (t : List Int) (R : List LTh) (h : 0 < c) : yaV i (c :: t) R = yaV (i + 1) t (lput R ⟨c, [i], true⟩) := by
 conv => lhs; unfold yaV
 rw [qah h]
theorem ygc (i : Nat) (c : Int) (t : List Int) (R : List LTh) (h : ¬ 0 < c) : yaV i (c :: t) R = yaV (i + 1) t R := by
 conv => lhs; unfold yaV
 rw [qag h]
theorem lone_reads (W : World) (s : Nat) : Reads (W.alloc (.cells #[.int .i64 (s : Int)] 3)) (W.alloc (.cells #[.int .i64 (s : Int)] 3)).heap.size 1 (some ⟨W.heap.size, 0, none⟩) 1 (ints (lsy [s])) := by
 have := yar W 3 #[.int .i64 (s : Int)] 1 1 rfl
 exact this.more (by simp)
theorem lref_first_any (ok : Nat → Prop) (counts : List Int) (A : Option Addr) (n c : Nat) (w : World) (hm : n ≤ 100000) (hok : ∀ b, w.heap.size ≤ b → ok b) (hr : Reads w w.heap.size 1 A n (ints counts)) :
  Calls prog 152 #[.slice A n c] w fun e w' => ∃ A' c', e = .returned (.slice A' (yaa counts).length c') ∧ (yaa counts).length ≤ c' ∧ LHRow w' w'.heap.size ok A' (yaa counts).length (yaa counts) ∧ Below w.heap.size w w' := by
 have en : counts.length = n := by have := hr.1; rw [yae] at this; omega
 have Hcell : Hid (0 < n → ∃ b off, A = some ⟨b, off, none⟩ ∧ ∀ wr, Below w.heap.size w wr → ∀ k, (hk : k < counts.length) → wr.cell? ⟨b, off + k, none⟩ = some (.int .i64 counts[k])) := qaa fun h => by
  obtain ⟨b, off, e, hb, hc⟩ := hr.2 h
  exact ⟨b, off, e, fun wr hw k hk => (hw.cell (p := ⟨b, off + k, none⟩) hb).trans (hc k _ (yak counts k hk))⟩
 have Hstart : Hid (yaV 0 (counts.drop 0) [] = yaa counts) := qaa rfl
 have En := qaa en
 have hnn : (n : Int) ≤ 100000 := by omega
 clear hr en
 generalize yaa counts = T at *
 go_enter func152, ntmps152
 go_wp2
 go_loopw [3, 4] (fun v i wr => ∃ (k m cm : Nat) (Am : Option Addr) (R : List LTh), k ≤ n ∧ m ≤ k ∧ m ≤ cm ∧ v = .slice Am m cm ∧ i = .int .i64 k ∧ Hid (yaV k (counts.drop k) R = T) ∧ Hid (LHRow wr wr.heap.size ok Am m R) ∧ Hid (Below w.heap.size w wr)) (fun _ i _ => n - (intOf i).toNat)
 case atStart => exact ⟨0, 0, 0, none, [], by omega, by omega, by omega, rfl, rfl, Hstart.out, LHRow.nil _ _ _, qaj _ _⟩
 case round =>
  obtain ⟨k, m, cm, Am, R, hk, hmk, hmc, rfl, rfl, Hf, HR, Hb⟩ := hrel
  by_cases hlt : k < n
  ·have hki : (0 : Int) ≤ (k : Int) ∧ (k : Int) < n := by omega
   have hkl : k < counts.length := by rw [En.out]; exact hlt
   obtain ⟨b, off, rfl, hcell⟩ := Hcell.out (by omega)
   have hx := hcell wr Hb.out k hkl
   have hf := Hf.out
   rw [qa3 hkl] at hf
   clear hcell Hf
   generalize counts[k] = x at *
   by_cases hx0 : 0 < x
   ·rw [yeL _ _ _ _ hx0] at hf
    have Hf2 := qaa hf
    have Hput : Hid (Calls prog 188 #[.slice Am m cm, .agg #[.int .i64 x, .slice (some ⟨wr.heap.size, 0, none⟩) 1 1, .bool true]] (wr.alloc (.cells #[.int .i64 (k : Int)] 3)) fun e w' => ∃ A' c', e = .returned (.slice A' (m + 1) c') ∧ m + 1 ≤ c' ∧ LHRow w' w'.heap.size ok A' (m + 1) (lput R ⟨x, [k], true⟩) ∧ Below (wr.alloc (.cells #[.int .i64 (k : Int)] 3)).heap.size (wr.alloc (.cells #[.int .i64 (k : Int)] 3)) w') := qaa (by
     have hba : Below wr.heap.size wr (wr.alloc (.cells #[.int .i64 (k : Int)] 3)) := (qaj _ _).alloc (qaf _) _
     exact yc7 ok R ⟨x, [k], true⟩ Am (some ⟨wr.heap.size, 0, none⟩) m cm 1 (wr.alloc (.cells #[.int .i64 (k : Int)] 3)) (by omega) hmc (fun b hb2 => hok b (qa7 (qa7 Hb.out.size hba.size) hb2)) ((HR.out.below hba).more hba.size) (qaf _) ⟨lone_reads wr k, fun _ => ⟨_, _, rfl, hok _ Hb.out.size⟩⟩)
    clear hf
    go_wp2_with (go_at_call 188; refine Hput.out.mono ?_; rintro e w2 ⟨A2, c2, rfl, hc2, hR2, hb2⟩; have HR2 := qaa hR2; have Hc2 := qaa hc2; have Hb2 := qaa (Hb.out.trans ((((qaj wr.heap.size wr).alloc (qaf _) (.cells #[.int .i64 (k : Int)] 3)).trans (hb2.mono (by simp))).mono Hb.out.size)); clear hR2 hc2 hb2)
    go_roundw
    case rel => exact ⟨k + 1, m + 1, c2, A2, _, by omega, by omega, Hc2.out, rfl, iv (by omega), Hf2.out, HR2.out, Hb2.out⟩
    case measure => simp only [intOf]; omega
   ·rw [ygc _ _ _ _ hx0] at hf
    have Hf2 := qaa hf
    clear hf
    go_wp2
    go_roundw
    case rel => exact ⟨k + 1, m, cm, Am, R, by omega, by omega, hmc, rfl, iv (by omega), Hf2.out, HR.out, Hb.out⟩
    case measure => simp only [intOf]; omega
  ·obtain rfl : k = n := by omega
   have hf := Hf.out
   rw [qaJ (by rw [En.out]; exact qaf _)] at hf
   have hf2 : R = T := hf
   subst hf2
   have hlen := HR.out.1
   subst hlen
   clear hf Hf
   go_wp2
   go_ret
   exact ⟨Am, cm, rfl, hmc, HR.out, Hb.out⟩
theorem lint_info : (prog.info? 3).map (fun i => (i.zero, i.size, i.bytes)) = some (some (.int .i64 0), 1, 8) := by kernel_rfl
theorem lisblk {W : World} {g : Nat} {t : TypeId} {cs : Array Value} (h : Blk W g t cs) : Blk W g t cs := h
theorem lnot_own {W : World} {B n size : Nat} {e : TypeId} {v : Value} {xs : List Value} (h : W.ownsRow B e size v n xs) (k : v.ownBlock = some W.heap.size) : False := by
 have := (h.lt _ k).2
 omega
theorem lnot_blk {W : World} {B n size g : Nat} {e t : TypeId} {v : Value} {xs : List Value} {cs : Array Value} (h : W.ownsRow B e size v n xs) (hb : Blk W g t cs) (hne : e ≠ t) : v.ownBlock ≠ some g := yau h hb hne
theorem lpacks_two (R : List LTh) (k : Nat) (h : k + 1 < R.length) : yam (R.drop k) = ybx (R[k]'(by omega)) R[k + 1] :: yam (R.drop (k + 2)) := by
 rw [qa3 (by omega), qa3 h]
 rfl
theorem lpacks_few (R : List LTh) (k : Nat) (h : R.length ≤ k + 1) : yam (R.drop k) = [] := by
 have hl : (R.drop k).length ≤ 1 := by rw [qaz]; omega
 cases hd : R.drop k with
 | nil => rfl
 | cons a t =>
  rw [hd] at hl
  cases t with
  | nil => rfl
  | cons b u => simp at hl
section
variable {P : Program} {op : Op} {ty : TypeId} {pos : String} {af : Array Edge} {gd : Option (Nat × Bool)} {ys : Nat → Option Bool} {a : Act} {K : Act → World → Prop} {Q : Exit → Act → World → Prop} {E : Prop}
theorem lguardD1 (d : Nat) (wr : World) {o : Obj} (h : if Region.wanted ⟨some d, op, ty, pos, af, gd⟩ ys = true then Oper.wp P ⟨some d, op, ty, pos, af, gd⟩ a (wr.alloc o).drew K Q else E) : if Region.wanted ⟨some d, op, ty, pos, af, gd⟩ ys = true then Oper.wp P ⟨some d, op, ty, pos, af, gd⟩ a (wr.alloc o).drew K Q else E := h
theorem lguardD2 (d : Nat) (wr : World) (cs : Array Value) {t : TypeId} {o : Obj} (h : if Region.wanted ⟨some d, op, ty, pos, af, gd⟩ ys = true then Oper.wp P ⟨some d, op, ty, pos, af, gd⟩ a ((wr.alloc (.cells cs t)).alloc o).drew K Q else E) : if Region.wanted ⟨some d, op, ty, pos, af, gd⟩ ys = true then Oper.wp P ⟨some d, op, ty, pos, af, gd⟩ a ((wr.alloc (.cells cs t)).alloc o).drew K Q else E := h
theorem lbd1 (wr : World) (o : Obj) : Below wr.heap.size wr (wr.alloc o).drew := yaj ((qaj _ _).alloc (qaf _) o) 1
theorem lbd2 (wr : World) (o o2 : Obj) : Below wr.heap.size wr ((wr.alloc o).alloc o2).drew := yaj (((qaj _ _).alloc (qaf _) o).alloc (by simp) o2) 1
theorem lblkD1 (wr : World) (t : TypeId) (cs : Array Value) : Blk (wr.alloc (.cells cs t)).drew wr.heap.size t cs := (Blk.new wr t cs).drew
theorem lblkD2 (wr : World) (o : Obj) (t : TypeId) (cs : Array Value) : Blk ((wr.alloc (.cells cs t)).alloc o).drew wr.heap.size t cs := ((Blk.new wr t cs).alloc o).drew
theorem lblkD3 (wr : World) (o : Obj) (t : TypeId) (cs : Array Value) : Blk ((wr.alloc o).alloc (.cells cs t)).drew (wr.heap.size + 1) t cs := by
 have := (Blk.new (wr.alloc o) t cs).drew
 simpa using this
end
theorem lbset {wr w2 : World} {g : Nat} (h : Below wr.heap.size wr w2) (hg : wr.heap.size ≤ g) (v0 v1 v2 : Value) : Below wr.heap.size wr (((w2.setCell ⟨g, 0, none⟩ v0).setCell ⟨g, 1, none⟩ v1).setCell ⟨g, 2, none⟩ v2) := ((h.setCell (p := ⟨g, 0, none⟩) hg v0).setCell (p := ⟨g, 1, none⟩) hg v1).setCell (p := ⟨g, 2, none⟩) hg v2
theorem lown_sets {W : World} {B n size g : Nat} {e t : TypeId} {v : Value} {xs : List Value} {cs : Array Value} (h : W.ownsRow B e size v n xs) (hb : Blk W g t cs) (hne : e ≠ t) (v0 v1 v2 : Value) : (((W.setCell ⟨g, 0, none⟩ v0).setCell ⟨g, 1, none⟩ v1).setCell ⟨g, 2, none⟩ v2).ownsRow B e size v n xs :=
 ya5 h ((((Touch.refl W (fun k => k = g)).set (p := ⟨g, 0, none⟩) (qat rfl) v0).set (p := ⟨g, 1, none⟩) (qat rfl) v1).set (p := ⟨g, 2, none⟩) (qat rfl) v2) fun k hk e => by
  subst e
  exact yau h hb hne hk
theorem lowns_reads {w : World} {base size n c : Nat} {e : TypeId} {A : Option Addr} {xs : List Value} (h : w.ownsRow base e size (.slice A n c) n xs) : Reads w w.heap.size size A n xs ∧ n ≤ c := by
 obtain ⟨A2, c2, e2, hc, hr⟩ := yad h
 injection e2 with e2 _ e3
 subst e2
 subst e3
 exact ⟨hr, hc⟩
theorem lsy_app (a b : List Nat) : lsy (a ++ b) = lsy a ++ lsy b := by simp [lsy]
theorem lints_app (a b : List Int) : ints (a ++ b) = ints a ++ ints b := by simp [ints]
theorem lref_next_any (ok : Nat → Prop) (R leaves : List LTh) (A AL : Option Addr) (n c m d : Nat) (w : World) (hn : n ≤ 10000) (hc : n ≤ c) (hm : m ≤ 10000) (hd : m ≤ d) (hsy : ∀ x ∈ R, x.syms.length ≤ 1000000 ∧ 0 ≤ x.w ∧ x.w ≤ 1000000000000) (hok : ∀ b, w.heap.size ≤ b → ok b) (hR : LHRow w w.heap.size ok A n R) (hL : LHRow w w.heap.size ok AL m leaves) :
  Calls prog 154 #[.slice A n c, .slice AL m d] w fun e w' => ∃ A' c', e = .returned (.slice A' (ygu R leaves).length c') ∧ (ygu R leaves).length ≤ c' ∧ LHRow w' w'.heap.size ok A' (ygu R leaves).length (ygu R leaves) ∧ Below w.heap.size w w' := by
 obtain ⟨j0, hj, hy0, hy1, hy2⟩ := qbn lint_info
 obtain ⟨en, _, xs, hrx, hmx⟩ := hR
 obtain ⟨em, _, ys, hry, hmy⟩ := hL
 have Hcell : Hid (∀ k (hk : k < R.length), ∃ b off As cs, A = some ⟨b, off, none⟩ ∧ b < w.heap.size ∧ R[k].syms.length ≤ cs ∧ Reads w w.heap.size 1 As R[k].syms.length (ints (lsy R[k].syms)) ∧ ∀ W, Below w.heap.size w W → W.cell? ⟨b, off + k * 3, none⟩ = some (.int .i64 R[k].w) ∧ W.cell? ⟨b, off + k * 3 + 1, none⟩ = some (.slice As R[k].syms.length cs)) := qaa fun k hk => by
  obtain ⟨As2, cs2, h1, h2, h3, h4, h5⟩ := hmx.at k hk
  obtain ⟨b, off, e, hb, hcell⟩ := hrx.2 (by omega)
  refine ⟨b, off, As2, cs2, e, hb, h4, h5.1, fun W hW => ⟨?_, ?_⟩⟩
  ·exact (hW.cell (p := ⟨b, off + k * 3, none⟩) hb).trans (hcell _ _ h1)
  ·exact (hW.cell (p := ⟨b, off + k * 3 + 1, none⟩) hb).trans (by rw [qbD]; exact hcell _ _ h2)
 have HLcell : Hid (∀ k (hk : k < leaves.length), ∃ b off As cs, AL = some ⟨b, off, none⟩ ∧ b < w.heap.size ∧ leaves[k].syms.length ≤ cs ∧ (Reads w w.heap.size 1 As leaves[k].syms.length (ints (lsy leaves[k].syms)) ∧ LOk ok As leaves[k].syms.length) ∧ ∀ W, Below w.heap.size w W → W.cell? ⟨b, off + k * 3, none⟩ = some (.int .i64 leaves[k].w) ∧ W.cell? ⟨b, off + k * 3 + 1, none⟩ = some (.slice As leaves[k].syms.length cs) ∧ W.cell? ⟨b, off + k * 3 + 2, none⟩ = some (.bool leaves[k].leaf)) := qaa fun k hk => by
  obtain ⟨As2, cs2, h1, h2, h3, h4, h5⟩ := hmy.at k hk
  obtain ⟨b, off, e, hb, hcell⟩ := hry.2 (by omega)
  refine ⟨b, off, As2, cs2, e, hb, h4, h5, fun W hW => ⟨?_, ?_, ?_⟩⟩
  ·exact (hW.cell (p := ⟨b, off + k * 3, none⟩) hb).trans (hcell _ _ h1)
  ·exact (hW.cell (p := ⟨b, off + k * 3 + 1, none⟩) hb).trans (by rw [qbD]; exact hcell _ _ h2)
  ·exact (hW.cell (p := ⟨b, off + k * 3 + 2, none⟩) hb).trans (by rw [qbD]; exact hcell _ _ h3)
 have Hsy := qaa hsy
 have hni : (n : Int) ≤ 10000 ∧ (m : Int) ≤ 10000 := by omega
 have En := qaa en
 have Em := qaa em
 clear hrx hmx hry hmy hsy en em
 obtain ⟨T1, hT1⟩ : ∃ T1, (yam R).foldl lput [] = T1 := ⟨_, rfl⟩
 obtain ⟨T2, hT2⟩ : ∃ T2, ygu R leaves = T2 := ⟨_, rfl⟩
 have HT : Hid (leaves.foldl lput T1 = T2) := qaa (by rw [← hT2, ← hT1]; rfl)
 have Hstart : Hid ((yam (R.drop 0)).foldl lput [] = T1) := qaa hT1
 rw [hT2]
 clear hT1 hT2
 go_enter func154, ntmps154
 go_wp2
 go_loopw [5, 6] (fun v i wr => ∃ (k p cp : Nat) (Ap : Option Addr) (Rp : List LTh), k ≤ n + 1 ∧ p ≤ k ∧ p ≤ cp ∧ v = .slice Ap p cp ∧ i = .int .i64 k ∧ Hid ((yam (R.drop k)).foldl lput Rp = T1) ∧ Hid (LHRow wr wr.heap.size ok Ap p Rp) ∧ Hid (Below w.heap.size w wr)) (fun _ i _ => n + 1 - (intOf i).toNat)
 case atStart => exact ⟨0, 0, 0, none, [], by omega, by omega, by omega, rfl, rfl, Hstart.out, LHRow.nil _ _ _, qaj _ _⟩
 case round =>
  obtain ⟨k, p, cp, Ap, Rp, hk, hpk, hpc, rfl, rfl, Hf, HRp, Hb⟩ := hrel
  by_cases hlt : k + 1 < n
  ·have hki : (0 : Int) ≤ (k : Int) ∧ (k : Int) + 1 < n ∧ (k : Int) < n := by omega
   have hk1 : k + 1 < R.length := by rw [En.out]; exact hlt
   have hk0 : k < R.length := by omega
   obtain ⟨b, off, As1, cs1, rfl, hb, hle1, hrs1, hcell1⟩ := Hcell.out k hk0
   obtain ⟨b', off', As2, cs2, e2, hb', hle2, hrs2, hcell2⟩ := Hcell.out (k + 1) hk1
   injection e2 with e2
   injection e2 with e3 e4
   subst e3
   subst e4
   obtain ⟨x1, x2⟩ := hcell1 wr Hb.out
   obtain ⟨x3, x4⟩ := hcell2 wr Hb.out
   have hsl1 := Hsy.out R[k] (qam hk0)
   have hsl2 := Hsy.out R[k + 1] (qam hk1)
   have hf := Hf.out
   rw [lpacks_two R k hk1, List.foldl_cons] at hf
   have Hf2 := qaa hf
   have HSof : Hid (∀ W, Below wr.heap.size wr W → W.cell? ⟨b, off + k * 3, none⟩ = some (.int .i64 R[k].w) ∧ W.cell? ⟨b, off + k * 3 + 1, none⟩ = some (.slice As1 R[k].syms.length cs1) ∧ W.cell? ⟨b, off + (k + 1) * 3, none⟩ = some (.int .i64 R[k + 1].w) ∧ W.cell? ⟨b, off + (k + 1) * 3 + 1, none⟩ = some (.slice As2 R[k + 1].syms.length cs2)) := qaa fun W hW => by
    have h1 := Hb.out.trans (hW.mono Hb.out.size)
    exact ⟨(hcell1 W h1).1, (hcell1 W h1).2, (hcell2 W h1).1, (hcell2 W h1).2⟩
   have Hrd1 : Hid (∀ W, Below wr.heap.size wr W → Reads W wr.heap.size 1 As1 R[k].syms.length (ints (lsy R[k].syms))) := qaa fun W hW => (hrs1.below (Hb.out.trans (hW.mono Hb.out.size))).more Hb.out.size
   have Hrd2 : Hid (∀ W, Below wr.heap.size wr W → Reads W wr.heap.size 1 As2 R[k + 1].syms.length (ints (lsy R[k + 1].syms))) := qaa fun W hW => (hrs2.below (Hb.out.trans (hW.mono Hb.out.size))).more Hb.out.size
   have hint : ∀ l : List Int, ∀ u ∈ ints l, u.oneCell' = true := fun l u hu => by
    obtain ⟨z, _, rfl⟩ := qbM.1 hu
    rfl
   have Hone1 := qaa (hint (lsy R[k].syms))
   have Hone2 := qaa (hint (lsy R[k + 1].syms))
   clear hcell1 hcell2 hrs1 hrs2 hint hf Hf
   generalize hq1 : R[k] = q1 at *
   generalize hq2 : R[k + 1] = q2 at *
   clear hq1 hq2
   obtain ⟨k2, hk2⟩ : ∃ k2, k + 1 = k2 := ⟨_, rfl⟩
   have hsum : (k : Int) + 1 = (k2 : Int) := by omega
   have hwk : IntKind.i64.wrap ((k : Int) + 1) = (k2 : Int) := by rw [qai]; omega
   have hwk2 : IntKind.i64.wrap (k2 : Int) = (k2 : Int) := by rw [qai]; omega
   have hk2i : (0 : Int) ≤ (k2 : Int) ∧ (k2 : Int) < n := by omega
   rw [hk2] at x3 x4 HSof
   obtain ⟨a1, s1, l1⟩ := q1
   obtain ⟨a2, s2, l2⟩ := q2
   simp only at *
   generalize hns1 : s1.length = ns1 at *
   generalize hns2 : s2.length = ns2 at *
   have Hput : Hid (∀ W4 B2 d2, Below wr.heap.size wr W4 → W4.ownsRow wr.heap.size 3 1 (.slice B2 (ns1 + ns2) d2) (ns1 + ns2) (ints (lsy s1) ++ ints (lsy s2)) → Calls prog 188 #[.slice Ap p cp, .agg #[.int .i64 (a1 + a2), .slice B2 (ns1 + ns2) d2, .bool false]] W4 fun e w' => ∃ A' c', e = .returned (.slice A' (p + 1) c') ∧ p + 1 ≤ c' ∧ LHRow w' w'.heap.size ok A' (p + 1) (lput Rp (ybx ⟨a1, s1, l1⟩ ⟨a2, s2, l2⟩)) ∧ Below w.heap.size w w') := qaa fun W4 B2 d2 hb4 ho4 => by
    obtain ⟨hr4, hd4⟩ := lowns_reads ho4
    have hlen : (ybx ⟨a1, s1, l1⟩ ⟨a2, s2, l2⟩).syms.length = ns1 + ns2 := by show (s1 ++ s2).length = _; rw [qae, hns1, hns2]
    have hsy4 : ints (lsy (ybx ⟨a1, s1, l1⟩ ⟨a2, s2, l2⟩).syms) = ints (lsy s1) ++ ints (lsy s2) := by show ints (lsy (s1 ++ s2)) = _; rw [lsy_app, lints_app]
    have := yc7 ok Rp (ybx ⟨a1, s1, l1⟩ ⟨a2, s2, l2⟩) Ap B2 p cp d2 W4 (by omega) hpc (fun b hb2 => hok b (qa7 (qa7 Hb.out.size hb4.size) hb2)) ((HRp.out.below hb4).more hb4.size) (by rw [hlen]; exact hd4) (by rw [hlen, hsy4]; exact ⟨hr4, ygf ho4 fun b hb2 => hok b (qa7 Hb.out.size hb2)⟩)
    rw [hlen] at this
    refine this.mono ?_
    rintro e w' ⟨A', c', rfl, h1, h2, h3⟩
    exact ⟨A', c', rfl, h1, h2, (Hb.out.trans (hb4.mono Hb.out.size)).trans (h3.mono (qa7 Hb.out.size hb4.size))⟩
   have hws : IntKind.i64.wrap (a1 + a2) = a1 + a2 := by rw [qai]; omega
   go_wp2
   go_region_held3 (fun w' => w'.cell? ⟨b, off + k * 3, none⟩ = some (.int .i64 a1) ∧ w'.cell? ⟨b, off + k * 3 + 1, none⟩ = some (.slice As1 ns1 cs1) ∧ w'.cell? ⟨b, off + k2 * 3, none⟩ = some (.int .i64 a2) ∧ w'.cell? ⟨b, off + k2 * 3 + 1, none⟩ = some (.slice As2 ns2 cs2)) (first | go_keep | exact hS1 | exact hS2 _ _ _) (first
    | (((with_reducible refine lguardD1 34 wr ?_); refine yab (by rfl) (.tmp 28) (.tmp 33) 28 (by rfl) wr.heap.size 3 j0 _ 1 8 underlying28 hj hy0 hy1 hy2 rfl (by decide) (.slice (some ⟨wr.heap.size, 0, none⟩) 0 0) (0) ([]) (by rfl) (yaB (lblkD1 wr _ _) (by omega)) (As1) (ns1) (cs1) (wr.heap.size) (ints (lsy s1)) (by rfl) (Hrd1.out _ (lbd1 wr _)) (Hone1.out) (by unfold maxLen; omega) (by omega) (by simp) (ns1) (qaE ns1) ?_; intro B1 d1 w1 hown1 hgrow1 _; have Hb1 : Hid (Below wr.heap.size wr w1) := qaa (qbo (lbd1 wr _) hgrow1 (by simp) (fun g hg => by injection hg with hg; simp at hg; omega)); have hS1 := HSof.out w1 Hb1.out; have HZ1 : Hid True := qaa trivial; have Hown1 := qaa (show w1.ownsRow wr.heap.size 3 1 (.slice B1 ns1 d1) ns1 (ints (lsy s1)) by simpa using hown1); clear hown1 hgrow1))
    | (((with_reducible refine lguardD2 34 wr #[] ?_); refine yab (by rfl) (.tmp 28) (.tmp 33) 28 (by rfl) wr.heap.size 3 j0 _ 1 8 underlying28 hj hy0 hy1 hy2 rfl (by decide) (.slice (some ⟨wr.heap.size, 0, none⟩) 0 0) (0) ([]) (by rfl) (yaB (lblkD2 wr _ _ _) (by omega)) (As1) (ns1) (cs1) (wr.heap.size) (ints (lsy s1)) (by rfl) (Hrd1.out _ (lbd2 wr _ _)) (Hone1.out) (by unfold maxLen; omega) (by omega) (by simp; omega) (ns1) (qaE ns1) ?_; intro B1 d1 w1 hown1 hgrow1 _; have Hb1 : Hid (Below wr.heap.size wr w1) := qaa (qbo (lbd2 wr _ _) hgrow1 (by simp; omega) (fun g hg => by injection hg with hg; simp at hg; omega)); have hS1 := HSof.out w1 Hb1.out; have HZ1 : Hid (Blk w1 (wr.heap.size + 1) 198 #[.int .i64 0, .slice none 0 0, .bool false]) := qaa (Blk.grow' (lblkD3 wr _ _ _) hgrow1 (by intro h; injection h with h; simp at h)); have HG1 := qaa (show wr.heap.size ≤ wr.heap.size + 1 from Nat.le_succ _); have Hown1 := qaa (show w1.ownsRow wr.heap.size 3 1 (.slice B1 ns1 d1) ns1 (ints (lsy s1)) by simpa using hown1); clear hown1 hgrow1))
    | (((with_reducible refine lguardD2 34 wr #[.int .i64 0, .slice none 0 0, .bool false] ?_); refine yab (by rfl) (.tmp 28) (.tmp 33) 28 (by rfl) wr.heap.size 3 j0 _ 1 8 underlying28 hj hy0 hy1 hy2 rfl (by decide) (.slice (some ⟨wr.heap.size + 1, 0, none⟩) 0 0) (0) ([]) (by rfl) (yaB (lblkD3 wr _ _ _) (by omega)) (As1) (ns1) (cs1) (wr.heap.size) (ints (lsy s1)) (by rfl) (Hrd1.out _ (lbd2 wr _ _)) (Hone1.out) (by unfold maxLen; omega) (by omega) (by simp; omega) (ns1) (qaE ns1) ?_; intro B1 d1 w1 hown1 hgrow1 _; have Hb1 : Hid (Below wr.heap.size wr w1) := qaa (qbo (lbd2 wr _ _) hgrow1 (by simp; omega) (fun g hg => by injection hg with hg; simp at hg; omega)); have hS1 := HSof.out w1 Hb1.out; have HZ1 : Hid (Blk w1 (wr.heap.size) 198 #[.int .i64 0, .slice none 0 0, .bool false]) := qaa (Blk.grow' (lblkD2 wr _ _ _) hgrow1 (by intro h; injection h with h; simp at h)); have HG1 := qaa (show wr.heap.size ≤ wr.heap.size from qaf _); have Hown1 := qaa (show w1.ownsRow wr.heap.size 3 1 (.slice B1 ns1 d1) ns1 (ints (lsy s1)) by simpa using hown1); clear hown1 hgrow1))
    | (((with_reducible refine lguard3 41 w1 ?_); refine yab (by rfl) (.tmp 34) (.tmp 40) 28 (by rfl) wr.heap.size 3 j0 _ 1 8 underlying28 hj hy0 hy1 hy2 rfl (by decide) (.slice B1 ns1 d1) (ns1) (ints (lsy s1)) (by rfl) (Hown1.out.alloc _) (As2) (ns2) (cs2) (wr.heap.size) (ints (lsy s2)) (by rfl) (Hrd2.out _ (Hb1.out.alloc Hb1.out.size _)) (Hone2.out) (by unfold maxLen; omega) (by omega) (by have := Hb1.out.size; simp; omega) (ns1 + ns2) (rfl) ?_; intro B2 d2 w2 hown2 hgrow2 _; have Hb2 : Hid (Below wr.heap.size wr w2) := qaa (qbo (Hb1.out.alloc Hb1.out.size _) hgrow2 (by have := Hb1.out.size; simp; omega) (fun g hg => (Hown1.out.lt g hg).1)); have hS1 := HSof.out w2 Hb2.out; have HZ2 : Hid (Blk w2 w1.heap.size 198 #[.int .i64 0, .slice none 0 0, .bool false]) := qaa (Blk.grow' (Blk.new _ _ _) hgrow2 (fun h => lnot_own Hown1.out h)); have z0 := HZ2.out.cell 0; have z1 := HZ2.out.cell 1; have z2 := HZ2.out.cell 2; have zf0 := HZ2.out.frozen 0; have zf1 := HZ2.out.frozen 1; have zf2 := HZ2.out.frozen 2; have hS2 := fun v0 v1 v2 => HSof.out _ (lbset Hb2.out Hb1.out.size v0 v1 v2); have Hown2 := qaa (show w2.ownsRow wr.heap.size 3 1 (.slice B2 (ns1 + ns2) d2) (ns1 + ns2) (ints (lsy s1) ++ ints (lsy s2)) by simpa using hown2); clear hown2 hgrow2; have hO2 := fun v0 v1 v2 => lown_sets Hown2.out HZ2.out (by decide) v0 v1 v2; have hBs := fun v0 v1 v2 => lbset Hb2.out Hb1.out.size v0 v1 v2))
    | (((with_reducible refine yeW 41 ?_); have HZ0 := lisblk HZ1.out; refine yab (by rfl) (.tmp 34) (.tmp 40) 28 (by rfl) wr.heap.size 3 j0 _ 1 8 underlying28 hj hy0 hy1 hy2 rfl (by decide) (.slice B1 ns1 d1) (ns1) (ints (lsy s1)) (by rfl) (Hown1.out) (As2) (ns2) (cs2) (wr.heap.size) (ints (lsy s2)) (by rfl) (Hrd2.out _ (Hb1.out)) (Hone2.out) (by unfold maxLen; omega) (by omega) (Hb1.out.size) (ns1 + ns2) (rfl) ?_; intro B2 d2 w2 hown2 hgrow2 _; have Hb2 : Hid (Below wr.heap.size wr w2) := qaa (qbo (Hb1.out) hgrow2 (by have := Hb1.out.size; simp; omega) (fun g hg => (Hown1.out.lt g hg).1)); have hS1 := HSof.out w2 Hb2.out; have HZ2 := qaa (Blk.grow' HZ0 hgrow2 (lnot_blk Hown1.out HZ0 (by decide))); have z0 := HZ2.out.cell 0; have z1 := HZ2.out.cell 1; have z2 := HZ2.out.cell 2; have zf0 := HZ2.out.frozen 0; have zf1 := HZ2.out.frozen 1; have zf2 := HZ2.out.frozen 2; have hS2 := fun v0 v1 v2 => HSof.out _ (lbset Hb2.out HG1.out v0 v1 v2); have Hown2 := qaa (show w2.ownsRow wr.heap.size 3 1 (.slice B2 (ns1 + ns2) d2) (ns1 + ns2) (ints (lsy s1) ++ ints (lsy s2)) by simpa using hown2); clear hown2 hgrow2; have hO2 := fun v0 v1 v2 => lown_sets Hown2.out HZ2.out (by decide) v0 v1 v2; have hBs := fun v0 v1 v2 => lbset Hb2.out HG1.out v0 v1 v2))
    | (((with_reducible refine yeW 41 ?_); refine yab (by rfl) (.tmp 34) (.tmp 40) 28 (by rfl) wr.heap.size 3 j0 _ 1 8 underlying28 hj hy0 hy1 hy2 rfl (by decide) (.slice B1 ns1 d1) (ns1) (ints (lsy s1)) (by rfl) (Hown1.out) (As2) (ns2) (cs2) (wr.heap.size) (ints (lsy s2)) (by rfl) (Hrd2.out _ (Hb1.out)) (Hone2.out) (by unfold maxLen; omega) (by omega) (Hb1.out.size) (ns1 + ns2) (rfl) ?_; intro B2 d2 w2 hown2 hgrow2 _; have Hb2 : Hid (Below wr.heap.size wr w2) := qaa (qbo (Hb1.out) hgrow2 (by have := Hb1.out.size; simp; omega) (fun g hg => (Hown1.out.lt g hg).1)); have hS1 := HSof.out w2 Hb2.out; have Hown2 := qaa (show w2.ownsRow wr.heap.size 3 1 (.slice B2 (ns1 + ns2) d2) (ns1 + ns2) (ints (lsy s1) ++ ints (lsy s2)) by simpa using hown2); clear hown2 hgrow2))
    | fail)
   all_goals go_wp2_with (go_at_call 188; refine (Hput.out _ _ _ (by first | exact Hb2.out.alloc Hb2.out.size _ | exact hBs _ _ _) (by first | exact Hown2.out.alloc _ | exact hO2 _ _ _)).mono ?_; rintro e w5 ⟨A5, c5, rfl, hc5, hR5, hb5⟩; have Hc5 := qaa hc5; have HR5 := qaa hR5; have Hb5 := qaa hb5; clear hc5 hR5 hb5)
   all_goals go_roundw
   all_goals (first | exact ⟨k + 2, p + 1, c5, A5, _, by omega, by omega, Hc5.out, rfl, iv (by omega), Hf2.out, HR5.out, Hb5.out⟩ | (simp only [intOf]; omega))
  ·have hf := Hf.out
   rw [lpacks_few R k (by have := En.out; omega)] at hf
   have hf2 : Rp = T1 := hf
   subst hf2
   have hnk : (n : Int) ≤ (k : Int) + 1 := by omega
   have HT2 : Hid ((leaves.drop 0).foldl lput Rp = T2) := HT
   have hp0 : p ≤ 10001 := by omega
   clear hf Hf
   go_wp2
   go_loopw [5, 8] (fun v i W => ∃ (q p2 cp2 : Nat) (Ap2 : Option Addr) (Rp2 : List LTh), q ≤ m ∧ p2 ≤ 10001 + q ∧ p2 ≤ cp2 ∧ v = .slice Ap2 p2 cp2 ∧ i = .int .i64 q ∧ Hid ((leaves.drop q).foldl lput Rp2 = T2) ∧ Hid (LHRow W W.heap.size ok Ap2 p2 Rp2) ∧ Hid (Below w.heap.size w W)) (fun _ i _ => m - (intOf i).toNat)
   case atStart => exact ⟨0, p, cp, Ap, Rp, by omega, by omega, hpc, rfl, rfl, HT2.out, HRp.out, Hb.out⟩
   case round =>
    obtain ⟨q, p2, cp2, Ap2, Rp2, hq, hp2, hpc2, rfl, rfl, Hf, HR2, Hb2⟩ := hrel
    by_cases hlq : q < m
    ·have hqi : (0 : Int) ≤ (q : Int) ∧ (q : Int) < m := by omega
     have hql : q < leaves.length := by rw [Em.out]; exact hlq
     obtain ⟨b, off, As, cs, rfl, hb, hcs, hrs, hcell⟩ := HLcell.out q hql
     obtain ⟨x1, x2, x3⟩ := hcell _ Hb2.out
     have hf := Hf.out
     rw [qa3 hql, List.foldl_cons] at hf
     have Hf2 := qaa hf
     have hput := fun W (hb4 : Below w.heap.size w W) (hR4 : LHRow W W.heap.size ok Ap2 p2 Rp2) => yc7 ok Rp2 leaves[q] Ap2 As p2 cp2 cs W (by omega) hpc2 (fun b hb2 => hok b (qa7 hb4.size hb2)) hR4 hcs ⟨(hrs.1.below hb4).more hb4.size, hrs.2⟩
     have Hput := qaa hput
     clear hcell hrs hf hput Hf
     generalize leaves[q] = y at *
     generalize hns : y.syms.length = ns at *
     generalize hyw : y.w = yw at *
     generalize hyl : y.leaf = yl at *
     go_wp2_with (go_at_call 188; refine (Hput.out _ Hb2.out HR2.out).mono ?_; rintro e w5 ⟨A5, c5, rfl, hc5, hR5, hb5⟩; have Hc5 := qaa hc5; have HR5 := qaa hR5; have Hb5 := qaa (Hb2.out.trans (hb5.mono Hb2.out.size)); clear hc5 hR5 hb5)
     go_roundw
     case rel => exact ⟨q + 1, p2 + 1, c5, A5, _, by omega, by omega, Hc5.out, rfl, iv (by omega), Hf2.out, HR5.out, Hb5.out⟩
     case measure => simp only [intOf]; omega
    ·obtain rfl : q = m := by omega
     have hf := Hf.out
     rw [qaJ (by rw [Em.out]; exact qaf _)] at hf
     have hf2 : Rp2 = T2 := hf
     subst hf2
     have hlen := HR2.out.1
     subst hlen
     clear hf Hf
     go_wp2
     go_ret
     exact ⟨Ap2, cp2, rfl, hpc2, HR2.out, Hb2.out⟩
def yeu (l : List Int) : Bool := l.all fun c => decide (0 ≤ c) && decide (c ≤ 1000000)
theorem yfM {l : List Int} (h : yeu l = true) (i : Nat) (hi : i < l.length) : 0 ≤ l[i] ∧ l[i] ≤ 1000000 := by
 unfold yeu at h
 rw [qby] at h
 simpa using h l[i] (qam hi)
theorem cgood_of {l : List Int} (h : ∀ i (hi : i < l.length), 0 ≤ l[i] ∧ l[i] ≤ 1000000) : yeu l = true := by
 unfold yeu
 rw [qby]
 intro x hx
 obtain ⟨i, hi, rfl⟩ := qaI hx
 simpa using h i hi
def yb1 (counts : List Int) (most : Int) : List Int × Int :=
 if 257 < counts.length then ([], 3) else if most < 1 ∨ 15 < most then ([], 2) else if yeu counts = true then
  (if 2 ^ most.toNat < (yaa counts).length then ([], 3) else (yav counts most.toNat, 0)) else ([], 2)
theorem ycm (counts : List Int) : (yaa counts).length ≤ counts.length := by
 have h1 := yd0 counts (fun _ => 1)
 rw [ycW] at h1
 have h2 : ∀ (l : List Int) (i : Nat), isum (fun _ c => if 0 < c then 1 else 0) i l ≤ l.length := by
  intro l
  induction l with
  | nil => intro i; simp [isum]
  | cons c t ih =>
   intro i
   have := ih (i + 1)
   simp only [isum, qau]
   split <;> omega
 have := h2 counts 0
 omega
theorem ydl {leaves : List LTh} (hl : yaF leaves) : ∀ k, (lrow leaves k).length ≤ 2 * leaves.length
 | 0 => by show leaves.length ≤ _; omega
 | k + 1 => by
  have := ydl hl k
  rw [yfr hl k]
  omega
theorem lpacks_all {P Q : LTh → Prop} (h : ∀ a b, P a → P b → Q (ybx a b)) : ∀ R : List LTh, (∀ x ∈ R, P x) → ∀ x ∈ yam R, Q x
 | [], _, x, hx => by cases hx
 | [_], _, x, hx => by cases hx
 | a :: b :: t, hp, x, hx => by
  rcases qa9.1 hx with rfl | hx
  ·exact h a b (hp a (by simp)) (hp b (by simp))
  ·exact lpacks_all h t (fun y hy => hp y (by simp [hy])) x hx
def LFits (n k : Nat) (x : LTh) : Prop := x.syms.length ≤ 2 ^ k ∧ 0 ≤ x.w ∧ x.w ≤ ((2 ^ k : Nat) : Int) * 1000000 ∧ ∀ s ∈ x.syms, s < n
theorem yeg (counts : List Int) (hg : yeu counts = true) : ∀ k, ∀ x ∈ lrow (yaa counts) k, LFits counts.length k x
 | 0, x, h => by
  obtain ⟨j, hj, hp, rfl⟩ := (yas counts x).1 h
  have := yfM hg j hj
  refine ⟨by simp, by show 0 ≤ counts[j]; omega, by show counts[j] ≤ _; simp; omega, fun s hs => ?_⟩
  have : s = j := by simpa using hs
  omega
 | k + 1, x, h => by
  have hl := yaM counts
  have hr := ybu hl k
  have ih := yeg counts hg k
  have h2 : (2 ^ (k + 1) : Nat) = 2 ^ k + 2 ^ k := by rw [qaO]; omega
  have hp1 : 0 < (2 ^ k : Nat) := qbu (by omega)
  cases hx : x.leaf with
  | true =>
   have h0 : x ∈ yaa counts := by rw [← hr.lv]; exact qaS.2 ⟨h, hx⟩
   obtain ⟨j, hj, hp, rfl⟩ := (yas counts x).1 h0
   have := yfM hg j hj
   refine ⟨by show 1 ≤ _; omega, by show 0 ≤ counts[j]; omega, ?_, fun s hs => ?_⟩
   ·show counts[j] ≤ _
    have : (1 : Int) * 1000000 ≤ ((2 ^ (k + 1) : Nat) : Int) * 1000000 := qca (by omega) (by omega)
    omega
   ·have : s = j := by simpa using hs
    omega
  | false =>
   refine lpacks_all (P := LFits counts.length k) ?_ (lrow (yaa counts) k) ih x (by rw [← hr.pk]; exact qaS.2 ⟨h, by simp [hx]⟩)
   rintro a b ⟨a1, a2, a3, a4⟩ ⟨b1, b2, b3, b4⟩
   refine ⟨?_, ?_, ?_, ?_⟩
   ·show (a.syms ++ b.syms).length ≤ _
    rw [qae]
    omega
   ·show 0 ≤ a.w + b.w
    omega
   ·show a.w + b.w ≤ _
    rw [h2, qbz, Int.add_mul]
    omega
   ·intro s hs
    rcases qbf.1 (show s ∈ a.syms ++ b.syms from hs) with hs | hs
    ·exact a4 s hs
    ·exact b4 s hs
def lout (n : Nat) (f : Nat → Int) : List Int := (List.range n).map f
theorem ycY (n : Nat) (f : Nat → Int) : (lout n f).length = n := by simp [lout]
theorem yeh (n : Nat) (f : Nat → Int) (s : Nat) (h : s < n) : (lout n f)[s]? = some (f s) := by simp [lout, h]
theorem lout_set (n : Nat) (f g : Nat → Int) (s : Nat) (v : Int) (hs : g s = v) (ho : ∀ t, t ≠ s → g t = f t) : (lout n f).set s v = lout n g := by
 apply qcx
 intro t
 by_cases ht : t < n
 ·rw [List.getElem?_set, yeh n f t ht, yeh n g t ht, ycY]
  by_cases e : s = t
  ·subst e
   rw [qah rfl, qah ht, hs]
  ·rw [qag e, ho t (fun h => e h.symm)]
 ·rw [qbp (by rw [qbO, ycY]; omega), qbp (by rw [ycY]; omega)]
theorem ybB (n : Nat) (f g : Nat → Int) (h : ∀ t, t < n → f t = g t) : lout n f = lout n g := by
 unfold lout
 exact List.map_congr_left fun t ht => h t (qbk.1 ht)
def lfar (R : List LTh) (i k s : Nat) : Int := lsum (lhas s) (R.take i) + ((((R[i]?).map (·.syms)).getD []).take k).count s
theorem ydT (R : List LTh) (i s : Nat) : lfar R i 0 s = lsum (lhas s) (R.take i) := by simp [lfar]
theorem lfar_step (R : List LTh) (i k s : Nat) (hi : i < R.length) (hk : k < R[i].syms.length) : lfar R i (k + 1) s = lfar R i k s + if s = R[i].syms[k] then 1 else 0 := by
 unfold lfar
 rw [qan hi]
 simp only [qb8, qcc]
 rw [qao hk, List.count_append, List.count_singleton]
 by_cases e : s = R[i].syms[k]
 ·rw [qah e, qah (by simp [e])]; omega
 ·rw [qag e, qag (by simpa using fun h => e h.symm)]; omega
theorem lfar_end (R : List LTh) (i s : Nat) (hi : i < R.length) : lfar R i R[i].syms.length s = lsum (lhas s) (R.take (i + 1)) := by
 unfold lfar
 rw [qan hi]
 simp only [qb8, qcc, qbK]
 rw [qao hi, ycg]
 simp [lsum, lhas]
theorem yd7 (counts : List Int) (most : Nat) (h : (yaa counts).length ≠ 1) : yav counts most = lout counts.length (fun s => lsum (lhas s) (ltaken counts most)) := by
 unfold yav
 rw [qag h]
 rfl
theorem lbestL_one (counts : List Int) (most s : Nat) (h : (yaa counts).length = 1) (hs : ((yaa counts)[0]'(by omega)).syms = [s]) : s < counts.length ∧ (lout counts.length (fun _ => 0)).set s 1 = yav counts most := by
 obtain ⟨j, hj, hp, e⟩ := (yas counts _).1 (qam (show 0 < (yaa counts).length by omega))
 have hjs : j = s := by
  rw [e] at hs
  simpa using hs
 subst hjs
 refine ⟨hj, ?_⟩
 rw [lout_set counts.length (fun _ => 0) (fun t => if t = j then 1 else 0) j 1 (by simp) (fun t ht => qag ht)]
 unfold yav
 rw [qah h]
 apply qbR
 ·simp [lout]
 ·intro t h1 h2
  have ht : t < counts.length := by simpa using h2
  simp only [lout, qbB, List.getElem_range]
  by_cases e2 : t = j
  ·subst e2
   rw [qah rfl, qah hp]
  ·rw [qag e2, qag ?_]
   intro hp2
   obtain ⟨r, hr, e3⟩ := qaI ((yas counts ⟨counts[t], [t], true⟩).2 ⟨t, ht, hp2, rfl⟩)
   obtain rfl : r = 0 := by omega
   rw [e] at e3
   injection e3 with _ e4 _
   injection e4 with e4 _
   exact e2 e4.symm
theorem yeN (f : Nat → Int) : ∀ (counts l : List Int) (i : Nat), l.length = counts.length → (∀ j (hl : j < l.length), l[j] = f (i + j)) → (∀ j (hl : j < l.length) (hc : j < counts.length), 0 < l[j] ↔ 0 < counts[j]) →
  (yax l : Int) = isum (fun j c => if 0 < c then ((2 ^ (15 - (f j).toNat) : Nat) : Int) else 0) i counts
 | [], [], i, _, _, _ => rfl
 | [], y :: l, i, h, _, _ => by simp at h
 | c :: t, [], i, h, _, _ => by simp at h
 | c :: t, y :: l, i, h, hf, hp => by
  have ih := yeN f t l (i + 1) (by simpa using h) (fun j hl => by
   have := hf (j + 1) (by simpa using hl)
   rw [show i + (j + 1) = i + 1 + j from by omega] at this
   simpa using this) (fun j hl hc => hp (j + 1) (by simpa using hl) (by simpa using hc))
  have h0 := hf 0 (by simp)
  have p0 := hp 0 (by simp) (by simp)
  simp only [List.getElem_cons_zero, qbr] at h0 p0
  show (((if 0 < y then 2 ^ (15 - y.toNat) else 0) + yax l : Nat) : Int) = (if 0 < c then ((2 ^ (15 - (f i).toNat) : Nat) : Int) else 0) + isum _ (i + 1) t
  rw [qbz, ih, ← h0]
  by_cases hc : 0 < c
  ·rw [qah hc, qah (p0.2 hc)]
  ·rw [qag hc, qag (fun h => hc (p0.1 h))]
   rfl
theorem usedF_isum : ∀ (counts l : List Int) (i : Nat), l.length = counts.length → (∀ j (hl : j < l.length) (hc : j < counts.length), 0 < l[j] ↔ 0 < counts[j]) →
  (yaq l : Int) = isum (fun _ c => if 0 < c then 1 else 0) i counts
 | [], [], i, _, _ => rfl
 | [], y :: l, i, h, _ => by simp at h
 | c :: t, [], i, h, _ => by simp at h
 | c :: t, y :: l, i, h, hp => by
  have ih := usedF_isum t l (i + 1) (by simpa using h) (fun j hl hc => hp (j + 1) (by simpa using hl) (by simpa using hc))
  have p0 := hp 0 (by simp) (by simp)
  simp only [List.getElem_cons_zero] at p0
  have e : yaq (y :: l) = (if 0 < y then 1 else 0) + yaq l := by
   unfold yaq
   rw [qaG]
   by_cases h : 0 < y
   ·rw [qah (by simpa using h), qah h, qau]; omega
   ·rw [qag (by simpa using h), qag h]; omega
  show (yaq (y :: l) : Int) = (if 0 < c then 1 else 0) + isum _ (i + 1) t
  rw [e, qbz, ih]
  by_cases hc : 0 < c
  ·rw [qah hc, qah (p0.2 hc)]; rfl
  ·rw [qag hc, qag (fun h => hc (p0.1 h))]; rfl
theorem isum_mul (a : Int) (g : Nat → Int → Int) : ∀ (l : List Int) (i : Nat), isum (fun j c => a * g j c) i l = a * isum g i l
 | [], _ => by simp [isum]
 | c :: t, i => by
  have ih := isum_mul a g t (i + 1)
  simp only [isum, ih, Int.mul_add]
theorem ydU (counts : List Int) (i : Nat) : isum (fun _ c => if 0 < c then 1 else 0) i counts = ((yaa counts).length : Int) := by
 have h := yd0 counts (fun _ => 1)
 rw [ycW] at h
 have e : ∀ (l : List Int) (i j : Nat), isum (fun _ c => if 0 < c then (1 : Int) else 0) i l = isum (fun _ c => if 0 < c then 1 else 0) j l := by
  intro l
  induction l with
  | nil => intro i j; rfl
  | cons c t ih => intro i j; simp only [isum]; rw [ih (i + 1) (j + 1)]
 rw [e counts i 0]
 exact h.symm
theorem lpow_split (L : Nat) (hL : L ≤ 15) (x : Nat) (hx : x ≤ L) : (2 ^ (15 - x) : Nat) = 2 ^ (15 - L) * 2 ^ (L - x) := by
 rw [← qcd]
 congr 1
 omega
theorem lpow_all (L : Nat) (hL : L ≤ 15) : (32768 : Nat) = 2 ^ (15 - L) * 2 ^ L := by
 rw [← qcd, show 15 - L + L = 15 from by omega]
section
variable {counts : List Int} {L : Nat}
theorem ybD (h : (yaa counts).length ≠ 1) (j : Nat) (hj : j < (yav counts L).length) : (yav counts L)[j] = llen counts L j := by
 have e : yav counts L = lout counts.length (fun s => llen counts L s) := by rw [yd7 counts L h]; rfl
 have h2 : (yav counts L)[j]? = some (llen counts L j) := by
  rw [e, yeh _ _ _ (by rw [ydf] at hj; exact hj)]
 rw [qan hj] at h2
 injection h2
theorem ybO (h : (yaa counts).length = 1) (j : Nat) (hj : j < (yav counts L).length) : (yav counts L)[j] = if 0 < counts[j]'(by rw [ydf] at hj; exact hj) then 1 else 0 := by
 have e : yav counts L = counts.map (fun c => if 0 < c then 1 else 0) := by unfold yav; rw [qah h]
 simp only [e, qbB]
structure LGoodB (counts l : List Int) (L : Nat) : Prop where
 len : l.length = counts.length
 pos : ∀ j (hl : j < l.length) (hc : j < counts.length), 0 < l[j] ↔ 0 < counts[j]
 rng : ∀ j (hl : j < l.length), 0 ≤ l[j] ∧ l[j] ≤ L
 falls : ∀ i j (hi : i < l.length) (hj : j < l.length) (hi' : i < counts.length) (hj' : j < counts.length), counts[j] < counts[i] → 0 < counts[j] → l[i] ≤ l[j]
theorem ygy (hL : 1 ≤ L ∧ L ≤ 15) (hg : yeu counts = true) (hm : (yaa counts).length ≤ 2 ^ L) : LGoodB counts (yav counts L) L := by
 have hlen := ydf counts L
 obtain ⟨k, rfl⟩ : ∃ k, L = k + 1 := ⟨L - 1, by omega⟩
 by_cases h1 : (yaa counts).length = 1
 ·refine ⟨hlen, fun j hl hc => ?_, fun j hl => ?_, fun i j hi hj hi' hj' hlt h0 => ?_⟩
  ·rw [ybO h1 j hl]
   by_cases h : 0 < counts[j]
   ·rw [qah h]; simp [h]
   ·rw [qag h]; simp [h]
  ·rw [ybO h1 j hl]
   split <;> omega
  ·rw [ybO h1 i hi, ybO h1 j hj, qah (show 0 < counts[i] by omega), qah h0]
   exact qc2 _
 ·by_cases h2 : 2 ≤ (yaa counts).length
  ·refine ⟨hlen, fun j hl hc => ?_, fun j hl => ?_, fun i j hi hj hi' hj' hlt h0 => ?_⟩
   ·rw [ybD h1 j hl]
    constructor
    ·intro h
     rcases Int.lt_or_le 0 counts[j] with e | e
     ·exact e
     ·have := yfE (counts := counts) (k + 1) j fun _ => e
      omega
    ·intro h
     have := (ygw h2 hm j hc h).1
     omega
   ·rw [ybD h1 j hl]
    have hc : j < counts.length := by omega
    rcases Int.lt_or_le 0 counts[j] with e | e
    ·have := ygw h2 hm j hc e
     omega
    ·have := yfE (counts := counts) (k + 1) j fun _ => e
     omega
   ·rw [ybD h1 i hi, ybD h1 j hj]
    exact llen_falls h2 hm i j hi' hj' hlt h0
  ·have hno : ∀ j (hj : j < counts.length), ¬ 0 < counts[j] := fun j hj hp => by
    have := (yas counts ⟨counts[j], [j], true⟩).2 ⟨j, hj, hp, rfl⟩
    have := List.length_pos_of_mem this
    omega
   have hz : ∀ j (hj : j < (yav counts (k + 1)).length), (yav counts (k + 1))[j] = 0 := fun j hj => by
    rw [ybD h1 j hj]
    exact yfE (counts := counts) (k + 1) j fun hs => by have := hno j hs; omega
   refine ⟨hlen, fun j hl hc => ?_, fun j hl => ?_, fun i j hi hj hi' hj' hlt h0 => absurd h0 (hno j hj')⟩
   ·rw [hz j hl]
    have := hno j hc
    omega
   ·rw [hz j hl]; omega
theorem lbestL_check (hL : 1 ≤ L ∧ L ≤ 15) (hg : yeu counts = true) (hm : (yaa counts).length ≤ 2 ^ L) (hn : counts.length ≤ 257) : ycr (yav counts L) = 0 := by
 have hG := ygy hL hg hm
 have hused := usedF_isum counts (yav counts L) 0 hG.len hG.pos
 rw [ydU] at hused
 have hu2 := yeF (yav counts L)
 have hlg : ydq (yav counts L) = true := lgood_of fun i hi => by have := hG.rng i hi; omega
 unfold ycr
 rw [qag (by rw [hG.len]; omega), qah hlg]
 obtain ⟨k, rfl⟩ : ∃ k, L = k + 1 := ⟨L - 1, by omega⟩
 by_cases h1 : (yaa counts).length = 1
 ·have hp := yeN (fun j => (yav counts (k + 1))[j]?.getD 0) counts (yav counts (k + 1)) 0 hG.len (fun j hl => by rw [qaE, qan hl]; rfl) hG.pos
  rw [yeO (h := fun j c => 16384 * (if 0 < c then 1 else 0)) counts 0 fun j hj => ?_, isum_mul, ydU, h1] at hp
  ·have hfu : yfi (yaq (yav counts (k + 1))) = 16384 := by
    unfold yfi
    rw [qag (by omega), qah (by omega)]
   rw [hfu, qah (by omega)]
  ·have hj2 : j < (yav counts (k + 1)).length := by rw [hG.len]; exact hj
   rw [qaE]
   by_cases h0 : 0 < counts[j]
   ·rw [qah h0, qah h0, qan hj2, ybO h1 j hj2, qah h0]
    decide
   ·rw [qag h0, qag h0]; decide
 ·by_cases h2 : 2 ≤ (yaa counts).length
  ·have hp := yeN (fun j => llen counts (k + 1) j) counts (yav counts (k + 1)) 0 hG.len (fun j hl => by rw [qaE]; exact ybD h1 j hl) hG.pos
   rw [yeO (h := fun j c => ((2 ^ (15 - (k + 1)) : Nat) : Int) * (if 0 < c then ((2 ^ (k + 1 - (llen counts (k + 1) j).toNat) : Nat) : Int) else 0)) counts 0 fun j hj => ?_, isum_mul, llen_full h2 hm] at hp
   ·have h3 := lpow_all (k + 1) hL.2
    have h4 : (yax (yav counts (k + 1)) : Int) = 32768 := by rw [hp, ← qcw, ← h3]; rfl
    have hfu : yfi (yaq (yav counts (k + 1))) = 32768 := by
     unfold yfi
     rw [qag (by omega), qag (by omega)]
    rw [hfu, qah h4]
   ·rw [qaE]
    by_cases h0 : 0 < counts[j]
    ·rw [qah h0, qah h0]
     have := ygw h2 hm j hj h0
     rw [lpow_split (k + 1) hL.2 (llen counts (k + 1) j).toNat (by omega), qcw]
    ·rw [qag h0, qag h0, Int.mul_zero]
  ·have hfu : yfi (yaq (yav counts (k + 1))) = 0 := by
    unfold yfi
    rw [qah (by omega)]
   rw [hfu, qah (by omega)]
end
def ya4 (l : List Int) : List Int := (List.range 257).map fun s : Nat => ((l.count (s : Int) : Nat) : Int)
theorem yat (l : List Int) : (ya4 l).length = 257 := by unfold ya4; rw [qaN, qaL]
theorem ybh (l : List Int) (s : Nat) (h : s < (ya4 l).length) : (ya4 l)[s] = ((l.count (s : Int) : Nat) : Int) := by
 have e : (ya4 l)[s]? = some ((l.count (s : Int) : Nat) : Int) := by
  unfold ya4
  rw [List.getElem?_map, List.getElem?_range (by rw [yat] at h; exact h)]
  rfl
 rw [qan h] at e
 injection e
theorem hcount_nil : ya4 [] = List.replicate 257 0 := by
 apply qbR
 ·rw [yat, qaY]
 ·intro i h1 h2
  rw [ybh, qck]
  rfl
theorem hcount_snoc (l : List Int) (x : Int) (h0 : 0 ≤ x) (h1 : x ≤ 256) : ya4 (l ++ [x]) = (ya4 l).set x.toNat ((ya4 l)[x.toNat]'(by rw [yat]; omega) + 1) := by
 apply qbR
 ·rw [qbO, yat, yat]
 ·intro i h2 h3
  rw [ybh, List.getElem_set, List.count_append, List.count_singleton]
  by_cases e : x.toNat = i
  ·have e2 : x = (i : Int) := by omega
   have e3 : (x == (i : Int)) = true := by rw [beq_iff_eq]; exact e2
   rw [qah e, ybh, qah e3, e]
   omega
  ·have e3 : ¬ (x == (i : Int)) = true := by rw [beq_iff_eq]; omega
   rw [qag e, ybh, qag e3, qbr]
def hin (l : List Int) : Bool := l.all fun x => decide (0 ≤ x) && decide (x ≤ 256)
theorem hin_get {l : List Int} (h : hin l = true) : ∀ x ∈ l, 0 ≤ x ∧ x ≤ 256 := by
 intro x hx
 unfold hin at h
 rw [qby] at h
 simpa using h x hx
theorem hin_of {l : List Int} (h : ∀ x ∈ l, 0 ≤ x ∧ x ≤ 256) : hin l = true := by
 unfold hin
 rw [qby]
 intro x hx
 simpa using h x hx
def hcF (l : List Int) : List Int × Int := if 100000 < l.length then ([], 3) else if hin l = true then (ya4 l, 0) else ([], 70)
theorem hc_ok {l : List Int} (h : (hcF l).2 = 0) : l.length ≤ 100000 ∧ hin l = true ∧ hcF l = (ya4 l, 0) := by
 unfold hcF at h ⊢
 by_cases h1 : 100000 < l.length
 ·rw [qah h1] at h; cases h
 ·rw [qag h1] at h ⊢
  by_cases h2 : hin l = true
  ·rw [qah h2]
   exact ⟨by omega, h2, rfl⟩
  ·rw [qag h2] at h; cases h
theorem hc_bad {l : List Int} (h : (hcF l).2 ≠ 0) : (hcF l).1 = [] := by
 unfold hcF at h ⊢
 by_cases h1 : 100000 < l.length
 ·rw [qah h1]
 ·rw [qag h1] at h ⊢
  by_cases h2 : hin l = true
  ·rw [qah h2] at h; exact absurd rfl h
  ·rw [qag h2]
theorem ydG {l : List Int} (h : l.length ≤ 100000) : yeu (ya4 l) = true := cgood_of fun i hi => by
 rw [ybh]
 have := List.count_le_length (a := (i : Int)) (l := l)
 omega
def hL (l : List Int) : List Int := yav (ya4 l) 15
theorem ydx (l : List Int) : (hL l).length = 257 := by unfold hL; rw [ydf, yat]
theorem hleaves (l : List Int) : (yaa (ya4 l)).length ≤ 2 ^ 15 := by
 have := ycm (ya4 l)
 rw [yat] at this
 have : (257 : Nat) ≤ 2 ^ 15 := by decide
 omega
theorem hbest {l : List Int} (h : l.length ≤ 100000) : yb1 (ya4 l) 15 = (hL l, 0) := by
 have := hleaves l
 unfold yb1
 rw [qag (by rw [yat]; decide), qag (by omega), qah (ydG h), qag (by show ¬ 2 ^ 15 < _; omega)]
 rfl
theorem hL_good {l : List Int} (h : l.length ≤ 100000) : LGoodB (ya4 l) (hL l) 15 := ygy ⟨by omega, by omega⟩ (ydG h) (hleaves l)
theorem ycn {l : List Int} (h : l.length ≤ 100000) : ya6 (hL l) = 0 := by
 rw [← lcheck_ref]
 exact lbestL_check ⟨by omega, by omega⟩ (ydG h) (hleaves l) (by rw [yat]; omega)
def hws (l : List Int) : List (Int × Int) := wat ((hL l).map Int.toNat) 16 0
theorem hL_word {l : List Int} (h : l.length ≤ 100000) (hi : hin l = true) : ∀ s ∈ l, (yaD (hws l) s).2 = 0 := by
 intro s hs
 obtain ⟨s0, s1⟩ := hin_get hi s hs
 obtain ⟨k, rfl⟩ := qaK s0
 have hk : k < (hL l).length := by rw [ydx]; omega
 have hkc : k < (ya4 l).length := by rw [yat]; omega
 have hp := ((hL_good h).pos k hk hkc).2 (by
  rw [ybh]
  have := List.count_pos_iff.2 hs
  omega)
 unfold hws
 have hk2 : k < ((hL l).map Int.toNat).length := by rw [qaN]; exact hk
 rw [cword_is (cnat15 (ydP (ycn h)).2) k hk2 (by rw [qbB]; omega)]
def hB (l : List Int) : List Nat := ya3 (hL l) ++ ybs (hws l) l
theorem hfit (l : List Int) (h : l.length ≤ 100000) : ∀ f ∈ hws l, fits f.1 f.2 := by
 have := cwords_fit (hL l)
 rw [cwords_ok (ycn h)] at this
 exact this
theorem hB_bin {l : List Int} (h : l.length ≤ 100000) : Bin (hB l) := (tbits_bin _).app (cbits_bin (hfit l h) l)
theorem ydc {ws : List (Int × Int)} (hf : ∀ f ∈ ws, fits f.1 f.2) : ∀ sy : List Int, (ybs ws sy).length ≤ 32 * sy.length
 | [] => qaf _
 | s :: t => by
  have h1 := (ydF hf s).1
  have h2 := ydc hf t
  rw [ydh, qae, qau]
  omega
theorem ye2 (l : List Int) : (ya3 (hL l)).length ≤ 17219 := by
 have := tbits_len (hL l) (by rw [ydx]; omega)
 rw [ydx] at this
 omega
theorem hB_len {l : List Int} (h : l.length ≤ 100000) : (hB l).length ≤ 17219 + 32 * l.length := by
 have h1 := ye2 l
 have h2 := ydc (hfit l h) l
 unfold hB
 rw [qae]
 omega
def hencF (l : List Int) : List UInt8 × Int := if (hcF l).2 = 0 then (text (hB l), 0) else ([], (hcF l).2)
end Go.Proofs.YtanjhbkbpalnaaaGreat
