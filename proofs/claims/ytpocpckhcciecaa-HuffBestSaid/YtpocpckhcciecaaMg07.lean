/-
  What the law of the last of these texts stands on, part 7.
-/
import Derived.Test.YtpocpckhcciecaaRows
import Derived.Test.YtpocpckhcciecaaMg01
import Derived.Test.YtpocpckhcciecaaMg02
import Derived.Test.YtpocpckhcciecaaMg03
import Derived.Test.YtpocpckhcciecaaMg04
import Derived.Test.YtpocpckhcciecaaMg05
import Derived.Test.YtpocpckhcciecaaMg06
import Derived.Deep.RegionWith
import Derived.WalkKit
import Derived.WalkSpells
import Derived.WalkLawsBesides
import Derived.ProofKit
import Derived.OpenShut
import Derived.Handy
import Derived.SizedLaws
import Derived.JoinedOf
import Derived.KernelRfl
import Derived.Lib.Hide
import Derived.Lib.SmallJoins
import Derived.Deep.Slices
import Derived.Deep.Fields
import Derived.Deep.SlicePairs
import Derived.Deep.Draws
import Derived.Deep.AppendLies
import Derived.Deep.QuietTactic
import Derived.BigQuiet
import Derived.Deep.RegionHeld3
import Derived.StillTailTactics
import Derived.Laws.OwnMore
import Derived.Laws.Rows
import Derived.Below
import Derived.Carry
import Derived.WalkMore
import Derived.Laws.BytesString
import Derived.Laws.BitsLemmas
import Derived.Laws.Concat
import Derived.Deep.Upon
import Derived.Deep.RegionLaw
namespace Go.Proofs.Ytpocpckhcciecaa
set_option linter.unusedSimpArgs false
set_option linter.unusedVariables false
open Go.ChangeShapes Go.WideShapes Go.ChangeAt Go.RowKit Go.Joins Go.Deep
/-- Where a thing is put. -/
theorem lput_at (x : LTh) (R : List LTh) : ∃ j, j ≤ R.length ∧ lput R x = R.take j ++ x :: R.drop j ∧ (∀ k (hk : k < R.length), k < j → lle R[k] x = true) ∧ ∀ hj : j < R.length, lle R[j] x = false := by
  obtain ⟨r1, r2, h1, h2, h3, h4⟩ := lput_split x R
  refine ⟨r1.length, by rw [h1, List.length_append]; omega, ?_, ?_, ?_⟩
  · rw [h2, h1, List.take_left' rfl, List.drop_left' rfl]
  · intro k hk hlt
    have e : R[k] = r1[k] := by simp only [h1]; exact List.getElem_append_left hlt
    rw [e]
    exact h3 _ (List.getElem_mem hlt)
  · intro hj
    cases r2 with
    | nil => rw [h1, List.append_nil] at hj; omega
    | cons y t =>
      have e : R[r1.length] = y := by simp only [h1]; rw [List.getElem_append_right (Nat.le_refl _)]; simp
      rw [e]
      exact h4 y t rfl
theorem lslice_head {P : Program} {t e : TypeId} {i : TypeInfo} {size : Nat} (ht : P.underlying t = some (.slice e)) (hi : P.info? e = some i) (hs : i.size = size) (A : Option Addr) (n c k : Nat) (hk : k ≤ c) (w : World) :
    (Instr.slice t (.slice A n c) none (some (.int .i64 (k : Int))) none).run P w = .ok (.slice A k c) w := by
  have he : P.elem t = e := by simp [Program.elem, ht]
  rw [run_slice_h w t A n c (by rw [he]; exact ht) .i64 k (by omega) (by omega), he]
  simp [sizeOf, typeInfo, hi, hs, sliced]
  cases A with
  | none => simp
  | some a => simp [Addr.add]
section
variable {w wr : World} {B : Nat}
theorem lb1 (h : Below w.heap.size w wr) (d : Nat) (o : Obj) : Below w.heap.size w ((wr.drewN d).alloc o) := (below_drewN h d).alloc h.size o
theorem lb2 (h : Below w.heap.size w wr) (d : Nat) (o o2 : Obj) : Below w.heap.size w (((wr.drewN d).alloc o).alloc o2) := (lb1 h d o).alloc (by have := h.size; simp; omega) o2
theorem lblk3 (wr : World) (d : Nat) (o : Obj) (t : TypeId) (cs : Array Value) : Blk (((wr.drewN d).alloc o).alloc (.cells cs t)) (wr.heap.size + 1) t cs := by
  have := Blk.new ((wr.drewN d).alloc o) t cs
  simpa using this
theorem lblk2 (wr : World) (d : Nat) (o : Obj) (t : TypeId) (cs : Array Value) : Blk (((wr.drewN d).alloc (.cells cs t)).alloc o) wr.heap.size t cs := (Blk.new (wr.drewN d) t cs).alloc o
theorem lblk_reads {W : World} {g size : Nat} {t : TypeId} {cs : Array Value} (h : Blk W g t cs) (hn : cs.size = size) : Reads W W.heap.size size (some ⟨g, 0, none⟩) 1 cs.toList := by
  refine ⟨by simp [hn], fun _ => ⟨g, 0, rfl, h.lt, fun j u hu => ?_⟩⟩
  rw [Nat.zero_add, h.cell]
  simpa using hu
/-- A row that was made with nothing in it. -/
theorem lown_empty {W : World} {g B size : Nat} {e : TypeId} (h : Blk W g e #[]) (hb : B ≤ g) : W.ownsRow B e size (.slice (some ⟨g, 0, none⟩) 0 0) 0 [] :=
  ⟨by simp, Or.inr ⟨g, 0, #[], rfl, hb, h, Nat.le_refl _, by unfold maxLen; omega, by simp, by simp⟩⟩
end
section
variable {P : Program} {op : Op} {ty : TypeId} {pos : String} {af : Array Edge} {gd : Option (Nat × Bool)} {ys : Nat → Option Bool} {a : Act} {K : Act → World → Prop} {Q : Exit → Act → World → Prop} {E : Prop}
/-- Which operation it is, and in which order the blocks were laid. -/
theorem lguard (d : Nat) {w : World} (h : if Region.wanted ⟨some d, op, ty, pos, af, gd⟩ ys = true then Oper.wp P ⟨some d, op, ty, pos, af, gd⟩ a w K Q else E) : if Region.wanted ⟨some d, op, ty, pos, af, gd⟩ ys = true then Oper.wp P ⟨some d, op, ty, pos, af, gd⟩ a w K Q else E := h
theorem lguard1 (d : Nat) (wr : World) {n : Nat} {o : Obj} (h : if Region.wanted ⟨some d, op, ty, pos, af, gd⟩ ys = true then Oper.wp P ⟨some d, op, ty, pos, af, gd⟩ a ((wr.drewN n).alloc o) K Q else E) : if Region.wanted ⟨some d, op, ty, pos, af, gd⟩ ys = true then Oper.wp P ⟨some d, op, ty, pos, af, gd⟩ a ((wr.drewN n).alloc o) K Q else E := h
theorem lguard2 (d : Nat) (wr : World) (cs : Array Value) {n : Nat} {t : TypeId} {o : Obj} (h : if Region.wanted ⟨some d, op, ty, pos, af, gd⟩ ys = true then Oper.wp P ⟨some d, op, ty, pos, af, gd⟩ a (((wr.drewN n).alloc (.cells cs t)).alloc o) K Q else E) : if Region.wanted ⟨some d, op, ty, pos, af, gd⟩ ys = true then Oper.wp P ⟨some d, op, ty, pos, af, gd⟩ a (((wr.drewN n).alloc (.cells cs t)).alloc o) K Q else E := h
theorem lguard3 (d : Nat) (wr : World) {o : Obj} (h : if Region.wanted ⟨some d, op, ty, pos, af, gd⟩ ys = true then Oper.wp P ⟨some d, op, ty, pos, af, gd⟩ a (wr.alloc o) K Q else E) : if Region.wanted ⟨some d, op, ty, pos, af, gd⟩ ys = true then Oper.wp P ⟨some d, op, ty, pos, af, gd⟩ a (wr.alloc o) K Q else E := h
end
set_option maxRecDepth 100000 in
set_option maxHeartbeats 40000000 in
theorem lref_put_any (ok : Nat → Prop) (R : List LTh) (x : LTh) (A As : Option Addr) (n c cs : Nat) (w : World) (hm : n ≤ 100000) (hc : n ≤ c) (hok : ∀ b, w.heap.size ≤ b → ok b) (hR : LHRow w w.heap.size ok A n R) (hcs : x.syms.length ≤ cs) (hS : Reads w w.heap.size 1 As x.syms.length (ints (lsy x.syms)) ∧ LOk ok As x.syms.length) :
    Calls Try.prog 84 #[.slice A n c, .agg #[.int .i64 x.w, .slice As x.syms.length cs, .bool x.leaf]] w fun e w' => ∃ A' c', e = .returned (.slice A' (n + 1) c') ∧ n + 1 ≤ c' ∧ LHRow w' w'.heap.size ok A' (n + 1) (lput R x) ∧ Below w.heap.size w w' := by
  obtain ⟨en, hoA, xs, hrx, hmx⟩ := hR
  obtain ⟨i0, hi, hz0, hz1, hz2⟩ := info_parts lthing_info
  obtain ⟨j, hj, hput, hpass, hstop⟩ := lput_at x R
  have Hcell : Hid (∀ k (hk : k < R.length), ∃ b off, A = some ⟨b, off, none⟩ ∧ b < w.heap.size ∧ ∀ W, Below w.heap.size w W → W.cell? ⟨b, off + k * 3, none⟩ = some (.int .i64 R[k].w) ∧ W.cell? ⟨b, off + k * 3 + 2, none⟩ = some (.bool R[k].leaf)) := Lib.hid fun k hk => by
    obtain ⟨As2, cs2, h1, h2, h3, _, _⟩ := hmx.at k hk
    obtain ⟨b, off, e, hb, hcell⟩ := hrx.2 (by omega)
    refine ⟨b, off, e, hb, fun W hW => ⟨?_, ?_⟩⟩
    · exact (hW.cell (p := ⟨b, off + k * 3, none⟩) hb).trans (hcell _ _ h1)
    · exact (hW.cell (p := ⟨b, off + k * 3 + 2, none⟩) hb).trans (by rw [Nat.add_assoc]; exact hcell _ _ h3)
  have Hpass := Lib.hid hpass
  have Hstop := Lib.hid hstop
  have hjn : (j : Int) ≤ n := by omega
  have En := Lib.hid en
  have Hrx := Lib.hid hrx
  have Hmx := Lib.hid hmx
  have HS := Lib.hid hS
  have hlf := x.leaf
  clear hrx hmx hS hpass hstop
  obtain ⟨xw, hxw⟩ : ∃ xw, x.w = xw := ⟨_, rfl⟩
  obtain ⟨xl, hxl⟩ : ∃ xl, x.leaf = xl := ⟨_, rfl⟩
  obtain ⟨ns, hns⟩ : ∃ ns, x.syms.length = ns := ⟨_, rfl⟩
  rw [hxw, hxl, hns]
  have HX := Lib.hid (And.intro hxw (And.intro hxl hns))
  clear hxw hxl hns
  go_enter Try.func84, Try.ntmps84
  go_wp2
  go_loopw [5] (fun i wr => ∃ k : Nat, k ≤ j ∧ i = .int .i64 k ∧ Hid (Below w.heap.size w wr) ∧ Hid (Blk wr w.heap.size 105 #[.int .i64 xw, .slice As ns cs, .bool xl])) (fun i _ => j - (intOf i).toNat)
  case atStart => exact ⟨0, by omega, rfl, Lib.hid ((Below.refl _ _).alloc (Nat.le_refl _) _), Blk.new w _ _⟩
  case round =>
    obtain ⟨k, hk, rfl, Hb, HB⟩ := hrel
    have q0 : wr.cell? ⟨w.heap.size, 0, none⟩ = some (.int .i64 xw) := HB.out.cell 0
    have q1 : wr.cell? ⟨w.heap.size, 1, none⟩ = some (.slice As ns cs) := HB.out.cell 1
    have q2 : wr.cell? ⟨w.heap.size, 2, none⟩ = some (.bool xl) := HB.out.cell 2
    by_cases hlt : k < j
    · have hkl : k < R.length := by omega
      obtain ⟨b, off, rfl, hb, hcell⟩ := Hcell.out k hkl
      obtain ⟨hx1, hx2⟩ := hcell wr Hb.out
      have hp := Hpass.out k hkl hlt
      rw [lle_iff, HX.out.1, HX.out.2.1] at hp
      have hki : (0 : Int) ≤ (k : Int) ∧ (k : Int) < n := by omega
      generalize R[k].w = yw at *
      generalize R[k].leaf = yl at *
      by_cases h1 : yw < xw
      · go_wp2
        go_quiet (fail)
        go_wp2
        go_roundw
        case rel => exact ⟨k + 1, by omega, iv (by omega), below_drewN Hb.out _, HB.out.drewN _⟩
        case measure => simp only [intOf]; omega
      · rcases hp with hp | ⟨hp, hp2⟩
        · exact absurd hp h1
        · subst hp
          have hbe : (yw == yw) = true := by simp
          have hlt0 : ¬ yw < yw := by omega
          clear h1
          cases yl with
          | true =>
            go_wp2
            go_quiet (fail)
            go_wp2
            go_roundw
            case rel => exact ⟨k + 1, by omega, iv (by omega), below_drewN Hb.out _, HB.out.drewN _⟩
            case measure => simp only [intOf]; omega
          | false =>
            rcases hp2 with hp2 | hp2
            · cases hp2
            · subst hp2
              go_wp2
              go_quiet (fail)
              go_wp2
              go_roundw
              case rel => exact ⟨k + 1, by omega, iv (by omega), below_drewN Hb.out _, HB.out.drewN _⟩
              case measure => simp only [intOf]; omega
    · obtain rfl : k = j := by omega
      have hki : (0 : Int) ≤ (k : Int) ∧ (k : Int) ≤ c ∧ (k : Int) ≤ n ∧ (n : Int) ≤ 100000 := by omega
      have hk5 : k ≤ 100000 ∧ n - k ≤ 100000 := by omega
      have hsl1 := fun W => lslice_head (P := Try.prog) Try.underlying102 hi hz1 A n c k (by omega) W
      have hsl2 := fun W => run_slice_from (P := Try.prog) Try.underlying102 hi hz1 A n c k (by omega) W
      obtain ⟨Ad, hAd⟩ : ∃ Ad, (if c = k then A else A.map (·.add (k * 3))) = Ad := ⟨_, rfl⟩
      rw [hAd] at hsl2
      have Hone1 : Hid (∀ u ∈ xs.take (k * 3), u.oneCell' = true) := Lib.hid fun u hu => Hmx.out.one u (List.mem_of_mem_take hu)
      have Hone3 : Hid (∀ u ∈ xs.drop (k * 3), u.oneCell' = true) := Lib.hid fun u hu => Hmx.out.one u (List.mem_of_mem_drop hu)
      have Hone2 : Hid (∀ u ∈ [Value.int .i64 xw, .slice As ns cs, .bool xl], u.oneCell' = true) := Lib.hid fun u hu => by
        simp only [List.mem_cons, List.not_mem_nil, or_false] at hu
        rcases hu with rfl | rfl | rfl <;> rfl
      have Hrd1 : Hid (∀ W, Below wr.heap.size wr W → Reads W w.heap.size 3 A k (xs.take (k * 3))) := Lib.hid fun W hW => (Hrx.out.front3 (by omega) (by decide)).below (Hb.out.trans (hW.mono Hb.out.size))
      have Hrd3 : Hid (∀ W, Below wr.heap.size wr W → Reads W w.heap.size 3 Ad (n - k) (xs.drop (k * 3))) := Lib.hid fun W hW => by
        rw [← hAd]
        exact (Hrx.out.cut (by omega) (by omega)).below (Hb.out.trans (hW.mono Hb.out.size))
      have HSof : Hid (∀ W, Below wr.heap.size wr W → W.cell? ⟨w.heap.size, 0, none⟩ = some (.int .i64 xw) ∧ W.cell? ⟨w.heap.size, 1, none⟩ = some (.slice As ns cs) ∧ W.cell? ⟨w.heap.size, 2, none⟩ = some (.bool xl)) := Lib.hid fun W hW => ⟨(hW.cell (p := ⟨w.heap.size, 0, none⟩) HB.out.lt).trans q0, (hW.cell (p := ⟨w.heap.size, 1, none⟩) HB.out.lt).trans q1, (hW.cell (p := ⟨w.heap.size, 2, none⟩) HB.out.lt).trans q2⟩
      have Hfin : Hid (∀ A3 c3 w3, w3.ownsRow wr.heap.size 105 3 (.slice A3 (n + 1) c3) (n + 1) ((xs.take (k * 3) ++ [.int .i64 xw, .slice As ns cs, .bool xl]) ++ xs.drop (k * 3)) → Below wr.heap.size wr w3 → n + 1 ≤ c3 ∧ LHRow w3 w3.heap.size ok A3 (n + 1) (lput R x) ∧ Below w.heap.size w w3) := Lib.hid fun A3 c3 w3 ho hb => by
        have hbw := Hb.out.trans (hb.mono Hb.out.size)
        obtain ⟨A4, c4, e4, hc4, hr4⟩ := owns_cells ho
        injection e4 with e5 _ e6
        subst e5
        subst e6
        have hm0 : LMem w w.heap.size ok xs (R.take k ++ R.drop k) := by rw [List.take_append_drop]; exact Hmx.out
        obtain ⟨h1, h2⟩ := hm0.parts
        rw [List.length_take, Nat.min_eq_left hj] at h1 h2
        obtain ⟨e7, e8, e9⟩ := HX.out
        refine ⟨hc4, ⟨by rw [hput, List.length_append, List.length_cons, List.length_take, List.length_drop]; omega, lok_own ho (fun b hb2 => hok b (Nat.le_trans Hb.out.size hb2)), _, hr4, ?_⟩, hbw⟩
        rw [hput, List.append_assoc]
        have h3 : LMem w w.heap.size ok ([.int .i64 xw, .slice As ns cs, .bool xl] ++ xs.drop (k * 3)) (x :: R.drop k) := ⟨As, ns, cs, xs.drop (k * 3), by rw [e7, e8]; rfl, e9.symm, by rw [← e9]; exact hcs, by rw [← e9]; exact HS.out, h2⟩
        exact ((h1.app h3).below hbw).more hbw.size
      by_cases hkn : k < n
      · have hkl : k < R.length := by omega
        have hki2 : (k : Int) < (n : Int) := by omega
        obtain ⟨b, off, rfl, hb, hcell⟩ := Hcell.out k hkl
        obtain ⟨hx1, hx2⟩ := hcell wr Hb.out
        have hst : ¬ lle R[k] x = true := by rw [Hstop.out hkl]; decide
        rw [lle_iff, HX.out.1, HX.out.2.1] at hst
        clear hcell
        generalize R[k].w = yw at *
        generalize R[k].leaf = yl at *
        have h1 : ¬ yw < xw := fun h => hst (Or.inl h)
        by_cases h2 : yw = xw
        · have hbe : (yw == xw) = true := by simpa using h2
          have hyl : yl = false := by
            cases yl with
            | false => rfl
            | true => exact absurd (Or.inr ⟨h2, Or.inl rfl⟩) hst
          have hxl : xl = true := by
            cases xl with
            | true => rfl
            | false => exact absurd (Or.inr ⟨h2, Or.inr rfl⟩) hst
          subst hyl
          subst hxl
          clear hst
          go_wp2
          go_quiet (fail)
          go_wp2
          go_region_held3 (fun w' => w'.cell? ⟨w.heap.size, 0, none⟩ = some (.int .i64 xw) ∧ w'.cell? ⟨w.heap.size, 1, none⟩ = some (.slice As ns cs) ∧ w'.cell? ⟨w.heap.size, 2, none⟩ = some (.bool true)) (first | go_keep | exact hS1) (first
            | (((with_reducible refine lguard1 48 wr ?_); refine lstep_append (by rfl) (.tmp 44) (.tmp 47) 102 (by rfl) wr.heap.size 105 i0 _ 3 40 Try.underlying102 hi hz0 hz1 hz2 rfl (by decide) (.slice (some ⟨wr.heap.size, 0, none⟩) 0 0) (0) ([]) (by rfl) (lown_empty (Blk.new _ _ _) (by omega)) (some ⟨b, off, none⟩) (k) (c) (w.heap.size) (xs.take (k * 3)) (by rfl) (Hrd1.out _ (lb1 (Below.refl _ _) _ _)) (Hone1.out) (by unfold maxLen; omega) (by omega) (by simp) (k) (Nat.zero_add k) ?_; intro A1 c1 w1 hown1 hgrow1 _; have Hb1 : Hid (Below wr.heap.size wr w1) := Lib.hid (Below.grown (lb1 (Below.refl _ _) _ _) hgrow1 (by simp) (fun g hg => by injection hg with hg; simp at hg; omega)); have hS1 := HSof.out w1 Hb1.out; have Hown1 := Lib.hid (show w1.ownsRow wr.heap.size 105 3 (.slice A1 k c1) k (xs.take (k * 3)) by simpa using hown1); clear hown1 hgrow1))
            | (((with_reducible refine lguard2 48 wr #[] ?_); refine lstep_append (by rfl) (.tmp 44) (.tmp 47) 102 (by rfl) wr.heap.size 105 i0 _ 3 40 Try.underlying102 hi hz0 hz1 hz2 rfl (by decide) (.slice (some ⟨wr.heap.size, 0, none⟩) 0 0) (0) ([]) (by rfl) (lown_empty ((Blk.new _ _ _).alloc _) (by omega)) (some ⟨b, off, none⟩) (k) (c) (w.heap.size) (xs.take (k * 3)) (by rfl) (Hrd1.out _ (lb2 (Below.refl _ _) _ _ _)) (Hone1.out) (by unfold maxLen; omega) (by omega) (by simp; omega) (k) (Nat.zero_add k) ?_; intro A1 c1 w1 hown1 hgrow1 _; have Hb1 : Hid (Below wr.heap.size wr w1) := Lib.hid (Below.grown (lb2 (Below.refl _ _) _ _ _) hgrow1 (by simp; omega) (fun g hg => by injection hg with hg; simp at hg; omega)); have hS1 := HSof.out w1 Hb1.out; have HX1 : Hid (Blk w1 (wr.heap.size + 1) 105 #[.int .i64 xw, .slice As ns cs, .bool true]) := Lib.hid (Blk.grow' (lblk3 wr _ _ _ _) hgrow1 (by intro h; injection h with h; simp at h)); have Hown1 := Lib.hid (show w1.ownsRow wr.heap.size 105 3 (.slice A1 k c1) k (xs.take (k * 3)) by simpa using hown1); clear hown1 hgrow1))
            | (((with_reducible refine lguard2 48 wr #[.int .i64 xw, .slice As ns cs, .bool true] ?_); refine lstep_append (by rfl) (.tmp 44) (.tmp 47) 102 (by rfl) wr.heap.size 105 i0 _ 3 40 Try.underlying102 hi hz0 hz1 hz2 rfl (by decide) (.slice (some ⟨wr.heap.size + 1, 0, none⟩) 0 0) (0) ([]) (by rfl) (lown_empty (lblk3 _ _ _ _ _) (by omega)) (some ⟨b, off, none⟩) (k) (c) (w.heap.size) (xs.take (k * 3)) (by rfl) (Hrd1.out _ (lb2 (Below.refl _ _) _ _ _)) (Hone1.out) (by unfold maxLen; omega) (by omega) (by simp; omega) (k) (Nat.zero_add k) ?_; intro A1 c1 w1 hown1 hgrow1 _; have Hb1 : Hid (Below wr.heap.size wr w1) := Lib.hid (Below.grown (lb2 (Below.refl _ _) _ _ _) hgrow1 (by simp; omega) (fun g hg => by injection hg with hg; simp at hg; omega)); have hS1 := HSof.out w1 Hb1.out; have HX1 : Hid (Blk w1 (wr.heap.size) 105 #[.int .i64 xw, .slice As ns cs, .bool true]) := Lib.hid (Blk.grow' (lblk2 wr _ _ _ _) hgrow1 (by intro h; injection h with h; simp at h)); have Hown1 := Lib.hid (show w1.ownsRow wr.heap.size 105 3 (.slice A1 k c1) k (xs.take (k * 3)) by simpa using hown1); clear hown1 hgrow1))
            | (((with_reducible refine lguard3 51 w1 ?_); refine lstep_append (by rfl) (.tmp 48) (.tmp 50) 102 (by rfl) wr.heap.size 105 i0 _ 3 40 Try.underlying102 hi hz0 hz1 hz2 rfl (by decide) (.slice A1 k c1) (k) (xs.take (k * 3)) (by rfl) (Hown1.out.alloc _) (some ⟨w1.heap.size, 0, none⟩) (1) (1) (_) ([.int .i64 xw, .slice As ns cs, .bool true]) (by rfl) (lblk_reads (Blk.new _ _ _) rfl) (Hone2.out) (by unfold maxLen; omega) (by omega) (by have := Hb1.out.size; simp; omega) (k + 1) (rfl) ?_; intro A2 c2 w2 hown2 hgrow2 _; have Hb2 : Hid (Below wr.heap.size wr w2) := Lib.hid (Below.grown (Hb1.out.alloc Hb1.out.size _) hgrow2 (by have := Hb1.out.size; simp; omega) (fun g hg => (Hown1.out.lt g hg).1)); have hS1 := HSof.out w2 Hb2.out; have Hown2 := Lib.hid (show w2.ownsRow wr.heap.size 105 3 (.slice A2 (k + 1) c2) (k + 1) (xs.take (k * 3) ++ [.int .i64 xw, .slice As ns cs, .bool true]) by simpa using hown2); clear hown2 hgrow2))
            | (((with_reducible refine lguard 51 ?_); refine lstep_append (by rfl) (.tmp 48) (.tmp 50) 102 (by rfl) wr.heap.size 105 i0 _ 3 40 Try.underlying102 hi hz0 hz1 hz2 rfl (by decide) (.slice A1 k c1) (k) (xs.take (k * 3)) (by rfl) (Hown1.out) (some ⟨_, 0, none⟩) (1) (1) (_) ([.int .i64 xw, .slice As ns cs, .bool true]) (by rfl) (lblk_reads HX1.out rfl) (Hone2.out) (by unfold maxLen; omega) (by omega) (Hb1.out.size) (k + 1) (rfl) ?_; intro A2 c2 w2 hown2 hgrow2 _; have Hb2 : Hid (Below wr.heap.size wr w2) := Lib.hid (Below.grown (Hb1.out) hgrow2 (by have := Hb1.out.size; simp; omega) (fun g hg => (Hown1.out.lt g hg).1)); have hS1 := HSof.out w2 Hb2.out; have Hown2 := Lib.hid (show w2.ownsRow wr.heap.size 105 3 (.slice A2 (k + 1) c2) (k + 1) (xs.take (k * 3) ++ [.int .i64 xw, .slice As ns cs, .bool true]) by simpa using hown2); clear hown2 hgrow2))
            | (((with_reducible refine lguard 55 ?_); refine lstep_append (by rfl) (.tmp 51) (.tmp 54) 102 (by rfl) wr.heap.size 105 i0 _ 3 40 Try.underlying102 hi hz0 hz1 hz2 rfl (by decide) (.slice A2 (k + 1) c2) (k + 1) (xs.take (k * 3) ++ [.int .i64 xw, .slice As ns cs, .bool true]) (by rfl) (Hown2.out) (Ad) (n - k) (c - k) (w.heap.size) (xs.drop (k * 3)) (by rfl) (Hrd3.out _ Hb2.out) (Hone3.out) (by unfold maxLen; omega) (by omega) (Hb2.out.size) (n + 1) (by omega) ?_; intro A3 c3 w3 hown3 hgrow3 _; have Hb3 : Hid (Below wr.heap.size wr w3) := Lib.hid (Below.grown Hb2.out hgrow3 Hb2.out.size (fun g hg => (Hown2.out.lt g hg).1)); have hS1 := HSof.out w3 Hb3.out; have Hown3 := Lib.hid hown3; clear hown3 hgrow3)))
          all_goals go_wp2
          all_goals go_ret
          all_goals (obtain ⟨f1, f2, f3⟩ := Hfin.out _ _ _ Hown3.out Hb3.out; exact ⟨A3, c3, rfl, f1, f2, f3⟩)
        · have hbe : (yw == xw) = false := by simpa using h2
          have h4 : decide (yw < xw) = false := by simpa using h1
          clear hst h1 h2
          go_wp2
          go_quiet (fail)
          go_wp2
          go_region_held3 (fun w' => w'.cell? ⟨w.heap.size, 0, none⟩ = some (.int .i64 xw) ∧ w'.cell? ⟨w.heap.size, 1, none⟩ = some (.slice As ns cs) ∧ w'.cell? ⟨w.heap.size, 2, none⟩ = some (.bool xl)) (first | go_keep | exact hS1) (first
            | (((with_reducible refine lguard1 48 wr ?_); refine lstep_append (by rfl) (.tmp 44) (.tmp 47) 102 (by rfl) wr.heap.size 105 i0 _ 3 40 Try.underlying102 hi hz0 hz1 hz2 rfl (by decide) (.slice (some ⟨wr.heap.size, 0, none⟩) 0 0) (0) ([]) (by rfl) (lown_empty (Blk.new _ _ _) (by omega)) (some ⟨b, off, none⟩) (k) (c) (w.heap.size) (xs.take (k * 3)) (by rfl) (Hrd1.out _ (lb1 (Below.refl _ _) _ _)) (Hone1.out) (by unfold maxLen; omega) (by omega) (by simp) (k) (Nat.zero_add k) ?_; intro A1 c1 w1 hown1 hgrow1 _; have Hb1 : Hid (Below wr.heap.size wr w1) := Lib.hid (Below.grown (lb1 (Below.refl _ _) _ _) hgrow1 (by simp) (fun g hg => by injection hg with hg; simp at hg; omega)); have hS1 := HSof.out w1 Hb1.out; have Hown1 := Lib.hid (show w1.ownsRow wr.heap.size 105 3 (.slice A1 k c1) k (xs.take (k * 3)) by simpa using hown1); clear hown1 hgrow1))
            | (((with_reducible refine lguard2 48 wr #[] ?_); refine lstep_append (by rfl) (.tmp 44) (.tmp 47) 102 (by rfl) wr.heap.size 105 i0 _ 3 40 Try.underlying102 hi hz0 hz1 hz2 rfl (by decide) (.slice (some ⟨wr.heap.size, 0, none⟩) 0 0) (0) ([]) (by rfl) (lown_empty ((Blk.new _ _ _).alloc _) (by omega)) (some ⟨b, off, none⟩) (k) (c) (w.heap.size) (xs.take (k * 3)) (by rfl) (Hrd1.out _ (lb2 (Below.refl _ _) _ _ _)) (Hone1.out) (by unfold maxLen; omega) (by omega) (by simp; omega) (k) (Nat.zero_add k) ?_; intro A1 c1 w1 hown1 hgrow1 _; have Hb1 : Hid (Below wr.heap.size wr w1) := Lib.hid (Below.grown (lb2 (Below.refl _ _) _ _ _) hgrow1 (by simp; omega) (fun g hg => by injection hg with hg; simp at hg; omega)); have hS1 := HSof.out w1 Hb1.out; have HX1 : Hid (Blk w1 (wr.heap.size + 1) 105 #[.int .i64 xw, .slice As ns cs, .bool xl]) := Lib.hid (Blk.grow' (lblk3 wr _ _ _ _) hgrow1 (by intro h; injection h with h; simp at h)); have Hown1 := Lib.hid (show w1.ownsRow wr.heap.size 105 3 (.slice A1 k c1) k (xs.take (k * 3)) by simpa using hown1); clear hown1 hgrow1))
            | (((with_reducible refine lguard2 48 wr #[.int .i64 xw, .slice As ns cs, .bool xl] ?_); refine lstep_append (by rfl) (.tmp 44) (.tmp 47) 102 (by rfl) wr.heap.size 105 i0 _ 3 40 Try.underlying102 hi hz0 hz1 hz2 rfl (by decide) (.slice (some ⟨wr.heap.size + 1, 0, none⟩) 0 0) (0) ([]) (by rfl) (lown_empty (lblk3 _ _ _ _ _) (by omega)) (some ⟨b, off, none⟩) (k) (c) (w.heap.size) (xs.take (k * 3)) (by rfl) (Hrd1.out _ (lb2 (Below.refl _ _) _ _ _)) (Hone1.out) (by unfold maxLen; omega) (by omega) (by simp; omega) (k) (Nat.zero_add k) ?_; intro A1 c1 w1 hown1 hgrow1 _; have Hb1 : Hid (Below wr.heap.size wr w1) := Lib.hid (Below.grown (lb2 (Below.refl _ _) _ _ _) hgrow1 (by simp; omega) (fun g hg => by injection hg with hg; simp at hg; omega)); have hS1 := HSof.out w1 Hb1.out; have HX1 : Hid (Blk w1 (wr.heap.size) 105 #[.int .i64 xw, .slice As ns cs, .bool xl]) := Lib.hid (Blk.grow' (lblk2 wr _ _ _ _) hgrow1 (by intro h; injection h with h; simp at h)); have Hown1 := Lib.hid (show w1.ownsRow wr.heap.size 105 3 (.slice A1 k c1) k (xs.take (k * 3)) by simpa using hown1); clear hown1 hgrow1))
            | (((with_reducible refine lguard3 51 w1 ?_); refine lstep_append (by rfl) (.tmp 48) (.tmp 50) 102 (by rfl) wr.heap.size 105 i0 _ 3 40 Try.underlying102 hi hz0 hz1 hz2 rfl (by decide) (.slice A1 k c1) (k) (xs.take (k * 3)) (by rfl) (Hown1.out.alloc _) (some ⟨w1.heap.size, 0, none⟩) (1) (1) (_) ([.int .i64 xw, .slice As ns cs, .bool xl]) (by rfl) (lblk_reads (Blk.new _ _ _) rfl) (Hone2.out) (by unfold maxLen; omega) (by omega) (by have := Hb1.out.size; simp; omega) (k + 1) (rfl) ?_; intro A2 c2 w2 hown2 hgrow2 _; have Hb2 : Hid (Below wr.heap.size wr w2) := Lib.hid (Below.grown (Hb1.out.alloc Hb1.out.size _) hgrow2 (by have := Hb1.out.size; simp; omega) (fun g hg => (Hown1.out.lt g hg).1)); have hS1 := HSof.out w2 Hb2.out; have Hown2 := Lib.hid (show w2.ownsRow wr.heap.size 105 3 (.slice A2 (k + 1) c2) (k + 1) (xs.take (k * 3) ++ [.int .i64 xw, .slice As ns cs, .bool xl]) by simpa using hown2); clear hown2 hgrow2))
            | (((with_reducible refine lguard 51 ?_); refine lstep_append (by rfl) (.tmp 48) (.tmp 50) 102 (by rfl) wr.heap.size 105 i0 _ 3 40 Try.underlying102 hi hz0 hz1 hz2 rfl (by decide) (.slice A1 k c1) (k) (xs.take (k * 3)) (by rfl) (Hown1.out) (some ⟨_, 0, none⟩) (1) (1) (_) ([.int .i64 xw, .slice As ns cs, .bool xl]) (by rfl) (lblk_reads HX1.out rfl) (Hone2.out) (by unfold maxLen; omega) (by omega) (Hb1.out.size) (k + 1) (rfl) ?_; intro A2 c2 w2 hown2 hgrow2 _; have Hb2 : Hid (Below wr.heap.size wr w2) := Lib.hid (Below.grown (Hb1.out) hgrow2 (by have := Hb1.out.size; simp; omega) (fun g hg => (Hown1.out.lt g hg).1)); have hS1 := HSof.out w2 Hb2.out; have Hown2 := Lib.hid (show w2.ownsRow wr.heap.size 105 3 (.slice A2 (k + 1) c2) (k + 1) (xs.take (k * 3) ++ [.int .i64 xw, .slice As ns cs, .bool xl]) by simpa using hown2); clear hown2 hgrow2))
            | (((with_reducible refine lguard 55 ?_); refine lstep_append (by rfl) (.tmp 51) (.tmp 54) 102 (by rfl) wr.heap.size 105 i0 _ 3 40 Try.underlying102 hi hz0 hz1 hz2 rfl (by decide) (.slice A2 (k + 1) c2) (k + 1) (xs.take (k * 3) ++ [.int .i64 xw, .slice As ns cs, .bool xl]) (by rfl) (Hown2.out) (Ad) (n - k) (c - k) (w.heap.size) (xs.drop (k * 3)) (by rfl) (Hrd3.out _ Hb2.out) (Hone3.out) (by unfold maxLen; omega) (by omega) (Hb2.out.size) (n + 1) (by omega) ?_; intro A3 c3 w3 hown3 hgrow3 _; have Hb3 : Hid (Below wr.heap.size wr w3) := Lib.hid (Below.grown Hb2.out hgrow3 Hb2.out.size (fun g hg => (Hown2.out.lt g hg).1)); have hS1 := HSof.out w3 Hb3.out; have Hown3 := Lib.hid hown3; clear hown3 hgrow3)))
          all_goals go_wp2
          all_goals go_ret
          all_goals (obtain ⟨f1, f2, f3⟩ := Hfin.out _ _ _ Hown3.out Hb3.out; exact ⟨A3, c3, rfl, f1, f2, f3⟩)
      · have hkn2 : ¬ (k : Int) < (n : Int) := by omega
        go_wp2
        go_quiet (fail)
        go_wp2
        go_region_held3 (fun w' => w'.cell? ⟨w.heap.size, 0, none⟩ = some (.int .i64 xw) ∧ w'.cell? ⟨w.heap.size, 1, none⟩ = some (.slice As ns cs) ∧ w'.cell? ⟨w.heap.size, 2, none⟩ = some (.bool xl)) (first | go_keep | exact hS1) (first
          | (((with_reducible refine lguard1 48 wr ?_); refine lstep_append (by rfl) (.tmp 44) (.tmp 47) 102 (by rfl) wr.heap.size 105 i0 _ 3 40 Try.underlying102 hi hz0 hz1 hz2 rfl (by decide) (.slice (some ⟨wr.heap.size, 0, none⟩) 0 0) (0) ([]) (by rfl) (lown_empty (Blk.new _ _ _) (by omega)) (A) (k) (c) (w.heap.size) (xs.take (k * 3)) (by rfl) (Hrd1.out _ (lb1 (Below.refl _ _) _ _)) (Hone1.out) (by unfold maxLen; omega) (by omega) (by simp) (k) (Nat.zero_add k) ?_; intro A1 c1 w1 hown1 hgrow1 _; have Hb1 : Hid (Below wr.heap.size wr w1) := Lib.hid (Below.grown (lb1 (Below.refl _ _) _ _) hgrow1 (by simp) (fun g hg => by injection hg with hg; simp at hg; omega)); have hS1 := HSof.out w1 Hb1.out; have Hown1 := Lib.hid (show w1.ownsRow wr.heap.size 105 3 (.slice A1 k c1) k (xs.take (k * 3)) by simpa using hown1); clear hown1 hgrow1))
          | (((with_reducible refine lguard2 48 wr #[] ?_); refine lstep_append (by rfl) (.tmp 44) (.tmp 47) 102 (by rfl) wr.heap.size 105 i0 _ 3 40 Try.underlying102 hi hz0 hz1 hz2 rfl (by decide) (.slice (some ⟨wr.heap.size, 0, none⟩) 0 0) (0) ([]) (by rfl) (lown_empty ((Blk.new _ _ _).alloc _) (by omega)) (A) (k) (c) (w.heap.size) (xs.take (k * 3)) (by rfl) (Hrd1.out _ (lb2 (Below.refl _ _) _ _ _)) (Hone1.out) (by unfold maxLen; omega) (by omega) (by simp; omega) (k) (Nat.zero_add k) ?_; intro A1 c1 w1 hown1 hgrow1 _; have Hb1 : Hid (Below wr.heap.size wr w1) := Lib.hid (Below.grown (lb2 (Below.refl _ _) _ _ _) hgrow1 (by simp; omega) (fun g hg => by injection hg with hg; simp at hg; omega)); have hS1 := HSof.out w1 Hb1.out; have HX1 : Hid (Blk w1 (wr.heap.size + 1) 105 #[.int .i64 xw, .slice As ns cs, .bool xl]) := Lib.hid (Blk.grow' (lblk3 wr _ _ _ _) hgrow1 (by intro h; injection h with h; simp at h)); have Hown1 := Lib.hid (show w1.ownsRow wr.heap.size 105 3 (.slice A1 k c1) k (xs.take (k * 3)) by simpa using hown1); clear hown1 hgrow1))
          | (((with_reducible refine lguard2 48 wr #[.int .i64 xw, .slice As ns cs, .bool xl] ?_); refine lstep_append (by rfl) (.tmp 44) (.tmp 47) 102 (by rfl) wr.heap.size 105 i0 _ 3 40 Try.underlying102 hi hz0 hz1 hz2 rfl (by decide) (.slice (some ⟨wr.heap.size + 1, 0, none⟩) 0 0) (0) ([]) (by rfl) (lown_empty (lblk3 _ _ _ _ _) (by omega)) (A) (k) (c) (w.heap.size) (xs.take (k * 3)) (by rfl) (Hrd1.out _ (lb2 (Below.refl _ _) _ _ _)) (Hone1.out) (by unfold maxLen; omega) (by omega) (by simp; omega) (k) (Nat.zero_add k) ?_; intro A1 c1 w1 hown1 hgrow1 _; have Hb1 : Hid (Below wr.heap.size wr w1) := Lib.hid (Below.grown (lb2 (Below.refl _ _) _ _ _) hgrow1 (by simp; omega) (fun g hg => by injection hg with hg; simp at hg; omega)); have hS1 := HSof.out w1 Hb1.out; have HX1 : Hid (Blk w1 (wr.heap.size) 105 #[.int .i64 xw, .slice As ns cs, .bool xl]) := Lib.hid (Blk.grow' (lblk2 wr _ _ _ _) hgrow1 (by intro h; injection h with h; simp at h)); have Hown1 := Lib.hid (show w1.ownsRow wr.heap.size 105 3 (.slice A1 k c1) k (xs.take (k * 3)) by simpa using hown1); clear hown1 hgrow1))
          | (((with_reducible refine lguard3 51 w1 ?_); refine lstep_append (by rfl) (.tmp 48) (.tmp 50) 102 (by rfl) wr.heap.size 105 i0 _ 3 40 Try.underlying102 hi hz0 hz1 hz2 rfl (by decide) (.slice A1 k c1) (k) (xs.take (k * 3)) (by rfl) (Hown1.out.alloc _) (some ⟨w1.heap.size, 0, none⟩) (1) (1) (_) ([.int .i64 xw, .slice As ns cs, .bool xl]) (by rfl) (lblk_reads (Blk.new _ _ _) rfl) (Hone2.out) (by unfold maxLen; omega) (by omega) (by have := Hb1.out.size; simp; omega) (k + 1) (rfl) ?_; intro A2 c2 w2 hown2 hgrow2 _; have Hb2 : Hid (Below wr.heap.size wr w2) := Lib.hid (Below.grown (Hb1.out.alloc Hb1.out.size _) hgrow2 (by have := Hb1.out.size; simp; omega) (fun g hg => (Hown1.out.lt g hg).1)); have hS1 := HSof.out w2 Hb2.out; have Hown2 := Lib.hid (show w2.ownsRow wr.heap.size 105 3 (.slice A2 (k + 1) c2) (k + 1) (xs.take (k * 3) ++ [.int .i64 xw, .slice As ns cs, .bool xl]) by simpa using hown2); clear hown2 hgrow2))
          | (((with_reducible refine lguard 51 ?_); refine lstep_append (by rfl) (.tmp 48) (.tmp 50) 102 (by rfl) wr.heap.size 105 i0 _ 3 40 Try.underlying102 hi hz0 hz1 hz2 rfl (by decide) (.slice A1 k c1) (k) (xs.take (k * 3)) (by rfl) (Hown1.out) (some ⟨_, 0, none⟩) (1) (1) (_) ([.int .i64 xw, .slice As ns cs, .bool xl]) (by rfl) (lblk_reads HX1.out rfl) (Hone2.out) (by unfold maxLen; omega) (by omega) (Hb1.out.size) (k + 1) (rfl) ?_; intro A2 c2 w2 hown2 hgrow2 _; have Hb2 : Hid (Below wr.heap.size wr w2) := Lib.hid (Below.grown (Hb1.out) hgrow2 (by have := Hb1.out.size; simp; omega) (fun g hg => (Hown1.out.lt g hg).1)); have hS1 := HSof.out w2 Hb2.out; have Hown2 := Lib.hid (show w2.ownsRow wr.heap.size 105 3 (.slice A2 (k + 1) c2) (k + 1) (xs.take (k * 3) ++ [.int .i64 xw, .slice As ns cs, .bool xl]) by simpa using hown2); clear hown2 hgrow2))
          | (((with_reducible refine lguard 55 ?_); refine lstep_append (by rfl) (.tmp 51) (.tmp 54) 102 (by rfl) wr.heap.size 105 i0 _ 3 40 Try.underlying102 hi hz0 hz1 hz2 rfl (by decide) (.slice A2 (k + 1) c2) (k + 1) (xs.take (k * 3) ++ [.int .i64 xw, .slice As ns cs, .bool xl]) (by rfl) (Hown2.out) (Ad) (n - k) (c - k) (w.heap.size) (xs.drop (k * 3)) (by rfl) (Hrd3.out _ Hb2.out) (Hone3.out) (by unfold maxLen; omega) (by omega) (Hb2.out.size) (n + 1) (by omega) ?_; intro A3 c3 w3 hown3 hgrow3 _; have Hb3 : Hid (Below wr.heap.size wr w3) := Lib.hid (Below.grown Hb2.out hgrow3 Hb2.out.size (fun g hg => (Hown2.out.lt g hg).1)); have hS1 := HSof.out w3 Hb3.out; have Hown3 := Lib.hid hown3; clear hown3 hgrow3)))
        all_goals go_wp2
        all_goals go_ret
        all_goals (obtain ⟨f1, f2, f3⟩ := Hfin.out _ _ _ Hown3.out Hb3.out; exact ⟨A3, c3, rfl, f1, f2, f3⟩)
end Go.Proofs.Ytpocpckhcciecaa
