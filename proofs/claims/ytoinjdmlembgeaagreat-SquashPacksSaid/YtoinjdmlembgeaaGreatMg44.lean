/-
 What the law of the last of these texts stands on, part 44.
-/
import Derived.Test.YtoinjdmlembgeaaGreatMg34
import Derived.Test.YtoinjdmlembgeaaGreatMg43
import Derived.Deep.LoopGhost
namespace Go.Proofs.YtoinjdmlembgeaaGreat
set_option linter.unusedSimpArgs false
set_option linter.unusedVariables false
open Go.ChangeShapes Go.WideShapes Go.ChangeAt Go.RowKit Go.Joins Go.Deep Go.Shelf
def XH (W : World) (s : List UInt8) (gx h : Nat) (row : List Nat) (kd : Nat → Nat) (A : Option Addr) (c g : Nat) : Prop :=
 Blk W gx 114 #[.slice A (s.length + 1) c, .slice (some ⟨g, 0, none⟩) (s.length + 1) (s.length + 1), .int .i64 (h : Int)] ∧ EH W s h row kd A c g
theorem xh_set {N : Nat} {W' : World} {s : List UInt8} {gx h : Nat} {row : List Nat} {kd : Nat → Nat} {A : Option Addr} {c g : Nat} {x y z : Value} (hx : Blk W' gx 114 #[x, y, z]) (hN : EF N A g) (hlt : gx < N) (H : EH W' s h row kd A c g) :
  XH (((W'.setCell ⟨gx, 0, none⟩ (.slice A (s.length + 1) c)).setCell ⟨gx, 1, none⟩ (.slice (some ⟨g, 0, none⟩) (s.length + 1) (s.length + 1))).setCell ⟨gx, 2, none⟩ (.int .i64 (h : Int))) s gx h row kd A c g :=
 ⟨yaU hx, ((H.set hN hlt 0 _).set hN hlt 1 _).set hN hlt 2 _⟩
set_option maxRecDepth 100000 in
set_option maxHeartbeats 4000000 in
theorem p_sarray_any (s : List UInt8) (w : World) (hs : s.length ≤ 1000000) :
  Calls Tryz.prog 35 #[.string ⟨s.toArray⟩] w fun e w' => yfW w w' e (saF s) := by
 have hni : (s.length : Int) ≤ 1000000 := by omega
 by_cases hbig : 20000 < s.length
 ·have hb1 : (20000 : Int) < (s.length : Int) := by omega
  have fin : saF s = ([], 3) := if_pos hbig
  rw [fin]
  clear fin
  go_enter Tryz.func35, Tryz.ntmps35
  go_wp2
  go_ret2
  exact yf9 (Below.refl _ _)
 ·have hb1 : ¬ (20000 : Int) < (s.length : Int) := by omega
  have Fin : Hid (saF s = (splc (sarr s), 0)) := Lib.hid (if_neg hbig)
  have Hs := Lib.hid hs
  have Hfirst := Lib.hid (s_first_any s w hs)
  have Hap := Lib.hid fun h row kd A c g W H => s_apart_any s h row kd A c g W hs H
  have Hnx := Lib.hid fun h row kd A c g W h1 hh H => s_next_any s h row kd A c g W hs h1 hh H
  clear hs hbig
  go_enter Tryz.func35, Tryz.ntmps35
  go_wp2_with (go_at_call 77; refine Hfirst.out.mono ?_; rintro e w1 ⟨A1, c1, g1, row1, kd1, rfl, hN, H1, hb⟩; have HN1 := Lib.hid hN; have HE1 := Lib.hid H1; have Hb1 := Lib.hid hb; clear hN H1 hb)
  have Hst : Hid (∃ h row kd A c g, 1 ≤ h ∧ s.length + 1 ≤ (s.length + 1) + h ∧ XH (w1.alloc (.cells #[.slice A1 (s.length + 1) c1, .slice (some ⟨g1, 0, none⟩) (s.length + 1) (s.length + 1), .int .i64 1] 114)) s w1.heap.size h row kd A c g ∧ Below w1.heap.size w1 (w1.alloc (.cells #[.slice A1 (s.length + 1) c1, .slice (some ⟨g1, 0, none⟩) (s.length + 1) (s.length + 1), .int .i64 1] 114))) :=
   Lib.hid ⟨1, row1, kd1, A1, c1, g1, by omega, by omega, ⟨Blk.new w1 _ _, HE1.out.below ((Below.refl _ _).alloc (Nat.le_refl _) _)⟩, (Below.refl _ _).alloc (Nat.le_refl _) _⟩
  clear Hfirst HE1 HN1
  go_loopg [] (s.length + 1) (fun gk wr => Hid (∃ h row kd A c g, 1 ≤ h ∧ s.length + 1 ≤ gk + h ∧ XH wr s w1.heap.size h row kd A c g ∧ Below w1.heap.size w1 wr))
  case atStart => exact Hst
  case round =>
   obtain ⟨h, row, kd, A, c, g, h1, hgk, hX, hB⟩ := hrel.out
   clear hrel Hst
   have HE := Lib.hid hX.2
   have HX := Lib.hid hX.1
   have HB := Lib.hid hB
   have H1 := Lib.hid h1
   have Hgk := Lib.hid hgk
   generalize hgx : w1.heap.size = gx at *
   have c0 : wr.cell? ⟨gx, 0, none⟩ = some (.slice A (s.length + 1) c) := HX.out.cell 0
   have c1 : wr.cell? ⟨gx, 1, none⟩ = some (.slice (some ⟨g, 0, none⟩) (s.length + 1) (s.length + 1)) := HX.out.cell 1
   have c2 : wr.cell? ⟨gx, 2, none⟩ = some (.int .i64 (h : Int)) := HX.out.cell 2
   have HAp := Lib.hid (Hap.out h row kd A c g wr HE.out)
   clear hX hB h1 hgk
   by_cases hap : kd (row.getD s.length 0) = s.length
   ·have Har := Lib.hid (HE.out.se.apart hap)
    rw [decide_eq_true hap] at HAp
    clear hap Hnx Hap
    go_wp2_with (go_at_call 78; refine HAp.out.mono ?_; rintro e w2 ⟨rfl, hb2⟩; have HX2 := Lib.hid (HX.out.below hb2 HX.out.lt); have HE2 := Lib.hid (HE.out.below hb2); have Hb2 := Lib.hid hb2; have d0 : w2.cell? ⟨gx, 0, none⟩ = some (.slice A (s.length + 1) c) := HX2.out.cell 0; clear hb2)
    go_ret2
    rw [Fin.out, ← Har.out]
    exact yh7 (by rw [yao, HE2.out.se.len]) HE2.out.cap HE2.out.row (Hb1.out.trans ((HB.out.mono (by rw [← hgx]; exact Hb1.out.size)).trans (Hb2.out.mono (by have := HX.out.lt; have := HB.out.size; have := Hb1.out.size; omega))))
   ·have hlt := HE.out.se.more hap
    rw [decide_eq_false hap] at HAp
    have Hlt := Lib.hid hlt
    have Hnxt := Lib.hid fun W H => Hnx.out h row kd A c g W H1.out (by omega) H
    clear hap Hnx Hap hlt
    go_wp2_with (first
     | (go_at_call 78; refine HAp.out.mono ?_; rintro e w2 ⟨rfl, hb2⟩; have HX2 := Lib.hid (HX.out.below hb2 HX.out.lt); have HE2 := Lib.hid (HE.out.below hb2); have Hb2 := Lib.hid hb2; have d0 : w2.cell? ⟨gx, 0, none⟩ = some (.slice A (s.length + 1) c) := HX2.out.cell 0; have d1 : w2.cell? ⟨gx, 1, none⟩ = some (.slice (some ⟨g, 0, none⟩) (s.length + 1) (s.length + 1)) := HX2.out.cell 1; have d2 : w2.cell? ⟨gx, 2, none⟩ = some (.int .i64 (h : Int)) := HX2.out.cell 2; clear hb2)
     | (go_at_call 79; refine (Hnxt.out _ HE2.out).mono ?_; rintro e w3 ⟨A3, c3, g3, row3, kd3, rfl, hN3, hE3, hb3⟩; have HX3 := Lib.hid (HX2.out.below hb3 HX2.out.lt); have HE3 := Lib.hid hE3; have HN3 := Lib.hid hN3; have Hb3 := Lib.hid hb3; have e0 : w3.cell? ⟨gx, 0, none⟩ = some (.slice A (s.length + 1) c) := HX3.out.cell 0; have e1 : w3.cell? ⟨gx, 1, none⟩ = some (.slice (some ⟨g, 0, none⟩) (s.length + 1) (s.length + 1)) := HX3.out.cell 1; have e2 : w3.cell? ⟨gx, 2, none⟩ = some (.int .i64 (h : Int)) := HX3.out.cell 2; have f0 := HX3.out.frozen 0; have f1 := HX3.out.frozen 1; have f2 := HX3.out.frozen 2; clear hE3 hN3 hb3))
    have Hrel : Hid (∃ h' row kd A c g, 1 ≤ h' ∧ s.length + 1 ≤ (gk - 1) + h' ∧ XH (((w3.setCell ⟨gx, 0, none⟩ (.slice A3 (s.length + 1) c3)).setCell ⟨gx, 1, none⟩ (.slice (some ⟨g3, 0, none⟩) (s.length + 1) (s.length + 1))).setCell ⟨gx, 2, none⟩ (.int .i64 ((h + h : Nat) : Int))) s gx h' row kd A c g ∧ Below gx w1 (((w3.setCell ⟨gx, 0, none⟩ (.slice A3 (s.length + 1) c3)).setCell ⟨gx, 1, none⟩ (.slice (some ⟨g3, 0, none⟩) (s.length + 1) (s.length + 1))).setCell ⟨gx, 2, none⟩ (.int .i64 ((h + h : Nat) : Int)))) :=
     Lib.hid ⟨h + h, row3, kd3, A3, c3, g3, by have := H1.out; omega, by have := H1.out; have := Hgk.out; have := Hlt.out; omega, xh_set HX3.out HN3.out HX2.out.lt HE3.out, (((HB.out.trans ((Hb2.out.mono (by have := HX.out.lt; omega)).trans (Hb3.out.mono (by have := HX2.out.lt; omega)))).setCell (p := ⟨gx, 0, none⟩) (Nat.le_refl _) _).setCell (p := ⟨gx, 1, none⟩) (Nat.le_refl _) _).setCell (p := ⟨gx, 2, none⟩) (Nat.le_refl _) _⟩
    go_roundg (gk - 1)
    case rel => exact Hrel
    case measure => have := H1.out; have := Hgk.out; have := Hlt.out; omega
end Go.Proofs.YtoinjdmlembgeaaGreat
namespace Go.Proofs.YtoinjdmlembgeaaGreat
set_option linter.unusedSimpArgs false
set_option linter.unusedVariables false
open Go.ChangeShapes Go.WideShapes Go.ChangeAt Go.RowKit Go.Joins Go.Deep
theorem gmk_broom (z : Int) (N : Nat) (hN : (N : Int) = z) (h : N ≤ 17592186044416) (w : World) :
  (Instr.makeSlice 36 (.int .i64 0) (.int .i64 z)).run Tryz.prog w = .ok (.slice (some ⟨w.heap.size, 0, none⟩) 0 N) (w.alloc (.cells (madeCells #[.int .u8 0] N) 5)) := by
 subst hN
 obtain ⟨i0, hi, hz0, hz1, hz9⟩ := info_parts ydJ
 have := run_make (P := Tryz.prog) w 36 5 i0 (.int .u8 0) Tryz.underlying36 hi hz0 .i64 .i64 0 (N : Int) (by omega) (by omega) (by rw [hz9]; omega) (by omega)
 rw [hz1, Nat.mul_one, Int.toNat_natCast] at this
 exact this
theorem bc_snoc (L : List UInt8) (b : UInt8) : (bc (L ++ [b])).toList = (bc L).toList ++ [.int .u8 (b.toNat : Int)] := by simp [bc]
set_option maxRecDepth 100000 in
set_option maxHeartbeats 2000000 in
theorem p_bforward_any (s : List UInt8) (w : World) (hs : s.length ≤ 1000000) :
  Calls Tryz.prog 18 #[.string ⟨s.toArray⟩] w fun e w' => BPost w w' e (btF s) := by
 obtain ⟨i0, hi, hz0, hz1, hz9⟩ := info_parts ydJ
 have hp := p_sarray_any s w (by omega)
 unfold yfW at hp
 by_cases hbig : 20000 < s.length
 ·rw [saF_no hbig] at hp
  rw [btF_big hbig]
  dsimp only at hp
  have Hp := Lib.hid hp
  clear hp hbig
  go_enter Tryz.func18, Tryz.ntmps18
  go_wp2_with (go_at_call 35; refine Hp.out.mono ?_; rintro e w1 ⟨A1, c1, rfl, _, _, hb1⟩)
  go_ret3
  exact ⟨rfl, hb1⟩
 ·rw [saF_yes hbig] at hp
  rw [btF_yes hbig, ← (ygo s).1, ← (ygo s).2]
  dsimp only at hp
  have hn : (splc (sarr s)).length = s.length + 1 := by rw [yao, yb4]
  rw [hn] at hp
  have Hp := Lib.hid hp
  have hn0 : 0 < s.length + 1 := by omega
  have Hat := Lib.hid (bfw_at s)
  have Hlen := Lib.hid (bpre_len s)
  have Hz : Hid (bpre s 0 = [] ∧ bprk s 0 = 0) := Lib.hid ⟨rfl, if_neg (Nat.not_lt_zero _)⟩
  have hsi : (0 : Int) ≤ (s.length : Int) ∧ (s.length : Int) ≤ 20000 := by omega
  have hmk := fun w => gmk_broom (s.length : Int) s.length rfl (by omega) w
  clear hp hn hbig
  generalize splc (sarr s) = AL at *
  go_enter Tryz.func18, Tryz.ntmps18
  go_wp2_with (go_at_call 35; refine Hp.out.mono ?_; rintro e w1 ⟨A1, c1, rfl, _, hr1, hb1⟩; obtain ⟨bA, oA, rfl, hbA, hcA⟩ := yg5 hr1 hn0; have HcA := Lib.hid hcA; have Hb := Lib.hid hb1; clear hb1 hr1 hbA hcA Hp)
  have HO0 : Hid ((w1.alloc (.cells (madeCells #[.int .u8 0] s.length) 5)).ownsRow w1.heap.size 5 1 (.slice (some ⟨w1.heap.size, 0, none⟩) 0 s.length) 0 (bc []).toList) := Lib.hid (World.ownsRow_made (base := w1.heap.size) (e := 5) (size := 1) w1 (madeCells #[.int .u8 0] s.length) s.length (by omega) (by unfold maxLen; omega) (by rw [size_madeCells, Nat.mul_one]))
  have HB0 := Lib.hid ((Below.refl w1.heap.size w1).alloc (Nat.le_refl _) (.cells (madeCells #[.int .u8 0] s.length) 5))
  clear hmk
  go_loopw [3, 6, 22] (fun pv v iv wr => ∃ (k P m : Nat) (Av : Option Addr) (cv : Nat) (U : List UInt8), k ≤ s.length + 1 ∧ v = .slice Av m cv ∧ pv = .int .i64 (P : Int) ∧ iv = .int .i64 (k : Int) ∧ Hid (bpre s k = U ∧ bprk s k = P ∧ U.length = m) ∧ Hid (wr.ownsRow w1.heap.size 5 1 (.slice Av m cv) m (bc U).toList) ∧ Hid (Below w1.heap.size w1 wr)) (fun _ _ iv _ => s.length + 1 - (intOf iv).toNat)
  case atStart => exact ⟨0, 0, 0, _, _, [], by omega, rfl, rfl, rfl, Lib.hid ⟨Hz.out.1, Hz.out.2, rfl⟩, HO0, HB0⟩
  case round =>
   obtain ⟨k, P, m, Av, cv, U, hk, rfl, rfl, rfl, HU, HO, HB⟩ := hrel
   clear HO0 HB0
   have hki0 : (0 : Int) ≤ (k : Int) ∧ (k : Int) ≤ 20001 := by omega
   by_cases hlt : k < s.length + 1
   ·have hki : (k : Int) < (s.length : Int) + 1 := by omega
    obtain ⟨p, hkl, hp, hpl, h0, h1⟩ := Hat.out k hlt
    have x1 := HcA.out wr HB.out k hkl
    rw [hp] at x1
    by_cases hp0 : p = 0
    ·obtain ⟨e1, e2⟩ := h0 hp0
     have d1 : ((p : Int) == 0) = true := by rw [beq_iff_eq]; omega
     have HU2 : Hid (bpre s (k + 1) = U ∧ bprk s (k + 1) = k ∧ U.length = m) := Lib.hid ⟨e1.trans HU.out.1, e2, HU.out.2.2⟩
     subst hp0
     clear h0 h1 hp hkl e1 e2
     go_wp2
     go_roundw
     case rel => exact ⟨k + 1, k, m, Av, cv, U, by omega, rfl, rfl, iv (by omega), HU2, HO, HB⟩
     case measure => simp only [intOf]; omega
    ·obtain ⟨q, hq⟩ : ∃ q, q + 1 = p := ⟨p - 1, by omega⟩
     obtain ⟨e1, e2⟩ := h1 q hq
     have hlen := Hlen.out k
     rw [HU.out.1, HU.out.2.2] at hlen
     have hql : q < s.length := by omega
     obtain ⟨b, hb⟩ : ∃ b, s[q] = b := ⟨_, rfl⟩
     have b1 : ∀ h, ((⟨s.toArray⟩ : ByteArray)[q]'h) = b := fun _ => hb
     have e3 : (s.drop q).take 1 = [b] := by
      rw [List.drop_eq_getElem_cons hql, hb]
      rfl
     rw [e3, HU.out.1] at e1
     have HU2 : Hid (bpre s (k + 1) = U ++ [b] ∧ bprk s (k + 1) = P ∧ (U ++ [b]).length = m + 1) := Lib.hid ⟨e1, e2.trans HU.out.2.1, by rw [List.length_append, HU.out.2.2]; rfl⟩
     have b2 := b.toNat_lt
     have Hbc := Lib.hid (bc_snoc U b)
     obtain ⟨X, hX⟩ : ∃ X, (b.toNat : Int) = X := ⟨_, rfl⟩
     rw [hX] at Hbc
     have b3 : (0 : Int) ≤ X ∧ X < 256 := by omega
     have d1 : ((p : Int) == 0) = false := by rw [beq_eq_false_iff_ne]; omega
     have hsub : (p : Int) - 1 = (q : Int) := by omega
     have hw1 : IntKind.i64.wrap ((p : Int) - 1) = (q : Int) := by rw [IntKind.wrap_i64]; omega
     have hw2 : IntKind.i64.wrap (q : Int) = (q : Int) := by rw [IntKind.wrap_i64]; omega
     have hpi : (0 : Int) ≤ (q : Int) ∧ (q : Int) < (s.length : Int) := by omega
     have hm9 : m ≤ 20001 := by omega
     clear h0 h1 hp hkl e1 e2 hq hlen hb b2 hql e3
     go_wp2_with (at_builtin; refine yaf _ rfl _ _ 36 rfl w1.heap.size 5 i0 (.int .u8 0) 1 1 Tryz.underlying36 hi hz0 hz1 hz9 rfl (by decide) _ _ _ rfl (HO.out.alloc _) _ 1 1 _ _ rfl (ya1 wr 5 #[.int .u8 X] 1 1 rfl) ?c1 ?c2 ?c3 ?c4 ?_)
     case c1 => exact rfl
     case c2 => unfold maxLen; omega
     case c3 => omega
     case c4 => first | omega | (have := HB.out.size; simp; omega)
     intro v2 w2 hown2 hgrow hsep
     have HB2 : Hid (Below w1.heap.size w1 w2) := Lib.hid ((HB.out.trans ((Below.refl _ _).alloc HB.out.size _)).grown hgrow (by have := HB.out.size; simp; omega) (fun g hg => (HO.out.lt g hg).1))
     have HO2 : Hid (w2.ownsRow w1.heap.size 5 1 v2 (m + 1) (bc (U ++ [b])).toList) := Lib.hid (by
      rw [Hbc.out]
      exact hown2)
     clear hown2 hgrow hsep
     obtain ⟨A2, c2, rfl, _, _⟩ := yae HO2.out
     go_wp2
     go_roundw
     case rel => exact ⟨k + 1, P, m + 1, A2, c2, U ++ [b], by omega, rfl, rfl, iv (by omega), HU2, HO2, HB2⟩
     case measure => simp only [intOf]; omega
   ·obtain rfl : k = s.length + 1 := by omega
    obtain ⟨rfl, rfl, rfl⟩ := HU.out
    have hki : ¬ (((s.length + 1 : Nat) : Int) < (s.length : Int) + 1) := by omega
    obtain ⟨A8, c8, e8, _, hrd⟩ := yae HO.out
    injection e8 with e3 _ e4
    subst e3 e4
    have hcv := ycV Tryz.underlying36 Tryz.underlying5 Tryz.underlying9 wr _ cv _ hrd
    clear hrd
    go_wp2
    go_ret3
    exact ⟨rfl, Hb.out.trans (HB.out.mono Hb.out.size)⟩
end Go.Proofs.YtoinjdmlembgeaaGreat
