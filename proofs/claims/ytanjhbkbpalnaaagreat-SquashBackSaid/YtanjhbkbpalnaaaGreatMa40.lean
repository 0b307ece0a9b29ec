/-
 What the law of the last of these texts stands on, part 40.
-/
import Derived.Test.YtanjhbkbpalnaaaGreatMa20
import Derived.Deep.LoopGhost
set_option maxRecDepth 100000
set_option maxHeartbeats 8000000
open Go.Proofs.Tryz
namespace Go.Proofs.YtanjhbkbpalnaaaGreat
set_option linter.unusedSimpArgs false
set_option linter.unusedVariables false
open Go.ChangeShapes Go.WideShapes Go.ChangeAt Go.RowKit Go.Joins Go.Deep Go.Shelf
def XH (W : World) (s : List UInt8) (gx h : Nat) (row : List Nat) (kd : Nat → Nat) (A : Option Addr) (c g : Nat) : Prop :=
 Blk W gx 155 #[.slice A (s.length + 1) c, .slice (some ⟨g, 0, none⟩) (s.length + 1) (s.length + 1), .int .i64 (h : Int)] ∧ EH W s h row kd A c g
theorem xh_set {N : Nat} {W' : World} {s : List UInt8} {gx h : Nat} {row : List Nat} {kd : Nat → Nat} {A : Option Addr} {c g : Nat} {x y z : Value} (hx : Blk W' gx 155 #[x, y, z]) (hN : EF N A g) (hlt : gx < N) (H : EH W' s h row kd A c g) :
  XH (((W'.setCell ⟨gx, 0, none⟩ (.slice A (s.length + 1) c)).setCell ⟨gx, 1, none⟩ (.slice (some ⟨g, 0, none⟩) (s.length + 1) (s.length + 1))).setCell ⟨gx, 2, none⟩ (.int .i64 (h : Int))) s gx h row kd A c g :=
 ⟨yfd hx, ((H.set hN hlt 0 _).set hN hlt 1 _).set hN hlt 2 _⟩
theorem p_sarray_any (s : List UInt8) (w : World) (hs : s.length ≤ 1000000) :
  Calls prog 68 #[.string ⟨s.toArray⟩] w fun e w' => yfR w w' e (saF s) := by
 have hni : (s.length : Int) ≤ 1000000 := by omega
 by_cases hbig : 20000 < s.length
 ·have hb1 : (20000 : Int) < (s.length : Int) := by omega
  have fin : saF s = ([], 3) := qag hbig
  rw [fin]
  clear fin
  go_enter func68, ntmps68
  go_wp2
  go_ret2
  exact yfx (qak _ _)
 ·have hb1 : ¬ (20000 : Int) < (s.length : Int) := by omega
  have Fin : Hid (saF s = (splc (sarr s), 0)) := qaa (qae hbig)
  have Hs := qaa hs
  have Hfirst := qaa (s_first_any s w hs)
  have Hap := qaa fun h row kd A c g W H => s_apart_any s h row kd A c g W hs H
  have Hnx := qaa fun h row kd A c g W h1 hh H => s_next_any s h row kd A c g W hs h1 hh H
  clear hs hbig
  go_enter func68, ntmps68
  go_wp2_with (go_at_call 115; refine Hfirst.out.mono ?_; rintro e w1 ⟨A1, c1, g1, row1, kd1, rfl, hN, H1, hb⟩; have HN1 := qaa hN; have HE1 := qaa H1; have Hb1 := qaa hb; clear hN H1 hb)
  have Hst : Hid (∃ h row kd A c g, 1 ≤ h ∧ s.length + 1 ≤ (s.length + 1) + h ∧ XH (w1.alloc (.cells #[.slice A1 (s.length + 1) c1, .slice (some ⟨g1, 0, none⟩) (s.length + 1) (s.length + 1), .int .i64 1] 155)) s w1.heap.size h row kd A c g ∧ Below w1.heap.size w1 (w1.alloc (.cells #[.slice A1 (s.length + 1) c1, .slice (some ⟨g1, 0, none⟩) (s.length + 1) (s.length + 1), .int .i64 1] 155))) :=
   qaa ⟨1, row1, kd1, A1, c1, g1, by omega, by omega, ⟨Blk.new w1 _ _, HE1.out.below ((qak _ _).alloc (qad _) _)⟩, (qak _ _).alloc (qad _) _⟩
  clear Hfirst HE1 HN1
  go_loopg [] (s.length + 1) (fun gk wr => Hid (∃ h row kd A c g, 1 ≤ h ∧ s.length + 1 ≤ gk + h ∧ XH wr s w1.heap.size h row kd A c g ∧ Below w1.heap.size w1 wr))
  case atStart => exact Hst
  case round =>
   obtain ⟨h, row, kd, A, c, g, h1, hgk, hX, hB⟩ := hrel.out
   clear hrel Hst
   have HE := qaa hX.2
   have HX := qaa hX.1
   have HB := qaa hB
   have H1 := qaa h1
   have Hgk := qaa hgk
   generalize hgx : w1.heap.size = gx at *
   have c0 : wr.cell? ⟨gx, 0, none⟩ = some (.slice A (s.length + 1) c) := HX.out.cell 0
   have c1 : wr.cell? ⟨gx, 1, none⟩ = some (.slice (some ⟨g, 0, none⟩) (s.length + 1) (s.length + 1)) := HX.out.cell 1
   have c2 : wr.cell? ⟨gx, 2, none⟩ = some (.int .i64 (h : Int)) := HX.out.cell 2
   have HAp := qaa (Hap.out h row kd A c g wr HE.out)
   clear hX hB h1 hgk
   by_cases hap : kd (row.getD s.length 0) = s.length
   ·have Har := qaa (HE.out.se.apart hap)
    rw [qbZ hap] at HAp
    clear hap Hnx Hap
    go_wp2_with (go_at_call 116; refine HAp.out.mono ?_; rintro e w2 ⟨rfl, hb2⟩; have HX2 := qaa (HX.out.below hb2 HX.out.lt); have HE2 := qaa (HE.out.below hb2); have Hb2 := qaa hb2; have d0 : w2.cell? ⟨gx, 0, none⟩ = some (.slice A (s.length + 1) c) := HX2.out.cell 0; clear hb2)
    go_ret2
    rw [Fin.out, ← Har.out]
    exact yhv (by rw [yao, HE2.out.se.len]) HE2.out.cap HE2.out.row (Hb1.out.trans ((HB.out.mono (by rw [← hgx]; exact Hb1.out.size)).trans (Hb2.out.mono (by have := HX.out.lt; have := HB.out.size; have := Hb1.out.size; omega))))
   ·have hlt := HE.out.se.more hap
    rw [qbX hap] at HAp
    have Hlt := qaa hlt
    have Hnxt := qaa fun W H => Hnx.out h row kd A c g W H1.out (by omega) H
    clear hap Hnx Hap hlt
    go_wp2_with (first
     | (go_at_call 116; refine HAp.out.mono ?_; rintro e w2 ⟨rfl, hb2⟩; have HX2 := qaa (HX.out.below hb2 HX.out.lt); have HE2 := qaa (HE.out.below hb2); have Hb2 := qaa hb2; have d0 : w2.cell? ⟨gx, 0, none⟩ = some (.slice A (s.length + 1) c) := HX2.out.cell 0; have d1 : w2.cell? ⟨gx, 1, none⟩ = some (.slice (some ⟨g, 0, none⟩) (s.length + 1) (s.length + 1)) := HX2.out.cell 1; have d2 : w2.cell? ⟨gx, 2, none⟩ = some (.int .i64 (h : Int)) := HX2.out.cell 2; clear hb2)
     | (go_at_call 117; refine (Hnxt.out _ HE2.out).mono ?_; rintro e w3 ⟨A3, c3, g3, row3, kd3, rfl, hN3, hE3, hb3⟩; have HX3 := qaa (HX2.out.below hb3 HX2.out.lt); have HE3 := qaa hE3; have HN3 := qaa hN3; have Hb3 := qaa hb3; have e0 : w3.cell? ⟨gx, 0, none⟩ = some (.slice A (s.length + 1) c) := HX3.out.cell 0; have e1 : w3.cell? ⟨gx, 1, none⟩ = some (.slice (some ⟨g, 0, none⟩) (s.length + 1) (s.length + 1)) := HX3.out.cell 1; have e2 : w3.cell? ⟨gx, 2, none⟩ = some (.int .i64 (h : Int)) := HX3.out.cell 2; have f0 := HX3.out.frozen 0; have f1 := HX3.out.frozen 1; have f2 := HX3.out.frozen 2; clear hE3 hN3 hb3))
    have Hrel : Hid (∃ h' row kd A c g, 1 ≤ h' ∧ s.length + 1 ≤ (gk - 1) + h' ∧ XH (((w3.setCell ⟨gx, 0, none⟩ (.slice A3 (s.length + 1) c3)).setCell ⟨gx, 1, none⟩ (.slice (some ⟨g3, 0, none⟩) (s.length + 1) (s.length + 1))).setCell ⟨gx, 2, none⟩ (.int .i64 ((h + h : Nat) : Int))) s gx h' row kd A c g ∧ Below gx w1 (((w3.setCell ⟨gx, 0, none⟩ (.slice A3 (s.length + 1) c3)).setCell ⟨gx, 1, none⟩ (.slice (some ⟨g3, 0, none⟩) (s.length + 1) (s.length + 1))).setCell ⟨gx, 2, none⟩ (.int .i64 ((h + h : Nat) : Int)))) :=
     qaa ⟨h + h, row3, kd3, A3, c3, g3, by have := H1.out; omega, by have := H1.out; have := Hgk.out; have := Hlt.out; omega, xh_set HX3.out HN3.out HX2.out.lt HE3.out, (((HB.out.trans ((Hb2.out.mono (by have := HX.out.lt; omega)).trans (Hb3.out.mono (by have := HX2.out.lt; omega)))).setCell (p := ⟨gx, 0, none⟩) (qad _) _).setCell (p := ⟨gx, 1, none⟩) (qad _) _).setCell (p := ⟨gx, 2, none⟩) (qad _) _⟩
    go_roundg (gk - 1)
    case rel => exact Hrel
    case measure => have := H1.out; have := Hgk.out; have := Hlt.out; omega
end Go.Proofs.YtanjhbkbpalnaaaGreat
