/-
 What the law of the last of these texts stands on, part 42.
-/
import Derived.Test.YtanjhbkbpalnaaaGreatMc33
import Derived.Test.YtanjhbkbpalnaaaGreatMc35
set_option maxRecDepth 100000
set_option maxHeartbeats 8000000
open Go.Proofs.Tryz
namespace Go.Proofs.YtanjhbkbpalnaaaGreat
set_option linter.unusedSimpArgs false
set_option linter.unusedVariables false
open Go.ChangeShapes Go.WideShapes Go.ChangeAt Go.RowKit Go.Joins Go.Deep
def obF (U : List UInt8) (E a : Int) : Int := if E ≠ 0 then E else if (U.length : Int) ≠ a then 5 else 0
theorem p_obytes_any (m a b c d e : Int) (T U : List UInt8) (E : Int) (w : World)
  (h : (m = 1 ∧ ∀ W, Calls prog 18 #[.string ⟨T.toArray⟩] W fun r w' => yaI W w' r (U, E)) ∨ (m ≠ 1 ∧ U = T ∧ E = 0)) :
  Calls prog 52 #[.agg (opc m a b c d e T)] w fun r w' => r = .returned (.tuple #[.string ⟨U.toArray⟩, .int .i64 (obF U E a)]) ∧ Below w.heap.size w w' := by
 have HX := qaa (Blk.new w 82 (opc m a b c d e T))
 have HB0 := qaa ((qam w.heap.size w).alloc (qaf _) (.cells (opc m a b c d e T) 82))
 rcases h with ⟨rfl, hu⟩ | ⟨hm, rfl, rfl⟩
 ·unfold yaI at hu
  dsimp only at hu
  have Hu := qaa hu
  clear hu
  by_cases hE : E = 0
  ·subst hE
   by_cases hU : (U.length : Int) = a
   ·have HF : Hid (obF U 0 a = 0) := qaa (by unfold obF; rw [qag (by decide), qag (by omega)])
    go_enter func52, ntmps52
    go_wp2_with (go_at_call 18; (with_reducible refine (Hu.out _).mono ?_); rintro r w1 ⟨rfl, hb1⟩; have HB1 := qaa (HB0.out.trans (hb1.mono HB0.out.size)); have k1 := (HX.out.below hb1 HX.out.lt).cell 1; simp only [qan, qa0, qaw] at k1; clear hb1)
    go_ret2
    exact ⟨by rw [HF.out]; rfl, HB1.out⟩
   ·have HF : Hid (obF U 0 a = 5) := qaa (by unfold obF; rw [qag (by decide), qah hU])
    go_enter func52, ntmps52
    go_wp2_with (go_at_call 18; (with_reducible refine (Hu.out _).mono ?_); rintro r w1 ⟨rfl, hb1⟩; have HB1 := qaa (HB0.out.trans (hb1.mono HB0.out.size)); have k1 := (HX.out.below hb1 HX.out.lt).cell 1; simp only [qan, qa0, qaw] at k1; clear hb1)
    go_ret2
    exact ⟨by rw [HF.out]; rfl, HB1.out⟩
  ·have HF : Hid (obF U E a = E) := qaa (by unfold obF; rw [qah hE])
   go_enter func52, ntmps52
   go_wp2_with (go_at_call 18; (with_reducible refine (Hu.out _).mono ?_); rintro r w1 ⟨rfl, hb1⟩; have HB1 := qaa (HB0.out.trans (hb1.mono HB0.out.size)); clear hb1)
   go_ret2
   exact ⟨by rw [HF.out]; rfl, HB1.out⟩
 ·by_cases hU : (U.length : Int) = a
  ·have HF : Hid (obF U 0 a = 0) := qaa (by unfold obF; rw [qag (by decide), qag (by omega)])
   go_enter func52, ntmps52
   go_wp2
   go_ret2
   exact ⟨by rw [HF.out]; rfl, HB0.out⟩
  ·have HF : Hid (obF U 0 a = 5) := qaa (by unfold obF; rw [qag (by decide), qah hU])
   go_enter func52, ntmps52
   go_wp2
   go_ret2
   exact ⟨by rw [HF.out]; rfl, HB0.out⟩
def OPost (w w' : World) (e : Ending) (F : OM × Int) : Prop := e = .returned (.tuple #[.agg (omc F.1), .int .i64 F.2]) ∧ Below w.heap.size w w'
theorem opeek_ok {s : List UInt8} (h : (yaw s).2 = 0) : oflt s 5 = 0 ∧ ook s = true ∧ yaw s = ((ono s 0, ono s 1, ono s 2, ono s 3, ono s 3 + ono s 4), 0) := by
 unfold yaw at h ⊢
 by_cases h3 : oflt s 5 ≠ 0
 ·rw [qah h3] at h
  exact absurd h h3
 rw [qag h3] at h ⊢
 by_cases h4 : ook s = true
 ·rw [qah h4]
  exact ⟨qb2.1 h3, h4, rfl⟩
 ·rw [qag h4] at h
  cases h
theorem opeek_no {s : List UInt8} (h : (yaw s).2 ≠ 0) : yaw s = (ygB, (yaw s).2) := by
 unfold yaw at h ⊢
 by_cases h3 : oflt s 5 ≠ 0
 ·rw [qah h3]
 rw [qag h3] at h ⊢
 by_cases h4 : ook s = true
 ·rw [qah h4] at h
  exact absurd rfl h
 ·rw [qag h4]
theorem ook_is {s : List UInt8} (h : ook s = true) : (s.getD 0 0).toNat < 2 ∧ ono s 0 ≤ 20000 ∧ 1 ≤ ono s 1 ∧ ono s 1 ≤ ono s 0 ∧ 1 ≤ ono s 2 ∧ ono s 1 + ono s 2 ≤ 1000000001 ∧ ono s 3 + ono s 4 ≤ 1000000000 := qbo h
theorem ygW (s : List UInt8) (w : World) (hs : s.length ≤ 1000000) :
  Calls prog 25 #[.string ⟨s.toArray⟩] w fun e w' => OPost w w' e (yaw s) := by
 have hc := fun W => yfg s W hs
 have HM0 := qaa (Blk.new w 45 (omc ygB))
 have HW0 := qaa ((qam w.heap.size w).alloc (qaf _) (.cells (omc ygB) 45))
 by_cases hE : (yaw s).2 ≠ 0
 ·rw [opeek_no hE]
  unfold OPost
  obtain ⟨m, a, b, c, d, e, T, hP, _, _⟩ := yhc s
  rw [hP] at hc
  have Hc := qaa hc
  clear hc hP
  generalize (yaw s).2 = E at *
  dsimp only
  go_enter func25, ntmps25
  go_wp2_with (go_at_call 51; (with_reducible refine (Hc.out _).mono ?_); rintro r w1 ⟨rfl, hb1⟩; have HM1 := qaa ((HM0.out.below hb1 HM0.out.lt).alloc (.cells (opc m a b c d e T) 82)); have HW1 := qaa ((HW0.out.trans (hb1.mono HW0.out.size)).alloc (HW0.out.trans (hb1.mono HW0.out.size)).size (.cells (opc m a b c d e T) 82)); clear hb1; have c0 := (HM1.out).cell 0; have z0 := (HM1.out).frozen 0; have c1 := (HM1.out).cell 1; have z1 := (HM1.out).frozen 1; have c2 := (HM1.out).cell 2; have z2 := (HM1.out).frozen 2; have c3 := (HM1.out).cell 3; have z3 := (HM1.out).frozen 3; have c4 := (HM1.out).cell 4; have z4 := (HM1.out).frozen 4; have c5 := (HM1.out).cell 5; have z5 := (HM1.out).frozen 5; have c6 := (HM1.out).cell 6; have z6 := (HM1.out).frozen 6; simp only [qan, qa0, qaw] at c0 c1 c2 c3 c4 c5 c6)
  generalize hX : (((((((w1.alloc (.cells (opc m a b c d e T) 82)).setCell ⟨w.heap.size, 0, none⟩ (.int .i64 0)).setCell ⟨w.heap.size, 1, none⟩ (.int .i64 0)).setCell ⟨w.heap.size, 2, none⟩ (.int .i64 0)).setCell ⟨w.heap.size, 3, none⟩ (.int .i64 0)).setCell ⟨w.heap.size, 4, none⟩ (.int .i64 0)).setCell ⟨w.heap.size, 5, none⟩ (.int .i64 0)).setCell ⟨w.heap.size, 6, none⟩ (.int .i64 0) = X
  obtain ⟨y1, y2⟩ := oset7 HM1.out hX
  have x0 := y1.cell 0
  have x1 := y1.cell 1
  have x2 := y1.cell 2
  have x3 := y1.cell 3
  have x4 := y1.cell 4
  have x5 := y1.cell 5
  have x6 := y1.cell 6
  simp only [qan, qa0, qaw] at x0 x1 x2 x3 x4 x5 x6
  refine qaN (v := .tuple #[.agg (omc ygB), .int .i64 E]) (by simp [results, results25, go_sem, x0, x1, x2, x3, x4, x5, x6, ygB]) rfl ⟨rfl, HW1.out.trans (y2.below (fun k _ e => by omega) HW1.out.size)⟩
 ·have hE0 : (yaw s).2 = 0 := by omega
  obtain ⟨h5, hk, hF⟩ := opeek_ok hE0
  have hk := ook_is hk
  rw [hF] at hc ⊢
  have hP : ocP s = opc (s.getD 0 0).toNat (ono s 0) (ono s 1) (ono s 2) (ono s 3) (ono s 4) (s.drop (opl s 5).toNat) := by unfold ocP; rw [qah h5]
  rw [hP] at hc
  have h3 := (ono_at (s := s) (k := 3) ((ydA h5).2 3 (by omega)))
  have h4 := (ono_at (s := s) (k := 4) ((ydA h5).2 4 (by omega)))
  have hm := qaa fun W => ycR (s.getD 0 0).toNat (ono s 0) (ono s 1) (ono s 2) (ono s 3) (ono s 4) (s.drop (opl s 5).toNat) W h3.1 h4.1 hk.2.2.2.2.2.2
  unfold OPost
  dsimp only at hc ⊢
  have Hc := qaa hc
  clear hc hP hF hk h3 h4 h5 hE hE0
  generalize ono s 0 = a at *
  generalize ono s 1 = b at *
  generalize ono s 2 = c at *
  generalize ono s 3 = d at *
  generalize ono s 4 = e at *
  generalize s.drop (opl s 5).toNat = T at *
  generalize ((s.getD 0 0).toNat : Int) = m at *
  go_enter func25, ntmps25
  go_wp2_with (first
   | (go_at_call 51; (with_reducible refine (Hc.out _).mono ?_); rintro r w1 ⟨rfl, hb1⟩; have HM1 := qaa ((HM0.out.below hb1 HM0.out.lt).alloc (.cells (opc m a b c d e T) 82)); have HW1 := qaa ((HW0.out.trans (hb1.mono HW0.out.size)).alloc (HW0.out.trans (hb1.mono HW0.out.size)).size (.cells (opc m a b c d e T) 82)); clear hb1)
   | (go_at_call 54; (with_reducible refine (hm.out _).mono ?_); rintro r w2 ⟨rfl, hb2⟩; have HM2 := qaa (HM1.out.below hb2 HM1.out.lt); have HW2 := qaa (HW1.out.trans (hb2.mono HW1.out.size)); clear hb2; have c0 := (HM2.out).cell 0; have z0 := (HM2.out).frozen 0; have c1 := (HM2.out).cell 1; have z1 := (HM2.out).frozen 1; have c2 := (HM2.out).cell 2; have z2 := (HM2.out).frozen 2; have c3 := (HM2.out).cell 3; have z3 := (HM2.out).frozen 3; have c4 := (HM2.out).cell 4; have z4 := (HM2.out).frozen 4; have c5 := (HM2.out).cell 5; have z5 := (HM2.out).frozen 5; have c6 := (HM2.out).cell 6; have z6 := (HM2.out).frozen 6; simp only [qan, qa0, qaw] at c0 c1 c2 c3 c4 c5 c6))
  generalize hX : ((((((w2.setCell ⟨w.heap.size, 0, none⟩ (.int .i64 0)).setCell ⟨w.heap.size, 1, none⟩ (.int .i64 0)).setCell ⟨w.heap.size, 2, none⟩ (.int .i64 a)).setCell ⟨w.heap.size, 3, none⟩ (.int .i64 b)).setCell ⟨w.heap.size, 4, none⟩ (.int .i64 c)).setCell ⟨w.heap.size, 5, none⟩ (.int .i64 d)).setCell ⟨w.heap.size, 6, none⟩ (.int .i64 (d + e)) = X
  obtain ⟨y1, y2⟩ := oset7 HM2.out hX
  have x0 := y1.cell 0
  have x1 := y1.cell 1
  have x2 := y1.cell 2
  have x3 := y1.cell 3
  have x4 := y1.cell 4
  have x5 := y1.cell 5
  have x6 := y1.cell 6
  simp only [qan, qa0, qaw] at x0 x1 x2 x3 x4 x5 x6
  refine qaN (v := .tuple #[.agg (omc (a, b, c, d, d + e)), .int .i64 0]) (by simp [results, results25, go_sem, x0, x1, x2, x3, x4, x5, x6]) rfl ⟨rfl, HW2.out.trans (y2.below (fun k _ e => by omega) HW2.out.size)⟩
end Go.Proofs.YtanjhbkbpalnaaaGreat
