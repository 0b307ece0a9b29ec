/-
 What the law of the last of these texts stands on, part 53.
-/
import Derived.Test.YtanjhbkbpalnaaaGreatMa46
import Derived.Test.YtanjhbkbpalnaaaGreatMa50
import Derived.Test.YtanjhbkbpalnaaaGreatMa51
import Derived.Test.YtanjhbkbpalnaaaGreatMa52
set_option maxRecDepth 100000
set_option maxHeartbeats 8000000
open Go.Proofs.Tryz
namespace Go.Proofs.YtanjhbkbpalnaaaGreat
set_option linter.unusedSimpArgs false
set_option linter.unusedVariables false
open Go.ChangeShapes Go.WideShapes Go.ChangeAt Go.RowKit Go.Joins Go.Deep
theorem ycR (s : List UInt8) (w : World) (hs : s.length ≤ 20000) :
  Calls prog 16 #[.string ⟨s.toArray⟩] w fun e w' => QPost w w' e (qsy s, (bpr s : Int), 0) := by
 have hbig : ¬ 20000 < s.length := by omega
 have hf := yfL s w (by omega)
 unfold BPost at hf
 rw [btF_yes hbig] at hf
 have hr := qaa fun W => ref_ranks_any (yaV s) (by rw [yaT]; omega) W
 have hz := qaa fun A n c W hm hr => zref_pack_any (rks row0 (yaV s)) A n c W hm hr
 rw [qsy_pack s] at hz
 have hq := ybi s
 dsimp only at hf hz
 have hl : (yaV s).length = s.length := yaT s
 rw [hl] at hr
 have Hf := qaa hf
 unfold QPost
 dsimp only
 clear hf
 generalize yaV s = T at *
 generalize rks row0 T = K at *
 generalize qsy s = Q at *
 generalize bpr s = P at *
 go_enter func16, ntmps16
 go_wp2_with (first
  | (go_at_call 42; (with_reducible refine Hf.out.mono ?_); rintro e w1 ⟨rfl, hb1⟩; have Hb1 := qaa hb1; clear hb1 Hf)
  | (go_at_call 44; (with_reducible refine (hr.out _).mono ?_); rintro e w2 ⟨A2, c2, rfl, hc2, hr2, hb2⟩; have Hb2 := qaa (ya1 Hb1.out hb2); have Hr2 := qaa hr2; clear hb2 hr hr2)
  | (go_at_call 43; (with_reducible refine (hz.out _ _ _ _ (by omega) Hr2.out).mono ?_); rintro e w3 ⟨A3, c3, rfl, hc3, hr3, hb3⟩; have Hb3 := qaa (ya1 Hb2.out hb3); have Hr3 := qaa hr3; clear hb3 hz hr3))
 go_ret3
 exact ⟨_, _, rfl, hc3, Hr3.out, Hb3.out⟩
theorem qref_pack_yes (s : List UInt8) (w : World) (hs : s.length ≤ 20000) :
  Calls prog 14 #[.string ⟨s.toArray⟩] w fun e w' => e = .returned (.tuple #[.string ⟨(qB s).toArray⟩, .int .i64 0]) ∧ Below w.heap.size w w' := by
 have hf := ycR s w hs
 unfold QPost at hf
 have hq := ybi s
 have hp := yf4 s
 have he := qaa fun A n c W hm hr => yhc (qsy s) A n c W hm hr
 rw [q_enc s (by omega)] at he
 have p1 := qaa fun W => yeY (s.length : Int) W (by omega)
 have p2 := qaa fun W => yeY (bpr s : Int) W (by omega)
 have p3 := qaa fun W => yeY ((qsy s).length : Int) W (by omega)
 unfold ygS at p1 p2 p3
 have l1 := ydo s.length
 have l2 := ydo (bpr s)
 have l3 := ydo (qsy s).length
 have l4 := yeU s hs
 have hB' : qB s = ((putB s.length ++ putB (bpr s)) ++ putB (qsy s).length) ++ text (hB (qsy s)) := by
  unfold qB qhd
  simp only [qam]
 rw [hB']
 dsimp only at hf he
 have Hf := qaa hf
 clear hf hB'
 generalize putE (s.length : Int) = E1 at *
 generalize putE (bpr s : Int) = E2 at *
 generalize putE ((qsy s).length : Int) = E3 at *
 generalize putB (s.length : Int) = X1 at *
 generalize putB (bpr s : Int) = X2 at *
 generalize putB ((qsy s).length : Int) = X3 at *
 generalize text (hB (qsy s)) = X4 at *
 have a1 := fun W => q_add X1 X2 (by omega) W
 have a2 := fun W => q_add (X1 ++ X2) X3 (by rw [qab]; omega) W
 have a3 := fun W => q_add (X1 ++ X2 ++ X3) X4 (by rw [qab, qab]; omega) W
 generalize X1 ++ X2 ++ X3 ++ X4 = Y3 at *
 generalize X1 ++ X2 ++ X3 = Y2 at *
 generalize X1 ++ X2 = Y1 at *
 generalize (qsy s).length = q at *
 generalize ints (qsy s) = Q at *
 generalize bpr s = P at *
 go_enter func14, ntmps14
 go_wp2_with (first
  | (go_at_call 16; (with_reducible refine Hf.out.mono ?_); rintro e w1 ⟨A1, c1, rfl, hc1, hr1, hb1⟩; have Hb1 := qaa hb1; have Hr1 := qaa hr1; clear hb1 Hf hr1)
  | (go_at_call 37; (with_reducible refine (p1.out _).mono ?_); rintro e w2 ⟨rfl, hb2⟩; have Hb2 := qaa (ya1 Hb1.out hb2); replace Hr1 := qaa (Hr1.out.onto hb2); clear hb2 p1)
  | (go_at_call 37; (with_reducible refine (p2.out _).mono ?_); rintro e w3 ⟨rfl, hb3⟩; have Hb3 := qaa (ya1 Hb2.out hb3); replace Hr1 := qaa (Hr1.out.onto hb3); clear hb3 p2)
  | (go_at_call 37; (with_reducible refine (p3.out _).mono ?_); rintro e w4 ⟨rfl, hb4⟩; have Hb4 := qaa (ya1 Hb3.out hb4); replace Hr1 := qaa (Hr1.out.onto hb4); clear hb4 p3)
  | (go_at_call 38; (with_reducible refine (he.out _ _ _ _ (by omega) Hr1.out).mono ?_); rintro e w5 ⟨rfl, hb5⟩; have Hb5 := qaa (ya1 Hb4.out hb5); clear hb5 he))
 go_ret2
 exact ⟨rfl, Hb5.out⟩
end Go.Proofs.YtanjhbkbpalnaaaGreat
