/-
 Any text has the document's symbols, and packed bytes; the layer's probe holds (SquashPacks). No condition.
-/
import Derived.Test.YtanjhbkbpalnaaaGreatMa53
set_option maxRecDepth 100000
set_option maxHeartbeats 8000000
open Go.Proofs.Tryz
namespace Go.Proofs.YtanjhbkbpalnaaaGreat
set_option linter.unusedSimpArgs false
set_option linter.unusedVariables false
open Go.ChangeShapes Go.WideShapes Go.ChangeAt Go.RowKit Go.Joins Go.Deep
theorem yfK (s : List UInt8) (w : World) (h : 400 < s.length) :
  Calls prog 3 #[.string ⟨s.toArray⟩] w fun e w' => e = .returned (.bool true) ∧ Below w.heap.size w w' := by
 have h1 : (400 : Int) < s.length := by omega
 go_enter func3, ntmps3
 go_wp2_with (go_at_call 12; refine (ya9 _).mono ?_; rintro e w9 ⟨rfl, hb9⟩)
 go_ret
 exact ⟨rfl, hb9⟩
theorem yfJ (s : List UInt8) (w : World) (h : s.length ≤ 400) :
  Calls prog 3 #[.string ⟨s.toArray⟩] w fun e w' => e = .returned (.bool true) ∧ Below w.heap.size w w' := by
 have h1 : ¬ (400 : Int) < s.length := by omega
 have hp := yd5 s w (by omega)
 have hq := fun W => qref_pack_yes s W (by omega)
 have hk := fun W => ybE s W (by omega)
 have hj := fun W => ycR s W (by omega)
 have hl := ybi s
 rw [show qsF s = (qsy s, (bpr s : Int), 0) from qae (by omega)] at hk
 unfold QPost at hk hj
 dsimp only at hk hj
 have hs := qaa fun A1 A2 c1 c2 (W : World) h1 h2 => same_any A1 A2 (qsy s).length (qsy s).length c1 c2 (qsy s) (qsy s) W h1 h2 (by omega) (by omega)
 have e9 : decide (qsy s = qsy s) = true := qbZ rfl
 simp only [e9] at hs
 have Hp := qaa hp
 have Hq := qaa hq
 have Hk := qaa hk
 have Hj := qaa hj
 have hbe : ((bpr s : Int) == (bpr s : Int)) = true := by simp
 clear hp hq hk hj h e9 hl
 generalize (qsy s).length = q at *
 generalize ints (qsy s) = Q at *
 generalize qB s = X at *
 generalize bpr s = Y at *
 go_enter func3, ntmps3
 go_wp2_with (first
  | (go_at_call 13; (with_reducible refine Hp.out.mono ?_); rintro e w1 ⟨rfl, hb1⟩; have Hb := qaa hb1; clear hb1 Hp)
  | (go_at_call 14; (with_reducible refine (Hq.out _).mono ?_); rintro e w2 ⟨rfl, hb2⟩; replace Hb := qaa (Hb.out.trans (hb2.mono Hb.out.size)); clear hb2; clear Hq)
  | (go_at_call 15; (with_reducible refine (Hk.out _).mono ?_); rintro e w3 ⟨A3, c3, rfl, _, hr3, hb3⟩; replace Hb := qaa (Hb.out.trans (hb3.mono Hb.out.size)); clear hb3; have Hr3 := qaa hr3; clear hr3 Hk)
  | (go_at_call 16; (with_reducible refine (Hj.out _).mono ?_); rintro e w4 ⟨A4, c4, rfl, _, hr4, hb4⟩; replace Hr3 := qaa (Hr3.out.onto hb4); replace Hb := qaa (Hb.out.trans (hb4.mono Hb.out.size)); clear hb4; have Hr4 := qaa hr4; clear hr4 Hj)
  | (go_at_call 17; (with_reducible refine (hs.out _ _ _ _ _ Hr3.out Hr4.out).mono ?_); rintro e w5 ⟨rfl, hb5⟩; replace Hb := qaa (Hb.out.trans (hb5.mono Hb.out.size)); clear hb5; clear hs)
  | (go_at_call 12; refine (ya9 _).mono ?_; rintro e w9 ⟨rfl, hb9⟩; replace Hb := qaa (Hb.out.trans (hb9.mono Hb.out.size)); clear hb9))
 go_ret
 exact ⟨rfl, Hb.out⟩
theorem yfN (s : List UInt8) (w : World) :
  Calls prog 3 #[.string ⟨s.toArray⟩] w fun e w' => e = .returned (.bool true) ∧ Below w.heap.size w w' := by
 by_cases h : s.length ≤ 400
 ·exact yfJ s w h
 ·exact yfK s w (by omega)
namespace SquashPacks
theorem lifted (os : Os) (started : os.Started) (H : Type) (enc : TypeId × Value → H) :
  ReturnsInHanded {} Tryz.checked os 3 .any (Rows.squashPacksSpec.pre6 enc prog Tryz.f3 Rows.squashPacksRow.domain false) (Rows.squashPacksSpec.post enc prog Tryz.f3 false true false false) := by
 refine ye9 (C := Tryz.checked) (tb := 4) ownP started (by kernel_rfl) func3
  (ChangeSpec.witness6 (enc := enc) (C := Tryz.checked) false ⟨#[], #[.string ⟨#[]⟩], []⟩ 8 (by kernel_rfl) (by kernel_rfl) (by kernel_rfl) (by kernel_rfl))
  laidP (by kernel_rfl) rfl (by kernel_rfl) underlying4 (by intro ds h; match ds, h with | [_], _ => rfl) ?_
 intro W base args ds p hval0 hA0 hlt _
 have hval : ∀ (j : Nat) t v, Tryz.f3.params[j]? = some t → args[j]? = some v → Value.okWide prog W .any base t v := hval0
 have hA : DataW.TrodAll enc prog W 0 (fun _ => true) true Tryz.f3.params.toList args.toList ds p := hA0
 rw [Tryz.params3] at hA hval
 obtain ⟨v0, d0, rfl, rfl, h0⟩ := trodAll_one hA
 obtain ⟨s, rfl, rfl⟩ := ydq underlying9 (hval 0 9 v0 rfl rfl) h0
 exact yfN s W
theorem holds : Rows.SquashPacksSaid :=
 OpenClaim.holds_of_wide 3 Tryz.f3 rfl rfl rfl rfl rfl rfl rfl ⟨rfl, rfl, rfl, rfl, rfl⟩ rfl rfl rfl rfl rfl (by kernel_rfl) func3 (by kernel_rfl)
  (qbM (by kernel_rfl)) (by unfold Func.isWrapper; first | (rw [qag (by decide +kernel)]; kernel_rfl) | (rw [qae (by decide +kernel)]; exact ⟨rfl, rfl⟩))
  (fun os started H enc _ => lifted os started H enc)
end SquashPacks
end Go.Proofs.YtanjhbkbpalnaaaGreat
