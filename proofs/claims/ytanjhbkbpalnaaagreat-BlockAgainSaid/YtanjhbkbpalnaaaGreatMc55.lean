/-
 What is decoded of any bytes, encoded, is decoded again, and the layer's probe holds (BlockAgain). No condition.
-/
import Derived.Test.YtanjhbkbpalnaaaGreatMc51
set_option maxRecDepth 100000
set_option maxHeartbeats 8000000
open Go.Proofs.Tryz
namespace Go.Proofs.YtanjhbkbpalnaaaGreat
set_option linter.unusedSimpArgs false
set_option linter.unusedVariables false
open Go.ChangeShapes Go.WideShapes Go.ChangeAt Go.RowKit Go.Joins Go.Deep
theorem blockAgain_far (s : List UInt8) (w : World) (h : 3000 < s.length) :
  Calls prog 10 #[.string ⟨s.toArray⟩] w fun e w' => e = .returned (.bool true) ∧ Below w.heap.size w w' := by
 have Hb := qaa (qam w.heap.size w)
 have hi : (3000 : Int) < (s.length : Int) := by omega
 go_enter func10, ntmps10
 go_wp2_with (first
  | (go_at_call 21; refine (yam _).mono ?_; rintro e w9 ⟨rfl, hb9⟩; replace Hb := qaa (Hb.out.trans (hb9.mono Hb.out.size)); clear hb9))
 go_ret
 exact ⟨rfl, Hb.out⟩
theorem blockAgain_no (s : List UInt8) (w : World) (h : s.length ≤ 3000) (hE : (yak s).2 ≠ 0) :
  Calls prog 10 #[.string ⟨s.toArray⟩] w fun e w' => e = .returned (.bool true) ∧ Below w.heap.size w w' := by
 have Hb := qaa (qam w.heap.size w)
 have hi : ¬ (3000 : Int) < (s.length : Int) := by omega
 have P1 := fun W => ybf s W (by omega)
 unfold yaP at P1
 rw [odec_none hE] at P1
 replace P1 := qaa P1
 generalize (yak s).2 = E at *
 have q2 : (E != 0) = true := by simpa using hE
 dsimp only [List.length_nil] at P1
 go_enter func10, ntmps10
 go_wp2_with (first
  | (go_at_call 24; (with_reducible refine (P1.out _).mono ?_); rintro e w1 ⟨A1, c1, rfl, _, hr1, hb1⟩; replace Hb := qaa hb1; have HR1 := qaa hr1; clear hb1 hr1 P1)
  | (go_at_call 21; refine (yam _).mono ?_; rintro e w9 ⟨rfl, hb9⟩; replace Hb := qaa (Hb.out.trans (hb9.mono Hb.out.size)); clear hb9))
 go_ret
 exact ⟨rfl, Hb.out⟩
theorem blockAgain_yes (s : List UInt8) (w : World) (h : s.length ≤ 3000) (hE : (yak s).2 = 0) :
  Calls prog 10 #[.string ⟨s.toArray⟩] w fun e w' => e = .returned (.bool true) ∧ Below w.heap.size w w' := by
 have Hb := qaa (qam w.heap.size w)
 have hi : ¬ (3000 : Int) < (s.length : Int) := by omega
 have P1 := fun W => ybf s W (by omega)
 unfold yaP at P1
 obtain ⟨h0, h1⟩ := oagain hE
 obtain ⟨_, b2⟩ := oback h1
 obtain ⟨_, s2⟩ := ygp h1
 obtain ⟨g0, g1, g2⟩ := yeO h1
 obtain ⟨_, j2, _, j4, _⟩ := yfw g0 g1
 rw [hE] at P1
 rw [g2] at b2 s2
 dsimp only at b2 s2
 have E1 := fun A n c W hl hr => yal (yak s).1 A n c W hl (by omega) hr
 unfold yaI at E1
 rw [g2] at E1
 have P2 := fun W => ybf (oB (yak s).1) W (by omega)
 unfold yaP at P2
 rw [b2] at P2
 dsimp only at P2 E1
 have Q := fun A1 A2 c1 c2 W h1 h2 => yc8 (yak s).1 (yak s).1 A1 A2 (yak s).1.length (yak s).1.length c1 c2 W rfl rfl (by omega) (by omega) h1 h2
 have e9 : decide ((yak s).1 = (yak s).1) = true := qaP rfl
 simp only [e9] at Q
 replace P1 := qaa P1
 replace P2 := qaa P2
 replace E1 := qaa E1
 replace Q := qaa Q
 have hni : (0 : Int) < ((yak s).1.length : Int) ∧ ((yak s).1.length : Int) ≤ 20000 := by omega
 have hnz : ¬ ((yak s).1.length : Int) = 0 := by omega
 clear e9 b2 s2 g0 g1 g2 j2 j4 h0 h1 hE
 generalize oB (yak s).1 = X at *
 generalize hL : (yak s).1 = L at *
 clear hL
 generalize hn : L.length = n at *
 clear hn
 go_enter func10, ntmps10
 go_wp2_with (first
  | (go_at_call 24; (with_reducible refine (P1.out _).mono ?_); rintro e w1 ⟨A1, c1, rfl, _, hr1, hb1⟩; replace Hb := qaa hb1; have HR1 := qaa hr1; clear hb1 hr1 P1)
  | (go_at_call 22; (with_reducible refine (E1.out _ _ _ _ rfl HR1.out).mono ?_); rintro e w2 ⟨rfl, hb2⟩; replace HR1 := qaa (Reads.on15 HR1.out hb2); replace Hb := qaa (Hb.out.trans (hb2.mono Hb.out.size)); clear hb2; clear E1)
  | (go_at_call 24; (with_reducible refine (P2.out _).mono ?_); rintro e w3 ⟨A3, c3, rfl, _, hr3, hb3⟩; replace HR1 := qaa (Reads.on15 HR1.out hb3); have HR3 := qaa hr3; replace Hb := qaa (Hb.out.trans (hb3.mono Hb.out.size)); clear hb3; clear hr3 P2)
  | (go_at_call 27; (with_reducible refine (Q.out _ _ _ _ _ HR3.out HR1.out).mono ?_); rintro e w4 ⟨rfl, hb4⟩; replace Hb := qaa (Hb.out.trans (hb4.mono Hb.out.size)); clear hb4; clear Q)
  | (go_at_call 21; refine (yam _).mono ?_; rintro e w9 ⟨rfl, hb9⟩; replace Hb := qaa (Hb.out.trans (hb9.mono Hb.out.size)); clear hb9))
 go_ret
 exact ⟨rfl, Hb.out⟩
theorem yhb (s : List UInt8) (w : World) : Calls prog 10 #[.string ⟨s.toArray⟩] w fun e w' => e = .returned (.bool true) ∧ Below w.heap.size w w' := by
 by_cases h : 3000 < s.length
 ·exact blockAgain_far s w h
 ·by_cases hE : (yak s).2 = 0
  ·exact blockAgain_yes s w (by omega) hE
  ·exact blockAgain_no s w (by omega) hE
namespace BlockAgain
theorem lifted (os : Os) (started : os.Started) (H : Type) (enc : TypeId × Value → H) :
  ReturnsInHanded {} Tryz.checked os 10 .any (Rows.blockAgainSpec.pre6 enc prog Tryz.f10 Rows.blockAgainRow.domain false) (Rows.blockAgainSpec.post enc prog Tryz.f10 false true false false) := by
 refine yec (C := Tryz.checked) (tb := 4) ownP started (by kernel_rfl) func10
  (ChangeSpec.witness6 (enc := enc) (C := Tryz.checked) false ⟨#[], #[.string ⟨#[]⟩], []⟩ 8 (by kernel_rfl) (by kernel_rfl) (by kernel_rfl) (by kernel_rfl))
  laidP (by kernel_rfl) rfl (by kernel_rfl) underlying4 (by intro ds h; match ds, h with | [_], _ => rfl) ?_
 intro W base args ds p hval0 hA0 hlt _
 have hval : ∀ (j : Nat) t v, Tryz.f10.params[j]? = some t → args[j]? = some v → Value.okWide prog W .any base t v := hval0
 have hA : DataW.TrodAll enc prog W 0 (fun _ => true) true Tryz.f10.params.toList args.toList ds p := hA0
 rw [Tryz.params10] at hA hval
 obtain ⟨v0, d0, rfl, rfl, h0⟩ := trodAll_one hA
 obtain ⟨s, rfl, rfl⟩ := open_bytes underlying9 (hval 0 9 v0 rfl rfl) h0
 exact yhb s W
theorem holds : Rows.BlockAgainSaid :=
 OpenClaim.holds_of_wide 10 Tryz.f10 rfl rfl rfl rfl rfl rfl rfl ⟨rfl, rfl, rfl, rfl, rfl⟩ rfl rfl rfl rfl rfl (by kernel_rfl) func10 (by kernel_rfl)
  (qbo (by kernel_rfl)) (by unfold Func.isWrapper; first | (rw [qah (by decide +kernel)]; kernel_rfl) | (rw [qag (by decide +kernel)]; exact ⟨rfl, rfl⟩))
  (fun os started H enc _ => lifted os started H enc)
end BlockAgain
end Go.Proofs.YtanjhbkbpalnaaaGreat
