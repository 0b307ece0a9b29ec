/-
 What is unpacked of any bytes, packed, is unpacked again; the layer's probe holds (SquashAgain). No condition.
-/
import Derived.Test.YtanjhbkbpalnaaaGreatMa50
set_option maxRecDepth 100000
set_option maxHeartbeats 8000000
open Go.Proofs.Tryz
namespace Go.Proofs.YtanjhbkbpalnaaaGreat
set_option linter.unusedSimpArgs false
set_option linter.unusedVariables false
open Go.ChangeShapes Go.WideShapes Go.ChangeAt Go.RowKit Go.Joins Go.Deep
theorem yfI (b : List UInt8) (w : World) (h : 1000 < b.length) :
  Calls prog 5 #[.string ⟨b.toArray⟩] w fun e w' => e = .returned (.bool true) ∧ Below w.heap.size w w' := by
 have h1 : (1000 : Int) < b.length := by omega
 go_enter func5, ntmps5
 go_wp2_with (go_at_call 12; refine (ya9 _).mono ?_; rintro e w9 ⟨rfl, hb9⟩)
 go_ret
 exact ⟨rfl, hb9⟩
theorem squashAgain_no (b : List UInt8) (w : World) (h : b.length ≤ 1000) (hE : (quF b).2 ≠ 0) :
  Calls prog 5 #[.string ⟨b.toArray⟩] w fun e w' => e = .returned (.bool true) ∧ Below w.heap.size w w' := by
 have h1 : ¬ (1000 : Int) < b.length := by omega
 have hu := yaI b w (by omega)
 unfold yeb at hu
 rw [qu_none hE] at hu
 have hb1 : ((quF b).2 == 0) = false := by simpa using hE
 have hb2 : ((quF b).2 != 0) = true := by simpa using hE
 have Hu := qaa hu
 clear h hE hu
 generalize (quF b).2 = E at *
 go_enter func5, ntmps5
 go_wp2_with (first
  | (go_at_call 18; (with_reducible refine Hu.out.mono ?_); rintro e w1 ⟨rfl, hb1⟩; have Hb := qaa hb1; clear hb1)
  | (go_at_call 12; refine (ya9 _).mono ?_; rintro e w9 ⟨rfl, hb9⟩; replace Hb := qaa (Hb.out.trans (hb9.mono Hb.out.size)); clear hb9))
 go_ret
 exact ⟨rfl, Hb.out⟩
theorem ygI (b : List UInt8) (w : World) (h : b.length ≤ 1000) (hE : (quF b).2 = 0) :
  Calls prog 5 #[.string ⟨b.toArray⟩] w fun e w' => e = .returned (.bool true) ∧ Below w.heap.size w w' := by
 have h1 : ¬ (1000 : Int) < b.length := by omega
 have hu := yaI b w (by omega)
 unfold yeb at hu
 rw [hE] at hu
 have hl := qu_ok hE
 generalize (quF b).1 = S at *
 have hp := fun W => yd5 S W hl
 have hle := qB_len S hl
 have hv := fun W => yaI (qB S) W (by omega)
 rw [qback S hl] at hv
 unfold yeb at hv
 dsimp only at hv
 have Hu := qaa hu
 have Hp := qaa hp
 have Hv := qaa hv
 have hli : (S.length : Int) ≤ 20000 := by omega
 clear h hE hu hp hv hle
 generalize qB S = X at *
 go_enter func5, ntmps5
 go_wp2_with (first
  | (go_at_call 18; (with_reducible refine Hu.out.mono ?_); rintro e w1 ⟨rfl, hb1⟩; have Hb := qaa hb1; clear hb1 Hu)
  | (go_at_call 13; (with_reducible refine (Hp.out _).mono ?_); rintro e w2 ⟨rfl, hb2⟩; replace Hb := qaa (Hb.out.trans (hb2.mono Hb.out.size)); clear hb2)
  | (go_at_call 18; (with_reducible refine (Hv.out _).mono ?_); rintro e w3 ⟨rfl, hb3⟩; replace Hb := qaa (Hb.out.trans (hb3.mono Hb.out.size)); clear hb3)
  | (go_at_call 12; refine (ya9 _).mono ?_; rintro e w9 ⟨rfl, hb9⟩; replace Hb := qaa (Hb.out.trans (hb9.mono Hb.out.size)); clear hb9))
 go_ret
 exact ⟨rfl, Hb.out⟩
theorem yfG (b : List UInt8) (w : World) :
  Calls prog 5 #[.string ⟨b.toArray⟩] w fun e w' => e = .returned (.bool true) ∧ Below w.heap.size w w' := by
 by_cases h : b.length ≤ 1000
 ·by_cases hE : (quF b).2 = 0
  ·exact ygI b w h hE
  ·exact squashAgain_no b w h hE
 ·exact yfI b w (by omega)
namespace SquashAgain
theorem lifted (os : Os) (started : os.Started) (H : Type) (enc : TypeId × Value → H) :
  ReturnsInHanded {} Tryz.checked os 5 .any (Rows.squashAgainSpec.pre6 enc prog Tryz.f5 Rows.squashAgainRow.domain false) (Rows.squashAgainSpec.post enc prog Tryz.f5 false true false false) := by
 refine ye9 (C := Tryz.checked) (tb := 4) ownP started (by kernel_rfl) func5
  (ChangeSpec.witness6 (enc := enc) (C := Tryz.checked) false ⟨#[], #[.string ⟨#[]⟩], []⟩ 8 (by kernel_rfl) (by kernel_rfl) (by kernel_rfl) (by kernel_rfl))
  laidP (by kernel_rfl) rfl (by kernel_rfl) underlying4 (by intro ds h; match ds, h with | [_], _ => rfl) ?_
 intro W base args ds p hval0 hA0 hlt _
 have hval : ∀ (j : Nat) t v, Tryz.f5.params[j]? = some t → args[j]? = some v → Value.okWide prog W .any base t v := hval0
 have hA : DataW.TrodAll enc prog W 0 (fun _ => true) true Tryz.f5.params.toList args.toList ds p := hA0
 rw [Tryz.params5] at hA hval
 obtain ⟨v0, d0, rfl, rfl, h0⟩ := trodAll_one hA
 obtain ⟨b, rfl, rfl⟩ := ydq underlying9 (hval 0 9 v0 rfl rfl) h0
 exact yfG b W
theorem holds : Rows.SquashAgainSaid :=
 OpenClaim.holds_of_wide 5 Tryz.f5 rfl rfl rfl rfl rfl rfl rfl ⟨rfl, rfl, rfl, rfl, rfl⟩ rfl rfl rfl rfl rfl (by kernel_rfl) func5 (by kernel_rfl)
  (qbM (by kernel_rfl)) (by unfold Func.isWrapper; first | (rw [qag (by decide +kernel)]; kernel_rfl) | (rw [qae (by decide +kernel)]; exact ⟨rfl, rfl⟩))
  (fun os started H enc _ => lifted os started H enc)
end SquashAgain
end Go.Proofs.YtanjhbkbpalnaaaGreat
