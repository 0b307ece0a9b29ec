/-
 Any text has the document's symbols, and packed bytes; the layer's probe holds (SquashPacks). No condition.
-/
import Derived.Test.YtoinjdmlembgeaaGreatMg52
namespace Go.Proofs.YtoinjdmlembgeaaGreat
set_option linter.unusedSimpArgs false
set_option linter.unusedVariables false
open Go.ChangeShapes Go.WideShapes Go.ChangeAt Go.RowKit Go.Joins Go.Deep
set_option maxHeartbeats 2000000 in
theorem yfU (s : List UInt8) (w : World) (h : 400 < s.length) :
  Calls Tryz.prog 3 #[.string ⟨s.toArray⟩] w fun e w' => e = .returned (.bool true) ∧ Below w.heap.size w w' := by
 have h1 : (400 : Int) < s.length := by omega
 go_enter Tryz.func3, Tryz.ntmps3
 go_wp2_with (go_at_call 7; refine (yaB _).mono ?_; rintro e w9 ⟨rfl, hb9⟩)
 go_ret
 exact ⟨rfl, hb9⟩
set_option maxRecDepth 100000 in
set_option maxHeartbeats 8000000 in
theorem yga (s : List UInt8) (w : World) (h : s.length ≤ 400) :
  Calls Tryz.prog 3 #[.string ⟨s.toArray⟩] w fun e w' => e = .returned (.bool true) ∧ Below w.heap.size w w' := by
 have h1 : ¬ (400 : Int) < s.length := by omega
 have hp := ydG s w (by omega)
 have hq := fun W => qref_pack_yes s W (by omega)
 have hk := fun W => ybJ s W (by omega)
 have hj := fun W => ydb s W (by omega)
 have hl := ybj s
 rw [show qsF s = (qsy s, (bpr s : Int), 0) from if_neg (by omega)] at hk
 unfold QPost at hk hj
 dsimp only at hk hj
 have hs := Lib.hid fun A1 A2 c1 c2 (W : World) h1 h2 => same_any A1 A2 (qsy s).length (qsy s).length c1 c2 (qsy s) (qsy s) W h1 h2 (by omega) (by omega)
 have e9 : decide (qsy s = qsy s) = true := decide_eq_true rfl
 simp only [e9] at hs
 have Hp := Lib.hid hp
 have Hq := Lib.hid hq
 have Hk := Lib.hid hk
 have Hj := Lib.hid hj
 have hbe : ((bpr s : Int) == (bpr s : Int)) = true := by simp
 clear hp hq hk hj h e9 hl
 generalize (qsy s).length = q at *
 generalize ints (qsy s) = Q at *
 generalize qB s = X at *
 generalize bpr s = Y at *
 go_enter Tryz.func3, Tryz.ntmps3
 go_wp2_with (first
  | (go_at_call 8; (with_reducible refine Hp.out.mono ?_); rintro e w1 ⟨rfl, hb1⟩; have Hb := Lib.hid hb1; clear hb1 Hp)
  | (go_at_call 9; (with_reducible refine (Hq.out _).mono ?_); rintro e w2 ⟨rfl, hb2⟩; replace Hb := Lib.hid (Hb.out.trans (hb2.mono Hb.out.size)); clear hb2; clear Hq)
  | (go_at_call 10; (with_reducible refine (Hk.out _).mono ?_); rintro e w3 ⟨A3, c3, rfl, _, hr3, hb3⟩; replace Hb := Lib.hid (Hb.out.trans (hb3.mono Hb.out.size)); clear hb3; have Hr3 := Lib.hid hr3; clear hr3 Hk)
  | (go_at_call 11; (with_reducible refine (Hj.out _).mono ?_); rintro e w4 ⟨A4, c4, rfl, _, hr4, hb4⟩; replace Hr3 := Lib.hid (Hr3.out.onto hb4); replace Hb := Lib.hid (Hb.out.trans (hb4.mono Hb.out.size)); clear hb4; have Hr4 := Lib.hid hr4; clear hr4 Hj)
  | (go_at_call 12; (with_reducible refine (hs.out _ _ _ _ _ Hr3.out Hr4.out).mono ?_); rintro e w5 ⟨rfl, hb5⟩; replace Hb := Lib.hid (Hb.out.trans (hb5.mono Hb.out.size)); clear hb5; clear hs)
  | (go_at_call 7; refine (yaB _).mono ?_; rintro e w9 ⟨rfl, hb9⟩; replace Hb := Lib.hid (Hb.out.trans (hb9.mono Hb.out.size)); clear hb9))
 go_ret
 exact ⟨rfl, Hb.out⟩
theorem ygc (s : List UInt8) (w : World) :
  Calls Tryz.prog 3 #[.string ⟨s.toArray⟩] w fun e w' => e = .returned (.bool true) ∧ Below w.heap.size w w' := by
 by_cases h : s.length ≤ 400
 ·exact yga s w h
 ·exact yfU s w (by omega)
namespace SquashPacks
set_option maxRecDepth 100000 in
theorem lifted (os : Os) (started : os.Started) (H : Type) (enc : TypeId × Value → H) :
  ReturnsInHanded {} Tryz.checked os 3 .any (Rows.squashPacksSpec.pre6 enc Tryz.prog Tryz.f3 Rows.squashPacksRow.domain false) (Rows.squashPacksSpec.post enc Tryz.prog Tryz.f3 false true false false) := by
 refine yeW (C := Tryz.checked) (tb := 4) ownP started (by kernel_rfl) Tryz.func3
  (ChangeSpec.witness6 (enc := enc) (C := Tryz.checked) false ⟨#[], #[.string ⟨#[]⟩], []⟩ 8 (by kernel_rfl) (by kernel_rfl) (by kernel_rfl) (by kernel_rfl))
  laidP (by kernel_rfl) rfl (by kernel_rfl) Tryz.underlying4 (by intro ds h; match ds, h with | [_], _ => rfl) ?_
 intro W base args ds p hval0 hA0 hlt _
 have hval : ∀ (j : Nat) t v, Tryz.f3.params[j]? = some t → args[j]? = some v → Value.okWide Tryz.prog W .any base t v := hval0
 have hA : DataW.TrodAll enc Tryz.prog W 0 (fun _ => true) true Tryz.f3.params.toList args.toList ds p := hA0
 rw [Tryz.params3] at hA hval
 obtain ⟨v0, d0, rfl, rfl, h0⟩ := trodAll_one hA
 obtain ⟨s, rfl, rfl⟩ := ydB Tryz.underlying9 (hval 0 9 v0 rfl rfl) h0
 exact ygc s W
theorem holds : Rows.SquashPacksSaid :=
 OpenClaim.holds_of_wide 3 Tryz.f3 rfl rfl rfl rfl rfl rfl rfl ⟨rfl, rfl, rfl, rfl, rfl⟩ rfl rfl rfl rfl rfl (by kernel_rfl) Tryz.func3 (by kernel_rfl)
  (of_decide_eq_true (by kernel_rfl)) (by unfold Func.isWrapper; first | (rw [if_pos (by decide +kernel)]; kernel_rfl) | (rw [if_neg (by decide +kernel)]; exact ⟨rfl, rfl⟩))
  (fun os started H enc _ => lifted os started H enc)
end SquashPacks
end Go.Proofs.YtoinjdmlembgeaaGreat
