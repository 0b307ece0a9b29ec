/-
 What was packed is unpacked; packed bytes that are cut, or have something behind them, are none's; the layer's probe holds (SquashBack). No condition.
-/
import Derived.Test.YtanjhbkbpalnaaaGreatMa50
set_option maxRecDepth 100000
set_option maxHeartbeats 8000000
open Go.Proofs.Tryz
namespace Go.Proofs.YtanjhbkbpalnaaaGreat
set_option linter.unusedSimpArgs false
set_option linter.unusedVariables false
open Go.ChangeShapes Go.WideShapes Go.ChangeAt Go.RowKit Go.Joins Go.Deep
theorem q_head (l : List UInt8) (p : Nat) (hp : p ≤ l.length) (w : World) :
  (Instr.slice 9 (.string ⟨l.toArray⟩) none (some (.int .i64 (p : Int))) none).run prog w = .ok (.string ⟨(l.take p).toArray⟩) w := by
 rw [run_slice_string_h w 9 ⟨l.toArray⟩ underlying9 .i64 (p : Int) (by omega) (by rw [qaL, qa3]; omega), qce, qbi, qc1, qan]
theorem ygV (s b : List UInt8) (w : World) (h : 2000 < s.length) :
  Calls prog 4 #[.string ⟨s.toArray⟩, .string ⟨b.toArray⟩] w fun e w' => e = .returned (.bool true) ∧ Below w.heap.size w w' := by
 have h1 : (2000 : Int) < s.length := by omega
 go_enter func4, ntmps4
 go_wp2_with (go_at_call 12; refine (ya9 _).mono ?_; rintro e w9 ⟨rfl, hb9⟩)
 go_ret
 exact ⟨rfl, hb9⟩
theorem yh9 (s b : List UInt8) (w : World) (h : s.length ≤ 2000) (h2 : 100 < b.length) :
  Calls prog 4 #[.string ⟨s.toArray⟩, .string ⟨b.toArray⟩] w fun e w' => e = .returned (.bool true) ∧ Below w.heap.size w w' := by
 have h1 : ¬ (2000 : Int) < s.length := by omega
 have h3 : (100 : Int) < b.length := by omega
 go_enter func4, ntmps4
 go_wp2_with (go_at_call 12; refine (ya9 _).mono ?_; rintro e w9 ⟨rfl, hb9⟩)
 go_ret
 exact ⟨rfl, hb9⟩
theorem yha (s b : List UInt8) (w : World) (h : s.length ≤ 2000) (h2 : b.length ≤ 100) (E4 : Int) (hE4 : (quF (qB s ++ b)).2 = E4) (hb4 : b.isEmpty = (E4 == 0)) :
  Calls prog 4 #[.string ⟨s.toArray⟩, .string ⟨b.toArray⟩] w fun e w' => e = .returned (.bool true) ∧ Below w.heap.size w w' := by
 have h1 : ¬ (2000 : Int) < s.length := by omega
 have h3 : ¬ (100 : Int) < b.length := by omega
 have hp := yd5 s w (by omega)
 have hpos := qB_pos s
 have hle := qB_len s (by omega)
 have hu1 := fun W => yaI (qB s) W (by omega)
 rw [qback s (by omega)] at hu1
 obtain ⟨p, hpx⟩ : ∃ p, p + 1 = (qB s).length := ⟨(qB s).length - 1, by omega⟩
 have hcu := qcut s p (by omega) hpx
 have hu2 := fun W => yaI ((qB s).take p) W (by rw [qao]; omega)
 have hu3 := fun W => yaI (qB s ++ b) W (by rw [qab]; omega)
 have hadd := fun w => q_add (qB s) b (by omega) w
 have thd := fun w => q_head (qB s) p (by omega) w
 unfold yeb at hu1 hu2 hu3
 rw [hE4] at hu3
 dsimp only at hu1
 generalize (quF (qB s ++ b)).1 = L4 at *
 generalize (quF ((qB s).take p)).1 = L3 at *
 generalize (quF ((qB s).take p)).2 = E3 at *
 have Hp := qaa hp
 have Hu1 := qaa hu1
 have Hu2 := qaa hu2
 have Hu3 := qaa hu3
 clear hE4
 generalize qB s = X at *
 have hxi : (4 : Int) ≤ (X.length : Int) ∧ (X.length : Int) ≤ 200000 := by omega
 have hx4 : ¬ (X.length : Int) < 4 := by omega
 have hsub : (X.length : Int) - 1 = (p : Int) := by omega
 have hw1 : IntKind.i64.wrap ((X.length : Int) - 1) = (p : Int) := by rw [qal]; omega
 have hw2 : IntKind.i64.wrap (p : Int) = (p : Int) := by rw [qal]; omega
 have hpi : (0 : Int) ≤ (p : Int) ∧ (p : Int) ≤ (X.length : Int) := by omega
 have hb1 : (E3 == 0) = false := by simpa using hcu
 have hb2 : (E3 != 0) = true := by simpa using hcu
 clear h h2 hp hu1 hu2 hu3 hpx hcu hpos hle
 go_enter func4, ntmps4
 go_wp2_with (first
  | (go_at_call 13; (with_reducible refine Hp.out.mono ?_); rintro e w1 ⟨rfl, hb1⟩; have Hb := qaa hb1; clear hb1)
  | (go_at_call 18; (with_reducible refine (Hu1.out _).mono ?_); rintro e w2 ⟨rfl, hb2⟩; replace Hb := qaa (Hb.out.trans (hb2.mono Hb.out.size)); clear hb2)
  | (go_at_call 18; (with_reducible refine (Hu2.out _).mono ?_); rintro e w3 ⟨rfl, hb3⟩; replace Hb := qaa (Hb.out.trans (hb3.mono Hb.out.size)); clear hb3)
  | (go_at_call 18; (with_reducible refine (Hu3.out _).mono ?_); rintro e w4 ⟨rfl, hb4⟩; replace Hb := qaa (Hb.out.trans (hb4.mono Hb.out.size)); clear hb4)
  | (go_at_call 12; refine (ya9 _).mono ?_; rintro e w9 ⟨rfl, hb9⟩; replace Hb := qaa (Hb.out.trans (hb9.mono Hb.out.size)); clear hb9))
 go_ret
 exact ⟨rfl, Hb.out⟩
theorem yhi (s b : List UInt8) (w : World) :
  Calls prog 4 #[.string ⟨s.toArray⟩, .string ⟨b.toArray⟩] w fun e w' => e = .returned (.bool true) ∧ Below w.heap.size w w' := by
 by_cases h : s.length ≤ 2000
 ·by_cases h2 : b.length ≤ 100
  ·refine yha s b w h h2 _ rfl ?_
   cases b with
   | nil =>
    rw [qa8, qback s (by omega)]
    rfl
   | cons x t =>
    have := qpad s (x :: t) (by omega) (by simp)
    rw [qb0.2 this]
    rfl
  ·exact yh9 s b w h (by omega)
 ·exact ygV s b w (by omega)
namespace SquashBack
theorem lifted (os : Os) (started : os.Started) (H : Type) (enc : TypeId × Value → H) :
  ReturnsInHanded {} Tryz.checked os 4 .any (Rows.squashBackSpec.pre6 enc prog Tryz.f4 Rows.squashBackRow.domain false) (Rows.squashBackSpec.post enc prog Tryz.f4 false true false false) := by
 refine ye9 (C := Tryz.checked) (tb := 4) ownP started (by kernel_rfl) func4
  (ChangeSpec.witness6 (enc := enc) (C := Tryz.checked) false ⟨#[], #[.string ⟨#[]⟩, .string ⟨#[]⟩], []⟩ 8 (by kernel_rfl) (by kernel_rfl) (by kernel_rfl) (by kernel_rfl))
  laidP (by kernel_rfl) rfl (by kernel_rfl) underlying4 (by intro ds h; match ds, h with | [_, _], _ => rfl) ?_
 intro W base args ds p hval0 hA0 hlt _
 have hval : ∀ (j : Nat) t v, Tryz.f4.params[j]? = some t → args[j]? = some v → Value.okWide prog W .any base t v := hval0
 have hA : DataW.TrodAll enc prog W 0 (fun _ => true) true Tryz.f4.params.toList args.toList ds p := hA0
 rw [Tryz.params4] at hA hval
 obtain ⟨v0, v1, d0, d1, p0, p1, rfl, rfl, rfl, h0, h1⟩ := trodAll_two hA
 obtain ⟨s, rfl, rfl⟩ := ydq underlying9 (hval 0 9 v0 rfl rfl) h0
 obtain ⟨b, rfl, rfl⟩ := ydq underlying9 (hval 1 9 v1 rfl rfl) h1
 exact yhi s b W
theorem holds : Rows.SquashBackSaid :=
 OpenClaim.holds_of_wide 4 Tryz.f4 rfl rfl rfl rfl rfl rfl rfl ⟨rfl, rfl, rfl, rfl, rfl⟩ rfl rfl rfl rfl rfl (by kernel_rfl) func4 (by kernel_rfl)
  (qbM (by kernel_rfl)) (by unfold Func.isWrapper; first | (rw [qag (by decide +kernel)]; kernel_rfl) | (rw [qae (by decide +kernel)]; exact ⟨rfl, rfl⟩))
  (fun os started H enc _ => lifted os started H enc)
end SquashBack
end Go.Proofs.YtanjhbkbpalnaaaGreat
