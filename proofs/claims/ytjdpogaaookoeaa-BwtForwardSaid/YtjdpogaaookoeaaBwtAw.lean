/-
  Layer 13: the probe that each statement of the layer asks beside itself returns true.
-/
import Derived.Test.YtjdpogaaookoeaaBwtX
namespace Go.Proofs.Ytjdpogaaookoeaa
set_option linter.unusedSimpArgs false
set_option linter.unusedVariables false
open Go.ChangeShapes Go.WideShapes Go.ChangeAt Go.RowKit Go.Joins Go.Deep
theorem waw_1 : btF [98, 97, 110, 97, 110, 97] = ([97, 110, 110, 98, 97, 97], 4, 0) := by decide +kernel
theorem waw_2 : biF [97, 110, 110, 98, 97, 97] 4 = ([98, 97, 110, 97, 110, 97], 0) := by decide +kernel
theorem waw_3 : biF [97, 98] 1 = ([], 130) := by decide +kernel
theorem waw_4 : btF [] = ([], 0, 0) := by decide +kernel
theorem waw_5 : biF [] 0 = ([], 0) := by decide +kernel
theorem waw_6 : biF [] 1 = ([], 130) := by decide +kernel
set_option maxRecDepth 100000 in
set_option maxHeartbeats 4000000 in
theorem awake13_any (w : World) : Calls Try.prog 8 #[] w fun e w' => e = .returned (.bool true) ∧ Below w.heap.size w w' := by
  have P1 : Hid (∀ w, Calls Try.prog 9 #[.string ⟨#[98, 97, 110, 97, 110, 97]⟩] w fun r w' => r = .returned (.tuple #[.string ⟨#[97, 110, 110, 98, 97, 97]⟩, .int .i64 4, .int .i64 0]) ∧ Below w.heap.size w w') := Lib.hid fun w => by
    have := p_bforward_any [98, 97, 110, 97, 110, 97] w (by decide)
    rwa [waw_1] at this
  have P2 : Hid (∀ w, Calls Try.prog 11 #[.string ⟨#[97, 110, 110, 98, 97, 97]⟩, .int .i64 4] w fun r w' => r = .returned (.tuple #[.string ⟨#[98, 97, 110, 97, 110, 97]⟩, .int .i64 0]) ∧ Below w.heap.size w w') := Lib.hid fun w => by
    have := p_binverse_any [97, 110, 110, 98, 97, 97] 4 w (by decide)
    rwa [waw_2] at this
  have P3 : Hid (∀ w, Calls Try.prog 11 #[.string ⟨#[97, 98]⟩, .int .i64 1] w fun r w' => r = .returned (.tuple #[.string ⟨#[]⟩, .int .i64 130]) ∧ Below w.heap.size w w') := Lib.hid fun w => by
    have := p_binverse_any [97, 98] 1 w (by decide)
    rwa [waw_3] at this
  have P4 : Hid (∀ w, Calls Try.prog 9 #[.string ⟨#[]⟩] w fun r w' => r = .returned (.tuple #[.string ⟨#[]⟩, .int .i64 0, .int .i64 0]) ∧ Below w.heap.size w w') := Lib.hid fun w => by
    have := p_bforward_any [] w (by decide)
    rwa [waw_4] at this
  have P5 : Hid (∀ w, Calls Try.prog 11 #[.string ⟨#[]⟩, .int .i64 0] w fun r w' => r = .returned (.tuple #[.string ⟨#[]⟩, .int .i64 0]) ∧ Below w.heap.size w w') := Lib.hid fun w => by
    have := p_binverse_any [] 0 w (by decide)
    rwa [waw_5] at this
  have P6 : Hid (∀ w, Calls Try.prog 11 #[.string ⟨#[]⟩, .int .i64 1] w fun r w' => r = .returned (.tuple #[.string ⟨#[]⟩, .int .i64 130]) ∧ Below w.heap.size w w') := Lib.hid fun w => by
    have := p_binverse_any [] 1 w (by decide)
    rwa [waw_6] at this
  go_enter Try.func8, Try.ntmps8
  go_wp2_with (first
    | (go_at_call 9; (with_reducible refine (P1.out _).mono ?_); rintro e w1 ⟨rfl, hb1⟩; have Hb := Lib.hid hb1; clear hb1 P1)
    | (go_at_call 11; (with_reducible refine (P2.out _).mono ?_); rintro e w2 ⟨rfl, hb2⟩; replace Hb := Lib.hid (Hb.out.trans (hb2.mono Hb.out.size)); clear hb2 P2)
    | (go_at_call 11; (with_reducible refine (P3.out _).mono ?_); rintro e w3 ⟨rfl, hb3⟩; replace Hb := Lib.hid (Hb.out.trans (hb3.mono Hb.out.size)); clear hb3 P3)
    | (go_at_call 9; (with_reducible refine (P4.out _).mono ?_); rintro e w4 ⟨rfl, hb4⟩; replace Hb := Lib.hid (Hb.out.trans (hb4.mono Hb.out.size)); clear hb4 P4)
    | (go_at_call 11; (with_reducible refine (P5.out _).mono ?_); rintro e w5 ⟨rfl, hb5⟩; replace Hb := Lib.hid (Hb.out.trans (hb5.mono Hb.out.size)); clear hb5 P5)
    | (go_at_call 11; (with_reducible refine (P6.out _).mono ?_); rintro e w6 ⟨rfl, hb6⟩; replace Hb := Lib.hid (Hb.out.trans (hb6.mono Hb.out.size)); clear hb6 P6))
  go_ret
  exact ⟨rfl, Hb.out⟩
end Go.Proofs.Ytjdpogaaookoeaa
