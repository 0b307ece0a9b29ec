/-
  Layer 18: the probe that each statement of the layer asks beside itself returns true.
-/
import Derived.Test.YtmejcckbbcgmnaaDoorNamX
namespace Go.Proofs.YtmejcckbbcgmnaaDoor
set_option linter.unusedSimpArgs false
set_option linter.unusedVariables false
open Go.ChangeShapes Go.WideShapes Go.ChangeAt Go.RowKit Go.Joins Go.Deep
theorem naw_seg : nsegF 12 3 = ([115, 101, 103, 45, 48, 48, 48, 48, 49, 50, 45, 48, 48, 48, 48, 48, 51, 46, 108, 111, 103], 0) := by decide +kernel
theorem naw_par : nparF [115, 101, 103, 45, 48, 48, 48, 48, 49, 50, 45, 48, 48, 48, 48, 48, 51, 46, 108, 111, 103] = (12, 3, true) := by decide +kernel
theorem naw_no : nsegF 0 3 = ([], 2) := by decide +kernel
theorem naw_c1 : nchkF [97, 32, 66] = 180 := by decide +kernel
theorem naw_c2 : nchkF [97, 46, 98, 45, 49] = 0 := by decide +kernel
theorem naw_k1 : nkindF [115, 101, 103, 45, 48, 48, 48, 48, 49, 50, 45, 48, 48, 48, 48, 48, 51, 46, 108, 111, 103] = 1 := by decide +kernel
theorem naw_k2 : nkindF [109, 97, 110, 105, 102, 101, 115, 116] = 2 := by decide +kernel
set_option maxRecDepth 100000 in
set_option maxHeartbeats 4000000 in
theorem awake18_any (w : World) (ht : NTab w) : Calls Tryd.prog 6 #[] w fun e w' => e = .returned (.bool true) ∧ Below w.heap.size w w' := by
  have P1 : Hid (∀ w, NTab w → Calls Tryd.prog 9 #[.int .i64 12, .int .i64 3] w fun e w' => e = .returned (.tuple #[.string ⟨#[115, 101, 103, 45, 48, 48, 48, 48, 49, 50, 45, 48, 48, 48, 48, 48, 51, 46, 108, 111, 103]⟩, .int .i64 0]) ∧ Below w.heap.size w w') := Lib.hid fun w hw => by
    have := p_nseg_any 12 3 w hw
    rwa [naw_seg] at this
  have P2 : Hid (∀ w, NTab w → Calls Tryd.prog 7 #[.string ⟨#[115, 101, 103, 45, 48, 48, 48, 48, 49, 50, 45, 48, 48, 48, 48, 48, 51, 46, 108, 111, 103]⟩] w fun e w' => e = .returned (.tuple #[.int .i64 12, .int .i64 3, .bool true]) ∧ Below w.heap.size w w') := Lib.hid fun w hw => by
    have := p_npar_any [115, 101, 103, 45, 48, 48, 48, 48, 49, 50, 45, 48, 48, 48, 48, 48, 51, 46, 108, 111, 103] w (by decide) hw
    unfold NPost at this
    rwa [naw_par] at this
  have P3 : Hid (∀ w, NTab w → Calls Tryd.prog 9 #[.int .i64 0, .int .i64 3] w fun e w' => e = .returned (.tuple #[.string ⟨#[]⟩, .int .i64 2]) ∧ Below w.heap.size w w') := Lib.hid fun w hw => by
    have := p_nseg_any 0 3 w hw
    rwa [naw_no] at this
  have P4 : Hid (∀ w, Calls Tryd.prog 11 #[.string ⟨#[97, 32, 66]⟩] w fun e w' => e = .returned (.int .i64 180) ∧ Below w.heap.size w w') := Lib.hid fun w => by
    have := p_nchk_any [97, 32, 66] w (by decide)
    rwa [naw_c1] at this
  have P5 : Hid (∀ w, Calls Tryd.prog 11 #[.string ⟨#[97, 46, 98, 45, 49]⟩] w fun e w' => e = .returned (.int .i64 0) ∧ Below w.heap.size w w') := Lib.hid fun w => by
    have := p_nchk_any [97, 46, 98, 45, 49] w (by decide)
    rwa [naw_c2] at this
  have P6 := Lib.hid p_nmani_any
  have P7 := Lib.hid p_ntemp_any
  have P8 : Hid (∀ w, NTab w → Calls Tryd.prog 13 #[.string ⟨#[115, 101, 103, 45, 48, 48, 48, 48, 49, 50, 45, 48, 48, 48, 48, 48, 51, 46, 108, 111, 103]⟩] w fun e w' => e = .returned (.int .i64 1) ∧ Below w.heap.size w w') := Lib.hid fun w hw => by
    have := p_nkind_any [115, 101, 103, 45, 48, 48, 48, 48, 49, 50, 45, 48, 48, 48, 48, 48, 51, 46, 108, 111, 103] w (by decide) hw
    rwa [naw_k1] at this
  have P9 : Hid (∀ w, NTab w → Calls Tryd.prog 13 #[.string ⟨#[109, 97, 110, 105, 102, 101, 115, 116]⟩] w fun e w' => e = .returned (.int .i64 2) ∧ Below w.heap.size w w') := Lib.hid fun w hw => by
    have := p_nkind_any [109, 97, 110, 105, 102, 101, 115, 116] w (by decide) hw
    rwa [naw_k2] at this
  unfold nmani at P6
  unfold ntemp at P7
  have HT := Lib.hid ht
  clear ht
  have Hb := Lib.hid (Below.refl w.heap.size w)
  go_enter Tryd.func6, Tryd.ntmps6
  go_wp2_with (first
    | (go_at_call 9; (with_reducible refine (P1.out _ (HT.out.of Hb.out)).mono ?_); rintro e w1 ⟨rfl, hb1⟩; replace Hb := Lib.hid (Hb.out.trans (hb1.mono Hb.out.size)); clear hb1; clear P1)
    | (go_at_call 7; (with_reducible refine (P2.out _ (HT.out.of Hb.out)).mono ?_); rintro e w2 ⟨rfl, hb2⟩; replace Hb := Lib.hid (Hb.out.trans (hb2.mono Hb.out.size)); clear hb2; clear P2)
    | (go_at_call 9; (with_reducible refine (P3.out _ (HT.out.of Hb.out)).mono ?_); rintro e w3 ⟨rfl, hb3⟩; replace Hb := Lib.hid (Hb.out.trans (hb3.mono Hb.out.size)); clear hb3; clear P3)
    | (go_at_call 11; (with_reducible refine (P4.out _).mono ?_); rintro e w4 ⟨rfl, hb4⟩; replace Hb := Lib.hid (Hb.out.trans (hb4.mono Hb.out.size)); clear hb4; clear P4)
    | (go_at_call 11; (with_reducible refine (P5.out _).mono ?_); rintro e w5 ⟨rfl, hb5⟩; replace Hb := Lib.hid (Hb.out.trans (hb5.mono Hb.out.size)); clear hb5; clear P5)
    | (go_at_call 15; (with_reducible refine (P6.out _).mono ?_); rintro e w6 ⟨rfl, hb6⟩; replace Hb := Lib.hid (Hb.out.trans (hb6.mono Hb.out.size)); clear hb6; clear P6)
    | (go_at_call 16; (with_reducible refine (P7.out _).mono ?_); rintro e w7 ⟨rfl, hb7⟩; replace Hb := Lib.hid (Hb.out.trans (hb7.mono Hb.out.size)); clear hb7; clear P7)
    | (go_at_call 13; (with_reducible refine (P8.out _ (HT.out.of Hb.out)).mono ?_); rintro e w8 ⟨rfl, hb8⟩; replace Hb := Lib.hid (Hb.out.trans (hb8.mono Hb.out.size)); clear hb8; clear P8)
    | (go_at_call 13; (with_reducible refine (P9.out _ (HT.out.of Hb.out)).mono ?_); rintro e w10 ⟨rfl, hb10⟩; replace Hb := Lib.hid (Hb.out.trans (hb10.mono Hb.out.size)); clear hb10; clear P9)
    | fail)
  go_ret
  exact ⟨rfl, Hb.out⟩
end Go.Proofs.YtmejcckbbcgmnaaDoor
