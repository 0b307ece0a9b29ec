/-
  Layer 15: the probe that each statement of the layer asks beside itself returns true.
-/
import Derived.Test.YtckengcphaaohaaRecX
namespace Go.Proofs.Ytckengcphaaohaa
set_option linter.unusedSimpArgs false
set_option linter.unusedVariables false
open Go.ChangeShapes Go.WideShapes Go.ChangeAt Go.RowKit Go.Joins Go.Deep
theorem raw_put : rputF (1, 300, [104, 105]) = ([1, 172, 2, 2, 104, 105], 0) := by decide +kernel
theorem raw_get : rgetF [120, 1, 172, 2, 2, 104, 105] 1 = ((1, 300, [104, 105]), 7, 0) := by decide +kernel
theorem raw_split : rsplitF [1, 172, 2, 2, 104, 105, 2, 172, 2, 0] = ([(1, 300, [104, 105]), (2, 300, [])], 0) := by decide +kernel
theorem raw_split2 : rsplitF [1, 172, 2, 2, 104, 105, 1, 172, 2, 2, 104, 105] = ([], 151) := by decide +kernel
theorem raw_join : rjoinF [(1, 300, [104, 105])] = ([1, 172, 2, 2, 104, 105], 0) := by decide +kernel
theorem raw_size : rsizeF (1, 300, [104, 105]) = 6 := by decide +kernel
theorem raw_chk : rchk (0, 0, []) = 150 := by decide +kernel
set_option maxRecDepth 100000 in
set_option maxHeartbeats 4000000 in
theorem awake15_any (w : World) : Calls Try.prog 8 #[] w fun e w' => e = .returned (.bool true) ∧ Below w.heap.size w w' := by
  have P1 : Hid (∀ w, Calls Try.prog 9 #[.agg #[.int .i64 1, .int .i64 300, .string ⟨#[104, 105]⟩]] w fun r w' => r = .returned (.tuple #[.string ⟨#[1, 172, 2, 2, 104, 105]⟩, .int .i64 0]) ∧ Below w.heap.size w w') := Lib.hid fun w => by
    have := p_rput_any 1 300 [104, 105] w
    rwa [raw_put] at this
  have P2 : Hid (∀ w, Calls Try.prog 11 #[.string ⟨#[120, 1, 172, 2, 2, 104, 105]⟩, .int .i64 1] w fun r w' => r = .returned (.tuple #[.agg #[.int .i64 1, .int .i64 300, .string ⟨#[104, 105]⟩], .int .i64 7, .int .i64 0]) ∧ Below w.heap.size w w') := Lib.hid fun w => by
    have := p_rget_any [120, 1, 172, 2, 2, 104, 105] 1 w (by decide)
    rwa [raw_get] at this
  have P3 : Hid (∀ w, Calls Try.prog 19 #[.string ⟨#[1, 172, 2, 2, 104, 105, 2, 172, 2, 0]⟩] w fun r w' => ∃ b off c, r = .returned (.tuple #[.slice (some ⟨b, off, none⟩) 2 c, .int .i64 0]) ∧ b < w'.heap.size ∧ w'.cell? ⟨b, off + 3, none⟩ = some (.int .i64 2) ∧ Below w.heap.size w w') := Lib.hid fun w => by
    refine (p_rsplit_any [1, 172, 2, 2, 104, 105, 2, 172, 2, 0] w (by decide)).mono ?_
    rw [raw_split]
    rintro r w' ⟨A, c, rfl, _, hr, hb⟩
    obtain ⟨b, off, rfl, hlt, hc⟩ := hr.2 (by decide)
    exact ⟨b, off, c, rfl, hlt, hc 3 _ rfl, hb⟩
  have P4 : Hid (∀ w, Calls Try.prog 19 #[.string ⟨#[1, 172, 2, 2, 104, 105, 1, 172, 2, 2, 104, 105]⟩] w fun r w' => ∃ A c, r = .returned (.tuple #[.slice A 0 c, .int .i64 151]) ∧ Below w.heap.size w w') := Lib.hid fun w => by
    refine (p_rsplit_any [1, 172, 2, 2, 104, 105, 1, 172, 2, 2, 104, 105] w (by decide)).mono ?_
    rw [raw_split2]
    rintro r w' ⟨A, c, rfl, _, hr, hb⟩
    exact ⟨A, c, rfl, hb⟩
  have P5 : Hid (∀ w, Calls Try.prog 17 #[.slice (some ⟨w.heap.size, 0, none⟩) 1 1] (w.alloc (.cells #[.int .i64 1, .int .i64 300, .string ⟨#[104, 105]⟩] 23)) fun r w' => r = .returned (.tuple #[.string ⟨#[1, 172, 2, 2, 104, 105]⟩, .int .i64 0]) ∧ Below w.heap.size w w') := Lib.hid fun w => by
    refine (p_rjoin_any [(1, 300, [104, 105])] _ 1 1 _ rfl (by decide) (rfresh (1, 300, [104, 105]) w)).mono ?_
    rw [raw_join]
    rintro r w' ⟨rfl, hb⟩
    exact ⟨rfl, ((Below.refl _ _).alloc (Nat.le_refl _) _).trans (hb.mono (by simp))⟩
  have P6 : Hid (∀ w, Calls Try.prog 15 #[.agg #[.int .i64 1, .int .i64 300, .string ⟨#[104, 105]⟩]] w fun r w' => r = .returned (.int .i64 6) ∧ Below w.heap.size w w') := Lib.hid fun w => by
    have := p_rsize_any 1 300 [104, 105] w
    rwa [raw_size] at this
  have P7 : Hid (∀ w, Calls Try.prog 13 #[.agg #[.int .i64 0, .int .i64 0, .string ⟨#[]⟩]] w fun r w' => r = .returned (.int .i64 150) ∧ Below w.heap.size w w') := Lib.hid fun w => by
    have := p_rcheck_any 0 0 [] w
    rwa [raw_chk] at this
  have P8 : Hid (∀ w, Calls Try.prog 21 #[.slice none 0 0] w fun r w' => r = .returned (.int .i64 0) ∧ Below w.heap.size w w') := Lib.hid fun w => p_rrow_any [] none 0 0 w rfl (by decide) Reads.none_
  have g1 := fun W => rstr_add [120] [1, 172, 2, 2, 104, 105] (by decide) W
  have g2 := fun W => rstr_add [1, 172, 2, 2, 104, 105] [2, 172, 2, 0] (by decide) W
  have g3 := fun W => rstr_add [1, 172, 2, 2, 104, 105] [1, 172, 2, 2, 104, 105] (by decide) W
  have heq := fun W => rrec_same 1 300 [104, 105] W
  have hgu := rrec_guard
  simp only [List.cons_append, List.nil_append] at g1 g2 g3
  have HR0 := Lib.hid (Blk.new w 23 #[.int .i64 1, .int .i64 300, .string ⟨#[104, 105]⟩])
  have Hb0 := Lib.hid ((Below.refl w.heap.size w).alloc (Nat.le_refl _) (.cells #[.int .i64 1, .int .i64 300, .string ⟨#[104, 105]⟩] 23))
  go_enter Try.func8, Try.ntmps8
  go_wp2_with (first
    | (go_at_call 9; (with_reducible refine (P1.out _).mono ?_); rintro e w1 ⟨rfl, hb1⟩; have Hb := Lib.hid (Hb0.out.trans (hb1.mono Hb0.out.size)); have HR1 := Lib.hid (HR0.out.below hb1 HR0.out.lt); clear hb1 P1)
    | (go_at_call 11; (with_reducible refine (P2.out _).mono ?_); rintro e w2 ⟨rfl, hb2⟩; replace Hb := Lib.hid (Hb.out.trans (hb2.mono Hb.out.size)); have HR2 := Lib.hid (HR1.out.below hb2 HR1.out.lt); replace Hb := Lib.hid (Hb.out.alloc Hb.out.size (.cells #[.int .i64 1, .int .i64 300, .string ⟨#[104, 105]⟩] 23)); have HQ2 := Lib.hid (Blk.new w2 23 #[.int .i64 1, .int .i64 300, .string ⟨#[104, 105]⟩]); replace HR2 := Lib.hid (HR2.out.alloc (.cells #[.int .i64 1, .int .i64 300, .string ⟨#[104, 105]⟩] 23)); clear hb2 P2)
    | (go_at_call 19; (with_reducible refine (P3.out _).mono ?_); rintro e w3 ⟨b3, o3, k3, rfl, lt3, x3, hb3⟩; replace Hb := Lib.hid (Hb.out.trans (hb3.mono Hb.out.size)); have HR3 := Lib.hid (HR2.out.below hb3 HR2.out.lt); have HQ3 := Lib.hid (HQ2.out.below hb3 HQ2.out.lt); clear hb3 P3)
    | (go_at_call 19; (with_reducible refine (P4.out _).mono ?_); rintro e w4 ⟨A4, k4, rfl, hb4⟩; replace Hb := Lib.hid (Hb.out.trans (hb4.mono Hb.out.size)); have HR4 := Lib.hid (HR3.out.below hb4 HR3.out.lt); have HQ4 := Lib.hid (HQ3.out.below hb4 HQ3.out.lt); have x4 := (hb4.cell (p := ⟨b3, o3 + 3, none⟩) lt3).trans x3; have lt4 : b3 < w4.heap.size := Nat.lt_of_lt_of_le lt3 hb4.size; have y0 : w4.cell? ⟨w.heap.size, 0, none⟩ = some (.int .i64 1) := HR4.out.cell 0; have y1 : w4.cell? ⟨w.heap.size, 1, none⟩ = some (.int .i64 300) := HR4.out.cell 1; have y2 : w4.cell? ⟨w.heap.size, 2, none⟩ = some (.string ⟨#[104, 105]⟩) := HR4.out.cell 2; clear hb4 P4 x3)
    | (go_at_call 17; (with_reducible refine (P5.out _).mono ?_); rintro e w5 ⟨rfl, hb5⟩; replace Hb := Lib.hid (Hb.out.trans (hb5.mono Hb.out.size)); have HR5 := Lib.hid (HR4.out.below hb5 HR4.out.lt); have HQ5 := Lib.hid (HQ4.out.below hb5 HQ4.out.lt); have x5 := (hb5.cell (p := ⟨b3, o3 + 3, none⟩) lt4).trans x4; have u0 : w5.cell? ⟨w.heap.size, 0, none⟩ = some (.int .i64 1) := HR5.out.cell 0; have u1 : w5.cell? ⟨w.heap.size, 1, none⟩ = some (.int .i64 300) := HR5.out.cell 1; have u2 : w5.cell? ⟨w.heap.size, 2, none⟩ = some (.string ⟨#[104, 105]⟩) := HR5.out.cell 2; have q0 : w5.cell? ⟨w2.heap.size, 0, none⟩ = some (.int .i64 1) := HQ5.out.cell 0; have q1 : w5.cell? ⟨w2.heap.size, 1, none⟩ = some (.int .i64 300) := HQ5.out.cell 1; have q2 : w5.cell? ⟨w2.heap.size, 2, none⟩ = some (.string ⟨#[104, 105]⟩) := HQ5.out.cell 2; clear hb5 P5 x4 y0 y1 y2)
    | (go_at_call 15; (with_reducible refine (P6.out _).mono ?_); rintro e w6 ⟨rfl, hb6⟩; replace Hb := Lib.hid (Hb.out.trans (hb6.mono Hb.out.size)); clear hb6; clear P6)
    | (go_at_call 13; (with_reducible refine (P7.out _).mono ?_); rintro e w7 ⟨rfl, hb7⟩; replace Hb := Lib.hid (Hb.out.trans (hb7.mono Hb.out.size)); clear hb7; clear P7)
    | (go_at_call 21; (with_reducible refine (P8.out _).mono ?_); rintro e w8 ⟨rfl, hb8⟩; replace Hb := Lib.hid (Hb.out.trans (hb8.mono Hb.out.size)); clear hb8; clear P8))
  go_ret
  exact ⟨rfl, Hb.out⟩
end Go.Proofs.Ytckengcphaaohaa
