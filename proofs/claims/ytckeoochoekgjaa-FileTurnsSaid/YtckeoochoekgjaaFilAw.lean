/-
  Layer 19: the probe that each statement of the layer asks beside itself returns true.
-/
import Derived.Test.YtckeoochoekgjaaFilY
namespace Go.Proofs.Ytckeoochoekgjaa
set_option linter.unusedSimpArgs false
set_option linter.unusedVariables false
open Go.ChangeShapes Go.WideShapes Go.ChangeAt Go.RowKit Go.Joins Go.Deep
theorem flaw_app : flappF ([97, 98], [97, 98, 99, 100, 101, 102]) [103] = (([97, 98], [97, 98, 99, 100, 101, 102, 103]), 0) := by decide +kernel
theorem flaw_cut1 : flcutF ([97, 98], [97, 98, 99, 100, 101, 102]) 1 = (([97, 98], [97]), 0) := by decide +kernel
theorem flaw_cut7 : flcutF ([97, 98], [97, 98, 99, 100, 101, 102]) 7 = (([], []), 2) := by decide +kernel
theorem flaw_fall3 : flleft ([97, 98], [97, 98, 99, 100, 101, 102]) 3 [120] = [97, 98, 99, 100, 120] := by decide +kernel
theorem flaw_fall0 : flleft ([97, 98], [97]) 0 [] = [97, 98] := by decide +kernel
theorem flaw_fall1 : flleft ([97, 98], [97]) 1 [] = [97] := by decide +kernel
theorem flaw_loose : decide (([97, 98] : List UInt8) ≠ [97, 98, 99, 100, 101, 102]) = true := by decide +kernel
set_option maxRecDepth 100000 in
set_option maxHeartbeats 4000000 in
theorem awake19_any (w : World) : Calls Try.prog 6 #[] w fun e w' => e = .returned (.bool true) ∧ Below w.heap.size w w' := by
  have P1 : Hid (∀ W, Calls Try.prog 7 #[.agg #[.string ⟨#[97, 98]⟩, .string ⟨#[97, 98, 99, 100, 101, 102]⟩], .string ⟨#[103]⟩] W fun e w' => e = .returned (.tuple #[.agg #[.string ⟨#[97, 98]⟩, .string ⟨#[97, 98, 99, 100, 101, 102, 103]⟩], .int .i64 0]) ∧ Below W.heap.size W w') := Lib.hid fun W => by
    have := p_flapp_any [97, 98] [97, 98, 99, 100, 101, 102] [103] W (by decide) (by decide)
    rw [flaw_app] at this
    exact this
  have P2 : Hid (∀ W, Calls Try.prog 9 #[.agg #[.string ⟨#[97, 98]⟩, .string ⟨#[97, 98, 99, 100, 101, 102]⟩], .int .i64 1] W fun e w' => e = .returned (.tuple #[.agg #[.string ⟨#[97, 98]⟩, .string ⟨#[97]⟩], .int .i64 0]) ∧ Below W.heap.size W w') := Lib.hid fun W => by
    have := p_flcut_any [97, 98] [97, 98, 99, 100, 101, 102] 1 W
    rw [flaw_cut1] at this
    exact this
  have P3 : Hid (∀ W, Calls Try.prog 9 #[.agg #[.string ⟨#[97, 98]⟩, .string ⟨#[97, 98, 99, 100, 101, 102]⟩], .int .i64 7] W fun e w' => e = .returned (.tuple #[.agg #[.string ⟨#[]⟩, .string ⟨#[]⟩], .int .i64 2]) ∧ Below W.heap.size W w') := Lib.hid fun W => by
    have := p_flcut_any [97, 98] [97, 98, 99, 100, 101, 102] 7 W
    rw [flaw_cut7] at this
    exact this
  have P4 : Hid (∀ W, Calls Try.prog 14 #[.agg #[.string ⟨#[97, 98]⟩, .string ⟨#[97, 98, 99, 100, 101, 102]⟩], .int .i64 3, .string ⟨#[120]⟩] W fun e w' => e = .returned (.agg #[.string ⟨#[97, 98, 99, 100, 120]⟩, .string ⟨#[97, 98, 99, 100, 120]⟩]) ∧ Below W.heap.size W w') := Lib.hid fun W => by
    have := p_flfall_any [97, 98] [97, 98, 99, 100, 101, 102] [120] 3 W (by decide) (by decide) (by decide)
    rw [flaw_fall3] at this
    exact this
  have P5 : Hid (∀ W, Calls Try.prog 12 #[.agg #[.string ⟨#[97, 98]⟩, .string ⟨#[97, 98, 99, 100, 101, 102]⟩]] W fun e w' => e = .returned (.agg #[.string ⟨#[97, 98, 99, 100, 101, 102]⟩, .string ⟨#[97, 98, 99, 100, 101, 102]⟩]) ∧ Below W.heap.size W w') := Lib.hid fun W => p_flsync_any [97, 98] [97, 98, 99, 100, 101, 102] W
  have P6 : Hid (∀ W, Calls Try.prog 16 #[.agg #[.string ⟨#[97, 98]⟩, .string ⟨#[97, 98, 99, 100, 101, 102]⟩]] W fun e w' => e = .returned (.bool true) ∧ Below W.heap.size W w') := Lib.hid fun W => by
    have := p_flloose_any [97, 98] [97, 98, 99, 100, 101, 102] W
    rw [flaw_loose] at this
    exact this
  have P7 : Hid (∀ W, Calls Try.prog 14 #[.agg #[.string ⟨#[97, 98]⟩, .string ⟨#[97]⟩], .int .i64 0, .string ⟨#[]⟩] W fun e w' => e = .returned (.agg #[.string ⟨#[97, 98]⟩, .string ⟨#[97, 98]⟩]) ∧ Below W.heap.size W w') := Lib.hid fun W => by
    have := p_flfall_any [97, 98] [97] [] 0 W (by decide) (by decide) (by decide)
    rw [flaw_fall0] at this
    exact this
  have P8 : Hid (∀ W, Calls Try.prog 14 #[.agg #[.string ⟨#[97, 98]⟩, .string ⟨#[97]⟩], .int .i64 1, .string ⟨#[]⟩] W fun e w' => e = .returned (.agg #[.string ⟨#[97]⟩, .string ⟨#[97]⟩]) ∧ Below W.heap.size W w') := Lib.hid fun W => by
    have := p_flfall_any [97, 98] [97] [] 1 W (by decide) (by decide) (by decide)
    rw [flaw_fall1] at this
    exact this
  have Hf := Lib.hid (Blk.new w 23 #[.string ⟨#[97, 98]⟩, .string ⟨#[97, 98, 99, 100, 101, 102]⟩])
  have HB := Lib.hid ((Below.refl w.heap.size w).alloc (Nat.le_refl _) (.cells #[.string ⟨#[97, 98]⟩, .string ⟨#[97, 98, 99, 100, 101, 102]⟩] 23))
  have heq := fun W => fl_equal [97, 98] [97, 98, 99, 100, 101, 102, 103] [97, 98] [97, 98, 99, 100, 101, 102, 103] W
  rw [decide_eq_true (⟨rfl, rfl⟩ : ([97, 98] : List UInt8) = [97, 98] ∧ ([97, 98, 99, 100, 101, 102, 103] : List UInt8) = [97, 98, 99, 100, 101, 102, 103])] at heq
  have hgu := fl_guard
  have hf0 := fl_f0
  have hf1 := fl_f1
  go_enter Try.func6, Try.ntmps6
  go_wp2_with (first
    | (go_at_call 7; (with_reducible refine (P1.out _).mono ?_); rintro e w1 ⟨rfl, hb⟩; replace Hf := Lib.hid (Hf.out.below hb Hf.out.lt); replace HB := Lib.hid (HB.out.trans (hb.mono HB.out.size)); clear hb; replace Hf := Lib.hid (Hf.out.alloc (.cells #[.string ⟨#[97, 98]⟩, .string ⟨#[97, 98, 99, 100, 101, 102, 103]⟩] 23)); replace HB := Lib.hid (HB.out.alloc HB.out.size (.cells #[.string ⟨#[97, 98]⟩, .string ⟨#[97, 98, 99, 100, 101, 102, 103]⟩] 23)); have Hg := Lib.hid (Blk.new w1 23 #[.string ⟨#[97, 98]⟩, .string ⟨#[97, 98, 99, 100, 101, 102, 103]⟩]); have xf0 := Hf.out.cell 0; have xf1 := Hf.out.cell 1; have xg0 := Hg.out.cell 0; have xg1 := Hg.out.cell 1; simp only [List.getElem?_toArray, List.getElem?_cons_zero, List.getElem?_cons_succ] at xf0 xf1 xg0 xg1)
    | (go_at_call 9; (with_reducible refine (P2.out _).mono ?_); rintro e w2 ⟨rfl, hb⟩; replace Hf := Lib.hid (Hf.out.below hb Hf.out.lt); replace Hg := Lib.hid (Hg.out.below hb Hg.out.lt); replace HB := Lib.hid (HB.out.trans (hb.mono HB.out.size)); clear hb; replace Hf := Lib.hid (Hf.out.alloc (.cells #[.string ⟨#[97, 98]⟩, .string ⟨#[97]⟩] 23)); replace Hg := Lib.hid (Hg.out.alloc (.cells #[.string ⟨#[97, 98]⟩, .string ⟨#[97]⟩] 23)); replace HB := Lib.hid (HB.out.alloc HB.out.size (.cells #[.string ⟨#[97, 98]⟩, .string ⟨#[97]⟩] 23)); have Hh := Lib.hid (Blk.new w2 23 #[.string ⟨#[97, 98]⟩, .string ⟨#[97]⟩]); clear xf0 xf1 xg0 xg1; have xf0 := Hf.out.cell 0; have xf1 := Hf.out.cell 1; have xg0 := Hg.out.cell 0; have xg1 := Hg.out.cell 1; have xh0 := Hh.out.cell 0; have xh1 := Hh.out.cell 1; simp only [List.getElem?_toArray, List.getElem?_cons_zero, List.getElem?_cons_succ] at xf0 xf1 xg0 xg1 xh0 xh1; clear P2)
    | (go_at_call 9; (with_reducible refine (P3.out _).mono ?_); rintro e w3 ⟨rfl, hb⟩; replace Hf := Lib.hid (Hf.out.below hb Hf.out.lt); replace Hg := Lib.hid (Hg.out.below hb Hg.out.lt); replace Hh := Lib.hid (Hh.out.below hb Hh.out.lt); replace HB := Lib.hid (HB.out.trans (hb.mono HB.out.size)); clear hb; replace Hf := Lib.hid (Hf.out.alloc (.cells #[.string ⟨#[]⟩, .string ⟨#[]⟩] 23)); replace Hg := Lib.hid (Hg.out.alloc (.cells #[.string ⟨#[]⟩, .string ⟨#[]⟩] 23)); replace Hh := Lib.hid (Hh.out.alloc (.cells #[.string ⟨#[]⟩, .string ⟨#[]⟩] 23)); replace HB := Lib.hid (HB.out.alloc HB.out.size (.cells #[.string ⟨#[]⟩, .string ⟨#[]⟩] 23)); have Hj := Lib.hid (Blk.new w3 23 #[.string ⟨#[]⟩, .string ⟨#[]⟩]); clear xf0 xf1 xg0 xg1 xh0 xh1; have xf0 := Hf.out.cell 0; have xf1 := Hf.out.cell 1; have xg0 := Hg.out.cell 0; have xg1 := Hg.out.cell 1; have xh0 := Hh.out.cell 0; have xh1 := Hh.out.cell 1; simp only [List.getElem?_toArray, List.getElem?_cons_zero, List.getElem?_cons_succ] at xf0 xf1 xg0 xg1 xh0 xh1; clear P3)
    | (go_at_call 14; (with_reducible refine (P4.out _).mono ?_); rintro e w4 ⟨rfl, hb⟩; replace Hf := Lib.hid (Hf.out.below hb Hf.out.lt); replace Hg := Lib.hid (Hg.out.below hb Hg.out.lt); replace Hh := Lib.hid (Hh.out.below hb Hh.out.lt); replace HB := Lib.hid (HB.out.trans (hb.mono HB.out.size)); clear hb; clear xf0 xf1 xg0 xg1 xh0 xh1; have xf0 := Hf.out.cell 0; have xf1 := Hf.out.cell 1; have xh0 := Hh.out.cell 0; have xh1 := Hh.out.cell 1; simp only [List.getElem?_toArray, List.getElem?_cons_zero, List.getElem?_cons_succ] at xf0 xf1 xh0 xh1; clear P4)
    | (go_at_call 12; (with_reducible refine (P5.out _).mono ?_); rintro e w5 ⟨rfl, hb⟩; replace Hf := Lib.hid (Hf.out.below hb Hf.out.lt); replace Hg := Lib.hid (Hg.out.below hb Hg.out.lt); replace Hh := Lib.hid (Hh.out.below hb Hh.out.lt); replace HB := Lib.hid (HB.out.trans (hb.mono HB.out.size)); clear hb; clear xf0 xf1 xh0 xh1; have xf0 := Hf.out.cell 0; have xf1 := Hf.out.cell 1; have xh0 := Hh.out.cell 0; have xh1 := Hh.out.cell 1; simp only [List.getElem?_toArray, List.getElem?_cons_zero, List.getElem?_cons_succ] at xf0 xf1 xh0 xh1; clear P5)
    | (go_at_call 16; (with_reducible refine (P6.out _).mono ?_); rintro e w6 ⟨rfl, hb⟩; replace Hf := Lib.hid (Hf.out.below hb Hf.out.lt); replace Hg := Lib.hid (Hg.out.below hb Hg.out.lt); replace Hh := Lib.hid (Hh.out.below hb Hh.out.lt); replace HB := Lib.hid (HB.out.trans (hb.mono HB.out.size)); clear hb; clear xf0 xf1 xh0 xh1; have xf0 := Hf.out.cell 0; have xf1 := Hf.out.cell 1; have xh0 := Hh.out.cell 0; have xh1 := Hh.out.cell 1; simp only [List.getElem?_toArray, List.getElem?_cons_zero, List.getElem?_cons_succ] at xf0 xf1 xh0 xh1; clear P6)
    | (go_at_call 14; (with_reducible refine (P7.out _).mono ?_); rintro e w7 ⟨rfl, hb⟩; replace Hf := Lib.hid (Hf.out.below hb Hf.out.lt); replace Hg := Lib.hid (Hg.out.below hb Hg.out.lt); replace Hh := Lib.hid (Hh.out.below hb Hh.out.lt); replace HB := Lib.hid (HB.out.trans (hb.mono HB.out.size)); clear hb; clear xf0 xf1 xh0 xh1; have xf0 := Hf.out.cell 0; have xf1 := Hf.out.cell 1; have xh0 := Hh.out.cell 0; have xh1 := Hh.out.cell 1; simp only [List.getElem?_toArray, List.getElem?_cons_zero, List.getElem?_cons_succ] at xf0 xf1 xh0 xh1; clear P7)
    | (go_at_call 14; (with_reducible refine (P8.out _).mono ?_); rintro e w8 ⟨rfl, hb⟩; replace Hf := Lib.hid (Hf.out.below hb Hf.out.lt); replace Hg := Lib.hid (Hg.out.below hb Hg.out.lt); replace Hh := Lib.hid (Hh.out.below hb Hh.out.lt); replace HB := Lib.hid (HB.out.trans (hb.mono HB.out.size)); clear hb; clear xf0 xf1 xh0 xh1; have xf0 := Hf.out.cell 0; have xf1 := Hf.out.cell 1; have xh0 := Hh.out.cell 0; have xh1 := Hh.out.cell 1; simp only [List.getElem?_toArray, List.getElem?_cons_zero, List.getElem?_cons_succ] at xf0 xf1 xh0 xh1; clear P8))
  go_ret
  exact ⟨rfl, HB.out⟩
end Go.Proofs.Ytckeoochoekgjaa
