/-
  Layer 16: the probe that each statement of the layer asks beside itself returns true.
-/
import Derived.Test.YtodllghfcdbbpaaFrmY
namespace Go.Proofs.Ytodllghfcdbbpaa
set_option linter.unusedSimpArgs false
set_option linter.unusedVariables false
open Go.ChangeShapes Go.WideShapes Go.ChangeAt Go.RowKit Go.Joins Go.Deep
theorem faw_put : fputF 2 [97, 98] = (fB 2 [97, 98], 0) := by
  unfold fputF
  rw [if_neg (by omega), if_neg (by simp)]
  rfl
theorem faw_get : fgetF ([120] ++ fB 2 [97, 98]) 1 = ((2, [97, 98], 1, 12), 0) := by
  have := fgetF_put [120] [] [97, 98] 2 (by omega) (by omega) (by simp) 1 rfl
  rwa [List.append_nil] at this
theorem faw_scan : fscanF (fB 2 [97, 98] ++ fB 2 [97, 98] ++ [121]) 0 = ([(2, [97, 98], 0, 11), (2, [97, 98], 11, 22)], 22) := by
  refine fscan_told (e := 22) ?_
  have hl := fB_len 2 [97, 98]
  have g1 : fgR ((fB 2 [97, 98] ++ fB 2 [97, 98] ++ [121]).drop 0) = (2, [97, 98], 11, 0) := by
    rw [List.drop_zero, List.append_assoc]
    exact fgR_put 2 [97, 98] _ (by omega) (by omega) (by simp)
  have g2 : fgR ((fB 2 [97, 98] ++ fB 2 [97, 98] ++ [121]).drop 11) = (2, [97, 98], 11, 0) := by
    rw [List.append_assoc, List.drop_left' (by rw [hl]; rfl)]
    exact fgR_put 2 [97, 98] _ (by omega) (by omega) (by simp)
  have g3 : (fgR ((fB 2 [97, 98] ++ fB 2 [97, 98] ++ [121]).drop 22)).2.2.2 ≠ 0 := by
    rw [List.drop_left' (by rw [List.length_append, hl]; rfl)]
    decide
  have s3 := FScan.stop (s := fB 2 [97, 98] ++ fB 2 [97, 98] ++ [121]) 22 g3
  have s2 := FScan.more (s := fB 2 [97, 98] ++ fB 2 [97, 98] ++ [121]) 11 [] 22 (by rw [g2]) (by rw [g2]; exact s3)
  have s1 := FScan.more (s := fB 2 [97, 98] ++ fB 2 [97, 98] ++ [121]) 0 _ 22 (by rw [g1]) (by rw [g1]; exact s2)
  rw [g1, g2] at s1
  exact s1
theorem faw_short : fgetF ((fB 2 [97, 98]).take 10) 0 = (fnone, 4) := by
  have h := fgR_short 2 10 [97, 98] (by omega) (by omega) (by simp) (by omega) (by simp)
  have h2 := fgetF_no (s := (fB 2 [97, 98]).take 10) (q := 0) (Nat.zero_le _) (by rw [List.drop_zero, h]; decide)
  rw [List.drop_zero, h] at h2
  exact h2
theorem faw_head : (fB 2 [97, 98]).take 7 = [2, 2, 0, 0, 0, 97, 98] := by
  have e : fhd 2 [97, 98] = [2, 2, 0, 0, 0, 97, 98] := by decide
  unfold fB
  rw [e]
  rfl
set_option maxRecDepth 100000 in
set_option maxHeartbeats 4000000 in
theorem awake16_any (w : World) : Calls Try.prog 8 #[] w fun e w' => e = .returned (.bool true) ∧ Below w.heap.size w w' := by
  have hl := fB_len 2 [97, 98]
  have P1 := fun W => p_fput_any 2 [97, 98] W (by decide)
  rw [faw_put] at P1
  have P2 := fun W => p_fget_any ([120] ++ fB 2 [97, 98]) 1 W (by rw [List.length_append, hl]; decide)
  rw [faw_get] at P2
  unfold FGPost at P2
  have P3 := fun W => p_fscan_any (fB 2 [97, 98] ++ fB 2 [97, 98] ++ [121]) 0 W (by rw [List.length_append, List.length_append, hl]; decide)
  rw [faw_scan] at P3
  unfold FSPost at P3
  have P4 : Hid (∀ W, Calls Try.prog 9 #[.int .i64 5, .string ⟨#[]⟩] W fun r w' => r = .returned (.tuple #[.string ⟨#[]⟩, .int .i64 160]) ∧ Below W.heap.size W w') := Lib.hid fun W => p_fput_any 5 [] W (by decide)
  have P5 := fun W => p_fget_any ((fB 2 [97, 98]).take 10) 0 W (by rw [List.length_take, hl]; decide)
  rw [faw_short] at P5
  unfold FGPost at P5
  have P6 : Hid (∀ W, Calls Try.prog 11 #[.string ⟨#[97, 98]⟩] W fun r w' => r = .returned (.int .i64 11) ∧ Below W.heap.size W w') := Lib.hid fun W => p_fsize_any [97, 98] W (by decide)
  have g1 := fun W => fadd [120] (fB 2 [97, 98]) (by rw [hl]; decide) W
  have g2 := fun W => fadd (fB 2 [97, 98]) (fB 2 [97, 98]) (by rw [hl]; decide) W
  have g3 := fun W => fadd (fB 2 [97, 98] ++ fB 2 [97, 98]) [121] (by rw [List.length_append, hl]; decide) W
  have s1 : (ByteArray.mk (fB 2 [97, 98]).toArray).extract 0 10 = ⟨((fB 2 [97, 98]).take 10).toArray⟩ := by rw [ByteArray.extract_mk, List.drop_zero]
  have s2 : (ByteArray.mk (fB 2 [97, 98]).toArray).extract 0 7 = ⟨#[2, 2, 0, 0, 0, 97, 98]⟩ := by rw [ByteArray.extract_mk, List.drop_zero, faw_head]
  have hln : ((fB 2 [97, 98]).length : Int) = 11 := by rw [hl]; rfl
  have heq := fun W => frec_same 2 1 12 [97, 98] W
  have hgu := frec_guard
  dsimp only [fnone, List.length_cons, List.length_nil] at P1 P2 P3 P5
  replace P1 := Lib.hid P1
  replace P2 := Lib.hid P2
  replace P3 := Lib.hid P3
  replace P5 := Lib.hid P5
  clear hl
  generalize (fB 2 [97, 98]).take 10 = T10 at *
  generalize fB 2 [97, 98] ++ fB 2 [97, 98] ++ [121] = T3 at *
  generalize fB 2 [97, 98] ++ fB 2 [97, 98] = T2 at *
  generalize [120] ++ fB 2 [97, 98] = T1 at *
  generalize fB 2 [97, 98] = T at *
  go_enter Try.func8, Try.ntmps8
  go_wp2_with (first
    | (go_at_call 9; (with_reducible refine (P1.out _).mono ?_); rintro e w1 ⟨rfl, hb1⟩; have Hb := Lib.hid hb1; clear hb1 P1)
    | (go_at_call 12; (with_reducible refine (P2.out _).mono ?_); rintro e w2 ⟨rfl, hb2⟩; replace Hb := Lib.hid (Hb.out.trans (hb2.mono Hb.out.size)); clear hb2; replace Hb := Lib.hid (Hb.out.alloc Hb.out.size (.cells #[.int .i64 2, .string ⟨#[97, 98]⟩, .int .i64 1, .int .i64 12] 31)); have HQ2 := Lib.hid (Blk.new w2 31 #[.int .i64 2, .string ⟨#[97, 98]⟩, .int .i64 1, .int .i64 12]); clear P2)
    | (go_at_call 14; (with_reducible refine (P3.out _).mono ?_); rintro e w3 ⟨A3, c3, rfl, _, _, hb3⟩; have HQ3 := Lib.hid (HQ2.out.below hb3 HQ2.out.lt); replace Hb := Lib.hid (Hb.out.trans (hb3.mono Hb.out.size)); clear hb3; clear P3)
    | (go_at_call 9; (with_reducible refine (P4.out _).mono ?_); rintro e w4 ⟨rfl, hb4⟩; have HQ4 := Lib.hid (HQ3.out.below hb4 HQ3.out.lt); replace Hb := Lib.hid (Hb.out.trans (hb4.mono Hb.out.size)); clear hb4; clear P4)
    | (go_at_call 12; (with_reducible refine (P5.out _).mono ?_); rintro e w5 ⟨rfl, hb5⟩; have HQ5 := Lib.hid ((HQ4.out.below hb5 HQ4.out.lt).alloc (.cells #[.int .i64 0, .string ⟨#[]⟩, .int .i64 0, .int .i64 0] 31)); replace Hb := Lib.hid (Hb.out.trans (hb5.mono Hb.out.size)); clear hb5; replace Hb := Lib.hid (Hb.out.alloc Hb.out.size (.cells #[.int .i64 0, .string ⟨#[]⟩, .int .i64 0, .int .i64 0] 31)); have q0 : (w5.alloc (.cells #[.int .i64 0, .string ⟨#[]⟩, .int .i64 0, .int .i64 0] 31)).cell? ⟨w2.heap.size, 0, none⟩ = some (.int .i64 2) := HQ5.out.cell 0; have q1 : (w5.alloc (.cells #[.int .i64 0, .string ⟨#[]⟩, .int .i64 0, .int .i64 0] 31)).cell? ⟨w2.heap.size, 1, none⟩ = some (.string ⟨#[97, 98]⟩) := HQ5.out.cell 1; have q2 : (w5.alloc (.cells #[.int .i64 0, .string ⟨#[]⟩, .int .i64 0, .int .i64 0] 31)).cell? ⟨w2.heap.size, 2, none⟩ = some (.int .i64 1) := HQ5.out.cell 2; have q3 : (w5.alloc (.cells #[.int .i64 0, .string ⟨#[]⟩, .int .i64 0, .int .i64 0] 31)).cell? ⟨w2.heap.size, 3, none⟩ = some (.int .i64 12) := HQ5.out.cell 3; clear P5)
    | (go_at_call 11; (with_reducible refine (P6.out _).mono ?_); rintro e w6 ⟨rfl, hb6⟩; replace Hb := Lib.hid (Hb.out.trans (hb6.mono Hb.out.size)); clear hb6; clear P6))
  go_ret
  exact ⟨rfl, Hb.out⟩
end Go.Proofs.Ytodllghfcdbbpaa
