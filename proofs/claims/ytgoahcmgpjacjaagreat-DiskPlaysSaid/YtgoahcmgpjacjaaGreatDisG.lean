/-
  Layer 20, the document's: open, Off, Arm, Remove (ahead of the code's landing).
-/
import Derived.Test.YtgoahcmgpjacjaaGreatDisF
namespace Go.Proofs.YtgoahcmgpjacjaaGreat
set_option linter.unusedSimpArgs false
set_option linter.unusedVariables false
open Go.ChangeShapes Go.WideShapes Go.ChangeAt Go.RowKit Go.Joins Go.Deep
set_option maxRecDepth 100000 in
set_option maxHeartbeats 4000000 in
theorem dref_off_any (D : Dk) (a : DAd) (w : World) : Calls Tryz.prog 29 #[.agg (dkc D a)] w fun e w' => e = .returned (.agg (dkc (doffF D) a)) ∧ Below w.heap.size w w' := by
  unfold dkc doffF
  obtain ⟨fs, dr, sf, cg, cap, ops, arm, dd⟩ := D
  obtain ⟨a1, a2, a3, a4, c1, c2, c3, c4⟩ := a
  dsimp only
  generalize fs.length = n1
  generalize dr.length = n2
  generalize sf.length = n3
  generalize cg.length = n4
  go_enter Tryz.func29, Tryz.ntmps29
  go_wp2
  refine bodyPost_ret (v := .agg #[.slice a1 n1 c1, .slice a2 n2 c2, .slice a3 n3 c3, .slice a4 n4 c4, .int .i64 cap, .int .i64 ops, .int .i64 0, .bool true]) (by simp [results, Tryz.results29, go_sem]) rfl ⟨by simp, by go_grown⟩
set_option maxRecDepth 100000 in
set_option maxHeartbeats 4000000 in
theorem dref_arm_any (D : Dk) (a : DAd) (n : Int) (w : World) : Calls Tryz.prog 28 #[.agg (dkc D a), .int .i64 n] w fun e w' => e = .returned (.tuple #[.agg (dkc (darmF D n).1 a), .int .i64 (darmF D n).2]) ∧ Below w.heap.size w w' := by
  unfold dkc darmF
  obtain ⟨fs, dr, sf, cg, cap, ops, arm, dd⟩ := D
  obtain ⟨a1, a2, a3, a4, c1, c2, c3, c4⟩ := a
  dsimp only
  cases dd with
  | true =>
    simp only [if_true]
    generalize fs.length = n1
    generalize dr.length = n2
    generalize sf.length = n3
    generalize cg.length = n4
    go_enter Tryz.func28, Tryz.ntmps28
    go_wp2
    refine bodyPost_ret (v := .tuple #[.agg #[.slice a1 n1 c1, .slice a2 n2 c2, .slice a3 n3 c3, .slice a4 n4 c4, .int .i64 cap, .int .i64 ops, .int .i64 arm, .bool true], .int .i64 200]) (by simp [results, Tryz.results28, go_sem]) rfl ⟨by simp, by go_grown⟩
  | false =>
    rw [if_neg (by simp)]
    by_cases hn : n < 1
    · rw [if_pos hn]
      dsimp only
      generalize fs.length = n1
      generalize dr.length = n2
      generalize sf.length = n3
      generalize cg.length = n4
      go_enter Tryz.func28, Tryz.ntmps28
      go_wp2
      refine bodyPost_ret (v := .tuple #[.agg #[.slice a1 n1 c1, .slice a2 n2 c2, .slice a3 n3 c3, .slice a4 n4 c4, .int .i64 cap, .int .i64 ops, .int .i64 arm, .bool false], .int .i64 2]) (by simp [results, Tryz.results28, go_sem]) rfl ⟨by simp, by go_grown⟩
    · rw [if_neg hn]
      dsimp only
      generalize fs.length = n1
      generalize dr.length = n2
      generalize sf.length = n3
      generalize cg.length = n4
      go_enter Tryz.func28, Tryz.ntmps28
      go_wp2
      refine bodyPost_ret (v := .tuple #[.agg #[.slice a1 n1 c1, .slice a2 n2 c2, .slice a3 n3 c3, .slice a4 n4 c4, .int .i64 cap, .int .i64 ops, .int .i64 n, .bool false], .int .i64 0]) (by simp [results, Tryz.results28, go_sem]) rfl ⟨by simp, by go_grown⟩
set_option maxRecDepth 100000 in
set_option maxHeartbeats 4000000 in
theorem dref_open_any (D : Dk) (a : DAd) (s : List UInt8) (w : World) (hM : DkMem w D a) (hn : D.dir.length ≤ 1000000) :
    Calls Tryz.prog 57 #[.agg (dkc D a), .string ⟨s.toArray⟩] w fun e w' => e = .returned (.tuple #[.int .i64 (if D.shut s = 0 then D.find s else 0), .int .i64 (D.shut s)]) ∧ Below w.heap.size w w' := by
  have hf := fun W hm => dref_find_any D a s W hm hn
  have Hmem := Lib.hid hM
  unfold Dk.shut
  generalize D.find s = F at *
  unfold dkc at hf ⊢
  obtain ⟨fs, dr, sf, cg, cap, ops, arm, dd⟩ := D
  obtain ⟨a1, a2, a3, a4, c1, c2, c3, c4⟩ := a
  dsimp only at *
  have Hf := Lib.hid hf
  clear hf hM hn
  have HX := Lib.hid (Blk.new w 33 #[.slice a1 fs.length c1, .slice a2 dr.length c2, .slice a3 sf.length c3, .slice a4 cg.length c4, .int .i64 cap, .int .i64 ops, .int .i64 arm, .bool dd])
  have HB0 := Lib.hid ((Below.refl w.heap.size w).alloc (Nat.le_refl _) (.cells #[.slice a1 fs.length c1, .slice a2 dr.length c2, .slice a3 sf.length c3, .slice a4 cg.length c4, .int .i64 cap, .int .i64 ops, .int .i64 arm, .bool dd] 33))
  have Hm1 := Lib.hid (Hmem.out.on HB0.out)
  cases dd with
  | true =>
    simp only [if_true]
    go_enter Tryz.func57, Tryz.ntmps57
    go_wp2
    refine bodyPost_ret (v := .tuple #[.int .i64 0, .int .i64 200]) (by simp [results, Tryz.results57, go_sem]) rfl ⟨rfl, HB0.out⟩
  | false =>
    by_cases hF : F < 0
    · have e : (if (if false = true then (200 : Int) else if F < 0 then 201 else 0) = 0 then F else 0) = 0 := by rw [if_neg (by simp [hF])]
      have e2 : (if false = true then (200 : Int) else if F < 0 then 201 else 0) = 201 := by simp [hF]
      rw [e, e2]
      clear e e2
      go_enter Tryz.func57, Tryz.ntmps57
      go_wp2_with (go_at_call 55; (with_reducible refine (Hf.out _ Hm1.out).mono ?_); rintro e w1 ⟨rfl, hb1⟩; replace HB0 := Lib.hid (HB0.out.trans (hb1.mono HB0.out.size)); clear hb1)
      refine bodyPost_ret (v := .tuple #[.int .i64 0, .int .i64 201]) (by simp [results, Tryz.results57, go_sem]) rfl ⟨rfl, HB0.out⟩
    · have e : (if (if false = true then (200 : Int) else if F < 0 then 201 else 0) = 0 then F else 0) = F := by rw [if_pos (by simp [hF])]
      have e2 : (if false = true then (200 : Int) else if F < 0 then 201 else 0) = 0 := by simp [hF]
      rw [e, e2]
      clear e e2
      go_enter Tryz.func57, Tryz.ntmps57
      go_wp2_with (go_at_call 55; (with_reducible refine (Hf.out _ Hm1.out).mono ?_); rintro e w1 ⟨rfl, hb1⟩; replace HB0 := Lib.hid (HB0.out.trans (hb1.mono HB0.out.size)); clear hb1)
      refine bodyPost_ret (v := .tuple #[.int .i64 F, .int .i64 0]) (by simp [results, Tryz.results57, go_sem]) rfl ⟨rfl, HB0.out⟩
end Go.Proofs.YtgoahcmgpjacjaaGreat
