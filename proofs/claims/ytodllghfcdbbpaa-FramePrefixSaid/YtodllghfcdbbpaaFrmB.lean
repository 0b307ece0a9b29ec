/-
  Layer 16, the program's: known, fixed, Size and Put of a frame.
-/
import Derived.Test.YtodllghfcdbbpaaFrmA
import Derived.Test.YtodllghfcdbbpaaCrcU
import Derived.Test.YtodllghfcdbbpaaCrcB
import Derived.Test.YtodllghfcdbbpaaCrcW
import Derived.Test.YtodllghfcdbbpaaVarF
import Derived.Test.YtodllghfcdbbpaaMake
namespace Go.Proofs.Ytodllghfcdbbpaa
set_option linter.unusedSimpArgs false
set_option linter.unusedVariables false
open Go.ChangeShapes Go.WideShapes Go.ChangeAt Go.RowKit Go.Joins Go.Deep
theorem fmade {B : Nat} {w W : World} {q : UInt8} (_ : Below B w (W.alloc (.cells #[.int .u8 (q.toNat : Int)] 5))) : Blk (W.alloc (.cells #[.int .u8 (q.toNat : Int)] 5)) W.heap.size 5 (bc [q]) := Blk.new W 5 (bc [q])
theorem fmade_drew {B : Nat} {w W : World} {q : UInt8} (_ : Below B w (W.alloc (.cells #[.int .u8 (q.toNat : Int)] 5)).drew) : Blk (W.alloc (.cells #[.int .u8 (q.toNat : Int)] 5)).drew W.heap.size 5 (bc [q]) := Blk.new W 5 (bc [q])
theorem p_fknown_any (k : Int) (w : World) : Calls Try.prog 17 #[.int .i64 k] w fun e w' => e = .returned (.bool (decide (1 ≤ k ∧ k ≤ 4))) ∧ w = w' := by
  by_cases h1 : 1 ≤ k
  · by_cases h4 : k ≤ 4
    · rw [decide_eq_true ⟨h1, h4⟩]
      go_enter Try.func17, Try.ntmps17
      go_wp2
      go_ret
      exact ⟨rfl, rfl⟩
    · rw [decide_eq_false (fun h => h4 h.2)]
      go_enter Try.func17, Try.ntmps17
      go_wp2
      go_ret
      exact ⟨rfl, rfl⟩
  · rw [decide_eq_false (fun h => h1 h.1)]
    go_enter Try.func17, Try.ntmps17
    go_wp2
    go_ret
    exact ⟨rfl, rfl⟩
theorem p_ffixed_any (n : Nat) (h : n < 4294967296) (w : World) : Calls Try.prog 18 #[.int .i64 (n : Int)] w fun e w' => e = .returned (.string ⟨(fx 4 n).toArray⟩) ∧ Below w.heap.size w w' := by
  have hf := fun W => fix_any (n : Int) 4 W
  obtain ⟨e1, e2⟩ := fix4 n h
  rw [e1, e2] at hf
  unfold strInt at hf
  replace hf := Lib.hid hf
  clear e1 e2 h
  generalize fx 4 n = X at *
  go_enter Try.func18, Try.ntmps18
  go_wp2_with (go_at_call 27; (with_reducible refine (hf.out _).mono ?_); rintro e w1 ⟨rfl, hb1⟩; have HB1 := Lib.hid hb1; clear hb1 hf)
  go_ret
  exact ⟨rfl, HB1.out⟩
theorem p_fsize_any (b : List UInt8) (w : World) (hb : b.length ≤ 4611686018427387904) : Calls Try.prog 11 #[.string ⟨b.toArray⟩] w fun e w' => e = .returned (.int .i64 ((b.length : Int) + 9)) ∧ Below w.heap.size w w' := by
  have h : (b.length : Int) ≤ 4611686018427387904 := by omega
  go_enter Try.func11, Try.ntmps11
  go_wp2
  go_ret
  exact ⟨congrArg Ending.returned (iv (by omega)), by go_grown⟩
set_option maxRecDepth 100000 in
set_option maxHeartbeats 4000000 in
theorem p_fput_any (k : Int) (b : List UInt8) (w : World) (hb : b.length ≤ 900000) :
    Calls Try.prog 9 #[.int .i64 k, .string ⟨b.toArray⟩] w fun e w' => e = .returned (.tuple #[.string ⟨(fputF k b).1.toArray⟩, .int .i64 (fputF k b).2]) ∧ Below w.heap.size w w' := by
  have hk := fun W => p_fknown_any k W
  by_cases h1 : k < 1 ∨ 4 < k
  · rw [decide_eq_false (by omega)] at hk
    replace hk := Lib.hid hk
    rw [show fputF k b = ([], 160) from if_pos h1]
    clear h1
    go_enter Try.func9, Try.ntmps9
    go_wp2_with (first | (go_at_call 17; (with_reducible refine (hk.out _).mono ?_); rintro e w1 ⟨rfl, rfl⟩; clear hk) | fail)
    go_ret2
    exact ⟨rfl, by go_grown⟩
  rw [decide_eq_true (by omega)] at hk
  replace hk := Lib.hid hk
  by_cases h6 : 60000 < b.length
  · have h6i : (60000 : Int) < (b.length : Int) := by omega
    rw [show fputF k b = ([], 3) from by unfold fputF; rw [if_neg h1, if_pos h6]]
    clear h1
    go_enter Try.func9, Try.ntmps9
    go_wp2_with (first | (go_at_call 17; (with_reducible refine (hk.out _).mono ?_); rintro e w1 ⟨rfl, rfl⟩; clear hk) | fail)
    go_ret2
    exact ⟨rfl, by go_grown⟩
  have h6i : ¬ (60000 : Int) < (b.length : Int) := by omega
  rw [show fputF k b = (fB k.toNat b, 0) from by unfold fputF; rw [if_neg h1, if_neg h6]]
  have Hfix := Lib.hid fun W => p_ffixed_any b.length (by omega) W
  have ht := Lib.hid fun W => table_any W
  have hs := Lib.hid fun W => of_any T0 T0_len (fhd k.toNat b) (by rw [fhd_len]; omega) W
  have hx := Lib.hid fun W => p_ffixed_any (ofT T0 (fhd k.toNat b)).toNat (by have := w_lt (ofT T0 (fhd k.toNat b)); omega) W
  have hkk : ((UInt8.ofNat k.toNat).toNat : Int) = k := by rw [u8_ofNat _ (by omega)]; omega
  have hl := fx_length 4 b.length
  have a1 := fun W => fadd [UInt8.ofNat k.toNat] (fx 4 b.length) (by rw [hl, List.length_singleton]; omega) W
  have a2 := fun W => fadd ([UInt8.ofNat k.toNat] ++ fx 4 b.length) b (by rw [List.length_append, hl, List.length_singleton]; omega) W
  have a3 := fun W => fadd (fhd k.toNat b) (fsum (fhd k.toNat b)) (by rw [fsum_len, fhd_len]; omega) W
  have e3 : [UInt8.ofNat k.toNat] ++ fx 4 b.length ++ b = fhd k.toNat b := rfl
  have e4 : fhd k.toNat b ++ fsum (fhd k.toNat b) = fB k.toNat b := rfl
  rw [e3] at a2
  rw [e4] at a3
  rw [show fsum (fhd k.toNat b) = fx 4 (ofT T0 (fhd k.toNat b)).toNat from rfl] at a3
  have hwz : IntKind.i64.wrap ((ofT T0 (fhd k.toNat b)).toNat : Int) = ((ofT T0 (fhd k.toNat b)).toNat : Int) := by have := w_lt (ofT T0 (fhd k.toNat b)); rw [IntKind.wrap_i64]; omega
  clear e3 e4 hl
  have hw8 : IntKind.u8.wrap k = ((UInt8.ofNat k.toNat).toNat : Int) := by rw [IntKind.wrap_u8, hkk]; omega
  clear hkk h1
  generalize fx 4 (ofT T0 (fhd k.toNat b)).toNat = X at *
  generalize (ofT T0 (fhd k.toNat b)).toNat = zz at *
  generalize [UInt8.ofNat k.toNat] ++ fx 4 b.length = M at *
  generalize UInt8.ofNat k.toNat = q at *
  generalize fB k.toNat b = Y at *
  generalize fhd k.toNat b = H at *
  generalize fx 4 b.length = Z at *
  generalize tab T0 = C at *
  go_enter Try.func9, Try.ntmps9
  go_wp2_with (first | (go_at_call 17; (with_reducible refine (hk.out _).mono ?_); rintro e w1 ⟨rfl, rfl⟩; clear hk) | fail)
  refine wp_region_held_drew (S := (fun w9 => Below w.heap.size w w9)) (by kernel_rfl) (((Below.refl w.heap.size w).drew)) (fun hHeld => ?_)
  refine wpAnyH_take (i := 0) (oi := _) (v := ?_) rfl (by kernel_rfl) (by kernel_rfl) (by kernel_rfl) (fun _ _ _ h => h) (Or.inl ⟨by rfl, ?_⟩) hHeld ?_
  rotate_left
  · (intro wz hSw; go_simp; try (with_reducible rfl))
  (try dsimp only [List.getElem_toArray, List.getElem_cons_zero, List.getElem_cons_succ]); (try simp only [Act.put, List.setIfInBounds_toArray, List.set_cons_zero, List.set_cons_succ])
  refine wpAnyH_take (i := 1) (oi := _) (v := ?_) rfl (by kernel_rfl) (by kernel_rfl) (by kernel_rfl) (fun _ _ _ h => h) (Or.inl ⟨by rfl, ?_⟩) hHeld ?_
  rotate_left
  · (intro wz hSw; go_simp; try (with_reducible rfl))
  (try dsimp only [List.getElem_toArray, List.getElem_cons_zero, List.getElem_cons_succ]); (try simp only [Act.put, List.setIfInBounds_toArray, List.set_cons_zero, List.set_cons_succ])
  refine wpAnyH_take (i := 4) (oi := _) (v := ?_) rfl (by kernel_rfl) (by kernel_rfl) (by kernel_rfl) (fun _ _ _ h => h) (Or.inl ⟨by rfl, ?_⟩) hHeld ?_
  rotate_left
  · (intro wz hSw; go_simp; try (with_reducible rfl))
  (try dsimp only [List.getElem_toArray, List.getElem_cons_zero, List.getElem_cons_succ]); (try simp only [Act.put, List.setIfInBounds_toArray, List.set_cons_zero, List.set_cons_succ])
  refine wpAnyH_take (i := 5) (oi := _) (v := ?_) rfl (by kernel_rfl) (by kernel_rfl) (by kernel_rfl) (fun _ _ _ h => h) (Or.inl ⟨by rfl, ?_⟩) hHeld ?_
  rotate_left
  · (intro wz hSw; go_simp; try (with_reducible rfl))
  (try dsimp only [List.getElem_toArray, List.getElem_cons_zero, List.getElem_cons_succ]); (try simp only [Act.put, List.setIfInBounds_toArray, List.set_cons_zero, List.set_cons_succ])
  refine wpAnyH_take (i := 8) (oi := _) (v := ?_) rfl (by kernel_rfl) (by kernel_rfl) (by kernel_rfl) (fun _ _ _ h => h) (Or.inl ⟨by rfl, ?_⟩) hHeld ?_
  rotate_left
  · (intro wz hSw; go_simp; try (with_reducible rfl))
  (try dsimp only [List.getElem_toArray, List.getElem_cons_zero, List.getElem_cons_succ]); (try simp only [Act.put, List.setIfInBounds_toArray, List.set_cons_zero, List.set_cons_succ])
  refine wpAnyH_ready (rs := [2, 6]) (by kernel_rfl) (by simp) ?_
  refine AllReadyH.cons (o := _) rfl (fun K hK => ?_) ?_
  · skip
    go_simp
    refine hK.out _ _ ((hHeld.trans ((Below.refl _ _).alloc hHeld.size _))) (fun hH => ?_)
    clear hK K hHeld
    first | (have hB := fmade hH) | (have hB := fmade_drew hH)
    first | (refine wpAnyH_stronger (S2 := fun w9 => Below w.heap.size w w9 ∧ Blk w9 w2.heap.size 5 (bc [q])) (fun _ h => h.1) ?_) | (refine wpAnyH_stronger (S2 := fun w9 => Below w.heap.size w w9 ∧ Blk w9 w.heap.size 5 (bc [q])) (fun _ h => h.1) ?_)
    have hHeld := And.intro hH hB
    clear hH hB
    (try dsimp only [List.getElem_toArray, List.getElem_cons_zero, List.getElem_cons_succ]); (try simp only [Act.put, List.setIfInBounds_toArray, List.set_cons_zero, List.set_cons_succ])
    refine wpAnyH_take (i := 3) (oi := _) (v := ?_) rfl (by kernel_rfl) (by kernel_rfl) (by kernel_rfl) (fun _ _ _ h => h) (Or.inl ⟨by rfl, ?_⟩) hHeld ?_
    rotate_left
    · (intro wz hSw; have hcv := str_blk wz _ 1 1 _ [q] rfl hSw.2; go_simp; try (with_reducible rfl))
    (try dsimp only [List.getElem_toArray, List.getElem_cons_zero, List.getElem_cons_succ]); (try simp only [Act.put, List.setIfInBounds_toArray, List.set_cons_zero, List.set_cons_succ])
    refine wpAnyH_ready (rs := [6]) (by kernel_rfl) (by simp) ?_
    refine AllReadyH.cons (o := _) rfl (fun K hK => ?_) AllReadyH.nil
    go_simp
    go_at_call 18
    (with_reducible refine (Hfix.out _).mono ?_)
    rintro e w2 ⟨rfl, hb1⟩
    refine hK.out _ _ (⟨hHeld.1.trans (hb1.mono hHeld.1.size), hHeld.2.below hb1 hHeld.2.lt⟩) (fun hH => ?_)
    clear hHeld hK K hb1
    have hHeld := hH
    clear hH
    (try dsimp only [List.getElem_toArray, List.getElem_cons_zero, List.getElem_cons_succ]); (try simp only [Act.put, List.setIfInBounds_toArray, List.set_cons_zero, List.set_cons_succ])
    refine wpAnyH_take (i := 7) (oi := _) (v := ?_) rfl (by kernel_rfl) (by kernel_rfl) (by kernel_rfl) (fun _ _ _ h => h) (Or.inl ⟨by rfl, ?_⟩) hHeld ?_
    rotate_left
    · (intro wz hSw; go_simp; try (with_reducible rfl))
    (try dsimp only [List.getElem_toArray, List.getElem_cons_zero, List.getElem_cons_succ]); (try simp only [Act.put, List.setIfInBounds_toArray, List.set_cons_zero, List.set_cons_succ])
    refine wpAnyH_take (i := 9) (oi := _) (v := ?_) rfl (by kernel_rfl) (by kernel_rfl) (by kernel_rfl) (fun _ _ _ h => h) (Or.inl ⟨by rfl, ?_⟩) hHeld ?_
    rotate_left
    · (intro wz hSw; go_simp; try (with_reducible rfl))
    (try dsimp only [List.getElem_toArray, List.getElem_cons_zero, List.getElem_cons_succ]); (try simp only [Act.put, List.setIfInBounds_toArray, List.set_cons_zero, List.set_cons_succ])
    refine wpAnyH_take (i := 10) (oi := _) (v := ?_) rfl (by kernel_rfl) (by kernel_rfl) (by kernel_rfl) (fun _ _ _ h => h) (Or.inl ⟨by rfl, ?_⟩) hHeld ?_
    rotate_left
    · (intro wz hSw; go_simp; try (with_reducible rfl))
    (try dsimp only [List.getElem_toArray, List.getElem_cons_zero, List.getElem_cons_succ]); (try simp only [Act.put, List.setIfInBounds_toArray, List.set_cons_zero, List.set_cons_succ])
    refine wpAnyH_done (by kernel_rfl) ?_ _
    have HB0 := Lib.hid hHeld.1
    clear hHeld Hfix
    go_wp2_with (first
      | (go_at_call 20; (with_reducible refine (ht.out _).mono ?_); rintro e w3 ⟨rfl, hb3⟩; have HB3 := Lib.hid (HB0.out.trans (hb3.mono HB0.out.size)); clear hb3 ht)
      | (go_at_call 19; (with_reducible refine (hs.out _).mono ?_); rintro e w4 ⟨rfl, hb4⟩; have HB4 := Lib.hid (HB3.out.trans (hb4.mono HB3.out.size)); clear hb4 hs)
      | (go_at_call 18; (with_reducible refine (hx.out _).mono ?_); rintro e w5 ⟨rfl, hb5⟩; have HB5 := Lib.hid (HB4.out.trans (hb5.mono HB4.out.size)); clear hb5 hx))
    go_ret2
    exact ⟨rfl, HB5.out⟩
  refine AllReadyH.cons (o := _) rfl (fun K hK => ?_) AllReadyH.nil
  go_simp
  go_at_call 18
  (with_reducible refine (Hfix.out _).mono ?_)
  rintro e w2 ⟨rfl, hb1⟩
  refine hK.out _ _ (hHeld.trans (hb1.mono hHeld.size)) (fun hH => ?_)
  clear hHeld hK K hb1
  have hHeld := hH
  clear hH
  (try dsimp only [List.getElem_toArray, List.getElem_cons_zero, List.getElem_cons_succ]); (try simp only [Act.put, List.setIfInBounds_toArray, List.set_cons_zero, List.set_cons_succ])
  refine wpAnyH_ready (rs := [2]) (by kernel_rfl) (by simp) ?_
  refine AllReadyH.cons (o := _) rfl (fun K hK => ?_) AllReadyH.nil
  go_simp
  refine hK.out _ _ ((hHeld.trans ((Below.refl _ _).alloc hHeld.size _))) (fun hH => ?_)
  clear hK K hHeld
  first | (have hB := fmade hH) | (have hB := fmade_drew hH)
  first | (refine wpAnyH_stronger (S2 := fun w9 => Below w.heap.size w w9 ∧ Blk w9 w2.heap.size 5 (bc [q])) (fun _ h => h.1) ?_) | (refine wpAnyH_stronger (S2 := fun w9 => Below w.heap.size w w9 ∧ Blk w9 w.heap.size 5 (bc [q])) (fun _ h => h.1) ?_)
  have hHeld := And.intro hH hB
  clear hH hB
  (try dsimp only [List.getElem_toArray, List.getElem_cons_zero, List.getElem_cons_succ]); (try simp only [Act.put, List.setIfInBounds_toArray, List.set_cons_zero, List.set_cons_succ])
  refine wpAnyH_take (i := 3) (oi := _) (v := ?_) rfl (by kernel_rfl) (by kernel_rfl) (by kernel_rfl) (fun _ _ _ h => h) (Or.inl ⟨by rfl, ?_⟩) hHeld ?_
  rotate_left
  · (intro wz hSw; have hcv := str_blk wz _ 1 1 _ [q] rfl hSw.2; go_simp; try (with_reducible rfl))
  (try dsimp only [List.getElem_toArray, List.getElem_cons_zero, List.getElem_cons_succ]); (try simp only [Act.put, List.setIfInBounds_toArray, List.set_cons_zero, List.set_cons_succ])
  refine wpAnyH_take (i := 7) (oi := _) (v := ?_) rfl (by kernel_rfl) (by kernel_rfl) (by kernel_rfl) (fun _ _ _ h => h) (Or.inl ⟨by rfl, ?_⟩) hHeld ?_
  rotate_left
  · (intro wz hSw; go_simp; try (with_reducible rfl))
  (try dsimp only [List.getElem_toArray, List.getElem_cons_zero, List.getElem_cons_succ]); (try simp only [Act.put, List.setIfInBounds_toArray, List.set_cons_zero, List.set_cons_succ])
  refine wpAnyH_take (i := 9) (oi := _) (v := ?_) rfl (by kernel_rfl) (by kernel_rfl) (by kernel_rfl) (fun _ _ _ h => h) (Or.inl ⟨by rfl, ?_⟩) hHeld ?_
  rotate_left
  · (intro wz hSw; go_simp; try (with_reducible rfl))
  (try dsimp only [List.getElem_toArray, List.getElem_cons_zero, List.getElem_cons_succ]); (try simp only [Act.put, List.setIfInBounds_toArray, List.set_cons_zero, List.set_cons_succ])
  refine wpAnyH_take (i := 10) (oi := _) (v := ?_) rfl (by kernel_rfl) (by kernel_rfl) (by kernel_rfl) (fun _ _ _ h => h) (Or.inl ⟨by rfl, ?_⟩) hHeld ?_
  rotate_left
  · (intro wz hSw; go_simp; try (with_reducible rfl))
  (try dsimp only [List.getElem_toArray, List.getElem_cons_zero, List.getElem_cons_succ]); (try simp only [Act.put, List.setIfInBounds_toArray, List.set_cons_zero, List.set_cons_succ])
  refine wpAnyH_done (by kernel_rfl) ?_ _
  have HB0 := Lib.hid hHeld.1
  clear hHeld Hfix
  go_wp2_with (first
    | (go_at_call 20; (with_reducible refine (ht.out _).mono ?_); rintro e w3 ⟨rfl, hb3⟩; have HB3 := Lib.hid (HB0.out.trans (hb3.mono HB0.out.size)); clear hb3 ht)
    | (go_at_call 19; (with_reducible refine (hs.out _).mono ?_); rintro e w4 ⟨rfl, hb4⟩; have HB4 := Lib.hid (HB3.out.trans (hb4.mono HB3.out.size)); clear hb4 hs)
    | (go_at_call 18; (with_reducible refine (hx.out _).mono ?_); rintro e w5 ⟨rfl, hb5⟩; have HB5 := Lib.hid (HB4.out.trans (hb5.mono HB4.out.size)); clear hb5 hx))
  go_ret2
  exact ⟨rfl, HB5.out⟩
end Go.Proofs.Ytodllghfcdbbpaa
