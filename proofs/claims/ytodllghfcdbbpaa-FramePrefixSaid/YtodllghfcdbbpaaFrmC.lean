/-
  Layer 16, the program's: get and Get of a frame, at every place of any bytes.
-/
import Derived.Test.YtodllghfcdbbpaaFrmB
import Derived.Test.YtodllghfcdbbpaaFrmS
import Derived.Test.YtodllghfcdbbpaaVarG0
import Derived.Test.YtodllghfcdbbpaaClone
namespace Go.Proofs.Ytodllghfcdbbpaa
set_option linter.unusedSimpArgs false
set_option linter.unusedVariables false
open Go.ChangeShapes Go.WideShapes Go.ChangeAt Go.RowKit Go.Joins Go.Deep
theorem fsum_iff (l G : List UInt8) (h : G.length = 4) : fsum l = G ↔ val8 G = (ofT T0 l).toNat := by
  have hz := w_lt (ofT T0 l)
  constructor
  · rintro rfl
    exact fx_val 4 _ (by show (ofT T0 l).toNat < 4294967296; omega)
  · intro e
    have := fx_val8 G
    rw [h, e] at this
    exact this
set_option maxRecDepth 100000 in
set_option maxHeartbeats 8000000 in
theorem p_fget0_any (s : List UInt8) (p : Int) (w : World) (hs : s.length ≤ 1000000) :
    Calls Try.prog 24 #[.agg (tab T0).toArray, .string ⟨s.toArray⟩, .int .i64 p] w fun e w' => FGPost w w' e (fgetF s p) := by
  unfold FGPost
  have HS0 := Lib.hid (fget_new w (tab T0))
  have hu := Try.underlying49
  have hi := hi_tab (tab_256 T0_len)
  have Hsum := Lib.hid fun l (hl : l.length ≤ 1000000) W => of_any T0 T0_len l (by omega) W
  generalize tab T0 = C at *
  by_cases h1 : p < 0
  · have HF : Hid (fgetF s p = (fnone, 2)) := Lib.hid (if_neg (by omega))
    clear Hsum hi hu HS0
    go_enter Try.func24, Try.ntmps24
    go_wp2
    refine bodyPost_ret (v := .tuple #[.agg #[.int .i64 0, .string ⟨#[]⟩, .int .i64 0, .int .i64 0], .int .i64 2]) (by simp [results, Try.results24, go_sem]) rfl ⟨by rw [HF.out]; rfl, by go_grown⟩
  by_cases h2 : (s.length : Int) < p
  · have HF : Hid (fgetF s p = (fnone, 2)) := Lib.hid (if_neg (by omega))
    clear Hsum hi hu HS0
    go_enter Try.func24, Try.ntmps24
    go_wp2
    refine bodyPost_ret (v := .tuple #[.agg #[.int .i64 0, .string ⟨#[]⟩, .int .i64 0, .int .i64 0], .int .i64 2]) (by simp [results, Try.results24, go_sem]) rfl ⟨by rw [HF.out]; rfl, by go_grown⟩
  obtain ⟨m, rfl⟩ : ∃ m : Nat, p = (m : Int) := ⟨p.toNat, by omega⟩
  have hF : fgetF s (m : Int) = if (fgR (s.drop m)).2.2.2 ≠ 0 then (fnone, (fgR (s.drop m)).2.2.2) else (((fgR (s.drop m)).1, (fgR (s.drop m)).2.1, (m : Int), (m : Int) + (fgR (s.drop m)).2.2.1), 0) := if_pos (by omega)
  have HX : Hid (∀ R, fgR (s.drop m) = R → fgetF s (m : Int) = if R.2.2.2 ≠ 0 then (fnone, R.2.2.2) else ((R.1, R.2.1, (m : Int), (m : Int) + R.2.2.1), 0)) := Lib.hid fun R hR => by rw [hF, hR]
  obtain ⟨R, hR⟩ : ∃ R, fgR (s.drop m) = R := ⟨_, rfl⟩
  replace HX := Lib.hid (HX.out R hR)
  unfold fgR at hR
  rw [List.length_drop] at hR
  have hmi : (0 : Int) ≤ (m : Int) ∧ (m : Int) ≤ (s.length : Int) ∧ (s.length : Int) ≤ 1000000 := by omega
  clear hF h1 h2
  generalize fgetF s (m : Int) = Y at *
  by_cases h3 : s.length - m < 5
  · have h3i : (s.length : Int) < (m : Int) + 5 := by omega
    rw [if_pos h3] at hR
    subst hR
    have HF : Hid (Y = (fnone, 4)) := Lib.hid (by rw [HX.out]; rfl)
    clear Hsum hi hu HX HS0
    go_enter Try.func24, Try.ntmps24
    go_wp2
    refine bodyPost_ret (v := .tuple #[.agg #[.int .i64 0, .string ⟨#[]⟩, .int .i64 0, .int .i64 0], .int .i64 4]) (by simp [results, Try.results24, go_sem]) rfl ⟨by rw [HF.out]; rfl, by go_grown⟩
  have h3i : ¬ (s.length : Int) < (m : Int) + 5 := by omega
  rw [if_neg h3] at hR
  have hby := fun W => fbyte s m (by omega) W
  have eby : (s.drop m).getD 0 0 = s.getD m 0 := by rw [List.getD_eq_getElem?_getD, List.getD_eq_getElem?_getD, List.getElem?_drop, Nat.add_zero]
  rw [eby] at hR
  have hub := u8_lt (s.getD m 0)
  have hkn := fun W => p_fknown_any ((s.getD m 0).toNat : Int) W
  clear eby
  by_cases h4 : (s.getD m 0).toNat < 1 ∨ 4 < (s.getD m 0).toNat
  · rw [if_pos h4] at hR
    subst hR
    have HF : Hid (Y = (fnone, 160)) := Lib.hid (by rw [HX.out]; rfl)
    rw [decide_eq_false (by omega)] at hkn
    have Hkn := Lib.hid hkn
    generalize (s.getD m 0).toNat = k at *
    clear Hsum hi hu HX HS0 hkn h4
    go_enter Try.func24, Try.ntmps24
    go_wp2_with (first
      | (go_at_call 17; (with_reducible refine (Hkn.out _).mono ?_); rintro e w8 ⟨rfl, rfl⟩; clear Hkn)
      | fail)
    refine bodyPost_ret (v := .tuple #[.agg #[.int .i64 0, .string ⟨#[]⟩, .int .i64 0, .int .i64 0], .int .i64 160]) (by simp [results, Try.results24, go_sem]) rfl ⟨by rw [HF.out]; rfl, by go_grown⟩
  rw [decide_eq_true (by omega)] at hkn
  have Hkn := Lib.hid hkn
  rw [if_neg h4] at hR
  have hun := fun W => unfix_any s ((m : Int) + 1) 4 W (by omega)
  have hv := val8_lt (((s.drop m).drop 1).take 4)
  have hl4 : (((s.drop m).drop 1).take 4).length = 4 := by rw [List.length_take, List.length_drop, List.length_drop]; omega
  rw [hl4] at hv
  have hn32 : val8 (((s.drop m).drop 1).take 4) < 4294967296 := Nat.lt_of_lt_of_le hv (by decide)
  have eun : unfixF s ((m : Int) + 1) 4 = ((val8 (((s.drop m).drop 1).take 4) : Int), (m : Int) + 5, 0) := by
    unfold unfixF
    rw [if_pos (by omega), if_neg (by omega), show ((m : Int) + 1).toNat = m + 1 from by omega, ← List.drop_drop, show (4 : Int).toNat = 4 from rfl, if_neg (by omega), Int.add_assoc]
    rfl
  rw [eun] at hun
  unfold trip at hun
  dsimp only at hun
  have Hun := Lib.hid hun
  clear hun eun hv h4 hl4 hkn
  generalize hk : (s.getD m 0).toNat = k at *
  clear hk
  generalize hnn : val8 (((s.drop m).drop 1).take 4) = n at *
  clear hnn
  by_cases h5 : 60000 < n
  · have h5i : (60000 : Int) < (n : Int) := by omega
    rw [if_pos h5] at hR
    subst hR
    have HF : Hid (Y = (fnone, 3)) := Lib.hid (by rw [HX.out]; rfl)
    clear Hsum hi hu HX HS0
    go_enter Try.func24, Try.ntmps24
    go_wp2_with (first
      | (go_at_call 17; (with_reducible refine (Hkn.out _).mono ?_); rintro e w8 ⟨rfl, rfl⟩; clear Hkn)
      | (go_at_call 32; (with_reducible refine (Hun.out _).mono ?_); rintro e w1 ⟨rfl, rfl⟩; clear Hun)
      | fail)
    refine bodyPost_ret (v := .tuple #[.agg #[.int .i64 0, .string ⟨#[]⟩, .int .i64 0, .int .i64 0], .int .i64 3]) (by simp [results, Try.results24, go_sem]) rfl ⟨by rw [HF.out]; rfl, by go_grown⟩
  have h5i : ¬ (60000 : Int) < (n : Int) := by omega
  rw [if_neg h5] at hR
  by_cases h6 : s.length - m < 9 + n
  · have h6i : (s.length : Int) < (m : Int) + 9 + (n : Int) := by omega
    rw [if_pos h6] at hR
    subst hR
    have HF : Hid (Y = (fnone, 4)) := Lib.hid (by rw [HX.out]; rfl)
    clear Hsum hi hu HX HS0
    go_enter Try.func24, Try.ntmps24
    go_wp2_with (first
      | (go_at_call 17; (with_reducible refine (Hkn.out _).mono ?_); rintro e w8 ⟨rfl, rfl⟩; clear Hkn)
      | (go_at_call 32; (with_reducible refine (Hun.out _).mono ?_); rintro e w1 ⟨rfl, rfl⟩; clear Hun)
      | fail)
    refine bodyPost_ret (v := .tuple #[.agg #[.int .i64 0, .string ⟨#[]⟩, .int .i64 0, .int .i64 0], .int .i64 4]) (by simp [results, Try.results24, go_sem]) rfl ⟨by rw [HF.out]; rfl, by go_grown⟩
  have h6i : ¬ (s.length : Int) < (m : Int) + 9 + (n : Int) := by omega
  rw [if_neg h6, List.drop_drop, List.drop_drop] at hR
  have hun2 := fun W => unfix_any s ((m : Int) + 5 + (n : Int)) 4 W (by omega)
  have hv2 := val8_lt ((s.drop (m + (5 + n))).take 4)
  have hl4 : ((s.drop (m + (5 + n))).take 4).length = 4 := by rw [List.length_take, List.length_drop]; omega
  rw [hl4] at hv2
  have hg32 : val8 ((s.drop (m + (5 + n))).take 4) < 4294967296 := Nat.lt_of_lt_of_le hv2 (by decide)
  have eun2 : unfixF s ((m : Int) + 5 + (n : Int)) 4 = ((val8 ((s.drop (m + (5 + n))).take 4) : Int), (m : Int) + 5 + (n : Int) + 4, 0) := by
    unfold unfixF
    rw [if_pos (by omega), if_neg (by omega), show ((m : Int) + 5 + (n : Int)).toNat = m + (5 + n) from by omega, show (4 : Int).toNat = 4 from rfl, if_neg (by omega)]
  rw [eun2] at hun2
  unfold trip at hun2
  dsimp only at hun2
  have Hun2 := Lib.hid hun2
  clear hun2 eun2 hv2
  have hs1 := fun W => frun_part s (m : Int) (5 + (n : Int)) (by omega) (by omega) (by omega) ((m : Int) + 5 + (n : Int)) (by omega) W
  have hs3 := fun W => frun_part s ((m : Int) + 5) (n : Int) (by omega) (by omega) (by omega) ((m : Int) + 5 + (n : Int)) (by omega) W
  rw [Int.toNat_natCast, show (5 + (n : Int)).toNat = 5 + n from by omega] at hs1
  rw [show ((m : Int) + 5).toNat = m + 5 from by omega, Int.toNat_natCast] at hs3
  have hcl := fun W => clone_any ((s.drop (m + 5)).take n) W (by rw [List.length_take, List.length_drop]; omega)
  have Hcl := Lib.hid hcl
  clear hcl
  replace Hsum := Lib.hid (Hsum.out ((s.drop m).take (5 + n)) (by rw [List.length_take, List.length_drop]; omega))
  have hiff := fsum_iff ((s.drop m).take (5 + n)) _ hl4
  have hwz : IntKind.i64.wrap ((ofT T0 ((s.drop m).take (5 + n))).toNat : Int) = ((ofT T0 ((s.drop m).take (5 + n))).toNat : Int) := by have := w_lt (ofT T0 ((s.drop m).take (5 + n))); rw [IntKind.wrap_i64]; omega
  have hw5 : IntKind.i64.wrap ((m : Int) + 5 + (n : Int)) = (m : Int) + 5 + (n : Int) := by rw [IntKind.wrap_i64]; omega
  have hb4 : (0 : Int) ≤ (m : Int) + 5 + (n : Int) ∧ (m : Int) + 5 + (n : Int) ≤ (m : Int) + 5 + (n : Int) + 4 ∧ (m : Int) + 5 + (n : Int) + 4 ≤ (s.length : Int) := by omega
  clear h3 h6 hl4
  generalize fsum ((s.drop m).take (5 + n)) = X at *
  generalize (ofT T0 ((s.drop m).take (5 + n))).toNat = zz at *
  generalize (s.drop m).take (5 + n) = H at *
  generalize val8 ((s.drop (m + (5 + n))).take 4) = vv at *
  generalize (s.drop (m + (5 + n))).take 4 = G at *
  generalize (s.drop (m + 5)).take n = B at *
  by_cases h7 : X = G
  · rw [if_neg (by simpa using h7)] at hR
    subst hR
    have HF : Hid (Y = (((k : Int), B, (m : Int), (m : Int) + (9 + n : Nat)), 0)) := Lib.hid (by rw [HX.out]; rfl)
    have He9 : Hid ((m : Int) + 5 + (n : Int) + 4 = (m : Int) + ((9 + n : Nat) : Int)) := Lib.hid (by omega)
    obtain rfl : vv = zz := hiff.1 h7
    clear HX hiff h7
    go_enter Try.func24, Try.ntmps24
    go_wp2_with (first
      | (go_at_call 17; (with_reducible refine (Hkn.out _).mono ?_); rintro e w8 ⟨rfl, rfl⟩; clear Hkn)
      | (go_at_call 32; (with_reducible refine (Hun.out _).mono ?_); rintro e w1 ⟨rfl, rfl⟩; clear Hun)
      | (go_at_call 32; (with_reducible refine (Hun2.out _).mono ?_); rintro e w1 ⟨rfl, rfl⟩; clear Hun2)
      | fail)
    refine wp_region_held_drew (S := (fun W => FGet w W w.heap.size (w.heap.size + 1) C)) (by kernel_rfl) (HS0.out.next ((Below.refl _ _).drew)) (fun hHeld => ?_)
    refine wpAnyH_take (i := 1) (oi := _) (v := .agg C.toArray) rfl (by kernel_rfl) (by kernel_rfl) (by kernel_rfl) (fun _ _ _ h => h) (yieldsIf_load_mid (by rfl) _ _ rfl _ _ rfl _ _ (fun _ h => h.cells) hu rfl hi) hHeld ?_
    (try dsimp only [List.getElem_toArray, List.getElem_cons_zero, List.getElem_cons_succ]); (try simp only [Act.put, List.setIfInBounds_toArray, List.set_cons_zero, List.set_cons_succ])
    refine wpAnyH_take (i := 0) (oi := _) (v := ?_) rfl (by kernel_rfl) (by kernel_rfl) (by kernel_rfl) (fun _ _ _ h => h) (Or.inl ⟨by rfl, ?_⟩) hHeld ?_
    rotate_left
    · (intro wz hSw; go_simp; try (with_reducible rfl))
    (try dsimp only [List.getElem_toArray, List.getElem_cons_zero, List.getElem_cons_succ]); (try simp only [Act.put, List.setIfInBounds_toArray, List.set_cons_zero, List.set_cons_succ])
    refine wpAnyH_take (i := 2) (oi := _) (v := ?_) rfl (by kernel_rfl) (by kernel_rfl) (by kernel_rfl) (fun _ _ _ h => h) (Or.inl ⟨by rfl, ?_⟩) hHeld ?_
    rotate_left
    · (intro wz hSw; go_simp; try (with_reducible rfl))
    (try dsimp only [List.getElem_toArray, List.getElem_cons_zero, List.getElem_cons_succ]); (try simp only [Act.put, List.setIfInBounds_toArray, List.set_cons_zero, List.set_cons_succ])
    refine wpAnyH_take (i := 3) (oi := _) (v := ?_) rfl (by kernel_rfl) (by kernel_rfl) (by kernel_rfl) (fun _ _ _ h => h) (Or.inl ⟨by rfl, ?_⟩) hHeld ?_
    rotate_left
    · (intro wz hSw; go_simp; try (with_reducible rfl))
    (try dsimp only [List.getElem_toArray, List.getElem_cons_zero, List.getElem_cons_succ]); (try simp only [Act.put, List.setIfInBounds_toArray, List.set_cons_zero, List.set_cons_succ])
    refine wpAnyH_take (i := 4) (oi := _) (v := ?_) rfl (by kernel_rfl) (by kernel_rfl) (by kernel_rfl) (fun _ _ _ h => h) (Or.inl ⟨by rfl, ?_⟩) hHeld ?_
    rotate_left
    · (intro wz hSw; go_simp; try (with_reducible rfl))
    (try dsimp only [List.getElem_toArray, List.getElem_cons_zero, List.getElem_cons_succ]); (try simp only [Act.put, List.setIfInBounds_toArray, List.set_cons_zero, List.set_cons_succ])
    refine wpAnyH_take (i := 5) (oi := _) (v := ?_) rfl (by kernel_rfl) (by kernel_rfl) (by kernel_rfl) (fun _ _ _ h => h) (Or.inl ⟨by rfl, ?_⟩) hHeld ?_
    rotate_left
    · (intro wz hSw; go_simp; try (with_reducible rfl))
    (try dsimp only [List.getElem_toArray, List.getElem_cons_zero, List.getElem_cons_succ]); (try simp only [Act.put, List.setIfInBounds_toArray, List.set_cons_zero, List.set_cons_succ])
    refine wpAnyH_take (i := 6) (oi := _) (v := ?_) rfl (by kernel_rfl) (by kernel_rfl) (by kernel_rfl) (fun _ _ _ h => h) (Or.inl ⟨by rfl, ?_⟩) hHeld ?_
    rotate_left
    · (intro wz hSw; go_simp; try (with_reducible rfl))
    (try dsimp only [List.getElem_toArray, List.getElem_cons_zero, List.getElem_cons_succ]); (try simp only [Act.put, List.setIfInBounds_toArray, List.set_cons_zero, List.set_cons_succ])
    refine wpAnyH_take (i := 7) (oi := _) (v := ?_) rfl (by kernel_rfl) (by kernel_rfl) (by kernel_rfl) (fun _ _ _ h => h) (Or.inl ⟨by rfl, ?_⟩) hHeld ?_
    rotate_left
    · (intro wz hSw; go_simp; try (with_reducible rfl))
    (try dsimp only [List.getElem_toArray, List.getElem_cons_zero, List.getElem_cons_succ]); (try simp only [Act.put, List.setIfInBounds_toArray, List.set_cons_zero, List.set_cons_succ])
    refine wpAnyH_ready (rs := [8]) (by kernel_rfl) (by simp) ?_
    refine AllReadyH.cons (o := _) rfl (fun K hK => ?_) AllReadyH.nil
    go_simp
    go_at_call 19
    (with_reducible refine (Hsum.out _).mono ?_)
    rintro e w2 ⟨rfl, hb1⟩
    refine hK.out _ _ (hHeld.next hb1) (fun hH => ?_)
    clear hHeld hK K hb1
    have hHeld := hH
    clear hH
    (try dsimp only [List.getElem_toArray, List.getElem_cons_zero, List.getElem_cons_succ]); (try simp only [Act.put, List.setIfInBounds_toArray, List.set_cons_zero, List.set_cons_succ])
    refine wpAnyH_take (i := 9) (oi := _) (v := ?_) rfl (by kernel_rfl) (by kernel_rfl) (by kernel_rfl) (fun _ _ _ h => h) (Or.inl ⟨by rfl, ?_⟩) hHeld ?_
    rotate_left
    · (intro wz hSw; go_simp; try (with_reducible rfl))
    (try dsimp only [List.getElem_toArray, List.getElem_cons_zero, List.getElem_cons_succ]); (try simp only [Act.put, List.setIfInBounds_toArray, List.set_cons_zero, List.set_cons_succ])
    refine wpAnyH_take (i := 10) (oi := _) (v := ?_) rfl (by kernel_rfl) (by kernel_rfl) (by kernel_rfl) (fun _ _ _ h => h) (Or.inl ⟨by rfl, ?_⟩) hHeld ?_
    rotate_left
    · (intro wz hSw; go_simp; try (with_reducible rfl))
    (try dsimp only [List.getElem_toArray, List.getElem_cons_zero, List.getElem_cons_succ]); (try simp only [Act.put, List.setIfInBounds_toArray, List.set_cons_zero, List.set_cons_succ])
    refine wpAnyH_done (by kernel_rfl) ?_ _
    have HS2 := Lib.hid hHeld
    clear hHeld HS0
    go_wp2_with (go_at_call 33; (with_reducible refine (Hcl.out _).mono ?_); rintro e w4 ⟨rfl, hb4⟩; have HS3 := Lib.hid (HS2.out.next hb4); have z0 := HS3.out.res.frozen 0; have z1 := HS3.out.res.frozen 1; have z2 := HS3.out.res.frozen 2; have z3 := HS3.out.res.frozen 3; have y0 := HS3.out.res.cell 0; have y1 := HS3.out.res.cell 1; have y2 := HS3.out.res.cell 2; have y3 := HS3.out.res.cell 3; simp only [List.getElem?_toArray, List.getElem?_cons_zero, List.getElem?_cons_succ] at y0 y1 y2 y3; clear hb4 Hcl)
    obtain ⟨q0, q1, q2, q3⟩ := fstored HS3.out.res (.int .i64 (k : Int)) (.string ⟨B.toArray⟩) (.int .i64 (m : Int)) (.int .i64 ((m : Int) + 5 + (n : Int) + 4))
    refine bodyPost_ret (v := .tuple #[.agg #[.int .i64 (k : Int), .string ⟨B.toArray⟩, .int .i64 (m : Int), .int .i64 ((m : Int) + 5 + (n : Int) + 4)], .int .i64 0]) (by simp [results, Try.results24, go_sem, q0, q1, q2, q3]) rfl ⟨by rw [HF.out, He9.out], (fstored_below HS3.out.below (Nat.le_succ _) _ _ _ _)⟩
  · rw [if_pos h7] at hR
    subst hR
    have HF : Hid (Y = (fnone, 7)) := Lib.hid (by rw [HX.out]; rfl)
    have hnz : ¬ vv = zz := fun e => h7 (hiff.2 e)
    have hne : ((vv : Int) != (zz : Int)) = true := by simpa using (by omega : ¬ (vv : Int) = (zz : Int))
    have hne2 : ((vv : Int) == (zz : Int)) = false := by simpa using (by omega : ¬ (vv : Int) = (zz : Int))
    have hne3 : decide ((vv : Int) = (zz : Int)) = false := decide_eq_false (by omega)
    clear HX hiff h7 Hcl
    go_enter Try.func24, Try.ntmps24
    go_wp2_with (first
      | (go_at_call 17; (with_reducible refine (Hkn.out _).mono ?_); rintro e w8 ⟨rfl, rfl⟩; clear Hkn)
      | (go_at_call 32; (with_reducible refine (Hun.out _).mono ?_); rintro e w1 ⟨rfl, rfl⟩; clear Hun)
      | (go_at_call 32; (with_reducible refine (Hun2.out _).mono ?_); rintro e w1 ⟨rfl, rfl⟩; clear Hun2)
      | fail)
    refine wp_region_held_drew (S := (fun W => FGet w W w.heap.size (w.heap.size + 1) C)) (by kernel_rfl) (HS0.out.next ((Below.refl _ _).drew)) (fun hHeld => ?_)
    refine wpAnyH_take (i := 1) (oi := _) (v := .agg C.toArray) rfl (by kernel_rfl) (by kernel_rfl) (by kernel_rfl) (fun _ _ _ h => h) (yieldsIf_load_mid (by rfl) _ _ rfl _ _ rfl _ _ (fun _ h => h.cells) hu rfl hi) hHeld ?_
    (try dsimp only [List.getElem_toArray, List.getElem_cons_zero, List.getElem_cons_succ]); (try simp only [Act.put, List.setIfInBounds_toArray, List.set_cons_zero, List.set_cons_succ])
    refine wpAnyH_take (i := 0) (oi := _) (v := ?_) rfl (by kernel_rfl) (by kernel_rfl) (by kernel_rfl) (fun _ _ _ h => h) (Or.inl ⟨by rfl, ?_⟩) hHeld ?_
    rotate_left
    · (intro wz hSw; go_simp; try (with_reducible rfl))
    (try dsimp only [List.getElem_toArray, List.getElem_cons_zero, List.getElem_cons_succ]); (try simp only [Act.put, List.setIfInBounds_toArray, List.set_cons_zero, List.set_cons_succ])
    refine wpAnyH_take (i := 2) (oi := _) (v := ?_) rfl (by kernel_rfl) (by kernel_rfl) (by kernel_rfl) (fun _ _ _ h => h) (Or.inl ⟨by rfl, ?_⟩) hHeld ?_
    rotate_left
    · (intro wz hSw; go_simp; try (with_reducible rfl))
    (try dsimp only [List.getElem_toArray, List.getElem_cons_zero, List.getElem_cons_succ]); (try simp only [Act.put, List.setIfInBounds_toArray, List.set_cons_zero, List.set_cons_succ])
    refine wpAnyH_take (i := 3) (oi := _) (v := ?_) rfl (by kernel_rfl) (by kernel_rfl) (by kernel_rfl) (fun _ _ _ h => h) (Or.inl ⟨by rfl, ?_⟩) hHeld ?_
    rotate_left
    · (intro wz hSw; go_simp; try (with_reducible rfl))
    (try dsimp only [List.getElem_toArray, List.getElem_cons_zero, List.getElem_cons_succ]); (try simp only [Act.put, List.setIfInBounds_toArray, List.set_cons_zero, List.set_cons_succ])
    refine wpAnyH_take (i := 4) (oi := _) (v := ?_) rfl (by kernel_rfl) (by kernel_rfl) (by kernel_rfl) (fun _ _ _ h => h) (Or.inl ⟨by rfl, ?_⟩) hHeld ?_
    rotate_left
    · (intro wz hSw; go_simp; try (with_reducible rfl))
    (try dsimp only [List.getElem_toArray, List.getElem_cons_zero, List.getElem_cons_succ]); (try simp only [Act.put, List.setIfInBounds_toArray, List.set_cons_zero, List.set_cons_succ])
    refine wpAnyH_take (i := 5) (oi := _) (v := ?_) rfl (by kernel_rfl) (by kernel_rfl) (by kernel_rfl) (fun _ _ _ h => h) (Or.inl ⟨by rfl, ?_⟩) hHeld ?_
    rotate_left
    · (intro wz hSw; go_simp; try (with_reducible rfl))
    (try dsimp only [List.getElem_toArray, List.getElem_cons_zero, List.getElem_cons_succ]); (try simp only [Act.put, List.setIfInBounds_toArray, List.set_cons_zero, List.set_cons_succ])
    refine wpAnyH_take (i := 6) (oi := _) (v := ?_) rfl (by kernel_rfl) (by kernel_rfl) (by kernel_rfl) (fun _ _ _ h => h) (Or.inl ⟨by rfl, ?_⟩) hHeld ?_
    rotate_left
    · (intro wz hSw; go_simp; try (with_reducible rfl))
    (try dsimp only [List.getElem_toArray, List.getElem_cons_zero, List.getElem_cons_succ]); (try simp only [Act.put, List.setIfInBounds_toArray, List.set_cons_zero, List.set_cons_succ])
    refine wpAnyH_take (i := 7) (oi := _) (v := ?_) rfl (by kernel_rfl) (by kernel_rfl) (by kernel_rfl) (fun _ _ _ h => h) (Or.inl ⟨by rfl, ?_⟩) hHeld ?_
    rotate_left
    · (intro wz hSw; go_simp; try (with_reducible rfl))
    (try dsimp only [List.getElem_toArray, List.getElem_cons_zero, List.getElem_cons_succ]); (try simp only [Act.put, List.setIfInBounds_toArray, List.set_cons_zero, List.set_cons_succ])
    refine wpAnyH_ready (rs := [8]) (by kernel_rfl) (by simp) ?_
    refine AllReadyH.cons (o := _) rfl (fun K hK => ?_) AllReadyH.nil
    go_simp
    go_at_call 19
    (with_reducible refine (Hsum.out _).mono ?_)
    rintro e w2 ⟨rfl, hb1⟩
    refine hK.out _ _ (hHeld.next hb1) (fun hH => ?_)
    clear hHeld hK K hb1
    have hHeld := hH
    clear hH
    (try dsimp only [List.getElem_toArray, List.getElem_cons_zero, List.getElem_cons_succ]); (try simp only [Act.put, List.setIfInBounds_toArray, List.set_cons_zero, List.set_cons_succ])
    refine wpAnyH_take (i := 9) (oi := _) (v := ?_) rfl (by kernel_rfl) (by kernel_rfl) (by kernel_rfl) (fun _ _ _ h => h) (Or.inl ⟨by rfl, ?_⟩) hHeld ?_
    rotate_left
    · (intro wz hSw; go_simp; try (with_reducible rfl))
    (try dsimp only [List.getElem_toArray, List.getElem_cons_zero, List.getElem_cons_succ]); (try simp only [Act.put, List.setIfInBounds_toArray, List.set_cons_zero, List.set_cons_succ])
    refine wpAnyH_take (i := 10) (oi := _) (v := ?_) rfl (by kernel_rfl) (by kernel_rfl) (by kernel_rfl) (fun _ _ _ h => h) (Or.inl ⟨by rfl, ?_⟩) hHeld ?_
    rotate_left
    · (intro wz hSw; go_simp; try (with_reducible rfl))
    (try dsimp only [List.getElem_toArray, List.getElem_cons_zero, List.getElem_cons_succ]); (try simp only [Act.put, List.setIfInBounds_toArray, List.set_cons_zero, List.set_cons_succ])
    refine wpAnyH_done (by kernel_rfl) ?_ _
    have HS2 := Lib.hid hHeld
    clear hHeld HS0
    have z0 := HS2.out.res.frozen 0
    have z1 := HS2.out.res.frozen 1
    have z2 := HS2.out.res.frozen 2
    have z3 := HS2.out.res.frozen 3
    have y0 := HS2.out.res.cell 0
    have y1 := HS2.out.res.cell 1
    have y2 := HS2.out.res.cell 2
    have y3 := HS2.out.res.cell 3
    simp only [List.getElem?_toArray, List.getElem?_cons_zero, List.getElem?_cons_succ] at y0 y1 y2 y3
    go_wp2
    obtain ⟨q0, q1, q2, q3⟩ := fstored HS2.out.res (.int .i64 0) (.string ⟨#[]⟩) (.int .i64 0) (.int .i64 0)
    refine bodyPost_ret (v := .tuple #[.agg #[.int .i64 0, .string ⟨#[]⟩, .int .i64 0, .int .i64 0], .int .i64 7]) (by simp [results, Try.results24, go_sem, q0, q1, q2, q3]) rfl ⟨by rw [HF.out]; rfl, fstored_below HS2.out.below (Nat.le_succ _) _ _ _ _⟩
set_option maxRecDepth 100000 in
theorem p_fget_any (s : List UInt8) (p : Int) (w : World) (hs : s.length ≤ 1000000) :
    Calls Try.prog 12 #[.string ⟨s.toArray⟩, .int .i64 p] w fun e w' => FGPost w w' e (fgetF s p) := by
  unfold FGPost
  have ht := Lib.hid fun W => table_any W
  have hg := fun W => p_fget0_any s p W hs
  unfold FGPost at hg
  replace hg := Lib.hid hg
  have HB0 := Lib.hid ((Below.refl w.heap.size w).alloc (Nat.le_refl _) (.cells #[.int .i64 0, .string ⟨#[]⟩, .int .i64 0, .int .i64 0] 31))
  have HR0 := Lib.hid (Blk.new w 31 #[.int .i64 0, .string ⟨#[]⟩, .int .i64 0, .int .i64 0])
  generalize fgetF s p = Y at *
  obtain ⟨⟨k, b, a, t⟩, e⟩ := Y
  dsimp only at hg ⊢
  generalize tab T0 = C at *
  go_enter Try.func12, Try.ntmps12
  go_wp2_with (first
    | (go_at_call 20; (with_reducible refine (ht.out _).mono ?_); rintro e w1 ⟨rfl, hb1⟩; have HB1 := Lib.hid (HB0.out.trans (hb1.mono HB0.out.size)); have HR1 := Lib.hid (HR0.out.below hb1 HR0.out.lt); clear hb1 ht)
    | (go_at_call 24; (with_reducible refine (hg.out _).mono ?_); rintro e w2 ⟨rfl, hb2⟩; have HB2 := Lib.hid (HB1.out.trans (hb2.mono HB1.out.size)); have HR2 := Lib.hid (HR1.out.below hb2 HR1.out.lt); have z0 := HR2.out.frozen 0; have z1 := HR2.out.frozen 1; have z2 := HR2.out.frozen 2; have z3 := HR2.out.frozen 3; have y0 : w2.cell? ⟨w.heap.size, 0, none⟩ = some (.int .i64 0) := HR2.out.cell 0; have y1 : w2.cell? ⟨w.heap.size, 1, none⟩ = some (.string ⟨#[]⟩) := HR2.out.cell 1; have y2 : w2.cell? ⟨w.heap.size, 2, none⟩ = some (.int .i64 0) := HR2.out.cell 2; have y3 : w2.cell? ⟨w.heap.size, 3, none⟩ = some (.int .i64 0) := HR2.out.cell 3; clear hb2 hg))
  obtain ⟨q0, q1, q2, q3⟩ := fstored HR2.out (.int .i64 k) (.string ⟨b.toArray⟩) (.int .i64 a) (.int .i64 t)
  refine bodyPost_ret (v := .tuple #[.agg #[.int .i64 k, .string ⟨b.toArray⟩, .int .i64 a, .int .i64 t], .int .i64 e]) (by simp [results, Try.results12, go_sem, q0, q1, q2, q3]) rfl ⟨rfl, fstored_below HB2.out (Nat.le_refl _) _ _ _ _⟩
end Go.Proofs.Ytodllghfcdbbpaa
