/-
  Layer 18, the document's: Parse, Kind (ahead of the code's landing).
-/
import Derived.Test.YtmejcckbbcgmnaaDoorNamR
namespace Go.Proofs.YtmejcckbbcgmnaaDoor
set_option linter.unusedSimpArgs false
set_option linter.unusedVariables false
open Go.ChangeShapes Go.WideShapes Go.ChangeAt Go.RowKit Go.Joins Go.Deep
def NPost (w w' : World) (e : Ending) (F : Int × Int × Bool) : Prop := e = .returned (.tuple #[.int .i64 F.1, .int .i64 F.2.1, .bool F.2.2]) ∧ Below w.heap.size w w'
theorem next_part (l : List UInt8) (a b : Nat) : (⟨l.toArray⟩ : ByteArray).extract a b = ⟨((l.drop a).take (b - a)).toArray⟩ := by
  rw [ByteArray.extract_mk]
theorem nform_no {s : List UInt8} (h : nform s = false) : nparF s = (0, 0, false) := by
  unfold nparF
  rw [if_neg (by rw [h]; simp)]
set_option maxRecDepth 100000 in
set_option maxHeartbeats 8000000 in
theorem nref_parse_any (s : List UInt8) (w : World) (hs : s.length ≤ 1000000) :
    Calls Tryd.prog 8 #[.string ⟨s.toArray⟩] w fun e w' => NPost w w' e (nparF s) := by
  unfold NPost
  by_cases hl : s.length ≠ 21
  · have HF := nform_no (s := s) (decide_eq_false (fun h => hl h.1))
    have hli : ((s.length : Int) != 21) = true := by rw [bne_iff_ne]; omega
    have hlj : ¬ (s.length : Int) = 21 := by omega
    rw [HF]
    clear HF
    go_enter Tryd.func8, Tryd.ntmps8
    go_wp2
    refine bodyPost_ret (v := .tuple #[.int .i64 0, .int .i64 0, .bool false]) (by simp [results, Tryd.results8, go_sem]) rfl ⟨rfl, by go_grown⟩
  have hl21 : s.length = 21 := Classical.not_not.1 hl
  have hli : (s.length : Int) = 21 := by omega
  have hlj : ((s.length : Int) != 21) = false := by rw [hli]; rfl
  have x4 := next_part s 0 4
  have x17 := next_part s 17 s.length
  have xa := next_part s 4 10
  have xb := next_part s 11 17
  have hby := True.intro
  have e10 : s[10].toNat = (s.getD 10 0).toNat := by rw [List.getD_eq_getElem?_getD, List.getElem?_eq_getElem (by omega : 10 < s.length)]; rfl
  have h10 : 10 < (⟨s.toArray⟩ : ByteArray).size := by rw [ByteArray.size_mk', List.size_toArray]; omega
  have hx10 : ((⟨s.toArray⟩ : ByteArray)[10]'h10).toNat = (s.getD 10 0).toNat := e10
  clear hby
  have H1 := Lib.hid fun W => nref_unsix_any ((s.drop 4).take 6) W (by rw [List.length_take]; omega)
  have H2 := Lib.hid fun W => nref_unsix_any ((s.drop 11).take 6) W (by rw [List.length_take]; omega)
  rw [List.drop_zero] at x4
  rw [List.take_of_length_le (by rw [List.length_drop]; omega)] at x17
  have hfm : nform s = decide (s.take 4 = nhead ∧ s.getD 10 0 = 45 ∧ s.drop 17 = ntail) := by unfold nform; simp [hl21]
  have hpar : nform s = true → nparF s = if 1 ≤ nun ((s.drop 4).take 6) 0 ∧ 1 ≤ nun ((s.drop 11).take 6) 0 then (nun ((s.drop 4).take 6) 0, nun ((s.drop 11).take 6) 0, true) else (0, 0, false) := fun h => by
    unfold nparF
    simp only [h, true_and]
  have hno := nform_no (s := s)
  rw [hfm] at hpar hno
  clear hfm e10 hl hs
  generalize nparF s = R at *
  simp only [Nat.reduceSub] at x4 xa xb
  generalize s.take 4 = T4 at *
  generalize s.drop 17 = T17 at *
  generalize (s.drop 4).take 6 = P at *
  generalize (s.drop 11).take 6 = Q at *
  generalize s.getD 10 0 = c at *
  have hcc : c = 45 ↔ c.toNat = 45 := ⟨fun h => by rw [h]; rfl, fun h => u8_eq h⟩
  by_cases h4 : T4 = nhead
  · subst h4
    by_cases hc : c = 45
    · by_cases h17 : T17 = ntail
      · subst h17
        replace hpar := hpar (decide_eq_true ⟨rfl, hc, rfl⟩)
        have hci := hcc.1 hc
        clear hcc hc hno
        rw [hci] at hx10
        clear hci
        unfold nhead at x4
        unfold ntail at x17
        rw [hl21] at x17
        generalize nun P 0 = a at *
        generalize nun Q 0 = b at *
        by_cases ha : a < 1
        · have HF : Hid (R = (0, 0, false)) := Lib.hid (by rw [hpar, if_neg (by omega)])
          clear hpar
          go_enter Tryd.func8, Tryd.ntmps8
          go_wp2
          refine wp_region_held_drew (S := (fun W9 => Below w.heap.size w W9)) (by kernel_rfl) (((Below.refl w.heap.size w).drew)) (fun hHeld => ?_)
          refine wpAnyH_take (i := 0) (oi := _) (v := ?_) rfl (by kernel_rfl) (by kernel_rfl) (by kernel_rfl) (fun _ _ _ h => h) (Or.inl ⟨by rfl, ?_⟩) hHeld ?_
          rotate_left
          · (intro wz hSw; go_simp; try (with_reducible rfl))
          (try dsimp only [List.getElem_toArray, List.getElem_cons_zero, List.getElem_cons_succ]); (try simp only [Act.put, List.setIfInBounds_toArray, List.set_cons_zero, List.set_cons_succ])
          refine wpAnyH_take (i := 1) (oi := _) (v := ?_) rfl (by kernel_rfl) (by kernel_rfl) (by kernel_rfl) (fun _ _ _ h => h) (Or.inl ⟨by rfl, ?_⟩) hHeld ?_
          rotate_left
          · (intro wz hSw; go_simp; try (with_reducible rfl))
          (try dsimp only [List.getElem_toArray, List.getElem_cons_zero, List.getElem_cons_succ]); (try simp only [Act.put, List.setIfInBounds_toArray, List.set_cons_zero, List.set_cons_succ])
          refine wpAnyH_take (i := 3) (oi := _) (v := ?_) rfl (by kernel_rfl) (by kernel_rfl) (by kernel_rfl) (fun _ _ _ h => h) (Or.inl ⟨by rfl, ?_⟩) hHeld ?_
          rotate_left
          · (intro wz hSw; go_simp; try (with_reducible rfl))
          (try dsimp only [List.getElem_toArray, List.getElem_cons_zero, List.getElem_cons_succ]); (try simp only [Act.put, List.setIfInBounds_toArray, List.set_cons_zero, List.set_cons_succ])
          refine wpAnyH_take (i := 4) (oi := _) (v := ?_) rfl (by kernel_rfl) (by kernel_rfl) (by kernel_rfl) (fun _ _ _ h => h) (Or.inl ⟨by rfl, ?_⟩) hHeld ?_
          rotate_left
          · (intro wz hSw; go_simp; try (with_reducible rfl))
          (try dsimp only [List.getElem_toArray, List.getElem_cons_zero, List.getElem_cons_succ]); (try simp only [Act.put, List.setIfInBounds_toArray, List.set_cons_zero, List.set_cons_succ])
          refine wpAnyH_ready (rs := [2]) (by kernel_rfl) (by simp) ?_
          refine AllReadyH.cons (o := _) rfl (fun K hK => ?_) AllReadyH.nil
          go_simp
          go_at_call 18
          (with_reducible refine (H1.out _).mono ?_)
          rintro e w5 ⟨rfl, hw5⟩
          subst hw5
          have hb1 : True := trivial
          refine hK.out _ _ (hHeld) (fun hH => ?_)
          clear hHeld hK K hb1
          have hHeld := hH
          clear hH
          (try dsimp only [List.getElem_toArray, List.getElem_cons_zero, List.getElem_cons_succ]); (try simp only [Act.put, List.setIfInBounds_toArray, List.set_cons_zero, List.set_cons_succ])
          refine wpAnyH_ready (rs := [5]) (by kernel_rfl) (by simp) ?_
          refine AllReadyH.cons (o := _) rfl (fun K hK => ?_) AllReadyH.nil
          go_simp
          go_at_call 18
          (with_reducible refine (H2.out _).mono ?_)
          rintro e w5 ⟨rfl, hw5⟩
          subst hw5
          have hb1 : True := trivial
          refine hK.out _ _ (hHeld) (fun hH => ?_)
          clear hHeld hK K hb1
          have hHeld := hH
          clear hH
          (try dsimp only [List.getElem_toArray, List.getElem_cons_zero, List.getElem_cons_succ]); (try simp only [Act.put, List.setIfInBounds_toArray, List.set_cons_zero, List.set_cons_succ])
          refine wpAnyH_take (i := 6) (oi := _) (v := ?_) rfl (by kernel_rfl) (by kernel_rfl) (by kernel_rfl) (fun _ _ _ h => h) (Or.inl ⟨by rfl, ?_⟩) hHeld ?_
          rotate_left
          · (intro wz hSw; go_simp; try (with_reducible rfl))
          (try dsimp only [List.getElem_toArray, List.getElem_cons_zero, List.getElem_cons_succ]); (try simp only [Act.put, List.setIfInBounds_toArray, List.set_cons_zero, List.set_cons_succ])
          refine wpAnyH_take (i := 7) (oi := _) (v := ?_) rfl (by kernel_rfl) (by kernel_rfl) (by kernel_rfl) (fun _ _ _ h => h) (Or.inl ⟨by rfl, ?_⟩) hHeld ?_
          rotate_left
          · (intro wz hSw; go_simp; try (with_reducible rfl))
          (try dsimp only [List.getElem_toArray, List.getElem_cons_zero, List.getElem_cons_succ]); (try simp only [Act.put, List.setIfInBounds_toArray, List.set_cons_zero, List.set_cons_succ])
          refine wpAnyH_done (by kernel_rfl) ?_ _
          have HB9 := Lib.hid hHeld
          clear hHeld
          go_wp2
          refine bodyPost_ret (v := .tuple #[.int .i64 0, .int .i64 0, .bool false]) (by simp [results, Tryd.results8, go_sem]) rfl ⟨by rw [HF.out], HB9.out⟩
        · by_cases hb : b < 1
          · have HF : Hid (R = (0, 0, false)) := Lib.hid (by rw [hpar, if_neg (by omega)])
            clear hpar
            go_enter Tryd.func8, Tryd.ntmps8
            go_wp2
            refine wp_region_held_drew (S := (fun W9 => Below w.heap.size w W9)) (by kernel_rfl) (((Below.refl w.heap.size w).drew)) (fun hHeld => ?_)
            refine wpAnyH_take (i := 0) (oi := _) (v := ?_) rfl (by kernel_rfl) (by kernel_rfl) (by kernel_rfl) (fun _ _ _ h => h) (Or.inl ⟨by rfl, ?_⟩) hHeld ?_
            rotate_left
            · (intro wz hSw; go_simp; try (with_reducible rfl))
            (try dsimp only [List.getElem_toArray, List.getElem_cons_zero, List.getElem_cons_succ]); (try simp only [Act.put, List.setIfInBounds_toArray, List.set_cons_zero, List.set_cons_succ])
            refine wpAnyH_take (i := 1) (oi := _) (v := ?_) rfl (by kernel_rfl) (by kernel_rfl) (by kernel_rfl) (fun _ _ _ h => h) (Or.inl ⟨by rfl, ?_⟩) hHeld ?_
            rotate_left
            · (intro wz hSw; go_simp; try (with_reducible rfl))
            (try dsimp only [List.getElem_toArray, List.getElem_cons_zero, List.getElem_cons_succ]); (try simp only [Act.put, List.setIfInBounds_toArray, List.set_cons_zero, List.set_cons_succ])
            refine wpAnyH_take (i := 3) (oi := _) (v := ?_) rfl (by kernel_rfl) (by kernel_rfl) (by kernel_rfl) (fun _ _ _ h => h) (Or.inl ⟨by rfl, ?_⟩) hHeld ?_
            rotate_left
            · (intro wz hSw; go_simp; try (with_reducible rfl))
            (try dsimp only [List.getElem_toArray, List.getElem_cons_zero, List.getElem_cons_succ]); (try simp only [Act.put, List.setIfInBounds_toArray, List.set_cons_zero, List.set_cons_succ])
            refine wpAnyH_take (i := 4) (oi := _) (v := ?_) rfl (by kernel_rfl) (by kernel_rfl) (by kernel_rfl) (fun _ _ _ h => h) (Or.inl ⟨by rfl, ?_⟩) hHeld ?_
            rotate_left
            · (intro wz hSw; go_simp; try (with_reducible rfl))
            (try dsimp only [List.getElem_toArray, List.getElem_cons_zero, List.getElem_cons_succ]); (try simp only [Act.put, List.setIfInBounds_toArray, List.set_cons_zero, List.set_cons_succ])
            refine wpAnyH_ready (rs := [2]) (by kernel_rfl) (by simp) ?_
            refine AllReadyH.cons (o := _) rfl (fun K hK => ?_) AllReadyH.nil
            go_simp
            go_at_call 18
            (with_reducible refine (H1.out _).mono ?_)
            rintro e w5 ⟨rfl, hw5⟩
            subst hw5
            have hb1 : True := trivial
            refine hK.out _ _ (hHeld) (fun hH => ?_)
            clear hHeld hK K hb1
            have hHeld := hH
            clear hH
            (try dsimp only [List.getElem_toArray, List.getElem_cons_zero, List.getElem_cons_succ]); (try simp only [Act.put, List.setIfInBounds_toArray, List.set_cons_zero, List.set_cons_succ])
            refine wpAnyH_ready (rs := [5]) (by kernel_rfl) (by simp) ?_
            refine AllReadyH.cons (o := _) rfl (fun K hK => ?_) AllReadyH.nil
            go_simp
            go_at_call 18
            (with_reducible refine (H2.out _).mono ?_)
            rintro e w5 ⟨rfl, hw5⟩
            subst hw5
            have hb1 : True := trivial
            refine hK.out _ _ (hHeld) (fun hH => ?_)
            clear hHeld hK K hb1
            have hHeld := hH
            clear hH
            (try dsimp only [List.getElem_toArray, List.getElem_cons_zero, List.getElem_cons_succ]); (try simp only [Act.put, List.setIfInBounds_toArray, List.set_cons_zero, List.set_cons_succ])
            refine wpAnyH_take (i := 6) (oi := _) (v := ?_) rfl (by kernel_rfl) (by kernel_rfl) (by kernel_rfl) (fun _ _ _ h => h) (Or.inl ⟨by rfl, ?_⟩) hHeld ?_
            rotate_left
            · (intro wz hSw; go_simp; try (with_reducible rfl))
            (try dsimp only [List.getElem_toArray, List.getElem_cons_zero, List.getElem_cons_succ]); (try simp only [Act.put, List.setIfInBounds_toArray, List.set_cons_zero, List.set_cons_succ])
            refine wpAnyH_take (i := 7) (oi := _) (v := ?_) rfl (by kernel_rfl) (by kernel_rfl) (by kernel_rfl) (fun _ _ _ h => h) (Or.inl ⟨by rfl, ?_⟩) hHeld ?_
            rotate_left
            · (intro wz hSw; go_simp; try (with_reducible rfl))
            (try dsimp only [List.getElem_toArray, List.getElem_cons_zero, List.getElem_cons_succ]); (try simp only [Act.put, List.setIfInBounds_toArray, List.set_cons_zero, List.set_cons_succ])
            refine wpAnyH_done (by kernel_rfl) ?_ _
            have HB9 := Lib.hid hHeld
            clear hHeld
            go_wp2
            refine bodyPost_ret (v := .tuple #[.int .i64 0, .int .i64 0, .bool false]) (by simp [results, Tryd.results8, go_sem]) rfl ⟨by rw [HF.out], HB9.out⟩
          · have HF : Hid (R = (a, b, true)) := Lib.hid (by rw [hpar, if_pos (by omega)])
            clear hpar
            go_enter Tryd.func8, Tryd.ntmps8
            go_wp2
            refine wp_region_held_drew (S := (fun W9 => Below w.heap.size w W9)) (by kernel_rfl) (((Below.refl w.heap.size w).drew)) (fun hHeld => ?_)
            refine wpAnyH_take (i := 0) (oi := _) (v := ?_) rfl (by kernel_rfl) (by kernel_rfl) (by kernel_rfl) (fun _ _ _ h => h) (Or.inl ⟨by rfl, ?_⟩) hHeld ?_
            rotate_left
            · (intro wz hSw; go_simp; try (with_reducible rfl))
            (try dsimp only [List.getElem_toArray, List.getElem_cons_zero, List.getElem_cons_succ]); (try simp only [Act.put, List.setIfInBounds_toArray, List.set_cons_zero, List.set_cons_succ])
            refine wpAnyH_take (i := 1) (oi := _) (v := ?_) rfl (by kernel_rfl) (by kernel_rfl) (by kernel_rfl) (fun _ _ _ h => h) (Or.inl ⟨by rfl, ?_⟩) hHeld ?_
            rotate_left
            · (intro wz hSw; go_simp; try (with_reducible rfl))
            (try dsimp only [List.getElem_toArray, List.getElem_cons_zero, List.getElem_cons_succ]); (try simp only [Act.put, List.setIfInBounds_toArray, List.set_cons_zero, List.set_cons_succ])
            refine wpAnyH_take (i := 3) (oi := _) (v := ?_) rfl (by kernel_rfl) (by kernel_rfl) (by kernel_rfl) (fun _ _ _ h => h) (Or.inl ⟨by rfl, ?_⟩) hHeld ?_
            rotate_left
            · (intro wz hSw; go_simp; try (with_reducible rfl))
            (try dsimp only [List.getElem_toArray, List.getElem_cons_zero, List.getElem_cons_succ]); (try simp only [Act.put, List.setIfInBounds_toArray, List.set_cons_zero, List.set_cons_succ])
            refine wpAnyH_take (i := 4) (oi := _) (v := ?_) rfl (by kernel_rfl) (by kernel_rfl) (by kernel_rfl) (fun _ _ _ h => h) (Or.inl ⟨by rfl, ?_⟩) hHeld ?_
            rotate_left
            · (intro wz hSw; go_simp; try (with_reducible rfl))
            (try dsimp only [List.getElem_toArray, List.getElem_cons_zero, List.getElem_cons_succ]); (try simp only [Act.put, List.setIfInBounds_toArray, List.set_cons_zero, List.set_cons_succ])
            refine wpAnyH_ready (rs := [2]) (by kernel_rfl) (by simp) ?_
            refine AllReadyH.cons (o := _) rfl (fun K hK => ?_) AllReadyH.nil
            go_simp
            go_at_call 18
            (with_reducible refine (H1.out _).mono ?_)
            rintro e w5 ⟨rfl, hw5⟩
            subst hw5
            have hb1 : True := trivial
            refine hK.out _ _ (hHeld) (fun hH => ?_)
            clear hHeld hK K hb1
            have hHeld := hH
            clear hH
            (try dsimp only [List.getElem_toArray, List.getElem_cons_zero, List.getElem_cons_succ]); (try simp only [Act.put, List.setIfInBounds_toArray, List.set_cons_zero, List.set_cons_succ])
            refine wpAnyH_ready (rs := [5]) (by kernel_rfl) (by simp) ?_
            refine AllReadyH.cons (o := _) rfl (fun K hK => ?_) AllReadyH.nil
            go_simp
            go_at_call 18
            (with_reducible refine (H2.out _).mono ?_)
            rintro e w5 ⟨rfl, hw5⟩
            subst hw5
            have hb1 : True := trivial
            refine hK.out _ _ (hHeld) (fun hH => ?_)
            clear hHeld hK K hb1
            have hHeld := hH
            clear hH
            (try dsimp only [List.getElem_toArray, List.getElem_cons_zero, List.getElem_cons_succ]); (try simp only [Act.put, List.setIfInBounds_toArray, List.set_cons_zero, List.set_cons_succ])
            refine wpAnyH_take (i := 6) (oi := _) (v := ?_) rfl (by kernel_rfl) (by kernel_rfl) (by kernel_rfl) (fun _ _ _ h => h) (Or.inl ⟨by rfl, ?_⟩) hHeld ?_
            rotate_left
            · (intro wz hSw; go_simp; try (with_reducible rfl))
            (try dsimp only [List.getElem_toArray, List.getElem_cons_zero, List.getElem_cons_succ]); (try simp only [Act.put, List.setIfInBounds_toArray, List.set_cons_zero, List.set_cons_succ])
            refine wpAnyH_take (i := 7) (oi := _) (v := ?_) rfl (by kernel_rfl) (by kernel_rfl) (by kernel_rfl) (fun _ _ _ h => h) (Or.inl ⟨by rfl, ?_⟩) hHeld ?_
            rotate_left
            · (intro wz hSw; go_simp; try (with_reducible rfl))
            (try dsimp only [List.getElem_toArray, List.getElem_cons_zero, List.getElem_cons_succ]); (try simp only [Act.put, List.setIfInBounds_toArray, List.set_cons_zero, List.set_cons_succ])
            refine wpAnyH_done (by kernel_rfl) ?_ _
            have HB9 := Lib.hid hHeld
            clear hHeld
            go_wp2
            refine bodyPost_ret (v := .tuple #[.int .i64 a, .int .i64 b, .bool true]) (by simp [results, Tryd.results8, go_sem]) rfl ⟨by rw [HF.out], HB9.out⟩
      · have HF : Hid (R = (0, 0, false)) := Lib.hid (hno (decide_eq_false (fun h => h17 h.2.2)))
        have hci := hcc.1 hc
        have q1 : (T17 == [46, 108, 111, 103]) = false := by rw [beq_eq_false_iff_ne]; exact h17
        have q2 : ¬ T17 = [46, 108, 111, 103] := h17
        clear hpar hno hcc hc H1 H2 h17
        unfold nhead at x4
        rw [hl21] at x17
        rw [hci] at hx10
        clear hci
        go_enter Tryd.func8, Tryd.ntmps8
        go_wp2
        refine bodyPost_ret (v := .tuple #[.int .i64 0, .int .i64 0, .bool false]) (by simp [results, Tryd.results8, go_sem]) rfl ⟨by rw [HF.out], by go_grown⟩
    · have HF : Hid (R = (0, 0, false)) := Lib.hid (hno (decide_eq_false (fun h => hc h.2.1)))
      have hci : ¬ c.toNat = 45 := fun h => hc (hcc.2 h)
      have q1 : ((c.toNat : Int) != 45) = true := by rw [bne_iff_ne]; omega
      have q2 : ¬ (c.toNat : Int) = 45 := by omega
      clear hpar hno hcc hc H1 H2
      unfold nhead at x4
      generalize c.toNat = z at *
      go_enter Tryd.func8, Tryd.ntmps8
      go_wp2
      refine bodyPost_ret (v := .tuple #[.int .i64 0, .int .i64 0, .bool false]) (by simp [results, Tryd.results8, go_sem]) rfl ⟨by rw [HF.out], by go_grown⟩
  · have HF : Hid (R = (0, 0, false)) := Lib.hid (hno (decide_eq_false (fun h => h4 h.1)))
    have q1 : (T4 == [115, 101, 103, 45]) = false := by rw [beq_eq_false_iff_ne]; exact h4
    have q2 : ¬ T4 = [115, 101, 103, 45] := h4
    clear hpar hno hcc H1 H2 h4
    go_enter Tryd.func8, Tryd.ntmps8
    go_wp2
    refine bodyPost_ret (v := .tuple #[.int .i64 0, .int .i64 0, .bool false]) (by simp [results, Tryd.results8, go_sem]) rfl ⟨by rw [HF.out], by go_grown⟩
set_option maxRecDepth 100000 in
set_option maxHeartbeats 2000000 in
theorem nref_kind_any (s : List UInt8) (w : World) (hs : s.length ≤ 1000000) :
    Calls Tryd.prog 14 #[.string ⟨s.toArray⟩] w fun e w' => e = .returned (.int .i64 (nkindF s)) ∧ Below w.heap.size w w' := by
  have hp := fun W => nref_parse_any s W hs
  unfold NPost at hp
  unfold nkindF
  generalize nparF s = R at *
  obtain ⟨a, b, ok⟩ := R
  dsimp only at hp ⊢
  have Hp := Lib.hid hp
  clear hp
  cases ok with
  | true =>
    rw [if_pos rfl]
    go_enter Tryd.func14, Tryd.ntmps14
    go_wp2_with (go_at_call 8; (with_reducible refine (Hp.out _).mono ?_); rintro e w1 ⟨rfl, hb1⟩; have HB1 := Lib.hid hb1; clear hb1 Hp)
    go_ret
    exact ⟨rfl, HB1.out⟩
  | false =>
    rw [if_neg (by decide)]
    by_cases h1 : s = nmani
    · rw [if_pos h1]
      have q1 : (s == [109, 97, 110, 105, 102, 101, 115, 116]) = true := by rw [beq_iff_eq]; exact h1
      clear h1
      go_enter Tryd.func14, Tryd.ntmps14
      go_wp2_with (go_at_call 8; (with_reducible refine (Hp.out _).mono ?_); rintro e w1 ⟨rfl, hb1⟩; have HB1 := Lib.hid hb1; clear hb1 Hp)
      go_ret
      exact ⟨rfl, HB1.out⟩
    · rw [if_neg h1]
      have q1 : (s == [109, 97, 110, 105, 102, 101, 115, 116]) = false := by rw [beq_eq_false_iff_ne]; exact h1
      clear h1
      by_cases h2 : s = ntemp
      · rw [if_pos h2]
        have q2 : (s == [109, 97, 110, 105, 102, 101, 115, 116, 46, 110, 101, 119]) = true := by rw [beq_iff_eq]; exact h2
        clear h2
        go_enter Tryd.func14, Tryd.ntmps14
        go_wp2_with (go_at_call 8; (with_reducible refine (Hp.out _).mono ?_); rintro e w1 ⟨rfl, hb1⟩; have HB1 := Lib.hid hb1; clear hb1 Hp)
        go_ret
        exact ⟨rfl, HB1.out⟩
      · rw [if_neg h2]
        have q2 : (s == [109, 97, 110, 105, 102, 101, 115, 116, 46, 110, 101, 119]) = false := by rw [beq_eq_false_iff_ne]; exact h2
        clear h2
        go_enter Tryd.func14, Tryd.ntmps14
        go_wp2_with (go_at_call 8; (with_reducible refine (Hp.out _).mono ?_); rintro e w1 ⟨rfl, hb1⟩; have HB1 := Lib.hid hb1; clear hb1 Hp)
        go_ret
        exact ⟨rfl, HB1.out⟩
end Go.Proofs.YtmejcckbbcgmnaaDoor
