/-
  Layer 18, the program's: Parse, Kind, Manifest, Temp.
-/
import Derived.Test.YtmejcckbbcgmnaaDoorNamB
namespace Go.Proofs.YtmejcckbbcgmnaaDoor
set_option linter.unusedSimpArgs false
set_option linter.unusedVariables false
open Go.ChangeShapes Go.WideShapes Go.ChangeAt Go.RowKit Go.Joins Go.Deep
theorem npar_made (s : List UInt8) :
    ((nsegF (nnum ((s.drop 4).take 6)) (nnum ((s.drop 11).take 6))).2 = 0 ∧ (nsegF (nnum ((s.drop 4).take 6)) (nnum ((s.drop 11).take 6))).1 = s → nparF s = (nnum ((s.drop 4).take 6), nnum ((s.drop 11).take 6), true)) ∧
      (¬ ((nsegF (nnum ((s.drop 4).take 6)) (nnum ((s.drop 11).take 6))).2 = 0 ∧ (nsegF (nnum ((s.drop 4).take 6)) (nnum ((s.drop 11).take 6))).1 = s) → nparF s = (0, 0, false)) := by
  constructor
  · rintro ⟨h1, h2⟩
    generalize hi : nnum ((s.drop 4).take 6) = i at *
    generalize hg : nnum ((s.drop 11).take 6) = g at *
    unfold nsegF at h1 h2
    by_cases hc : 1 ≤ i ∧ i ≤ 999999 ∧ 1 ≤ g ∧ g ≤ 999999
    · rw [if_pos hc] at h2
      dsimp only at h2
      rw [← h2, nback _ _ (by omega) (by omega)]
      congr 1
      · omega
      · congr 1
        omega
    · rw [if_neg hc] at h1
      cases h1
  · intro h
    by_cases hp : (nparF s).2.2 = true
    · obtain ⟨a, b, ha, hb, -, hs⟩ := nforth hp
      exfalso
      refine h ?_
      obtain ⟨-, e1, -, e2, -⟩ := nmB_parts a b
      have n1 : nnum ((s.drop 4).take 6) = (a : Int) := by
        rw [hs, e1]
        unfold nnum
        rw [nun_sx, Nat.mod_eq_of_lt (by omega), if_pos (by omega)]
        omega
      have n2 : nnum ((s.drop 11).take 6) = (b : Int) := by
        rw [hs, e2]
        unfold nnum
        rw [nun_sx, Nat.mod_eq_of_lt (by omega), if_pos (by omega)]
        omega
      rw [n1, n2]
      unfold nsegF
      rw [if_pos (by omega), hs]
      exact ⟨rfl, rfl⟩
    · unfold nparF at hp ⊢
      split
      · rename_i hc
        rw [if_pos hc] at hp
        exact absurd rfl hp
      · rfl
set_option maxRecDepth 100000 in
set_option maxHeartbeats 8000000 in
theorem p_npar_any (s : List UInt8) (w : World) (hs : s.length ≤ 1000000) (ht : NTab w) :
    Calls Tryd.prog 7 #[.string ⟨s.toArray⟩] w fun e w' => NPost w w' e (nparF s) := by
  unfold NPost
  by_cases hl : s.length ≠ 21
  · have HF := nform_no (s := s) (decide_eq_false (fun h => hl h.1))
    have hli : ((s.length : Int) != 21) = true := by rw [bne_iff_ne]; omega
    have hlj : ¬ (s.length : Int) = 21 := by omega
    rw [HF]
    clear HF ht
    go_enter Tryd.func7, Tryd.ntmps7
    go_wp2
    refine bodyPost_ret (v := .tuple #[.int .i64 0, .int .i64 0, .bool false]) (by simp [results, Tryd.results7, go_sem]) rfl ⟨rfl, by go_grown⟩
  have hl21 : s.length = 21 := Classical.not_not.1 hl
  have hli : (s.length : Int) = 21 := by omega
  have hlj : ((s.length : Int) != 21) = false := by rw [hli]; rfl
  have xa := next_part s 4 10
  have xb := next_part s 11 17
  have HT := Lib.hid ht
  have H1 := Lib.hid fun W => p_nnum_any ((s.drop 4).take 6) W (by rw [List.length_take]; omega)
  have H2 := Lib.hid fun W => p_nnum_any ((s.drop 11).take 6) W (by rw [List.length_take]; omega)
  have HS := Lib.hid fun W (hW : NTab W) => p_nseg_any (nnum ((s.drop 4).take 6)) (nnum ((s.drop 11).take 6)) W hW
  obtain ⟨hyes, hno⟩ := npar_made s
  clear hl hs ht
  generalize nparF s = R at *
  simp only [Nat.reduceSub] at xa xb
  generalize nnum ((s.drop 4).take 6) = a at *
  generalize nnum ((s.drop 11).take 6) = b at *
  generalize (s.drop 4).take 6 = P at *
  generalize (s.drop 11).take 6 = Q at *
  generalize nsegF a b = G at *
  obtain ⟨T, e⟩ := G
  dsimp only at hyes hno HS
  by_cases he : e = 0
  · subst he
    by_cases hT : T = s
    · have HF : Hid (R = (a, b, true)) := Lib.hid (hyes ⟨rfl, hT⟩)
      subst hT
      clear hyes hno
      have q1 : (T != T) = false := by simp
      go_enter Tryd.func7, Tryd.ntmps7
      go_wp2
      refine wp_region_held_drew (S := (fun W9 => Below w.heap.size w W9)) (by kernel_rfl) (((Below.refl w.heap.size w).drew)) (fun hHeld => ?_)
      refine wpAnyH_take (i := 0) (oi := _) (v := ?_) rfl (by kernel_rfl) (by kernel_rfl) (by kernel_rfl) (fun _ _ _ h => h) (Or.inl ⟨by rfl, ?_⟩) hHeld ?_
      rotate_left
      · (intro wz hSw; go_simp; try (with_reducible rfl))
      (try dsimp only [List.getElem_toArray, List.getElem_cons_zero, List.getElem_cons_succ]); (try simp only [Act.put, List.setIfInBounds_toArray, List.set_cons_zero, List.set_cons_succ])
      refine wpAnyH_take (i := 1) (oi := _) (v := ?_) rfl (by kernel_rfl) (by kernel_rfl) (by kernel_rfl) (fun _ _ _ h => h) (Or.inl ⟨by rfl, ?_⟩) hHeld ?_
      rotate_left
      · (intro wz hSw; go_simp; try (with_reducible rfl))
      (try dsimp only [List.getElem_toArray, List.getElem_cons_zero, List.getElem_cons_succ]); (try simp only [Act.put, List.setIfInBounds_toArray, List.set_cons_zero, List.set_cons_succ])
      refine wpAnyH_take (i := 3) (oi := _) (v := ?_) rfl (by kernel_rfl) (by kernel_rfl) (by kernel_rfl) (fun _ _ _ h => h) (Or.inl ⟨by rfl, ?_⟩) hHeld ?_
      rotate_left
      · (intro wz hSw; go_simp; try (with_reducible rfl))
      (try dsimp only [List.getElem_toArray, List.getElem_cons_zero, List.getElem_cons_succ]); (try simp only [Act.put, List.setIfInBounds_toArray, List.set_cons_zero, List.set_cons_succ])
      refine wpAnyH_take (i := 4) (oi := _) (v := ?_) rfl (by kernel_rfl) (by kernel_rfl) (by kernel_rfl) (fun _ _ _ h => h) (Or.inl ⟨by rfl, ?_⟩) hHeld ?_
      rotate_left
      · (intro wz hSw; go_simp; try (with_reducible rfl))
      (try dsimp only [List.getElem_toArray, List.getElem_cons_zero, List.getElem_cons_succ]); (try simp only [Act.put, List.setIfInBounds_toArray, List.set_cons_zero, List.set_cons_succ])
      refine wpAnyH_ready (rs := [2]) (by kernel_rfl) (by simp) ?_
      refine AllReadyH.cons (o := _) rfl (fun K hK => ?_) AllReadyH.nil
      go_simp
      go_at_call 17
      (with_reducible refine (H1.out _).mono ?_)
      rintro e w5 ⟨rfl, hb1⟩
      refine hK.out _ _ (hHeld.trans (hb1.mono hHeld.size)) (fun hH => ?_)
      clear hHeld hK K hb1
      have hHeld := hH
      clear hH
      (try dsimp only [List.getElem_toArray, List.getElem_cons_zero, List.getElem_cons_succ]); (try simp only [Act.put, List.setIfInBounds_toArray, List.set_cons_zero, List.set_cons_succ])
      refine wpAnyH_ready (rs := [5]) (by kernel_rfl) (by simp) ?_
      refine AllReadyH.cons (o := _) rfl (fun K hK => ?_) AllReadyH.nil
      go_simp
      go_at_call 17
      (with_reducible refine (H2.out _).mono ?_)
      rintro e w5 ⟨rfl, hb1⟩
      refine hK.out _ _ (hHeld.trans (hb1.mono hHeld.size)) (fun hH => ?_)
      clear hHeld hK K hb1
      have hHeld := hH
      clear hH
      (try dsimp only [List.getElem_toArray, List.getElem_cons_zero, List.getElem_cons_succ]); (try simp only [Act.put, List.setIfInBounds_toArray, List.set_cons_zero, List.set_cons_succ])
      refine wpAnyH_take (i := 6) (oi := _) (v := ?_) rfl (by kernel_rfl) (by kernel_rfl) (by kernel_rfl) (fun _ _ _ h => h) (Or.inl ⟨by rfl, ?_⟩) hHeld ?_
      rotate_left
      · (intro wz hSw; go_simp; try (with_reducible rfl))
      (try dsimp only [List.getElem_toArray, List.getElem_cons_zero, List.getElem_cons_succ]); (try simp only [Act.put, List.setIfInBounds_toArray, List.set_cons_zero, List.set_cons_succ])
      refine wpAnyH_take (i := 7) (oi := _) (v := ?_) rfl (by kernel_rfl) (by kernel_rfl) (by kernel_rfl) (fun _ _ _ h => h) (Or.inl ⟨by rfl, ?_⟩) hHeld ?_
      rotate_left
      · (intro wz hSw; go_simp; try (with_reducible rfl))
      (try dsimp only [List.getElem_toArray, List.getElem_cons_zero, List.getElem_cons_succ]); (try simp only [Act.put, List.setIfInBounds_toArray, List.set_cons_zero, List.set_cons_succ])
      refine wpAnyH_done (by kernel_rfl) ?_ _
      have HB9 := Lib.hid hHeld
      clear hHeld H1 H2
      go_wp2_with (go_at_call 9; (with_reducible refine (HS.out _ (HT.out.of HB9.out)).mono ?_); rintro e w6 ⟨rfl, hb6⟩; replace HB9 := Lib.hid (HB9.out.trans (hb6.mono HB9.out.size)); clear hb6 HS)
      refine bodyPost_ret (v := .tuple #[.int .i64 a, .int .i64 b, .bool true]) (by simp [results, Tryd.results7, go_sem]) rfl ⟨by rw [HF.out], HB9.out⟩
    · have HF : Hid (R = (0, 0, false)) := Lib.hid (hno fun h => hT h.2)
      have q1 : (T != s) = true := by rw [bne_iff_ne]; exact hT
      have q2 : (T == s) = false := by rw [beq_eq_false_iff_ne]; exact hT
      clear hyes hno
      go_enter Tryd.func7, Tryd.ntmps7
      go_wp2
      refine wp_region_held_drew (S := (fun W9 => Below w.heap.size w W9)) (by kernel_rfl) (((Below.refl w.heap.size w).drew)) (fun hHeld => ?_)
      refine wpAnyH_take (i := 0) (oi := _) (v := ?_) rfl (by kernel_rfl) (by kernel_rfl) (by kernel_rfl) (fun _ _ _ h => h) (Or.inl ⟨by rfl, ?_⟩) hHeld ?_
      rotate_left
      · (intro wz hSw; go_simp; try (with_reducible rfl))
      (try dsimp only [List.getElem_toArray, List.getElem_cons_zero, List.getElem_cons_succ]); (try simp only [Act.put, List.setIfInBounds_toArray, List.set_cons_zero, List.set_cons_succ])
      refine wpAnyH_take (i := 1) (oi := _) (v := ?_) rfl (by kernel_rfl) (by kernel_rfl) (by kernel_rfl) (fun _ _ _ h => h) (Or.inl ⟨by rfl, ?_⟩) hHeld ?_
      rotate_left
      · (intro wz hSw; go_simp; try (with_reducible rfl))
      (try dsimp only [List.getElem_toArray, List.getElem_cons_zero, List.getElem_cons_succ]); (try simp only [Act.put, List.setIfInBounds_toArray, List.set_cons_zero, List.set_cons_succ])
      refine wpAnyH_take (i := 3) (oi := _) (v := ?_) rfl (by kernel_rfl) (by kernel_rfl) (by kernel_rfl) (fun _ _ _ h => h) (Or.inl ⟨by rfl, ?_⟩) hHeld ?_
      rotate_left
      · (intro wz hSw; go_simp; try (with_reducible rfl))
      (try dsimp only [List.getElem_toArray, List.getElem_cons_zero, List.getElem_cons_succ]); (try simp only [Act.put, List.setIfInBounds_toArray, List.set_cons_zero, List.set_cons_succ])
      refine wpAnyH_take (i := 4) (oi := _) (v := ?_) rfl (by kernel_rfl) (by kernel_rfl) (by kernel_rfl) (fun _ _ _ h => h) (Or.inl ⟨by rfl, ?_⟩) hHeld ?_
      rotate_left
      · (intro wz hSw; go_simp; try (with_reducible rfl))
      (try dsimp only [List.getElem_toArray, List.getElem_cons_zero, List.getElem_cons_succ]); (try simp only [Act.put, List.setIfInBounds_toArray, List.set_cons_zero, List.set_cons_succ])
      refine wpAnyH_ready (rs := [2]) (by kernel_rfl) (by simp) ?_
      refine AllReadyH.cons (o := _) rfl (fun K hK => ?_) AllReadyH.nil
      go_simp
      go_at_call 17
      (with_reducible refine (H1.out _).mono ?_)
      rintro e w5 ⟨rfl, hb1⟩
      refine hK.out _ _ (hHeld.trans (hb1.mono hHeld.size)) (fun hH => ?_)
      clear hHeld hK K hb1
      have hHeld := hH
      clear hH
      (try dsimp only [List.getElem_toArray, List.getElem_cons_zero, List.getElem_cons_succ]); (try simp only [Act.put, List.setIfInBounds_toArray, List.set_cons_zero, List.set_cons_succ])
      refine wpAnyH_ready (rs := [5]) (by kernel_rfl) (by simp) ?_
      refine AllReadyH.cons (o := _) rfl (fun K hK => ?_) AllReadyH.nil
      go_simp
      go_at_call 17
      (with_reducible refine (H2.out _).mono ?_)
      rintro e w5 ⟨rfl, hb1⟩
      refine hK.out _ _ (hHeld.trans (hb1.mono hHeld.size)) (fun hH => ?_)
      clear hHeld hK K hb1
      have hHeld := hH
      clear hH
      (try dsimp only [List.getElem_toArray, List.getElem_cons_zero, List.getElem_cons_succ]); (try simp only [Act.put, List.setIfInBounds_toArray, List.set_cons_zero, List.set_cons_succ])
      refine wpAnyH_take (i := 6) (oi := _) (v := ?_) rfl (by kernel_rfl) (by kernel_rfl) (by kernel_rfl) (fun _ _ _ h => h) (Or.inl ⟨by rfl, ?_⟩) hHeld ?_
      rotate_left
      · (intro wz hSw; go_simp; try (with_reducible rfl))
      (try dsimp only [List.getElem_toArray, List.getElem_cons_zero, List.getElem_cons_succ]); (try simp only [Act.put, List.setIfInBounds_toArray, List.set_cons_zero, List.set_cons_succ])
      refine wpAnyH_take (i := 7) (oi := _) (v := ?_) rfl (by kernel_rfl) (by kernel_rfl) (by kernel_rfl) (fun _ _ _ h => h) (Or.inl ⟨by rfl, ?_⟩) hHeld ?_
      rotate_left
      · (intro wz hSw; go_simp; try (with_reducible rfl))
      (try dsimp only [List.getElem_toArray, List.getElem_cons_zero, List.getElem_cons_succ]); (try simp only [Act.put, List.setIfInBounds_toArray, List.set_cons_zero, List.set_cons_succ])
      refine wpAnyH_done (by kernel_rfl) ?_ _
      have HB9 := Lib.hid hHeld
      clear hHeld H1 H2
      go_wp2_with (go_at_call 9; (with_reducible refine (HS.out _ (HT.out.of HB9.out)).mono ?_); rintro e w6 ⟨rfl, hb6⟩; replace HB9 := Lib.hid (HB9.out.trans (hb6.mono HB9.out.size)); clear hb6 HS)
      refine bodyPost_ret (v := .tuple #[.int .i64 0, .int .i64 0, .bool false]) (by simp [results, Tryd.results7, go_sem]) rfl ⟨by rw [HF.out], HB9.out⟩
  · have HF : Hid (R = (0, 0, false)) := Lib.hid (hno fun h => he h.1)
    have q1 : (e != 0) = true := by rw [bne_iff_ne]; exact he
    clear hyes hno
    go_enter Tryd.func7, Tryd.ntmps7
    go_wp2
    refine wp_region_held_drew (S := (fun W9 => Below w.heap.size w W9)) (by kernel_rfl) (((Below.refl w.heap.size w).drew)) (fun hHeld => ?_)
    refine wpAnyH_take (i := 0) (oi := _) (v := ?_) rfl (by kernel_rfl) (by kernel_rfl) (by kernel_rfl) (fun _ _ _ h => h) (Or.inl ⟨by rfl, ?_⟩) hHeld ?_
    rotate_left
    · (intro wz hSw; go_simp; try (with_reducible rfl))
    (try dsimp only [List.getElem_toArray, List.getElem_cons_zero, List.getElem_cons_succ]); (try simp only [Act.put, List.setIfInBounds_toArray, List.set_cons_zero, List.set_cons_succ])
    refine wpAnyH_take (i := 1) (oi := _) (v := ?_) rfl (by kernel_rfl) (by kernel_rfl) (by kernel_rfl) (fun _ _ _ h => h) (Or.inl ⟨by rfl, ?_⟩) hHeld ?_
    rotate_left
    · (intro wz hSw; go_simp; try (with_reducible rfl))
    (try dsimp only [List.getElem_toArray, List.getElem_cons_zero, List.getElem_cons_succ]); (try simp only [Act.put, List.setIfInBounds_toArray, List.set_cons_zero, List.set_cons_succ])
    refine wpAnyH_take (i := 3) (oi := _) (v := ?_) rfl (by kernel_rfl) (by kernel_rfl) (by kernel_rfl) (fun _ _ _ h => h) (Or.inl ⟨by rfl, ?_⟩) hHeld ?_
    rotate_left
    · (intro wz hSw; go_simp; try (with_reducible rfl))
    (try dsimp only [List.getElem_toArray, List.getElem_cons_zero, List.getElem_cons_succ]); (try simp only [Act.put, List.setIfInBounds_toArray, List.set_cons_zero, List.set_cons_succ])
    refine wpAnyH_take (i := 4) (oi := _) (v := ?_) rfl (by kernel_rfl) (by kernel_rfl) (by kernel_rfl) (fun _ _ _ h => h) (Or.inl ⟨by rfl, ?_⟩) hHeld ?_
    rotate_left
    · (intro wz hSw; go_simp; try (with_reducible rfl))
    (try dsimp only [List.getElem_toArray, List.getElem_cons_zero, List.getElem_cons_succ]); (try simp only [Act.put, List.setIfInBounds_toArray, List.set_cons_zero, List.set_cons_succ])
    refine wpAnyH_ready (rs := [2]) (by kernel_rfl) (by simp) ?_
    refine AllReadyH.cons (o := _) rfl (fun K hK => ?_) AllReadyH.nil
    go_simp
    go_at_call 17
    (with_reducible refine (H1.out _).mono ?_)
    rintro e w5 ⟨rfl, hb1⟩
    refine hK.out _ _ (hHeld.trans (hb1.mono hHeld.size)) (fun hH => ?_)
    clear hHeld hK K hb1
    have hHeld := hH
    clear hH
    (try dsimp only [List.getElem_toArray, List.getElem_cons_zero, List.getElem_cons_succ]); (try simp only [Act.put, List.setIfInBounds_toArray, List.set_cons_zero, List.set_cons_succ])
    refine wpAnyH_ready (rs := [5]) (by kernel_rfl) (by simp) ?_
    refine AllReadyH.cons (o := _) rfl (fun K hK => ?_) AllReadyH.nil
    go_simp
    go_at_call 17
    (with_reducible refine (H2.out _).mono ?_)
    rintro e w5 ⟨rfl, hb1⟩
    refine hK.out _ _ (hHeld.trans (hb1.mono hHeld.size)) (fun hH => ?_)
    clear hHeld hK K hb1
    have hHeld := hH
    clear hH
    (try dsimp only [List.getElem_toArray, List.getElem_cons_zero, List.getElem_cons_succ]); (try simp only [Act.put, List.setIfInBounds_toArray, List.set_cons_zero, List.set_cons_succ])
    refine wpAnyH_take (i := 6) (oi := _) (v := ?_) rfl (by kernel_rfl) (by kernel_rfl) (by kernel_rfl) (fun _ _ _ h => h) (Or.inl ⟨by rfl, ?_⟩) hHeld ?_
    rotate_left
    · (intro wz hSw; go_simp; try (with_reducible rfl))
    (try dsimp only [List.getElem_toArray, List.getElem_cons_zero, List.getElem_cons_succ]); (try simp only [Act.put, List.setIfInBounds_toArray, List.set_cons_zero, List.set_cons_succ])
    refine wpAnyH_take (i := 7) (oi := _) (v := ?_) rfl (by kernel_rfl) (by kernel_rfl) (by kernel_rfl) (fun _ _ _ h => h) (Or.inl ⟨by rfl, ?_⟩) hHeld ?_
    rotate_left
    · (intro wz hSw; go_simp; try (with_reducible rfl))
    (try dsimp only [List.getElem_toArray, List.getElem_cons_zero, List.getElem_cons_succ]); (try simp only [Act.put, List.setIfInBounds_toArray, List.set_cons_zero, List.set_cons_succ])
    refine wpAnyH_done (by kernel_rfl) ?_ _
    have HB9 := Lib.hid hHeld
    clear hHeld H1 H2
    go_wp2_with (go_at_call 9; (with_reducible refine (HS.out _ (HT.out.of HB9.out)).mono ?_); rintro e w6 ⟨rfl, hb6⟩; replace HB9 := Lib.hid (HB9.out.trans (hb6.mono HB9.out.size)); clear hb6 HS)
    refine bodyPost_ret (v := .tuple #[.int .i64 0, .int .i64 0, .bool false]) (by simp [results, Tryd.results7, go_sem]) rfl ⟨by rw [HF.out], HB9.out⟩
set_option maxRecDepth 100000 in
set_option maxHeartbeats 2000000 in
theorem p_nkind_any (s : List UInt8) (w : World) (hs : s.length ≤ 1000000) (ht : NTab w) :
    Calls Tryd.prog 13 #[.string ⟨s.toArray⟩] w fun e w' => e = .returned (.int .i64 (nkindF s)) ∧ Below w.heap.size w w' := by
  have hp := p_npar_any s w hs ht
  clear ht
  unfold NPost at hp
  unfold nkindF
  generalize nparF s = R at *
  obtain ⟨a, b, ok⟩ := R
  dsimp only at hp ⊢
  have Hp := Lib.hid hp
  clear hp
  cases ok with
  | true =>
    rw [if_pos rfl]
    go_enter Tryd.func13, Tryd.ntmps13
    go_wp2_with (go_at_call 7; (with_reducible refine Hp.out.mono ?_); rintro e w1 ⟨rfl, hb1⟩; have HB1 := Lib.hid hb1; clear hb1 Hp)
    go_ret
    exact ⟨rfl, HB1.out⟩
  | false =>
    rw [if_neg (by decide)]
    by_cases h1 : s = nmani
    · rw [if_pos h1]
      have q1 : (s == [109, 97, 110, 105, 102, 101, 115, 116]) = true := by rw [beq_iff_eq]; exact h1
      clear h1
      go_enter Tryd.func13, Tryd.ntmps13
      go_wp2_with (go_at_call 7; (with_reducible refine Hp.out.mono ?_); rintro e w1 ⟨rfl, hb1⟩; have HB1 := Lib.hid hb1; clear hb1 Hp)
      go_ret
      exact ⟨rfl, HB1.out⟩
    · rw [if_neg h1]
      have q1 : (s == [109, 97, 110, 105, 102, 101, 115, 116]) = false := by rw [beq_eq_false_iff_ne]; exact h1
      clear h1
      by_cases h2 : s = ntemp
      · rw [if_pos h2]
        have q2 : (s == [109, 97, 110, 105, 102, 101, 115, 116, 46, 110, 101, 119]) = true := by rw [beq_iff_eq]; exact h2
        clear h2
        go_enter Tryd.func13, Tryd.ntmps13
        go_wp2_with (go_at_call 7; (with_reducible refine Hp.out.mono ?_); rintro e w1 ⟨rfl, hb1⟩; have HB1 := Lib.hid hb1; clear hb1 Hp)
        go_ret
        exact ⟨rfl, HB1.out⟩
      · rw [if_neg h2]
        have q2 : (s == [109, 97, 110, 105, 102, 101, 115, 116, 46, 110, 101, 119]) = false := by rw [beq_eq_false_iff_ne]; exact h2
        clear h2
        go_enter Tryd.func13, Tryd.ntmps13
        go_wp2_with (go_at_call 7; (with_reducible refine Hp.out.mono ?_); rintro e w1 ⟨rfl, hb1⟩; have HB1 := Lib.hid hb1; clear hb1 Hp)
        go_ret
        exact ⟨rfl, HB1.out⟩
theorem p_nmani_any (w : World) : Calls Tryd.prog 15 #[] w fun e w' => e = .returned (.string ⟨nmani.toArray⟩) ∧ Below w.heap.size w w' := by
  go_enter Tryd.func15, Tryd.ntmps15
  go_wp2
  go_ret
  exact ⟨rfl, Below.refl _ _⟩
theorem p_ntemp_any (w : World) : Calls Tryd.prog 16 #[] w fun e w' => e = .returned (.string ⟨ntemp.toArray⟩) ∧ Below w.heap.size w w' := by
  go_enter Tryd.func16, Tryd.ntmps16
  go_wp2
  go_ret
  exact ⟨rfl, Below.refl _ _⟩
end Go.Proofs.YtmejcckbbcgmnaaDoor
