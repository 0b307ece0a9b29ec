/-
  Layer 21, the program's: Blocks.
-/
import Derived.Test.YtjodckinfoldgaaHdA
namespace Go.Proofs.Ytjodckinfoldgaa
set_option linter.unusedSimpArgs false
set_option linter.unusedVariables false
open Go.ChangeShapes Go.WideShapes Go.ChangeAt Go.RowKit Go.Joins Go.Deep
set_option maxRecDepth 100000 in
set_option maxHeartbeats 16000000 in
theorem p_hblk_any (l : List Mt) (A : Option Addr) (n c : Nat) (w : World) (hl : l.length = n) (hn : n ≤ 1000000) (hr : Reads w w.heap.size 7 A n (dcs mtc l)) : Calls Try.prog 20 #[.slice A n c] w fun e w' => e = .returned (.int .i64 (hblkF l)) ∧ Below w.heap.size w w' := by
  have HC : Hid (0 < n → ∃ b off, A = some ⟨b, off, none⟩ ∧ b < w.heap.size ∧ ∀ i (hi : i < l.length), ∀ j u, (mtc l[i])[j]? = some u → w.cell? ⟨b, off + i * 7 + j, none⟩ = some u) := Lib.hid fun h => mt_cells hr hl h
  have HL := Lib.hid hl
  clear hr
  by_cases hbig : 1000 < n
  · have HF : Hid (hblkF l = 211) := Lib.hid (if_neg fun h => by have := ((hrow_iff l).1 h).1; omega)
    clear HC HL hl
    have hi : (1000 : Int) < (n : Int) := by omega
    go_enter Try.func20, Try.ntmps20
    go_wp2
    go_ret
    exact ⟨by rw [HF.out]; rfl, Below.refl _ _⟩
  have hi : ¬ (1000 : Int) < (n : Int) := by omega
  have HS := Lib.hid hbig
  clear hl hbig
  go_enter Try.func20, Try.ntmps20
  go_wp2
  go_loopw [3, 4, 10] (fun _ _ iv wr => ∃ k : Nat, k ≤ n ∧ iv = .int .i64 (k : Int) ∧ Hid (∀ j (hj : j < l.length), j < k → hat l j hj) ∧ Hid (Below w.heap.size w wr)) (fun _ _ iv _ => n - (intOf iv).toNat)
  case atStart => exact ⟨0, by omega, rfl, Lib.hid fun j _ h => absurd h (Nat.not_lt_zero _), Lib.hid (Below.refl _ _)⟩
  case round =>
    obtain ⟨k, hk, rfl, HI, HB⟩ := hrel
    by_cases hlt : k < n
    case pos =>
      have hkl : k < l.length := by have := HL.out; omega
      obtain ⟨b, off, rfl, hb, hcell⟩ := HC.out (by omega)
      have hct : ∀ j u, (mtc l[k])[j]? = some u → wr.cell? ⟨b, off + k * 7 + j, none⟩ = some u := fun j u hu => (HB.out.cell (p := ⟨b, off + k * 7 + j, none⟩) hb).trans (hcell k hkl j u hu)
      have hki : (0 : Int) ≤ (k : Int) ∧ (k : Int) < (n : Int) := by omega
      have HI2 : Hid (hat l k hkl → ∀ j (hj : j < l.length), j < k + 1 → hat l j hj) := Lib.hid fun h j hj hjk => by
        by_cases e : j = k
        · subst e; exact h
        · exact HI.out j hj (by omega)
      obtain ⟨m, hm⟩ : ∃ m, l[k] = m := ⟨_, rfl⟩
      rw [hm] at hct
      have HM := Lib.hid hm
      clear hm
      obtain ⟨at_, sz, raw, ct, fi, ea, la⟩ := m
      have c0 := hct 0 _ rfl; have c1 := hct 1 _ rfl; have c2 := hct 2 _ rfl; have c3 := hct 3 _ rfl; have c4 := hct 4 _ rfl; have c5 := hct 5 _ rfl; have c6 := hct 6 _ rfl
      dsimp only at c0 c1 c2 c3 c4 c5 c6
      rw [Nat.add_zero] at c0
      have HCell := Lib.hid hcell
      clear hct hcell
      have HBW : Hid (Below w.heap.size w (wr.alloc (.cells #[.int .i64 at_, .int .i64 sz, .int .i64 raw, .int .i64 ct, .int .i64 fi, .int .i64 ea, .int .i64 la] 55))) := Lib.hid (HB.out.alloc HB.out.size _)
      have HMB : Hid (Blk (wr.alloc (.cells #[.int .i64 at_, .int .i64 sz, .int .i64 raw, .int .i64 ct, .int .i64 fi, .int .i64 ea, .int .i64 la] 55)) wr.heap.size 55 #[.int .i64 at_, .int .i64 sz, .int .i64 raw, .int .i64 ct, .int .i64 fi, .int .i64 ea, .int .i64 la]) := Lib.hid (Blk.new wr 55 #[.int .i64 at_, .int .i64 sz, .int .i64 raw, .int .i64 ct, .int .i64 fi, .int .i64 ea, .int .i64 la])
      by_cases hg : hm1 (at_, sz, raw, ct, fi, ea, la) = true
      case neg =>
        have HF : Hid (hblkF l = 211) := Lib.hid (if_neg fun h => by have h2 := (((hrow_iff l).1 h).2 k hkl).1; rw [HM.out] at h2; exact hg h2)
        replace hg : hm1 (at_, sz, raw, ct, fi, ea, la) = false := by simpa using hg
        have C1 : Hid (∀ W, Calls Try.prog 37 #[.agg #[.int .i64 at_, .int .i64 sz, .int .i64 raw, .int .i64 ct, .int .i64 fi, .int .i64 ea, .int .i64 la]] W fun e w' => e = .returned (.bool false) ∧ Below W.heap.size W w') := Lib.hid fun W => by have := p_hst_any (at_, sz, raw, ct, fi, ea, la) W; rwa [hg] at this
        clear HI HC HL HM HI2 HCell hg
        go_wp2
        generalize (wr.alloc (.cells #[.int .i64 at_, .int .i64 sz, .int .i64 raw, .int .i64 ct, .int .i64 fi, .int .i64 ea, .int .i64 la] 55)) = w0 at *
        generalize wr.heap.size = gb at *
        refine wp_region_held_drew (S := (fun W => Below w.heap.size w W ∧ Blk W gb 55 #[.int .i64 at_, .int .i64 sz, .int .i64 raw, .int .i64 ct, .int .i64 fi, .int .i64 ea, .int .i64 la])) (by kernel_rfl) (⟨HBW.out.drew, HMB.out.drew⟩) (fun hHeld => ?_)
        refine wpAnyH_take (i := 0) (oi := _) (v := ?_) rfl (by kernel_rfl) (by kernel_rfl) (by kernel_rfl) (fun _ _ _ h => h) (Or.inl ⟨by rfl, ?_⟩) hHeld ?_
        rotate_left
        · (intro wz hSw; have k0 := hSw.2.cell 0; have k1 := hSw.2.cell 1; have k2 := hSw.2.cell 2; have k3 := hSw.2.cell 3; have k4 := hSw.2.cell 4; have k5 := hSw.2.cell 5; have k6 := hSw.2.cell 6; simp only [List.getElem?_toArray, List.getElem?_cons_zero, List.getElem?_cons_succ] at k0 k1 k2 k3 k4 k5 k6; go_simp; try (with_reducible rfl))
        (try dsimp only [List.getElem_toArray, List.getElem_cons_zero, List.getElem_cons_succ]); (try simp only [Act.put, List.setIfInBounds_toArray, List.set_cons_zero, List.set_cons_succ])
        refine wpAnyH_ready (rs := [1]) (by kernel_rfl) (by simp) ?_
        refine AllReadyH.cons (o := _) rfl (fun K hK => ?_) AllReadyH.nil
        go_simp
        go_at_call 37
        (with_reducible refine (C1.out _).mono ?_)
        rintro e w1 ⟨rfl, hb1⟩
        clear C1
        refine hK.out _ _ (⟨hHeld.1.trans (hb1.mono hHeld.1.size), hHeld.2.below hb1 hHeld.2.lt⟩) (fun hH => ?_)
        clear hHeld hK K hb1
        have hHeld := hH
        clear hH
        (try dsimp only [List.getElem_toArray, List.getElem_cons_zero, List.getElem_cons_succ]); (try simp only [Act.put, List.setIfInBounds_toArray, List.set_cons_zero, List.set_cons_succ])
        refine wpAnyH_take (i := 2) (oi := _) (v := ?_) rfl (by kernel_rfl) (by kernel_rfl) (by kernel_rfl) (fun _ _ _ h => h) (Or.inl ⟨by rfl, ?_⟩) hHeld ?_
        rotate_left
        · (intro wz hSw; go_simp; try (with_reducible rfl))
        (try dsimp only [List.getElem_toArray, List.getElem_cons_zero, List.getElem_cons_succ]); (try simp only [Act.put, List.setIfInBounds_toArray, List.set_cons_zero, List.set_cons_succ])
        refine wpAnyH_take (i := 3) (oi := _) (v := ?_) rfl (by kernel_rfl) (by kernel_rfl) (by kernel_rfl) (fun _ _ _ h => h) (Or.inl ⟨by rfl, ?_⟩) hHeld ?_
        rotate_left
        · (intro wz hSw; go_simp; try (with_reducible rfl))
        (try dsimp only [List.getElem_toArray, List.getElem_cons_zero, List.getElem_cons_succ]); (try simp only [Act.put, List.setIfInBounds_toArray, List.set_cons_zero, List.set_cons_succ])
        refine wpAnyH_take (i := 4) (oi := _) (v := undef) rfl (by kernel_rfl) (by kernel_rfl) (by kernel_rfl) (fun _ _ _ h => h) (Or.inr ⟨by rfl, rfl⟩) hHeld ?_
        (try dsimp only [List.getElem_toArray, List.getElem_cons_zero, List.getElem_cons_succ]); (try simp only [Act.put, List.setIfInBounds_toArray, List.set_cons_zero, List.set_cons_succ])
        refine wpAnyH_take (i := 5) (oi := _) (v := undef) rfl (by kernel_rfl) (by kernel_rfl) (by kernel_rfl) (fun _ _ _ h => h) (Or.inr ⟨by rfl, rfl⟩) hHeld ?_
        (try dsimp only [List.getElem_toArray, List.getElem_cons_zero, List.getElem_cons_succ]); (try simp only [Act.put, List.setIfInBounds_toArray, List.set_cons_zero, List.set_cons_succ])
        refine wpAnyH_take (i := 6) (oi := _) (v := undef) rfl (by kernel_rfl) (by kernel_rfl) (by kernel_rfl) (fun _ _ _ h => h) (Or.inr ⟨by rfl, rfl⟩) hHeld ?_
        (try dsimp only [List.getElem_toArray, List.getElem_cons_zero, List.getElem_cons_succ]); (try simp only [Act.put, List.setIfInBounds_toArray, List.set_cons_zero, List.set_cons_succ])
        refine wpAnyH_take (i := 7) (oi := _) (v := undef) rfl (by kernel_rfl) (by kernel_rfl) (by kernel_rfl) (fun _ _ _ h => h) (Or.inr ⟨by rfl, rfl⟩) hHeld ?_
        (try dsimp only [List.getElem_toArray, List.getElem_cons_zero, List.getElem_cons_succ]); (try simp only [Act.put, List.setIfInBounds_toArray, List.set_cons_zero, List.set_cons_succ])
        refine wpAnyH_take (i := 8) (oi := _) (v := undef) rfl (by kernel_rfl) (by kernel_rfl) (by kernel_rfl) (fun _ _ _ h => h) (Or.inr ⟨by rfl, rfl⟩) hHeld ?_
        (try dsimp only [List.getElem_toArray, List.getElem_cons_zero, List.getElem_cons_succ]); (try simp only [Act.put, List.setIfInBounds_toArray, List.set_cons_zero, List.set_cons_succ])
        refine wpAnyH_take (i := 9) (oi := _) (v := undef) rfl (by kernel_rfl) (by kernel_rfl) (by kernel_rfl) (fun _ _ _ h => h) (Or.inr ⟨by rfl, rfl⟩) hHeld ?_
        (try dsimp only [List.getElem_toArray, List.getElem_cons_zero, List.getElem_cons_succ]); (try simp only [Act.put, List.setIfInBounds_toArray, List.set_cons_zero, List.set_cons_succ])
        refine wpAnyH_take (i := 10) (oi := _) (v := undef) rfl (by kernel_rfl) (by kernel_rfl) (by kernel_rfl) (fun _ _ _ h => h) (Or.inr ⟨by rfl, rfl⟩) hHeld ?_
        (try dsimp only [List.getElem_toArray, List.getElem_cons_zero, List.getElem_cons_succ]); (try simp only [Act.put, List.setIfInBounds_toArray, List.set_cons_zero, List.set_cons_succ])
        refine wpAnyH_take (i := 11) (oi := _) (v := undef) rfl (by kernel_rfl) (by kernel_rfl) (by kernel_rfl) (fun _ _ _ h => h) (Or.inr ⟨by rfl, rfl⟩) hHeld ?_
        (try dsimp only [List.getElem_toArray, List.getElem_cons_zero, List.getElem_cons_succ]); (try simp only [Act.put, List.setIfInBounds_toArray, List.set_cons_zero, List.set_cons_succ])
        refine wpAnyH_take (i := 12) (oi := _) (v := undef) rfl (by kernel_rfl) (by kernel_rfl) (by kernel_rfl) (fun _ _ _ h => h) (Or.inr ⟨by rfl, rfl⟩) hHeld ?_
        (try dsimp only [List.getElem_toArray, List.getElem_cons_zero, List.getElem_cons_succ]); (try simp only [Act.put, List.setIfInBounds_toArray, List.set_cons_zero, List.set_cons_succ])
        refine wpAnyH_ready (rs := [13]) (by kernel_rfl) (by simp) ?_
        refine AllReadyH.cons (o := _) rfl (fun K hK => ?_) AllReadyH.nil
        go_simp
        refine hK.out _ _ hHeld (fun _ => ?_)
        clear hK K
        (try dsimp only [List.getElem_toArray, List.getElem_cons_zero, List.getElem_cons_succ]); (try simp only [Act.put, List.setIfInBounds_toArray, List.set_cons_zero, List.set_cons_succ])
        refine wpAnyH_take (i := 14) (oi := _) (v := undef) rfl (by kernel_rfl) (by kernel_rfl) (by kernel_rfl) (fun _ _ _ h => h) (Or.inr ⟨by rfl, rfl⟩) hHeld ?_
        (try dsimp only [List.getElem_toArray, List.getElem_cons_zero, List.getElem_cons_succ]); (try simp only [Act.put, List.setIfInBounds_toArray, List.set_cons_zero, List.set_cons_succ])
        refine wpAnyH_take (i := 15) (oi := _) (v := undef) rfl (by kernel_rfl) (by kernel_rfl) (by kernel_rfl) (fun _ _ _ h => h) (Or.inr ⟨by rfl, rfl⟩) hHeld ?_
        (try dsimp only [List.getElem_toArray, List.getElem_cons_zero, List.getElem_cons_succ]); (try simp only [Act.put, List.setIfInBounds_toArray, List.set_cons_zero, List.set_cons_succ])
        refine wpAnyH_take (i := 16) (oi := _) (v := ?_) rfl (by kernel_rfl) (by kernel_rfl) (by kernel_rfl) (fun _ _ _ h => h) (Or.inl ⟨by rfl, ?_⟩) hHeld ?_
        rotate_left
        · (intro wz hSw; go_simp; try (with_reducible rfl))
        (try dsimp only [List.getElem_toArray, List.getElem_cons_zero, List.getElem_cons_succ]); (try simp only [Act.put, List.setIfInBounds_toArray, List.set_cons_zero, List.set_cons_succ])
        refine wpAnyH_done (by kernel_rfl) ?_ _
        have HB3 := Lib.hid hHeld.1
        clear hHeld
        go_wp2
        go_ret
        exact ⟨by rw [HF.out]; rfl, HB3.out⟩
      case pos =>
        have HG1 := Lib.hid hg
        have C1 : Hid (∀ W, Calls Try.prog 37 #[.agg #[.int .i64 at_, .int .i64 sz, .int .i64 raw, .int .i64 ct, .int .i64 fi, .int .i64 ea, .int .i64 la]] W fun e w' => e = .returned (.bool true) ∧ Below W.heap.size W w') := Lib.hid fun W => by have := p_hst_any (at_, sz, raw, ct, fi, ea, la) W; rwa [hg] at this
        rcases Nat.eq_zero_or_pos k with hk0 | hk0
        · subst hk0
          have HI5 := Lib.hid (HI2.out ⟨by rw [HM.out]; exact HG1.out, fun j hj => by omega⟩)
          simp only [Nat.zero_mul, Nat.add_zero] at c0 c1 c2 c3 c4 c5 c6
          clear HI2 HI HM HG1 HCell hg HC
          go_wp2
          generalize (wr.alloc (.cells #[.int .i64 at_, .int .i64 sz, .int .i64 raw, .int .i64 ct, .int .i64 fi, .int .i64 ea, .int .i64 la] 55)) = w0 at *
          generalize wr.heap.size = gb at *
          refine wp_region_held_drew (S := (fun W => Below w.heap.size w W ∧ Blk W gb 55 #[.int .i64 at_, .int .i64 sz, .int .i64 raw, .int .i64 ct, .int .i64 fi, .int .i64 ea, .int .i64 la])) (by kernel_rfl) (⟨HBW.out.drew, HMB.out.drew⟩) (fun hHeld => ?_)
          refine wpAnyH_take (i := 0) (oi := _) (v := ?_) rfl (by kernel_rfl) (by kernel_rfl) (by kernel_rfl) (fun _ _ _ h => h) (Or.inl ⟨by rfl, ?_⟩) hHeld ?_
          rotate_left
          · (intro wz hSw; have k0 := hSw.2.cell 0; have k1 := hSw.2.cell 1; have k2 := hSw.2.cell 2; have k3 := hSw.2.cell 3; have k4 := hSw.2.cell 4; have k5 := hSw.2.cell 5; have k6 := hSw.2.cell 6; simp only [List.getElem?_toArray, List.getElem?_cons_zero, List.getElem?_cons_succ] at k0 k1 k2 k3 k4 k5 k6; go_simp; try (with_reducible rfl))
          (try dsimp only [List.getElem_toArray, List.getElem_cons_zero, List.getElem_cons_succ]); (try simp only [Act.put, List.setIfInBounds_toArray, List.set_cons_zero, List.set_cons_succ])
          refine wpAnyH_ready (rs := [1]) (by kernel_rfl) (by simp) ?_
          refine AllReadyH.cons (o := _) rfl (fun K hK => ?_) AllReadyH.nil
          go_simp
          go_at_call 37
          (with_reducible refine (C1.out _).mono ?_)
          rintro e w1 ⟨rfl, hb1⟩
          clear C1
          refine hK.out _ _ (⟨hHeld.1.trans (hb1.mono hHeld.1.size), hHeld.2.below hb1 hHeld.2.lt⟩) (fun hH => ?_)
          clear hHeld hK K hb1
          have hHeld := hH
          clear hH
          (try dsimp only [List.getElem_toArray, List.getElem_cons_zero, List.getElem_cons_succ]); (try simp only [Act.put, List.setIfInBounds_toArray, List.set_cons_zero, List.set_cons_succ])
          refine wpAnyH_take (i := 2) (oi := _) (v := ?_) rfl (by kernel_rfl) (by kernel_rfl) (by kernel_rfl) (fun _ _ _ h => h) (Or.inl ⟨by rfl, ?_⟩) hHeld ?_
          rotate_left
          · (intro wz hSw; go_simp; try (with_reducible rfl))
          (try dsimp only [List.getElem_toArray, List.getElem_cons_zero, List.getElem_cons_succ]); (try simp only [Act.put, List.setIfInBounds_toArray, List.set_cons_zero, List.set_cons_succ])
          refine wpAnyH_take (i := 3) (oi := _) (v := ?_) rfl (by kernel_rfl) (by kernel_rfl) (by kernel_rfl) (fun _ _ _ h => h) (Or.inl ⟨by rfl, ?_⟩) hHeld ?_
          rotate_left
          · (intro wz hSw; go_simp; try (with_reducible rfl))
          (try dsimp only [List.getElem_toArray, List.getElem_cons_zero, List.getElem_cons_succ]); (try simp only [Act.put, List.setIfInBounds_toArray, List.set_cons_zero, List.set_cons_succ])
          refine wpAnyH_take (i := 4) (oi := _) (v := ?_) rfl (by kernel_rfl) (by kernel_rfl) (by kernel_rfl) (fun _ _ _ h => h) (Or.inl ⟨by rfl, ?_⟩) hHeld ?_
          rotate_left
          · (intro wz hSw; go_simp; try (with_reducible rfl))
          (try dsimp only [List.getElem_toArray, List.getElem_cons_zero, List.getElem_cons_succ]); (try simp only [Act.put, List.setIfInBounds_toArray, List.set_cons_zero, List.set_cons_succ])
          refine wpAnyH_take (i := 5) (oi := _) (v := ?_) rfl (by kernel_rfl) (by kernel_rfl) (by kernel_rfl) (fun _ _ _ h => h) (Or.inl ⟨by rfl, ?_⟩) hHeld ?_
          rotate_left
          · (intro wz hSw; go_simp; try (with_reducible rfl))
          (try dsimp only [List.getElem_toArray, List.getElem_cons_zero, List.getElem_cons_succ]); (try simp only [Act.put, List.setIfInBounds_toArray, List.set_cons_zero, List.set_cons_succ])
          refine wpAnyH_take (i := 6) (oi := _) (v := ?_) rfl (by kernel_rfl) (by kernel_rfl) (by kernel_rfl) (fun _ _ _ h => h) (Or.inl ⟨by rfl, ?_⟩) hHeld ?_
          rotate_left
          · (intro wz hSw; go_simp; try (with_reducible rfl))
          (try dsimp only [List.getElem_toArray, List.getElem_cons_zero, List.getElem_cons_succ]); (try simp only [Act.put, List.setIfInBounds_toArray, List.set_cons_zero, List.set_cons_succ])
          refine wpAnyH_take (i := 7) (oi := _) (v := undef) rfl (by kernel_rfl) (by kernel_rfl) (by kernel_rfl) (fun _ _ _ h => h) (Or.inr ⟨by rfl, rfl⟩) hHeld ?_
          (try dsimp only [List.getElem_toArray, List.getElem_cons_zero, List.getElem_cons_succ]); (try simp only [Act.put, List.setIfInBounds_toArray, List.set_cons_zero, List.set_cons_succ])
          refine wpAnyH_take (i := 8) (oi := _) (v := undef) rfl (by kernel_rfl) (by kernel_rfl) (by kernel_rfl) (fun _ _ _ h => h) (Or.inr ⟨by rfl, rfl⟩) hHeld ?_
          (try dsimp only [List.getElem_toArray, List.getElem_cons_zero, List.getElem_cons_succ]); (try simp only [Act.put, List.setIfInBounds_toArray, List.set_cons_zero, List.set_cons_succ])
          refine wpAnyH_take (i := 9) (oi := _) (v := undef) rfl (by kernel_rfl) (by kernel_rfl) (by kernel_rfl) (fun _ _ _ h => h) (Or.inr ⟨by rfl, rfl⟩) hHeld ?_
          (try dsimp only [List.getElem_toArray, List.getElem_cons_zero, List.getElem_cons_succ]); (try simp only [Act.put, List.setIfInBounds_toArray, List.set_cons_zero, List.set_cons_succ])
          refine wpAnyH_take (i := 10) (oi := _) (v := undef) rfl (by kernel_rfl) (by kernel_rfl) (by kernel_rfl) (fun _ _ _ h => h) (Or.inr ⟨by rfl, rfl⟩) hHeld ?_
          (try dsimp only [List.getElem_toArray, List.getElem_cons_zero, List.getElem_cons_succ]); (try simp only [Act.put, List.setIfInBounds_toArray, List.set_cons_zero, List.set_cons_succ])
          refine wpAnyH_take (i := 11) (oi := _) (v := undef) rfl (by kernel_rfl) (by kernel_rfl) (by kernel_rfl) (fun _ _ _ h => h) (Or.inr ⟨by rfl, rfl⟩) hHeld ?_
          (try dsimp only [List.getElem_toArray, List.getElem_cons_zero, List.getElem_cons_succ]); (try simp only [Act.put, List.setIfInBounds_toArray, List.set_cons_zero, List.set_cons_succ])
          refine wpAnyH_take (i := 12) (oi := _) (v := undef) rfl (by kernel_rfl) (by kernel_rfl) (by kernel_rfl) (fun _ _ _ h => h) (Or.inr ⟨by rfl, rfl⟩) hHeld ?_
          (try dsimp only [List.getElem_toArray, List.getElem_cons_zero, List.getElem_cons_succ]); (try simp only [Act.put, List.setIfInBounds_toArray, List.set_cons_zero, List.set_cons_succ])
          refine wpAnyH_ready (rs := [13]) (by kernel_rfl) (by simp) ?_
          refine AllReadyH.cons (o := _) rfl (fun K hK => ?_) AllReadyH.nil
          go_simp
          refine hK.out _ _ hHeld (fun _ => ?_)
          clear hK K
          (try dsimp only [List.getElem_toArray, List.getElem_cons_zero, List.getElem_cons_succ]); (try simp only [Act.put, List.setIfInBounds_toArray, List.set_cons_zero, List.set_cons_succ])
          refine wpAnyH_take (i := 14) (oi := _) (v := undef) rfl (by kernel_rfl) (by kernel_rfl) (by kernel_rfl) (fun _ _ _ h => h) (Or.inr ⟨by rfl, rfl⟩) hHeld ?_
          (try dsimp only [List.getElem_toArray, List.getElem_cons_zero, List.getElem_cons_succ]); (try simp only [Act.put, List.setIfInBounds_toArray, List.set_cons_zero, List.set_cons_succ])
          refine wpAnyH_take (i := 15) (oi := _) (v := ?_) rfl (by kernel_rfl) (by kernel_rfl) (by kernel_rfl) (fun _ _ _ h => h) (Or.inl ⟨by rfl, ?_⟩) hHeld ?_
          rotate_left
          · (intro wz hSw; go_simp; try (with_reducible rfl))
          (try dsimp only [List.getElem_toArray, List.getElem_cons_zero, List.getElem_cons_succ]); (try simp only [Act.put, List.setIfInBounds_toArray, List.set_cons_zero, List.set_cons_succ])
          refine wpAnyH_take (i := 16) (oi := _) (v := ?_) rfl (by kernel_rfl) (by kernel_rfl) (by kernel_rfl) (fun _ _ _ h => h) (Or.inl ⟨by rfl, ?_⟩) hHeld ?_
          rotate_left
          · (intro wz hSw; go_simp; try (with_reducible rfl))
          (try dsimp only [List.getElem_toArray, List.getElem_cons_zero, List.getElem_cons_succ]); (try simp only [Act.put, List.setIfInBounds_toArray, List.set_cons_zero, List.set_cons_succ])
          refine wpAnyH_done (by kernel_rfl) ?_ _
          have HB3 := Lib.hid hHeld.1
          clear hHeld
          go_wp2
          go_roundw
          case rel => exact ⟨1, by omega, rfl, HI5, HB3⟩
          case measure => simp only [intOf]; omega
        · obtain ⟨p, hp⟩ : ∃ p, p + 1 = k := ⟨k - 1, by omega⟩
          have hpl : p < l.length := by omega
          have hpt : ∀ j u, (mtc l[p])[j]? = some u → w.cell? ⟨b, off + p * 7 + j, none⟩ = some u := fun j u hu => HCell.out p hpl j u hu
          have hpg := (HI.out p hpl (by omega)).1
          have HI3 : Hid (hm2 l[p] (at_, sz, raw, ct, fi, ea, la) = true → hat l k hkl) := Lib.hid fun h => ⟨by rw [HM.out]; exact HG1.out, fun j hj => by
            obtain rfl : j = p := by omega
            rw [HM.out]; exact h⟩
          have HI4 : Hid (hat l k hkl → hm2 l[p] (at_, sz, raw, ct, fi, ea, la) = true) := Lib.hid fun h => by
            have := h.2 p hp
            rwa [HM.out] at this
          have hsub : (k : Int) - 1 = (p : Int) := by omega
          have hsw : IntKind.i64.wrap ((k : Int) - 1) = (p : Int) := by rw [IntKind.wrap_i64]; omega
          have hpw : IntKind.i64.wrap (p : Int) = (p : Int) := by rw [IntKind.wrap_i64]; omega
          have hpi : (0 : Int) ≤ (p : Int) ∧ (p : Int) < (n : Int) := by omega
          have hk1 : (0 : Int) < (k : Int) := by omega
          obtain ⟨m2, hm2e⟩ : ∃ m2, l[p] = m2 := ⟨_, rfl⟩
          rw [hm2e] at hpt hpg HI3 HI4
          clear hm2e HCell HM HI HG1 hg HC
          obtain ⟨at2, sz2, raw2, ct2, fi2, ea2, la2⟩ := m2
          have d0 := hpt 0 _ rfl; have d1 := hpt 1 _ rfl; have d2 := hpt 2 _ rfl; have d3 := hpt 3 _ rfl; have d4 := hpt 4 _ rfl; have d5 := hpt 5 _ rfl; have d6 := hpt 6 _ rfl
          dsimp only at d0 d1 d2 d3 d4 d5 d6
          rw [Nat.add_zero] at d0
          clear hpt
          by_cases hg2 : hm2 (at2, sz2, raw2, ct2, fi2, ea2, la2) (at_, sz, raw, ct, fi, ea, la) = true
          case neg =>
            have HF : Hid (hblkF l = 211) := Lib.hid (if_neg fun h => hg2 (HI4.out (((hrow_iff l).1 h).2 k hkl)))
            replace hg2 : hm2 (at2, sz2, raw2, ct2, fi2, ea2, la2) (at_, sz, raw, ct, fi, ea, la) = false := by simpa using hg2
            have C2 : Hid (∀ W, Calls Try.prog 38 #[.agg #[.int .i64 at2, .int .i64 sz2, .int .i64 raw2, .int .i64 ct2, .int .i64 fi2, .int .i64 ea2, .int .i64 la2], .agg #[.int .i64 at_, .int .i64 sz, .int .i64 raw, .int .i64 ct, .int .i64 fi, .int .i64 ea, .int .i64 la]] W fun e w' => e = .returned (.bool false) ∧ Below W.heap.size W w') := Lib.hid fun W => by have := p_hfo_any (at2, sz2, raw2, ct2, fi2, ea2, la2) (at_, sz, raw, ct, fi, ea, la) W hpg; rwa [hg2] at this
            clear HI2 HI3 HI4 HL hg2 hpg
            go_wp2
            generalize (wr.alloc (.cells #[.int .i64 at_, .int .i64 sz, .int .i64 raw, .int .i64 ct, .int .i64 fi, .int .i64 ea, .int .i64 la] 55)) = w0 at *
            generalize wr.heap.size = gb at *
            refine wp_region_held_drew (S := (fun W => Below w.heap.size w W ∧ Blk W gb 55 #[.int .i64 at_, .int .i64 sz, .int .i64 raw, .int .i64 ct, .int .i64 fi, .int .i64 ea, .int .i64 la])) (by kernel_rfl) (⟨HBW.out.drew, HMB.out.drew⟩) (fun hHeld => ?_)
            refine wpAnyH_take (i := 0) (oi := _) (v := ?_) rfl (by kernel_rfl) (by kernel_rfl) (by kernel_rfl) (fun _ _ _ h => h) (Or.inl ⟨by rfl, ?_⟩) hHeld ?_
            rotate_left
            · (intro wz hSw; have k0 := hSw.2.cell 0; have k1 := hSw.2.cell 1; have k2 := hSw.2.cell 2; have k3 := hSw.2.cell 3; have k4 := hSw.2.cell 4; have k5 := hSw.2.cell 5; have k6 := hSw.2.cell 6; simp only [List.getElem?_toArray, List.getElem?_cons_zero, List.getElem?_cons_succ] at k0 k1 k2 k3 k4 k5 k6; go_simp; try (with_reducible rfl))
            (try dsimp only [List.getElem_toArray, List.getElem_cons_zero, List.getElem_cons_succ]); (try simp only [Act.put, List.setIfInBounds_toArray, List.set_cons_zero, List.set_cons_succ])
            refine wpAnyH_ready (rs := [1]) (by kernel_rfl) (by simp) ?_
            refine AllReadyH.cons (o := _) rfl (fun K hK => ?_) AllReadyH.nil
            go_simp
            go_at_call 37
            (with_reducible refine (C1.out _).mono ?_)
            rintro e w1 ⟨rfl, hb1⟩
            clear C1
            refine hK.out _ _ (⟨hHeld.1.trans (hb1.mono hHeld.1.size), hHeld.2.below hb1 hHeld.2.lt⟩) (fun hH => ?_)
            clear hHeld hK K hb1
            have hHeld := hH
            clear hH
            (try dsimp only [List.getElem_toArray, List.getElem_cons_zero, List.getElem_cons_succ]); (try simp only [Act.put, List.setIfInBounds_toArray, List.set_cons_zero, List.set_cons_succ])
            refine wpAnyH_take (i := 2) (oi := _) (v := ?_) rfl (by kernel_rfl) (by kernel_rfl) (by kernel_rfl) (fun _ _ _ h => h) (Or.inl ⟨by rfl, ?_⟩) hHeld ?_
            rotate_left
            · (intro wz hSw; go_simp; try (with_reducible rfl))
            (try dsimp only [List.getElem_toArray, List.getElem_cons_zero, List.getElem_cons_succ]); (try simp only [Act.put, List.setIfInBounds_toArray, List.set_cons_zero, List.set_cons_succ])
            refine wpAnyH_take (i := 3) (oi := _) (v := ?_) rfl (by kernel_rfl) (by kernel_rfl) (by kernel_rfl) (fun _ _ _ h => h) (Or.inl ⟨by rfl, ?_⟩) hHeld ?_
            rotate_left
            · (intro wz hSw; go_simp; try (with_reducible rfl))
            (try dsimp only [List.getElem_toArray, List.getElem_cons_zero, List.getElem_cons_succ]); (try simp only [Act.put, List.setIfInBounds_toArray, List.set_cons_zero, List.set_cons_succ])
            refine wpAnyH_take (i := 4) (oi := _) (v := ?_) rfl (by kernel_rfl) (by kernel_rfl) (by kernel_rfl) (fun _ _ _ h => h) (Or.inl ⟨by rfl, ?_⟩) hHeld ?_
            rotate_left
            · (intro wz hSw; go_simp; try (with_reducible rfl))
            (try dsimp only [List.getElem_toArray, List.getElem_cons_zero, List.getElem_cons_succ]); (try simp only [Act.put, List.setIfInBounds_toArray, List.set_cons_zero, List.set_cons_succ])
            refine wpAnyH_take (i := 5) (oi := _) (v := ?_) rfl (by kernel_rfl) (by kernel_rfl) (by kernel_rfl) (fun _ _ _ h => h) (Or.inl ⟨by rfl, ?_⟩) hHeld ?_
            rotate_left
            · (intro wz hSw; go_simp; try (with_reducible rfl))
            (try dsimp only [List.getElem_toArray, List.getElem_cons_zero, List.getElem_cons_succ]); (try simp only [Act.put, List.setIfInBounds_toArray, List.set_cons_zero, List.set_cons_succ])
            refine wpAnyH_take (i := 6) (oi := _) (v := ?_) rfl (by kernel_rfl) (by kernel_rfl) (by kernel_rfl) (fun _ _ _ h => h) (Or.inl ⟨by rfl, ?_⟩) hHeld ?_
            rotate_left
            · (intro wz hSw; go_simp; try (with_reducible rfl))
            (try dsimp only [List.getElem_toArray, List.getElem_cons_zero, List.getElem_cons_succ]); (try simp only [Act.put, List.setIfInBounds_toArray, List.set_cons_zero, List.set_cons_succ])
            refine wpAnyH_take (i := 12) (oi := _) (v := ?_) rfl (by kernel_rfl) (by kernel_rfl) (by kernel_rfl) (fun _ _ _ h => h) (Or.inl ⟨by rfl, ?_⟩) hHeld ?_
            rotate_left
            · (intro wz hSw; have k0 := hSw.2.cell 0; have k1 := hSw.2.cell 1; have k2 := hSw.2.cell 2; have k3 := hSw.2.cell 3; have k4 := hSw.2.cell 4; have k5 := hSw.2.cell 5; have k6 := hSw.2.cell 6; simp only [List.getElem?_toArray, List.getElem?_cons_zero, List.getElem?_cons_succ] at k0 k1 k2 k3 k4 k5 k6; go_simp; try (with_reducible rfl))
            (try dsimp only [List.getElem_toArray, List.getElem_cons_zero, List.getElem_cons_succ]); (try simp only [Act.put, List.setIfInBounds_toArray, List.set_cons_zero, List.set_cons_succ])
            refine wpAnyH_take (i := 7) (oi := _) (v := ?_) rfl (by kernel_rfl) (by kernel_rfl) (by kernel_rfl) (fun _ _ _ h => h) (Or.inl ⟨by rfl, ?_⟩) hHeld ?_
            rotate_left
            · (intro wz hSw; go_simp; try (with_reducible rfl))
            (try dsimp only [List.getElem_toArray, List.getElem_cons_zero, List.getElem_cons_succ]); (try simp only [Act.put, List.setIfInBounds_toArray, List.set_cons_zero, List.set_cons_succ])
            refine wpAnyH_take (i := 8) (oi := _) (v := ?_) rfl (by kernel_rfl) (by kernel_rfl) (by kernel_rfl) (fun _ _ _ h => h) (Or.inl ⟨by rfl, ?_⟩) hHeld ?_
            rotate_left
            · (intro wz hSw; go_simp; try (with_reducible rfl))
            (try dsimp only [List.getElem_toArray, List.getElem_cons_zero, List.getElem_cons_succ]); (try simp only [Act.put, List.setIfInBounds_toArray, List.set_cons_zero, List.set_cons_succ])
            refine wpAnyH_take (i := 9) (oi := _) (v := ?_) rfl (by kernel_rfl) (by kernel_rfl) (by kernel_rfl) (fun _ _ _ h => h) (Or.inl ⟨by rfl, ?_⟩) hHeld ?_
            rotate_left
            · (intro wz hSw; go_simp; try (with_reducible rfl))
            (try dsimp only [List.getElem_toArray, List.getElem_cons_zero, List.getElem_cons_succ]); (try simp only [Act.put, List.setIfInBounds_toArray, List.set_cons_zero, List.set_cons_succ])
            refine wpAnyH_take (i := 10) (oi := _) (v := ?_) rfl (by kernel_rfl) (by kernel_rfl) (by kernel_rfl) (fun _ _ _ h => h) (Or.inl ⟨by rfl, ?_⟩) hHeld ?_
            rotate_left
            · (intro wz hSw; go_simp; try (with_reducible rfl))
            (try dsimp only [List.getElem_toArray, List.getElem_cons_zero, List.getElem_cons_succ]); (try simp only [Act.put, List.setIfInBounds_toArray, List.set_cons_zero, List.set_cons_succ])
            refine wpAnyH_take (i := 11) (oi := _) (v := ?_) rfl (by kernel_rfl) (by kernel_rfl) (by kernel_rfl) (fun _ _ _ h => h) (Or.inl ⟨by rfl, ?_⟩) hHeld ?_
            rotate_left
            · (intro wz hSw; have k0 := (hSw.1.cell (p := ⟨b, off + p * 7, none⟩) hb).trans d0; have k1 := (hSw.1.cell (p := ⟨b, off + p * 7 + 1, none⟩) hb).trans d1; have k2 := (hSw.1.cell (p := ⟨b, off + p * 7 + 2, none⟩) hb).trans d2; have k3 := (hSw.1.cell (p := ⟨b, off + p * 7 + 3, none⟩) hb).trans d3; have k4 := (hSw.1.cell (p := ⟨b, off + p * 7 + 4, none⟩) hb).trans d4; have k5 := (hSw.1.cell (p := ⟨b, off + p * 7 + 5, none⟩) hb).trans d5; have k6 := (hSw.1.cell (p := ⟨b, off + p * 7 + 6, none⟩) hb).trans d6; go_simp; try (with_reducible rfl))
            (try dsimp only [List.getElem_toArray, List.getElem_cons_zero, List.getElem_cons_succ]); (try simp only [Act.put, List.setIfInBounds_toArray, List.set_cons_zero, List.set_cons_succ])
            refine wpAnyH_ready (rs := [13]) (by kernel_rfl) (by simp) ?_
            refine AllReadyH.cons (o := _) rfl (fun K hK => ?_) AllReadyH.nil
            go_simp
            go_at_call 38
            (with_reducible refine (C2.out _).mono ?_)
            rintro e w1 ⟨rfl, hb1⟩
            clear C2
            refine hK.out _ _ (⟨hHeld.1.trans (hb1.mono hHeld.1.size), hHeld.2.below hb1 hHeld.2.lt⟩) (fun hH => ?_)
            clear hHeld hK K hb1
            have hHeld := hH
            clear hH
            (try dsimp only [List.getElem_toArray, List.getElem_cons_zero, List.getElem_cons_succ]); (try simp only [Act.put, List.setIfInBounds_toArray, List.set_cons_zero, List.set_cons_succ])
            refine wpAnyH_take (i := 14) (oi := _) (v := ?_) rfl (by kernel_rfl) (by kernel_rfl) (by kernel_rfl) (fun _ _ _ h => h) (Or.inl ⟨by rfl, ?_⟩) hHeld ?_
            rotate_left
            · (intro wz hSw; go_simp; try (with_reducible rfl))
            (try dsimp only [List.getElem_toArray, List.getElem_cons_zero, List.getElem_cons_succ]); (try simp only [Act.put, List.setIfInBounds_toArray, List.set_cons_zero, List.set_cons_succ])
            refine wpAnyH_take (i := 15) (oi := _) (v := ?_) rfl (by kernel_rfl) (by kernel_rfl) (by kernel_rfl) (fun _ _ _ h => h) (Or.inl ⟨by rfl, ?_⟩) hHeld ?_
            rotate_left
            · (intro wz hSw; go_simp; try (with_reducible rfl))
            (try dsimp only [List.getElem_toArray, List.getElem_cons_zero, List.getElem_cons_succ]); (try simp only [Act.put, List.setIfInBounds_toArray, List.set_cons_zero, List.set_cons_succ])
            refine wpAnyH_take (i := 16) (oi := _) (v := ?_) rfl (by kernel_rfl) (by kernel_rfl) (by kernel_rfl) (fun _ _ _ h => h) (Or.inl ⟨by rfl, ?_⟩) hHeld ?_
            rotate_left
            · (intro wz hSw; go_simp; try (with_reducible rfl))
            (try dsimp only [List.getElem_toArray, List.getElem_cons_zero, List.getElem_cons_succ]); (try simp only [Act.put, List.setIfInBounds_toArray, List.set_cons_zero, List.set_cons_succ])
            refine wpAnyH_done (by kernel_rfl) ?_ _
            have HB3 := Lib.hid hHeld.1
            clear hHeld
            go_wp2
            go_ret
            exact ⟨by rw [HF.out]; rfl, HB3.out⟩
          case pos =>
            have HI5 := Lib.hid (HI2.out (HI3.out hg2))
            have C2 : Hid (∀ W, Calls Try.prog 38 #[.agg #[.int .i64 at2, .int .i64 sz2, .int .i64 raw2, .int .i64 ct2, .int .i64 fi2, .int .i64 ea2, .int .i64 la2], .agg #[.int .i64 at_, .int .i64 sz, .int .i64 raw, .int .i64 ct, .int .i64 fi, .int .i64 ea, .int .i64 la]] W fun e w' => e = .returned (.bool true) ∧ Below W.heap.size W w') := Lib.hid fun W => by have := p_hfo_any (at2, sz2, raw2, ct2, fi2, ea2, la2) (at_, sz, raw, ct, fi, ea, la) W hpg; rwa [hg2] at this
            clear HI2 HI3 HI4 hg2 hpg
            go_wp2
            generalize (wr.alloc (.cells #[.int .i64 at_, .int .i64 sz, .int .i64 raw, .int .i64 ct, .int .i64 fi, .int .i64 ea, .int .i64 la] 55)) = w0 at *
            generalize wr.heap.size = gb at *
            refine wp_region_held_drew (S := (fun W => Below w.heap.size w W ∧ Blk W gb 55 #[.int .i64 at_, .int .i64 sz, .int .i64 raw, .int .i64 ct, .int .i64 fi, .int .i64 ea, .int .i64 la])) (by kernel_rfl) (⟨HBW.out.drew, HMB.out.drew⟩) (fun hHeld => ?_)
            refine wpAnyH_take (i := 0) (oi := _) (v := ?_) rfl (by kernel_rfl) (by kernel_rfl) (by kernel_rfl) (fun _ _ _ h => h) (Or.inl ⟨by rfl, ?_⟩) hHeld ?_
            rotate_left
            · (intro wz hSw; have k0 := hSw.2.cell 0; have k1 := hSw.2.cell 1; have k2 := hSw.2.cell 2; have k3 := hSw.2.cell 3; have k4 := hSw.2.cell 4; have k5 := hSw.2.cell 5; have k6 := hSw.2.cell 6; simp only [List.getElem?_toArray, List.getElem?_cons_zero, List.getElem?_cons_succ] at k0 k1 k2 k3 k4 k5 k6; go_simp; try (with_reducible rfl))
            (try dsimp only [List.getElem_toArray, List.getElem_cons_zero, List.getElem_cons_succ]); (try simp only [Act.put, List.setIfInBounds_toArray, List.set_cons_zero, List.set_cons_succ])
            refine wpAnyH_ready (rs := [1]) (by kernel_rfl) (by simp) ?_
            refine AllReadyH.cons (o := _) rfl (fun K hK => ?_) AllReadyH.nil
            go_simp
            go_at_call 37
            (with_reducible refine (C1.out _).mono ?_)
            rintro e w1 ⟨rfl, hb1⟩
            clear C1
            refine hK.out _ _ (⟨hHeld.1.trans (hb1.mono hHeld.1.size), hHeld.2.below hb1 hHeld.2.lt⟩) (fun hH => ?_)
            clear hHeld hK K hb1
            have hHeld := hH
            clear hH
            (try dsimp only [List.getElem_toArray, List.getElem_cons_zero, List.getElem_cons_succ]); (try simp only [Act.put, List.setIfInBounds_toArray, List.set_cons_zero, List.set_cons_succ])
            refine wpAnyH_take (i := 2) (oi := _) (v := ?_) rfl (by kernel_rfl) (by kernel_rfl) (by kernel_rfl) (fun _ _ _ h => h) (Or.inl ⟨by rfl, ?_⟩) hHeld ?_
            rotate_left
            · (intro wz hSw; go_simp; try (with_reducible rfl))
            (try dsimp only [List.getElem_toArray, List.getElem_cons_zero, List.getElem_cons_succ]); (try simp only [Act.put, List.setIfInBounds_toArray, List.set_cons_zero, List.set_cons_succ])
            refine wpAnyH_take (i := 3) (oi := _) (v := ?_) rfl (by kernel_rfl) (by kernel_rfl) (by kernel_rfl) (fun _ _ _ h => h) (Or.inl ⟨by rfl, ?_⟩) hHeld ?_
            rotate_left
            · (intro wz hSw; go_simp; try (with_reducible rfl))
            (try dsimp only [List.getElem_toArray, List.getElem_cons_zero, List.getElem_cons_succ]); (try simp only [Act.put, List.setIfInBounds_toArray, List.set_cons_zero, List.set_cons_succ])
            refine wpAnyH_take (i := 4) (oi := _) (v := ?_) rfl (by kernel_rfl) (by kernel_rfl) (by kernel_rfl) (fun _ _ _ h => h) (Or.inl ⟨by rfl, ?_⟩) hHeld ?_
            rotate_left
            · (intro wz hSw; go_simp; try (with_reducible rfl))
            (try dsimp only [List.getElem_toArray, List.getElem_cons_zero, List.getElem_cons_succ]); (try simp only [Act.put, List.setIfInBounds_toArray, List.set_cons_zero, List.set_cons_succ])
            refine wpAnyH_take (i := 5) (oi := _) (v := ?_) rfl (by kernel_rfl) (by kernel_rfl) (by kernel_rfl) (fun _ _ _ h => h) (Or.inl ⟨by rfl, ?_⟩) hHeld ?_
            rotate_left
            · (intro wz hSw; go_simp; try (with_reducible rfl))
            (try dsimp only [List.getElem_toArray, List.getElem_cons_zero, List.getElem_cons_succ]); (try simp only [Act.put, List.setIfInBounds_toArray, List.set_cons_zero, List.set_cons_succ])
            refine wpAnyH_take (i := 6) (oi := _) (v := ?_) rfl (by kernel_rfl) (by kernel_rfl) (by kernel_rfl) (fun _ _ _ h => h) (Or.inl ⟨by rfl, ?_⟩) hHeld ?_
            rotate_left
            · (intro wz hSw; go_simp; try (with_reducible rfl))
            (try dsimp only [List.getElem_toArray, List.getElem_cons_zero, List.getElem_cons_succ]); (try simp only [Act.put, List.setIfInBounds_toArray, List.set_cons_zero, List.set_cons_succ])
            refine wpAnyH_take (i := 12) (oi := _) (v := ?_) rfl (by kernel_rfl) (by kernel_rfl) (by kernel_rfl) (fun _ _ _ h => h) (Or.inl ⟨by rfl, ?_⟩) hHeld ?_
            rotate_left
            · (intro wz hSw; have k0 := hSw.2.cell 0; have k1 := hSw.2.cell 1; have k2 := hSw.2.cell 2; have k3 := hSw.2.cell 3; have k4 := hSw.2.cell 4; have k5 := hSw.2.cell 5; have k6 := hSw.2.cell 6; simp only [List.getElem?_toArray, List.getElem?_cons_zero, List.getElem?_cons_succ] at k0 k1 k2 k3 k4 k5 k6; go_simp; try (with_reducible rfl))
            (try dsimp only [List.getElem_toArray, List.getElem_cons_zero, List.getElem_cons_succ]); (try simp only [Act.put, List.setIfInBounds_toArray, List.set_cons_zero, List.set_cons_succ])
            refine wpAnyH_take (i := 7) (oi := _) (v := ?_) rfl (by kernel_rfl) (by kernel_rfl) (by kernel_rfl) (fun _ _ _ h => h) (Or.inl ⟨by rfl, ?_⟩) hHeld ?_
            rotate_left
            · (intro wz hSw; go_simp; try (with_reducible rfl))
            (try dsimp only [List.getElem_toArray, List.getElem_cons_zero, List.getElem_cons_succ]); (try simp only [Act.put, List.setIfInBounds_toArray, List.set_cons_zero, List.set_cons_succ])
            refine wpAnyH_take (i := 8) (oi := _) (v := ?_) rfl (by kernel_rfl) (by kernel_rfl) (by kernel_rfl) (fun _ _ _ h => h) (Or.inl ⟨by rfl, ?_⟩) hHeld ?_
            rotate_left
            · (intro wz hSw; go_simp; try (with_reducible rfl))
            (try dsimp only [List.getElem_toArray, List.getElem_cons_zero, List.getElem_cons_succ]); (try simp only [Act.put, List.setIfInBounds_toArray, List.set_cons_zero, List.set_cons_succ])
            refine wpAnyH_take (i := 9) (oi := _) (v := ?_) rfl (by kernel_rfl) (by kernel_rfl) (by kernel_rfl) (fun _ _ _ h => h) (Or.inl ⟨by rfl, ?_⟩) hHeld ?_
            rotate_left
            · (intro wz hSw; go_simp; try (with_reducible rfl))
            (try dsimp only [List.getElem_toArray, List.getElem_cons_zero, List.getElem_cons_succ]); (try simp only [Act.put, List.setIfInBounds_toArray, List.set_cons_zero, List.set_cons_succ])
            refine wpAnyH_take (i := 10) (oi := _) (v := ?_) rfl (by kernel_rfl) (by kernel_rfl) (by kernel_rfl) (fun _ _ _ h => h) (Or.inl ⟨by rfl, ?_⟩) hHeld ?_
            rotate_left
            · (intro wz hSw; go_simp; try (with_reducible rfl))
            (try dsimp only [List.getElem_toArray, List.getElem_cons_zero, List.getElem_cons_succ]); (try simp only [Act.put, List.setIfInBounds_toArray, List.set_cons_zero, List.set_cons_succ])
            refine wpAnyH_take (i := 11) (oi := _) (v := ?_) rfl (by kernel_rfl) (by kernel_rfl) (by kernel_rfl) (fun _ _ _ h => h) (Or.inl ⟨by rfl, ?_⟩) hHeld ?_
            rotate_left
            · (intro wz hSw; have k0 := (hSw.1.cell (p := ⟨b, off + p * 7, none⟩) hb).trans d0; have k1 := (hSw.1.cell (p := ⟨b, off + p * 7 + 1, none⟩) hb).trans d1; have k2 := (hSw.1.cell (p := ⟨b, off + p * 7 + 2, none⟩) hb).trans d2; have k3 := (hSw.1.cell (p := ⟨b, off + p * 7 + 3, none⟩) hb).trans d3; have k4 := (hSw.1.cell (p := ⟨b, off + p * 7 + 4, none⟩) hb).trans d4; have k5 := (hSw.1.cell (p := ⟨b, off + p * 7 + 5, none⟩) hb).trans d5; have k6 := (hSw.1.cell (p := ⟨b, off + p * 7 + 6, none⟩) hb).trans d6; go_simp; try (with_reducible rfl))
            (try dsimp only [List.getElem_toArray, List.getElem_cons_zero, List.getElem_cons_succ]); (try simp only [Act.put, List.setIfInBounds_toArray, List.set_cons_zero, List.set_cons_succ])
            refine wpAnyH_ready (rs := [13]) (by kernel_rfl) (by simp) ?_
            refine AllReadyH.cons (o := _) rfl (fun K hK => ?_) AllReadyH.nil
            go_simp
            go_at_call 38
            (with_reducible refine (C2.out _).mono ?_)
            rintro e w1 ⟨rfl, hb1⟩
            clear C2
            refine hK.out _ _ (⟨hHeld.1.trans (hb1.mono hHeld.1.size), hHeld.2.below hb1 hHeld.2.lt⟩) (fun hH => ?_)
            clear hHeld hK K hb1
            have hHeld := hH
            clear hH
            (try dsimp only [List.getElem_toArray, List.getElem_cons_zero, List.getElem_cons_succ]); (try simp only [Act.put, List.setIfInBounds_toArray, List.set_cons_zero, List.set_cons_succ])
            refine wpAnyH_take (i := 14) (oi := _) (v := ?_) rfl (by kernel_rfl) (by kernel_rfl) (by kernel_rfl) (fun _ _ _ h => h) (Or.inl ⟨by rfl, ?_⟩) hHeld ?_
            rotate_left
            · (intro wz hSw; go_simp; try (with_reducible rfl))
            (try dsimp only [List.getElem_toArray, List.getElem_cons_zero, List.getElem_cons_succ]); (try simp only [Act.put, List.setIfInBounds_toArray, List.set_cons_zero, List.set_cons_succ])
            refine wpAnyH_take (i := 15) (oi := _) (v := ?_) rfl (by kernel_rfl) (by kernel_rfl) (by kernel_rfl) (fun _ _ _ h => h) (Or.inl ⟨by rfl, ?_⟩) hHeld ?_
            rotate_left
            · (intro wz hSw; go_simp; try (with_reducible rfl))
            (try dsimp only [List.getElem_toArray, List.getElem_cons_zero, List.getElem_cons_succ]); (try simp only [Act.put, List.setIfInBounds_toArray, List.set_cons_zero, List.set_cons_succ])
            refine wpAnyH_take (i := 16) (oi := _) (v := ?_) rfl (by kernel_rfl) (by kernel_rfl) (by kernel_rfl) (fun _ _ _ h => h) (Or.inl ⟨by rfl, ?_⟩) hHeld ?_
            rotate_left
            · (intro wz hSw; go_simp; try (with_reducible rfl))
            (try dsimp only [List.getElem_toArray, List.getElem_cons_zero, List.getElem_cons_succ]); (try simp only [Act.put, List.setIfInBounds_toArray, List.set_cons_zero, List.set_cons_succ])
            refine wpAnyH_done (by kernel_rfl) ?_ _
            have HB3 := Lib.hid hHeld.1
            clear hHeld
            go_wp2
            go_roundw
            case rel => exact ⟨k + 1, by omega, iv (by omega), HI5, HB3⟩
            case measure => simp only [intOf]; omega
    case neg =>
      obtain rfl : k = n := by omega
      have hz : ¬ (k : Int) < (k : Int) := by omega
      have HF : Hid (hblkF l = 0) := Lib.hid (if_pos ((hrow_iff l).2 ⟨by have := HS.out; have := HL.out; omega, fun i hi => HI.out i hi (by have := HL.out; omega)⟩))
      clear HC HI
      go_wp2
      go_ret
      exact ⟨by rw [HF.out]; rfl, HB.out⟩
end Go.Proofs.Ytjodckinfoldgaa
