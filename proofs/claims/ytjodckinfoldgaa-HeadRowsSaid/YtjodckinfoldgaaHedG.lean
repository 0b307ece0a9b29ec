/-
  Layer 21, the document's: GetFoot (ahead of the code's landing).
-/
import Derived.Test.YtjodckinfoldgaaHedB
import Derived.Test.YtjodckinfoldgaaHedS
import Derived.Test.YtjodckinfoldgaaDisA
import Derived.Deep.QuietTactic
import Derived.BigQuiet
import Derived.Test.YtjodckinfoldgaaGrow
import Derived.Test.YtjodckinfoldgaaStep
import Derived.Deep.DeepCutAuto
namespace Go.Proofs.Ytjodckinfoldgaa
set_option linter.unusedSimpArgs false
set_option linter.unusedVariables false
open Go.ChangeShapes Go.WideShapes Go.ChangeAt Go.RowKit Go.Joins Go.Deep
theorem meta_info : (Try.prog.info? 55).map (fun i => (i.zero, i.size, i.bytes)) = some (some (.agg #[.int .i64 0, .int .i64 0, .int .i64 0, .int .i64 0, .int .i64 0, .int .i64 0, .int .i64 0]), 7, 56) := by kernel_rfl
def HMP (w w' : World) (e : Ending) (F : List Mt × Int) : Prop := ∃ A c, e = .returned (.tuple #[.slice A F.1.length c, .int .i64 F.2]) ∧ F.1.length ≤ c ∧ Reads w' w'.heap.size 7 A F.1.length (dcs mtc F.1) ∧ Below w.heap.size w w'
theorem hfs_cons (s : List UInt8) (k : Nat) (p : Int) (acc : List Mt) : hfs s (k + 1) p acc = if (gets s 7 p []).2.2 = 0 then hfs s k (gets s 7 p []).2.1 (acc ++ [hmof (gets s 7 p []).1]) else ([], 0, (gets s 7 p []).2.2) := rfl
set_option maxRecDepth 100000 in
set_option maxHeartbeats 4000000 in
theorem href_gf_a (s : List UInt8) (w : World) (hs : s.length ≤ 1000000) (h : (getF s 0).2.2 ≠ 0) : Calls Try.prog 17 #[.string ⟨s.toArray⟩] w fun e w' => HMP w w' e ([], (getF s 0).2.2) := by
  have P1 : Hid (∀ W, Calls Try.prog 32 #[.string ⟨s.toArray⟩, .int .i64 0, .int .i64 1] W fun e w' => HGP W w' e (gets s 1 0 [])) := Lib.hid fun W => href_gets_any s 0 1 W hs (by omega)
  rw [gets_cons, if_neg h] at P1
  have hq : ((getF s 0).2.2 == 0) = false := by rw [beq_eq_false_iff_ne]; exact h
  generalize (getF s 0).2.2 = er at *
  clear hs h
  go_enter Try.func17, Try.ntmps17
  go_wp2_with (first | (go_at_call 32; (with_reducible refine (P1.out _).mono ?_); unfold HGP; rintro e w1 ⟨A1, d1, rfl, hr, hb1⟩; have HB := Lib.hid hb1; have HR := Lib.hid hr; clear hb1 hr P1) | fail)
  go_ret2
  unfold HMP
  exact ⟨none, 0, rfl, Nat.le_refl _, Reads.none_, HB.out⟩
set_option maxRecDepth 100000 in
set_option maxHeartbeats 4000000 in
theorem href_gf_b (s : List UInt8) (w : World) (hs : s.length ≤ 1000000) (N p : Int) (h : getF s 0 = (N, p, 0)) (hN : 1000 < N) : Calls Try.prog 17 #[.string ⟨s.toArray⟩] w fun e w' => HMP w w' e ([], 3) := by
  have P1 : Hid (∀ W, Calls Try.prog 32 #[.string ⟨s.toArray⟩, .int .i64 0, .int .i64 1] W fun e w' => HGP W w' e (gets s 1 0 [])) := Lib.hid fun W => href_gets_any s 0 1 W hs (by omega)
  rw [gets_cons, h] at P1
  dsimp only at P1
  rw [if_pos rfl] at P1
  replace P1 : Hid (∀ W, Calls Try.prog 32 #[.string ⟨s.toArray⟩, .int .i64 0, .int .i64 1] W fun e w' => HGP W w' e ([N], p, 0)) := P1
  clear hs h
  go_enter Try.func17, Try.ntmps17
  go_wp2_with (first | (go_at_call 32; (with_reducible refine (P1.out _).mono ?_); unfold HGP; rintro e w1 ⟨A1, d1, rfl, hr, hb1⟩; have HB := Lib.hid hb1; obtain ⟨b1, o1, hA1, hlt1, hc1⟩ := hr.2 (by simp); subst hA1; have r0 := hc1 0 (.int .i64 N) rfl; rw [Nat.add_zero] at r0; clear hc1 hr hb1 P1) | fail)
  go_ret2
  unfold HMP
  exact ⟨none, 0, rfl, Nat.le_refl _, Reads.none_, HB.out⟩
set_option maxRecDepth 100000 in
set_option maxHeartbeats 16000000 in
theorem href_gf_c (s : List UInt8) (w : World) (hs : s.length ≤ 1000000) (n : Nat) (p : Int) (h : getF s 0 = ((n : Int), p, 0)) (hN : n ≤ 1000) : Calls Try.prog 17 #[.string ⟨s.toArray⟩] w fun e w' => HMP w w' e (hfend s (hfs s n p [])) := by
  have P1 : Hid (∀ W, Calls Try.prog 32 #[.string ⟨s.toArray⟩, .int .i64 0, .int .i64 1] W fun e w' => HGP W w' e (gets s 1 0 [])) := Lib.hid fun W => href_gets_any s 0 1 W hs (by omega)
  rw [gets_cons, h] at P1
  dsimp only at P1
  rw [if_pos rfl] at P1
  replace P1 : Hid (∀ W, Calls Try.prog 32 #[.string ⟨s.toArray⟩, .int .i64 0, .int .i64 1] W fun e w' => HGP W w' e ([(n : Int)], p, 0)) := P1
  obtain ⟨i0, hi, hz0, hz1, hz2⟩ := info_parts meta_info
  obtain ⟨a1, a2, a3, a4, a5, a6, a7⟩ := rnum_ok (s := s) (p := 0) (by rw [h])
  rw [h] at a5 a6
  dsimp only at a5 a6
  have HP0 : Hid (0 ≤ p ∧ p ≤ s.length) := Lib.hid ⟨by omega, a6⟩
  have Hs := Lib.hid hs
  have PG : Hid (∀ q W, Calls Try.prog 32 #[.string ⟨s.toArray⟩, .int .i64 q, .int .i64 7] W fun e w' => HGP W w' e (gets s 7 q [])) := Lib.hid fun q W => href_gets_any s q 7 W hs (by omega)
  have PB : Hid (∀ (l : List Mt) A c W, l.length ≤ 1000000 → Reads W W.heap.size 7 A l.length (dcs mtc l) → Calls Try.prog 21 #[.slice A l.length c] W fun e w' => e = .returned (.int .i64 (hblkF l)) ∧ Below W.heap.size W w') := Lib.hid fun l A c W hl hr => href_blk_any l A l.length c W rfl hl hr
  obtain ⟨r, hr⟩ : ∃ r, hfs s n p [] = r := ⟨_, rfl⟩
  have HR := Lib.hid hr
  rw [hr]
  have hni : ¬ (1000 : Int) < (n : Int) := by omega
  clear hr h hs a1 a2 a3 a4 a5 a6 a7
  go_enter Try.func17, Try.ntmps17
  go_wp2_with (first | (go_at_call 32; (with_reducible refine (P1.out _).mono ?_); unfold HGP; rintro e w1 ⟨A1, d1, rfl, hr, hb1⟩; have HB := Lib.hid hb1; obtain ⟨b1, o1, hA1, hlt1, hc1⟩ := hr.2 (by simp); subst hA1; have r0 := hc1 0 (.int .i64 (n : Int)) rfl; rw [Nat.add_zero] at r0; clear hc1 hr hb1 P1) | fail)
  go_loopw [5, 7, 8, 9, 10, 11, 12] (fun qv v iv _ _ _ _ wr => ∃ (k : Nat) (q : Int) (acc : List Mt), k ≤ n ∧ iv = .int .i64 (k : Int) ∧ qv = .int .i64 q ∧ Hid (0 ≤ q ∧ q ≤ s.length) ∧ Hid (acc.length = k) ∧ Hid (DOwn 55 mtc 7 w1 wr v acc) ∧ Hid (hfs s (n - k) q acc = r)) (fun _ _ iv _ _ _ _ _ => n - (intOf iv).toNat)
  case atStart => exact ⟨0, p, [], by omega, rfl, rfl, HP0, rfl, Lib.hid ⟨World.ownsRow_nil _ _ _ _, Below.refl _ _⟩, Lib.hid HR.out⟩
  case round =>
    obtain ⟨k, q, acc, hk, rfl, rfl, HQ, Hacc, HD, Hg⟩ := hrel
    have r1 := (HD.out.below.cell (p := ⟨b1, o1, none⟩) hlt1).trans r0
    by_cases hlt : k < n
    case pos =>
      have hki : (0 : Int) ≤ (k : Int) ∧ (k : Int) < (n : Int) := by omega
      have hstep := hfs_cons s (n - (k + 1)) q acc
      rw [show n - (k + 1) + 1 = n - k from by omega, Hg.out] at hstep
      have hgl := gets_acc s 7 q []
      have PQ := Lib.hid (fun W => PG.out q W)
      clear r0
      obtain ⟨G, hG⟩ : ∃ G, gets s 7 q [] = G := ⟨_, rfl⟩
      rw [hG] at hstep hgl PQ
      obtain ⟨g, tq, er⟩ := G
      dsimp only at hstep hgl
      by_cases he : er = 0
      case neg =>
        rw [if_neg he] at hstep
        have hq : (er == 0) = false := by rw [beq_eq_false_iff_ne]; exact he
        have hend : hfend s r = ([], er) := by rw [hstep]; unfold hfend; rw [if_pos (by exact he)]
        have HEnd := Lib.hid hend
        have hgn : g = [] := by have := (gets_fail s 7 q [] (by rw [hG]; exact he)).1; rw [hG] at this; exact this
        subst hgn
        clear hstep hgl hG Hg PG PB HR he hend
        go_wp2_with (first | (go_at_call 32; (with_reducible refine (PQ.out _).mono ?_); unfold HGP; rintro e w2 ⟨A2, d2, rfl, hr, hb2⟩; have HD2 := Lib.hid (HD.out.on hb2); clear hb2 hr PQ) | fail)
        go_ret2
        rw [HEnd.out]
        unfold HMP
        exact ⟨none, 0, rfl, Nat.le_refl _, Reads.none_, HB.out.trans (HD2.out.below.mono HB.out.size)⟩
      case pos =>
        subst he
        rw [if_pos rfl] at hstep
        obtain ⟨l7, e1, e2, e3, e4, e5, -⟩ := hgl rfl HQ.out.1 HQ.out.2
        rw [List.nil_append] at e1
        subst e1
        have HQ2 : Hid (0 ≤ tq ∧ tq ≤ s.length) := Lib.hid ⟨by have := HQ.out.1; omega, e5⟩
        match g, e2, e3 with
        | [x0, x1, x2, x3, x4, x5, x6], _, e3 =>
          have h5 := e3 x5 (by simp)
          have h6 := e3 x6 (by simp)
          have hw1 : IntKind.i64.wrap (9223372036854775807 - x5) = 9223372036854775807 - x5 := by rw [IntKind.wrap_i64]; omega
          obtain ⟨mm, hmm⟩ : ∃ mm, hmof [x0, x1, x2, x3, x4, x5, x6] = mm := ⟨_, rfl⟩
          rw [hmm] at hstep
          have HS := Lib.hid hstep.symm
          clear hstep hG Hg e3 e4 e5
          go_wp2_with (first | (go_at_call 32; (with_reducible refine (PQ.out _).mono ?_); unfold HGP; rintro e w2 ⟨A2, d2, rfl, hr, hb2⟩; have HD2 := Lib.hid (HD.out.on hb2); obtain ⟨b2, o2, hA2, hlt2, hc2⟩ := hr.2 (by simp); subst hA2; have g0 := hc2 0 (.int .i64 x0) rfl; have g1 := hc2 1 (.int .i64 x1) rfl; have g2 := hc2 2 (.int .i64 x2) rfl; have g3 := hc2 3 (.int .i64 x3) rfl; have g4 := hc2 4 (.int .i64 x4) rfl; have g5 := hc2 5 (.int .i64 x5) rfl; have g6 := hc2 6 (.int .i64 x6) rfl; rw [Nat.add_zero] at g0; clear hc2 hb2 hr PQ r1 HD) | fail)
          have hacc := Hacc.out
          clear Hs HQ HR PB PG HP0 Hacc
          refine wp_region_held_drew (S := (fun W9 => Below w2.heap.size w2 W9)) (by kernel_rfl) ((Below.refl _ _).drew) (fun hHeld => ?_)
          refine wpAnyH_take (i := 0) (oi := _) (v := ?_) rfl (by kernel_rfl) (by kernel_rfl) (by kernel_rfl) (fun _ _ _ h => h) (Or.inl ⟨by rfl, ?_⟩) hHeld ?_
          rotate_left
          · (intro wz hSw; go_simp; try (with_reducible rfl))
          (try dsimp only [List.getElem_toArray, List.getElem_cons_zero, List.getElem_cons_succ]); (try simp only [Act.put, List.setIfInBounds_toArray, List.set_cons_zero, List.set_cons_succ])
          refine wpAnyH_take (i := 1) (oi := _) (v := ?_) rfl (by kernel_rfl) (by kernel_rfl) (by kernel_rfl) (fun _ _ _ h => h) (Or.inl ⟨by rfl, ?_⟩) hHeld ?_
          rotate_left
          · (intro wz hSw; go_simp; try (with_reducible rfl))
          (try dsimp only [List.getElem_toArray, List.getElem_cons_zero, List.getElem_cons_succ]); (try simp only [Act.put, List.setIfInBounds_toArray, List.set_cons_zero, List.set_cons_succ])
          refine wpAnyH_take (i := 2) (oi := _) (v := ?_) rfl (by kernel_rfl) (by kernel_rfl) (by kernel_rfl) (fun _ _ _ h => h) (Or.inl ⟨by rfl, ?_⟩) hHeld ?_
          rotate_left
          · (intro wz hSw; have k0 := (hSw.cell (p := ⟨b2, o2, none⟩) hlt2).trans g0; go_simp; try (with_reducible rfl))
          (try dsimp only [List.getElem_toArray, List.getElem_cons_zero, List.getElem_cons_succ]); (try simp only [Act.put, List.setIfInBounds_toArray, List.set_cons_zero, List.set_cons_succ])
          refine wpAnyH_take (i := 3) (oi := _) (v := ?_) rfl (by kernel_rfl) (by kernel_rfl) (by kernel_rfl) (fun _ _ _ h => h) (Or.inl ⟨by rfl, ?_⟩) hHeld ?_
          rotate_left
          · (intro wz hSw; go_simp; try (with_reducible rfl))
          (try dsimp only [List.getElem_toArray, List.getElem_cons_zero, List.getElem_cons_succ]); (try simp only [Act.put, List.setIfInBounds_toArray, List.set_cons_zero, List.set_cons_succ])
          refine wpAnyH_take (i := 4) (oi := _) (v := ?_) rfl (by kernel_rfl) (by kernel_rfl) (by kernel_rfl) (fun _ _ _ h => h) (Or.inl ⟨by rfl, ?_⟩) hHeld ?_
          rotate_left
          · (intro wz hSw; go_simp; try (with_reducible rfl))
          (try dsimp only [List.getElem_toArray, List.getElem_cons_zero, List.getElem_cons_succ]); (try simp only [Act.put, List.setIfInBounds_toArray, List.set_cons_zero, List.set_cons_succ])
          refine wpAnyH_take (i := 5) (oi := _) (v := ?_) rfl (by kernel_rfl) (by kernel_rfl) (by kernel_rfl) (fun _ _ _ h => h) (Or.inl ⟨by rfl, ?_⟩) hHeld ?_
          rotate_left
          · (intro wz hSw; have k0 := (hSw.cell (p := ⟨b2, o2 + 1, none⟩) hlt2).trans g1; go_simp; try (with_reducible rfl))
          (try dsimp only [List.getElem_toArray, List.getElem_cons_zero, List.getElem_cons_succ]); (try simp only [Act.put, List.setIfInBounds_toArray, List.set_cons_zero, List.set_cons_succ])
          refine wpAnyH_take (i := 6) (oi := _) (v := ?_) rfl (by kernel_rfl) (by kernel_rfl) (by kernel_rfl) (fun _ _ _ h => h) (Or.inl ⟨by rfl, ?_⟩) hHeld ?_
          rotate_left
          · (intro wz hSw; go_simp; try (with_reducible rfl))
          (try dsimp only [List.getElem_toArray, List.getElem_cons_zero, List.getElem_cons_succ]); (try simp only [Act.put, List.setIfInBounds_toArray, List.set_cons_zero, List.set_cons_succ])
          refine wpAnyH_take (i := 7) (oi := _) (v := ?_) rfl (by kernel_rfl) (by kernel_rfl) (by kernel_rfl) (fun _ _ _ h => h) (Or.inl ⟨by rfl, ?_⟩) hHeld ?_
          rotate_left
          · (intro wz hSw; go_simp; try (with_reducible rfl))
          (try dsimp only [List.getElem_toArray, List.getElem_cons_zero, List.getElem_cons_succ]); (try simp only [Act.put, List.setIfInBounds_toArray, List.set_cons_zero, List.set_cons_succ])
          refine wpAnyH_take (i := 8) (oi := _) (v := ?_) rfl (by kernel_rfl) (by kernel_rfl) (by kernel_rfl) (fun _ _ _ h => h) (Or.inl ⟨by rfl, ?_⟩) hHeld ?_
          rotate_left
          · (intro wz hSw; have k0 := (hSw.cell (p := ⟨b2, o2 + 2, none⟩) hlt2).trans g2; go_simp; try (with_reducible rfl))
          (try dsimp only [List.getElem_toArray, List.getElem_cons_zero, List.getElem_cons_succ]); (try simp only [Act.put, List.setIfInBounds_toArray, List.set_cons_zero, List.set_cons_succ])
          refine wpAnyH_take (i := 9) (oi := _) (v := ?_) rfl (by kernel_rfl) (by kernel_rfl) (by kernel_rfl) (fun _ _ _ h => h) (Or.inl ⟨by rfl, ?_⟩) hHeld ?_
          rotate_left
          · (intro wz hSw; go_simp; try (with_reducible rfl))
          (try dsimp only [List.getElem_toArray, List.getElem_cons_zero, List.getElem_cons_succ]); (try simp only [Act.put, List.setIfInBounds_toArray, List.set_cons_zero, List.set_cons_succ])
          refine wpAnyH_take (i := 10) (oi := _) (v := ?_) rfl (by kernel_rfl) (by kernel_rfl) (by kernel_rfl) (fun _ _ _ h => h) (Or.inl ⟨by rfl, ?_⟩) hHeld ?_
          rotate_left
          · (intro wz hSw; go_simp; try (with_reducible rfl))
          (try dsimp only [List.getElem_toArray, List.getElem_cons_zero, List.getElem_cons_succ]); (try simp only [Act.put, List.setIfInBounds_toArray, List.set_cons_zero, List.set_cons_succ])
          refine wpAnyH_take (i := 11) (oi := _) (v := ?_) rfl (by kernel_rfl) (by kernel_rfl) (by kernel_rfl) (fun _ _ _ h => h) (Or.inl ⟨by rfl, ?_⟩) hHeld ?_
          rotate_left
          · (intro wz hSw; have k0 := (hSw.cell (p := ⟨b2, o2 + 3, none⟩) hlt2).trans g3; go_simp; try (with_reducible rfl))
          (try dsimp only [List.getElem_toArray, List.getElem_cons_zero, List.getElem_cons_succ]); (try simp only [Act.put, List.setIfInBounds_toArray, List.set_cons_zero, List.set_cons_succ])
          refine wpAnyH_take (i := 12) (oi := _) (v := ?_) rfl (by kernel_rfl) (by kernel_rfl) (by kernel_rfl) (fun _ _ _ h => h) (Or.inl ⟨by rfl, ?_⟩) hHeld ?_
          rotate_left
          · (intro wz hSw; go_simp; try (with_reducible rfl))
          (try dsimp only [List.getElem_toArray, List.getElem_cons_zero, List.getElem_cons_succ]); (try simp only [Act.put, List.setIfInBounds_toArray, List.set_cons_zero, List.set_cons_succ])
          refine wpAnyH_take (i := 13) (oi := _) (v := ?_) rfl (by kernel_rfl) (by kernel_rfl) (by kernel_rfl) (fun _ _ _ h => h) (Or.inl ⟨by rfl, ?_⟩) hHeld ?_
          rotate_left
          · (intro wz hSw; go_simp; try (with_reducible rfl))
          (try dsimp only [List.getElem_toArray, List.getElem_cons_zero, List.getElem_cons_succ]); (try simp only [Act.put, List.setIfInBounds_toArray, List.set_cons_zero, List.set_cons_succ])
          refine wpAnyH_take (i := 14) (oi := _) (v := ?_) rfl (by kernel_rfl) (by kernel_rfl) (by kernel_rfl) (fun _ _ _ h => h) (Or.inl ⟨by rfl, ?_⟩) hHeld ?_
          rotate_left
          · (intro wz hSw; have k0 := (hSw.cell (p := ⟨b2, o2 + 4, none⟩) hlt2).trans g4; go_simp; try (with_reducible rfl))
          (try dsimp only [List.getElem_toArray, List.getElem_cons_zero, List.getElem_cons_succ]); (try simp only [Act.put, List.setIfInBounds_toArray, List.set_cons_zero, List.set_cons_succ])
          refine wpAnyH_take (i := 15) (oi := _) (v := ?_) rfl (by kernel_rfl) (by kernel_rfl) (by kernel_rfl) (fun _ _ _ h => h) (Or.inl ⟨by rfl, ?_⟩) hHeld ?_
          rotate_left
          · (intro wz hSw; go_simp; try (with_reducible rfl))
          (try dsimp only [List.getElem_toArray, List.getElem_cons_zero, List.getElem_cons_succ]); (try simp only [Act.put, List.setIfInBounds_toArray, List.set_cons_zero, List.set_cons_succ])
          refine wpAnyH_take (i := 16) (oi := _) (v := ?_) rfl (by kernel_rfl) (by kernel_rfl) (by kernel_rfl) (fun _ _ _ h => h) (Or.inl ⟨by rfl, ?_⟩) hHeld ?_
          rotate_left
          · (intro wz hSw; go_simp; try (with_reducible rfl))
          (try dsimp only [List.getElem_toArray, List.getElem_cons_zero, List.getElem_cons_succ]); (try simp only [Act.put, List.setIfInBounds_toArray, List.set_cons_zero, List.set_cons_succ])
          refine wpAnyH_take (i := 17) (oi := _) (v := ?_) rfl (by kernel_rfl) (by kernel_rfl) (by kernel_rfl) (fun _ _ _ h => h) (Or.inl ⟨by rfl, ?_⟩) hHeld ?_
          rotate_left
          · (intro wz hSw; have k0 := (hSw.cell (p := ⟨b2, o2 + 5, none⟩) hlt2).trans g5; go_simp; try (with_reducible rfl))
          (try dsimp only [List.getElem_toArray, List.getElem_cons_zero, List.getElem_cons_succ]); (try simp only [Act.put, List.setIfInBounds_toArray, List.set_cons_zero, List.set_cons_succ])
          refine wpAnyH_take (i := 18) (oi := _) (v := ?_) rfl (by kernel_rfl) (by kernel_rfl) (by kernel_rfl) (fun _ _ _ h => h) (Or.inl ⟨by rfl, ?_⟩) hHeld ?_
          rotate_left
          · (intro wz hSw; go_simp; try (with_reducible rfl))
          (try dsimp only [List.getElem_toArray, List.getElem_cons_zero, List.getElem_cons_succ]); (try simp only [Act.put, List.setIfInBounds_toArray, List.set_cons_zero, List.set_cons_succ])
          refine wpAnyH_ready (rs := [19]) (by kernel_rfl) (by simp) ?_
          refine AllReadyH.cons (o := _) rfl (fun K hK => ?_) AllReadyH.nil
          go_simp
          refine hK.out _ _ ((hHeld.alloc hHeld.size _)) (fun hH => ?_)
          clear hK K hHeld
          have hHeld := hH
          clear hH
          (try dsimp only [List.getElem_toArray, List.getElem_cons_zero, List.getElem_cons_succ]); (try simp only [Act.put, List.setIfInBounds_toArray, List.set_cons_zero, List.set_cons_succ])
          refine wpAnyH_ready (rs := [20]) (by kernel_rfl) (by simp) ?_
          refine AllReadyH.cons (o := _) rfl (fun K hK => ?_) AllReadyH.nil
          go_simp
          refine hK.out _ _ ((by go_grown)) (fun hH => ?_)
          clear hK K hHeld
          have hHeld := hH
          clear hH
          (try dsimp only [List.getElem_toArray, List.getElem_cons_zero, List.getElem_cons_succ]); (try simp only [Act.put, List.setIfInBounds_toArray, List.set_cons_zero, List.set_cons_succ])
          refine wpAnyH_done (by kernel_rfl) ?_ _
          clear hHeld
          have hba := ((Below.refl w2.heap.size w2).alloc (Nat.le_refl _) (.cells #[.int .i64 x0, .int .i64 x1, .int .i64 x2, .int .i64 x3, .int .i64 x4, .int .i64 x5, .int .i64 9223372036854775807] 55)).drew
          have HY := Lib.hid (Blk.new w2 55 #[.int .i64 x0, .int .i64 x1, .int .i64 x2, .int .i64 x3, .int .i64 x4, .int .i64 x5, .int .i64 9223372036854775807]).drew
          have HD3 := Lib.hid (HD2.out.on hba)
          have k5 := (hba.cell (p := ⟨b2, o2 + 5, none⟩) hlt2).trans g5
          have k6 := (hba.cell (p := ⟨b2, o2 + 6, none⟩) hlt2).trans g6
          have HLt := Lib.hid HD2.out.own.lt
          have HG : Hid (w1.heap.size ≤ w2.heap.size) := Lib.hid HD2.out.below.size
          have hb2n : Hid (¬ b2 = w2.heap.size) := Lib.hid (by omega)
          clear g0 g1 g2 g3 g4 g5 g6 HD2 hba hlt2
          generalize (w2.alloc (.cells #[.int .i64 x0, .int .i64 x1, .int .i64 x2, .int .i64 x3, .int .i64 x4, .int .i64 x5, .int .i64 9223372036854775807] 55)).drew = w3 at *
          generalize w2.heap.size = gb at *
          by_cases hsat : x6 ≤ 9223372036854775807 - x5
          case pos =>
            have hw2 : IntKind.i64.wrap (x5 + x6) = x5 + x6 := by rw [IntKind.wrap_i64]; omega
            have hmm2 : mm = (x0, x1, x2, x3, x4, x5, x5 + x6) := by
              rw [← hmm]
              show ((x0, x1, x2, x3, x4, x5, if x6 ≤ 9223372036854775807 - x5 then x5 + x6 else 9223372036854775807) : Mt) = _
              rw [if_pos hsat]
            clear hmm
            go_wp2
            go_quiet (fail)
            have y6 := HY.out.cell 6
            have z6 := HY.out.frozen 6
            simp only [List.getElem?_toArray, List.getElem?_cons_zero, List.getElem?_cons_succ] at y6
            go_wp2
            go_region
            have ht : Touch w3 ((w3.drewN (nq + 1)).setCell ⟨gb, 6, none⟩ (.int .i64 (x5 + x6))) (fun j => j = gb) := (touch_below (S := fun j => j = gb) (below_drewN (Below.refl w3.heap.size w3) (nq + 1)) (Nat.le_refl _)).set (p := ⟨gb, 6, none⟩) (.inl rfl) _
            have HY4 : Hid (Blk ((w3.drewN (nq + 1)).setCell ⟨gb, 6, none⟩ (.int .i64 (x5 + x6))) gb 55 #[.int .i64 x0, .int .i64 x1, .int .i64 x2, .int .i64 x3, .int .i64 x4, .int .i64 x5, .int .i64 (x5 + x6)]) := Lib.hid (by simpa using (HY.out.drewN (nq + 1)).set_ 6 (.int .i64 (x5 + x6)))
            have HD4 := Lib.hid (DOwn.mk (f := mtc) (l := acc) (owns_touch HD3.out.own ht (fun j hj e => by have := (HLt.out j hj).2; omega)) (HD3.out.below.trans (ht.below (fun j _ e => by rw [e]; exact HG.out) HD3.out.below.size)))
            clear ht y6 z6 k5 k6 HY HD3
            generalize (w3.drewN (nq + 1)).setCell ⟨gb, 6, none⟩ (.int .i64 (x5 + x6)) = w4 at *
            subst hmm2
            have y0 := HY4.out.cell 0; have y1 := HY4.out.cell 1; have y2 := HY4.out.cell 2; have y3 := HY4.out.cell 3; have y4 := HY4.out.cell 4; have y5 := HY4.out.cell 5; have y6 := HY4.out.cell 6
            simp only [List.getElem?_toArray, List.getElem?_cons_zero, List.getElem?_cons_succ] at y0 y1 y2 y3 y4 y5 y6
            go_wp2_with (refine wpList_append_own _ rfl _ _ 37 rfl w1.heap.size 55 i0 (.agg #[.int .i64 0, .int .i64 0, .int .i64 0, .int .i64 0, .int .i64 0, .int .i64 0, .int .i64 0]) 7 56 Try.underlying37 hi hz0 hz1 hz2 rfl (by decide) _ _ _ rfl (HD4.out.own.alloc _) ⟨w4.heap.size, 0, none⟩ 1 1 [.int .i64 x0, .int .i64 x1, .int .i64 x2, .int .i64 x3, .int .i64 x4, .int .i64 x5, .int .i64 (x5 + x6)] rfl rfl ?c1 ?c2 ?c3 ?c4 ?c5 ?_)
            case c1 =>
              intro j u hj
              match j, hj with
              | 0, hj => simp at hj; subst hj; simp [Addr.add]
              | 1, hj => simp at hj; subst hj; simp [Addr.add]
              | 2, hj => simp at hj; subst hj; simp [Addr.add]
              | 3, hj => simp at hj; subst hj; simp [Addr.add]
              | 4, hj => simp at hj; subst hj; simp [Addr.add]
              | 5, hj => simp at hj; subst hj; simp [Addr.add]
              | 6, hj => simp at hj; subst hj; simp [Addr.add]
            case c2 =>
              intro u hu
              simp at hu
              rcases hu with rfl | rfl | rfl | rfl | rfl | rfl | rfl <;> rfl
            case c3 => unfold maxLen; omega
            case c4 => omega
            case c5 => have := HD4.out.below.size; simp only [World.size_alloc]; omega
            · intro v' w5 hown' hgrow _
              have HD5 : Hid (DOwn 55 mtc 7 w1 w5 v' (acc ++ [((x0, x1, x2, x3, x4, x5, (x5 + x6)) : Mt)])) := Lib.hid ((HD4.out.on ((Below.refl _ _).alloc (Nat.le_refl _) _)).add (show k + 1 = acc.length + 1 from by rw [hacc]) hown' hgrow)
              clear hown' hgrow
              go_wp2
              go_roundw
              case rel => exact ⟨k + 1, tq, acc ++ [((x0, x1, x2, x3, x4, x5, (x5 + x6)) : Mt)], by omega, iv (by omega), rfl, HQ2, Lib.hid (by rw [List.length_append, List.length_singleton, hacc]), HD5, HS⟩
              case measure => simp only [intOf]; omega
          case neg =>
            have hmm2 : mm = (x0, x1, x2, x3, x4, x5, 9223372036854775807) := by
              rw [← hmm]
              show ((x0, x1, x2, x3, x4, x5, if x6 ≤ 9223372036854775807 - x5 then x5 + x6 else 9223372036854775807) : Mt) = _
              rw [if_neg hsat]
            go_wp2
            go_quiet (fail)
            have HY4 := Lib.hid (HY.out.drewN nq)
            have HD4 := Lib.hid (HD3.out.on (below_drewN (Below.refl _ _) nq))
            clear k5 k6 HY HD3 hmm
            generalize w3.drewN nq = w4 at *
            subst hmm2
            have y0 := HY4.out.cell 0; have y1 := HY4.out.cell 1; have y2 := HY4.out.cell 2; have y3 := HY4.out.cell 3; have y4 := HY4.out.cell 4; have y5 := HY4.out.cell 5; have y6 := HY4.out.cell 6
            simp only [List.getElem?_toArray, List.getElem?_cons_zero, List.getElem?_cons_succ] at y0 y1 y2 y3 y4 y5 y6
            go_wp2_with (refine wpList_append_own _ rfl _ _ 37 rfl w1.heap.size 55 i0 (.agg #[.int .i64 0, .int .i64 0, .int .i64 0, .int .i64 0, .int .i64 0, .int .i64 0, .int .i64 0]) 7 56 Try.underlying37 hi hz0 hz1 hz2 rfl (by decide) _ _ _ rfl (HD4.out.own.alloc _) ⟨w4.heap.size, 0, none⟩ 1 1 [.int .i64 x0, .int .i64 x1, .int .i64 x2, .int .i64 x3, .int .i64 x4, .int .i64 x5, .int .i64 9223372036854775807] rfl rfl ?c1 ?c2 ?c3 ?c4 ?c5 ?_)
            case c1 =>
              intro j u hj
              match j, hj with
              | 0, hj => simp at hj; subst hj; simp [Addr.add]
              | 1, hj => simp at hj; subst hj; simp [Addr.add]
              | 2, hj => simp at hj; subst hj; simp [Addr.add]
              | 3, hj => simp at hj; subst hj; simp [Addr.add]
              | 4, hj => simp at hj; subst hj; simp [Addr.add]
              | 5, hj => simp at hj; subst hj; simp [Addr.add]
              | 6, hj => simp at hj; subst hj; simp [Addr.add]
            case c2 =>
              intro u hu
              simp at hu
              rcases hu with rfl | rfl | rfl | rfl | rfl | rfl | rfl <;> rfl
            case c3 => unfold maxLen; omega
            case c4 => omega
            case c5 => have := HD4.out.below.size; simp only [World.size_alloc]; omega
            · intro v' w5 hown' hgrow _
              have HD5 : Hid (DOwn 55 mtc 7 w1 w5 v' (acc ++ [((x0, x1, x2, x3, x4, x5, 9223372036854775807) : Mt)])) := Lib.hid ((HD4.out.on ((Below.refl _ _).alloc (Nat.le_refl _) _)).add (show k + 1 = acc.length + 1 from by rw [hacc]) hown' hgrow)
              clear hown' hgrow
              go_wp2
              go_roundw
              case rel => exact ⟨k + 1, tq, acc ++ [((x0, x1, x2, x3, x4, x5, 9223372036854775807) : Mt)], by omega, iv (by omega), rfl, HQ2, Lib.hid (by rw [List.length_append, List.length_singleton, hacc]), HD5, HS⟩
              case measure => simp only [intOf]; omega
    case neg =>
      obtain rfl : k = n := by omega
      have hz : ¬ (k : Int) < (k : Int) := by omega
      have hend : r = (acc, q, 0) := by rw [← Hg.out, Nat.sub_self]; rfl
      have HEnd : Hid (hfend s r = if q < s.length then ([], 6) else if hrow acc = true then (acc, 0) else ([], 211)) := Lib.hid (by rw [hend]; rfl)
      obtain ⟨A, c, hv, hc, hrd⟩ := owns_cells HD.out.own
      subst hv
      have PB2 := PB.out acc A c
      have hal : acc.length ≤ 1000000 := by have := Hacc.out; omega
      have HRd := Lib.hid hrd
      have HBw := Lib.hid (HB.out.trans (HD.out.below.mono HB.out.size))
      unfold hblkF at PB2
      clear HQ HR PG PB HP0 Hg hend hrd HD Hacc r0
      by_cases hq : q < s.length
      case pos =>
        go_wp2
        go_ret2
        rw [HEnd.out, if_pos hq]
        unfold HMP
        exact ⟨none, 0, rfl, Nat.le_refl _, Reads.none_, HBw.out⟩
      case neg =>
        by_cases hrw : hrow acc = true
        case pos =>
          rw [if_pos hrw] at PB2
          have PBh := Lib.hid (PB2 wr hal HRd.out)
          clear PB2 hal
          go_wp2_with (first | (go_at_call 21; (with_reducible refine PBh.out.mono ?_); rintro e w5 ⟨rfl, hb5⟩; replace HRd := Lib.hid (dReads_on HRd.out hb5); replace HBw := Lib.hid (HBw.out.trans (hb5.mono HBw.out.size)); clear hb5 PBh) | fail)
          go_ret2
          rw [HEnd.out, if_neg (show ¬ q < (s.length : Int) by omega), if_pos hrw]
          unfold HMP
          exact ⟨A, c, rfl, hc, HRd.out, HBw.out⟩
        case neg =>
          rw [if_neg hrw] at PB2
          have PBh := Lib.hid (PB2 wr hal HRd.out)
          clear PB2 hal
          go_wp2_with (first | (go_at_call 21; (with_reducible refine PBh.out.mono ?_); rintro e w5 ⟨rfl, hb5⟩; replace HBw := Lib.hid (HBw.out.trans (hb5.mono HBw.out.size)); clear hb5 PBh) | fail)
          go_ret2
          rw [HEnd.out, if_neg (show ¬ q < (s.length : Int) by omega), if_neg hrw]
          unfold HMP
          exact ⟨none, 0, rfl, Nat.le_refl _, Reads.none_, HBw.out⟩
theorem href_gf_any (s : List UInt8) (w : World) (hs : s.length ≤ 1000000) : Calls Try.prog 17 #[.string ⟨s.toArray⟩] w fun e w' => HMP w w' e (hgfF s) := by
  unfold hgfF
  by_cases h1 : (getF s 0).2.2 ≠ 0
  · rw [if_pos h1]
    exact href_gf_a s w hs h1
  rw [if_neg h1]
  have h0 : (getF s 0).2.2 = 0 := by simpa using h1
  have hg : getF s 0 = ((getF s 0).1, (getF s 0).2.1, 0) := Prod.ext rfl (Prod.ext rfl h0)
  obtain ⟨-, -, a3, -⟩ := rnum_ok h0
  by_cases h2 : 1000 < (getF s 0).1
  · rw [if_pos h2]
    exact href_gf_b s w hs _ _ hg h2
  rw [if_neg h2]
  obtain ⟨n, hn⟩ := Int.eq_ofNat_of_zero_le a3
  rw [hn] at hg h2 ⊢
  rw [Int.toNat_natCast]
  exact href_gf_c s w hs n _ hg (by omega)
end Go.Proofs.Ytjodckinfoldgaa
