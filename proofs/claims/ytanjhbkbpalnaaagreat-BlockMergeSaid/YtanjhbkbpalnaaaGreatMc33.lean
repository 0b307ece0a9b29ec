/-
 What the law of the last of these texts stands on, part 33.
-/
import Derived.Test.YtanjhbkbpalnaaaGreatMc31
import Derived.RegionTactic
import Derived.ChangeAlike
set_option maxRecDepth 100000
set_option maxHeartbeats 8000000
open Go.Proofs.Tryz
namespace Go.Proofs.YtanjhbkbpalnaaaGreat
set_option linter.unusedSimpArgs false
set_option linter.unusedVariables false
open Go.ChangeShapes Go.WideShapes Go.ChangeAt Go.RowKit Go.Joins Go.Deep
def yaI (w w' : World) (e : Ending) (F : List UInt8 × Int) : Prop := e = .returned (.tuple #[.string ⟨F.1.toArray⟩, .int .i64 F.2]) ∧ Below w.heap.size w w'
theorem biF_ok {l : List UInt8} {r : Nat} (h : ¬ 20000 < l.length) (k : ¬ bbad l (r : Int)) (ho : bok l r = true) : biF l (r : Int) = (bout (bcol l r) l.length, 0) := by unfold biF; rw [qag h, qag k, qav, qah ho]
theorem biF_cyc {l : List UInt8} {r : Nat} (h : ¬ 20000 < l.length) (k : ¬ bbad l (r : Int)) (ho : ¬ bok l r = true) : biF l (r : Int) = ([], 130) := by unfold biF; rw [qag h, qag k, qav, qag ho]
theorem bstep_at (l : List UInt8) (r : Nat) (h : r ≤ l.length) (k : Nat) (hne : bro (bcol l r) k ≠ r) : ∃ (x y : Nat) (b : UInt8) (h1 : x < (bcol l r).length) (h2 : x < (splc ((List.range (l.length + 1)).map (brk (bcol l r)))).length),
  bro (bcol l r) k = x ∧ bro (bcol l r) (k + 1) = y ∧ (bcol l r)[x] = (b.toNat : Int) ∧ (splc ((List.range (l.length + 1)).map (brk (bcol l r))))[x] = (y : Int) ∧ bout (bcol l r) (k + 1) = b :: bout (bcol l r) k ∧ x < l.length + 1 ∧ y < l.length + 1 := by
 have hc := ybx l r h
 have h1 := ygg (bcol l r) (by omega) k
 have h2 := ygg (bcol l r) (by omega) (k + 1)
 obtain ⟨b, hb⟩ := bcol_byte l r _ h (by omega) hne
 refine ⟨bro (bcol l r) k, bro (bcol l r) (k + 1), b, h1, by rw [yaq, qaM, qaC]; omega, rfl, rfl, ?_, ?_, ?_, by omega, by omega⟩
 ·rw [qar, qaj h1] at hb
  exact hb
 ·rw [yfF, qaY, qbp]
  rfl
 ·show bch _ :: _ = _
  rw [hb, bch_nat]
theorem yc6 (l : List Rc) (A : Option Addr) (n c : Nat) (raw : Int) (w : World) (hl : l.length = n) (hn : n ≤ 1000000) (h0 : 0 < n) (hr : Reads w w.heap.size 3 A n (rcs l)) :
  Calls prog 48 #[.slice A n c, .int .i64 raw] w fun e w' => e = .returned (.agg (omc (raw, (n : Int), (yad l).1, (yad l).2.1, (ya9 l).2.1))) ∧ Below w.heap.size w w' := by
 obtain ⟨p, hp⟩ : ∃ p, p + 1 = n := ⟨n - 1, by omega⟩
 obtain ⟨b, off, rfl, hb, hcell⟩ := yby hr hl 0 h0
 obtain ⟨d0, d1, d2⟩ := hcell 0 (by omega)
 obtain ⟨q0, q1, q2⟩ := hcell p (by omega)
 have e1 : yad l = l[0] := ygP (by omega)
 have e2 : ya9 l = l[p] := by rw [olast_at (by omega)]; congr 1; omega
 rw [e1, e2]
 have hsub : (n : Int) - 1 = (p : Int) := by omega
 have hsub1 : IntKind.i64.wrap ((n : Int) - 1) = (p : Int) := by rw [qai]; omega
 have hpi : (0 : Int) ≤ (p : Int) ∧ (p : Int) < (n : Int) := by omega
 have h0i : (0 : Int) < (n : Int) := by omega
 clear hr hcell e1 e2
 rw [qcB, qb0] at d0 d1 d2
 generalize l[0].1 = x at *
 generalize l[0].2.1 = y at *
 generalize l[0].2.2 = d at *
 generalize l[p].1 = x' at *
 generalize l[p].2.1 = y' at *
 generalize l[p].2.2 = d' at *
 have hpn : p < n := by omega
 have hpw : IntKind.i64.wrap (p : Int) = (p : Int) := by rw [qai]; omega
 clear hl hp
 have HB0 := qaa ((qam w.heap.size w).alloc (qaf _) (.cells #[.int .i64 0, .int .i64 0, .int .i64 0, .int .i64 0, .int .i64 0, .int .i64 0, .int .i64 0] 45))
 go_enter func48, ntmps48
 go_wp2
 -- REG
 refine qbC (S := (fun W => Below w.heap.size w W)) (by kernel_rfl) (HB0.out.drew) (fun hHeld => ?_)
 refine qal (i := 0) (oi := _) (v := ?_) rfl (by kernel_rfl) (by kernel_rfl) (by kernel_rfl) (fun _ _ _ h => h) (qas ⟨by rfl, ?_⟩) hHeld ?_
 rotate_left
 ·(intro wz hSw; go_simp; try (with_reducible rfl))
 (try dsimp only [List.getElem_toArray, List.getElem_cons_zero, List.getElem_cons_succ]); (try simp only [Act.put, qab, qad, qac])
 refine qal (i := 1) (oi := _) (v := ?_) rfl (by kernel_rfl) (by kernel_rfl) (by kernel_rfl) (fun _ _ _ h => h) (qas ⟨by rfl, ?_⟩) hHeld ?_
 rotate_left
 ·(intro wz hSw; go_simp; try (with_reducible rfl))
 (try dsimp only [List.getElem_toArray, List.getElem_cons_zero, List.getElem_cons_succ]); (try simp only [Act.put, qab, qad, qac])
 refine qal (i := 2) (oi := _) (v := ?_) rfl (by kernel_rfl) (by kernel_rfl) (by kernel_rfl) (fun _ _ _ h => h) (qas ⟨by rfl, ?_⟩) hHeld ?_
 rotate_left
 ·(intro wz hSw; have k0 := (hSw.cell (p := ⟨b, off, none⟩) hb).trans d0; have k1 := (hSw.cell (p := ⟨b, off + 1, none⟩) hb).trans d1; have k2 := (hSw.cell (p := ⟨b, off + 2, none⟩) hb).trans d2; go_simp; try (with_reducible rfl))
 (try dsimp only [List.getElem_toArray, List.getElem_cons_zero, List.getElem_cons_succ]); (try simp only [Act.put, qab, qad, qac])
 refine qal (i := 3) (oi := _) (v := ?_) rfl (by kernel_rfl) (by kernel_rfl) (by kernel_rfl) (fun _ _ _ h => h) (qas ⟨by rfl, ?_⟩) hHeld ?_
 rotate_left
 ·(intro wz hSw; go_simp; try (with_reducible rfl))
 (try dsimp only [List.getElem_toArray, List.getElem_cons_zero, List.getElem_cons_succ]); (try simp only [Act.put, qab, qad, qac])
 refine qal (i := 4) (oi := _) (v := ?_) rfl (by kernel_rfl) (by kernel_rfl) (by kernel_rfl) (fun _ _ _ h => h) (qas ⟨by rfl, ?_⟩) hHeld ?_
 rotate_left
 ·(intro wz hSw; go_simp; try (with_reducible rfl))
 (try dsimp only [List.getElem_toArray, List.getElem_cons_zero, List.getElem_cons_succ]); (try simp only [Act.put, qab, qad, qac])
 refine qal (i := 5) (oi := _) (v := ?_) rfl (by kernel_rfl) (by kernel_rfl) (by kernel_rfl) (fun _ _ _ h => h) (qas ⟨by rfl, ?_⟩) hHeld ?_
 rotate_left
 ·(intro wz hSw; go_simp; try (with_reducible rfl))
 (try dsimp only [List.getElem_toArray, List.getElem_cons_zero, List.getElem_cons_succ]); (try simp only [Act.put, qab, qad, qac])
 refine qal (i := 6) (oi := _) (v := ?_) rfl (by kernel_rfl) (by kernel_rfl) (by kernel_rfl) (fun _ _ _ h => h) (qas ⟨by rfl, ?_⟩) hHeld ?_
 rotate_left
 ·(intro wz hSw; go_simp; try (with_reducible rfl))
 (try dsimp only [List.getElem_toArray, List.getElem_cons_zero, List.getElem_cons_succ]); (try simp only [Act.put, qab, qad, qac])
 refine qal (i := 7) (oi := _) (v := ?_) rfl (by kernel_rfl) (by kernel_rfl) (by kernel_rfl) (fun _ _ _ h => h) (qas ⟨by rfl, ?_⟩) hHeld ?_
 rotate_left
 ·(intro wz hSw; go_simp; try (with_reducible rfl))
 (try dsimp only [List.getElem_toArray, List.getElem_cons_zero, List.getElem_cons_succ]); (try simp only [Act.put, qab, qad, qac])
 refine qal (i := 8) (oi := _) (v := ?_) rfl (by kernel_rfl) (by kernel_rfl) (by kernel_rfl) (fun _ _ _ h => h) (qas ⟨by rfl, ?_⟩) hHeld ?_
 rotate_left
 ·(intro wz hSw; have k0 := (hSw.cell (p := ⟨b, off + p * 3, none⟩) hb).trans q0; have k1 := (hSw.cell (p := ⟨b, off + p * 3 + 1, none⟩) hb).trans q1; have k2 := (hSw.cell (p := ⟨b, off + p * 3 + 2, none⟩) hb).trans q2; go_simp; try (with_reducible rfl))
 (try dsimp only [List.getElem_toArray, List.getElem_cons_zero, List.getElem_cons_succ]); (try simp only [Act.put, qab, qad, qac])
 refine qaF (rs := [9, 10]) (by kernel_rfl) (by simp) ?_
 refine qa1 (o := _) rfl (fun K hK => ?_) ?_
 ·skip
  go_simp
  refine hK.out _ _ (by first | exact (HB0.out.alloc HB0.out.size _).drew | exact ((HB0.out.alloc HB0.out.size _).alloc (HB0.out.alloc HB0.out.size _).size _).drew) (fun hH => ?_)
  clear hK K hHeld
  have hHeld := hH
  clear hH
  (try dsimp only [List.getElem_toArray, List.getElem_cons_zero, List.getElem_cons_succ]); (try simp only [Act.put, qab, qad, qac])
  refine qaF (rs := [10]) (by kernel_rfl) (by simp) ?_
  refine qa1 (o := _) rfl (fun K hK => ?_) qa9
  go_simp
  refine hK.out _ _ (by first | exact (HB0.out.alloc HB0.out.size _).drew | exact ((HB0.out.alloc HB0.out.size _).alloc (HB0.out.alloc HB0.out.size _).size _).drew) (fun hH => ?_)
  clear hK K hHeld
  have hHeld := hH
  clear hH
  (try dsimp only [List.getElem_toArray, List.getElem_cons_zero, List.getElem_cons_succ]); (try simp only [Act.put, qab, qad, qac])
  refine qaF (rs := [11]) (by kernel_rfl) (by simp) ?_
  refine qa1 (o := _) rfl (fun K hK => ?_) qa9
  go_simp
  refine hK.out _ _ (by first | exact (HB0.out.alloc HB0.out.size _).drew | exact ((HB0.out.alloc HB0.out.size _).alloc (HB0.out.alloc HB0.out.size _).size _).drew) (fun hH => ?_)
  clear hK K hHeld
  have hHeld := hH
  clear hH
  (try dsimp only [List.getElem_toArray, List.getElem_cons_zero, List.getElem_cons_succ]); (try simp only [Act.put, qab, qad, qac])
  refine qaF (rs := [12]) (by kernel_rfl) (by simp) ?_
  refine qa1 (o := _) rfl (fun K hK => ?_) qa9
  go_simp
  refine hK.out _ _ (by first | exact (HB0.out.alloc HB0.out.size _).drew | exact ((HB0.out.alloc HB0.out.size _).alloc (HB0.out.alloc HB0.out.size _).size _).drew) (fun hH => ?_)
  clear hK K hHeld
  have hHeld := hH
  clear hH
  (try dsimp only [List.getElem_toArray, List.getElem_cons_zero, List.getElem_cons_succ]); (try simp only [Act.put, qab, qad, qac])
  refine qbP (by kernel_rfl) ?_ _
  clear hHeld
  go_wp2
  refine qaN (v := .agg (omc (raw, (n : Int), x, y, y'))) (by simp [results, results48, go_sem]) rfl ⟨rfl, by go_grown⟩
 refine qa1 (o := _) rfl (fun K hK => ?_) qa9
 go_simp
 refine hK.out _ _ (by first | exact (HB0.out.alloc HB0.out.size _).drew | exact ((HB0.out.alloc HB0.out.size _).alloc (HB0.out.alloc HB0.out.size _).size _).drew) (fun hH => ?_)
 clear hK K hHeld
 have hHeld := hH
 clear hH
 (try dsimp only [List.getElem_toArray, List.getElem_cons_zero, List.getElem_cons_succ]); (try simp only [Act.put, qab, qad, qac])
 refine qaF (rs := [9]) (by kernel_rfl) (by simp) ?_
 refine qa1 (o := _) rfl (fun K hK => ?_) qa9
 go_simp
 refine hK.out _ _ (by first | exact (HB0.out.alloc HB0.out.size _).drew | exact ((HB0.out.alloc HB0.out.size _).alloc (HB0.out.alloc HB0.out.size _).size _).drew) (fun hH => ?_)
 clear hK K hHeld
 have hHeld := hH
 clear hH
 (try dsimp only [List.getElem_toArray, List.getElem_cons_zero, List.getElem_cons_succ]); (try simp only [Act.put, qab, qad, qac])
 refine qaF (rs := [11]) (by kernel_rfl) (by simp) ?_
 refine qa1 (o := _) rfl (fun K hK => ?_) qa9
 go_simp
 refine hK.out _ _ (by first | exact (HB0.out.alloc HB0.out.size _).drew | exact ((HB0.out.alloc HB0.out.size _).alloc (HB0.out.alloc HB0.out.size _).size _).drew) (fun hH => ?_)
 clear hK K hHeld
 have hHeld := hH
 clear hH
 (try dsimp only [List.getElem_toArray, List.getElem_cons_zero, List.getElem_cons_succ]); (try simp only [Act.put, qab, qad, qac])
 refine qaF (rs := [12]) (by kernel_rfl) (by simp) ?_
 refine qa1 (o := _) rfl (fun K hK => ?_) qa9
 go_simp
 refine hK.out _ _ (by first | exact (HB0.out.alloc HB0.out.size _).drew | exact ((HB0.out.alloc HB0.out.size _).alloc (HB0.out.alloc HB0.out.size _).size _).drew) (fun hH => ?_)
 clear hK K hHeld
 have hHeld := hH
 clear hH
 (try dsimp only [List.getElem_toArray, List.getElem_cons_zero, List.getElem_cons_succ]); (try simp only [Act.put, qab, qad, qac])
 refine qbP (by kernel_rfl) ?_ _
 clear hHeld
 go_wp2
 refine qaN (v := .agg (omc (raw, (n : Int), x, y, y'))) (by simp [results, results48, go_sem]) rfl ⟨rfl, by go_grown⟩
 -- END REG
theorem bok_late (l : List UInt8) (r : Nat) (h : r ≤ l.length) (hn : ∀ k, k < l.length → bro (bcol l r) k ≠ r) : bok l r = true := by
 rw [bok_iff]
 refine ⟨hn, ?_⟩
 have hp := (bro_perm l r h hn).mem_iff (a := r)
 obtain ⟨k, hk, e⟩ := qbI.1 (hp.2 (qaU.2 (by omega)))
 rw [qaU] at hk
 by_cases h2 : k < l.length
 ·exact absurd e (hn k h2)
 ·rw [show l.length = k from by omega]
  exact e
theorem bstep_last (l : List UInt8) (r : Nat) (h : r ≤ l.length) (k : Nat) (hne : bro (bcol l r) k ≠ r) : ∃ (x y j : Nat) (b : UInt8) (h2 : x < (splc ((List.range (l.length + 1)).map (brk (bcol l r)))).length) (hj : j < l.length),
  bro (bcol l r) k = x ∧ bro (bcol l r) (k + 1) = y ∧ l[j] = b ∧ ((x < r ∧ x = j) ∨ (r < x ∧ x = j + 1)) ∧ (splc ((List.range (l.length + 1)).map (brk (bcol l r))))[x] = (y : Int) ∧ bout (bcol l r) (k + 1) = b :: bout (bcol l r) k ∧ x < l.length + 1 ∧ y < l.length + 1 := by
 obtain ⟨x, y, b, h1, h2, e1, e2, e3, e4, e5, hx, hy⟩ := bstep_at l r h k hne
 have e6 : (bcol l r).getD x 0 = (b.toNat : Int) := by
  rw [qar, qaj h1]
  exact e3
 rw [e1] at hne
 have hj : ∀ j (hj : j < l.length), (bcol l r).getD x 0 = ((l.getD j 0).toNat : Int) → l[j] = b := fun j hj e => by
  rw [e6, qar, qaj hj, qbW] at e
  exact UInt8.toNat_inj.1 (by omega)
 by_cases hlt : x < r
 ·exact ⟨x, y, x, b, h2, by omega, e1, e2, hj x (by omega) (yfM l r x h hlt), qas ⟨hlt, rfl⟩, e4, e5, hx, hy⟩
 ·exact ⟨x, y, x - 1, b, h2, by omega, e1, e2, hj (x - 1) (by omega) (yel l r x h (by omega) hx), qaK ⟨by omega, by omega⟩, e4, e5, hx, hy⟩
theorem btx_set (q : Nat) (L : List UInt8) (b : UInt8) : (bc (List.replicate (q + 1) 0 ++ L)).setIfInBounds q (.int .u8 (b.toNat : Int)) = bc (List.replicate q 0 ++ b :: L) := by
 have h := bc_set (List.replicate q 0) L 0 b
 rw [qaE] at h
 rw [← h, qcz, qak]
 rfl
theorem btx_get (q : Nat) (L : List UInt8) : (bc (List.replicate (q + 1) 0 ++ L))[q]? = some (.int .u8 0) := by
 rw [bc_get, qbV (by rw [qaE]; omega), List.getElem?_replicate]
 simp
theorem p_binverse_no (l : List UInt8) (r : Int) (w : World) (hs : l.length ≤ 1000000) (h : bck l r ≠ 0) :
  Calls prog 93 #[.string ⟨l.toArray⟩, .int .i64 r] w fun e w' => yaI w w' e (biF l r) := by
 have hp := yfp l r w hs
 unfold LPost at hp
 rw [(bck_no h).1] at hp
 rw [(bck_no h).2.1]
 dsimp only at hp
 have Hp := qaa hp
 clear hp
 obtain ⟨E, hE⟩ : ∃ E, bck l r = E := ⟨_, rfl⟩
 rw [hE] at h Hp ⊢
 have d1 : (E != 0) = true := by simpa using h
 clear hE
 go_enter func93, ntmps93
 go_wp2_with (go_at_call 136; refine Hp.out.mono ?_; rintro e w1 ⟨A1, c1, rfl, _, _, hb1⟩)
 go_ret2
 exact ⟨rfl, hb1⟩
theorem p_binverse_yes (l : List UInt8) (r : Nat) (w : World) (hs : l.length ≤ 20000) (hg : ¬ bbad l (r : Int)) :
  Calls prog 93 #[.string ⟨l.toArray⟩, .int .i64 (r : Int)] w fun e w' => yaI w w' e (biF l (r : Int)) := by
 have hp := yfp l (r : Int) w (by omega)
 rw [bsF_yes (by omega) hg] at hp
 unfold LPost at hp
 dsimp only at hp
 obtain ⟨r2, e2, hr, _⟩ := bgood hg
 obtain rfl : r = r2 := by omega
 clear e2
 have hn : (splc ((List.range (l.length + 1)).map (brk (bcol l r)))).length = l.length + 1 := by rw [yaq, qaM, qaC]
 rw [hn] at hp
 have Hst := qaa (bstep_last l r hr)
 have Hla := qaa fun x j b hj hx hb W => yfk l r x j b W (by omega) hj hr hx hb
 have Hok : Hid ((∀ j, j < l.length → bro (bcol l r) j ≠ r) → biF l (r : Int) = (bout (bcol l r) l.length, 0)) := qaa fun h2 => biF_ok (by omega) hg (bok_late l r hr h2)
 have Hno : Hid (∀ k, k < l.length → bro (bcol l r) k = r → biF l (r : Int) = ([], 130)) := qaa fun k hk h1 => biF_cyc (by omega) hg fun h2 => ((bok_iff l r).1 h2).1 k hk h1
 have H0 : Hid (bro (bcol l r) 0 = 0 ∧ bout (bcol l r) 0 = []) := qaa ⟨rfl, rfl⟩
 have Hol := qaa (bout_len (bcol l r))
 have hn0 : 0 < l.length + 1 := by omega
 have hri : (r : Int) ≤ (l.length : Int) ∧ (0 : Int) ≤ (r : Int) ∧ (l.length : Int) ≤ 20000 := by omega
 have Hp := qaa hp
 have hmk := fun w => mk_bytes (l.length : Int) l.length rfl (by omega) w
 rw [show List.replicate l.length (0 : UInt8) = List.replicate l.length 0 ++ bout (bcol l r) 0 from (qa8 _).symm] at hmk
 clear hp hn hg
 generalize splc ((List.range (l.length + 1)).map (brk (bcol l r))) = S at *
 generalize bcol l r = C at *
 generalize biF l (r : Int) = F at *
 obtain ⟨T0, hT0⟩ : ∃ T0, bc (List.replicate l.length 0 ++ bout C 0) = T0 := ⟨_, rfl⟩
 rw [hT0] at hmk
 have HT0 := qaa hT0
 clear hT0
 go_enter func93, ntmps93
 go_wp2_with (go_at_call 136; refine Hp.out.mono ?_; rintro e w1 ⟨A1, c1, rfl, _, hr1, hb1⟩; obtain ⟨bA, oA, rfl, hbA, hcA⟩ := gcells_at hr1 hn0; have HcA := qaa hcA; have HN := qaa (Blk.new w1 5 T0); have HB0 := qaa ((qam w1.heap.size w1).alloc (qaf _) (.cells T0 5)); have Hb := qaa hb1; clear hb1 hr1 hbA hcA Hp; obtain ⟨g, hg1⟩ : ∃ g, w1.heap.size = g := ⟨_, rfl⟩; rw [hg1] at HcA HB0 HN; have Hg1 := qaa hg1; simp only [hg1])
 clear hmk
 go_loopw [9, 10] (fun rv av wr => ∃ (k x m : Nat) (L : List UInt8), k + m = l.length ∧ av = .int .i64 ((m : Int) - 1) ∧ rv = .int .i64 (x : Int) ∧ Hid (bro C k = x ∧ bout C k = L ∧ ∀ j, j < k → bro C j ≠ r) ∧ Hid (Blk wr g 5 (bc (List.replicate m 0 ++ L))) ∧ Hid (Below g w1 wr)) (fun _ av _ => (intOf av + 1).toNat)
 case atStart => exact ⟨0, 0, l.length, [], by omega, rfl, rfl, qaa ⟨H0.out.1, H0.out.2, fun j hj => absurd hj (Nat.not_lt_zero _)⟩, qaa (by rw [← H0.out.2, HT0.out]; exact HN.out), HB0⟩
 case round =>
  obtain ⟨k, x, m, L, hk, rfl, rfl, HK, HB, HO⟩ := hrel
  clear HN HB0
  have Hfin : Hid (Below w.heap.size w wr) := qaa (Hb.out.trans (HO.out.mono (by rw [← Hg1.out]; exact Hb.out.size)))
  cases m with
  | zero =>
   obtain rfl : k = l.length := by omega
   have hF := Hok.out HK.out.2.2
   have hll : L.length = l.length := by rw [← HK.out.2.1]; exact Hol.out _
   rw [HK.out.2.1] at hF
   subst hF
   have hcv := str_blk wr g l.length l.length 5 L hll HB.out
   go_wp2
   go_ret2
   exact ⟨rfl, Hfin.out⟩
  | succ q =>
   have hqi : (0 : Int) ≤ (q : Int) ∧ (q : Int) < (l.length : Int) := by omega
   by_cases hx : x = r
   ·have hF := Hno.out k (by omega) (by rw [HK.out.1]; exact hx)
    subst hF
    have d1 : ((x : Int) == (r : Int)) = true := by rw [hx]; simp
    have d2 : (x == r) = true := by rw [hx]; simp
    clear hx
    go_wp2
    go_ret2
    exact ⟨rfl, Hfin.out⟩
   ·have d1 : ((x : Int) == (r : Int)) = false := by rw [qbx]; omega
    have d2 : (x == r) = false := by rw [qbx]; omega
    obtain ⟨x2, y, j, b, h2, hj, e1, e2, e3, e4, e5, e6, hx2, hy2⟩ := Hst.out k (by rw [HK.out.1]; exact hx)
    have exx : x2 = x := by rw [← e1]; exact HK.out.1
    subst exx
    have HK2 : Hid (bro C (k + 1) = y ∧ bout C (k + 1) = b :: L ∧ ∀ j, j < k + 1 → bro C j ≠ r) := qaa ⟨e2, by rw [e6, HK.out.2.1], fun j hj => by
     by_cases e : j = k
     ·rw [e, HK.out.1]; exact hx
     ·exact HK.out.2.2 j (by omega)⟩
    have HL := qaa fun W => Hla.out x2 j b hj e4 e3 W
    have x3 := HB.out.cell q
    rw [btx_get] at x3
    have x4 := HB.out.frozen q
    have x5 := HB.out.lt
    have HB2 := qaa (HB.out.set_ q (.int .u8 (b.toNat : Int)))
    rw [btx_set] at HB2
    have HO2 := qaa (HO.out.setCell (p := ⟨g, q, none⟩) (qaf _) (.int .u8 (b.toNat : Int)))
    have x6 := HcA.out _ HO2.out x2 h2
    rw [e5] at x6
    have hxi : (0 : Int) ≤ (x2 : Int) ∧ (x2 : Int) < (l.length : Int) + 1 := by omega
    clear e1 e2 e3 e4 e5 e6 h2 hj hx HK hx2 hy2 Hst Hla HB
    go_wp2_with (go_at_call 137; refine (HL.out _).mono ?_; rintro e wr ⟨rfl, rfl⟩)
    go_roundw
    case rel => exact ⟨k + 1, y, q, b :: L, by omega, rfl, rfl, HK2, HB2, HO2⟩
    case measure => simp only [intOf]; omega
theorem p_binverse_any (l : List UInt8) (r : Int) (w : World) (hs : l.length ≤ 1000000) :
  Calls prog 93 #[.string ⟨l.toArray⟩, .int .i64 r] w fun e w' => yaI w w' e (biF l r) := by
 by_cases h : bck l r = 0
 ·obtain ⟨h1, h2⟩ := bck_zero h
  obtain ⟨k, rfl, _⟩ := bgood h2
  exact p_binverse_yes l k w (by omega) h2
 ·exact p_binverse_no l r w hs h
end Go.Proofs.YtanjhbkbpalnaaaGreat
