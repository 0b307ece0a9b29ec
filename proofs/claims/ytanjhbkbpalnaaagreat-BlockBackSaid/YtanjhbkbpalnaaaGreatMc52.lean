/-
 Records come back of their block, and what is known of it is so of them; the layer's probe holds (BlockBack). No condition.
-/
import Derived.Test.YtanjhbkbpalnaaaGreatMc02
import Derived.Test.YtanjhbkbpalnaaaGreatMc51
set_option maxRecDepth 100000
set_option maxHeartbeats 8000000
open Go.Proofs.Tryz
namespace Go.Proofs.YtanjhbkbpalnaaaGreat
set_option linter.unusedSimpArgs false
set_option linter.unusedVariables false
open Go.ChangeShapes Go.WideShapes Go.ChangeAt Go.RowKit Go.Joins Go.Deep
theorem ospan_size (a b m : Int) (w : World) (h1 : 1 ≤ a) (h2 : a ≤ b) (h3 : b ≤ 2000000000) (h4 : b - a + 1 = m) : Calls prog 31 #[.agg #[.int .i64 a, .int .i64 b]] w fun e w' => e = .returned (.int .i64 m) ∧ Below w.heap.size w w' := by
 subst h4
 have k1 : ¬ b < a := by omega
 have k2 : ¬ a < 1 := by omega
 go_enter func31, ntmps31
 go_wp2
 go_ret
 exact ⟨rfl, by go_grown⟩
theorem ohas_yes (lo hi n : Int) (w : World) (h1 : lo ≤ n) (h2 : n ≤ hi) : Calls prog 28 #[.agg #[.int .i64 lo, .int .i64 hi], .int .i64 n] w fun e w' => e = .returned (.bool true) ∧ Below w.heap.size w w' := by
 have := has_any lo hi n w
 rwa [qaP h1, qaP h2] at this
theorem blockBack_far (l : List Rc) (A : Option Addr) (n c : Nat) (hl : l.length = n) (w : World) (h : fewF l = false) (hr : Reads w w.heap.size 3 A n (rcs l)) :
  Calls prog 8 #[.slice A n c] w fun e w' => e = .returned (.bool true) ∧ Below w.heap.size w w' := by
 have Hb := qaa (qam w.heap.size w)
 have hf := ybn l A n c w hl hr
 rw [h] at hf
 replace hf := qaa hf
 go_enter func8, ntmps8
 go_wp2_with (first
  | (go_at_call 19; (with_reducible refine hf.out.mono ?_); rintro e w0 ⟨rfl, hw0⟩; obtain rfl := hw0.symm; clear hf hw0)
  | (go_at_call 21; refine (yam _).mono ?_; rintro e w9 ⟨rfl, hb9⟩; replace Hb := qaa (Hb.out.trans (hb9.mono Hb.out.size)); clear hb9))
 go_ret
 exact ⟨rfl, Hb.out⟩
theorem blockBack_no (l : List Rc) (A : Option Addr) (n c : Nat) (hl : l.length = n) (w : World) (h : fewF l = true) (hE : (yaj l).2 ≠ 0) (hr : Reads w w.heap.size 3 A n (rcs l)) :
  Calls prog 8 #[.slice A n c] w fun e w' => e = .returned (.bool true) ∧ Below w.heap.size w w' := by
 have Hb := qaa (qam w.heap.size w)
 have hf := ybn l A n c w hl hr
 rw [h] at hf
 replace hf := qaa hf
 have hn : n ≤ 1000000 := by have := yce h; omega
 have P1 := fun W (hb : Below w.heap.size w W) => yal l A n c W hl hn ((hr.below hb).more hb.size)
 unfold yaI at P1
 rw [oenc_none hE] at P1
 replace P1 := qaa P1
 clear hr hl hn h
 generalize (yaj l).2 = E at *
 have q2 : (E != 0) = true := by simpa using hE
 go_enter func8, ntmps8
 go_wp2_with (first
  | (go_at_call 19; (with_reducible refine hf.out.mono ?_); rintro e w0 ⟨rfl, hw0⟩; obtain rfl := hw0.symm; clear hf hw0)
  | (go_at_call 22; (with_reducible refine (P1.out _ Hb.out).mono ?_); rintro e w2 ⟨rfl, hb2⟩; replace Hb := qaa (Hb.out.trans (hb2.mono Hb.out.size)); clear hb2; clear P1)
  | (go_at_call 21; refine (yam _).mono ?_; rintro e w9 ⟨rfl, hb9⟩; replace Hb := qaa (Hb.out.trans (hb9.mono Hb.out.size)); clear hb9))
 go_ret
 exact ⟨rfl, Hb.out⟩
theorem blockBack_yes (l : List Rc) (A : Option Addr) (n c : Nat) (hl : l.length = n) (w : World) (h : fewF l = true) (hE : (yaj l).2 = 0) (hr : Reads w w.heap.size 3 A n (rcs l)) :
  Calls prog 8 #[.slice A n c] w fun e w' => e = .returned (.bool true) ∧ Below w.heap.size w w' := by
 have Hb := qaa (qam w.heap.size w)
 have hf := ybn l A n c w hl hr
 rw [h] at hf
 replace hf := qaa hf
 have hn : n ≤ 1000000 := by have := yce h; omega
 have P1 := fun W (hb : Below w.heap.size w W) => yal l A n c W hl hn ((hr.below hb).more hb.size)
 unfold yaI at P1
 obtain ⟨b1, b2⟩ := oback hE
 obtain ⟨_, s2⟩ := ygp hE
 obtain ⟨h0, h1, h2⟩ := yeO hE
 obtain ⟨j1, j2, j3, j4, j5, j6, j7, j8, j9⟩ := yfw h0 h1
 rw [h2] at P1 b1 b2 s2
 dsimp only at P1 b1 b2 s2
 have D1 := fun W => ybf (oB l) W (by omega)
 unfold yaP at D1
 rw [b2] at D1
 have K1 := fun W => ygW (oB l) W (by omega)
 unfold OPost at K1
 rw [b1] at K1
 have J1 := fun W (hb : Below w.heap.size w W) => ycx l A n c W hl hn ((hr.below hb).more hb.size)
 rw [j1] at J1
 dsimp only at D1 K1 J1
 rw [hl] at D1 K1
 have Q := fun A3 c3 W (h3 : Reads W W.heap.size 3 A3 n (rcs l)) (hb : Below w.heap.size w W) => yc8 l l A3 A n n c3 c W hl hl (by omega) (by omega) h3 ((hr.below hb).more hb.size)
 have e9 : decide (l = l) = true := qaP rfl
 simp only [e9] at Q
 have hp : 0 < l.length := by omega
 have Horow := qaa (orow j3)
 obtain ⟨b, off, rfl, hb, hcell⟩ := yby hr hl 0 (by omega)
 obtain ⟨f0, f1, fz0⟩ := hcell 0 hp
 obtain ⟨fz1, f2, fz2⟩ := hcell (l.length - 1) (by omega)
 clear fz0 fz1 fz2
 rw [← ygP hp] at f0 f1
 rw [← olast_at hp] at f2
 rw [qcB, qb0] at f0 f1
 obtain ⟨q, hq⟩ : ∃ q, l.length - 1 = q := ⟨_, rfl⟩
 rw [hq] at f2
 have hq1 : q < n := by omega
 have hq2 : n ≤ q + 1 := by omega
 have hsub : IntKind.i64.wrap ((n : Int) - 1) = (q : Int) := by rw [qai]; omega
 have hqi : (0 : Int) ≤ (q : Int) ∧ (q : Int) < (n : Int) := by omega
 have h0i : (0 : Int) < (n : Int) := by omega
 have h0n : 0 < n := by omega
 have hni : ¬ (n : Int) = 0 := by omega
 have hnb : ((n : Int) == 0) = false := by simpa using (by omega : ¬ n = 0)
 obtain ⟨hi, hhi⟩ : ∃ hi, (yad l).1 + (n : Int) - 1 = hi := ⟨_, rfl⟩
 have P7 := fun W => yhf (((rjB l).length : Int), (n : Int), (yad l).1, (yad l).2.1, (ya9 l).2.1) W (by dsimp only; omega) (by dsimp only; omega) (by dsimp only; omega) (by dsimp only; omega)
 have P8 := fun W => yft (((rjB l).length : Int), (n : Int), (yad l).1, (yad l).2.1, (ya9 l).2.1) W (by dsimp only; omega)
 dsimp only at P7 P8
 rw [hhi] at P7
 have HZ := qaa fun W => ospan_size (yad l).1 hi (n : Int) W (by omega) (by omega) (by omega) (by omega)
 have HW := qaa yam
 have Hcell := qaa hcell
 have Hl := qaa hl
 have HP7 := qaa P7
 have HP8 := qaa P8
 replace P1 := qaa P1
 replace D1 := qaa D1
 replace K1 := qaa K1
 replace J1 := qaa J1
 replace Q := qaa Q
 have Hhi := qaa hhi
 clear hr hl h h0 h1 h2 hE j1 j2 j3 j4 j5 j6 j7 j8 j9 b1 b2 s2 e9 hp hcell hq P7 P8 hhi
 generalize oB l = X at *
 generalize rjB l = J at *
 generalize (yad l).1 = f at *
 generalize (yad l).2.1 = t0 at *
 generalize (ya9 l).2.1 = t1 at *
 go_enter func8, ntmps8
 go_wp2_with (first
  | (go_at_call 19; (with_reducible refine hf.out.mono ?_); rintro e w0 ⟨rfl, hw0⟩; obtain rfl := hw0.symm; clear hf hw0)
  | (go_at_call 22; (with_reducible refine (P1.out _ Hb.out).mono ?_); rintro e w2 ⟨rfl, hb2⟩; replace Hb := qaa (Hb.out.trans (hb2.mono Hb.out.size)); clear hb2; clear P1)
  | (go_at_call 24; (with_reducible refine (D1.out _).mono ?_); rintro e w3 ⟨A3, c3, rfl, _, hr3, hb3⟩; have HD := qaa hr3; replace Hb := qaa (Hb.out.trans (hb3.mono Hb.out.size)); clear hb3; clear hr3 D1)
  | (go_at_call 25; (with_reducible refine (K1.out _).mono ?_); rintro e w4 ⟨rfl, hb4⟩; replace HD := qaa ((Reads.on15 HD.out hb4).alloc (qaf _) (.cells (omc (((J.length : Nat) : Int), (n : Int), f, t0, t1)) 45)); replace Hb := qaa (Hb.out.trans (hb4.mono Hb.out.size)); clear hb4; replace Hb := qaa (Hb.out.alloc Hb.out.size (.cells (omc (((J.length : Nat) : Int), (n : Int), f, t0, t1)) 45)); have HM := qaa (Blk.new w4 45 (omc (((J.length : Nat) : Int), (n : Int), f, t0, t1))); clear K1)
  | (go_at_call 26; (with_reducible refine (J1.out _ Hb.out).mono ?_); rintro e w5 ⟨rfl, hb5⟩; replace HD := qaa (Reads.on15 (HD.out.more (by rw [qay]; omega)) hb5); replace HM := qaa (HM.out.below hb5 HM.out.lt); replace Hb := qaa (Hb.out.trans (hb5.mono Hb.out.size)); clear hb5; clear J1)
  | (go_at_call 27; (with_reducible refine (Q.out _ _ _ HD.out Hb.out).mono ?_); rintro e w6 ⟨rfl, hb6⟩; replace HM := qaa (HM.out.below hb6 HM.out.lt); have u2 : w6.cell? ⟨w4.heap.size, 2, none⟩ = some (.int .i64 (J.length : Int)) := HM.out.cell 2; have u3 : w6.cell? ⟨w4.heap.size, 3, none⟩ = some (.int .i64 (n : Int)) := HM.out.cell 3; replace Hb := qaa (Hb.out.trans (hb6.mono Hb.out.size)); clear hb6; clear Q)
  | fail)
 have HI0 : Hid (Blk w6 w4.heap.size 45 (omc (((J.length : Nat) : Int), (n : Int), f, t0, t1)) ∧ Below w.heap.size w w6) := qaa ⟨HM.out, Hb.out⟩
 clear HM Hb HD
 generalize w4.heap.size = g at *
 go_loopw [11] (fun i wr => ∃ k : Nat, k ≤ n ∧ i = .int .i64 (k : Int) ∧ Hid (Blk wr g 45 (omc (((J.length : Nat) : Int), (n : Int), f, t0, t1)) ∧ Below w.heap.size w wr)) (fun i _ => n - (intOf i).toNat)
 case atStart => exact ⟨0, by omega, rfl, HI0⟩
 case round =>
  obtain ⟨k, hk, rfl, HI⟩ := hrel
  by_cases hlt : k < n
  ·have hkl : k < l.length := by have := Hl.out; omega
   obtain ⟨d0, d1, dz⟩ := Hcell.out k hkl
   have hki : (0 : Int) ≤ (k : Int) ∧ (k : Int) < (n : Int) := by omega
   obtain ⟨o1, o2, o3⟩ := Horow.out k hkl
   have HH1 := qaa fun W => ohas_yes f hi l[k].1 W (by omega) (by have := Hhi.out; omega)
   have HH2 := qaa fun W => ohas_yes t0 t1 l[k].2.1 W o2 o3
   clear dz o1 o2 o3 f0 f1 f2 HI0
   generalize l[k].1 = x at *
   generalize l[k].2.1 = y at *
   go_wp2
   refine qbC (S := (fun W => Blk W g 45 (omc (((J.length : Nat) : Int), (n : Int), f, t0, t1)) ∧ Below w.heap.size w W)) (by kernel_rfl) (⟨HI.out.1, HI.out.2.drew⟩) (fun hHeld => ?_)
   refine qal (i := 0) (oi := _) (v := ?_) rfl (by kernel_rfl) (by kernel_rfl) (by kernel_rfl) (fun _ _ _ h => h) (qas ⟨by rfl, ?_⟩) hHeld ?_
   rotate_left
   ·(intro wz hSw; have u0 := hSw.1.cell 0; have u1 := hSw.1.cell 1; have u2 := hSw.1.cell 2; have u3 := hSw.1.cell 3; have u4 := hSw.1.cell 4; have u5 := hSw.1.cell 5; have u6 := hSw.1.cell 6; simp only [omc, qan, qa0, qaw] at u0 u1 u2 u3 u4 u5 u6; have y0 := (hSw.2.cell (p := ⟨b, off + k * 3, none⟩) hb).trans d0; have y1 := (hSw.2.cell (p := ⟨b, off + k * 3 + 1, none⟩) hb).trans d1; go_simp; try (with_reducible rfl))
   (try dsimp only [List.getElem_toArray, List.getElem_cons_zero, List.getElem_cons_succ]); (try simp only [Act.put, qab, qad, qac])
   refine qal (i := 2) (oi := _) (v := ?_) rfl (by kernel_rfl) (by kernel_rfl) (by kernel_rfl) (fun _ _ _ h => h) (qas ⟨by rfl, ?_⟩) hHeld ?_
   rotate_left
   ·(intro wz hSw; go_simp; try (with_reducible rfl))
   (try dsimp only [List.getElem_toArray, List.getElem_cons_zero, List.getElem_cons_succ]); (try simp only [Act.put, qab, qad, qac])
   refine qal (i := 3) (oi := _) (v := ?_) rfl (by kernel_rfl) (by kernel_rfl) (by kernel_rfl) (fun _ _ _ h => h) (qas ⟨by rfl, ?_⟩) hHeld ?_
   rotate_left
   ·(intro wz hSw; go_simp; try (with_reducible rfl))
   (try dsimp only [List.getElem_toArray, List.getElem_cons_zero, List.getElem_cons_succ]); (try simp only [Act.put, qab, qad, qac])
   refine qal (i := 4) (oi := _) (v := ?_) rfl (by kernel_rfl) (by kernel_rfl) (by kernel_rfl) (fun _ _ _ h => h) (qas ⟨by rfl, ?_⟩) hHeld ?_
   rotate_left
   ·(intro wz hSw; go_simp; try (with_reducible rfl))
   (try dsimp only [List.getElem_toArray, List.getElem_cons_zero, List.getElem_cons_succ]); (try simp only [Act.put, qab, qad, qac])
   refine qal (i := 5) (oi := _) (v := ?_) rfl (by kernel_rfl) (by kernel_rfl) (by kernel_rfl) (fun _ _ _ h => h) (qas ⟨by rfl, ?_⟩) hHeld ?_
   rotate_left
   ·(intro wz hSw; go_simp; try (with_reducible rfl))
   (try dsimp only [List.getElem_toArray, List.getElem_cons_zero, List.getElem_cons_succ]); (try simp only [Act.put, qab, qad, qac])
   refine qal (i := 6) (oi := _) (v := ?_) rfl (by kernel_rfl) (by kernel_rfl) (by kernel_rfl) (fun _ _ _ h => h) (qas ⟨by rfl, ?_⟩) hHeld ?_
   rotate_left
   ·(intro wz hSw; have u0 := hSw.1.cell 0; have u1 := hSw.1.cell 1; have u2 := hSw.1.cell 2; have u3 := hSw.1.cell 3; have u4 := hSw.1.cell 4; have u5 := hSw.1.cell 5; have u6 := hSw.1.cell 6; simp only [omc, qan, qa0, qaw] at u0 u1 u2 u3 u4 u5 u6; have y0 := (hSw.2.cell (p := ⟨b, off + k * 3, none⟩) hb).trans d0; have y1 := (hSw.2.cell (p := ⟨b, off + k * 3 + 1, none⟩) hb).trans d1; go_simp; try (with_reducible rfl))
   (try dsimp only [List.getElem_toArray, List.getElem_cons_zero, List.getElem_cons_succ]); (try simp only [Act.put, qab, qad, qac])
   refine qaF (rs := [1]) (by kernel_rfl) (by simp) ?_
   refine qa1 (o := _) rfl (fun K hK => ?_) qa9
   go_simp
   go_at_call 29
   (with_reducible refine (HP7.out _).mono ?_)
   rintro e w7 ⟨rfl, hb1⟩
   refine hK.out _ _ (⟨hHeld.1.below hb1 hHeld.1.lt, hHeld.2.trans (hb1.mono hHeld.2.size)⟩) (fun hH => ?_)
   clear hHeld hK K hb1
   have hHeld := hH
   clear hH
   (try dsimp only [List.getElem_toArray, List.getElem_cons_zero, List.getElem_cons_succ]); (try simp only [Act.put, qab, qad, qac])
   refine qaF (rs := [7]) (by kernel_rfl) (by simp) ?_
   refine qa1 (o := _) rfl (fun K hK => ?_) qa9
   go_simp
   go_at_call 28
   (with_reducible refine (HH1.out _).mono ?_)
   rintro e w8 ⟨rfl, hb1⟩
   refine hK.out _ _ (⟨hHeld.1.below hb1 hHeld.1.lt, hHeld.2.trans (hb1.mono hHeld.2.size)⟩) (fun hH => ?_)
   clear hHeld hK K hb1
   have hHeld := hH
   clear hH
   (try dsimp only [List.getElem_toArray, List.getElem_cons_zero, List.getElem_cons_succ]); (try simp only [Act.put, qab, qad, qac])
   refine qal (i := 8) (oi := _) (v := ?_) rfl (by kernel_rfl) (by kernel_rfl) (by kernel_rfl) (fun _ _ _ h => h) (qas ⟨by rfl, ?_⟩) hHeld ?_
   rotate_left
   ·(intro wz hSw; go_simp; try (with_reducible rfl))
   (try dsimp only [List.getElem_toArray, List.getElem_cons_zero, List.getElem_cons_succ]); (try simp only [Act.put, qab, qad, qac])
   refine qal (i := 9) (oi := _) (v := ?_) rfl (by kernel_rfl) (by kernel_rfl) (by kernel_rfl) (fun _ _ _ h => h) (qas ⟨by rfl, ?_⟩) hHeld ?_
   rotate_left
   ·(intro wz hSw; go_simp; try (with_reducible rfl))
   (try dsimp only [List.getElem_toArray, List.getElem_cons_zero, List.getElem_cons_succ]); (try simp only [Act.put, qab, qad, qac])
   refine qal (i := 10) (oi := _) (v := ?_) rfl (by kernel_rfl) (by kernel_rfl) (by kernel_rfl) (fun _ _ _ h => h) (qas ⟨by rfl, ?_⟩) hHeld ?_
   rotate_left
   ·(intro wz hSw; have u0 := hSw.1.cell 0; have u1 := hSw.1.cell 1; have u2 := hSw.1.cell 2; have u3 := hSw.1.cell 3; have u4 := hSw.1.cell 4; have u5 := hSw.1.cell 5; have u6 := hSw.1.cell 6; simp only [omc, qan, qa0, qaw] at u0 u1 u2 u3 u4 u5 u6; have y0 := (hSw.2.cell (p := ⟨b, off + k * 3, none⟩) hb).trans d0; have y1 := (hSw.2.cell (p := ⟨b, off + k * 3 + 1, none⟩) hb).trans d1; go_simp; try (with_reducible rfl))
   (try dsimp only [List.getElem_toArray, List.getElem_cons_zero, List.getElem_cons_succ]); (try simp only [Act.put, qab, qad, qac])
   refine qal (i := 12) (oi := _) (v := ?_) rfl (by kernel_rfl) (by kernel_rfl) (by kernel_rfl) (fun _ _ _ h => h) (qas ⟨by rfl, ?_⟩) hHeld ?_
   rotate_left
   ·(intro wz hSw; go_simp; try (with_reducible rfl))
   (try dsimp only [List.getElem_toArray, List.getElem_cons_zero, List.getElem_cons_succ]); (try simp only [Act.put, qab, qad, qac])
   refine qal (i := 13) (oi := _) (v := ?_) rfl (by kernel_rfl) (by kernel_rfl) (by kernel_rfl) (fun _ _ _ h => h) (qas ⟨by rfl, ?_⟩) hHeld ?_
   rotate_left
   ·(intro wz hSw; go_simp; try (with_reducible rfl))
   (try dsimp only [List.getElem_toArray, List.getElem_cons_zero, List.getElem_cons_succ]); (try simp only [Act.put, qab, qad, qac])
   refine qal (i := 14) (oi := _) (v := ?_) rfl (by kernel_rfl) (by kernel_rfl) (by kernel_rfl) (fun _ _ _ h => h) (qas ⟨by rfl, ?_⟩) hHeld ?_
   rotate_left
   ·(intro wz hSw; go_simp; try (with_reducible rfl))
   (try dsimp only [List.getElem_toArray, List.getElem_cons_zero, List.getElem_cons_succ]); (try simp only [Act.put, qab, qad, qac])
   refine qal (i := 15) (oi := _) (v := ?_) rfl (by kernel_rfl) (by kernel_rfl) (by kernel_rfl) (fun _ _ _ h => h) (qas ⟨by rfl, ?_⟩) hHeld ?_
   rotate_left
   ·(intro wz hSw; go_simp; try (with_reducible rfl))
   (try dsimp only [List.getElem_toArray, List.getElem_cons_zero, List.getElem_cons_succ]); (try simp only [Act.put, qab, qad, qac])
   refine qal (i := 16) (oi := _) (v := ?_) rfl (by kernel_rfl) (by kernel_rfl) (by kernel_rfl) (fun _ _ _ h => h) (qas ⟨by rfl, ?_⟩) hHeld ?_
   rotate_left
   ·(intro wz hSw; have u0 := hSw.1.cell 0; have u1 := hSw.1.cell 1; have u2 := hSw.1.cell 2; have u3 := hSw.1.cell 3; have u4 := hSw.1.cell 4; have u5 := hSw.1.cell 5; have u6 := hSw.1.cell 6; simp only [omc, qan, qa0, qaw] at u0 u1 u2 u3 u4 u5 u6; have y0 := (hSw.2.cell (p := ⟨b, off + k * 3, none⟩) hb).trans d0; have y1 := (hSw.2.cell (p := ⟨b, off + k * 3 + 1, none⟩) hb).trans d1; go_simp; try (with_reducible rfl))
   (try dsimp only [List.getElem_toArray, List.getElem_cons_zero, List.getElem_cons_succ]); (try simp only [Act.put, qab, qad, qac])
   refine qaF (rs := [11]) (by kernel_rfl) (by simp) ?_
   refine qa1 (o := _) rfl (fun K hK => ?_) qa9
   go_simp
   go_at_call 30
   (with_reducible refine (HP8.out _).mono ?_)
   rintro e w9 ⟨rfl, hb1⟩
   refine hK.out _ _ (⟨hHeld.1.below hb1 hHeld.1.lt, hHeld.2.trans (hb1.mono hHeld.2.size)⟩) (fun hH => ?_)
   clear hHeld hK K hb1
   have hHeld := hH
   clear hH
   (try dsimp only [List.getElem_toArray, List.getElem_cons_zero, List.getElem_cons_succ]); (try simp only [Act.put, qab, qad, qac])
   refine qaF (rs := [17]) (by kernel_rfl) (by simp) ?_
   refine qa1 (o := _) rfl (fun K hK => ?_) qa9
   go_simp
   go_at_call 28
   (with_reducible refine (HH2.out _).mono ?_)
   rintro e w10 ⟨rfl, hb1⟩
   refine hK.out _ _ (⟨hHeld.1.below hb1 hHeld.1.lt, hHeld.2.trans (hb1.mono hHeld.2.size)⟩) (fun hH => ?_)
   clear hHeld hK K hb1
   have hHeld := hH
   clear hH
   (try dsimp only [List.getElem_toArray, List.getElem_cons_zero, List.getElem_cons_succ]); (try simp only [Act.put, qab, qad, qac])
   refine qal (i := 18) (oi := _) (v := ?_) rfl (by kernel_rfl) (by kernel_rfl) (by kernel_rfl) (fun _ _ _ h => h) (qas ⟨by rfl, ?_⟩) hHeld ?_
   rotate_left
   ·(intro wz hSw; go_simp; try (with_reducible rfl))
   (try dsimp only [List.getElem_toArray, List.getElem_cons_zero, List.getElem_cons_succ]); (try simp only [Act.put, qab, qad, qac])
   refine qal (i := 19) (oi := _) (v := ?_) rfl (by kernel_rfl) (by kernel_rfl) (by kernel_rfl) (fun _ _ _ h => h) (qas ⟨by rfl, ?_⟩) hHeld ?_
   rotate_left
   ·(intro wz hSw; go_simp; try (with_reducible rfl))
   (try dsimp only [List.getElem_toArray, List.getElem_cons_zero, List.getElem_cons_succ]); (try simp only [Act.put, qab, qad, qac])
   refine qbP (by kernel_rfl) ?_ _
   have HI2 := qaa hHeld
   clear hHeld HI
   go_wp2
   go_roundw
   case rel => exact ⟨k + 1, by omega, iv (by omega), HI2⟩
   case measure => simp only [intOf]; omega
  ·have hkn : n = k := by omega
   subst hkn
   have d0 := f0
   have d1 := f1
   have d2 := f2
   clear f0 f1 f2 HI0
   go_wp2
   refine qbC (S := (fun W => Blk W g 45 (omc (((J.length : Nat) : Int), (n : Int), f, t0, t1)) ∧ Below w.heap.size w W)) (by kernel_rfl) (⟨HI.out.1, HI.out.2.drew⟩) (fun hHeld => ?_)
   refine qal (i := 0) (oi := _) (v := ?_) rfl (by kernel_rfl) (by kernel_rfl) (by kernel_rfl) (fun _ _ _ h => h) (qas ⟨by rfl, ?_⟩) hHeld ?_
   rotate_left
   ·(intro wz hSw; go_simp; try (with_reducible rfl))
   (try dsimp only [List.getElem_toArray, List.getElem_cons_zero, List.getElem_cons_succ]); (try simp only [Act.put, qab, qad, qac])
   refine qal (i := 1) (oi := _) (v := ?_) rfl (by kernel_rfl) (by kernel_rfl) (by kernel_rfl) (fun _ _ _ h => h) (qas ⟨by rfl, ?_⟩) hHeld ?_
   rotate_left
   ·(intro wz hSw; have u0 := hSw.1.cell 0; have u1 := hSw.1.cell 1; have u2 := hSw.1.cell 2; have u3 := hSw.1.cell 3; have u4 := hSw.1.cell 4; have u5 := hSw.1.cell 5; have u6 := hSw.1.cell 6; simp only [omc, qan, qa0, qaw] at u0 u1 u2 u3 u4 u5 u6; have y0 := (hSw.2.cell (p := ⟨b, off, none⟩) hb).trans d0; have y1 := (hSw.2.cell (p := ⟨b, off + 1, none⟩) hb).trans d1; have y2 := (hSw.2.cell (p := ⟨b, off + q * 3 + 1, none⟩) hb).trans d2; go_simp; try (with_reducible rfl))
   (try dsimp only [List.getElem_toArray, List.getElem_cons_zero, List.getElem_cons_succ]); (try simp only [Act.put, qab, qad, qac])
   refine qal (i := 2) (oi := _) (v := ?_) rfl (by kernel_rfl) (by kernel_rfl) (by kernel_rfl) (fun _ _ _ h => h) (qas ⟨by rfl, ?_⟩) hHeld ?_
   rotate_left
   ·(intro wz hSw; go_simp; try (with_reducible rfl))
   (try dsimp only [List.getElem_toArray, List.getElem_cons_zero, List.getElem_cons_succ]); (try simp only [Act.put, qab, qad, qac])
   refine qal (i := 3) (oi := _) (v := ?_) rfl (by kernel_rfl) (by kernel_rfl) (by kernel_rfl) (fun _ _ _ h => h) (qas ⟨by rfl, ?_⟩) hHeld ?_
   rotate_left
   ·(intro wz hSw; go_simp; try (with_reducible rfl))
   (try dsimp only [List.getElem_toArray, List.getElem_cons_zero, List.getElem_cons_succ]); (try simp only [Act.put, qab, qad, qac])
   refine qal (i := 4) (oi := _) (v := ?_) rfl (by kernel_rfl) (by kernel_rfl) (by kernel_rfl) (fun _ _ _ h => h) (qas ⟨by rfl, ?_⟩) hHeld ?_
   rotate_left
   ·(intro wz hSw; go_simp; try (with_reducible rfl))
   (try dsimp only [List.getElem_toArray, List.getElem_cons_zero, List.getElem_cons_succ]); (try simp only [Act.put, qab, qad, qac])
   refine qal (i := 5) (oi := _) (v := ?_) rfl (by kernel_rfl) (by kernel_rfl) (by kernel_rfl) (fun _ _ _ h => h) (qas ⟨by rfl, ?_⟩) hHeld ?_
   rotate_left
   ·(intro wz hSw; have u0 := hSw.1.cell 0; have u1 := hSw.1.cell 1; have u2 := hSw.1.cell 2; have u3 := hSw.1.cell 3; have u4 := hSw.1.cell 4; have u5 := hSw.1.cell 5; have u6 := hSw.1.cell 6; simp only [omc, qan, qa0, qaw] at u0 u1 u2 u3 u4 u5 u6; have y0 := (hSw.2.cell (p := ⟨b, off, none⟩) hb).trans d0; have y1 := (hSw.2.cell (p := ⟨b, off + 1, none⟩) hb).trans d1; have y2 := (hSw.2.cell (p := ⟨b, off + q * 3 + 1, none⟩) hb).trans d2; go_simp; try (with_reducible rfl))
   (try dsimp only [List.getElem_toArray, List.getElem_cons_zero, List.getElem_cons_succ]); (try simp only [Act.put, qab, qad, qac])
   refine qal (i := 6) (oi := _) (v := ?_) rfl (by kernel_rfl) (by kernel_rfl) (by kernel_rfl) (fun _ _ _ h => h) (qas ⟨by rfl, ?_⟩) hHeld ?_
   rotate_left
   ·(intro wz hSw; go_simp; try (with_reducible rfl))
   (try dsimp only [List.getElem_toArray, List.getElem_cons_zero, List.getElem_cons_succ]); (try simp only [Act.put, qab, qad, qac])
   refine qal (i := 7) (oi := _) (v := ?_) rfl (by kernel_rfl) (by kernel_rfl) (by kernel_rfl) (fun _ _ _ h => h) (qas ⟨by rfl, ?_⟩) hHeld ?_
   rotate_left
   ·(intro wz hSw; go_simp; try (with_reducible rfl))
   (try dsimp only [List.getElem_toArray, List.getElem_cons_zero, List.getElem_cons_succ]); (try simp only [Act.put, qab, qad, qac])
   refine qal (i := 8) (oi := _) (v := ?_) rfl (by kernel_rfl) (by kernel_rfl) (by kernel_rfl) (fun _ _ _ h => h) (qas ⟨by rfl, ?_⟩) hHeld ?_
   rotate_left
   ·(intro wz hSw; go_simp; try (with_reducible rfl))
   (try dsimp only [List.getElem_toArray, List.getElem_cons_zero, List.getElem_cons_succ]); (try simp only [Act.put, qab, qad, qac])
   refine qal (i := 9) (oi := _) (v := ?_) rfl (by kernel_rfl) (by kernel_rfl) (by kernel_rfl) (fun _ _ _ h => h) (qas ⟨by rfl, ?_⟩) hHeld ?_
   rotate_left
   ·(intro wz hSw; have u0 := hSw.1.cell 0; have u1 := hSw.1.cell 1; have u2 := hSw.1.cell 2; have u3 := hSw.1.cell 3; have u4 := hSw.1.cell 4; have u5 := hSw.1.cell 5; have u6 := hSw.1.cell 6; simp only [omc, qan, qa0, qaw] at u0 u1 u2 u3 u4 u5 u6; have y0 := (hSw.2.cell (p := ⟨b, off, none⟩) hb).trans d0; have y1 := (hSw.2.cell (p := ⟨b, off + 1, none⟩) hb).trans d1; have y2 := (hSw.2.cell (p := ⟨b, off + q * 3 + 1, none⟩) hb).trans d2; go_simp; try (with_reducible rfl))
   (try dsimp only [List.getElem_toArray, List.getElem_cons_zero, List.getElem_cons_succ]); (try simp only [Act.put, qab, qad, qac])
   refine qal (i := 10) (oi := _) (v := ?_) rfl (by kernel_rfl) (by kernel_rfl) (by kernel_rfl) (fun _ _ _ h => h) (qas ⟨by rfl, ?_⟩) hHeld ?_
   rotate_left
   ·(intro wz hSw; go_simp; try (with_reducible rfl))
   (try dsimp only [List.getElem_toArray, List.getElem_cons_zero, List.getElem_cons_succ]); (try simp only [Act.put, qab, qad, qac])
   refine qal (i := 11) (oi := _) (v := ?_) rfl (by kernel_rfl) (by kernel_rfl) (by kernel_rfl) (fun _ _ _ h => h) (qas ⟨by rfl, ?_⟩) hHeld ?_
   rotate_left
   ·(intro wz hSw; go_simp; try (with_reducible rfl))
   (try dsimp only [List.getElem_toArray, List.getElem_cons_zero, List.getElem_cons_succ]); (try simp only [Act.put, qab, qad, qac])
   refine qal (i := 12) (oi := _) (v := ?_) rfl (by kernel_rfl) (by kernel_rfl) (by kernel_rfl) (fun _ _ _ h => h) (qas ⟨by rfl, ?_⟩) hHeld ?_
   rotate_left
   ·(intro wz hSw; go_simp; try (with_reducible rfl))
   (try dsimp only [List.getElem_toArray, List.getElem_cons_zero, List.getElem_cons_succ]); (try simp only [Act.put, qab, qad, qac])
   refine qal (i := 13) (oi := _) (v := ?_) rfl (by kernel_rfl) (by kernel_rfl) (by kernel_rfl) (fun _ _ _ h => h) (qas ⟨by rfl, ?_⟩) hHeld ?_
   rotate_left
   ·(intro wz hSw; have u0 := hSw.1.cell 0; have u1 := hSw.1.cell 1; have u2 := hSw.1.cell 2; have u3 := hSw.1.cell 3; have u4 := hSw.1.cell 4; have u5 := hSw.1.cell 5; have u6 := hSw.1.cell 6; simp only [omc, qan, qa0, qaw] at u0 u1 u2 u3 u4 u5 u6; have y0 := (hSw.2.cell (p := ⟨b, off, none⟩) hb).trans d0; have y1 := (hSw.2.cell (p := ⟨b, off + 1, none⟩) hb).trans d1; have y2 := (hSw.2.cell (p := ⟨b, off + q * 3 + 1, none⟩) hb).trans d2; go_simp; try (with_reducible rfl))
   (try dsimp only [List.getElem_toArray, List.getElem_cons_zero, List.getElem_cons_succ]); (try simp only [Act.put, qab, qad, qac])
   refine qal (i := 14) (oi := _) (v := ?_) rfl (by kernel_rfl) (by kernel_rfl) (by kernel_rfl) (fun _ _ _ h => h) (qas ⟨by rfl, ?_⟩) hHeld ?_
   rotate_left
   ·(intro wz hSw; go_simp; try (with_reducible rfl))
   (try dsimp only [List.getElem_toArray, List.getElem_cons_zero, List.getElem_cons_succ]); (try simp only [Act.put, qab, qad, qac])
   refine qal (i := 15) (oi := _) (v := ?_) rfl (by kernel_rfl) (by kernel_rfl) (by kernel_rfl) (fun _ _ _ h => h) (qas ⟨by rfl, ?_⟩) hHeld ?_
   rotate_left
   ·(intro wz hSw; go_simp; try (with_reducible rfl))
   (try dsimp only [List.getElem_toArray, List.getElem_cons_zero, List.getElem_cons_succ]); (try simp only [Act.put, qab, qad, qac])
   refine qal (i := 16) (oi := _) (v := ?_) rfl (by kernel_rfl) (by kernel_rfl) (by kernel_rfl) (fun _ _ _ h => h) (qas ⟨by rfl, ?_⟩) hHeld ?_
   rotate_left
   ·(intro wz hSw; go_simp; try (with_reducible rfl))
   (try dsimp only [List.getElem_toArray, List.getElem_cons_zero, List.getElem_cons_succ]); (try simp only [Act.put, qab, qad, qac])
   refine qal (i := 17) (oi := _) (v := ?_) rfl (by kernel_rfl) (by kernel_rfl) (by kernel_rfl) (fun _ _ _ h => h) (qas ⟨by rfl, ?_⟩) hHeld ?_
   rotate_left
   ·(intro wz hSw; go_simp; try (with_reducible rfl))
   (try dsimp only [List.getElem_toArray, List.getElem_cons_zero, List.getElem_cons_succ]); (try simp only [Act.put, qab, qad, qac])
   refine qal (i := 18) (oi := _) (v := ?_) rfl (by kernel_rfl) (by kernel_rfl) (by kernel_rfl) (fun _ _ _ h => h) (qas ⟨by rfl, ?_⟩) hHeld ?_
   rotate_left
   ·(intro wz hSw; have u0 := hSw.1.cell 0; have u1 := hSw.1.cell 1; have u2 := hSw.1.cell 2; have u3 := hSw.1.cell 3; have u4 := hSw.1.cell 4; have u5 := hSw.1.cell 5; have u6 := hSw.1.cell 6; simp only [omc, qan, qa0, qaw] at u0 u1 u2 u3 u4 u5 u6; have y0 := (hSw.2.cell (p := ⟨b, off, none⟩) hb).trans d0; have y1 := (hSw.2.cell (p := ⟨b, off + 1, none⟩) hb).trans d1; have y2 := (hSw.2.cell (p := ⟨b, off + q * 3 + 1, none⟩) hb).trans d2; go_simp; try (with_reducible rfl))
   (try dsimp only [List.getElem_toArray, List.getElem_cons_zero, List.getElem_cons_succ]); (try simp only [Act.put, qab, qad, qac])
   refine qal (i := 19) (oi := _) (v := ?_) rfl (by kernel_rfl) (by kernel_rfl) (by kernel_rfl) (fun _ _ _ h => h) (qas ⟨by rfl, ?_⟩) hHeld ?_
   rotate_left
   ·(intro wz hSw; go_simp; try (with_reducible rfl))
   (try dsimp only [List.getElem_toArray, List.getElem_cons_zero, List.getElem_cons_succ]); (try simp only [Act.put, qab, qad, qac])
   refine qal (i := 20) (oi := _) (v := ?_) rfl (by kernel_rfl) (by kernel_rfl) (by kernel_rfl) (fun _ _ _ h => h) (qas ⟨by rfl, ?_⟩) hHeld ?_
   rotate_left
   ·(intro wz hSw; go_simp; try (with_reducible rfl))
   (try dsimp only [List.getElem_toArray, List.getElem_cons_zero, List.getElem_cons_succ]); (try simp only [Act.put, qab, qad, qac])
   refine qal (i := 21) (oi := _) (v := ?_) rfl (by kernel_rfl) (by kernel_rfl) (by kernel_rfl) (fun _ _ _ h => h) (qas ⟨by rfl, ?_⟩) hHeld ?_
   rotate_left
   ·(intro wz hSw; go_simp; try (with_reducible rfl))
   (try dsimp only [List.getElem_toArray, List.getElem_cons_zero, List.getElem_cons_succ]); (try simp only [Act.put, qab, qad, qac])
   refine qal (i := 22) (oi := _) (v := ?_) rfl (by kernel_rfl) (by kernel_rfl) (by kernel_rfl) (fun _ _ _ h => h) (qas ⟨by rfl, ?_⟩) hHeld ?_
   rotate_left
   ·(intro wz hSw; go_simp; try (with_reducible rfl))
   (try dsimp only [List.getElem_toArray, List.getElem_cons_zero, List.getElem_cons_succ]); (try simp only [Act.put, qab, qad, qac])
   refine qal (i := 23) (oi := _) (v := ?_) rfl (by kernel_rfl) (by kernel_rfl) (by kernel_rfl) (fun _ _ _ h => h) (qas ⟨by rfl, ?_⟩) hHeld ?_
   rotate_left
   ·(intro wz hSw; go_simp; try (with_reducible rfl))
   (try dsimp only [List.getElem_toArray, List.getElem_cons_zero, List.getElem_cons_succ]); (try simp only [Act.put, qab, qad, qac])
   refine qal (i := 24) (oi := _) (v := ?_) rfl (by kernel_rfl) (by kernel_rfl) (by kernel_rfl) (fun _ _ _ h => h) (qas ⟨by rfl, ?_⟩) hHeld ?_
   rotate_left
   ·(intro wz hSw; go_simp; try (with_reducible rfl))
   (try dsimp only [List.getElem_toArray, List.getElem_cons_zero, List.getElem_cons_succ]); (try simp only [Act.put, qab, qad, qac])
   refine qal (i := 25) (oi := _) (v := ?_) rfl (by kernel_rfl) (by kernel_rfl) (by kernel_rfl) (fun _ _ _ h => h) (qas ⟨by rfl, ?_⟩) hHeld ?_
   rotate_left
   ·(intro wz hSw; have u0 := hSw.1.cell 0; have u1 := hSw.1.cell 1; have u2 := hSw.1.cell 2; have u3 := hSw.1.cell 3; have u4 := hSw.1.cell 4; have u5 := hSw.1.cell 5; have u6 := hSw.1.cell 6; simp only [omc, qan, qa0, qaw] at u0 u1 u2 u3 u4 u5 u6; have y0 := (hSw.2.cell (p := ⟨b, off, none⟩) hb).trans d0; have y1 := (hSw.2.cell (p := ⟨b, off + 1, none⟩) hb).trans d1; have y2 := (hSw.2.cell (p := ⟨b, off + q * 3 + 1, none⟩) hb).trans d2; go_simp; try (with_reducible rfl))
   (try dsimp only [List.getElem_toArray, List.getElem_cons_zero, List.getElem_cons_succ]); (try simp only [Act.put, qab, qad, qac])
   refine qal (i := 26) (oi := _) (v := ?_) rfl (by kernel_rfl) (by kernel_rfl) (by kernel_rfl) (fun _ _ _ h => h) (qas ⟨by rfl, ?_⟩) hHeld ?_
   rotate_left
   ·(intro wz hSw; go_simp; try (with_reducible rfl))
   (try dsimp only [List.getElem_toArray, List.getElem_cons_zero, List.getElem_cons_succ]); (try simp only [Act.put, qab, qad, qac])
   refine qal (i := 27) (oi := _) (v := ?_) rfl (by kernel_rfl) (by kernel_rfl) (by kernel_rfl) (fun _ _ _ h => h) (qas ⟨by rfl, ?_⟩) hHeld ?_
   rotate_left
   ·(intro wz hSw; go_simp; try (with_reducible rfl))
   (try dsimp only [List.getElem_toArray, List.getElem_cons_zero, List.getElem_cons_succ]); (try simp only [Act.put, qab, qad, qac])
   refine qal (i := 28) (oi := _) (v := ?_) rfl (by kernel_rfl) (by kernel_rfl) (by kernel_rfl) (fun _ _ _ h => h) (qas ⟨by rfl, ?_⟩) hHeld ?_
   rotate_left
   ·(intro wz hSw; go_simp; try (with_reducible rfl))
   (try dsimp only [List.getElem_toArray, List.getElem_cons_zero, List.getElem_cons_succ]); (try simp only [Act.put, qab, qad, qac])
   refine qal (i := 29) (oi := _) (v := ?_) rfl (by kernel_rfl) (by kernel_rfl) (by kernel_rfl) (fun _ _ _ h => h) (qas ⟨by rfl, ?_⟩) hHeld ?_
   rotate_left
   ·(intro wz hSw; have u0 := hSw.1.cell 0; have u1 := hSw.1.cell 1; have u2 := hSw.1.cell 2; have u3 := hSw.1.cell 3; have u4 := hSw.1.cell 4; have u5 := hSw.1.cell 5; have u6 := hSw.1.cell 6; simp only [omc, qan, qa0, qaw] at u0 u1 u2 u3 u4 u5 u6; have y0 := (hSw.2.cell (p := ⟨b, off, none⟩) hb).trans d0; have y1 := (hSw.2.cell (p := ⟨b, off + 1, none⟩) hb).trans d1; have y2 := (hSw.2.cell (p := ⟨b, off + q * 3 + 1, none⟩) hb).trans d2; go_simp; try (with_reducible rfl))
   (try dsimp only [List.getElem_toArray, List.getElem_cons_zero, List.getElem_cons_succ]); (try simp only [Act.put, qab, qad, qac])
   refine qal (i := 32) (oi := _) (v := ?_) rfl (by kernel_rfl) (by kernel_rfl) (by kernel_rfl) (fun _ _ _ h => h) (qas ⟨by rfl, ?_⟩) hHeld ?_
   rotate_left
   ·(intro wz hSw; go_simp; try (with_reducible rfl))
   (try dsimp only [List.getElem_toArray, List.getElem_cons_zero, List.getElem_cons_succ]); (try simp only [Act.put, qab, qad, qac])
   refine qal (i := 33) (oi := _) (v := ?_) rfl (by kernel_rfl) (by kernel_rfl) (by kernel_rfl) (fun _ _ _ h => h) (qas ⟨by rfl, ?_⟩) hHeld ?_
   rotate_left
   ·(intro wz hSw; go_simp; try (with_reducible rfl))
   (try dsimp only [List.getElem_toArray, List.getElem_cons_zero, List.getElem_cons_succ]); (try simp only [Act.put, qab, qad, qac])
   refine qaF (rs := [30]) (by kernel_rfl) (by simp) ?_
   refine qa1 (o := _) rfl (fun K hK => ?_) qa9
   go_simp
   go_at_call 29
   (with_reducible refine (HP7.out _).mono ?_)
   rintro e w7 ⟨rfl, hb1⟩
   refine hK.out _ _ (⟨hHeld.1.below hb1 hHeld.1.lt, hHeld.2.trans (hb1.mono hHeld.2.size)⟩) (fun hH => ?_)
   clear hHeld hK K hb1
   have hHeld := hH
   clear hH
   (try dsimp only [List.getElem_toArray, List.getElem_cons_zero, List.getElem_cons_succ]); (try simp only [Act.put, qab, qad, qac])
   refine qaF (rs := [31]) (by kernel_rfl) (by simp) ?_
   refine qa1 (o := _) rfl (fun K hK => ?_) qa9
   go_simp
   go_at_call 31
   (with_reducible refine (HZ.out _).mono ?_)
   rintro e w8 ⟨rfl, hb1⟩
   refine hK.out _ _ (⟨hHeld.1.below hb1 hHeld.1.lt, hHeld.2.trans (hb1.mono hHeld.2.size)⟩) (fun hH => ?_)
   clear hHeld hK K hb1
   have hHeld := hH
   clear hH
   (try dsimp only [List.getElem_toArray, List.getElem_cons_zero, List.getElem_cons_succ]); (try simp only [Act.put, qab, qad, qac])
   refine qal (i := 34) (oi := _) (v := ?_) rfl (by kernel_rfl) (by kernel_rfl) (by kernel_rfl) (fun _ _ _ h => h) (qas ⟨by rfl, ?_⟩) hHeld ?_
   rotate_left
   ·(intro wz hSw; go_simp; try (with_reducible rfl))
   (try dsimp only [List.getElem_toArray, List.getElem_cons_zero, List.getElem_cons_succ]); (try simp only [Act.put, qab, qad, qac])
   refine qal (i := 35) (oi := _) (v := ?_) rfl (by kernel_rfl) (by kernel_rfl) (by kernel_rfl) (fun _ _ _ h => h) (qas ⟨by rfl, ?_⟩) hHeld ?_
   rotate_left
   ·(intro wz hSw; go_simp; try (with_reducible rfl))
   (try dsimp only [List.getElem_toArray, List.getElem_cons_zero, List.getElem_cons_succ]); (try simp only [Act.put, qab, qad, qac])
   refine qal (i := 36) (oi := _) (v := ?_) rfl (by kernel_rfl) (by kernel_rfl) (by kernel_rfl) (fun _ _ _ h => h) (qas ⟨by rfl, ?_⟩) hHeld ?_
   rotate_left
   ·(intro wz hSw; go_simp; try (with_reducible rfl))
   (try dsimp only [List.getElem_toArray, List.getElem_cons_zero, List.getElem_cons_succ]); (try simp only [Act.put, qab, qad, qac])
   refine qaF (rs := [37]) (by kernel_rfl) (by simp) ?_
   refine qa1 (o := _) rfl (fun K hK => ?_) qa9
   go_simp
   go_at_call 21
   (with_reducible refine (HW.out _).mono ?_)
   rintro e w9 ⟨rfl, hb1⟩
   refine hK.out _ _ (⟨hHeld.1.below hb1 hHeld.1.lt, hHeld.2.trans (hb1.mono hHeld.2.size)⟩) (fun hH => ?_)
   clear hHeld hK K hb1
   have hHeld := hH
   clear hH
   (try dsimp only [List.getElem_toArray, List.getElem_cons_zero, List.getElem_cons_succ]); (try simp only [Act.put, qab, qad, qac])
   refine qal (i := 38) (oi := _) (v := ?_) rfl (by kernel_rfl) (by kernel_rfl) (by kernel_rfl) (fun _ _ _ h => h) (qas ⟨by rfl, ?_⟩) hHeld ?_
   rotate_left
   ·(intro wz hSw; go_simp; try (with_reducible rfl))
   (try dsimp only [List.getElem_toArray, List.getElem_cons_zero, List.getElem_cons_succ]); (try simp only [Act.put, qab, qad, qac])
   refine qal (i := 39) (oi := _) (v := ?_) rfl (by kernel_rfl) (by kernel_rfl) (by kernel_rfl) (fun _ _ _ h => h) (qas ⟨by rfl, ?_⟩) hHeld ?_
   rotate_left
   ·(intro wz hSw; go_simp; try (with_reducible rfl))
   (try dsimp only [List.getElem_toArray, List.getElem_cons_zero, List.getElem_cons_succ]); (try simp only [Act.put, qab, qad, qac])
   refine qbP (by kernel_rfl) ?_ _
   have HB9 := qaa hHeld.2
   clear hHeld HI
   go_wp2
   go_ret
   exact ⟨rfl, HB9.out⟩
theorem blockBack_walk (l : List Rc) (A : Option Addr) (n c : Nat) (hl : l.length = n) (w : World) (hr : Reads w w.heap.size 3 A n (rcs l)) :
  Calls prog 8 #[.slice A n c] w fun e w' => e = .returned (.bool true) ∧ Below w.heap.size w w' := by
 cases h : fewF l with
 | false => exact blockBack_far l A n c hl w h hr
 | true =>
  by_cases hE : (yaj l).2 = 0
  ·exact blockBack_yes l A n c hl w h hE hr
  ·exact blockBack_no l A n c hl w h hE hr
namespace BlockBack
theorem lifted (os : Os) (started : os.Started) (H : Type) (enc : TypeId × Value → H) :
  ReturnsInHanded {} Tryz.checked os 8 .any (Rows.blockBackSpec.pre6 enc prog Tryz.f8 Rows.blockBackRow.domain false) (Rows.blockBackSpec.post enc prog Tryz.f8 false true false false) := by
 refine yec (C := Tryz.checked) (tb := 4) ownP started (by kernel_rfl) func8
  (ChangeSpec.witness6 (enc := enc) (C := Tryz.checked) false ⟨#[], #[.slice none 0 0], []⟩ 8 (by kernel_rfl) (by kernel_rfl) (by kernel_rfl) (by kernel_rfl))
  laidP (by kernel_rfl) rfl (by kernel_rfl) underlying4 (by intro ds h; match ds, h with | [_], _ => rfl) ?_
 intro W base args ds p hval0 hA0 hlt _
 have hval : ∀ (j : Nat) t v, Tryz.f8.params[j]? = some t → args[j]? = some v → Value.okWide prog W .any base t v := hval0
 have hA : DataW.TrodAll enc prog W 0 (fun _ => true) true Tryz.f8.params.toList args.toList ds p := hA0
 rw [Tryz.params8] at hA hval
 obtain ⟨v0, d0, rfl, rfl, h0⟩ := trodAll_one hA
 obtain ⟨Al, nl, cl, l, rfl, el, hnl, hml, hrl, hbl⟩ := yg9 underlying38 underlying54 (by kernel_rfl) (by kernel_rfl) underlying3 underlying3 underlying9 (hval 0 38 v0 rfl rfl) h0
 exact blockBack_walk l Al nl cl el W hrl
theorem holds : Rows.BlockBackSaid :=
 OpenClaim.holds_of_wide 8 Tryz.f8 rfl rfl rfl rfl rfl rfl rfl ⟨rfl, rfl, rfl, rfl, rfl⟩ rfl rfl rfl rfl rfl (by kernel_rfl) func8 (by kernel_rfl)
  (qbo (by kernel_rfl)) (by unfold Func.isWrapper; first | (rw [qah (by decide +kernel)]; kernel_rfl) | (rw [qag (by decide +kernel)]; exact ⟨rfl, rfl⟩))
  (fun os started H enc _ => lifted os started H enc)
end BlockBack
end Go.Proofs.YtanjhbkbpalnaaaGreat
