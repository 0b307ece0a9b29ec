/-
 What the law of the last of these texts stands on, part 27.
-/
import Derived.Test.YtanjhbkbpalnaaaGreatMc26
set_option maxRecDepth 100000
set_option maxHeartbeats 8000000
open Go.Proofs.Tryz
namespace Go.Proofs.YtanjhbkbpalnaaaGreat
set_option linter.unusedSimpArgs false
set_option linter.unusedVariables false
open Go.ChangeShapes Go.WideShapes Go.ChangeAt Go.RowKit Go.Joins Go.Deep
def RGPost (w w' : World) (e : Ending) (F : Rc × Int × Int) : Prop := e = .returned (.tuple #[.agg #[.int .i64 F.1.1, .int .i64 F.1.2.1, .string ⟨F.1.2.2.toArray⟩], .int .i64 F.2.1, .int .i64 F.2.2]) ∧ Below w.heap.size w w'
theorem rrun_part (l : List UInt8) (p n : Int) (h0 : 0 ≤ p) (hn : 0 ≤ n) (hl : p + n ≤ l.length) (w : World) :
  (Instr.slice 9 (.string ⟨l.toArray⟩) (some (.int .i64 p)) (some (.int .i64 (p + n))) none).run prog w = .ok (.string ⟨((l.drop p.toNat).take n.toNat).toArray⟩) w := by
 rw [run_slice_string w 9 ⟨l.toArray⟩ .i64 .i64 p (p + n) underlying9 h0 (by omega) (by rw [qbc, qaA]; exact hl), ByteArray.extract_mk]
 congr 5
 omega
structure RRow (w W : World) (g b o : Nat) (x y : Int) (d : List UInt8) (u v : Int) (e : List UInt8) : Prop where
 own : Blk W g 54 #[.int .i64 x, .int .i64 y, .string ⟨d.toArray⟩]
 c0 : W.cell? ⟨b, o, none⟩ = some (.int .i64 u)
 c1 : W.cell? ⟨b, o + 1, none⟩ = some (.int .i64 v)
 c2 : W.cell? ⟨b, o + 2, none⟩ = some (.string ⟨e.toArray⟩)
 lt : b < W.heap.size
 below : Below w.heap.size w W
theorem RRow.next {w W W' : World} {g b o : Nat} {x y : Int} {d : List UInt8} {u v : Int} {e : List UInt8} (h : RRow w W g b o x y d u v e) (hb : Below W.heap.size W W') : RRow w W' g b o x y d u v e :=
 ⟨h.own.below hb h.own.lt, (hb.cell (p := ⟨b, o, none⟩) h.lt).trans h.c0, (hb.cell (p := ⟨b, o + 1, none⟩) h.lt).trans h.c1, (hb.cell (p := ⟨b, o + 2, none⟩) h.lt).trans h.c2, qaZ h.lt hb.size, h.below.trans (hb.mono h.below.size)⟩
theorem ybu (l : List Rc) (A : Option Addr) (n c : Nat) (w : World) (hl : l.length = n) (hn : n ≤ 1000000) (hr : Reads w w.heap.size 3 A n (rcs l)) :
  Calls prog 33 #[.slice A n c] w fun e w' => e = .returned (.int .i64 (yaz l)) ∧ Below w.heap.size w w' := by
 have Hc := qaa (yby hr hl)
 have Hl := qaa hl
 have H0 : Hid (yaz (l.take 0) = 0) := qaa rfl
 clear hr hl
 go_enter func33, ntmps33
 go_wp2
 go_step3
 go_wp2
 go_step3
 go_wp2
 go_loopw [3, 8] (fun ev i wr => ∃ k : Nat, k ≤ n ∧ i = .int .i64 (k : Int) ∧ ev = .int .i64 0 ∧ Hid (yaz (l.take k) = 0) ∧ Hid (Below w.heap.size w wr)) (fun _ i _ => n - (intOf i).toNat)
 case atStart => exact ⟨0, by omega, rfl, rfl, H0, qaa (qam _ _)⟩
 case round =>
  obtain ⟨k, hk, rfl, rfl, HR, HB⟩ := hrel
  by_cases hlt : k < n
  ·have hkl : k < l.length := by have := Hl.out; omega
   obtain ⟨b, off, rfl, hb, hcell⟩ := Hc.out k hlt
   obtain ⟨d0, d1, d2⟩ := hcell k hkl
   have c0 := (HB.out.cell (p := ⟨b, off + k * 3, none⟩) hb).trans d0
   have c1 := (HB.out.cell (p := ⟨b, off + k * 3 + 1, none⟩) hb).trans d1
   have c2 := (HB.out.cell (p := ⟨b, off + k * 3 + 2, none⟩) hb).trans d2
   have hki : (0 : Int) ≤ (k : Int) ∧ (k : Int) < (n : Int) := by omega
   have hchk := qaa fun W => yfj l[k].1 l[k].2.1 l[k].2.2 W
   by_cases hm : rmay l[k] = true
   ·have e1 : rchk (l[k].1, l[k].2.1, l[k].2.2) = 0 := (yeq hm).1
    rw [e1] at hchk
    by_cases hk0 : k = 0
    ·subst hk0
     have H1 := qaa (rrow_first hkl hm)
     clear d0 d1 d2 e1 hm hcell HR H0
     rw [qcB, qb0] at c0 c1 c2
     generalize l[0].1 = x at *
     generalize l[0].2.1 = y at *
     generalize l[0].2.2 = d at *
     have HX := qaa (Blk.new wr 54 #[.int .i64 x, .int .i64 y, .string ⟨d.toArray⟩])
     have HA := qaa (HB.out.alloc HB.out.size (.cells #[.int .i64 x, .int .i64 y, .string ⟨d.toArray⟩] 54))
     go_wp2_with (go_at_call 57; (with_reducible refine (hchk.out _).mono ?_); rintro e w1 ⟨rfl, hb1⟩; have HB1 := qaa (HA.out.trans (hb1.mono HA.out.size)); have x0 : w1.cell? ⟨wr.heap.size, 0, none⟩ = some (.int .i64 x) := (HX.out.below hb1 HX.out.lt).cell 0; clear hb1 hchk)
     go_quiet (fail)
     go_wp2
     go_roundw
     case rel => exact ⟨1, by omega, iv (by omega), rfl, H1, qaa (yay HB1.out _)⟩
     case measure => simp only [intOf]; omega
    ·obtain ⟨p, hp⟩ : ∃ p, p + 1 = k := ⟨k - 1, by omega⟩
     obtain ⟨hpl, u0, u1, hord, hnext⟩ := rrow_step hp hkl HR.out hm
     obtain ⟨q0, q1, q2⟩ := hcell p hpl
     have hsub : (k : Int) - 1 = (p : Int) := by omega
     have hsub1 : IntKind.i64.wrap ((k : Int) - 1) = (p : Int) := by rw [qai]; omega
     have hsub2 : IntKind.i64.wrap (p : Int) = (p : Int) := by rw [qai]; omega
     have hpk : (0 : Int) ≤ (p : Int) ∧ (p : Int) < (n : Int) := by omega
     have hgt : decide ((0 : Int) < (k : Int)) = true := qaP (by omega)
     have hgt2 : decide (0 < k) = true := qaP (by omega)
     have hgt3 : 0 < k := by omega
     have Hord := qaa hord
     have Hnext := qaa hnext
     have Q0 := qaa q0
     have Q1 := qaa q1
     have Q2 := qaa q2
     have Hp := qaa hp
     have Hub := qaa (And.intro u0 u1)
     clear d0 d1 d2 q0 q1 q2 e1 hm hcell HR H0 hord hnext hp hk0 u0 u1
     generalize l[k].1 = x at *
     generalize l[k].2.1 = y at *
     generalize l[k].2.2 = d at *
     generalize l[p].1 = u at *
     generalize l[p].2.1 = v at *
     generalize l[p].2.2 = e2 at *
     obtain ⟨m, hm⟩ : ∃ m, (v < y ∧ m = y) ∨ (y ≤ v ∧ m = v) := by
      by_cases h : v < y
      ·exact ⟨y, qas ⟨h, rfl⟩⟩
      ·exact ⟨v, qaK ⟨by omega, rfl⟩⟩
     have Hbh := qaa fun W => p_behind_any x y u v m d e2 W Hub.out.1 Hub.out.2 hm
     have heq := fun W => rrec_equal x y (u + 1) m d d W
     have hgu := rrec_guard
     obtain ⟨r, hr⟩ : ∃ r, decide (x = u + 1 ∧ y = m ∧ d = d) = r := ⟨_, rfl⟩
     rw [hr] at heq
     have HX := qaa (Blk.new wr 54 #[.int .i64 x, .int .i64 y, .string ⟨d.toArray⟩])
     have HA := qaa (HB.out.alloc HB.out.size (.cells #[.int .i64 x, .int .i64 y, .string ⟨d.toArray⟩] 54))
     have Hr : Hid (r = true ↔ (x = u + 1 ∧ v ≤ y)) := qaa (by rw [← hr, qaR]; exact ⟨fun h => ⟨h.1, by have := h.2.1; omega⟩, fun h => ⟨h.1, by have := h.2; omega, rfl⟩⟩)
     clear hm hr
     cases r
     ·have HF := qaa (Hord.out fun h => by have := Hr.out.2 h; cases this)
      clear Hord Hnext Hr
      go_wp2_with (go_at_call 57; (with_reducible refine (hchk.out _).mono ?_); rintro e w1 ⟨rfl, hb1⟩; have HB1 := qaa (HA.out.trans (hb1.mono HA.out.size)); have HS1 : Hid (RRow w w1 wr.heap.size b (off + p * 3) x y d u v e2) := qaa ⟨HX.out.below hb1 HX.out.lt, (HB1.out.cell (p := ⟨b, off + p * 3, none⟩) hb).trans Q0.out, (HB1.out.cell (p := ⟨b, off + p * 3 + 1, none⟩) hb).trans Q1.out, (HB1.out.cell (p := ⟨b, off + p * 3 + 2, none⟩) hb).trans Q2.out, qaZ hb HB1.out.size, HB1.out⟩; clear hb1 hchk)
-- REG
      refine qbC (S := (fun W => RRow w W wr.heap.size b (off + p * 3) x y d u v e2)) (by kernel_rfl) (HS1.out.next ((qam _ _).drew)) (fun hHeld => ?_)
      refine qal (i := 0) (oi := _) (v := ?_) rfl (by kernel_rfl) (by kernel_rfl) (by kernel_rfl) (fun _ _ _ h => h) (qas ⟨by rfl, ?_⟩) hHeld ?_
      rotate_left
      ·(intro wz hSw; go_simp; try (with_reducible rfl))
      try dsimp only [List.getElem_toArray, List.getElem_cons_zero, List.getElem_cons_succ]
      try simp only [Act.put, qab, qad, qac]
      refine qal (i := 1) (oi := _) (v := ?_) rfl (by kernel_rfl) (by kernel_rfl) (by kernel_rfl) (fun _ _ _ h => h) (qas ⟨by rfl, ?_⟩) hHeld ?_
      rotate_left
      ·(intro wz hSw; go_simp; try (with_reducible rfl))
      try dsimp only [List.getElem_toArray, List.getElem_cons_zero, List.getElem_cons_succ]
      try simp only [Act.put, qab, qad, qac]
      refine qal (i := 2) (oi := _) (v := ?_) rfl (by kernel_rfl) (by kernel_rfl) (by kernel_rfl) (fun _ _ _ h => h) (qas ⟨by rfl, ?_⟩) hHeld ?_
      rotate_left
      ·(intro wz hSw; go_simp; try (with_reducible rfl))
      try dsimp only [List.getElem_toArray, List.getElem_cons_zero, List.getElem_cons_succ]
      try simp only [Act.put, qab, qad, qac]
      refine qal (i := 3) (oi := _) (v := ?_) rfl (by kernel_rfl) (by kernel_rfl) (by kernel_rfl) (fun _ _ _ h => h) (qas ⟨by rfl, ?_⟩) hHeld ?_
      rotate_left
      ·(intro wz hSw; have k0 := hSw.own.cell 0; have k1 := hSw.own.cell 1; have k2 := hSw.own.cell 2; simp only [qan, qa0, qaw] at k0 k1 k2; go_simp; try (with_reducible rfl))
      try dsimp only [List.getElem_toArray, List.getElem_cons_zero, List.getElem_cons_succ]
      try simp only [Act.put, qab, qad, qac]
      refine qal (i := 9) (oi := _) (v := ?_) rfl (by kernel_rfl) (by kernel_rfl) (by kernel_rfl) (fun _ _ _ h => h) (qas ⟨by rfl, ?_⟩) hHeld ?_
      rotate_left
      ·(intro wz hSw; have k0 := hSw.own.cell 0; have k1 := hSw.own.cell 1; have k2 := hSw.own.cell 2; simp only [qan, qa0, qaw] at k0 k1 k2; go_simp; try (with_reducible rfl))
      try dsimp only [List.getElem_toArray, List.getElem_cons_zero, List.getElem_cons_succ]
      try simp only [Act.put, qab, qad, qac]
      refine qal (i := 4) (oi := _) (v := ?_) rfl (by kernel_rfl) (by kernel_rfl) (by kernel_rfl) (fun _ _ _ h => h) (qas ⟨by rfl, ?_⟩) hHeld ?_
      rotate_left
      ·(intro wz hSw; go_simp; try (with_reducible rfl))
      try dsimp only [List.getElem_toArray, List.getElem_cons_zero, List.getElem_cons_succ]
      try simp only [Act.put, qab, qad, qac]
      refine qal (i := 5) (oi := _) (v := ?_) rfl (by kernel_rfl) (by kernel_rfl) (by kernel_rfl) (fun _ _ _ h => h) (qas ⟨by rfl, ?_⟩) hHeld ?_
      rotate_left
      ·(intro wz hSw; go_simp; try (with_reducible rfl))
      try dsimp only [List.getElem_toArray, List.getElem_cons_zero, List.getElem_cons_succ]
      try simp only [Act.put, qab, qad, qac]
      refine qal (i := 6) (oi := _) (v := ?_) rfl (by kernel_rfl) (by kernel_rfl) (by kernel_rfl) (fun _ _ _ h => h) (qas ⟨by rfl, ?_⟩) hHeld ?_
      rotate_left
      ·(intro wz hSw; go_simp; try (with_reducible rfl))
      try dsimp only [List.getElem_toArray, List.getElem_cons_zero, List.getElem_cons_succ]
      try simp only [Act.put, qab, qad, qac]
      refine qal (i := 7) (oi := _) (v := ?_) rfl (by kernel_rfl) (by kernel_rfl) (by kernel_rfl) (fun _ _ _ h => h) (qas ⟨by rfl, ?_⟩) hHeld ?_
      rotate_left
      ·(intro wz hSw; go_simp; try (with_reducible rfl))
      try dsimp only [List.getElem_toArray, List.getElem_cons_zero, List.getElem_cons_succ]
      try simp only [Act.put, qab, qad, qac]
      refine qal (i := 8) (oi := _) (v := ?_) rfl (by kernel_rfl) (by kernel_rfl) (by kernel_rfl) (fun _ _ _ h => h) (qas ⟨by rfl, ?_⟩) hHeld ?_
      rotate_left
      ·(intro wz hSw; have k0 := hSw.c0; have k1 := hSw.c1; have k2 := hSw.c2; go_simp; try (with_reducible rfl))
      try dsimp only [List.getElem_toArray, List.getElem_cons_zero, List.getElem_cons_succ]
      try simp only [Act.put, qab, qad, qac]
      refine qaF (rs := [10]) (by kernel_rfl) (by simp) ?_
      refine qa1 (o := _) rfl (fun K hK => ?_) qa9
      go_simp
      go_at_call 60
      (with_reducible refine (Hbh.out _).mono ?_)
      rintro e w2 ⟨rfl, hb1⟩
      refine hK.out _ _ (hHeld.next hb1) (fun hH => ?_)
      clear hHeld hK K hb1
      have hHeld := hH
      clear hH
      try dsimp only [List.getElem_toArray, List.getElem_cons_zero, List.getElem_cons_succ]
      try simp only [Act.put, qab, qad, qac]
      refine qal (i := 11) (oi := _) (v := ?_) rfl (by kernel_rfl) (by kernel_rfl) (by kernel_rfl) (fun _ _ _ h => h) (qas ⟨by rfl, ?_⟩) hHeld ?_
      rotate_left
      ·(intro wz hSw; go_simp; try (with_reducible rfl))
      try dsimp only [List.getElem_toArray, List.getElem_cons_zero, List.getElem_cons_succ]
      try simp only [Act.put, qab, qad, qac]
      refine qal (i := 12) (oi := _) (v := ?_) rfl (by kernel_rfl) (by kernel_rfl) (by kernel_rfl) (fun _ _ _ h => h) (qas ⟨by rfl, ?_⟩) hHeld ?_
      rotate_left
      ·(intro wz hSw; go_simp; try (with_reducible rfl))
      try dsimp only [List.getElem_toArray, List.getElem_cons_zero, List.getElem_cons_succ]
      try simp only [Act.put, qab, qad, qac]
      refine qal (i := 13) (oi := _) (v := ?_) rfl (by kernel_rfl) (by kernel_rfl) (by kernel_rfl) (fun _ _ _ h => h) (qas ⟨by rfl, ?_⟩) hHeld ?_
      rotate_left
      ·(intro wz hSw; go_simp; try (with_reducible rfl))
      try dsimp only [List.getElem_toArray, List.getElem_cons_zero, List.getElem_cons_succ]
      try simp only [Act.put, qab, qad, qac]
      refine qbP (by kernel_rfl) ?_ _
      have HB2 := qaa hHeld.below
      clear hHeld HS1
      go_wp2
      rw [qca]
      go_ret
      exact ⟨by rw [HF.out]; rfl, HB2.out⟩
-- END REG
     ·have H1 := qaa (Hnext.out (Hr.out.1 rfl))
      clear Hord Hnext Hr
      go_wp2_with (go_at_call 57; (with_reducible refine (hchk.out _).mono ?_); rintro e w1 ⟨rfl, hb1⟩; have HB1 := qaa (HA.out.trans (hb1.mono HA.out.size)); have HS1 : Hid (RRow w w1 wr.heap.size b (off + p * 3) x y d u v e2) := qaa ⟨HX.out.below hb1 HX.out.lt, (HB1.out.cell (p := ⟨b, off + p * 3, none⟩) hb).trans Q0.out, (HB1.out.cell (p := ⟨b, off + p * 3 + 1, none⟩) hb).trans Q1.out, (HB1.out.cell (p := ⟨b, off + p * 3 + 2, none⟩) hb).trans Q2.out, qaZ hb HB1.out.size, HB1.out⟩; clear hb1 hchk)
-- REG
      refine qbC (S := (fun W => RRow w W wr.heap.size b (off + p * 3) x y d u v e2)) (by kernel_rfl) (HS1.out.next ((qam _ _).drew)) (fun hHeld => ?_)
      refine qal (i := 0) (oi := _) (v := ?_) rfl (by kernel_rfl) (by kernel_rfl) (by kernel_rfl) (fun _ _ _ h => h) (qas ⟨by rfl, ?_⟩) hHeld ?_
      rotate_left
      ·(intro wz hSw; go_simp; try (with_reducible rfl))
      try dsimp only [List.getElem_toArray, List.getElem_cons_zero, List.getElem_cons_succ]
      try simp only [Act.put, qab, qad, qac]
      refine qal (i := 1) (oi := _) (v := ?_) rfl (by kernel_rfl) (by kernel_rfl) (by kernel_rfl) (fun _ _ _ h => h) (qas ⟨by rfl, ?_⟩) hHeld ?_
      rotate_left
      ·(intro wz hSw; go_simp; try (with_reducible rfl))
      try dsimp only [List.getElem_toArray, List.getElem_cons_zero, List.getElem_cons_succ]
      try simp only [Act.put, qab, qad, qac]
      refine qal (i := 2) (oi := _) (v := ?_) rfl (by kernel_rfl) (by kernel_rfl) (by kernel_rfl) (fun _ _ _ h => h) (qas ⟨by rfl, ?_⟩) hHeld ?_
      rotate_left
      ·(intro wz hSw; go_simp; try (with_reducible rfl))
      try dsimp only [List.getElem_toArray, List.getElem_cons_zero, List.getElem_cons_succ]
      try simp only [Act.put, qab, qad, qac]
      refine qal (i := 3) (oi := _) (v := ?_) rfl (by kernel_rfl) (by kernel_rfl) (by kernel_rfl) (fun _ _ _ h => h) (qas ⟨by rfl, ?_⟩) hHeld ?_
      rotate_left
      ·(intro wz hSw; have k0 := hSw.own.cell 0; have k1 := hSw.own.cell 1; have k2 := hSw.own.cell 2; simp only [qan, qa0, qaw] at k0 k1 k2; go_simp; try (with_reducible rfl))
      try dsimp only [List.getElem_toArray, List.getElem_cons_zero, List.getElem_cons_succ]
      try simp only [Act.put, qab, qad, qac]
      refine qal (i := 9) (oi := _) (v := ?_) rfl (by kernel_rfl) (by kernel_rfl) (by kernel_rfl) (fun _ _ _ h => h) (qas ⟨by rfl, ?_⟩) hHeld ?_
      rotate_left
      ·(intro wz hSw; have k0 := hSw.own.cell 0; have k1 := hSw.own.cell 1; have k2 := hSw.own.cell 2; simp only [qan, qa0, qaw] at k0 k1 k2; go_simp; try (with_reducible rfl))
      try dsimp only [List.getElem_toArray, List.getElem_cons_zero, List.getElem_cons_succ]
      try simp only [Act.put, qab, qad, qac]
      refine qal (i := 4) (oi := _) (v := ?_) rfl (by kernel_rfl) (by kernel_rfl) (by kernel_rfl) (fun _ _ _ h => h) (qas ⟨by rfl, ?_⟩) hHeld ?_
      rotate_left
      ·(intro wz hSw; go_simp; try (with_reducible rfl))
      try dsimp only [List.getElem_toArray, List.getElem_cons_zero, List.getElem_cons_succ]
      try simp only [Act.put, qab, qad, qac]
      refine qal (i := 5) (oi := _) (v := ?_) rfl (by kernel_rfl) (by kernel_rfl) (by kernel_rfl) (fun _ _ _ h => h) (qas ⟨by rfl, ?_⟩) hHeld ?_
      rotate_left
      ·(intro wz hSw; go_simp; try (with_reducible rfl))
      try dsimp only [List.getElem_toArray, List.getElem_cons_zero, List.getElem_cons_succ]
      try simp only [Act.put, qab, qad, qac]
      refine qal (i := 6) (oi := _) (v := ?_) rfl (by kernel_rfl) (by kernel_rfl) (by kernel_rfl) (fun _ _ _ h => h) (qas ⟨by rfl, ?_⟩) hHeld ?_
      rotate_left
      ·(intro wz hSw; go_simp; try (with_reducible rfl))
      try dsimp only [List.getElem_toArray, List.getElem_cons_zero, List.getElem_cons_succ]
      try simp only [Act.put, qab, qad, qac]
      refine qal (i := 7) (oi := _) (v := ?_) rfl (by kernel_rfl) (by kernel_rfl) (by kernel_rfl) (fun _ _ _ h => h) (qas ⟨by rfl, ?_⟩) hHeld ?_
      rotate_left
      ·(intro wz hSw; go_simp; try (with_reducible rfl))
      try dsimp only [List.getElem_toArray, List.getElem_cons_zero, List.getElem_cons_succ]
      try simp only [Act.put, qab, qad, qac]
      refine qal (i := 8) (oi := _) (v := ?_) rfl (by kernel_rfl) (by kernel_rfl) (by kernel_rfl) (fun _ _ _ h => h) (qas ⟨by rfl, ?_⟩) hHeld ?_
      rotate_left
      ·(intro wz hSw; have k0 := hSw.c0; have k1 := hSw.c1; have k2 := hSw.c2; go_simp; try (with_reducible rfl))
      try dsimp only [List.getElem_toArray, List.getElem_cons_zero, List.getElem_cons_succ]
      try simp only [Act.put, qab, qad, qac]
      refine qaF (rs := [10]) (by kernel_rfl) (by simp) ?_
      refine qa1 (o := _) rfl (fun K hK => ?_) qa9
      go_simp
      go_at_call 60
      (with_reducible refine (Hbh.out _).mono ?_)
      rintro e w2 ⟨rfl, hb1⟩
      refine hK.out _ _ (hHeld.next hb1) (fun hH => ?_)
      clear hHeld hK K hb1
      have hHeld := hH
      clear hH
      try dsimp only [List.getElem_toArray, List.getElem_cons_zero, List.getElem_cons_succ]
      try simp only [Act.put, qab, qad, qac]
      refine qal (i := 11) (oi := _) (v := ?_) rfl (by kernel_rfl) (by kernel_rfl) (by kernel_rfl) (fun _ _ _ h => h) (qas ⟨by rfl, ?_⟩) hHeld ?_
      rotate_left
      ·(intro wz hSw; go_simp; try (with_reducible rfl))
      try dsimp only [List.getElem_toArray, List.getElem_cons_zero, List.getElem_cons_succ]
      try simp only [Act.put, qab, qad, qac]
      refine qal (i := 12) (oi := _) (v := ?_) rfl (by kernel_rfl) (by kernel_rfl) (by kernel_rfl) (fun _ _ _ h => h) (qas ⟨by rfl, ?_⟩) hHeld ?_
      rotate_left
      ·(intro wz hSw; go_simp; try (with_reducible rfl))
      try dsimp only [List.getElem_toArray, List.getElem_cons_zero, List.getElem_cons_succ]
      try simp only [Act.put, qab, qad, qac]
      refine qal (i := 13) (oi := _) (v := ?_) rfl (by kernel_rfl) (by kernel_rfl) (by kernel_rfl) (fun _ _ _ h => h) (qas ⟨by rfl, ?_⟩) hHeld ?_
      rotate_left
      ·(intro wz hSw; go_simp; try (with_reducible rfl))
      try dsimp only [List.getElem_toArray, List.getElem_cons_zero, List.getElem_cons_succ]
      try simp only [Act.put, qab, qad, qac]
      refine qbP (by kernel_rfl) ?_ _
      have HB2 := qaa hHeld.below
      clear hHeld HS1
      go_wp2
      go_roundw
      case rel => exact ⟨k + 1, by omega, iv (by omega), rfl, H1, HB2⟩
      case measure => simp only [intOf]; omega
-- END REG
   ·have e1 : rchk (l[k].1, l[k].2.1, l[k].2.2) = 150 := (rchk_no hm).1
    rw [e1] at hchk
    have HF := qaa (rrow_bad hkl HR.out hm)
    clear d0 d1 d2 e1 hm hcell HR H0
    generalize l[k].1 = x at *
    generalize l[k].2.1 = y at *
    generalize l[k].2.2 = d at *
    have HA := qaa (HB.out.alloc HB.out.size (.cells #[.int .i64 x, .int .i64 y, .string ⟨d.toArray⟩] 54))
    go_wp2_with (go_at_call 57; (with_reducible refine (hchk.out _).mono ?_); rintro e w1 ⟨rfl, hb1⟩; have HB1 := qaa (HA.out.trans (hb1.mono HA.out.size)); clear hb1 hchk)
    rw [qca]
    go_ret
    exact ⟨by rw [HF.out]; rfl, HB1.out⟩
  ·obtain rfl : k = n := by omega
   have e : yaz l = 0 := by
    have h := HR.out
    rwa [qa5 (by have := Hl.out; omega)] at h
   have HF := qaa e
   clear e
   go_wp2
   rw [qca]
   go_ret
   exact ⟨by rw [HF.out]; rfl, HB.out⟩
def bbw (l : List UInt8) (k : Nat) : List Int := (List.range 256).map fun b => if b < k then ((yaO l b : Nat) : Int) else ((ybT l b l.length : Nat) : Int)
theorem bbw_len (l : List UInt8) (k : Nat) : (bbw l k).length = 256 := by simp [bbw]
theorem bbw_zero (l : List UInt8) : bcv l l.length = bbw l 0 := rfl
theorem bbw_set (l : List UInt8) (k : Nat) : (bbw l k).set k ((yaO l k : Nat) : Int) = bbw l (k + 1) := by
 apply qbg
 ·rw [qbM, bbw_len, bbw_len]
 ·intro i h1 h2
  simp only [bbw, qcq, qaY, qbp]
  by_cases e : k = i
  ·subst e
   rw [qah rfl, qah (by omega)]
  ·rw [qag e]
   by_cases h : i < k
   ·rw [qah h, qah (by omega)]
   ·rw [qag h, qag (by omega)]
theorem bcv_at (l : List UInt8) (k : Nat) (h : k < 256) : (ints (bcv l l.length))[k]? = some (.int .i64 ((ybT l k l.length : Nat) : Int)) := by
 rw [yao _ k (by rw [yg1]; exact h), bcv_get]
 rfl
theorem bbw_at (l : List UInt8) (k : Nat) (h : k < 256) : (ints (bbw l k))[k]? = some (.int .i64 ((ybT l k l.length : Nat) : Int)) := by
 rw [yao _ k (by rw [bbw_len]; exact h)]
 simp [bbw]
theorem bbelow_zero (l : List UInt8) : yaO l 0 = 0 := by
 unfold yaO
 rw [qc5]
 intro x _
 simp
theorem bbelow_succ (l : List UInt8) (k : Nat) : yaO l (k + 1) = yaO l k + ybT l k l.length := by
 unfold yaO ybT
 rw [qbQ]
 induction l with
 | nil => rfl
 | cons a l ih =>
  rw [qbG, qbG, qbG, ih]
  simp only [qaR]
  split <;> split <;> split <;> omega
theorem yho (l : List UInt8) (k : Nat) : yaO l k ≤ l.length := List.countP_le_length
theorem bsame_le (l : List UInt8) (b k : Nat) : ybT l b k ≤ l.length := bcv_le l k b
theorem p_below_any (l : List UInt8) (w : World) (hs : l.length ≤ 1000000) : Calls prog 197 #[.string ⟨l.toArray⟩] w fun e w' => e = .returned (.agg (ints (bbw l 256)).toArray) ∧ Below w.heap.size w w' := by
 have hz := zero_ints256.1
 rw [← bcv_zero l] at hz
 have Hset : Hid (∀ k (hk : k < l.length), ∃ (x : Nat) (b : UInt8) (c : Nat), l[k] = b ∧ b.toNat = x ∧ x < 256 ∧ c ≤ 1000000 ∧ (ints (bcv l k))[x]? = some (.int .i64 (c : Int)) ∧ (ints (bcv l k)).set x (.int .i64 ((c : Int) + 1)) = ints (bcv l (k + 1))) := qaa fun k hk => by
  have hlt := l[k].toNat_lt
  have hbl : l[k].toNat < (bcv l k).length := by rw [yg1]; exact hlt
  refine ⟨l[k].toNat, l[k], _, rfl, rfl, hlt, qaG (bcv_le l k l[k].toNat) hs, ?_, ?_⟩
  ·rw [yao _ _ hbl, bcv_get]
  ·rw [← bcv_set l k hk]
   simp [ints, qcs]
 have Hset2 : Hid (∀ k, k < 256 → ∃ (x c y : Nat), yaO l k = x ∧ yaO l (k + 1) = y ∧ y = x + c ∧ x ≤ 1000000 ∧ c ≤ 1000000 ∧ (ints (bcv l l.length))[k]? = some (.int .i64 (c : Int)) ∧ (ints (bbw l k))[k]? = some (.int .i64 (c : Int)) ∧ (ints (bbw l k)).set k (.int .i64 (x : Int)) = ints (bbw l (k + 1))) := qaa fun k hk =>
  ⟨_, _, _, rfl, rfl, bbelow_succ l k, qaG (yho l k) hs, qaG (bsame_le l k _) hs, bcv_at l k hk, bbw_at l k hk, by rw [← bbw_set l k]; simp [ints, qcs]⟩
 have Hlen : Hid (∀ k, (ints (bcv l k)).length = 256) := qaa fun k => by rw [yac, yg1]
 have Hlen2 : Hid (∀ k, (ints (bbw l k)).length = 256) := qaa fun k => by rw [yac, bbw_len]
 have Hone : Hid ((ints (bbw l 256)).toArray.all (·.oneCell') = true) := qaa (ints_one13 _)
 have Hinfo := qaa zero_ints256.2
 have Hb0 := qaa (bbelow_zero l)
 rw [bbw_zero l] at Hset2
 generalize hf : (fun k => ints (bcv l k)) = f at *
 have hf' : ∀ k, ints (bcv l k) = f k := fun k => by rw [← hf]
 generalize hf2 : (fun k => ints (bbw l k)) = f2 at *
 have hf2' : ∀ k, ints (bbw l k) = f2 k := fun k => by rw [← hf2]
 have HM : Hid (f l.length = f2 0) := qaa (by rw [← hf2', ← bbw_zero l, ← hf'])
 simp only [hf', hf2'] at *
 clear hf' hf hf2' hf2
 generalize hZ : f 0 = Z at *
 have HZ := qaa hZ
 clear hZ
 generalize hD : f2 256 = D at *
 have HD := qaa hD
 clear hD
 generalize hE : f2 0 = E at *
 have HE := qaa hE
 clear hE
 have hli : (l.length : Int) ≤ 1000000 := by omega
 go_enter func197, ntmps197
 go_wp2
 go_loopw [10] (fun i wr => ∃ k : Nat, k ≤ l.length ∧ i = .int .i64 k ∧ Hid (wr = (w.alloc (.cells Z.toArray 235)).alloc (.cells (f k).toArray 235))) (fun i _ => l.length - (intOf i).toNat)
 case atStart => exact ⟨0, by omega, rfl, qaa (by rw [HZ.out])⟩
 case round =>
  obtain ⟨k, hk, rfl, Hw⟩ := hrel
  obtain rfl := Hw.out
  by_cases hlt : k < l.length
  ·have hki : (0 : Int) ≤ (k : Int) ∧ (k : Int) < (l.length : Int) := by omega
   obtain ⟨x, b, c, e1, e2, hx, hc, hv, hs2⟩ := Hset.out k hlt
   have b1 : ∀ h, ((⟨l.toArray⟩ : ByteArray)[k]'h) = b := fun _ => e1
   have b2 : (b.toNat : Int) = (x : Int) := by omega
   have Hs := qaa hs2
   have hci : (0 : Int) ≤ (c : Int) ∧ (c : Int) ≤ 1000000 ∧ (0 : Int) ≤ (x : Int) ∧ (x : Int) < 256 := by omega
   clear e1 e2 hs2 hlt Hw hx hc
   go_wp2
   go_roundw
   case rel => exact ⟨k + 1, by omega, iv (by omega), qaa (by rw [← Hs.out])⟩
   case measure => simp only [intOf]; omega
  ·obtain rfl : k = l.length := by omega
   have hl0 := Hlen2.out 0
   rw [HE.out] at hl0
   have hi : (prog.info? 235).map (·.size) = some E.length := by rw [hl0]; exact Hinfo.out
   have Hhi := qaa hi
   have Hl0 := qaa hl0
   have hli2 : ¬ ((l.length : Nat) : Int) < (l.length : Int) := by omega
   rw [HM.out]
   clear Hw hlt hi hl0 Hset HM
   go_wp2_with (first
    | (refine wpList_load_mid rfl 235 _ rfl _ 0 rfl E _ (ygi _ _ _ _) underlying235 rfl Hhi.out ?_))
   go_loopw [5, 22] (fun t i wr => ∃ (k x : Nat), k ≤ 256 ∧ i = .int .i64 k ∧ t = .int .i64 (x : Int) ∧ Hid (yaO l k = x) ∧ Hid (wr = (w.alloc (.cells Z.toArray 235)).alloc (.cells (f2 k).toArray 235))) (fun _ i _ => 256 - (intOf i).toNat)
   case atStart => exact ⟨0, 0, by omega, rfl, rfl, Hb0, qaa (by rw [HE.out])⟩
   case round =>
    obtain ⟨k, x, hk, rfl, rfl, Hx, Hw⟩ := hrel
    obtain rfl := Hw.out
    by_cases hlt : k < 256
    ·have hki : (0 : Int) ≤ (k : Int) ∧ (k : Int) < 256 := by omega
     obtain ⟨x2, c, y, e1, e2, e3, hx, hc, hv, hv2, hs2⟩ := Hset2.out k hlt
     obtain rfl : x = x2 := by rw [← e1]; exact Hx.out.symm
     have hxi : (0 : Int) ≤ (x : Int) ∧ (x : Int) ≤ 1000000 ∧ (0 : Int) ≤ (c : Int) ∧ (c : Int) ≤ 1000000 := by omega
     have Hs := qaa hs2
     have Hy : Hid (yaO l (k + 1) = y ∧ y = x + c) := qaa ⟨e2, e3⟩
     have hix := fun W => yfx (P := prog) W 235 3 256 underlying235 underlying3 sizeOf3 E k hlt (c : Int) hv
     clear e1 e2 e3 hs2 hlt Hw hx hc Hx hk
     go_wp2
     go_roundw
     case rel => exact ⟨k + 1, y, by omega, iv (by omega), iv (by have := Hy.out.2; omega), qaa Hy.out.1, qaa (by rw [← Hs.out])⟩
     case measure => simp only [intOf]; omega
    ·obtain rfl : k = 256 := by omega
     have h1 := Hlen2.out 256
     have hz0 := Hlen.out 0
     have ho := Hone.out
     rw [HZ.out] at hz0
     rw [HD.out] at h1 ⊢
     have hi : (prog.info? 235).map (·.size) = some D.length := by rw [h1]; exact Hinfo.out
     clear Hw hlt Hhi
     have Hhi := qaa hi
     have Hz0 := qaa hz0
     have Hl1 := qaa h1
     have Hho := qaa ho
     clear hi hz0 h1 ho
     have hsz : Z.toArray.size = D.toArray.size := by simp [Hz0.out, Hl1.out]
     have Hsz := qaa hsz
     have hi2 : Hid ((prog.info? 235).map (·.size) = some D.toArray.size) := qaa (by rw [Hhi.out]; simp)
     clear hsz
     go_wp2_with (first
      | (refine wpList_load_mid rfl 235 _ rfl _ 0 rfl D _ (ygi _ _ _ _) underlying235 rfl Hhi.out ?_)
      | (refine ybV rfl 235 _ _ rfl _ _ Z.toArray D.toArray rfl rfl (heap_alloc2_old _ _ _) hi2.out Hsz.out Hho.out ?_))
     refine qaN (v := .agg D.toArray) (results_cell_row rfl _ _ _ 235 _ _ _ rfl (setRow_heap _ _ _ _ _ _ (heap_alloc2_old _ _ _)) underlying235 rfl hi2.out) rfl ⟨rfl, below_setRow (by go_grown) (qaf _) _⟩
end Go.Proofs.YtanjhbkbpalnaaaGreat
