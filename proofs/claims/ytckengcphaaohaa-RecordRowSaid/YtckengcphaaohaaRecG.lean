/-
  Layer 15, the program's: Row of records, for every row.
-/
import Derived.Test.YtckengcphaaohaaRecE
import Derived.Test.YtckengcphaaohaaRecT
namespace Go.Proofs.Ytckengcphaaohaa
set_option linter.unusedSimpArgs false
set_option linter.unusedVariables false
open Go.ChangeShapes Go.WideShapes Go.ChangeAt Go.RowKit Go.Joins Go.Deep
structure RRow (w W : World) (g b o : Nat) (x y : Int) (d : List UInt8) (u v : Int) (e : List UInt8) : Prop where
  own : Blk W g 23 #[.int .i64 x, .int .i64 y, .string ⟨d.toArray⟩]
  c0 : W.cell? ⟨b, o, none⟩ = some (.int .i64 u)
  c1 : W.cell? ⟨b, o + 1, none⟩ = some (.int .i64 v)
  c2 : W.cell? ⟨b, o + 2, none⟩ = some (.string ⟨e.toArray⟩)
  lt : b < W.heap.size
  below : Below w.heap.size w W
theorem RRow.next {w W W' : World} {g b o : Nat} {x y : Int} {d : List UInt8} {u v : Int} {e : List UInt8} (h : RRow w W g b o x y d u v e) (hb : Below W.heap.size W W') : RRow w W' g b o x y d u v e :=
  ⟨h.own.below hb h.own.lt, (hb.cell (p := ⟨b, o, none⟩) h.lt).trans h.c0, (hb.cell (p := ⟨b, o + 1, none⟩) h.lt).trans h.c1, (hb.cell (p := ⟨b, o + 2, none⟩) h.lt).trans h.c2, Nat.lt_of_lt_of_le h.lt hb.size, h.below.trans (hb.mono h.below.size)⟩
set_option maxRecDepth 100000 in
set_option maxHeartbeats 4000000 in
theorem p_rrow_any (l : List Rc) (A : Option Addr) (n c : Nat) (w : World) (hl : l.length = n) (hn : n ≤ 1000000) (hr : Reads w w.heap.size 3 A n (rcs l)) :
    Calls Try.prog 21 #[.slice A n c] w fun e w' => e = .returned (.int .i64 (rrowF l)) ∧ Below w.heap.size w w' := by
  have Hc := Lib.hid (rec_cells hr hl)
  have Hl := Lib.hid hl
  have H0 : Hid (rrowF (l.take 0) = 0) := Lib.hid rfl
  clear hr hl
  go_enter Try.func21, Try.ntmps21
  go_wp2
  go_step3
  go_wp2
  go_step3
  go_wp2
  go_loopw [3, 8] (fun ev i wr => ∃ k : Nat, k ≤ n ∧ i = .int .i64 (k : Int) ∧ ev = .int .i64 0 ∧ Hid (rrowF (l.take k) = 0) ∧ Hid (Below w.heap.size w wr)) (fun _ i _ => n - (intOf i).toNat)
  case atStart => exact ⟨0, by omega, rfl, rfl, H0, Lib.hid (Below.refl _ _)⟩
  case round =>
    obtain ⟨k, hk, rfl, rfl, HR, HB⟩ := hrel
    by_cases hlt : k < n
    · have hkl : k < l.length := by have := Hl.out; omega
      obtain ⟨b, off, rfl, hb, hcell⟩ := Hc.out k hlt
      obtain ⟨d0, d1, d2⟩ := hcell k hkl
      have c0 := (HB.out.cell (p := ⟨b, off + k * 3, none⟩) hb).trans d0
      have c1 := (HB.out.cell (p := ⟨b, off + k * 3 + 1, none⟩) hb).trans d1
      have c2 := (HB.out.cell (p := ⟨b, off + k * 3 + 2, none⟩) hb).trans d2
      have hki : (0 : Int) ≤ (k : Int) ∧ (k : Int) < (n : Int) := by omega
      have hchk := Lib.hid fun W => p_rcheck_any l[k].1 l[k].2.1 l[k].2.2 W
      by_cases hm : rmay l[k] = true
      · have e1 : rchk (l[k].1, l[k].2.1, l[k].2.2) = 0 := (rchk_yes hm).1
        rw [e1] at hchk
        by_cases hk0 : k = 0
        · subst hk0
          have H1 := Lib.hid (rrow_first hkl hm)
          clear d0 d1 d2 e1 hm hcell HR H0
          rw [Nat.zero_mul, Nat.add_zero] at c0 c1 c2
          generalize l[0].1 = x at *
          generalize l[0].2.1 = y at *
          generalize l[0].2.2 = d at *
          have HX := Lib.hid (Blk.new wr 23 #[.int .i64 x, .int .i64 y, .string ⟨d.toArray⟩])
          have HA := Lib.hid (HB.out.alloc HB.out.size (.cells #[.int .i64 x, .int .i64 y, .string ⟨d.toArray⟩] 23))
          go_wp2_with (go_at_call 13; (with_reducible refine (hchk.out _).mono ?_); rintro e w1 ⟨rfl, hb1⟩; have HB1 := Lib.hid (HA.out.trans (hb1.mono HA.out.size)); have x0 : w1.cell? ⟨wr.heap.size, 0, none⟩ = some (.int .i64 x) := (HX.out.below hb1 HX.out.lt).cell 0; clear hb1 hchk)
          go_quiet (fail)
          go_wp2
          go_roundw
          case rel => exact ⟨1, by omega, iv (by omega), rfl, H1, Lib.hid (below_drewN HB1.out _)⟩
          case measure => simp only [intOf]; omega
        · obtain ⟨p, hp⟩ : ∃ p, p + 1 = k := ⟨k - 1, by omega⟩
          obtain ⟨hpl, u0, u1, hord, hnext⟩ := rrow_step hp hkl HR.out hm
          obtain ⟨q0, q1, q2⟩ := hcell p hpl
          have hsub : (k : Int) - 1 = (p : Int) := by omega
          have hsub1 : IntKind.i64.wrap ((k : Int) - 1) = (p : Int) := by rw [IntKind.wrap_i64]; omega
          have hsub2 : IntKind.i64.wrap (p : Int) = (p : Int) := by rw [IntKind.wrap_i64]; omega
          have hpk : (0 : Int) ≤ (p : Int) ∧ (p : Int) < (n : Int) := by omega
          have hgt : decide ((0 : Int) < (k : Int)) = true := decide_eq_true (by omega)
          have hgt2 : decide (0 < k) = true := decide_eq_true (by omega)
          have hgt3 : 0 < k := by omega
          have Hord := Lib.hid hord
          have Hnext := Lib.hid hnext
          have Q0 := Lib.hid q0
          have Q1 := Lib.hid q1
          have Q2 := Lib.hid q2
          have Hp := Lib.hid hp
          have Hub := Lib.hid (And.intro u0 u1)
          clear d0 d1 d2 q0 q1 q2 e1 hm hcell HR H0 hord hnext hp hk0 u0 u1
          generalize l[k].1 = x at *
          generalize l[k].2.1 = y at *
          generalize l[k].2.2 = d at *
          generalize l[p].1 = u at *
          generalize l[p].2.1 = v at *
          generalize l[p].2.2 = e2 at *
          obtain ⟨m, hm⟩ : ∃ m, (v < y ∧ m = y) ∨ (y ≤ v ∧ m = v) := by
            by_cases h : v < y
            · exact ⟨y, Or.inl ⟨h, rfl⟩⟩
            · exact ⟨v, Or.inr ⟨by omega, rfl⟩⟩
          have Hbh := Lib.hid fun W => p_behind_any x y u v m d e2 W Hub.out.1 Hub.out.2 hm
          have heq := fun W => rrec_equal x y (u + 1) m d d W
          have hgu := rrec_guard
          obtain ⟨r, hr⟩ : ∃ r, decide (x = u + 1 ∧ y = m ∧ d = d) = r := ⟨_, rfl⟩
          rw [hr] at heq
          have HX := Lib.hid (Blk.new wr 23 #[.int .i64 x, .int .i64 y, .string ⟨d.toArray⟩])
          have HA := Lib.hid (HB.out.alloc HB.out.size (.cells #[.int .i64 x, .int .i64 y, .string ⟨d.toArray⟩] 23))
          have Hr : Hid (r = true ↔ (x = u + 1 ∧ v ≤ y)) := Lib.hid (by rw [← hr, decide_eq_true_iff]; exact ⟨fun h => ⟨h.1, by have := h.2.1; omega⟩, fun h => ⟨h.1, by have := h.2; omega, rfl⟩⟩)
          clear hm hr
          cases r
          · have HF := Lib.hid (Hord.out fun h => by have := Hr.out.2 h; cases this)
            clear Hord Hnext Hr
            go_wp2_with (go_at_call 13; (with_reducible refine (hchk.out _).mono ?_); rintro e w1 ⟨rfl, hb1⟩; have HB1 := Lib.hid (HA.out.trans (hb1.mono HA.out.size)); have HS1 : Hid (RRow w w1 wr.heap.size b (off + p * 3) x y d u v e2) := Lib.hid ⟨HX.out.below hb1 HX.out.lt, (HB1.out.cell (p := ⟨b, off + p * 3, none⟩) hb).trans Q0.out, (HB1.out.cell (p := ⟨b, off + p * 3 + 1, none⟩) hb).trans Q1.out, (HB1.out.cell (p := ⟨b, off + p * 3 + 2, none⟩) hb).trans Q2.out, Nat.lt_of_lt_of_le hb HB1.out.size, HB1.out⟩; clear hb1 hchk)
-- REG
            refine wp_region_held_drew (S := (fun W => RRow w W wr.heap.size b (off + p * 3) x y d u v e2)) (by kernel_rfl) (HS1.out.next ((Below.refl _ _).drew)) (fun hHeld => ?_)
            refine wpAnyH_take (i := 0) (oi := _) (v := ?_) rfl (by kernel_rfl) (by kernel_rfl) (by kernel_rfl) (fun _ _ _ h => h) (Or.inl ⟨by rfl, ?_⟩) hHeld ?_
            rotate_left
            · (intro wz hSw; go_simp; try (with_reducible rfl))
            try dsimp only [List.getElem_toArray, List.getElem_cons_zero, List.getElem_cons_succ]
            try simp only [Act.put, List.setIfInBounds_toArray, List.set_cons_zero, List.set_cons_succ]
            refine wpAnyH_take (i := 1) (oi := _) (v := ?_) rfl (by kernel_rfl) (by kernel_rfl) (by kernel_rfl) (fun _ _ _ h => h) (Or.inl ⟨by rfl, ?_⟩) hHeld ?_
            rotate_left
            · (intro wz hSw; go_simp; try (with_reducible rfl))
            try dsimp only [List.getElem_toArray, List.getElem_cons_zero, List.getElem_cons_succ]
            try simp only [Act.put, List.setIfInBounds_toArray, List.set_cons_zero, List.set_cons_succ]
            refine wpAnyH_take (i := 2) (oi := _) (v := ?_) rfl (by kernel_rfl) (by kernel_rfl) (by kernel_rfl) (fun _ _ _ h => h) (Or.inl ⟨by rfl, ?_⟩) hHeld ?_
            rotate_left
            · (intro wz hSw; go_simp; try (with_reducible rfl))
            try dsimp only [List.getElem_toArray, List.getElem_cons_zero, List.getElem_cons_succ]
            try simp only [Act.put, List.setIfInBounds_toArray, List.set_cons_zero, List.set_cons_succ]
            refine wpAnyH_take (i := 3) (oi := _) (v := ?_) rfl (by kernel_rfl) (by kernel_rfl) (by kernel_rfl) (fun _ _ _ h => h) (Or.inl ⟨by rfl, ?_⟩) hHeld ?_
            rotate_left
            · (intro wz hSw; have k0 := hSw.own.cell 0; have k1 := hSw.own.cell 1; have k2 := hSw.own.cell 2; simp only [List.getElem?_toArray, List.getElem?_cons_zero, List.getElem?_cons_succ] at k0 k1 k2; go_simp; try (with_reducible rfl))
            try dsimp only [List.getElem_toArray, List.getElem_cons_zero, List.getElem_cons_succ]
            try simp only [Act.put, List.setIfInBounds_toArray, List.set_cons_zero, List.set_cons_succ]
            refine wpAnyH_take (i := 9) (oi := _) (v := ?_) rfl (by kernel_rfl) (by kernel_rfl) (by kernel_rfl) (fun _ _ _ h => h) (Or.inl ⟨by rfl, ?_⟩) hHeld ?_
            rotate_left
            · (intro wz hSw; have k0 := hSw.own.cell 0; have k1 := hSw.own.cell 1; have k2 := hSw.own.cell 2; simp only [List.getElem?_toArray, List.getElem?_cons_zero, List.getElem?_cons_succ] at k0 k1 k2; go_simp; try (with_reducible rfl))
            try dsimp only [List.getElem_toArray, List.getElem_cons_zero, List.getElem_cons_succ]
            try simp only [Act.put, List.setIfInBounds_toArray, List.set_cons_zero, List.set_cons_succ]
            refine wpAnyH_take (i := 4) (oi := _) (v := ?_) rfl (by kernel_rfl) (by kernel_rfl) (by kernel_rfl) (fun _ _ _ h => h) (Or.inl ⟨by rfl, ?_⟩) hHeld ?_
            rotate_left
            · (intro wz hSw; go_simp; try (with_reducible rfl))
            try dsimp only [List.getElem_toArray, List.getElem_cons_zero, List.getElem_cons_succ]
            try simp only [Act.put, List.setIfInBounds_toArray, List.set_cons_zero, List.set_cons_succ]
            refine wpAnyH_take (i := 5) (oi := _) (v := ?_) rfl (by kernel_rfl) (by kernel_rfl) (by kernel_rfl) (fun _ _ _ h => h) (Or.inl ⟨by rfl, ?_⟩) hHeld ?_
            rotate_left
            · (intro wz hSw; go_simp; try (with_reducible rfl))
            try dsimp only [List.getElem_toArray, List.getElem_cons_zero, List.getElem_cons_succ]
            try simp only [Act.put, List.setIfInBounds_toArray, List.set_cons_zero, List.set_cons_succ]
            refine wpAnyH_take (i := 6) (oi := _) (v := ?_) rfl (by kernel_rfl) (by kernel_rfl) (by kernel_rfl) (fun _ _ _ h => h) (Or.inl ⟨by rfl, ?_⟩) hHeld ?_
            rotate_left
            · (intro wz hSw; go_simp; try (with_reducible rfl))
            try dsimp only [List.getElem_toArray, List.getElem_cons_zero, List.getElem_cons_succ]
            try simp only [Act.put, List.setIfInBounds_toArray, List.set_cons_zero, List.set_cons_succ]
            refine wpAnyH_take (i := 7) (oi := _) (v := ?_) rfl (by kernel_rfl) (by kernel_rfl) (by kernel_rfl) (fun _ _ _ h => h) (Or.inl ⟨by rfl, ?_⟩) hHeld ?_
            rotate_left
            · (intro wz hSw; go_simp; try (with_reducible rfl))
            try dsimp only [List.getElem_toArray, List.getElem_cons_zero, List.getElem_cons_succ]
            try simp only [Act.put, List.setIfInBounds_toArray, List.set_cons_zero, List.set_cons_succ]
            refine wpAnyH_take (i := 8) (oi := _) (v := ?_) rfl (by kernel_rfl) (by kernel_rfl) (by kernel_rfl) (fun _ _ _ h => h) (Or.inl ⟨by rfl, ?_⟩) hHeld ?_
            rotate_left
            · (intro wz hSw; have k0 := hSw.c0; have k1 := hSw.c1; have k2 := hSw.c2; go_simp; try (with_reducible rfl))
            try dsimp only [List.getElem_toArray, List.getElem_cons_zero, List.getElem_cons_succ]
            try simp only [Act.put, List.setIfInBounds_toArray, List.set_cons_zero, List.set_cons_succ]
            refine wpAnyH_ready (rs := [10]) (by kernel_rfl) (by simp) ?_
            refine AllReadyH.cons (o := _) rfl (fun K hK => ?_) AllReadyH.nil
            go_simp
            go_at_call 32
            (with_reducible refine (Hbh.out _).mono ?_)
            rintro e w2 ⟨rfl, hb1⟩
            refine hK.out _ _ (hHeld.next hb1) (fun hH => ?_)
            clear hHeld hK K hb1
            have hHeld := hH
            clear hH
            try dsimp only [List.getElem_toArray, List.getElem_cons_zero, List.getElem_cons_succ]
            try simp only [Act.put, List.setIfInBounds_toArray, List.set_cons_zero, List.set_cons_succ]
            refine wpAnyH_take (i := 11) (oi := _) (v := ?_) rfl (by kernel_rfl) (by kernel_rfl) (by kernel_rfl) (fun _ _ _ h => h) (Or.inl ⟨by rfl, ?_⟩) hHeld ?_
            rotate_left
            · (intro wz hSw; go_simp; try (with_reducible rfl))
            try dsimp only [List.getElem_toArray, List.getElem_cons_zero, List.getElem_cons_succ]
            try simp only [Act.put, List.setIfInBounds_toArray, List.set_cons_zero, List.set_cons_succ]
            refine wpAnyH_take (i := 12) (oi := _) (v := ?_) rfl (by kernel_rfl) (by kernel_rfl) (by kernel_rfl) (fun _ _ _ h => h) (Or.inl ⟨by rfl, ?_⟩) hHeld ?_
            rotate_left
            · (intro wz hSw; go_simp; try (with_reducible rfl))
            try dsimp only [List.getElem_toArray, List.getElem_cons_zero, List.getElem_cons_succ]
            try simp only [Act.put, List.setIfInBounds_toArray, List.set_cons_zero, List.set_cons_succ]
            refine wpAnyH_take (i := 13) (oi := _) (v := ?_) rfl (by kernel_rfl) (by kernel_rfl) (by kernel_rfl) (fun _ _ _ h => h) (Or.inl ⟨by rfl, ?_⟩) hHeld ?_
            rotate_left
            · (intro wz hSw; go_simp; try (with_reducible rfl))
            try dsimp only [List.getElem_toArray, List.getElem_cons_zero, List.getElem_cons_succ]
            try simp only [Act.put, List.setIfInBounds_toArray, List.set_cons_zero, List.set_cons_succ]
            refine wpAnyH_done (by kernel_rfl) ?_ _
            have HB2 := Lib.hid hHeld.below
            clear hHeld HS1
            go_wp2
            rw [Exit.noGoto_ret]
            go_ret
            exact ⟨by rw [HF.out]; rfl, HB2.out⟩
-- END REG
          · have H1 := Lib.hid (Hnext.out (Hr.out.1 rfl))
            clear Hord Hnext Hr
            go_wp2_with (go_at_call 13; (with_reducible refine (hchk.out _).mono ?_); rintro e w1 ⟨rfl, hb1⟩; have HB1 := Lib.hid (HA.out.trans (hb1.mono HA.out.size)); have HS1 : Hid (RRow w w1 wr.heap.size b (off + p * 3) x y d u v e2) := Lib.hid ⟨HX.out.below hb1 HX.out.lt, (HB1.out.cell (p := ⟨b, off + p * 3, none⟩) hb).trans Q0.out, (HB1.out.cell (p := ⟨b, off + p * 3 + 1, none⟩) hb).trans Q1.out, (HB1.out.cell (p := ⟨b, off + p * 3 + 2, none⟩) hb).trans Q2.out, Nat.lt_of_lt_of_le hb HB1.out.size, HB1.out⟩; clear hb1 hchk)
-- REG
            refine wp_region_held_drew (S := (fun W => RRow w W wr.heap.size b (off + p * 3) x y d u v e2)) (by kernel_rfl) (HS1.out.next ((Below.refl _ _).drew)) (fun hHeld => ?_)
            refine wpAnyH_take (i := 0) (oi := _) (v := ?_) rfl (by kernel_rfl) (by kernel_rfl) (by kernel_rfl) (fun _ _ _ h => h) (Or.inl ⟨by rfl, ?_⟩) hHeld ?_
            rotate_left
            · (intro wz hSw; go_simp; try (with_reducible rfl))
            try dsimp only [List.getElem_toArray, List.getElem_cons_zero, List.getElem_cons_succ]
            try simp only [Act.put, List.setIfInBounds_toArray, List.set_cons_zero, List.set_cons_succ]
            refine wpAnyH_take (i := 1) (oi := _) (v := ?_) rfl (by kernel_rfl) (by kernel_rfl) (by kernel_rfl) (fun _ _ _ h => h) (Or.inl ⟨by rfl, ?_⟩) hHeld ?_
            rotate_left
            · (intro wz hSw; go_simp; try (with_reducible rfl))
            try dsimp only [List.getElem_toArray, List.getElem_cons_zero, List.getElem_cons_succ]
            try simp only [Act.put, List.setIfInBounds_toArray, List.set_cons_zero, List.set_cons_succ]
            refine wpAnyH_take (i := 2) (oi := _) (v := ?_) rfl (by kernel_rfl) (by kernel_rfl) (by kernel_rfl) (fun _ _ _ h => h) (Or.inl ⟨by rfl, ?_⟩) hHeld ?_
            rotate_left
            · (intro wz hSw; go_simp; try (with_reducible rfl))
            try dsimp only [List.getElem_toArray, List.getElem_cons_zero, List.getElem_cons_succ]
            try simp only [Act.put, List.setIfInBounds_toArray, List.set_cons_zero, List.set_cons_succ]
            refine wpAnyH_take (i := 3) (oi := _) (v := ?_) rfl (by kernel_rfl) (by kernel_rfl) (by kernel_rfl) (fun _ _ _ h => h) (Or.inl ⟨by rfl, ?_⟩) hHeld ?_
            rotate_left
            · (intro wz hSw; have k0 := hSw.own.cell 0; have k1 := hSw.own.cell 1; have k2 := hSw.own.cell 2; simp only [List.getElem?_toArray, List.getElem?_cons_zero, List.getElem?_cons_succ] at k0 k1 k2; go_simp; try (with_reducible rfl))
            try dsimp only [List.getElem_toArray, List.getElem_cons_zero, List.getElem_cons_succ]
            try simp only [Act.put, List.setIfInBounds_toArray, List.set_cons_zero, List.set_cons_succ]
            refine wpAnyH_take (i := 9) (oi := _) (v := ?_) rfl (by kernel_rfl) (by kernel_rfl) (by kernel_rfl) (fun _ _ _ h => h) (Or.inl ⟨by rfl, ?_⟩) hHeld ?_
            rotate_left
            · (intro wz hSw; have k0 := hSw.own.cell 0; have k1 := hSw.own.cell 1; have k2 := hSw.own.cell 2; simp only [List.getElem?_toArray, List.getElem?_cons_zero, List.getElem?_cons_succ] at k0 k1 k2; go_simp; try (with_reducible rfl))
            try dsimp only [List.getElem_toArray, List.getElem_cons_zero, List.getElem_cons_succ]
            try simp only [Act.put, List.setIfInBounds_toArray, List.set_cons_zero, List.set_cons_succ]
            refine wpAnyH_take (i := 4) (oi := _) (v := ?_) rfl (by kernel_rfl) (by kernel_rfl) (by kernel_rfl) (fun _ _ _ h => h) (Or.inl ⟨by rfl, ?_⟩) hHeld ?_
            rotate_left
            · (intro wz hSw; go_simp; try (with_reducible rfl))
            try dsimp only [List.getElem_toArray, List.getElem_cons_zero, List.getElem_cons_succ]
            try simp only [Act.put, List.setIfInBounds_toArray, List.set_cons_zero, List.set_cons_succ]
            refine wpAnyH_take (i := 5) (oi := _) (v := ?_) rfl (by kernel_rfl) (by kernel_rfl) (by kernel_rfl) (fun _ _ _ h => h) (Or.inl ⟨by rfl, ?_⟩) hHeld ?_
            rotate_left
            · (intro wz hSw; go_simp; try (with_reducible rfl))
            try dsimp only [List.getElem_toArray, List.getElem_cons_zero, List.getElem_cons_succ]
            try simp only [Act.put, List.setIfInBounds_toArray, List.set_cons_zero, List.set_cons_succ]
            refine wpAnyH_take (i := 6) (oi := _) (v := ?_) rfl (by kernel_rfl) (by kernel_rfl) (by kernel_rfl) (fun _ _ _ h => h) (Or.inl ⟨by rfl, ?_⟩) hHeld ?_
            rotate_left
            · (intro wz hSw; go_simp; try (with_reducible rfl))
            try dsimp only [List.getElem_toArray, List.getElem_cons_zero, List.getElem_cons_succ]
            try simp only [Act.put, List.setIfInBounds_toArray, List.set_cons_zero, List.set_cons_succ]
            refine wpAnyH_take (i := 7) (oi := _) (v := ?_) rfl (by kernel_rfl) (by kernel_rfl) (by kernel_rfl) (fun _ _ _ h => h) (Or.inl ⟨by rfl, ?_⟩) hHeld ?_
            rotate_left
            · (intro wz hSw; go_simp; try (with_reducible rfl))
            try dsimp only [List.getElem_toArray, List.getElem_cons_zero, List.getElem_cons_succ]
            try simp only [Act.put, List.setIfInBounds_toArray, List.set_cons_zero, List.set_cons_succ]
            refine wpAnyH_take (i := 8) (oi := _) (v := ?_) rfl (by kernel_rfl) (by kernel_rfl) (by kernel_rfl) (fun _ _ _ h => h) (Or.inl ⟨by rfl, ?_⟩) hHeld ?_
            rotate_left
            · (intro wz hSw; have k0 := hSw.c0; have k1 := hSw.c1; have k2 := hSw.c2; go_simp; try (with_reducible rfl))
            try dsimp only [List.getElem_toArray, List.getElem_cons_zero, List.getElem_cons_succ]
            try simp only [Act.put, List.setIfInBounds_toArray, List.set_cons_zero, List.set_cons_succ]
            refine wpAnyH_ready (rs := [10]) (by kernel_rfl) (by simp) ?_
            refine AllReadyH.cons (o := _) rfl (fun K hK => ?_) AllReadyH.nil
            go_simp
            go_at_call 32
            (with_reducible refine (Hbh.out _).mono ?_)
            rintro e w2 ⟨rfl, hb1⟩
            refine hK.out _ _ (hHeld.next hb1) (fun hH => ?_)
            clear hHeld hK K hb1
            have hHeld := hH
            clear hH
            try dsimp only [List.getElem_toArray, List.getElem_cons_zero, List.getElem_cons_succ]
            try simp only [Act.put, List.setIfInBounds_toArray, List.set_cons_zero, List.set_cons_succ]
            refine wpAnyH_take (i := 11) (oi := _) (v := ?_) rfl (by kernel_rfl) (by kernel_rfl) (by kernel_rfl) (fun _ _ _ h => h) (Or.inl ⟨by rfl, ?_⟩) hHeld ?_
            rotate_left
            · (intro wz hSw; go_simp; try (with_reducible rfl))
            try dsimp only [List.getElem_toArray, List.getElem_cons_zero, List.getElem_cons_succ]
            try simp only [Act.put, List.setIfInBounds_toArray, List.set_cons_zero, List.set_cons_succ]
            refine wpAnyH_take (i := 12) (oi := _) (v := ?_) rfl (by kernel_rfl) (by kernel_rfl) (by kernel_rfl) (fun _ _ _ h => h) (Or.inl ⟨by rfl, ?_⟩) hHeld ?_
            rotate_left
            · (intro wz hSw; go_simp; try (with_reducible rfl))
            try dsimp only [List.getElem_toArray, List.getElem_cons_zero, List.getElem_cons_succ]
            try simp only [Act.put, List.setIfInBounds_toArray, List.set_cons_zero, List.set_cons_succ]
            refine wpAnyH_take (i := 13) (oi := _) (v := ?_) rfl (by kernel_rfl) (by kernel_rfl) (by kernel_rfl) (fun _ _ _ h => h) (Or.inl ⟨by rfl, ?_⟩) hHeld ?_
            rotate_left
            · (intro wz hSw; go_simp; try (with_reducible rfl))
            try dsimp only [List.getElem_toArray, List.getElem_cons_zero, List.getElem_cons_succ]
            try simp only [Act.put, List.setIfInBounds_toArray, List.set_cons_zero, List.set_cons_succ]
            refine wpAnyH_done (by kernel_rfl) ?_ _
            have HB2 := Lib.hid hHeld.below
            clear hHeld HS1
            go_wp2
            go_roundw
            case rel => exact ⟨k + 1, by omega, iv (by omega), rfl, H1, HB2⟩
            case measure => simp only [intOf]; omega
-- END REG
      · have e1 : rchk (l[k].1, l[k].2.1, l[k].2.2) = 150 := (rchk_no hm).1
        rw [e1] at hchk
        have HF := Lib.hid (rrow_bad hkl HR.out hm)
        clear d0 d1 d2 e1 hm hcell HR H0
        generalize l[k].1 = x at *
        generalize l[k].2.1 = y at *
        generalize l[k].2.2 = d at *
        have HA := Lib.hid (HB.out.alloc HB.out.size (.cells #[.int .i64 x, .int .i64 y, .string ⟨d.toArray⟩] 23))
        go_wp2_with (go_at_call 13; (with_reducible refine (hchk.out _).mono ?_); rintro e w1 ⟨rfl, hb1⟩; have HB1 := Lib.hid (HA.out.trans (hb1.mono HA.out.size)); clear hb1 hchk)
        rw [Exit.noGoto_ret]
        go_ret
        exact ⟨by rw [HF.out]; rfl, HB1.out⟩
    · obtain rfl : k = n := by omega
      have e : rrowF l = 0 := by
        have h := HR.out
        rwa [List.take_of_length_le (by have := Hl.out; omega)] at h
      have HF := Lib.hid e
      clear e
      go_wp2
      rw [Exit.noGoto_ret]
      go_ret
      exact ⟨by rw [HF.out]; rfl, HB.out⟩
end Go.Proofs.Ytckengcphaaohaa
