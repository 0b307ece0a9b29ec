/-
  Any calls of a disk are answered as the document says, and its names, files, and what is left of them, are what it says; the layer's probe holds (DiskPlays). No condition.
-/
import Derived.Test.YtgoahcmgpjacjaaGreatDisPl
import Derived.Test.YtgoahcmgpjacjaaGreatGa
namespace Go.Proofs.YtgoahcmgpjacjaaGreat
set_option linter.unusedSimpArgs false
set_option linter.unusedVariables false
open Go.ChangeShapes Go.WideShapes Go.ChangeAt Go.RowKit Go.Joins Go.Deep
set_option maxRecDepth 100000 in
set_option maxHeartbeats 16000000 in
theorem diskPlays_a (cap : Int) (l : List Ac) (A : Option Addr) (c : Nat) (w : World) (hl : l.length ≤ maxLen) (hr : Reads w w.heap.size 7 A l.length (dcs acf l)) (hx : ∀ x ∈ l, AcOk w w.heap.size x) (h1 : ¬ Few20 l) : Calls Tryz.prog 3 #[.int .i64 cap, .slice A l.length c] w fun e w' => e = .returned (.bool true) ∧ Below w.heap.size w w' := by
  have C1 := Lib.hid (law_few_any l A c false w hl hr hx (fun h => absurd h h1) (fun _ => rfl))
  have HB := Lib.hid (Below.refl w.heap.size w)
  clear hl hr hx h1
  go_enter Tryz.func3, Tryz.ntmps3
  go_wp2_with (first | (go_at_call 4; (with_reducible refine C1.out.mono ?_); rintro e w1 ⟨rfl, hw1⟩; obtain rfl := hw1.symm) | (go_at_call 5; refine (awake20_any _).mono ?_; rintro e w9 ⟨rfl, hb⟩; replace HB := Lib.hid (HB.out.trans (hb.mono HB.out.size)); clear hb) | fail)
  go_ret
  exact ⟨rfl, HB.out⟩
set_option maxRecDepth 100000 in
set_option maxHeartbeats 16000000 in
theorem diskPlays_b (cap : Int) (l : List Ac) (A : Option Addr) (c : Nat) (w : World) (hl : l.length ≤ maxLen) (hr : Reads w w.heap.size 7 A l.length (dcs acf l)) (hx : ∀ x ∈ l, AcOk w w.heap.size x) (h1 : Few20 l) (h3 : ¬ (0 ≤ cap ∧ cap ≤ 10000000)) : Calls Tryz.prog 3 #[.int .i64 cap, .slice A l.length c] w fun e w' => e = .returned (.bool true) ∧ Below w.heap.size w w' := by
  have C1 := Lib.hid (law_few_any l A c true w hl hr hx (fun _ => rfl) (fun h => absurd h1 h))
  have PN := Lib.hid fun W => p_dnew_no cap W h3
  have PR := fun W => dref_new_any cap W
  rw [decide_eq_false h3] at PR
  unfold dkc dnew at PR
  dsimp only [List.length_nil] at PR
  replace PR := Lib.hid PR
  have HB := Lib.hid (Below.refl w.heap.size w)
  clear hl hr hx h1
  go_enter Tryz.func3, Tryz.ntmps3
  go_wp2_with (first | (go_at_call 4; (with_reducible refine C1.out.mono ?_); rintro e w1 ⟨rfl, hw1⟩; obtain rfl := hw1.symm) | (go_at_call 6; (with_reducible refine (PN.out _).mono ?_); rintro e w3 ⟨rfl, hb⟩; replace HB := Lib.hid (HB.out.trans (hb.mono HB.out.size)); clear hb) | (go_at_call 7; (with_reducible refine (PR.out _).mono ?_); rintro e w4 ⟨rfl, hb⟩; replace HB := Lib.hid ((HB.out.trans (hb.mono HB.out.size)).alloc (HB.out.trans (hb.mono HB.out.size)).size (.cells #[.slice none 0 0, .slice none 0 0, .slice none 0 0, .slice none 0 0, .int .i64 cap, .int .i64 0, .int .i64 0, .bool false] 33)); clear hb) | (go_at_call 5; refine (awake20_any _).mono ?_; rintro e w9 ⟨rfl, hb⟩; replace HB := Lib.hid (HB.out.trans (hb.mono HB.out.size)); clear hb) | fail)
  go_ret
  exact ⟨rfl, HB.out⟩
set_option maxRecDepth 100000 in
set_option maxHeartbeats 64000000 in
theorem diskPlays_e (cap : Int) (l : List Ac) (A : Option Addr) (c : Nat) (w : World) (hl : l.length ≤ maxLen) (hr : Reads w w.heap.size 7 A l.length (dcs acf l)) (hx : ∀ x ∈ l, AcOk w w.heap.size x) (h1 : Few20 l) (h3 : 0 ≤ cap ∧ cap ≤ 10000000) : Calls Tryz.prog 3 #[.int .i64 cap, .slice A l.length c] w fun e w' => e = .returned (.bool true) ∧ Below w.heap.size w w' := by
  have C1 := Lib.hid (law_few_any l A c true w hl hr hx (fun _ => rfl) (fun h => absurd h1 h))
  have PN := Lib.hid fun W => p_dnew_yes cap W h3
  have PR := fun W => dref_new_any cap W
  rw [decide_eq_true h3] at PR
  have HMn := Lib.hid fun W => dnew_mem W cap
  have HSm0 := Lib.hid (dsm_new cap h3)
  unfold dkc dnew at PR
  dsimp only [List.length_nil] at PR
  replace PR := Lib.hid PR
  have HC : Hid (0 < l.length → ∃ b off, A = some ⟨b, off, none⟩ ∧ b < w.heap.size ∧ ∀ i (hi : i < l.length), ∀ j u, (acf l[i])[j]? = some u → w.cell? ⟨b, off + i * 7 + j, none⟩ = some u) := Lib.hid fun h => act_cells hr rfl h
  have HX : Hid (∀ j (hj : j < l.length), AcOk w w.heap.size l[j] ∧ AcFew l[j]) := Lib.hid fun j hj => ⟨hx _ (List.getElem_mem hj), h1.2 _ (List.getElem_mem hj)⟩
  have hn60 := h1.1
  obtain ⟨n, hln⟩ : ∃ n, l.length = n := ⟨_, rfl⟩
  have HL := Lib.hid hln
  rw [hln] at C1 hn60 ⊢
  clear hl hr hx h1 hln
  go_enter Tryz.func3, Tryz.ntmps3
  go_wp2_with (first | (go_at_call 4; (with_reducible refine C1.out.mono ?_); rintro e w1 ⟨rfl, hw1⟩; obtain rfl := hw1.symm) | (go_at_call 6; (with_reducible refine (PN.out _).mono ?_); rintro e w3 ⟨g, S0, rfl, hd, hs, hb⟩; have HA0 := Lib.hid (DAt.mk hd HSm0.out hs hb : DAt w w3 S0 g (dnew cap) 0); clear hd hs hb PN) | (go_at_call 7; (with_reducible refine (PR.out _).mono ?_); rintro e w4 ⟨rfl, hb⟩; replace HA0 := Lib.hid (HA0.out.on hb); clear hb PR) | fail)
  have HP0 : Hid (DPl w (w4.alloc (.cells #[.slice none 0 0, .slice none 0 0, .slice none 0 0, .slice none 0 0, .int .i64 cap, .int .i64 0, .int .i64 0, .bool false] 33)) S0 g w4.heap.size (dnew cap) (dnew cap) dnone (dnew cap) dnone 0) := Lib.hid ⟨HA0.out.on ((Below.refl _ _).alloc (Nat.le_refl _) _), Blk.new w4 _ _, HMn.out _, ⟨fun p e => by (cases e), fun p e => by (cases e), fun p e => by (cases e), fun p e => by (cases e)⟩, fun hk => Nat.lt_irrefl _ (HA0.out.dr.lt _ hk), HA0.out.below.size⟩
  clear HA0 HMn HSm0
  generalize w4.heap.size = gr at *
  go_loopw [9, 10, 11] (fun iv _ _ wr => ∃ (i : Nat) (S : Nat → Prop) (E : Dk) (a : DAd), i ≤ n ∧ iv = .int .i64 (i : Int) ∧ Hid (DPl w wr S g gr E E a E a i)) (fun iv _ _ _ => n - (intOf iv).toNat)
  case atStart => exact ⟨0, S0, dnew cap, dnone, by omega, rfl, HP0⟩
  case round =>
    clear HP0
    obtain ⟨i, S, E, a, hi, rfl, HP⟩ := hrel
    by_cases hlt : i < n
    · have hil : i < l.length := by have := HL.out; omega
      obtain ⟨b, off, rfl, hb, hcell⟩ := HC.out (by omega)
      obtain ⟨hok, hfew⟩ := HX.out i hil
      have hcl : ∀ W, Below w.heap.size w W → ∀ j u, (acf l[i])[j]? = some u → W.cell? ⟨b, off + i * 7 + j, none⟩ = some u := fun W hW j u hu => (hW.cell (p := ⟨b, off + i * 7 + j, none⟩) hb).trans (hcell i hil j u hu)
      have hii : (0 : Int) ≤ (i : Int) ∧ (i : Int) < (n : Int) := by omega
      generalize l[i] = x at *
      have HDo : Hid (∀ W S', DAt w W S' g E i → Calls Tryz.prog 9 #[.pointer (some ⟨g, 0, none⟩), .agg (acf x).toArray] W fun e w' => e = .returned (.int .i64 (dDoF E x).2) ∧ DOp W w' S' g (dDoF E x).1) := Lib.hid fun W S' h => dwh_do h (Below.refl _ _) (by omega) x hok hfew
      have HRd : Hid (∀ W, Below wr.heap.size wr W → Calls Tryz.prog 8 #[.agg (dkc E a), .agg (acf x).toArray] W fun e w' => DPost a W w' e (dDoF E x)) := Lib.hid fun W h => law_rd_any x W (HP.out.on h).mem (HP.out.disk.sm.more (by omega)) ((hok.on (HP.out.on h).disk.below).more (HP.out.on h).disk.below.size) hfew
      have HSm2 := Lib.hid (dsm_do HP.out.disk.sm x hok.num.2)
      have HCl := Lib.hid hcl
      have HSl := Lib.hid HP.out.disk.dr.lt
      have hgl : gr < wr.heap.size := HP.out.box.lt
      have hbx := HP.out.box
      obtain ⟨kind, nn, s, u, dir, cuts, marks, cA, cc, mA, mc⟩ := x
      dsimp only [acf] at HDo HRd
      generalize hR : dDoF E ⟨kind, nn, s, u, dir, cuts, marks, cA, cc, mA, mc⟩ = R at *
      clear hR
      obtain ⟨F, m⟩ := R
      dsimp only at HDo HSm2
      unfold DPost at HRd
      dsimp only at HRd
      unfold dkc at HRd hbx
      try dsimp only at HRd
      have x0 := hbx.cell 0; have x1 := hbx.cell 1; have x2 := hbx.cell 2; have x3 := hbx.cell 3; have x4 := hbx.cell 4; have x5 := hbx.cell 5; have x6 := hbx.cell 6; have x7 := hbx.cell 7; simp only [List.getElem?_toArray, List.getElem?_cons_zero, List.getElem?_cons_succ] at x0 x1 x2 x3 x4 x5 x6 x7
      have HSa : Hid (∀ W S' a', DPl w W S' g gr F F a' F a' (i + 1) → Calls Tryz.prog 10 #[.pointer (some ⟨g, 0, none⟩), .agg #[.slice a'.a1 F.files.length a'.c1, .slice a'.a2 F.dir.length a'.c2, .slice a'.a3 F.safe.length a'.c3, .slice a'.a4 F.chg.length a'.c4, .int .i64 F.cap, .int .i64 F.ops, .int .i64 F.armed, .bool F.dead]] W fun e w' => e = .returned (.bool true) ∧ Below W.heap.size W w') := Lib.hid fun W S' a' h => law_sm_any W h.disk.dr (h.disk.sm.more (by omega)) h.mem
      have hmm : (m != m) = false := by simp
      clear hcl hok hfew hcell hb hbx HC HX
      go_wp2
      refine wp_region_held_drew (S := (fun W9 => Below wr.heap.size wr W9)) (by kernel_rfl) ((Below.refl _ _).drew) (fun hHeld => ?_)
      refine wpAnyH_take (i := 0) (oi := _) (v := ?_) rfl (by kernel_rfl) (by kernel_rfl) (by kernel_rfl) (fun _ _ _ h => h) (Or.inl ⟨by rfl, ?_⟩) hHeld ?_
      rotate_left
      · (intro wz hSw; have k0 := (hSw.cell (p := ⟨gr, 0, none⟩) hgl).trans x0; have k1 := (hSw.cell (p := ⟨gr, 1, none⟩) hgl).trans x1; have k2 := (hSw.cell (p := ⟨gr, 2, none⟩) hgl).trans x2; have k3 := (hSw.cell (p := ⟨gr, 3, none⟩) hgl).trans x3; have k4 := (hSw.cell (p := ⟨gr, 4, none⟩) hgl).trans x4; have k5 := (hSw.cell (p := ⟨gr, 5, none⟩) hgl).trans x5; have k6 := (hSw.cell (p := ⟨gr, 6, none⟩) hgl).trans x6; have k7 := (hSw.cell (p := ⟨gr, 7, none⟩) hgl).trans x7; go_simp; try (with_reducible rfl))
      (try dsimp only [List.getElem_toArray, List.getElem_cons_zero, List.getElem_cons_succ]); (try simp only [Act.put, List.setIfInBounds_toArray, List.set_cons_zero, List.set_cons_succ])
      refine wpAnyH_take (i := 1) (oi := _) (v := ?_) rfl (by kernel_rfl) (by kernel_rfl) (by kernel_rfl) (fun _ _ _ h => h) (Or.inl ⟨by rfl, ?_⟩) hHeld ?_
      rotate_left
      · (intro wz hSw; go_simp; try (with_reducible rfl))
      (try dsimp only [List.getElem_toArray, List.getElem_cons_zero, List.getElem_cons_succ]); (try simp only [Act.put, List.setIfInBounds_toArray, List.set_cons_zero, List.set_cons_succ])
      refine wpAnyH_take (i := 2) (oi := _) (v := ?_) rfl (by kernel_rfl) (by kernel_rfl) (by kernel_rfl) (fun _ _ _ h => h) (Or.inl ⟨by rfl, ?_⟩) hHeld ?_
      rotate_left
      · (intro wz hSw; go_simp; try (with_reducible rfl))
      (try dsimp only [List.getElem_toArray, List.getElem_cons_zero, List.getElem_cons_succ]); (try simp only [Act.put, List.setIfInBounds_toArray, List.set_cons_zero, List.set_cons_succ])
      refine wpAnyH_take (i := 3) (oi := _) (v := ?_) rfl (by kernel_rfl) (by kernel_rfl) (by kernel_rfl) (fun _ _ _ h => h) (Or.inl ⟨by rfl, ?_⟩) hHeld ?_
      rotate_left
      · (intro wz hSw; go_simp; try (with_reducible rfl))
      (try dsimp only [List.getElem_toArray, List.getElem_cons_zero, List.getElem_cons_succ]); (try simp only [Act.put, List.setIfInBounds_toArray, List.set_cons_zero, List.set_cons_succ])
      refine wpAnyH_take (i := 4) (oi := _) (v := ?_) rfl (by kernel_rfl) (by kernel_rfl) (by kernel_rfl) (fun _ _ _ h => h) (Or.inl ⟨by rfl, ?_⟩) hHeld ?_
      rotate_left
      · (intro wz hSw; have hct := HCl.out _ (HP.out.disk.below.trans (hSw.mono HP.out.disk.below.size)); have c0 := hct 0 _ rfl; have c1 := hct 1 _ rfl; have c2 := hct 2 _ rfl; have c3 := hct 3 _ rfl; have c4 := hct 4 _ rfl; have c5 := hct 5 _ rfl; have c6 := hct 6 _ rfl; dsimp only [acf] at c0 c1 c2 c3 c4 c5 c6; rw [Nat.add_zero] at c0; go_simp; try (with_reducible rfl))
      (try dsimp only [List.getElem_toArray, List.getElem_cons_zero, List.getElem_cons_succ]); (try simp only [Act.put, List.setIfInBounds_toArray, List.set_cons_zero, List.set_cons_succ])
      refine wpAnyH_ready (rs := [5, 9]) (by kernel_rfl) (by simp) ?_
      refine AllReadyH.cons (o := _) rfl (fun K hK => ?_) ?_
      · skip
        go_simp
        go_at_call 8
        (with_reducible refine (HRd.out _ hHeld).mono ?_)
        rintro e w5 ⟨a5, rfl, hm5, hb1, hn5⟩
        have HP5 := Lib.hid ((HP.out.on hHeld).ref hb1 hm5 hn5)
        (try replace HT := Lib.hid (HT.out.below hb1 HT.out.lt))
        (try unfold dkc)
        (try dsimp only)
        clear hm5 hn5
        refine hK.out _ _ (hHeld.trans (hb1.mono hHeld.size)) (fun hH => ?_)
        clear hHeld hK K hb1
        have hHeld := hH
        clear hH
        (try dsimp only [List.getElem_toArray, List.getElem_cons_zero, List.getElem_cons_succ]); (try simp only [Act.put, List.setIfInBounds_toArray, List.set_cons_zero, List.set_cons_succ])
        refine wpAnyH_take (i := 6) (oi := _) (v := ?_) rfl (by kernel_rfl) (by kernel_rfl) (by kernel_rfl) (fun _ _ _ h => h) (Or.inl ⟨by rfl, ?_⟩) hHeld ?_
        rotate_left
        · (intro wz hSw; go_simp; try (with_reducible rfl))
        (try dsimp only [List.getElem_toArray, List.getElem_cons_zero, List.getElem_cons_succ]); (try simp only [Act.put, List.setIfInBounds_toArray, List.set_cons_zero, List.set_cons_succ])
        refine wpAnyH_take (i := 7) (oi := _) (v := ?_) rfl (by kernel_rfl) (by kernel_rfl) (by kernel_rfl) (fun _ _ _ h => h) (Or.inl ⟨by rfl, ?_⟩) hHeld ?_
        rotate_left
        · (intro wz hSw; go_simp; try (with_reducible rfl))
        (try dsimp only [List.getElem_toArray, List.getElem_cons_zero, List.getElem_cons_succ]); (try simp only [Act.put, List.setIfInBounds_toArray, List.set_cons_zero, List.set_cons_succ])
        refine wpAnyH_take (i := 8) (oi := _) (v := ?_) rfl (by kernel_rfl) (by kernel_rfl) (by kernel_rfl) (fun _ _ _ h => h) (Or.inl ⟨by rfl, ?_⟩) hHeld ?_
        rotate_left
        · (intro wz hSw; go_simp; try (with_reducible rfl))
        (try dsimp only [List.getElem_toArray, List.getElem_cons_zero, List.getElem_cons_succ]); (try simp only [Act.put, List.setIfInBounds_toArray, List.set_cons_zero, List.set_cons_succ])
        refine wpAnyH_ready (rs := [9]) (by kernel_rfl) (by simp) ?_
        refine AllReadyH.cons (o := _) rfl (fun K hK => ?_) AllReadyH.nil
        have hS0 := hHeld.size
        go_simp
        refine hK.out _ _ ((hHeld.alloc hHeld.size _)) (fun hH => ?_)
        clear hK K hHeld
        have hHeld := hH
        clear hH
        (first | (have HT := Lib.hid (Blk.new w5 33 #[.slice none 0 0, .slice none 0 0, .slice none 0 0, .slice none 0 0, .int .i64 0, .int .i64 0, .int .i64 0, .bool false]); have HG := Lib.hid hS0; replace HP5 := Lib.hid (HP5.out.on ((Below.refl _ _).alloc (Nat.le_refl _) (.cells #[.slice none 0 0, .slice none 0 0, .slice none 0 0, .slice none 0 0, .int .i64 0, .int .i64 0, .int .i64 0, .bool false] 33))); generalize w5.alloc (.cells #[.slice none 0 0, .slice none 0 0, .slice none 0 0, .slice none 0 0, .int .i64 0, .int .i64 0, .int .i64 0, .bool false] 33) = wA at *; generalize hgT : w5.heap.size = gT at HT HG ⊢; clear hgT) | (have HT := Lib.hid (Blk.new wr 33 #[.slice none 0 0, .slice none 0 0, .slice none 0 0, .slice none 0 0, .int .i64 0, .int .i64 0, .int .i64 0, .bool false]).drew; have HG : Hid (wr.heap.size ≤ wr.heap.size) := Lib.hid (Nat.le_refl _); generalize (wr.alloc (.cells #[.slice none 0 0, .slice none 0 0, .slice none 0 0, .slice none 0 0, .int .i64 0, .int .i64 0, .int .i64 0, .bool false] 33)).drew = wA at *))
        clear hS0
        (try dsimp only [List.getElem_toArray, List.getElem_cons_zero, List.getElem_cons_succ]); (try simp only [Act.put, List.setIfInBounds_toArray, List.set_cons_zero, List.set_cons_succ])
        refine wpAnyH_ready (rs := [10]) (by kernel_rfl) (by simp) ?_
        refine AllReadyH.cons (o := _) rfl (fun K hK => ?_) AllReadyH.nil
        have k0 := HT.out.cell 0; have z0 := HT.out.frozen 0; have k1 := HT.out.cell 1; have z1 := HT.out.frozen 1; have k2 := HT.out.cell 2; have z2 := HT.out.frozen 2; have k3 := HT.out.cell 3; have z3 := HT.out.frozen 3; have k4 := HT.out.cell 4; have z4 := HT.out.frozen 4; have k5 := HT.out.cell 5; have z5 := HT.out.frozen 5; have k6 := HT.out.cell 6; have z6 := HT.out.frozen 6; have k7 := HT.out.cell 7; have z7 := HT.out.frozen 7; simp only [List.getElem?_toArray, List.getElem?_cons_zero, List.getElem?_cons_succ] at k0 k1 k2 k3 k4 k5 k6 k7
        go_simp
        refine hK.out _ _ ((hHeld.trans ((oset8 HT.out rfl).2.below (fun k _ e => by rw [e]; exact HG.out) hHeld.size))) (fun hH => ?_)
        clear hK K hHeld
        have hHeld := hH
        clear hH
        clear k0 z0 k1 z1 k2 z2 k3 z3 k4 z4 k5 z5 k6 z6 k7 z7
        (try dsimp only [List.getElem_toArray, List.getElem_cons_zero, List.getElem_cons_succ]); (try simp only [Act.put, List.setIfInBounds_toArray, List.set_cons_zero, List.set_cons_succ])
        refine wpAnyH_take (i := 11) (oi := _) (v := ?_) rfl (by kernel_rfl) (by kernel_rfl) (by kernel_rfl) (fun _ _ _ h => h) (Or.inl ⟨by rfl, ?_⟩) hHeld ?_
        rotate_left
        · (intro wz hSw; go_simp; try (with_reducible rfl))
        (try dsimp only [List.getElem_toArray, List.getElem_cons_zero, List.getElem_cons_succ]); (try simp only [Act.put, List.setIfInBounds_toArray, List.set_cons_zero, List.set_cons_succ])
        refine wpAnyH_done (by kernel_rfl) ?_ _
        have hHeld0 := hHeld
        clear hHeld0 hHeld
        generalize hX9 : ((((((((wA.setCell ⟨gT, 0, none⟩ (.slice a5.a1 F.files.length a5.c1)).setCell ⟨gT, 1, none⟩ (.slice a5.a2 F.dir.length a5.c2)).setCell ⟨gT, 2, none⟩ (.slice a5.a3 F.safe.length a5.c3)).setCell ⟨gT, 3, none⟩ (.slice a5.a4 F.chg.length a5.c4)).setCell ⟨gT, 4, none⟩ (.int .i64 F.cap)).setCell ⟨gT, 5, none⟩ (.int .i64 F.ops)).setCell ⟨gT, 6, none⟩ (.int .i64 F.armed)).setCell ⟨gT, 7, none⟩ (.bool F.dead)) = X9
        obtain ⟨y1, y2⟩ := oset8 HT.out hX9
        have HP6 := Lib.hid (HP5.out.side HT.out (fun j s => by match j with | 0 => intro h; cases h | 1 => intro h; cases h | 2 => intro h; cases h | 3 => intro h; cases h | 4 => intro h; cases h | 5 => intro h; cases h | 6 => intro h; cases h | 7 => intro h; cases h | j + 8 => intro h; cases h) y2 (by have := HG.out; omega) (fun hk => by have := HSl.out _ hk; have := HG.out; omega) (Nat.le_trans HP.out.disk.below.size HG.out))
        clear hX9 y2 HP5 HT x0 x1 x2 x3 x4 x5 x6 x7
        have hbx := HP6.out.box
        unfold dkc at hbx
        have x0 := hbx.cell 0; have x1 := hbx.cell 1; have x2 := hbx.cell 2; have x3 := hbx.cell 3; have x4 := hbx.cell 4; have x5 := hbx.cell 5; have x6 := hbx.cell 6; have x7 := hbx.cell 7; simp only [List.getElem?_toArray, List.getElem?_cons_zero, List.getElem?_cons_succ] at x0 x1 x2 x3 x4 x5 x6 x7
        have z0 := hbx.frozen 0; have z1 := hbx.frozen 1; have z2 := hbx.frozen 2; have z3 := hbx.frozen 3; have z4 := hbx.frozen 4; have z5 := hbx.frozen 5; have z6 := hbx.frozen 6; have z7 := hbx.frozen 7
        have p0 := y1.cell 0; have p1 := y1.cell 1; have p2 := y1.cell 2; have p3 := y1.cell 3; have p4 := y1.cell 4; have p5 := y1.cell 5; have p6 := y1.cell 6; have p7 := y1.cell 7; simp only [List.getElem?_toArray, List.getElem?_cons_zero, List.getElem?_cons_succ] at p0 p1 p2 p3 p4 p5 p6 p7
        clear hbx y1
        go_upto_region 14 with fail
        generalize hX8 : ((((((((X9.setCell ⟨gr, 0, none⟩ (.slice a5.a1 F.files.length a5.c1)).setCell ⟨gr, 1, none⟩ (.slice a5.a2 F.dir.length a5.c2)).setCell ⟨gr, 2, none⟩ (.slice a5.a3 F.safe.length a5.c3)).setCell ⟨gr, 3, none⟩ (.slice a5.a4 F.chg.length a5.c4)).setCell ⟨gr, 4, none⟩ (.int .i64 F.cap)).setCell ⟨gr, 5, none⟩ (.int .i64 F.ops)).setCell ⟨gr, 6, none⟩ (.int .i64 F.armed)).setCell ⟨gr, 7, none⟩ (.bool F.dead)) = X8
        obtain ⟨y3, y4⟩ := oset8 HP6.out.box hX8
        have HP7 := Lib.hid (HP6.out.put (by unfold dkc; exact y3) y4)
        clear hX8 y3 y4 HP6 x0 z0 p0 x1 z1 p1 x2 z2 p2 x3 z3 p3 x4 z4 p4 x5 z5 p5 x6 z6 p6 x7 z7 p7
        have hct := HCl.out X8 HP7.out.disk.below
        have c0 := hct 0 _ rfl; have c1 := hct 1 _ rfl; have c2 := hct 2 _ rfl; have c3 := hct 3 _ rfl; have c4 := hct 4 _ rfl; have c5 := hct 5 _ rfl; have c6 := hct 6 _ rfl
        dsimp only [acf] at c0 c1 c2 c3 c4 c5 c6
        rw [Nat.add_zero] at c0
        clear hct
        go_wp2_with (first | (go_at_call 9; (with_reducible refine (HDo.out _ _ HP7.out.disk).mono ?_); rintro e w9 ⟨rfl, ho⟩; obtain ⟨S9, hp9⟩ := HP7.out.op ho HSm2.out; have HP8 := Lib.hid hp9; clear hp9 ho HP7 HDo c0 c1 c2 c3 c4 c5 c6; have hbx := HP8.out.box; unfold dkc at hbx; have x0 := hbx.cell 0; have x1 := hbx.cell 1; have x2 := hbx.cell 2; have x3 := hbx.cell 3; have x4 := hbx.cell 4; have x5 := hbx.cell 5; have x6 := hbx.cell 6; have x7 := hbx.cell 7; simp only [List.getElem?_toArray, List.getElem?_cons_zero, List.getElem?_cons_succ] at x0 x1 x2 x3 x4 x5 x6 x7; clear hbx) | (go_at_call 10; (with_reducible refine (HSa.out _ _ _ HP8.out).mono ?_); rintro e w10 ⟨rfl, hb⟩; have HP9 := Lib.hid (HP8.out.on hb); clear hb HP8) | fail)
        go_roundw
        case rel => exact ⟨i + 1, S9, F, a5, by omega, iv (by omega), HP9⟩
        case measure => simp only [intOf]; omega
      refine AllReadyH.cons (o := _) rfl (fun K hK => ?_) AllReadyH.nil
      have hS0 := hHeld.size
      go_simp
      refine hK.out _ _ ((hHeld.alloc hHeld.size _)) (fun hH => ?_)
      clear hK K hHeld
      have hHeld := hH
      clear hH
      (first | (have HT := Lib.hid (Blk.new w5 33 #[.slice none 0 0, .slice none 0 0, .slice none 0 0, .slice none 0 0, .int .i64 0, .int .i64 0, .int .i64 0, .bool false]); have HG := Lib.hid hS0; replace HP5 := Lib.hid (HP5.out.on ((Below.refl _ _).alloc (Nat.le_refl _) (.cells #[.slice none 0 0, .slice none 0 0, .slice none 0 0, .slice none 0 0, .int .i64 0, .int .i64 0, .int .i64 0, .bool false] 33))); generalize w5.alloc (.cells #[.slice none 0 0, .slice none 0 0, .slice none 0 0, .slice none 0 0, .int .i64 0, .int .i64 0, .int .i64 0, .bool false] 33) = wA at *; generalize hgT : w5.heap.size = gT at HT HG ⊢; clear hgT) | (have HT := Lib.hid (Blk.new wr 33 #[.slice none 0 0, .slice none 0 0, .slice none 0 0, .slice none 0 0, .int .i64 0, .int .i64 0, .int .i64 0, .bool false]).drew; have HG : Hid (wr.heap.size ≤ wr.heap.size) := Lib.hid (Nat.le_refl _); generalize (wr.alloc (.cells #[.slice none 0 0, .slice none 0 0, .slice none 0 0, .slice none 0 0, .int .i64 0, .int .i64 0, .int .i64 0, .bool false] 33)).drew = wA at *))
      clear hS0
      (try dsimp only [List.getElem_toArray, List.getElem_cons_zero, List.getElem_cons_succ]); (try simp only [Act.put, List.setIfInBounds_toArray, List.set_cons_zero, List.set_cons_succ])
      refine wpAnyH_ready (rs := [5]) (by kernel_rfl) (by simp) ?_
      refine AllReadyH.cons (o := _) rfl (fun K hK => ?_) AllReadyH.nil
      go_simp
      go_at_call 8
      (with_reducible refine (HRd.out _ hHeld).mono ?_)
      rintro e w5 ⟨a5, rfl, hm5, hb1, hn5⟩
      have HP5 := Lib.hid ((HP.out.on hHeld).ref hb1 hm5 hn5)
      (try replace HT := Lib.hid (HT.out.below hb1 HT.out.lt))
      (try unfold dkc)
      (try dsimp only)
      clear hm5 hn5
      refine hK.out _ _ (hHeld.trans (hb1.mono hHeld.size)) (fun hH => ?_)
      clear hHeld hK K hb1
      have hHeld := hH
      clear hH
      (try dsimp only [List.getElem_toArray, List.getElem_cons_zero, List.getElem_cons_succ]); (try simp only [Act.put, List.setIfInBounds_toArray, List.set_cons_zero, List.set_cons_succ])
      refine wpAnyH_take (i := 6) (oi := _) (v := ?_) rfl (by kernel_rfl) (by kernel_rfl) (by kernel_rfl) (fun _ _ _ h => h) (Or.inl ⟨by rfl, ?_⟩) hHeld ?_
      rotate_left
      · (intro wz hSw; go_simp; try (with_reducible rfl))
      (try dsimp only [List.getElem_toArray, List.getElem_cons_zero, List.getElem_cons_succ]); (try simp only [Act.put, List.setIfInBounds_toArray, List.set_cons_zero, List.set_cons_succ])
      refine wpAnyH_take (i := 7) (oi := _) (v := ?_) rfl (by kernel_rfl) (by kernel_rfl) (by kernel_rfl) (fun _ _ _ h => h) (Or.inl ⟨by rfl, ?_⟩) hHeld ?_
      rotate_left
      · (intro wz hSw; go_simp; try (with_reducible rfl))
      (try dsimp only [List.getElem_toArray, List.getElem_cons_zero, List.getElem_cons_succ]); (try simp only [Act.put, List.setIfInBounds_toArray, List.set_cons_zero, List.set_cons_succ])
      refine wpAnyH_take (i := 8) (oi := _) (v := ?_) rfl (by kernel_rfl) (by kernel_rfl) (by kernel_rfl) (fun _ _ _ h => h) (Or.inl ⟨by rfl, ?_⟩) hHeld ?_
      rotate_left
      · (intro wz hSw; go_simp; try (with_reducible rfl))
      (try dsimp only [List.getElem_toArray, List.getElem_cons_zero, List.getElem_cons_succ]); (try simp only [Act.put, List.setIfInBounds_toArray, List.set_cons_zero, List.set_cons_succ])
      refine wpAnyH_ready (rs := [10]) (by kernel_rfl) (by simp) ?_
      refine AllReadyH.cons (o := _) rfl (fun K hK => ?_) AllReadyH.nil
      have k0 := HT.out.cell 0; have z0 := HT.out.frozen 0; have k1 := HT.out.cell 1; have z1 := HT.out.frozen 1; have k2 := HT.out.cell 2; have z2 := HT.out.frozen 2; have k3 := HT.out.cell 3; have z3 := HT.out.frozen 3; have k4 := HT.out.cell 4; have z4 := HT.out.frozen 4; have k5 := HT.out.cell 5; have z5 := HT.out.frozen 5; have k6 := HT.out.cell 6; have z6 := HT.out.frozen 6; have k7 := HT.out.cell 7; have z7 := HT.out.frozen 7; simp only [List.getElem?_toArray, List.getElem?_cons_zero, List.getElem?_cons_succ] at k0 k1 k2 k3 k4 k5 k6 k7
      go_simp
      refine hK.out _ _ ((hHeld.trans ((oset8 HT.out rfl).2.below (fun k _ e => by rw [e]; exact HG.out) hHeld.size))) (fun hH => ?_)
      clear hK K hHeld
      have hHeld := hH
      clear hH
      clear k0 z0 k1 z1 k2 z2 k3 z3 k4 z4 k5 z5 k6 z6 k7 z7
      (try dsimp only [List.getElem_toArray, List.getElem_cons_zero, List.getElem_cons_succ]); (try simp only [Act.put, List.setIfInBounds_toArray, List.set_cons_zero, List.set_cons_succ])
      refine wpAnyH_take (i := 11) (oi := _) (v := ?_) rfl (by kernel_rfl) (by kernel_rfl) (by kernel_rfl) (fun _ _ _ h => h) (Or.inl ⟨by rfl, ?_⟩) hHeld ?_
      rotate_left
      · (intro wz hSw; go_simp; try (with_reducible rfl))
      (try dsimp only [List.getElem_toArray, List.getElem_cons_zero, List.getElem_cons_succ]); (try simp only [Act.put, List.setIfInBounds_toArray, List.set_cons_zero, List.set_cons_succ])
      refine wpAnyH_done (by kernel_rfl) ?_ _
      have hHeld0 := hHeld
      clear hHeld0 hHeld
      generalize hX9 : ((((((((w5.setCell ⟨wr.heap.size, 0, none⟩ (.slice a5.a1 F.files.length a5.c1)).setCell ⟨wr.heap.size, 1, none⟩ (.slice a5.a2 F.dir.length a5.c2)).setCell ⟨wr.heap.size, 2, none⟩ (.slice a5.a3 F.safe.length a5.c3)).setCell ⟨wr.heap.size, 3, none⟩ (.slice a5.a4 F.chg.length a5.c4)).setCell ⟨wr.heap.size, 4, none⟩ (.int .i64 F.cap)).setCell ⟨wr.heap.size, 5, none⟩ (.int .i64 F.ops)).setCell ⟨wr.heap.size, 6, none⟩ (.int .i64 F.armed)).setCell ⟨wr.heap.size, 7, none⟩ (.bool F.dead)) = X9
      obtain ⟨y1, y2⟩ := oset8 HT.out hX9
      have HP6 := Lib.hid (HP5.out.side HT.out (fun j s => by match j with | 0 => intro h; cases h | 1 => intro h; cases h | 2 => intro h; cases h | 3 => intro h; cases h | 4 => intro h; cases h | 5 => intro h; cases h | 6 => intro h; cases h | 7 => intro h; cases h | j + 8 => intro h; cases h) y2 (by have := HG.out; omega) (fun hk => by have := HSl.out _ hk; have := HG.out; omega) (Nat.le_trans HP.out.disk.below.size HG.out))
      clear hX9 y2 HP5 HT x0 x1 x2 x3 x4 x5 x6 x7
      have hbx := HP6.out.box
      unfold dkc at hbx
      have x0 := hbx.cell 0; have x1 := hbx.cell 1; have x2 := hbx.cell 2; have x3 := hbx.cell 3; have x4 := hbx.cell 4; have x5 := hbx.cell 5; have x6 := hbx.cell 6; have x7 := hbx.cell 7; simp only [List.getElem?_toArray, List.getElem?_cons_zero, List.getElem?_cons_succ] at x0 x1 x2 x3 x4 x5 x6 x7
      have z0 := hbx.frozen 0; have z1 := hbx.frozen 1; have z2 := hbx.frozen 2; have z3 := hbx.frozen 3; have z4 := hbx.frozen 4; have z5 := hbx.frozen 5; have z6 := hbx.frozen 6; have z7 := hbx.frozen 7
      have p0 := y1.cell 0; have p1 := y1.cell 1; have p2 := y1.cell 2; have p3 := y1.cell 3; have p4 := y1.cell 4; have p5 := y1.cell 5; have p6 := y1.cell 6; have p7 := y1.cell 7; simp only [List.getElem?_toArray, List.getElem?_cons_zero, List.getElem?_cons_succ] at p0 p1 p2 p3 p4 p5 p6 p7
      clear hbx y1
      go_upto_region 14 with fail
      generalize hX8 : ((((((((X9.setCell ⟨gr, 0, none⟩ (.slice a5.a1 F.files.length a5.c1)).setCell ⟨gr, 1, none⟩ (.slice a5.a2 F.dir.length a5.c2)).setCell ⟨gr, 2, none⟩ (.slice a5.a3 F.safe.length a5.c3)).setCell ⟨gr, 3, none⟩ (.slice a5.a4 F.chg.length a5.c4)).setCell ⟨gr, 4, none⟩ (.int .i64 F.cap)).setCell ⟨gr, 5, none⟩ (.int .i64 F.ops)).setCell ⟨gr, 6, none⟩ (.int .i64 F.armed)).setCell ⟨gr, 7, none⟩ (.bool F.dead)) = X8
      obtain ⟨y3, y4⟩ := oset8 HP6.out.box hX8
      have HP7 := Lib.hid (HP6.out.put (by unfold dkc; exact y3) y4)
      clear hX8 y3 y4 HP6 x0 z0 p0 x1 z1 p1 x2 z2 p2 x3 z3 p3 x4 z4 p4 x5 z5 p5 x6 z6 p6 x7 z7 p7
      have hct := HCl.out X8 HP7.out.disk.below
      have c0 := hct 0 _ rfl; have c1 := hct 1 _ rfl; have c2 := hct 2 _ rfl; have c3 := hct 3 _ rfl; have c4 := hct 4 _ rfl; have c5 := hct 5 _ rfl; have c6 := hct 6 _ rfl
      dsimp only [acf] at c0 c1 c2 c3 c4 c5 c6
      rw [Nat.add_zero] at c0
      clear hct
      go_wp2_with (first | (go_at_call 9; (with_reducible refine (HDo.out _ _ HP7.out.disk).mono ?_); rintro e w9 ⟨rfl, ho⟩; obtain ⟨S9, hp9⟩ := HP7.out.op ho HSm2.out; have HP8 := Lib.hid hp9; clear hp9 ho HP7 HDo c0 c1 c2 c3 c4 c5 c6; have hbx := HP8.out.box; unfold dkc at hbx; have x0 := hbx.cell 0; have x1 := hbx.cell 1; have x2 := hbx.cell 2; have x3 := hbx.cell 3; have x4 := hbx.cell 4; have x5 := hbx.cell 5; have x6 := hbx.cell 6; have x7 := hbx.cell 7; simp only [List.getElem?_toArray, List.getElem?_cons_zero, List.getElem?_cons_succ] at x0 x1 x2 x3 x4 x5 x6 x7; clear hbx) | (go_at_call 10; (with_reducible refine (HSa.out _ _ _ HP8.out).mono ?_); rintro e w10 ⟨rfl, hb⟩; have HP9 := Lib.hid (HP8.out.on hb); clear hb HP8) | fail)
      go_roundw
      case rel => exact ⟨i + 1, S9, F, a5, by omega, iv (by omega), HP9⟩
      case measure => simp only [intOf]; omega
    · obtain rfl : i = n := by omega
      have hz : ¬ (i : Int) < (i : Int) := by omega
      have HB := Lib.hid HP.out.disk.below
      clear HC HX HP
      go_wp2_with (first | (go_at_call 5; refine (awake20_any _).mono ?_; rintro e w9 ⟨rfl, hb⟩; replace HB := Lib.hid (HB.out.trans (hb.mono HB.out.size)); clear hb) | fail)
      go_ret
      exact ⟨rfl, HB.out⟩
theorem diskPlays_walk (cap : Int) (l : List Ac) (A : Option Addr) (c : Nat) (w : World) (hl : l.length ≤ maxLen) (hr : Reads w w.heap.size 7 A l.length (dcs acf l)) (hx : ∀ x ∈ l, AcOk w w.heap.size x) : Calls Tryz.prog 3 #[.int .i64 cap, .slice A l.length c] w fun e w' => e = .returned (.bool true) ∧ Below w.heap.size w w' := by
  by_cases h1 : Few20 l
  · by_cases h3 : 0 ≤ cap ∧ cap ≤ 10000000
    · exact diskPlays_e cap l A c w hl hr hx h1 h3
    · exact diskPlays_b cap l A c w hl hr hx h1 h3
  · exact diskPlays_a cap l A c w hl hr hx h1
namespace DiskPlays
set_option maxRecDepth 100000 in
theorem lifted (os : Os) (started : os.Started) (H : Type) (enc : TypeId × Value → H) :
    ReturnsInHanded {} Tryz.checked os 3 .any (Rows.diskPlaysSpec.pre6 enc Tryz.prog Tryz.f3 Rows.diskPlaysRow.domain false) (Rows.diskPlaysSpec.post enc Tryz.prog Tryz.f3 false true false false) := by
  refine law_sized (C := Tryz.checked) (tb := 4) ownP started (by kernel_rfl) Tryz.func3
    (ChangeSpec.witness6 (enc := enc) (C := Tryz.checked) false ⟨#[], #[.int .i64 0, .slice none 0 0], []⟩ 8 (by kernel_rfl) (by kernel_rfl) (by kernel_rfl) (by kernel_rfl))
    laidP (by kernel_rfl) rfl (by kernel_rfl) Tryz.underlying4 (by intro ds h; match ds, h with | [_, _], _ => rfl) ?_
  intro W base args ds p hval0 hA0 hlt _
  have hval : ∀ (j : Nat) t v, Tryz.f3.params[j]? = some t → args[j]? = some v → Value.okWide Tryz.prog W .any base t v := hval0
  have hA : DataW.TrodAll enc Tryz.prog W 0 (fun _ => true) true Tryz.f3.params.toList args.toList ds p := hA0
  rw [Tryz.params3] at hA hval
  obtain ⟨v0, v1, d0, d1, p0, p1, rfl, rfl, rfl, h0, h1⟩ := trodAll_two hA
  obtain ⟨cap, rfl, rfl, rfl, wcap⟩ := open_int Tryz.underlying3 (hval 0 3 v0 rfl rfl) h0
  obtain ⟨Al, l, cl, rfl, ml, rl, hl⟩ := open_acts (hval 1 22 v1 rfl rfl) h1
  exact diskPlays_walk cap l Al cl W ml rl hl
theorem holds : Rows.DiskPlaysSaid :=
  OpenClaim.holds_of_wide 3 Tryz.f3 rfl rfl rfl rfl rfl rfl rfl ⟨rfl, rfl, rfl, rfl, rfl⟩ rfl rfl rfl rfl rfl (by kernel_rfl) Tryz.func3 (by kernel_rfl)
    (of_decide_eq_true (by kernel_rfl)) (by unfold Func.isWrapper; first | (rw [if_pos (by decide +kernel)]; kernel_rfl) | (rw [if_neg (by decide +kernel)]; exact ⟨rfl, rfl⟩))
    (fun os started H enc _ => lifted os started H enc)
end DiskPlays
end Go.Proofs.YtgoahcmgpjacjaaGreat
