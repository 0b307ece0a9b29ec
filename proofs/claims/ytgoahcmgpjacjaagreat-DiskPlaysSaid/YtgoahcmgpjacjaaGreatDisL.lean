/-
  Layer 20, the document's: DirSync (ahead of the code's landing).
-/
import Derived.Test.YtgoahcmgpjacjaaGreatDisH
namespace Go.Proofs.YtgoahcmgpjacjaaGreat
set_option linter.unusedSimpArgs false
set_option linter.unusedVariables false
open Go.ChangeShapes Go.WideShapes Go.ChangeAt Go.RowKit Go.Joins Go.Deep
set_option maxRecDepth 100000 in
set_option maxHeartbeats 2000000 in
theorem dref_dsy_b (D : Dk) (a : DAd) (w : World) (hM : DkMem w D a) (ho : 0 ≤ D.ops ∧ D.ops ≤ 1000000) (ha : -9223372036854775808 ≤ D.armed ∧ D.armed < 9223372036854775808) (hd : D.dead = false) (hl : D.last = true) : Calls Tryz.prog 27 #[.agg (dkc D a)] w fun e w' => DPost a w w' e (ddirF D) := by
  have hcn := fun W => dref_counted_any D a W ho ha
  have Hmem := Lib.hid hM
  unfold DPost ddirF
  rw [if_neg (by rw [hd]; simp), if_pos hl]
  rw [hl] at hcn
  clear hM ho ha
  · dsimp only
    unfold Dk.counted at hcn ⊢
    rw [hl] at hcn ⊢
    unfold dkc at hcn ⊢
    clear hl
    obtain ⟨fs, dr, sf, cg, cap, ops, arm, dd⟩ := D
    obtain ⟨a1, a2, a3, a4, c1, c2, c3, c4⟩ := a
    dsimp only at *
    obtain ⟨n1, hn1⟩ : ∃ n, fs.length = n := ⟨_, rfl⟩
    obtain ⟨n2, hn2⟩ : ∃ n, dr.length = n := ⟨_, rfl⟩
    obtain ⟨n3, hn3⟩ : ∃ n, sf.length = n := ⟨_, rfl⟩
    obtain ⟨n4, hn4⟩ : ∃ n, cg.length = n := ⟨_, rfl⟩
    have HL1 := Lib.hid hn1
    have HL2 := Lib.hid hn2
    have HL3 := Lib.hid hn3
    have HL4 := Lib.hid hn4
    obtain ⟨o2, ho2⟩ : ∃ o2 : Int, ops + 1 = o2 := ⟨_, rfl⟩
    obtain ⟨r2, hr2⟩ : ∃ r2 : Int, (if 0 < arm then arm - 1 else arm) = r2 := ⟨_, rfl⟩
    subst hd
    obtain ⟨d2, hd2⟩ : ∃ d2 : Bool, (false || true) = d2 := ⟨_, rfl⟩
    obtain ⟨d1, hd1⟩ : ∃ d1 : Bool, false = d1 := ⟨_, rfl⟩
    rw [hd2, ho2, hr2, hn1, hn2, hn3, hn4] at hcn
    rw [hd2, ho2, hr2, hn1, hn2, hn3, hn4]
    have Hcn := Lib.hid hcn
    clear ho2 hr2 hd2 hd1 hn1 hn2 hn3 hn4 hcn
    have h1 := (Blk.new w 33 #[.slice a1 n1 c1, .slice a2 n2 c2, .slice a3 n3 c3, .slice a4 n4 c4, .int .i64 cap, .int .i64 ops, .int .i64 arm, .bool false]).alloc (.cells #[.slice none 0 0, .slice none 0 0, .slice none 0 0, .slice none 0 0, .int .i64 0, .int .i64 0, .int .i64 0, .bool false] 33)
    have h3 := Blk.new (w.alloc (.cells #[.slice a1 n1 c1, .slice a2 n2 c2, .slice a3 n3 c3, .slice a4 n4 c4, .int .i64 cap, .int .i64 ops, .int .i64 arm, .bool false] 33)) 33 #[.slice none 0 0, .slice none 0 0, .slice none 0 0, .slice none 0 0, .int .i64 0, .int .i64 0, .int .i64 0, .bool false]
    simp only [World.size_alloc] at h3
    have H1 := Lib.hid h1
    have H3 := Lib.hid h3
    have HB0 : Hid (Below w.heap.size w ((w.alloc (.cells #[.slice a1 n1 c1, .slice a2 n2 c2, .slice a3 n3 c3, .slice a4 n4 c4, .int .i64 cap, .int .i64 ops, .int .i64 arm, .bool false] 33)).alloc (.cells #[.slice none 0 0, .slice none 0 0, .slice none 0 0, .slice none 0 0, .int .i64 0, .int .i64 0, .int .i64 0, .bool false] 33))) := Lib.hid (by go_grown)
    clear h1 h3
    go_enter Tryz.func27, Tryz.ntmps27
    go_upto_region 5 with (first
      | (go_at_call 59; (with_reducible refine (Hcn.out _).mono ?_); rintro e w5 ⟨rfl, hb5⟩; replace H1 := Lib.hid (H1.out.below hb5 H1.out.lt); replace H3 := Lib.hid (H3.out.below hb5 H3.out.lt); replace HB0 := Lib.hid (HB0.out.trans (hb5.mono HB0.out.size)); clear hb5; have p0 := H1.out.cell 0; have p1 := H1.out.cell 1; have p2 := H1.out.cell 2; have p3 := H1.out.cell 3; have p4 := H1.out.cell 4; have p5 := H1.out.cell 5; have p6 := H1.out.cell 6; have p7 := H1.out.cell 7; simp only [List.getElem?_toArray, List.getElem?_cons_zero, List.getElem?_cons_succ] at p0 p1 p2 p3 p4 p5 p6 p7; have v0 := H1.out.frozen 0; have v1 := H1.out.frozen 1; have v2 := H1.out.frozen 2; have v3 := H1.out.frozen 3; have v4 := H1.out.frozen 4; have v5 := H1.out.frozen 5; have v6 := H1.out.frozen 6; have v7 := H1.out.frozen 7))
    generalize hX6 : ((((((((w5.setCell ⟨w.heap.size, 0, none⟩ (.slice a1 n1 c1)).setCell ⟨w.heap.size, 1, none⟩ (.slice a2 n2 c2)).setCell ⟨w.heap.size, 2, none⟩ (.slice a3 n3 c3)).setCell ⟨w.heap.size, 3, none⟩ (.slice a4 n4 c4)).setCell ⟨w.heap.size, 4, none⟩ (.int .i64 cap)).setCell ⟨w.heap.size, 5, none⟩ (.int .i64 o2)).setCell ⟨w.heap.size, 6, none⟩ (.int .i64 r2)).setCell ⟨w.heap.size, 7, none⟩ (.bool d2)) = X6
    obtain ⟨y1, y2⟩ := oset8 H1.out hX6
    replace HB0 := Lib.hid (HB0.out.trans (y2.below (fun k _ e => by omega) HB0.out.size))
    replace H1 := Lib.hid y1
    replace H3 := Lib.hid (H3.out.touch y2 (by omega))
    clear y1 y2 hX6 p0 p1 p2 p3 p4 p5 p6 p7 v0 v1 v2 v3 v4 v5 v6 v7
    have p0 := H1.out.cell 0; have p1 := H1.out.cell 1; have p2 := H1.out.cell 2; have p3 := H1.out.cell 3; have p4 := H1.out.cell 4; have p5 := H1.out.cell 5; have p6 := H1.out.cell 6; have p7 := H1.out.cell 7; simp only [List.getElem?_toArray, List.getElem?_cons_zero, List.getElem?_cons_succ] at p0 p1 p2 p3 p4 p5 p6 p7
    have q0 := H3.out.cell 0; have q1 := H3.out.cell 1; have q2 := H3.out.cell 2; have q3 := H3.out.cell 3; have q4 := H3.out.cell 4; have q5 := H3.out.cell 5; have q6 := H3.out.cell 6; have q7 := H3.out.cell 7; simp only [List.getElem?_toArray, List.getElem?_cons_zero, List.getElem?_cons_succ] at q0 q1 q2 q3 q4 q5 q6 q7
    have v0 := H3.out.frozen 0; have v1 := H3.out.frozen 1; have v2 := H3.out.frozen 2; have v3 := H3.out.frozen 3; have v4 := H3.out.frozen 4; have v5 := H3.out.frozen 5; have v6 := H3.out.frozen 6; have v7 := H3.out.frozen 7
    go_wp2
    generalize hX9 : ((((((((X6.setCell ⟨w.heap.size + 1, 0, none⟩ (.slice a1 n1 c1)).setCell ⟨w.heap.size + 1, 1, none⟩ (.slice a2 n2 c2)).setCell ⟨w.heap.size + 1, 2, none⟩ (.slice a3 n3 c3)).setCell ⟨w.heap.size + 1, 3, none⟩ (.slice a4 n4 c4)).setCell ⟨w.heap.size + 1, 4, none⟩ (.int .i64 cap)).setCell ⟨w.heap.size + 1, 5, none⟩ (.int .i64 o2)).setCell ⟨w.heap.size + 1, 6, none⟩ (.int .i64 r2)).setCell ⟨w.heap.size + 1, 7, none⟩ (.bool d2)) = X9
    obtain ⟨y1, y2⟩ := oset8 H3.out hX9
    have HB9 := HB0.out.trans (y2.below (fun k _ e => by omega) HB0.out.size)
    have x0 := y1.cell 0; have x1 := y1.cell 1; have x2 := y1.cell 2; have x3 := y1.cell 3; have x4 := y1.cell 4; have x5 := y1.cell 5; have x6 := y1.cell 6; have x7 := y1.cell 7; simp only [List.getElem?_toArray, List.getElem?_cons_zero, List.getElem?_cons_succ] at x0 x1 x2 x3 x4 x5 x6 x7
    refine bodyPost_ret (v := .tuple #[.agg #[.slice a1 n1 c1, .slice a2 n2 c2, .slice a3 n3 c3, .slice a4 n4 c4, .int .i64 cap, .int .i64 o2, .int .i64 r2, .bool d2], .int .i64 200]) (by simp [results, Tryz.results27, go_sem, x0, x1, x2, x3, x4, x5, x6, x7]) rfl ?_
    have h := Hmem.out.on HB9
    exact ⟨⟨a1, a2, a3, a4, c1, c2, c3, c4⟩, rfl, ⟨h.files, h.dir, h.safe, h.chg, h.k1, h.k2, h.k3, h.k4⟩, HB9, DkN.refl _ _ _⟩
set_option maxRecDepth 100000 in
set_option maxHeartbeats 2000000 in
theorem dref_dsy_c (D : Dk) (a : DAd) (w : World) (hM : DkMem w D a) (ho : 0 ≤ D.ops ∧ D.ops ≤ 1000000) (ha : -9223372036854775808 ≤ D.armed ∧ D.armed < 9223372036854775808) (hd : D.dead = false) (hl : D.last = false) : Calls Tryz.prog 27 #[.agg (dkc D a)] w fun e w' => DPost a w w' e (ddirF D) := by
  have hcn := fun W => dref_counted_any D a W ho ha
  have Hmem := Lib.hid hM
  unfold DPost ddirF
  rw [if_neg (by rw [hd]; simp), if_neg (by rw [hl]; simp)]
  rw [hl] at hcn
  clear hM ho ha
  · dsimp only
    unfold Dk.counted at hcn ⊢
    rw [hl] at hcn ⊢
    unfold dkc at hcn ⊢
    clear hl
    obtain ⟨fs, dr, sf, cg, cap, ops, arm, dd⟩ := D
    obtain ⟨a1, a2, a3, a4, c1, c2, c3, c4⟩ := a
    dsimp only at *
    obtain ⟨n1, hn1⟩ : ∃ n, fs.length = n := ⟨_, rfl⟩
    obtain ⟨n2, hn2⟩ : ∃ n, dr.length = n := ⟨_, rfl⟩
    obtain ⟨n3, hn3⟩ : ∃ n, sf.length = n := ⟨_, rfl⟩
    obtain ⟨n4, hn4⟩ : ∃ n, cg.length = n := ⟨_, rfl⟩
    have HL1 := Lib.hid hn1
    have HL2 := Lib.hid hn2
    have HL3 := Lib.hid hn3
    have HL4 := Lib.hid hn4
    obtain ⟨o2, ho2⟩ : ∃ o2 : Int, ops + 1 = o2 := ⟨_, rfl⟩
    obtain ⟨r2, hr2⟩ : ∃ r2 : Int, (if 0 < arm then arm - 1 else arm) = r2 := ⟨_, rfl⟩
    subst hd
    obtain ⟨d2, hd2⟩ : ∃ d2 : Bool, (false || false) = d2 := ⟨_, rfl⟩
    obtain ⟨d1, hd1⟩ : ∃ d1 : Bool, false = d1 := ⟨_, rfl⟩
    rw [hd2, ho2, hr2, hn1, hn2, hn3, hn4] at hcn
    rw [hd2, ho2, hr2, hn1, hn2, hn3, hn4]
    have Hcn := Lib.hid hcn
    clear ho2 hr2 hd2 hd1 hn1 hn2 hn3 hn4 hcn
    have h1 := (Blk.new w 33 #[.slice a1 n1 c1, .slice a2 n2 c2, .slice a3 n3 c3, .slice a4 n4 c4, .int .i64 cap, .int .i64 ops, .int .i64 arm, .bool false]).alloc (.cells #[.slice none 0 0, .slice none 0 0, .slice none 0 0, .slice none 0 0, .int .i64 0, .int .i64 0, .int .i64 0, .bool false] 33)
    have h3 := Blk.new (w.alloc (.cells #[.slice a1 n1 c1, .slice a2 n2 c2, .slice a3 n3 c3, .slice a4 n4 c4, .int .i64 cap, .int .i64 ops, .int .i64 arm, .bool false] 33)) 33 #[.slice none 0 0, .slice none 0 0, .slice none 0 0, .slice none 0 0, .int .i64 0, .int .i64 0, .int .i64 0, .bool false]
    simp only [World.size_alloc] at h3
    have H1 := Lib.hid h1
    have H3 := Lib.hid h3
    have HB0 : Hid (Below w.heap.size w ((w.alloc (.cells #[.slice a1 n1 c1, .slice a2 n2 c2, .slice a3 n3 c3, .slice a4 n4 c4, .int .i64 cap, .int .i64 ops, .int .i64 arm, .bool false] 33)).alloc (.cells #[.slice none 0 0, .slice none 0 0, .slice none 0 0, .slice none 0 0, .int .i64 0, .int .i64 0, .int .i64 0, .bool false] 33))) := Lib.hid (by go_grown)
    clear h1 h3
    go_enter Tryz.func27, Tryz.ntmps27
    go_upto_region 6 with (first
      | (go_at_call 59; (with_reducible refine (Hcn.out _).mono ?_); rintro e w5 ⟨rfl, hb5⟩; replace H1 := Lib.hid (H1.out.below hb5 H1.out.lt); replace H3 := Lib.hid (H3.out.below hb5 H3.out.lt); replace HB0 := Lib.hid (HB0.out.trans (hb5.mono HB0.out.size)); clear hb5; have p0 := H1.out.cell 0; have p1 := H1.out.cell 1; have p2 := H1.out.cell 2; have p3 := H1.out.cell 3; have p4 := H1.out.cell 4; have p5 := H1.out.cell 5; have p6 := H1.out.cell 6; have p7 := H1.out.cell 7; simp only [List.getElem?_toArray, List.getElem?_cons_zero, List.getElem?_cons_succ] at p0 p1 p2 p3 p4 p5 p6 p7; have v0 := H1.out.frozen 0; have v1 := H1.out.frozen 1; have v2 := H1.out.frozen 2; have v3 := H1.out.frozen 3; have v4 := H1.out.frozen 4; have v5 := H1.out.frozen 5; have v6 := H1.out.frozen 6; have v7 := H1.out.frozen 7))
    generalize hX6 : ((((((((w5.setCell ⟨w.heap.size, 0, none⟩ (.slice a1 n1 c1)).setCell ⟨w.heap.size, 1, none⟩ (.slice a2 n2 c2)).setCell ⟨w.heap.size, 2, none⟩ (.slice a3 n3 c3)).setCell ⟨w.heap.size, 3, none⟩ (.slice a4 n4 c4)).setCell ⟨w.heap.size, 4, none⟩ (.int .i64 cap)).setCell ⟨w.heap.size, 5, none⟩ (.int .i64 o2)).setCell ⟨w.heap.size, 6, none⟩ (.int .i64 r2)).setCell ⟨w.heap.size, 7, none⟩ (.bool d2)) = X6
    obtain ⟨y1, y2⟩ := oset8 H1.out hX6
    replace HB0 := Lib.hid (HB0.out.trans (y2.below (fun k _ e => by omega) HB0.out.size))
    replace H1 := Lib.hid y1
    replace H3 := Lib.hid (H3.out.touch y2 (by omega))
    clear y1 y2 hX6 p0 p1 p2 p3 p4 p5 p6 p7 v0 v1 v2 v3 v4 v5 v6 v7
    have p0 := H1.out.cell 0; have p1 := H1.out.cell 1; have p2 := H1.out.cell 2; have p3 := H1.out.cell 3; have p4 := H1.out.cell 4; have p5 := H1.out.cell 5; have p6 := H1.out.cell 6; have p7 := H1.out.cell 7; simp only [List.getElem?_toArray, List.getElem?_cons_zero, List.getElem?_cons_succ] at p0 p1 p2 p3 p4 p5 p6 p7
    have z0 := H1.out.frozen 0; have z1 := H1.out.frozen 1; have z2 := H1.out.frozen 2; have z3 := H1.out.frozen 3; have z4 := H1.out.frozen 4; have z5 := H1.out.frozen 5; have z6 := H1.out.frozen 6; have z7 := H1.out.frozen 7
    go_upto_region 8 with fail
    have K1 : Hid (Blk ((X6.setCell ⟨w.heap.size, 2, none⟩ (.slice a2 n2 c2)).setCell ⟨w.heap.size, 3, none⟩ (.slice none 0 0)) w.heap.size 33 #[.slice a1 n1 c1, .slice a2 n2 c2, .slice a2 n2 c2, .slice none 0 0, .int .i64 cap, .int .i64 o2, .int .i64 r2, .bool d2]) := Lib.hid (by simpa using (H1.out.set_ 2 (.slice a2 n2 c2)).set_ 3 (.slice none 0 0))
    replace H3 := Lib.hid ((H3.out.far (p := ⟨w.heap.size, 2, none⟩) (by show w.heap.size + 1 ≠ w.heap.size; omega) (.slice a2 n2 c2)).far (p := ⟨w.heap.size, 3, none⟩) (by show w.heap.size + 1 ≠ w.heap.size; omega) (.slice none 0 0))
    replace HB0 := Lib.hid ((HB0.out.setCell (p := ⟨w.heap.size, 2, none⟩) (Nat.le_refl _) (.slice a2 n2 c2)).setCell (p := ⟨w.heap.size, 3, none⟩) (Nat.le_refl _) (.slice none 0 0))
    clear p0 p1 p2 p3 p4 p5 p6 p7 z0 z1 z2 z3 z4 z5 z6 z7
    clear H1
    generalize ((X6.setCell ⟨w.heap.size, 2, none⟩ (.slice a2 n2 c2)).setCell ⟨w.heap.size, 3, none⟩ (.slice none 0 0)) = X7 at *
    have p0 := K1.out.cell 0; have p1 := K1.out.cell 1; have p2 := K1.out.cell 2; have p3 := K1.out.cell 3; have p4 := K1.out.cell 4; have p5 := K1.out.cell 5; have p6 := K1.out.cell 6; have p7 := K1.out.cell 7; simp only [List.getElem?_toArray, List.getElem?_cons_zero, List.getElem?_cons_succ] at p0 p1 p2 p3 p4 p5 p6 p7
    have q0 := H3.out.cell 0; have q1 := H3.out.cell 1; have q2 := H3.out.cell 2; have q3 := H3.out.cell 3; have q4 := H3.out.cell 4; have q5 := H3.out.cell 5; have q6 := H3.out.cell 6; have q7 := H3.out.cell 7; simp only [List.getElem?_toArray, List.getElem?_cons_zero, List.getElem?_cons_succ] at q0 q1 q2 q3 q4 q5 q6 q7
    have v0 := H3.out.frozen 0; have v1 := H3.out.frozen 1; have v2 := H3.out.frozen 2; have v3 := H3.out.frozen 3; have v4 := H3.out.frozen 4; have v5 := H3.out.frozen 5; have v6 := H3.out.frozen 6; have v7 := H3.out.frozen 7
    go_wp2
    generalize hX9 : ((((((((X7.setCell ⟨w.heap.size + 1, 0, none⟩ (.slice a1 n1 c1)).setCell ⟨w.heap.size + 1, 1, none⟩ (.slice a2 n2 c2)).setCell ⟨w.heap.size + 1, 2, none⟩ (.slice a2 n2 c2)).setCell ⟨w.heap.size + 1, 3, none⟩ (.slice none 0 0)).setCell ⟨w.heap.size + 1, 4, none⟩ (.int .i64 cap)).setCell ⟨w.heap.size + 1, 5, none⟩ (.int .i64 o2)).setCell ⟨w.heap.size + 1, 6, none⟩ (.int .i64 r2)).setCell ⟨w.heap.size + 1, 7, none⟩ (.bool d2)) = X9
    obtain ⟨y1, y2⟩ := oset8 H3.out hX9
    have HB9 := HB0.out.trans (y2.below (fun k _ e => by omega) HB0.out.size)
    have x0 := y1.cell 0; have x1 := y1.cell 1; have x2 := y1.cell 2; have x3 := y1.cell 3; have x4 := y1.cell 4; have x5 := y1.cell 5; have x6 := y1.cell 6; have x7 := y1.cell 7; simp only [List.getElem?_toArray, List.getElem?_cons_zero, List.getElem?_cons_succ] at x0 x1 x2 x3 x4 x5 x6 x7
    refine bodyPost_ret (v := .tuple #[.agg #[.slice a1 n1 c1, .slice a2 n2 c2, .slice a2 n2 c2, .slice none 0 0, .int .i64 cap, .int .i64 o2, .int .i64 r2, .bool d2], .int .i64 0]) (by simp [results, Tryz.results27, go_sem, x0, x1, x2, x3, x4, x5, x6, x7]) rfl ?_
    have h := Hmem.out.on HB9
    exact ⟨⟨a1, a2, a2, none, c1, c2, c2, 0⟩, rfl, ⟨h.files, h.dir, h.dir, ⟨rfl, fun hn => absurd hn (Nat.lt_irrefl 0)⟩, h.k1, h.k2, h.k2, Nat.le_refl 0⟩, HB9, ⟨.one w _ _, .two w _ _, .two w _ _, .inl rfl⟩⟩
set_option maxRecDepth 100000 in
set_option maxHeartbeats 2000000 in
theorem dref_dsy_a (D : Dk) (a : DAd) (w : World) (hM : DkMem w D a) (hd : D.dead = true) : Calls Tryz.prog 27 #[.agg (dkc D a)] w fun e w' => DPost a w w' e (ddirF D) := by
  have Hmem := Lib.hid hM
  unfold DPost ddirF
  rw [if_pos hd]
  clear hM
  · dsimp only
    unfold dkc
    obtain ⟨fs, dr, sf, cg, cap, ops, arm, dd⟩ := D
    obtain ⟨a1, a2, a3, a4, c1, c2, c3, c4⟩ := a
    dsimp only at *
    obtain ⟨n1, hn1⟩ : ∃ n, fs.length = n := ⟨_, rfl⟩
    obtain ⟨n2, hn2⟩ : ∃ n, dr.length = n := ⟨_, rfl⟩
    obtain ⟨n3, hn3⟩ : ∃ n, sf.length = n := ⟨_, rfl⟩
    obtain ⟨n4, hn4⟩ : ∃ n, cg.length = n := ⟨_, rfl⟩
    have HL1 := Lib.hid hn1
    have HL2 := Lib.hid hn2
    have HL3 := Lib.hid hn3
    have HL4 := Lib.hid hn4
    subst hd
    rw [hn1, hn2, hn3, hn4]
    clear hn1 hn2 hn3 hn4
    have h1 := (Blk.new w 33 #[.slice a1 n1 c1, .slice a2 n2 c2, .slice a3 n3 c3, .slice a4 n4 c4, .int .i64 cap, .int .i64 ops, .int .i64 arm, .bool true]).alloc (.cells #[.slice none 0 0, .slice none 0 0, .slice none 0 0, .slice none 0 0, .int .i64 0, .int .i64 0, .int .i64 0, .bool false] 33)
    have h3 := Blk.new (w.alloc (.cells #[.slice a1 n1 c1, .slice a2 n2 c2, .slice a3 n3 c3, .slice a4 n4 c4, .int .i64 cap, .int .i64 ops, .int .i64 arm, .bool true] 33)) 33 #[.slice none 0 0, .slice none 0 0, .slice none 0 0, .slice none 0 0, .int .i64 0, .int .i64 0, .int .i64 0, .bool false]
    simp only [World.size_alloc] at h3
    have H1 := Lib.hid h1
    have H3 := Lib.hid h3
    have HB0 : Hid (Below w.heap.size w ((w.alloc (.cells #[.slice a1 n1 c1, .slice a2 n2 c2, .slice a3 n3 c3, .slice a4 n4 c4, .int .i64 cap, .int .i64 ops, .int .i64 arm, .bool true] 33)).alloc (.cells #[.slice none 0 0, .slice none 0 0, .slice none 0 0, .slice none 0 0, .int .i64 0, .int .i64 0, .int .i64 0, .bool false] 33))) := Lib.hid (by go_grown)
    clear h1 h3
    go_enter Tryz.func27, Tryz.ntmps27
    go_upto_region 2 with fail
    generalize ((w.alloc (.cells #[.slice a1 n1 c1, .slice a2 n2 c2, .slice a3 n3 c3, .slice a4 n4 c4, .int .i64 cap, .int .i64 ops, .int .i64 arm, .bool true] 33)).alloc (.cells #[.slice none 0 0, .slice none 0 0, .slice none 0 0, .slice none 0 0, .int .i64 0, .int .i64 0, .int .i64 0, .bool false] 33)) = w1 at *
    have p0 := H1.out.cell 0; have p1 := H1.out.cell 1; have p2 := H1.out.cell 2; have p3 := H1.out.cell 3; have p4 := H1.out.cell 4; have p5 := H1.out.cell 5; have p6 := H1.out.cell 6; have p7 := H1.out.cell 7; simp only [List.getElem?_toArray, List.getElem?_cons_zero, List.getElem?_cons_succ] at p0 p1 p2 p3 p4 p5 p6 p7
    have q0 := H3.out.cell 0; have q1 := H3.out.cell 1; have q2 := H3.out.cell 2; have q3 := H3.out.cell 3; have q4 := H3.out.cell 4; have q5 := H3.out.cell 5; have q6 := H3.out.cell 6; have q7 := H3.out.cell 7; simp only [List.getElem?_toArray, List.getElem?_cons_zero, List.getElem?_cons_succ] at q0 q1 q2 q3 q4 q5 q6 q7
    have v0 := H3.out.frozen 0; have v1 := H3.out.frozen 1; have v2 := H3.out.frozen 2; have v3 := H3.out.frozen 3; have v4 := H3.out.frozen 4; have v5 := H3.out.frozen 5; have v6 := H3.out.frozen 6; have v7 := H3.out.frozen 7
    go_wp2
    generalize hX9 : ((((((((w1.setCell ⟨w.heap.size + 1, 0, none⟩ (.slice a1 n1 c1)).setCell ⟨w.heap.size + 1, 1, none⟩ (.slice a2 n2 c2)).setCell ⟨w.heap.size + 1, 2, none⟩ (.slice a3 n3 c3)).setCell ⟨w.heap.size + 1, 3, none⟩ (.slice a4 n4 c4)).setCell ⟨w.heap.size + 1, 4, none⟩ (.int .i64 cap)).setCell ⟨w.heap.size + 1, 5, none⟩ (.int .i64 ops)).setCell ⟨w.heap.size + 1, 6, none⟩ (.int .i64 arm)).setCell ⟨w.heap.size + 1, 7, none⟩ (.bool true)) = X9
    obtain ⟨y1, y2⟩ := oset8 H3.out hX9
    have HB9 := HB0.out.trans (y2.below (fun k _ e => by omega) HB0.out.size)
    have x0 := y1.cell 0; have x1 := y1.cell 1; have x2 := y1.cell 2; have x3 := y1.cell 3; have x4 := y1.cell 4; have x5 := y1.cell 5; have x6 := y1.cell 6; have x7 := y1.cell 7; simp only [List.getElem?_toArray, List.getElem?_cons_zero, List.getElem?_cons_succ] at x0 x1 x2 x3 x4 x5 x6 x7
    refine bodyPost_ret (v := .tuple #[.agg #[.slice a1 n1 c1, .slice a2 n2 c2, .slice a3 n3 c3, .slice a4 n4 c4, .int .i64 cap, .int .i64 ops, .int .i64 arm, .bool true], .int .i64 200]) (by simp [results, Tryz.results27, go_sem, x0, x1, x2, x3, x4, x5, x6, x7]) rfl ?_
    exact ⟨⟨a1, a2, a3, a4, c1, c2, c3, c4⟩, rfl, Hmem.out.on HB9, HB9, DkN.refl _ _ _⟩
theorem dref_dsy_any (D : Dk) (a : DAd) (w : World) (hM : DkMem w D a) (ho : 0 ≤ D.ops ∧ D.ops ≤ 1000000) (ha : -9223372036854775808 ≤ D.armed ∧ D.armed < 9223372036854775808) : Calls Tryz.prog 27 #[.agg (dkc D a)] w fun e w' => DPost a w w' e (ddirF D) := by
  cases hd : D.dead with
  | true => exact dref_dsy_a D a w hM hd
  | false =>
    cases hl : D.last with
    | true => exact dref_dsy_b D a w hM ho ha hd hl
    | false => exact dref_dsy_c D a w hM ho ha hd hl
end Go.Proofs.YtgoahcmgpjacjaaGreat
