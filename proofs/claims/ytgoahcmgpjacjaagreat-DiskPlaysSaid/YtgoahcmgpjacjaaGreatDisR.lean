/-
  Layer 20, the document's: Create (ahead of the code's landing).
-/
import Derived.Test.YtgoahcmgpjacjaaGreatDisI
namespace Go.Proofs.YtgoahcmgpjacjaaGreat
set_option linter.unusedSimpArgs false
set_option linter.unusedVariables false
open Go.ChangeShapes Go.WideShapes Go.ChangeAt Go.RowKit Go.Joins Go.Deep
set_option maxRecDepth 100000 in
set_option maxHeartbeats 4000000 in
theorem dref_cre_a (D : Dk) (a : DAd) (s : List UInt8) (w : World) (hM : DkMem w D a) (hd : D.dir.length ≤ 1000000) (hx : s.length ≤ 1000000) (h1 : D.dead = true) : Calls Tryz.prog 21 #[.agg (dkc D a), .string ⟨s.toArray⟩] w fun e w' => DPost a w w' e (dcreateF D s) := by
  have hck := fun W => nref_check_any s W hx
  have hfi := fun W hb => dref_find_any D a s W (hM.on hb) hd
  have Hmem := Lib.hid hM
  unfold DPost dcreateF
  rw [if_pos h1]
  clear hM hd hx
  · dsimp only
    have Hck := Lib.hid hck
    clear hck
    unfold dkc at hfi ⊢
    obtain ⟨fs, dr, sf, cg, cap, ops, arm, dd⟩ := D
    obtain ⟨a1, a2, a3, a4, c1, c2, c3, c4⟩ := a
    dsimp only at *
    obtain ⟨n1, hn1⟩ : ∃ n, fs.length = n := ⟨_, rfl⟩
    obtain ⟨n2, hn2⟩ : ∃ n, dr.length = n := ⟨_, rfl⟩
    obtain ⟨n3, hn3⟩ : ∃ n, sf.length = n := ⟨_, rfl⟩
    obtain ⟨n4, hn4⟩ : ∃ n, cg.length = n := ⟨_, rfl⟩
    have HL1 := Lib.hid hn1
    have HL2 := Lib.hid hn2
    have HL3 := Lib.hid hn3
    have HL4 := Lib.hid hn4
    subst h1
    rw [hn1, hn2, hn3, hn4] at hfi ⊢
    have Hfi := Lib.hid hfi
    clear hn1 hn2 hn3 hn4 hfi
    have h1 := (Blk.new w 33 #[.slice a1 n1 c1, .slice a2 n2 c2, .slice a3 n3 c3, .slice a4 n4 c4, .int .i64 cap, .int .i64 ops, .int .i64 arm, .bool true]).alloc (.cells #[.slice none 0 0, .slice none 0 0, .slice none 0 0, .slice none 0 0, .int .i64 0, .int .i64 0, .int .i64 0, .bool false] 33)
    have h3 := Blk.new (w.alloc (.cells #[.slice a1 n1 c1, .slice a2 n2 c2, .slice a3 n3 c3, .slice a4 n4 c4, .int .i64 cap, .int .i64 ops, .int .i64 arm, .bool true] 33)) 33 #[.slice none 0 0, .slice none 0 0, .slice none 0 0, .slice none 0 0, .int .i64 0, .int .i64 0, .int .i64 0, .bool false]
    simp only [World.size_alloc] at h3
    have H1 := Lib.hid h1
    have H3 := Lib.hid h3
    have HB0 : Hid (Below w.heap.size w ((w.alloc (.cells #[.slice a1 n1 c1, .slice a2 n2 c2, .slice a3 n3 c3, .slice a4 n4 c4, .int .i64 cap, .int .i64 ops, .int .i64 arm, .bool true] 33)).alloc (.cells #[.slice none 0 0, .slice none 0 0, .slice none 0 0, .slice none 0 0, .int .i64 0, .int .i64 0, .int .i64 0, .bool false] 33))) := Lib.hid (by go_grown)
    clear h1 h3
    have hY0 := H1.out.lt
    obtain ⟨Y, hY⟩ : ∃ Y, ((w.alloc (.cells #[.slice a1 n1 c1, .slice a2 n2 c2, .slice a3 n3 c3, .slice a4 n4 c4, .int .i64 cap, .int .i64 ops, .int .i64 arm, .bool true] 33)).alloc (.cells #[.slice none 0 0, .slice none 0 0, .slice none 0 0, .slice none 0 0, .int .i64 0, .int .i64 0, .int .i64 0, .bool false] 33)) = Y := ⟨_, rfl⟩
    go_enter Tryz.func21, Tryz.ntmps21
    have p0 := 0; have p1 := 0; have p2 := 0; have p3 := 0; have p4 := 0; have p5 := 0; have p6 := 0; have p7 := 0
    clear hY hY0
    go_upto_region 2 with (first
      | (go_at_call 54; (with_reducible refine (Hck.out _).mono ?_); rintro e w4 ⟨rfl, hw4⟩; obtain rfl := hw4.symm))
    generalize ((w.alloc (.cells #[.slice a1 n1 c1, .slice a2 n2 c2, .slice a3 n3 c3, .slice a4 n4 c4, .int .i64 cap, .int .i64 ops, .int .i64 arm, .bool true] 33)).alloc (.cells #[.slice none 0 0, .slice none 0 0, .slice none 0 0, .slice none 0 0, .int .i64 0, .int .i64 0, .int .i64 0, .bool false] 33)) = w1 at *
    clear p0 p1 p2 p3 p4 p5 p6 p7
    have p0 := H1.out.cell 0; have p1 := H1.out.cell 1; have p2 := H1.out.cell 2; have p3 := H1.out.cell 3; have p4 := H1.out.cell 4; have p5 := H1.out.cell 5; have p6 := H1.out.cell 6; have p7 := H1.out.cell 7; simp only [List.getElem?_toArray, List.getElem?_cons_zero, List.getElem?_cons_succ] at p0 p1 p2 p3 p4 p5 p6 p7
    have q0 := H3.out.cell 0; have q1 := H3.out.cell 1; have q2 := H3.out.cell 2; have q3 := H3.out.cell 3; have q4 := H3.out.cell 4; have q5 := H3.out.cell 5; have q6 := H3.out.cell 6; have q7 := H3.out.cell 7; simp only [List.getElem?_toArray, List.getElem?_cons_zero, List.getElem?_cons_succ] at q0 q1 q2 q3 q4 q5 q6 q7
    have v0 := H3.out.frozen 0; have v1 := H3.out.frozen 1; have v2 := H3.out.frozen 2; have v3 := H3.out.frozen 3; have v4 := H3.out.frozen 4; have v5 := H3.out.frozen 5; have v6 := H3.out.frozen 6; have v7 := H3.out.frozen 7
    go_wp2
    generalize hX9 : ((((((((w1.setCell ⟨w.heap.size + 1, 0, none⟩ (.slice a1 n1 c1)).setCell ⟨w.heap.size + 1, 1, none⟩ (.slice a2 n2 c2)).setCell ⟨w.heap.size + 1, 2, none⟩ (.slice a3 n3 c3)).setCell ⟨w.heap.size + 1, 3, none⟩ (.slice a4 n4 c4)).setCell ⟨w.heap.size + 1, 4, none⟩ (.int .i64 cap)).setCell ⟨w.heap.size + 1, 5, none⟩ (.int .i64 ops)).setCell ⟨w.heap.size + 1, 6, none⟩ (.int .i64 arm)).setCell ⟨w.heap.size + 1, 7, none⟩ (.bool true)) = X9
    obtain ⟨y1, y2⟩ := oset8 H3.out hX9
    have HB9 := HB0.out.trans (y2.below (fun k _ e => by omega) HB0.out.size)
    have x0 := y1.cell 0; have x1 := y1.cell 1; have x2 := y1.cell 2; have x3 := y1.cell 3; have x4 := y1.cell 4; have x5 := y1.cell 5; have x6 := y1.cell 6; have x7 := y1.cell 7; simp only [List.getElem?_toArray, List.getElem?_cons_zero, List.getElem?_cons_succ] at x0 x1 x2 x3 x4 x5 x6 x7
    refine bodyPost_ret (v := .tuple #[.agg #[.slice a1 n1 c1, .slice a2 n2 c2, .slice a3 n3 c3, .slice a4 n4 c4, .int .i64 cap, .int .i64 ops, .int .i64 arm, .bool true], .int .i64 200]) (by simp [results, Tryz.results21, go_sem, x0, x1, x2, x3, x4, x5, x6, x7]) rfl ?_
    exact ⟨⟨a1, a2, a3, a4, c1, c2, c3, c4⟩, rfl, Hmem.out.on HB9, HB9, DkN.refl _ _ _⟩
set_option maxRecDepth 100000 in
set_option maxHeartbeats 4000000 in
theorem dref_cre_b (D : Dk) (a : DAd) (s : List UInt8) (w : World) (hM : DkMem w D a) (hd : D.dir.length ≤ 1000000) (hx : s.length ≤ 1000000) (h1 : D.dead = false) (h2 : ¬ nchkF s = 0) : Calls Tryz.prog 21 #[.agg (dkc D a), .string ⟨s.toArray⟩] w fun e w' => DPost a w w' e (dcreateF D s) := by
  have hck := fun W => nref_check_any s W hx
  have hfi := fun W hb => dref_find_any D a s W (hM.on hb) hd
  have Hmem := Lib.hid hM
  unfold DPost dcreateF
  rw [if_neg (by rw [h1]; simp), if_pos h2]
  clear hM hd hx
  · dsimp only
    have h22 : (nchkF s == 0) = false := by rw [beq_eq_false_iff_ne]; exact h2
    generalize D.find s = FN at *
    generalize nchkF s = CK at *
    have Hck := Lib.hid hck
    clear hck
    unfold dkc at hfi ⊢
    obtain ⟨fs, dr, sf, cg, cap, ops, arm, dd⟩ := D
    obtain ⟨a1, a2, a3, a4, c1, c2, c3, c4⟩ := a
    dsimp only at *
    obtain ⟨n1, hn1⟩ : ∃ n, fs.length = n := ⟨_, rfl⟩
    obtain ⟨n2, hn2⟩ : ∃ n, dr.length = n := ⟨_, rfl⟩
    obtain ⟨n3, hn3⟩ : ∃ n, sf.length = n := ⟨_, rfl⟩
    obtain ⟨n4, hn4⟩ : ∃ n, cg.length = n := ⟨_, rfl⟩
    have HL1 := Lib.hid hn1
    have HL2 := Lib.hid hn2
    have HL3 := Lib.hid hn3
    have HL4 := Lib.hid hn4
    subst h1
    rw [hn1, hn2, hn3, hn4] at hfi ⊢
    have Hfi := Lib.hid hfi
    clear hn1 hn2 hn3 hn4 hfi
    have h1 := (Blk.new w 33 #[.slice a1 n1 c1, .slice a2 n2 c2, .slice a3 n3 c3, .slice a4 n4 c4, .int .i64 cap, .int .i64 ops, .int .i64 arm, .bool false]).alloc (.cells #[.slice none 0 0, .slice none 0 0, .slice none 0 0, .slice none 0 0, .int .i64 0, .int .i64 0, .int .i64 0, .bool false] 33)
    have h3 := Blk.new (w.alloc (.cells #[.slice a1 n1 c1, .slice a2 n2 c2, .slice a3 n3 c3, .slice a4 n4 c4, .int .i64 cap, .int .i64 ops, .int .i64 arm, .bool false] 33)) 33 #[.slice none 0 0, .slice none 0 0, .slice none 0 0, .slice none 0 0, .int .i64 0, .int .i64 0, .int .i64 0, .bool false]
    simp only [World.size_alloc] at h3
    have H1 := Lib.hid h1
    have H3 := Lib.hid h3
    have HB0 : Hid (Below w.heap.size w ((w.alloc (.cells #[.slice a1 n1 c1, .slice a2 n2 c2, .slice a3 n3 c3, .slice a4 n4 c4, .int .i64 cap, .int .i64 ops, .int .i64 arm, .bool false] 33)).alloc (.cells #[.slice none 0 0, .slice none 0 0, .slice none 0 0, .slice none 0 0, .int .i64 0, .int .i64 0, .int .i64 0, .bool false] 33))) := Lib.hid (by go_grown)
    clear h1 h3
    have hY0 := H1.out.lt
    obtain ⟨Y, hY⟩ : ∃ Y, ((w.alloc (.cells #[.slice a1 n1 c1, .slice a2 n2 c2, .slice a3 n3 c3, .slice a4 n4 c4, .int .i64 cap, .int .i64 ops, .int .i64 arm, .bool false] 33)).alloc (.cells #[.slice none 0 0, .slice none 0 0, .slice none 0 0, .slice none 0 0, .int .i64 0, .int .i64 0, .int .i64 0, .bool false] 33)) = Y := ⟨_, rfl⟩
    go_enter Tryz.func21, Tryz.ntmps21
    have p0 := 0; have p1 := 0; have p2 := 0; have p3 := 0; have p4 := 0; have p5 := 0; have p6 := 0; have p7 := 0
    clear hY hY0
    go_upto_region 5 with (first
      | (go_at_call 54; (with_reducible refine (Hck.out _).mono ?_); rintro e w4 ⟨rfl, hw4⟩; obtain rfl := hw4.symm))
    generalize ((w.alloc (.cells #[.slice a1 n1 c1, .slice a2 n2 c2, .slice a3 n3 c3, .slice a4 n4 c4, .int .i64 cap, .int .i64 ops, .int .i64 arm, .bool false] 33)).alloc (.cells #[.slice none 0 0, .slice none 0 0, .slice none 0 0, .slice none 0 0, .int .i64 0, .int .i64 0, .int .i64 0, .bool false] 33)) = w1 at *
    clear p0 p1 p2 p3 p4 p5 p6 p7
    have p0 := H1.out.cell 0; have p1 := H1.out.cell 1; have p2 := H1.out.cell 2; have p3 := H1.out.cell 3; have p4 := H1.out.cell 4; have p5 := H1.out.cell 5; have p6 := H1.out.cell 6; have p7 := H1.out.cell 7; simp only [List.getElem?_toArray, List.getElem?_cons_zero, List.getElem?_cons_succ] at p0 p1 p2 p3 p4 p5 p6 p7
    have q0 := H3.out.cell 0; have q1 := H3.out.cell 1; have q2 := H3.out.cell 2; have q3 := H3.out.cell 3; have q4 := H3.out.cell 4; have q5 := H3.out.cell 5; have q6 := H3.out.cell 6; have q7 := H3.out.cell 7; simp only [List.getElem?_toArray, List.getElem?_cons_zero, List.getElem?_cons_succ] at q0 q1 q2 q3 q4 q5 q6 q7
    have v0 := H3.out.frozen 0; have v1 := H3.out.frozen 1; have v2 := H3.out.frozen 2; have v3 := H3.out.frozen 3; have v4 := H3.out.frozen 4; have v5 := H3.out.frozen 5; have v6 := H3.out.frozen 6; have v7 := H3.out.frozen 7
    go_wp2
    generalize hX9 : ((((((((w1.setCell ⟨w.heap.size + 1, 0, none⟩ (.slice a1 n1 c1)).setCell ⟨w.heap.size + 1, 1, none⟩ (.slice a2 n2 c2)).setCell ⟨w.heap.size + 1, 2, none⟩ (.slice a3 n3 c3)).setCell ⟨w.heap.size + 1, 3, none⟩ (.slice a4 n4 c4)).setCell ⟨w.heap.size + 1, 4, none⟩ (.int .i64 cap)).setCell ⟨w.heap.size + 1, 5, none⟩ (.int .i64 ops)).setCell ⟨w.heap.size + 1, 6, none⟩ (.int .i64 arm)).setCell ⟨w.heap.size + 1, 7, none⟩ (.bool false)) = X9
    obtain ⟨y1, y2⟩ := oset8 H3.out hX9
    have HB9 := HB0.out.trans (y2.below (fun k _ e => by omega) HB0.out.size)
    have x0 := y1.cell 0; have x1 := y1.cell 1; have x2 := y1.cell 2; have x3 := y1.cell 3; have x4 := y1.cell 4; have x5 := y1.cell 5; have x6 := y1.cell 6; have x7 := y1.cell 7; simp only [List.getElem?_toArray, List.getElem?_cons_zero, List.getElem?_cons_succ] at x0 x1 x2 x3 x4 x5 x6 x7
    refine bodyPost_ret (v := .tuple #[.agg #[.slice a1 n1 c1, .slice a2 n2 c2, .slice a3 n3 c3, .slice a4 n4 c4, .int .i64 cap, .int .i64 ops, .int .i64 arm, .bool false], .int .i64 CK]) (by simp [results, Tryz.results21, go_sem, x0, x1, x2, x3, x4, x5, x6, x7]) rfl ?_
    exact ⟨⟨a1, a2, a3, a4, c1, c2, c3, c4⟩, rfl, Hmem.out.on HB9, HB9, DkN.refl _ _ _⟩
set_option maxRecDepth 100000 in
set_option maxHeartbeats 4000000 in
theorem dref_cre_c (D : Dk) (a : DAd) (s : List UInt8) (w : World) (hM : DkMem w D a) (hd : D.dir.length ≤ 1000000) (hx : s.length ≤ 1000000) (h1 : D.dead = false) (h2 : nchkF s = 0) (h3 : 0 ≤ D.find s) : Calls Tryz.prog 21 #[.agg (dkc D a), .string ⟨s.toArray⟩] w fun e w' => DPost a w w' e (dcreateF D s) := by
  have hck := fun W => nref_check_any s W hx
  have hfi := fun W hb => dref_find_any D a s W (hM.on hb) hd
  have Hmem := Lib.hid hM
  unfold DPost dcreateF
  rw [if_neg (by rw [h1]; simp), if_neg (by rw [h2]; simp), if_pos h3]
  clear hM hd hx
  · dsimp only
    rw [h2] at hck
    clear h2
    generalize D.find s = FN at *
    have Hck := Lib.hid hck
    clear hck
    unfold dkc at hfi ⊢
    obtain ⟨fs, dr, sf, cg, cap, ops, arm, dd⟩ := D
    obtain ⟨a1, a2, a3, a4, c1, c2, c3, c4⟩ := a
    dsimp only at *
    obtain ⟨n1, hn1⟩ : ∃ n, fs.length = n := ⟨_, rfl⟩
    obtain ⟨n2, hn2⟩ : ∃ n, dr.length = n := ⟨_, rfl⟩
    obtain ⟨n3, hn3⟩ : ∃ n, sf.length = n := ⟨_, rfl⟩
    obtain ⟨n4, hn4⟩ : ∃ n, cg.length = n := ⟨_, rfl⟩
    have HL1 := Lib.hid hn1
    have HL2 := Lib.hid hn2
    have HL3 := Lib.hid hn3
    have HL4 := Lib.hid hn4
    subst h1
    rw [hn1, hn2, hn3, hn4] at hfi ⊢
    have Hfi := Lib.hid hfi
    clear hn1 hn2 hn3 hn4 hfi
    have h1 := (Blk.new w 33 #[.slice a1 n1 c1, .slice a2 n2 c2, .slice a3 n3 c3, .slice a4 n4 c4, .int .i64 cap, .int .i64 ops, .int .i64 arm, .bool false]).alloc (.cells #[.slice none 0 0, .slice none 0 0, .slice none 0 0, .slice none 0 0, .int .i64 0, .int .i64 0, .int .i64 0, .bool false] 33)
    have h3 := Blk.new (w.alloc (.cells #[.slice a1 n1 c1, .slice a2 n2 c2, .slice a3 n3 c3, .slice a4 n4 c4, .int .i64 cap, .int .i64 ops, .int .i64 arm, .bool false] 33)) 33 #[.slice none 0 0, .slice none 0 0, .slice none 0 0, .slice none 0 0, .int .i64 0, .int .i64 0, .int .i64 0, .bool false]
    simp only [World.size_alloc] at h3
    have H1 := Lib.hid h1
    have H3 := Lib.hid h3
    have HB0 : Hid (Below w.heap.size w ((w.alloc (.cells #[.slice a1 n1 c1, .slice a2 n2 c2, .slice a3 n3 c3, .slice a4 n4 c4, .int .i64 cap, .int .i64 ops, .int .i64 arm, .bool false] 33)).alloc (.cells #[.slice none 0 0, .slice none 0 0, .slice none 0 0, .slice none 0 0, .int .i64 0, .int .i64 0, .int .i64 0, .bool false] 33))) := Lib.hid (by go_grown)
    clear h1 h3
    have hY0 := H1.out.lt
    obtain ⟨Y, hY⟩ : ∃ Y, ((w.alloc (.cells #[.slice a1 n1 c1, .slice a2 n2 c2, .slice a3 n3 c3, .slice a4 n4 c4, .int .i64 cap, .int .i64 ops, .int .i64 arm, .bool false] 33)).alloc (.cells #[.slice none 0 0, .slice none 0 0, .slice none 0 0, .slice none 0 0, .int .i64 0, .int .i64 0, .int .i64 0, .bool false] 33)) = Y := ⟨_, rfl⟩
    go_enter Tryz.func21, Tryz.ntmps21
    have p0 := 0; have p1 := 0; have p2 := 0; have p3 := 0; have p4 := 0; have p5 := 0; have p6 := 0; have p7 := 0
    clear hY hY0
    go_upto_region 7 with (first
      | (go_at_call 54; (with_reducible refine (Hck.out _).mono ?_); rintro e w4 ⟨rfl, hw4⟩; obtain rfl := hw4.symm)
      | (go_at_call 55; (with_reducible refine (Hfi.out _ HB0.out).mono ?_); rintro e w1 ⟨rfl, hb1⟩; clear p0 p1 p2 p3 p4 p5 p6 p7; replace H1 := Lib.hid (H1.out.below hb1 H1.out.lt); replace H3 := Lib.hid (H3.out.below hb1 H3.out.lt); replace HB0 := Lib.hid (HB0.out.trans (hb1.mono HB0.out.size)); clear hb1; have p0 := H1.out.cell 0; have p1 := H1.out.cell 1; have p2 := H1.out.cell 2; have p3 := H1.out.cell 3; have p4 := H1.out.cell 4; have p5 := H1.out.cell 5; have p6 := H1.out.cell 6; have p7 := H1.out.cell 7; simp only [List.getElem?_toArray, List.getElem?_cons_zero, List.getElem?_cons_succ] at p0 p1 p2 p3 p4 p5 p6 p7))
    clear p0 p1 p2 p3 p4 p5 p6 p7
    have p0 := H1.out.cell 0; have p1 := H1.out.cell 1; have p2 := H1.out.cell 2; have p3 := H1.out.cell 3; have p4 := H1.out.cell 4; have p5 := H1.out.cell 5; have p6 := H1.out.cell 6; have p7 := H1.out.cell 7; simp only [List.getElem?_toArray, List.getElem?_cons_zero, List.getElem?_cons_succ] at p0 p1 p2 p3 p4 p5 p6 p7
    have q0 := H3.out.cell 0; have q1 := H3.out.cell 1; have q2 := H3.out.cell 2; have q3 := H3.out.cell 3; have q4 := H3.out.cell 4; have q5 := H3.out.cell 5; have q6 := H3.out.cell 6; have q7 := H3.out.cell 7; simp only [List.getElem?_toArray, List.getElem?_cons_zero, List.getElem?_cons_succ] at q0 q1 q2 q3 q4 q5 q6 q7
    have v0 := H3.out.frozen 0; have v1 := H3.out.frozen 1; have v2 := H3.out.frozen 2; have v3 := H3.out.frozen 3; have v4 := H3.out.frozen 4; have v5 := H3.out.frozen 5; have v6 := H3.out.frozen 6; have v7 := H3.out.frozen 7
    go_wp2
    generalize hX9 : ((((((((w1.setCell ⟨w.heap.size + 1, 0, none⟩ (.slice a1 n1 c1)).setCell ⟨w.heap.size + 1, 1, none⟩ (.slice a2 n2 c2)).setCell ⟨w.heap.size + 1, 2, none⟩ (.slice a3 n3 c3)).setCell ⟨w.heap.size + 1, 3, none⟩ (.slice a4 n4 c4)).setCell ⟨w.heap.size + 1, 4, none⟩ (.int .i64 cap)).setCell ⟨w.heap.size + 1, 5, none⟩ (.int .i64 ops)).setCell ⟨w.heap.size + 1, 6, none⟩ (.int .i64 arm)).setCell ⟨w.heap.size + 1, 7, none⟩ (.bool false)) = X9
    obtain ⟨y1, y2⟩ := oset8 H3.out hX9
    have HB9 := HB0.out.trans (y2.below (fun k _ e => by omega) HB0.out.size)
    have x0 := y1.cell 0; have x1 := y1.cell 1; have x2 := y1.cell 2; have x3 := y1.cell 3; have x4 := y1.cell 4; have x5 := y1.cell 5; have x6 := y1.cell 6; have x7 := y1.cell 7; simp only [List.getElem?_toArray, List.getElem?_cons_zero, List.getElem?_cons_succ] at x0 x1 x2 x3 x4 x5 x6 x7
    refine bodyPost_ret (v := .tuple #[.agg #[.slice a1 n1 c1, .slice a2 n2 c2, .slice a3 n3 c3, .slice a4 n4 c4, .int .i64 cap, .int .i64 ops, .int .i64 arm, .bool false], .int .i64 202]) (by simp [results, Tryz.results21, go_sem, x0, x1, x2, x3, x4, x5, x6, x7]) rfl ?_
    exact ⟨⟨a1, a2, a3, a4, c1, c2, c3, c4⟩, rfl, Hmem.out.on HB9, HB9, DkN.refl _ _ _⟩
set_option maxRecDepth 100000 in
set_option maxHeartbeats 4000000 in
theorem dref_cre_d (D : Dk) (a : DAd) (s : List UInt8) (w : World) (hM : DkMem w D a) (hd : D.dir.length ≤ 1000000) (hx : s.length ≤ 1000000) (h1 : D.dead = false) (h2 : nchkF s = 0) (h3 : ¬ 0 ≤ D.find s) (h4 : 200 ≤ D.dir.length) : Calls Tryz.prog 21 #[.agg (dkc D a), .string ⟨s.toArray⟩] w fun e w' => DPost a w w' e (dcreateF D s) := by
  have hck := fun W => nref_check_any s W hx
  have hfi := fun W hb => dref_find_any D a s W (hM.on hb) hd
  have Hmem := Lib.hid hM
  unfold DPost dcreateF
  rw [if_neg (by rw [h1]; simp), if_neg (by rw [h2]; simp), if_neg h3, if_pos h4]
  clear hM hd hx
  · dsimp only
    rw [h2] at hck
    clear h2
    generalize D.find s = FN at *
    have Hck := Lib.hid hck
    clear hck
    unfold dkc at hfi ⊢
    obtain ⟨fs, dr, sf, cg, cap, ops, arm, dd⟩ := D
    obtain ⟨a1, a2, a3, a4, c1, c2, c3, c4⟩ := a
    dsimp only at *
    obtain ⟨n1, hn1⟩ : ∃ n, fs.length = n := ⟨_, rfl⟩
    obtain ⟨n2, hn2⟩ : ∃ n, dr.length = n := ⟨_, rfl⟩
    obtain ⟨n3, hn3⟩ : ∃ n, sf.length = n := ⟨_, rfl⟩
    obtain ⟨n4, hn4⟩ : ∃ n, cg.length = n := ⟨_, rfl⟩
    have HL1 := Lib.hid hn1
    have HL2 := Lib.hid hn2
    have HL3 := Lib.hid hn3
    have HL4 := Lib.hid hn4
    subst h1
    rw [hn2] at h4
    have h5 : (200 : Int) ≤ (n2 : Int) := by omega
    rw [hn1, hn2, hn3, hn4] at hfi ⊢
    have Hfi := Lib.hid hfi
    clear hn1 hn2 hn3 hn4 hfi
    have h1 := (Blk.new w 33 #[.slice a1 n1 c1, .slice a2 n2 c2, .slice a3 n3 c3, .slice a4 n4 c4, .int .i64 cap, .int .i64 ops, .int .i64 arm, .bool false]).alloc (.cells #[.slice none 0 0, .slice none 0 0, .slice none 0 0, .slice none 0 0, .int .i64 0, .int .i64 0, .int .i64 0, .bool false] 33)
    have h3 := Blk.new (w.alloc (.cells #[.slice a1 n1 c1, .slice a2 n2 c2, .slice a3 n3 c3, .slice a4 n4 c4, .int .i64 cap, .int .i64 ops, .int .i64 arm, .bool false] 33)) 33 #[.slice none 0 0, .slice none 0 0, .slice none 0 0, .slice none 0 0, .int .i64 0, .int .i64 0, .int .i64 0, .bool false]
    simp only [World.size_alloc] at h3
    have H1 := Lib.hid h1
    have H3 := Lib.hid h3
    have HB0 : Hid (Below w.heap.size w ((w.alloc (.cells #[.slice a1 n1 c1, .slice a2 n2 c2, .slice a3 n3 c3, .slice a4 n4 c4, .int .i64 cap, .int .i64 ops, .int .i64 arm, .bool false] 33)).alloc (.cells #[.slice none 0 0, .slice none 0 0, .slice none 0 0, .slice none 0 0, .int .i64 0, .int .i64 0, .int .i64 0, .bool false] 33))) := Lib.hid (by go_grown)
    clear h1 h3
    have hY0 := H1.out.lt
    obtain ⟨Y, hY⟩ : ∃ Y, ((w.alloc (.cells #[.slice a1 n1 c1, .slice a2 n2 c2, .slice a3 n3 c3, .slice a4 n4 c4, .int .i64 cap, .int .i64 ops, .int .i64 arm, .bool false] 33)).alloc (.cells #[.slice none 0 0, .slice none 0 0, .slice none 0 0, .slice none 0 0, .int .i64 0, .int .i64 0, .int .i64 0, .bool false] 33)) = Y := ⟨_, rfl⟩
    go_enter Tryz.func21, Tryz.ntmps21
    have p0 := 0; have p1 := 0; have p2 := 0; have p3 := 0; have p4 := 0; have p5 := 0; have p6 := 0; have p7 := 0
    clear hY hY0
    go_upto_region 9 with (first
      | (go_at_call 54; (with_reducible refine (Hck.out _).mono ?_); rintro e w4 ⟨rfl, hw4⟩; obtain rfl := hw4.symm)
      | (go_at_call 55; (with_reducible refine (Hfi.out _ HB0.out).mono ?_); rintro e w1 ⟨rfl, hb1⟩; clear p0 p1 p2 p3 p4 p5 p6 p7; replace H1 := Lib.hid (H1.out.below hb1 H1.out.lt); replace H3 := Lib.hid (H3.out.below hb1 H3.out.lt); replace HB0 := Lib.hid (HB0.out.trans (hb1.mono HB0.out.size)); clear hb1; have p0 := H1.out.cell 0; have p1 := H1.out.cell 1; have p2 := H1.out.cell 2; have p3 := H1.out.cell 3; have p4 := H1.out.cell 4; have p5 := H1.out.cell 5; have p6 := H1.out.cell 6; have p7 := H1.out.cell 7; simp only [List.getElem?_toArray, List.getElem?_cons_zero, List.getElem?_cons_succ] at p0 p1 p2 p3 p4 p5 p6 p7))
    clear p0 p1 p2 p3 p4 p5 p6 p7
    have p0 := H1.out.cell 0; have p1 := H1.out.cell 1; have p2 := H1.out.cell 2; have p3 := H1.out.cell 3; have p4 := H1.out.cell 4; have p5 := H1.out.cell 5; have p6 := H1.out.cell 6; have p7 := H1.out.cell 7; simp only [List.getElem?_toArray, List.getElem?_cons_zero, List.getElem?_cons_succ] at p0 p1 p2 p3 p4 p5 p6 p7
    have q0 := H3.out.cell 0; have q1 := H3.out.cell 1; have q2 := H3.out.cell 2; have q3 := H3.out.cell 3; have q4 := H3.out.cell 4; have q5 := H3.out.cell 5; have q6 := H3.out.cell 6; have q7 := H3.out.cell 7; simp only [List.getElem?_toArray, List.getElem?_cons_zero, List.getElem?_cons_succ] at q0 q1 q2 q3 q4 q5 q6 q7
    have v0 := H3.out.frozen 0; have v1 := H3.out.frozen 1; have v2 := H3.out.frozen 2; have v3 := H3.out.frozen 3; have v4 := H3.out.frozen 4; have v5 := H3.out.frozen 5; have v6 := H3.out.frozen 6; have v7 := H3.out.frozen 7
    go_wp2
    generalize hX9 : ((((((((w1.setCell ⟨w.heap.size + 1, 0, none⟩ (.slice a1 n1 c1)).setCell ⟨w.heap.size + 1, 1, none⟩ (.slice a2 n2 c2)).setCell ⟨w.heap.size + 1, 2, none⟩ (.slice a3 n3 c3)).setCell ⟨w.heap.size + 1, 3, none⟩ (.slice a4 n4 c4)).setCell ⟨w.heap.size + 1, 4, none⟩ (.int .i64 cap)).setCell ⟨w.heap.size + 1, 5, none⟩ (.int .i64 ops)).setCell ⟨w.heap.size + 1, 6, none⟩ (.int .i64 arm)).setCell ⟨w.heap.size + 1, 7, none⟩ (.bool false)) = X9
    obtain ⟨y1, y2⟩ := oset8 H3.out hX9
    have HB9 := HB0.out.trans (y2.below (fun k _ e => by omega) HB0.out.size)
    have x0 := y1.cell 0; have x1 := y1.cell 1; have x2 := y1.cell 2; have x3 := y1.cell 3; have x4 := y1.cell 4; have x5 := y1.cell 5; have x6 := y1.cell 6; have x7 := y1.cell 7; simp only [List.getElem?_toArray, List.getElem?_cons_zero, List.getElem?_cons_succ] at x0 x1 x2 x3 x4 x5 x6 x7
    refine bodyPost_ret (v := .tuple #[.agg #[.slice a1 n1 c1, .slice a2 n2 c2, .slice a3 n3 c3, .slice a4 n4 c4, .int .i64 cap, .int .i64 ops, .int .i64 arm, .bool false], .int .i64 203]) (by simp [results, Tryz.results21, go_sem, x0, x1, x2, x3, x4, x5, x6, x7]) rfl ?_
    exact ⟨⟨a1, a2, a3, a4, c1, c2, c3, c4⟩, rfl, Hmem.out.on HB9, HB9, DkN.refl _ _ _⟩
end Go.Proofs.YtgoahcmgpjacjaaGreat
