/-
  Layer 20, the document's: Rename (ahead of the code's landing).
-/
import Derived.Test.YtgoahcmgpjacjaaGreatDisH
import Derived.Test.YtgoahcmgpjacjaaGreatNamR
namespace Go.Proofs.YtgoahcmgpjacjaaGreat
set_option linter.unusedSimpArgs false
set_option linter.unusedVariables false
open Go.ChangeShapes Go.WideShapes Go.ChangeAt Go.RowKit Go.Joins Go.Deep
set_option maxRecDepth 100000 in
set_option maxHeartbeats 2000000 in
theorem dref_ren_a (D : Dk) (a : DAd) (s x : List UInt8) (w : World) (hM : DkMem w D a) (hd : D.dir.length ≤ 1000000) (hx : x.length ≤ 1000000) (hs : ¬ D.shut s = 0) : Calls Tryz.prog 25 #[.agg (dkc D a), .string ⟨s.toArray⟩, .string ⟨x.toArray⟩] w fun e w' => DPost a w w' e (drenF D s x) := by
  have hop := fun W hb => dref_open_any D a s W (hM.on hb) hd
  have hck := fun W => nref_check_any x W hx
  have Hmem := Lib.hid hM
  unfold DPost drenF
  clear hM hd hx
  · have hs2 : (D.shut s == 0) = false := by rw [beq_eq_false_iff_ne]; exact hs
    rw [if_pos hs]
    simp only [hs, if_false] at hop
    dsimp only
    generalize D.find s = FN at *
    generalize D.shut s = SH at *
    generalize nchkF x = CK at *
    unfold dkc at hop ⊢
    obtain ⟨fs, dr, sf, cg, cap, ops, arm, dd⟩ := D
    obtain ⟨a1, a2, a3, a4, c1, c2, c3, c4⟩ := a
    dsimp only at *
    obtain ⟨n1, hn1⟩ : ∃ n, fs.length = n := ⟨_, rfl⟩
    obtain ⟨n2, hn2⟩ : ∃ n, dr.length = n := ⟨_, rfl⟩
    obtain ⟨n3, hn3⟩ : ∃ n, sf.length = n := ⟨_, rfl⟩
    obtain ⟨n4, hn4⟩ : ∃ n, cg.length = n := ⟨_, rfl⟩
    have HL1 := Lib.hid hn1
    have HL2 := Lib.hid hn2
    have HL3 := Lib.hid hn3
    have HL4 := Lib.hid hn4
    rw [hn1, hn2, hn3, hn4] at hop ⊢
    have Hop := Lib.hid hop
    clear hn1 hn2 hn3 hn4 hop
    have h1 := (Blk.new w 33 #[.slice a1 n1 c1, .slice a2 n2 c2, .slice a3 n3 c3, .slice a4 n4 c4, .int .i64 cap, .int .i64 ops, .int .i64 arm, .bool dd]).alloc (.cells #[.slice none 0 0, .slice none 0 0, .slice none 0 0, .slice none 0 0, .int .i64 0, .int .i64 0, .int .i64 0, .bool false] 33)
    have h3 := Blk.new (w.alloc (.cells #[.slice a1 n1 c1, .slice a2 n2 c2, .slice a3 n3 c3, .slice a4 n4 c4, .int .i64 cap, .int .i64 ops, .int .i64 arm, .bool dd] 33)) 33 #[.slice none 0 0, .slice none 0 0, .slice none 0 0, .slice none 0 0, .int .i64 0, .int .i64 0, .int .i64 0, .bool false]
    simp only [World.size_alloc] at h3
    have H1 := Lib.hid h1
    have H3 := Lib.hid h3
    have HB0 : Hid (Below w.heap.size w ((w.alloc (.cells #[.slice a1 n1 c1, .slice a2 n2 c2, .slice a3 n3 c3, .slice a4 n4 c4, .int .i64 cap, .int .i64 ops, .int .i64 arm, .bool dd] 33)).alloc (.cells #[.slice none 0 0, .slice none 0 0, .slice none 0 0, .slice none 0 0, .int .i64 0, .int .i64 0, .int .i64 0, .bool false] 33))) := Lib.hid (by go_grown)
    clear h1 h3
    go_enter Tryz.func25, Tryz.ntmps25
    go_wp2_with (first
      | (go_at_call 57; (with_reducible refine (Hop.out _ HB0.out).mono ?_); rintro e w1 ⟨rfl, hb1⟩; replace H1 := Lib.hid (H1.out.below hb1 H1.out.lt); replace H3 := Lib.hid (H3.out.below hb1 H3.out.lt); replace HB0 := Lib.hid (HB0.out.trans (hb1.mono HB0.out.size)); clear hb1; have p0 := H1.out.cell 0; have p1 := H1.out.cell 1; have p2 := H1.out.cell 2; have p3 := H1.out.cell 3; have p4 := H1.out.cell 4; have p5 := H1.out.cell 5; have p6 := H1.out.cell 6; have p7 := H1.out.cell 7; simp only [List.getElem?_toArray, List.getElem?_cons_zero, List.getElem?_cons_succ] at p0 p1 p2 p3 p4 p5 p6 p7; have q0 := H3.out.cell 0; have q1 := H3.out.cell 1; have q2 := H3.out.cell 2; have q3 := H3.out.cell 3; have q4 := H3.out.cell 4; have q5 := H3.out.cell 5; have q6 := H3.out.cell 6; have q7 := H3.out.cell 7; simp only [List.getElem?_toArray, List.getElem?_cons_zero, List.getElem?_cons_succ] at q0 q1 q2 q3 q4 q5 q6 q7; have v0 := H3.out.frozen 0; have v1 := H3.out.frozen 1; have v2 := H3.out.frozen 2; have v3 := H3.out.frozen 3; have v4 := H3.out.frozen 4; have v5 := H3.out.frozen 5; have v6 := H3.out.frozen 6; have v7 := H3.out.frozen 7))
    clear Hop
    generalize hX9 : ((((((((w1.setCell ⟨w.heap.size + 1, 0, none⟩ (.slice a1 n1 c1)).setCell ⟨w.heap.size + 1, 1, none⟩ (.slice a2 n2 c2)).setCell ⟨w.heap.size + 1, 2, none⟩ (.slice a3 n3 c3)).setCell ⟨w.heap.size + 1, 3, none⟩ (.slice a4 n4 c4)).setCell ⟨w.heap.size + 1, 4, none⟩ (.int .i64 cap)).setCell ⟨w.heap.size + 1, 5, none⟩ (.int .i64 ops)).setCell ⟨w.heap.size + 1, 6, none⟩ (.int .i64 arm)).setCell ⟨w.heap.size + 1, 7, none⟩ (.bool dd)) = X9
    obtain ⟨y1, y2⟩ := oset8 H3.out hX9
    have HB9 := HB0.out.trans (y2.below (fun k _ e => by omega) HB0.out.size)
    have x0 := y1.cell 0; have x1 := y1.cell 1; have x2 := y1.cell 2; have x3 := y1.cell 3; have x4 := y1.cell 4; have x5 := y1.cell 5; have x6 := y1.cell 6; have x7 := y1.cell 7; simp only [List.getElem?_toArray, List.getElem?_cons_zero, List.getElem?_cons_succ] at x0 x1 x2 x3 x4 x5 x6 x7
    refine bodyPost_ret (v := .tuple #[.agg #[.slice a1 n1 c1, .slice a2 n2 c2, .slice a3 n3 c3, .slice a4 n4 c4, .int .i64 cap, .int .i64 ops, .int .i64 arm, .bool dd], .int .i64 SH]) (by simp [results, Tryz.results25, go_sem, x0, x1, x2, x3, x4, x5, x6, x7]) rfl ?_
    exact ⟨⟨a1, a2, a3, a4, c1, c2, c3, c4⟩, rfl, Hmem.out.on HB9, HB9, DkN.refl _ _ _⟩
set_option maxRecDepth 100000 in
set_option maxHeartbeats 2000000 in
theorem dref_ren_b (D : Dk) (a : DAd) (s x : List UInt8) (w : World) (hM : DkMem w D a) (hd : D.dir.length ≤ 1000000) (hx : x.length ≤ 1000000) (hs : D.shut s = 0) (hk : ¬ nchkF x = 0) : Calls Tryz.prog 25 #[.agg (dkc D a), .string ⟨s.toArray⟩, .string ⟨x.toArray⟩] w fun e w' => DPost a w w' e (drenF D s x) := by
  have hop := fun W hb => dref_open_any D a s W (hM.on hb) hd
  have hck := fun W => nref_check_any x W hx
  have Hmem := Lib.hid hM
  unfold DPost drenF
  clear hM hd hx
  · have hk2 : (nchkF x == 0) = false := by rw [beq_eq_false_iff_ne]; exact hk
    rw [if_neg (by rw [hs]; simp), if_pos hk]
    simp only [hs, if_true] at hop
    dsimp only
    generalize D.find s = FN at *
    generalize D.shut s = SH at *
    generalize nchkF x = CK at *
    have Hck := Lib.hid hck
    clear hck hs
    unfold dkc at hop ⊢
    obtain ⟨fs, dr, sf, cg, cap, ops, arm, dd⟩ := D
    obtain ⟨a1, a2, a3, a4, c1, c2, c3, c4⟩ := a
    dsimp only at *
    obtain ⟨n1, hn1⟩ : ∃ n, fs.length = n := ⟨_, rfl⟩
    obtain ⟨n2, hn2⟩ : ∃ n, dr.length = n := ⟨_, rfl⟩
    obtain ⟨n3, hn3⟩ : ∃ n, sf.length = n := ⟨_, rfl⟩
    obtain ⟨n4, hn4⟩ : ∃ n, cg.length = n := ⟨_, rfl⟩
    have HL1 := Lib.hid hn1
    have HL2 := Lib.hid hn2
    have HL3 := Lib.hid hn3
    have HL4 := Lib.hid hn4
    rw [hn1, hn2, hn3, hn4] at hop ⊢
    have Hop := Lib.hid hop
    clear hn1 hn2 hn3 hn4 hop
    have h1 := (Blk.new w 33 #[.slice a1 n1 c1, .slice a2 n2 c2, .slice a3 n3 c3, .slice a4 n4 c4, .int .i64 cap, .int .i64 ops, .int .i64 arm, .bool dd]).alloc (.cells #[.slice none 0 0, .slice none 0 0, .slice none 0 0, .slice none 0 0, .int .i64 0, .int .i64 0, .int .i64 0, .bool false] 33)
    have h3 := Blk.new (w.alloc (.cells #[.slice a1 n1 c1, .slice a2 n2 c2, .slice a3 n3 c3, .slice a4 n4 c4, .int .i64 cap, .int .i64 ops, .int .i64 arm, .bool dd] 33)) 33 #[.slice none 0 0, .slice none 0 0, .slice none 0 0, .slice none 0 0, .int .i64 0, .int .i64 0, .int .i64 0, .bool false]
    simp only [World.size_alloc] at h3
    have H1 := Lib.hid h1
    have H3 := Lib.hid h3
    have HB0 : Hid (Below w.heap.size w ((w.alloc (.cells #[.slice a1 n1 c1, .slice a2 n2 c2, .slice a3 n3 c3, .slice a4 n4 c4, .int .i64 cap, .int .i64 ops, .int .i64 arm, .bool dd] 33)).alloc (.cells #[.slice none 0 0, .slice none 0 0, .slice none 0 0, .slice none 0 0, .int .i64 0, .int .i64 0, .int .i64 0, .bool false] 33))) := Lib.hid (by go_grown)
    clear h1 h3
    go_enter Tryz.func25, Tryz.ntmps25
    go_wp2_with (first
      | (go_at_call 57; (with_reducible refine (Hop.out _ HB0.out).mono ?_); rintro e w1 ⟨rfl, hb1⟩; replace H1 := Lib.hid (H1.out.below hb1 H1.out.lt); replace H3 := Lib.hid (H3.out.below hb1 H3.out.lt); replace HB0 := Lib.hid (HB0.out.trans (hb1.mono HB0.out.size)); clear hb1; have p0 := H1.out.cell 0; have p1 := H1.out.cell 1; have p2 := H1.out.cell 2; have p3 := H1.out.cell 3; have p4 := H1.out.cell 4; have p5 := H1.out.cell 5; have p6 := H1.out.cell 6; have p7 := H1.out.cell 7; simp only [List.getElem?_toArray, List.getElem?_cons_zero, List.getElem?_cons_succ] at p0 p1 p2 p3 p4 p5 p6 p7; have q0 := H3.out.cell 0; have q1 := H3.out.cell 1; have q2 := H3.out.cell 2; have q3 := H3.out.cell 3; have q4 := H3.out.cell 4; have q5 := H3.out.cell 5; have q6 := H3.out.cell 6; have q7 := H3.out.cell 7; simp only [List.getElem?_toArray, List.getElem?_cons_zero, List.getElem?_cons_succ] at q0 q1 q2 q3 q4 q5 q6 q7; have v0 := H3.out.frozen 0; have v1 := H3.out.frozen 1; have v2 := H3.out.frozen 2; have v3 := H3.out.frozen 3; have v4 := H3.out.frozen 4; have v5 := H3.out.frozen 5; have v6 := H3.out.frozen 6; have v7 := H3.out.frozen 7)
      | (go_at_call 54; (with_reducible refine (Hck.out _).mono ?_); rintro e w4 ⟨rfl, hw4⟩; obtain rfl := hw4.symm))
    clear Hop
    generalize hX9 : ((((((((w1.setCell ⟨w.heap.size + 1, 0, none⟩ (.slice a1 n1 c1)).setCell ⟨w.heap.size + 1, 1, none⟩ (.slice a2 n2 c2)).setCell ⟨w.heap.size + 1, 2, none⟩ (.slice a3 n3 c3)).setCell ⟨w.heap.size + 1, 3, none⟩ (.slice a4 n4 c4)).setCell ⟨w.heap.size + 1, 4, none⟩ (.int .i64 cap)).setCell ⟨w.heap.size + 1, 5, none⟩ (.int .i64 ops)).setCell ⟨w.heap.size + 1, 6, none⟩ (.int .i64 arm)).setCell ⟨w.heap.size + 1, 7, none⟩ (.bool dd)) = X9
    obtain ⟨y1, y2⟩ := oset8 H3.out hX9
    have HB9 := HB0.out.trans (y2.below (fun k _ e => by omega) HB0.out.size)
    have x0 := y1.cell 0; have x1 := y1.cell 1; have x2 := y1.cell 2; have x3 := y1.cell 3; have x4 := y1.cell 4; have x5 := y1.cell 5; have x6 := y1.cell 6; have x7 := y1.cell 7; simp only [List.getElem?_toArray, List.getElem?_cons_zero, List.getElem?_cons_succ] at x0 x1 x2 x3 x4 x5 x6 x7
    refine bodyPost_ret (v := .tuple #[.agg #[.slice a1 n1 c1, .slice a2 n2 c2, .slice a3 n3 c3, .slice a4 n4 c4, .int .i64 cap, .int .i64 ops, .int .i64 arm, .bool dd], .int .i64 CK]) (by simp [results, Tryz.results25, go_sem, x0, x1, x2, x3, x4, x5, x6, x7]) rfl ?_
    exact ⟨⟨a1, a2, a3, a4, c1, c2, c3, c4⟩, rfl, Hmem.out.on HB9, HB9, DkN.refl _ _ _⟩
set_option maxRecDepth 100000 in
set_option maxHeartbeats 2000000 in
theorem dref_ren_c (D : Dk) (a : DAd) (s x : List UInt8) (w : World) (hM : DkMem w D a) (hd : D.dir.length ≤ 1000000) (hx : x.length ≤ 1000000) (hs : D.shut s = 0) (hk : nchkF x = 0) (he : s = x) : Calls Tryz.prog 25 #[.agg (dkc D a), .string ⟨s.toArray⟩, .string ⟨x.toArray⟩] w fun e w' => DPost a w w' e (drenF D s x) := by
  have hop := fun W hb => dref_open_any D a s W (hM.on hb) hd
  have hck := fun W => nref_check_any x W hx
  have Hmem := Lib.hid hM
  unfold DPost drenF
  clear hM hd hx
  · rw [if_neg (by rw [hs]; simp), if_neg (by rw [hk]; simp), if_pos he]
    simp only [hs, if_true] at hop
    rw [hk] at hck
    dsimp only
    subst he
    generalize D.find s = FN at *
    generalize D.shut s = SH at *
    generalize nchkF s = CK at *
    have Hck := Lib.hid hck
    clear hck hs hk
    unfold dkc at hop ⊢
    obtain ⟨fs, dr, sf, cg, cap, ops, arm, dd⟩ := D
    obtain ⟨a1, a2, a3, a4, c1, c2, c3, c4⟩ := a
    dsimp only at *
    obtain ⟨n1, hn1⟩ : ∃ n, fs.length = n := ⟨_, rfl⟩
    obtain ⟨n2, hn2⟩ : ∃ n, dr.length = n := ⟨_, rfl⟩
    obtain ⟨n3, hn3⟩ : ∃ n, sf.length = n := ⟨_, rfl⟩
    obtain ⟨n4, hn4⟩ : ∃ n, cg.length = n := ⟨_, rfl⟩
    have HL1 := Lib.hid hn1
    have HL2 := Lib.hid hn2
    have HL3 := Lib.hid hn3
    have HL4 := Lib.hid hn4
    rw [hn1, hn2, hn3, hn4] at hop ⊢
    have Hop := Lib.hid hop
    clear hn1 hn2 hn3 hn4 hop
    have h1 := (Blk.new w 33 #[.slice a1 n1 c1, .slice a2 n2 c2, .slice a3 n3 c3, .slice a4 n4 c4, .int .i64 cap, .int .i64 ops, .int .i64 arm, .bool dd]).alloc (.cells #[.slice none 0 0, .slice none 0 0, .slice none 0 0, .slice none 0 0, .int .i64 0, .int .i64 0, .int .i64 0, .bool false] 33)
    have h3 := Blk.new (w.alloc (.cells #[.slice a1 n1 c1, .slice a2 n2 c2, .slice a3 n3 c3, .slice a4 n4 c4, .int .i64 cap, .int .i64 ops, .int .i64 arm, .bool dd] 33)) 33 #[.slice none 0 0, .slice none 0 0, .slice none 0 0, .slice none 0 0, .int .i64 0, .int .i64 0, .int .i64 0, .bool false]
    simp only [World.size_alloc] at h3
    have H1 := Lib.hid h1
    have H3 := Lib.hid h3
    have HB0 : Hid (Below w.heap.size w ((w.alloc (.cells #[.slice a1 n1 c1, .slice a2 n2 c2, .slice a3 n3 c3, .slice a4 n4 c4, .int .i64 cap, .int .i64 ops, .int .i64 arm, .bool dd] 33)).alloc (.cells #[.slice none 0 0, .slice none 0 0, .slice none 0 0, .slice none 0 0, .int .i64 0, .int .i64 0, .int .i64 0, .bool false] 33))) := Lib.hid (by go_grown)
    clear h1 h3
    go_enter Tryz.func25, Tryz.ntmps25
    go_wp2_with (first
      | (go_at_call 57; (with_reducible refine (Hop.out _ HB0.out).mono ?_); rintro e w1 ⟨rfl, hb1⟩; replace H1 := Lib.hid (H1.out.below hb1 H1.out.lt); replace H3 := Lib.hid (H3.out.below hb1 H3.out.lt); replace HB0 := Lib.hid (HB0.out.trans (hb1.mono HB0.out.size)); clear hb1; have p0 := H1.out.cell 0; have p1 := H1.out.cell 1; have p2 := H1.out.cell 2; have p3 := H1.out.cell 3; have p4 := H1.out.cell 4; have p5 := H1.out.cell 5; have p6 := H1.out.cell 6; have p7 := H1.out.cell 7; simp only [List.getElem?_toArray, List.getElem?_cons_zero, List.getElem?_cons_succ] at p0 p1 p2 p3 p4 p5 p6 p7; have q0 := H3.out.cell 0; have q1 := H3.out.cell 1; have q2 := H3.out.cell 2; have q3 := H3.out.cell 3; have q4 := H3.out.cell 4; have q5 := H3.out.cell 5; have q6 := H3.out.cell 6; have q7 := H3.out.cell 7; simp only [List.getElem?_toArray, List.getElem?_cons_zero, List.getElem?_cons_succ] at q0 q1 q2 q3 q4 q5 q6 q7; have v0 := H3.out.frozen 0; have v1 := H3.out.frozen 1; have v2 := H3.out.frozen 2; have v3 := H3.out.frozen 3; have v4 := H3.out.frozen 4; have v5 := H3.out.frozen 5; have v6 := H3.out.frozen 6; have v7 := H3.out.frozen 7)
      | (go_at_call 54; (with_reducible refine (Hck.out _).mono ?_); rintro e w4 ⟨rfl, hw4⟩; obtain rfl := hw4.symm))
    clear Hop
    generalize hX9 : ((((((((w1.setCell ⟨w.heap.size + 1, 0, none⟩ (.slice a1 n1 c1)).setCell ⟨w.heap.size + 1, 1, none⟩ (.slice a2 n2 c2)).setCell ⟨w.heap.size + 1, 2, none⟩ (.slice a3 n3 c3)).setCell ⟨w.heap.size + 1, 3, none⟩ (.slice a4 n4 c4)).setCell ⟨w.heap.size + 1, 4, none⟩ (.int .i64 cap)).setCell ⟨w.heap.size + 1, 5, none⟩ (.int .i64 ops)).setCell ⟨w.heap.size + 1, 6, none⟩ (.int .i64 arm)).setCell ⟨w.heap.size + 1, 7, none⟩ (.bool dd)) = X9
    obtain ⟨y1, y2⟩ := oset8 H3.out hX9
    have HB9 := HB0.out.trans (y2.below (fun k _ e => by omega) HB0.out.size)
    have x0 := y1.cell 0; have x1 := y1.cell 1; have x2 := y1.cell 2; have x3 := y1.cell 3; have x4 := y1.cell 4; have x5 := y1.cell 5; have x6 := y1.cell 6; have x7 := y1.cell 7; simp only [List.getElem?_toArray, List.getElem?_cons_zero, List.getElem?_cons_succ] at x0 x1 x2 x3 x4 x5 x6 x7
    refine bodyPost_ret (v := .tuple #[.agg #[.slice a1 n1 c1, .slice a2 n2 c2, .slice a3 n3 c3, .slice a4 n4 c4, .int .i64 cap, .int .i64 ops, .int .i64 arm, .bool dd], .int .i64 2]) (by simp [results, Tryz.results25, go_sem, x0, x1, x2, x3, x4, x5, x6, x7]) rfl ?_
    exact ⟨⟨a1, a2, a3, a4, c1, c2, c3, c4⟩, rfl, Hmem.out.on HB9, HB9, DkN.refl _ _ _⟩
set_option maxRecDepth 100000 in
set_option maxHeartbeats 2000000 in
theorem dref_ren_d (D : Dk) (a : DAd) (s x : List UInt8) (w : World) (hM : DkMem w D a) (hd : D.dir.length ≤ 1000000) (hc : D.chg.length ≤ 1000000) (ho : 0 ≤ D.ops ∧ D.ops ≤ 1000000) (ha : -9223372036854775808 ≤ D.armed ∧ D.armed < 9223372036854775808) (hx : x.length ≤ 1000000) (hs : D.shut s = 0) (hk : nchkF x = 0) (he : ¬ s = x) : Calls Tryz.prog 25 #[.agg (dkc D a), .string ⟨s.toArray⟩, .string ⟨x.toArray⟩] w fun e w' => DPost a w w' e (drenF D s x) := by
  have hop := fun W hb => dref_open_any D a s W (hM.on hb) hd
  have hck := fun W => nref_check_any x W hx
  have Hmem := Lib.hid hM
  unfold DPost drenF
  have hch := fun W hb => dref_change_any D a s x (D.find s) W (hM.on hb) hd hc ho ha
  unfold DPost at hch
  dsimp only at hch
  clear hM hd hc ho ha
  · rw [if_neg (by rw [hs]; simp), if_neg (by rw [hk]; simp), if_neg he]
    simp only [hs, if_true] at hop
    rw [hk] at hck
    have he2 : (s == x) = false := by rw [beq_eq_false_iff_ne]; exact he
    dsimp only
    generalize D.change (s, x, D.find s) = F at *
    generalize D.told = R at *
    generalize D.find s = FN at *
    generalize D.shut s = SH at *
    generalize nchkF x = CK at *
    have Hck := Lib.hid hck
    clear hck hs hk
    unfold dkc at hop hch ⊢
    obtain ⟨fs, dr, sf, cg, cap, ops, arm, dd⟩ := D
    obtain ⟨a1, a2, a3, a4, c1, c2, c3, c4⟩ := a
    dsimp only at *
    obtain ⟨n1, hn1⟩ : ∃ n, fs.length = n := ⟨_, rfl⟩
    obtain ⟨n2, hn2⟩ : ∃ n, dr.length = n := ⟨_, rfl⟩
    obtain ⟨n3, hn3⟩ : ∃ n, sf.length = n := ⟨_, rfl⟩
    obtain ⟨n4, hn4⟩ : ∃ n, cg.length = n := ⟨_, rfl⟩
    have HL1 := Lib.hid hn1
    have HL2 := Lib.hid hn2
    have HL3 := Lib.hid hn3
    have HL4 := Lib.hid hn4
    rw [hn1, hn2, hn3, hn4] at hop hch ⊢
    have Hop := Lib.hid hop
    have Hch := Lib.hid hch
    clear hn1 hn2 hn3 hn4 hop hch
    have h1 := (Blk.new w 33 #[.slice a1 n1 c1, .slice a2 n2 c2, .slice a3 n3 c3, .slice a4 n4 c4, .int .i64 cap, .int .i64 ops, .int .i64 arm, .bool dd]).alloc (.cells #[.slice none 0 0, .slice none 0 0, .slice none 0 0, .slice none 0 0, .int .i64 0, .int .i64 0, .int .i64 0, .bool false] 33)
    have h3 := Blk.new (w.alloc (.cells #[.slice a1 n1 c1, .slice a2 n2 c2, .slice a3 n3 c3, .slice a4 n4 c4, .int .i64 cap, .int .i64 ops, .int .i64 arm, .bool dd] 33)) 33 #[.slice none 0 0, .slice none 0 0, .slice none 0 0, .slice none 0 0, .int .i64 0, .int .i64 0, .int .i64 0, .bool false]
    simp only [World.size_alloc] at h3
    have H1 := Lib.hid h1
    have H3 := Lib.hid h3
    have HB0 : Hid (Below w.heap.size w ((w.alloc (.cells #[.slice a1 n1 c1, .slice a2 n2 c2, .slice a3 n3 c3, .slice a4 n4 c4, .int .i64 cap, .int .i64 ops, .int .i64 arm, .bool dd] 33)).alloc (.cells #[.slice none 0 0, .slice none 0 0, .slice none 0 0, .slice none 0 0, .int .i64 0, .int .i64 0, .int .i64 0, .bool false] 33))) := Lib.hid (by go_grown)
    clear h1 h3
    go_enter Tryz.func25, Tryz.ntmps25
    go_wp2_with (first
      | (go_at_call 57; (with_reducible refine (Hop.out _ HB0.out).mono ?_); rintro e w1 ⟨rfl, hb1⟩; replace H1 := Lib.hid (H1.out.below hb1 H1.out.lt); replace H3 := Lib.hid (H3.out.below hb1 H3.out.lt); replace HB0 := Lib.hid (HB0.out.trans (hb1.mono HB0.out.size)); clear hb1; have p0 := H1.out.cell 0; have p1 := H1.out.cell 1; have p2 := H1.out.cell 2; have p3 := H1.out.cell 3; have p4 := H1.out.cell 4; have p5 := H1.out.cell 5; have p6 := H1.out.cell 6; have p7 := H1.out.cell 7; simp only [List.getElem?_toArray, List.getElem?_cons_zero, List.getElem?_cons_succ] at p0 p1 p2 p3 p4 p5 p6 p7; have q0 := H3.out.cell 0; have q1 := H3.out.cell 1; have q2 := H3.out.cell 2; have q3 := H3.out.cell 3; have q4 := H3.out.cell 4; have q5 := H3.out.cell 5; have q6 := H3.out.cell 6; have q7 := H3.out.cell 7; simp only [List.getElem?_toArray, List.getElem?_cons_zero, List.getElem?_cons_succ] at q0 q1 q2 q3 q4 q5 q6 q7; have v0 := H3.out.frozen 0; have v1 := H3.out.frozen 1; have v2 := H3.out.frozen 2; have v3 := H3.out.frozen 3; have v4 := H3.out.frozen 4; have v5 := H3.out.frozen 5; have v6 := H3.out.frozen 6; have v7 := H3.out.frozen 7)
      | (go_at_call 54; (with_reducible refine (Hck.out _).mono ?_); rintro e w4 ⟨rfl, hw4⟩; obtain rfl := hw4.symm)
      | (go_at_call 56; (with_reducible refine (Hch.out _ HB0.out).mono ?_); rintro e w2 ⟨a5, rfl, hm5, hb2, hk5⟩; have HM5 := Lib.hid hm5; have HK5 := Lib.hid (hk5.mono (w := w) HB0.out.size (Nat.le_refl _)); clear hk5; clear p0 q0 v0 p1 q1 v1 p2 q2 v2 p3 q3 v3 p4 q4 v4 p5 q5 v5 p6 q6 v6 p7 q7 v7; replace H1 := Lib.hid (H1.out.below hb2 H1.out.lt); replace H3 := Lib.hid (H3.out.below hb2 H3.out.lt); replace HB0 := Lib.hid (HB0.out.trans (hb2.mono HB0.out.size)); clear hb2; have q0 := H3.out.cell 0; have q1 := H3.out.cell 1; have q2 := H3.out.cell 2; have q3 := H3.out.cell 3; have q4 := H3.out.cell 4; have q5 := H3.out.cell 5; have q6 := H3.out.cell 6; have q7 := H3.out.cell 7; simp only [List.getElem?_toArray, List.getElem?_cons_zero, List.getElem?_cons_succ] at q0 q1 q2 q3 q4 q5 q6 q7; have v0 := H3.out.frozen 0; have v1 := H3.out.frozen 1; have v2 := H3.out.frozen 2; have v3 := H3.out.frozen 3; have v4 := H3.out.frozen 4; have v5 := H3.out.frozen 5; have v6 := H3.out.frozen 6; have v7 := H3.out.frozen 7))
    clear Hop Hch
    generalize hX9 : ((((((((w2.setCell ⟨w.heap.size + 1, 0, none⟩ (.slice a5.a1 F.files.length a5.c1)).setCell ⟨w.heap.size + 1, 1, none⟩ (.slice a5.a2 F.dir.length a5.c2)).setCell ⟨w.heap.size + 1, 2, none⟩ (.slice a5.a3 F.safe.length a5.c3)).setCell ⟨w.heap.size + 1, 3, none⟩ (.slice a5.a4 F.chg.length a5.c4)).setCell ⟨w.heap.size + 1, 4, none⟩ (.int .i64 F.cap)).setCell ⟨w.heap.size + 1, 5, none⟩ (.int .i64 F.ops)).setCell ⟨w.heap.size + 1, 6, none⟩ (.int .i64 F.armed)).setCell ⟨w.heap.size + 1, 7, none⟩ (.bool F.dead)) = X9
    obtain ⟨y1, y2⟩ := oset8 H3.out hX9
    have HB9 := HB0.out.trans (y2.below (fun k _ e => by omega) HB0.out.size)
    have x0 := y1.cell 0; have x1 := y1.cell 1; have x2 := y1.cell 2; have x3 := y1.cell 3; have x4 := y1.cell 4; have x5 := y1.cell 5; have x6 := y1.cell 6; have x7 := y1.cell 7; simp only [List.getElem?_toArray, List.getElem?_cons_zero, List.getElem?_cons_succ] at x0 x1 x2 x3 x4 x5 x6 x7
    refine bodyPost_ret (v := .tuple #[.agg #[.slice a5.a1 F.files.length a5.c1, .slice a5.a2 F.dir.length a5.c2, .slice a5.a3 F.safe.length a5.c3, .slice a5.a4 F.chg.length a5.c4, .int .i64 F.cap, .int .i64 F.ops, .int .i64 F.armed, .bool F.dead], .int .i64 R]) (by simp [results, Tryz.results25, go_sem, x0, x1, x2, x3, x4, x5, x6, x7]) rfl ?_
    exact ⟨a5, rfl, HM5.out.off H3.out (by simp) y2, HB9, HK5.out.late y2.size⟩
theorem dref_ren_any (D : Dk) (a : DAd) (s x : List UInt8) (w : World) (hM : DkMem w D a) (hd : D.dir.length ≤ 1000000) (hc : D.chg.length ≤ 1000000) (ho : 0 ≤ D.ops ∧ D.ops ≤ 1000000) (ha : -9223372036854775808 ≤ D.armed ∧ D.armed < 9223372036854775808) (hx : x.length ≤ 1000000) : Calls Tryz.prog 25 #[.agg (dkc D a), .string ⟨s.toArray⟩, .string ⟨x.toArray⟩] w fun e w' => DPost a w w' e (drenF D s x) := by
  by_cases hs : D.shut s = 0
  · by_cases hk : nchkF x = 0
    · by_cases he : s = x
      · exact dref_ren_c D a s x w hM hd hx hs hk he
      · exact dref_ren_d D a s x w hM hd hc ho ha hx hs hk he
    · exact dref_ren_b D a s x w hM hd hx hs hk
  · exact dref_ren_a D a s x w hM hd hx hs
end Go.Proofs.YtgoahcmgpjacjaaGreat
