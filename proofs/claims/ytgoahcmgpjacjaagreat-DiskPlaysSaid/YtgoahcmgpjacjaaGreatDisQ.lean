/-
  Layer 20, the document's: Append (ahead of the code's landing).
-/
import Derived.Test.YtgoahcmgpjacjaaGreatDisP
namespace Go.Proofs.YtgoahcmgpjacjaaGreat
set_option linter.unusedSimpArgs false
set_option linter.unusedVariables false
open Go.ChangeShapes Go.WideShapes Go.ChangeAt Go.RowKit Go.Joins Go.Deep
set_option maxRecDepth 100000 in
set_option maxHeartbeats 2000000 in
theorem dref_app_a (D : Dk) (a : DAd) (s x : List UInt8) (w : World) (hM : DkMem w D a) (hd : D.dir.length ≤ 1000000) (hs : ¬ D.shut s = 0) : Calls Tryz.prog 22 #[.agg (dkc D a), .string ⟨s.toArray⟩, .string ⟨x.toArray⟩] w fun e w' => DPost a w w' e (dappF D s x) := by
  have hop := fun W hb => dref_open_any D a s W (hM.on hb) hd
  have Hmem := Lib.hid hM
  unfold DPost dappF
  clear hM hd
  · have hs2 : (D.shut s == 0) = false := by rw [beq_eq_false_iff_ne]; exact hs
    rw [if_pos hs]
    simp only [hs, if_false] at hop
    dsimp only
    generalize D.find s = FN at *
    generalize D.shut s = SH at *
    unfold dkc at hop ⊢
    obtain ⟨fs, dr, sf, cg, cap, ops, arm, dd⟩ := D
    obtain ⟨a1, a2, a3, a4, c1, c2, c3, c4⟩ := a
    dsimp only at *
    obtain ⟨n1, hn1⟩ : ∃ n, fs.length = n := ⟨_, rfl⟩
    obtain ⟨n2, hn2⟩ : ∃ n, dr.length = n := ⟨_, rfl⟩
    obtain ⟨n3, hn3⟩ : ∃ n, sf.length = n := ⟨_, rfl⟩
    obtain ⟨n4, hn4⟩ : ∃ n, cg.length = n := ⟨_, rfl⟩
    have HL1 := Lib.hid hn1
    have HL2 := Lib.hid hn2
    have HL3 := Lib.hid hn3
    have HL4 := Lib.hid hn4
    rw [hn1, hn2, hn3, hn4] at hop ⊢
    have Hop := Lib.hid hop
    clear hn1 hn2 hn3 hn4 hop
    have h1 := (Blk.new w 33 #[.slice a1 n1 c1, .slice a2 n2 c2, .slice a3 n3 c3, .slice a4 n4 c4, .int .i64 cap, .int .i64 ops, .int .i64 arm, .bool dd]).alloc (.cells #[.slice none 0 0, .slice none 0 0, .slice none 0 0, .slice none 0 0, .int .i64 0, .int .i64 0, .int .i64 0, .bool false] 33)
    have h3 := Blk.new (w.alloc (.cells #[.slice a1 n1 c1, .slice a2 n2 c2, .slice a3 n3 c3, .slice a4 n4 c4, .int .i64 cap, .int .i64 ops, .int .i64 arm, .bool dd] 33)) 33 #[.slice none 0 0, .slice none 0 0, .slice none 0 0, .slice none 0 0, .int .i64 0, .int .i64 0, .int .i64 0, .bool false]
    simp only [World.size_alloc] at h3
    have H1 := Lib.hid h1
    have H3 := Lib.hid h3
    have HB0 : Hid (Below w.heap.size w ((w.alloc (.cells #[.slice a1 n1 c1, .slice a2 n2 c2, .slice a3 n3 c3, .slice a4 n4 c4, .int .i64 cap, .int .i64 ops, .int .i64 arm, .bool dd] 33)).alloc (.cells #[.slice none 0 0, .slice none 0 0, .slice none 0 0, .slice none 0 0, .int .i64 0, .int .i64 0, .int .i64 0, .bool false] 33))) := Lib.hid (by go_grown)
    clear h1 h3
    go_enter Tryz.func22, Tryz.ntmps22
    go_wp2_with (first
      | (go_at_call 57; (with_reducible refine (Hop.out _ HB0.out).mono ?_); rintro e w1 ⟨rfl, hb1⟩; replace H1 := Lib.hid (H1.out.below hb1 H1.out.lt); replace H3 := Lib.hid (H3.out.below hb1 H3.out.lt); replace HB0 := Lib.hid (HB0.out.trans (hb1.mono HB0.out.size)); clear hb1; have p0 := H1.out.cell 0; have p1 := H1.out.cell 1; have p2 := H1.out.cell 2; have p3 := H1.out.cell 3; have p4 := H1.out.cell 4; have p5 := H1.out.cell 5; have p6 := H1.out.cell 6; have p7 := H1.out.cell 7; simp only [List.getElem?_toArray, List.getElem?_cons_zero, List.getElem?_cons_succ] at p0 p1 p2 p3 p4 p5 p6 p7; have q0 := H3.out.cell 0; have q1 := H3.out.cell 1; have q2 := H3.out.cell 2; have q3 := H3.out.cell 3; have q4 := H3.out.cell 4; have q5 := H3.out.cell 5; have q6 := H3.out.cell 6; have q7 := H3.out.cell 7; simp only [List.getElem?_toArray, List.getElem?_cons_zero, List.getElem?_cons_succ] at q0 q1 q2 q3 q4 q5 q6 q7; have v0 := H3.out.frozen 0; have v1 := H3.out.frozen 1; have v2 := H3.out.frozen 2; have v3 := H3.out.frozen 3; have v4 := H3.out.frozen 4; have v5 := H3.out.frozen 5; have v6 := H3.out.frozen 6; have v7 := H3.out.frozen 7))
    clear Hop
    generalize hX9 : ((((((((w1.setCell ⟨w.heap.size + 1, 0, none⟩ (.slice a1 n1 c1)).setCell ⟨w.heap.size + 1, 1, none⟩ (.slice a2 n2 c2)).setCell ⟨w.heap.size + 1, 2, none⟩ (.slice a3 n3 c3)).setCell ⟨w.heap.size + 1, 3, none⟩ (.slice a4 n4 c4)).setCell ⟨w.heap.size + 1, 4, none⟩ (.int .i64 cap)).setCell ⟨w.heap.size + 1, 5, none⟩ (.int .i64 ops)).setCell ⟨w.heap.size + 1, 6, none⟩ (.int .i64 arm)).setCell ⟨w.heap.size + 1, 7, none⟩ (.bool dd)) = X9
    obtain ⟨y1, y2⟩ := oset8 H3.out hX9
    have HB9 := HB0.out.trans (y2.below (fun k _ e => by omega) HB0.out.size)
    have x0 := y1.cell 0; have x1 := y1.cell 1; have x2 := y1.cell 2; have x3 := y1.cell 3; have x4 := y1.cell 4; have x5 := y1.cell 5; have x6 := y1.cell 6; have x7 := y1.cell 7; simp only [List.getElem?_toArray, List.getElem?_cons_zero, List.getElem?_cons_succ] at x0 x1 x2 x3 x4 x5 x6 x7
    refine bodyPost_ret (v := .tuple #[.agg #[.slice a1 n1 c1, .slice a2 n2 c2, .slice a3 n3 c3, .slice a4 n4 c4, .int .i64 cap, .int .i64 ops, .int .i64 arm, .bool dd], .int .i64 SH]) (by simp [results, Tryz.results22, go_sem, x0, x1, x2, x3, x4, x5, x6, x7]) rfl ?_
    exact ⟨⟨a1, a2, a3, a4, c1, c2, c3, c4⟩, rfl, Hmem.out.on HB9, HB9, DkN.refl _ _ _⟩
set_option maxRecDepth 100000 in
set_option maxHeartbeats 2000000 in
theorem dref_app_b (D : Dk) (a : DAd) (s x : List UInt8) (w : World) (hM : DkMem w D a) (hd : D.dir.length ≤ 1000000) (hw : D.wf) (hx : x.length ≤ 1000000000) (hfl : (D.file (D.find s)).2.length ≤ 1000000000) (hs : D.shut s = 0) (hk : ¬ (flappF (D.file (D.find s)) x).2 = 0) : Calls Tryz.prog 22 #[.agg (dkc D a), .string ⟨s.toArray⟩, .string ⟨x.toArray⟩] w fun e w' => DPost a w w' e (dappF D s x) := by
  have hop := fun W hb => dref_open_any D a s W (hM.on hb) hd
  obtain ⟨-, hf0, hf1⟩ := dshut_ok hw hs
  obtain ⟨vn, hvn⟩ := Int.eq_ofNat_of_zero_le hf0
  have hvl : vn < D.files.length := by rw [hvn] at hf1; exact Int.ofNat_lt.1 hf1
  have hfi := dfile_at hvl
  obtain ⟨b, off, ea, hb, hcl⟩ := fl_cells hM.files rfl (by omega)
  have e0 := (hcl vn hvl).1
  have e1 := (hcl vn hvl).2
  rw [show D.files[vn] = D.file (vn : Int) from hfi.symm] at e0 e1
  have Hmem := Lib.hid hM
  unfold DPost dappF
  rw [hvn] at hk hfl ⊢
  simp only [hvn] at hop
  obtain ⟨⟨fa, fb⟩, hfile⟩ : ∃ x, D.file (vn : Int) = x := ⟨_, rfl⟩
  rw [hfile] at e0 e1
  rw [hfile]
  dsimp only at e0 e1
  rw [hfile] at hk hfl
  dsimp only at hfl
  have hcu := fun W => flref_app_any fa fb x W hfl hx
  obtain ⟨⟨⟨gx, gy⟩, ge⟩, hg⟩ : ∃ y, flappF (fa, fb) x = y := ⟨_, rfl⟩
  rw [hg] at hcu hk ⊢
  dsimp only [flc] at hcu hk
  clear hM hd hw hcl hf0 hf1 hfi hfile hg hx hfl
  · have hk2 : (ge == 0) = false := by rw [beq_eq_false_iff_ne]; exact hk
    rw [if_neg (by rw [hs]; simp), if_pos hk]
    simp only [hs, if_true] at hop
    dsimp only
    clear hs hvn
    unfold dkc at hop ⊢
    have Hcu := Lib.hid hcu
    clear hcu
    obtain ⟨fs, dr, sf, cg, cap, ops, arm, dd⟩ := D
    obtain ⟨a1, a2, a3, a4, c1, c2, c3, c4⟩ := a
    dsimp only at *
    obtain ⟨n1, hn1⟩ : ∃ n, fs.length = n := ⟨_, rfl⟩
    obtain ⟨n2, hn2⟩ : ∃ n, dr.length = n := ⟨_, rfl⟩
    obtain ⟨n3, hn3⟩ : ∃ n, sf.length = n := ⟨_, rfl⟩
    obtain ⟨n4, hn4⟩ : ∃ n, cg.length = n := ⟨_, rfl⟩
    have HL1 := Lib.hid hn1
    have HL2 := Lib.hid hn2
    have HL3 := Lib.hid hn3
    have HL4 := Lib.hid hn4
    rw [hn1, hn2, hn3, hn4] at hop ⊢
    have Hop := Lib.hid hop
    rw [hn1] at hvl
    clear hn1 hn2 hn3 hn4 hop
    subst ea
    have hvi : (0 : Int) ≤ (vn : Int) ∧ (vn : Int) < (n1 : Int) := by omega
    have E0 := Lib.hid e0
    have E1 := Lib.hid e1
    clear e0 e1
    have h1 := (Blk.new w 33 #[.slice (some ⟨b, off, none⟩) n1 c1, .slice a2 n2 c2, .slice a3 n3 c3, .slice a4 n4 c4, .int .i64 cap, .int .i64 ops, .int .i64 arm, .bool dd]).alloc (.cells #[.slice none 0 0, .slice none 0 0, .slice none 0 0, .slice none 0 0, .int .i64 0, .int .i64 0, .int .i64 0, .bool false] 33)
    have h3 := Blk.new (w.alloc (.cells #[.slice (some ⟨b, off, none⟩) n1 c1, .slice a2 n2 c2, .slice a3 n3 c3, .slice a4 n4 c4, .int .i64 cap, .int .i64 ops, .int .i64 arm, .bool dd] 33)) 33 #[.slice none 0 0, .slice none 0 0, .slice none 0 0, .slice none 0 0, .int .i64 0, .int .i64 0, .int .i64 0, .bool false]
    simp only [World.size_alloc] at h3
    have H1 := Lib.hid h1
    have H3 := Lib.hid h3
    have HB0 : Hid (Below w.heap.size w ((w.alloc (.cells #[.slice (some ⟨b, off, none⟩) n1 c1, .slice a2 n2 c2, .slice a3 n3 c3, .slice a4 n4 c4, .int .i64 cap, .int .i64 ops, .int .i64 arm, .bool dd] 33)).alloc (.cells #[.slice none 0 0, .slice none 0 0, .slice none 0 0, .slice none 0 0, .int .i64 0, .int .i64 0, .int .i64 0, .bool false] 33))) := Lib.hid (by go_grown)
    clear h1 h3
    go_enter Tryz.func22, Tryz.ntmps22
    go_upto_region 6 with (first
      | (go_at_call 57; (with_reducible refine (Hop.out _ HB0.out).mono ?_); rintro e w1 ⟨rfl, hb1⟩; replace H1 := Lib.hid (H1.out.below hb1 H1.out.lt); replace H3 := Lib.hid (H3.out.below hb1 H3.out.lt); replace HB0 := Lib.hid (HB0.out.trans (hb1.mono HB0.out.size)); clear hb1; have p0 := H1.out.cell 0; have p1 := H1.out.cell 1; have p2 := H1.out.cell 2; have p3 := H1.out.cell 3; have p4 := H1.out.cell 4; have p5 := H1.out.cell 5; have p6 := H1.out.cell 6; have p7 := H1.out.cell 7; simp only [List.getElem?_toArray, List.getElem?_cons_zero, List.getElem?_cons_succ] at p0 p1 p2 p3 p4 p5 p6 p7; have q0 := H3.out.cell 0; have q1 := H3.out.cell 1; have q2 := H3.out.cell 2; have q3 := H3.out.cell 3; have q4 := H3.out.cell 4; have q5 := H3.out.cell 5; have q6 := H3.out.cell 6; have q7 := H3.out.cell 7; simp only [List.getElem?_toArray, List.getElem?_cons_zero, List.getElem?_cons_succ] at q0 q1 q2 q3 q4 q5 q6 q7; have v0 := H3.out.frozen 0; have v1 := H3.out.frozen 1; have v2 := H3.out.frozen 2; have v3 := H3.out.frozen 3; have v4 := H3.out.frozen 4; have v5 := H3.out.frozen 5; have v6 := H3.out.frozen 6; have v7 := H3.out.frozen 7; replace H3 := H3; have y0 := (HB0.out.cell (p := ⟨b, off + vn * 2, none⟩) hb).trans E0.out; have y2 := (HB0.out.cell (p := ⟨b, off + vn * 2 + 1, none⟩) hb).trans E1.out)
      | (go_at_call 58; (with_reducible refine (Hcu.out _).mono ?_); rintro e w3 ⟨rfl, hb3⟩; clear p0 p1 p2 p3 p4 p5 p6 p7 q0 q1 q2 q3 q4 q5 q6 q7 v0 v1 v2 v3 v4 v5 v6 v7; replace H1 := Lib.hid (H1.out.below hb3 H1.out.lt); replace H3 := Lib.hid (H3.out.below hb3 H3.out.lt); replace HB0 := Lib.hid (HB0.out.trans (hb3.mono HB0.out.size)); clear hb3; have p0 := H1.out.cell 0; have p1 := H1.out.cell 1; have p2 := H1.out.cell 2; have p3 := H1.out.cell 3; have p4 := H1.out.cell 4; have p5 := H1.out.cell 5; have p6 := H1.out.cell 6; have p7 := H1.out.cell 7; simp only [List.getElem?_toArray, List.getElem?_cons_zero, List.getElem?_cons_succ] at p0 p1 p2 p3 p4 p5 p6 p7; have q0 := H3.out.cell 0; have q1 := H3.out.cell 1; have q2 := H3.out.cell 2; have q3 := H3.out.cell 3; have q4 := H3.out.cell 4; have q5 := H3.out.cell 5; have q6 := H3.out.cell 6; have q7 := H3.out.cell 7; simp only [List.getElem?_toArray, List.getElem?_cons_zero, List.getElem?_cons_succ] at q0 q1 q2 q3 q4 q5 q6 q7; have v0 := H3.out.frozen 0; have v1 := H3.out.frozen 1; have v2 := H3.out.frozen 2; have v3 := H3.out.frozen 3; have v4 := H3.out.frozen 4; have v5 := H3.out.frozen 5; have v6 := H3.out.frozen 6; have v7 := H3.out.frozen 7; have hl3 := H3.out.lt; have hl4 := H1.out.lt; have i1 := Nat.ne_of_gt hl4; have i2 := Nat.ne_of_lt hl4; have i3 := Nat.ne_of_gt hl3; have i4 := Nat.ne_of_lt hl3))
    clear Hop
    have HFx := Lib.hid (Blk.new w3 91 #[.string ⟨gx.toArray⟩, .string ⟨gy.toArray⟩])
    replace H1 := Lib.hid (H1.out.alloc (.cells #[.string ⟨gx.toArray⟩, .string ⟨gy.toArray⟩] 91))
    replace H3 := Lib.hid (H3.out.alloc (.cells #[.string ⟨gx.toArray⟩, .string ⟨gy.toArray⟩] 91))
    replace HB0 := Lib.hid (HB0.out.alloc HB0.out.size (.cells #[.string ⟨gx.toArray⟩, .string ⟨gy.toArray⟩] 91))
    generalize (w3.alloc (.cells #[.string ⟨gx.toArray⟩, .string ⟨gy.toArray⟩] 91)) = X3 at *
    clear p0 p1 p2 p3 p4 p5 p6 p7 q0 q1 q2 q3 q4 q5 q6 q7 v0 v1 v2 v3 v4 v5 v6 v7
    have p0 := H1.out.cell 0; have p1 := H1.out.cell 1; have p2 := H1.out.cell 2; have p3 := H1.out.cell 3; have p4 := H1.out.cell 4; have p5 := H1.out.cell 5; have p6 := H1.out.cell 6; have p7 := H1.out.cell 7; simp only [List.getElem?_toArray, List.getElem?_cons_zero, List.getElem?_cons_succ] at p0 p1 p2 p3 p4 p5 p6 p7
    have q0 := H3.out.cell 0; have q1 := H3.out.cell 1; have q2 := H3.out.cell 2; have q3 := H3.out.cell 3; have q4 := H3.out.cell 4; have q5 := H3.out.cell 5; have q6 := H3.out.cell 6; have q7 := H3.out.cell 7; simp only [List.getElem?_toArray, List.getElem?_cons_zero, List.getElem?_cons_succ] at q0 q1 q2 q3 q4 q5 q6 q7
    have v0 := H3.out.frozen 0; have v1 := H3.out.frozen 1; have v2 := H3.out.frozen 2; have v3 := H3.out.frozen 3; have v4 := H3.out.frozen 4; have v5 := H3.out.frozen 5; have v6 := H3.out.frozen 6; have v7 := H3.out.frozen 7
    go_wp2
    generalize hX9 : ((((((((X3.setCell ⟨w.heap.size + 1, 0, none⟩ (.slice (some ⟨b, off, none⟩) n1 c1)).setCell ⟨w.heap.size + 1, 1, none⟩ (.slice a2 n2 c2)).setCell ⟨w.heap.size + 1, 2, none⟩ (.slice a3 n3 c3)).setCell ⟨w.heap.size + 1, 3, none⟩ (.slice a4 n4 c4)).setCell ⟨w.heap.size + 1, 4, none⟩ (.int .i64 cap)).setCell ⟨w.heap.size + 1, 5, none⟩ (.int .i64 ops)).setCell ⟨w.heap.size + 1, 6, none⟩ (.int .i64 arm)).setCell ⟨w.heap.size + 1, 7, none⟩ (.bool dd)) = X9
    obtain ⟨y1, y2⟩ := oset8 H3.out hX9
    have HB9 := HB0.out.trans (y2.below (fun k _ e => by omega) HB0.out.size)
    have x0 := y1.cell 0; have x1 := y1.cell 1; have x2 := y1.cell 2; have x3 := y1.cell 3; have x4 := y1.cell 4; have x5 := y1.cell 5; have x6 := y1.cell 6; have x7 := y1.cell 7; simp only [List.getElem?_toArray, List.getElem?_cons_zero, List.getElem?_cons_succ] at x0 x1 x2 x3 x4 x5 x6 x7
    refine bodyPost_ret (v := .tuple #[.agg #[.slice (some ⟨b, off, none⟩) n1 c1, .slice a2 n2 c2, .slice a3 n3 c3, .slice a4 n4 c4, .int .i64 cap, .int .i64 ops, .int .i64 arm, .bool dd], .int .i64 ge]) (by simp [results, Tryz.results22, go_sem, x0, x1, x2, x3, x4, x5, x6, x7]) rfl ?_
    exact ⟨⟨some ⟨b, off, none⟩, a2, a3, a4, c1, c2, c3, c4⟩, rfl, Hmem.out.on HB9, HB9, DkN.refl _ _ _⟩
set_option maxRecDepth 100000 in
set_option maxHeartbeats 8000000 in
theorem dref_app_c (D : Dk) (a : DAd) (s x : List UInt8) (w : World) (hM : DkMem w D a) (hd : D.dir.length ≤ 1000000) (hw : D.wf) (hx : x.length ≤ 1000000000) (hfl : (D.file (D.find s)).2.length ≤ 1000000000) (hu : D.used ≤ 1000000000000000) (hs : D.shut s = 0) (hk : (flappF (D.file (D.find s)) x).2 = 0) (hc : D.cap < (D.used : Int) + x.length) : Calls Tryz.prog 22 #[.agg (dkc D a), .string ⟨s.toArray⟩, .string ⟨x.toArray⟩] w fun e w' => DPost a w w' e (dappF D s x) := by
  have hop := fun W hb => dref_open_any D a s W (hM.on hb) hd
  obtain ⟨-, hf0, hf1⟩ := dshut_ok hw hs
  obtain ⟨vn, hvn⟩ := Int.eq_ofNat_of_zero_le hf0
  have hvl : vn < D.files.length := by rw [hvn] at hf1; exact Int.ofNat_lt.1 hf1
  have hfi := dfile_at hvl
  obtain ⟨b, off, ea, hb, hcl⟩ := fl_cells hM.files rfl (by omega)
  have e0 := (hcl vn hvl).1
  have e1 := (hcl vn hvl).2
  rw [show D.files[vn] = D.file (vn : Int) from hfi.symm] at e0 e1
  have Hmem := Lib.hid hM
  unfold DPost dappF
  rw [hvn] at hk hfl ⊢
  simp only [hvn] at hop
  obtain ⟨⟨fa, fb⟩, hfile⟩ : ∃ x, D.file (vn : Int) = x := ⟨_, rfl⟩
  rw [hfile] at e0 e1
  rw [hfile]
  dsimp only at e0 e1
  rw [hfile] at hk hfl
  dsimp only at hfl
  have hcu := fun W => flref_app_any fa fb x W hfl hx
  obtain ⟨⟨⟨gx, gy⟩, ge⟩, hg⟩ : ∃ y, flappF (fa, fb) x = y := ⟨_, rfl⟩
  rw [hg] at hcu hk ⊢
  dsimp only [flc] at hcu hk
  have hus := fun W hb => dref_used_any D a W (hM.on hb) hw.dir hd hu
  subst hk
  clear hM hd hw hcl hf0 hf1 hfi hfile hg hfl
  · rw [if_neg (by rw [hs]; simp), if_neg (by simp), if_pos hc]
    simp only [hs, if_true] at hop
    dsimp only
    generalize D.used = U at *
    clear hs hvn
    unfold dkc at hop hus ⊢
    have Hcu := Lib.hid hcu
    clear hcu
    obtain ⟨fs, dr, sf, cg, cap, ops, arm, dd⟩ := D
    obtain ⟨a1, a2, a3, a4, c1, c2, c3, c4⟩ := a
    dsimp only at *
    obtain ⟨n1, hn1⟩ : ∃ n, fs.length = n := ⟨_, rfl⟩
    obtain ⟨n2, hn2⟩ : ∃ n, dr.length = n := ⟨_, rfl⟩
    obtain ⟨n3, hn3⟩ : ∃ n, sf.length = n := ⟨_, rfl⟩
    obtain ⟨n4, hn4⟩ : ∃ n, cg.length = n := ⟨_, rfl⟩
    have HL1 := Lib.hid hn1
    have HL2 := Lib.hid hn2
    have HL3 := Lib.hid hn3
    have HL4 := Lib.hid hn4
    rw [hn1, hn2, hn3, hn4] at hop hus ⊢
    have Hop := Lib.hid hop
    have Hus := Lib.hid hus
    rw [hn1] at hvl
    clear hn1 hn2 hn3 hn4 hop hus
    subst ea
    have hvi : (0 : Int) ≤ (vn : Int) ∧ (vn : Int) < (n1 : Int) := by omega
    have E0 := Lib.hid e0
    have E1 := Lib.hid e1
    clear e0 e1
    have hwr : IntKind.i64.wrap ((U : Int) + (x.length : Int)) = (U : Int) + (x.length : Int) := by rw [IntKind.wrap_i64]; omega
    have hgt : decide (cap < (U : Int) + (x.length : Int)) = true := by rw [decide_eq_true_iff]; exact hc
    clear hc hu hx
    have h1 := (Blk.new w 33 #[.slice (some ⟨b, off, none⟩) n1 c1, .slice a2 n2 c2, .slice a3 n3 c3, .slice a4 n4 c4, .int .i64 cap, .int .i64 ops, .int .i64 arm, .bool dd]).alloc (.cells #[.slice none 0 0, .slice none 0 0, .slice none 0 0, .slice none 0 0, .int .i64 0, .int .i64 0, .int .i64 0, .bool false] 33)
    have h3 := Blk.new (w.alloc (.cells #[.slice (some ⟨b, off, none⟩) n1 c1, .slice a2 n2 c2, .slice a3 n3 c3, .slice a4 n4 c4, .int .i64 cap, .int .i64 ops, .int .i64 arm, .bool dd] 33)) 33 #[.slice none 0 0, .slice none 0 0, .slice none 0 0, .slice none 0 0, .int .i64 0, .int .i64 0, .int .i64 0, .bool false]
    simp only [World.size_alloc] at h3
    have H1 := Lib.hid h1
    have H3 := Lib.hid h3
    have HB0 : Hid (Below w.heap.size w ((w.alloc (.cells #[.slice (some ⟨b, off, none⟩) n1 c1, .slice a2 n2 c2, .slice a3 n3 c3, .slice a4 n4 c4, .int .i64 cap, .int .i64 ops, .int .i64 arm, .bool dd] 33)).alloc (.cells #[.slice none 0 0, .slice none 0 0, .slice none 0 0, .slice none 0 0, .int .i64 0, .int .i64 0, .int .i64 0, .bool false] 33))) := Lib.hid (by go_grown)
    clear h1 h3
    go_enter Tryz.func22, Tryz.ntmps22
    go_upto_region 7 with (first
      | (go_at_call 57; (with_reducible refine (Hop.out _ HB0.out).mono ?_); rintro e w1 ⟨rfl, hb1⟩; replace H1 := Lib.hid (H1.out.below hb1 H1.out.lt); replace H3 := Lib.hid (H3.out.below hb1 H3.out.lt); replace HB0 := Lib.hid (HB0.out.trans (hb1.mono HB0.out.size)); clear hb1; have p0 := H1.out.cell 0; have p1 := H1.out.cell 1; have p2 := H1.out.cell 2; have p3 := H1.out.cell 3; have p4 := H1.out.cell 4; have p5 := H1.out.cell 5; have p6 := H1.out.cell 6; have p7 := H1.out.cell 7; simp only [List.getElem?_toArray, List.getElem?_cons_zero, List.getElem?_cons_succ] at p0 p1 p2 p3 p4 p5 p6 p7; have q0 := H3.out.cell 0; have q1 := H3.out.cell 1; have q2 := H3.out.cell 2; have q3 := H3.out.cell 3; have q4 := H3.out.cell 4; have q5 := H3.out.cell 5; have q6 := H3.out.cell 6; have q7 := H3.out.cell 7; simp only [List.getElem?_toArray, List.getElem?_cons_zero, List.getElem?_cons_succ] at q0 q1 q2 q3 q4 q5 q6 q7; have v0 := H3.out.frozen 0; have v1 := H3.out.frozen 1; have v2 := H3.out.frozen 2; have v3 := H3.out.frozen 3; have v4 := H3.out.frozen 4; have v5 := H3.out.frozen 5; have v6 := H3.out.frozen 6; have v7 := H3.out.frozen 7; replace H3 := H3; have y0 := (HB0.out.cell (p := ⟨b, off + vn * 2, none⟩) hb).trans E0.out; have y2 := (HB0.out.cell (p := ⟨b, off + vn * 2 + 1, none⟩) hb).trans E1.out)
      | (go_at_call 58; (with_reducible refine (Hcu.out _).mono ?_); rintro e w3 ⟨rfl, hb3⟩; clear p0 p1 p2 p3 p4 p5 p6 p7 q0 q1 q2 q3 q4 q5 q6 q7 v0 v1 v2 v3 v4 v5 v6 v7; replace H1 := Lib.hid (H1.out.below hb3 H1.out.lt); replace H3 := Lib.hid (H3.out.below hb3 H3.out.lt); replace HB0 := Lib.hid (HB0.out.trans (hb3.mono HB0.out.size)); clear hb3; have p0 := H1.out.cell 0; have p1 := H1.out.cell 1; have p2 := H1.out.cell 2; have p3 := H1.out.cell 3; have p4 := H1.out.cell 4; have p5 := H1.out.cell 5; have p6 := H1.out.cell 6; have p7 := H1.out.cell 7; simp only [List.getElem?_toArray, List.getElem?_cons_zero, List.getElem?_cons_succ] at p0 p1 p2 p3 p4 p5 p6 p7; have q0 := H3.out.cell 0; have q1 := H3.out.cell 1; have q2 := H3.out.cell 2; have q3 := H3.out.cell 3; have q4 := H3.out.cell 4; have q5 := H3.out.cell 5; have q6 := H3.out.cell 6; have q7 := H3.out.cell 7; simp only [List.getElem?_toArray, List.getElem?_cons_zero, List.getElem?_cons_succ] at q0 q1 q2 q3 q4 q5 q6 q7; have v0 := H3.out.frozen 0; have v1 := H3.out.frozen 1; have v2 := H3.out.frozen 2; have v3 := H3.out.frozen 3; have v4 := H3.out.frozen 4; have v5 := H3.out.frozen 5; have v6 := H3.out.frozen 6; have v7 := H3.out.frozen 7; have hl3 := H3.out.lt; have hl4 := H1.out.lt; have i1 := Nat.ne_of_gt hl4; have i2 := Nat.ne_of_lt hl4; have i3 := Nat.ne_of_gt hl3; have i4 := Nat.ne_of_lt hl3))
    clear Hop
    have HFx := Lib.hid (Blk.new w3 91 #[.string ⟨gx.toArray⟩, .string ⟨gy.toArray⟩])
    replace H1 := Lib.hid (H1.out.alloc (.cells #[.string ⟨gx.toArray⟩, .string ⟨gy.toArray⟩] 91))
    replace H3 := Lib.hid (H3.out.alloc (.cells #[.string ⟨gx.toArray⟩, .string ⟨gy.toArray⟩] 91))
    replace HB0 := Lib.hid (HB0.out.alloc HB0.out.size (.cells #[.string ⟨gx.toArray⟩, .string ⟨gy.toArray⟩] 91))
    generalize (w3.alloc (.cells #[.string ⟨gx.toArray⟩, .string ⟨gy.toArray⟩] 91)) = X3 at *
    clear p0 p1 p2 p3 p4 p5 p6 p7 q0 q1 q2 q3 q4 q5 q6 q7 v0 v1 v2 v3 v4 v5 v6 v7
    replace H1 := Lib.hid H1.out.drew
    replace H3 := Lib.hid H3.out.drew
    replace HFx := Lib.hid HFx.out.drew
    replace HB0 := Lib.hid HB0.out.drew
    go_wp2
    refine wp_region_held_drew (S := (fun W => Blk W w.heap.size 33 #[.slice (some ⟨b, off, none⟩) n1 c1, .slice a2 n2 c2, .slice a3 n3 c3, .slice a4 n4 c4, .int .i64 cap, .int .i64 ops, .int .i64 arm, .bool dd])) (by kernel_rfl) (H1.out) (fun hHeld => ?_)
    refine wpAnyH_take (i := 0) (oi := _) (v := ?_) rfl (by kernel_rfl) (by kernel_rfl) (by kernel_rfl) (fun _ _ _ h => h) (Or.inl ⟨by rfl, ?_⟩) hHeld ?_
    rotate_left
    · (intro wz hSw; have k0 := hSw.cell 0; have k1 := hSw.cell 1; have k2 := hSw.cell 2; have k3 := hSw.cell 3; have k4 := hSw.cell 4; have k5 := hSw.cell 5; have k6 := hSw.cell 6; have k7 := hSw.cell 7; simp only [List.getElem?_toArray, List.getElem?_cons_zero, List.getElem?_cons_succ] at k0 k1 k2 k3 k4 k5 k6 k7; go_simp; try (with_reducible rfl))
    (try dsimp only [List.getElem_toArray, List.getElem_cons_zero, List.getElem_cons_succ]); (try simp only [Act.put, List.setIfInBounds_toArray, List.set_cons_zero, List.set_cons_succ])
    refine wpAnyH_take (i := 2) (oi := _) (v := ?_) rfl (by kernel_rfl) (by kernel_rfl) (by kernel_rfl) (fun _ _ _ h => h) (Or.inl ⟨by rfl, ?_⟩) hHeld ?_
    rotate_left
    · (intro wz hSw; go_simp; try (with_reducible rfl))
    (try dsimp only [List.getElem_toArray, List.getElem_cons_zero, List.getElem_cons_succ]); (try simp only [Act.put, List.setIfInBounds_toArray, List.set_cons_zero, List.set_cons_succ])
    refine wpAnyH_take (i := 3) (oi := _) (v := ?_) rfl (by kernel_rfl) (by kernel_rfl) (by kernel_rfl) (fun _ _ _ h => h) (Or.inl ⟨by rfl, ?_⟩) hHeld ?_
    rotate_left
    · (intro wz hSw; go_simp; try (with_reducible rfl))
    (try dsimp only [List.getElem_toArray, List.getElem_cons_zero, List.getElem_cons_succ]); (try simp only [Act.put, List.setIfInBounds_toArray, List.set_cons_zero, List.set_cons_succ])
    refine wpAnyH_take (i := 5) (oi := _) (v := ?_) rfl (by kernel_rfl) (by kernel_rfl) (by kernel_rfl) (fun _ _ _ h => h) (Or.inl ⟨by rfl, ?_⟩) hHeld ?_
    rotate_left
    · (intro wz hSw; go_simp; try (with_reducible rfl))
    (try dsimp only [List.getElem_toArray, List.getElem_cons_zero, List.getElem_cons_succ]); (try simp only [Act.put, List.setIfInBounds_toArray, List.set_cons_zero, List.set_cons_succ])
    refine wpAnyH_take (i := 6) (oi := _) (v := ?_) rfl (by kernel_rfl) (by kernel_rfl) (by kernel_rfl) (fun _ _ _ h => h) (Or.inl ⟨by rfl, ?_⟩) hHeld ?_
    rotate_left
    · (intro wz hSw; have k4 := hSw.cell 4; simp only [List.getElem?_toArray, List.getElem?_cons_zero, List.getElem?_cons_succ] at k4; go_simp; try (with_reducible rfl))
    (try dsimp only [List.getElem_toArray, List.getElem_cons_zero, List.getElem_cons_succ]); (try simp only [Act.put, List.setIfInBounds_toArray, List.set_cons_zero, List.set_cons_succ])
    refine wpAnyH_ready (rs := [1]) (by kernel_rfl) (by simp) ?_
    refine AllReadyH.cons (o := _) rfl (fun K hK => ?_) AllReadyH.nil
    go_simp
    go_at_call 38
    (with_reducible refine (Hus.out _ HB0.out).mono ?_)
    rintro e w6 ⟨rfl, hb1⟩
    replace H1 := Lib.hid (H1.out.below hb1 H1.out.lt)
    replace H3 := Lib.hid (H3.out.below hb1 H3.out.lt)
    replace HFx := Lib.hid (HFx.out.below hb1 HFx.out.lt)
    replace HB0 := Lib.hid (HB0.out.trans (hb1.mono HB0.out.size))
    refine hK.out _ _ (hHeld.below hb1 hHeld.lt) (fun hH => ?_)
    clear hHeld hK K hb1
    have hHeld := hH
    clear hH
    (try dsimp only [List.getElem_toArray, List.getElem_cons_zero, List.getElem_cons_succ]); (try simp only [Act.put, List.setIfInBounds_toArray, List.set_cons_zero, List.set_cons_succ])
    refine wpAnyH_take (i := 4) (oi := _) (v := ?_) rfl (by kernel_rfl) (by kernel_rfl) (by kernel_rfl) (fun _ _ _ h => h) (Or.inl ⟨by rfl, ?_⟩) hHeld ?_
    rotate_left
    · (intro wz hSw; go_simp; try (with_reducible rfl))
    (try dsimp only [List.getElem_toArray, List.getElem_cons_zero, List.getElem_cons_succ]); (try simp only [Act.put, List.setIfInBounds_toArray, List.set_cons_zero, List.set_cons_succ])
    refine wpAnyH_take (i := 7) (oi := _) (v := ?_) rfl (by kernel_rfl) (by kernel_rfl) (by kernel_rfl) (fun _ _ _ h => h) (Or.inl ⟨by rfl, ?_⟩) hHeld ?_
    rotate_left
    · (intro wz hSw; go_simp; try (with_reducible rfl))
    (try dsimp only [List.getElem_toArray, List.getElem_cons_zero, List.getElem_cons_succ]); (try simp only [Act.put, List.setIfInBounds_toArray, List.set_cons_zero, List.set_cons_succ])
    refine wpAnyH_done (by kernel_rfl) ?_ _
    clear hHeld
    go_upto_region 8 with fail
    have p0 := H1.out.cell 0; have p1 := H1.out.cell 1; have p2 := H1.out.cell 2; have p3 := H1.out.cell 3; have p4 := H1.out.cell 4; have p5 := H1.out.cell 5; have p6 := H1.out.cell 6; have p7 := H1.out.cell 7; simp only [List.getElem?_toArray, List.getElem?_cons_zero, List.getElem?_cons_succ] at p0 p1 p2 p3 p4 p5 p6 p7
    have q0 := H3.out.cell 0; have q1 := H3.out.cell 1; have q2 := H3.out.cell 2; have q3 := H3.out.cell 3; have q4 := H3.out.cell 4; have q5 := H3.out.cell 5; have q6 := H3.out.cell 6; have q7 := H3.out.cell 7; simp only [List.getElem?_toArray, List.getElem?_cons_zero, List.getElem?_cons_succ] at q0 q1 q2 q3 q4 q5 q6 q7
    have v0 := H3.out.frozen 0; have v1 := H3.out.frozen 1; have v2 := H3.out.frozen 2; have v3 := H3.out.frozen 3; have v4 := H3.out.frozen 4; have v5 := H3.out.frozen 5; have v6 := H3.out.frozen 6; have v7 := H3.out.frozen 7
    go_wp2
    generalize hX9 : ((((((((w6.setCell ⟨w.heap.size + 1, 0, none⟩ (.slice (some ⟨b, off, none⟩) n1 c1)).setCell ⟨w.heap.size + 1, 1, none⟩ (.slice a2 n2 c2)).setCell ⟨w.heap.size + 1, 2, none⟩ (.slice a3 n3 c3)).setCell ⟨w.heap.size + 1, 3, none⟩ (.slice a4 n4 c4)).setCell ⟨w.heap.size + 1, 4, none⟩ (.int .i64 cap)).setCell ⟨w.heap.size + 1, 5, none⟩ (.int .i64 ops)).setCell ⟨w.heap.size + 1, 6, none⟩ (.int .i64 arm)).setCell ⟨w.heap.size + 1, 7, none⟩ (.bool dd)) = X9
    obtain ⟨y1, y2⟩ := oset8 H3.out hX9
    have HB9 := HB0.out.trans (y2.below (fun k _ e => by omega) HB0.out.size)
    have x0 := y1.cell 0; have x1 := y1.cell 1; have x2 := y1.cell 2; have x3 := y1.cell 3; have x4 := y1.cell 4; have x5 := y1.cell 5; have x6 := y1.cell 6; have x7 := y1.cell 7; simp only [List.getElem?_toArray, List.getElem?_cons_zero, List.getElem?_cons_succ] at x0 x1 x2 x3 x4 x5 x6 x7
    refine bodyPost_ret (v := .tuple #[.agg #[.slice (some ⟨b, off, none⟩) n1 c1, .slice a2 n2 c2, .slice a3 n3 c3, .slice a4 n4 c4, .int .i64 cap, .int .i64 ops, .int .i64 arm, .bool dd], .int .i64 203]) (by simp [results, Tryz.results22, go_sem, x0, x1, x2, x3, x4, x5, x6, x7]) rfl ?_
    exact ⟨⟨some ⟨b, off, none⟩, a2, a3, a4, c1, c2, c3, c4⟩, rfl, Hmem.out.on HB9, HB9, DkN.refl _ _ _⟩
set_option maxRecDepth 100000 in
set_option maxHeartbeats 8000000 in
theorem dref_app_d (D : Dk) (a : DAd) (s x : List UInt8) (w : World) (hM : DkMem w D a) (hd : D.dir.length ≤ 1000000) (hw : D.wf) (hx : x.length ≤ 1000000000) (hfl : (D.file (D.find s)).2.length ≤ 1000000000) (hu : D.used ≤ 1000000000000000) (hf : D.files.length ≤ 1000000) (ho : 0 ≤ D.ops ∧ D.ops ≤ 1000000) (ha : -9223372036854775808 ≤ D.armed ∧ D.armed < 9223372036854775808) (hs : D.shut s = 0) (hk : (flappF (D.file (D.find s)) x).2 = 0) (hc : ¬ D.cap < (D.used : Int) + x.length) : Calls Tryz.prog 22 #[.agg (dkc D a), .string ⟨s.toArray⟩, .string ⟨x.toArray⟩] w fun e w' => DPost a w w' e (dappF D s x) := by
  have hop := fun W hb => dref_open_any D a s W (hM.on hb) hd
  obtain ⟨-, hf0, hf1⟩ := dshut_ok hw hs
  obtain ⟨vn, hvn⟩ := Int.eq_ofNat_of_zero_le hf0
  have hvl : vn < D.files.length := by rw [hvn] at hf1; exact Int.ofNat_lt.1 hf1
  have hfi := dfile_at hvl
  obtain ⟨b, off, ea, hb, hcl⟩ := fl_cells hM.files rfl (by omega)
  have e0 := (hcl vn hvl).1
  have e1 := (hcl vn hvl).2
  rw [show D.files[vn] = D.file (vn : Int) from hfi.symm] at e0 e1
  have Hmem := Lib.hid hM
  unfold DPost dappF
  rw [hvn] at hk hfl ⊢
  simp only [hvn] at hop
  obtain ⟨⟨fa, fb⟩, hfile⟩ : ∃ x, D.file (vn : Int) = x := ⟨_, rfl⟩
  rw [hfile] at e0 e1
  rw [hfile]
  dsimp only at e0 e1
  rw [hfile] at hk hfl
  dsimp only at hfl
  have hcu := fun W => flref_app_any fa fb x W hfl hx
  obtain ⟨⟨⟨gx, gy⟩, ge⟩, hg⟩ : ∃ y, flappF (fa, fb) x = y := ⟨_, rfl⟩
  rw [hg] at hcu hk ⊢
  dsimp only [flc] at hcu hk
  have hus := fun W hb => dref_used_any D a W (hM.on hb) hw.dir hd hu
  subst hk
  have hput := fun W hb => dref_put_any D.counted a vn (gx, gy) W ((hM.on hb).counted_) hvl hf
  have hcn := fun W => dref_counted_any D a W ho ha
  clear hM hd hw hcl hf0 hf1 hfi hfile hg hfl ho ha hf
  · rw [if_neg (by rw [hs]; simp), if_neg (by simp), if_neg hc]
    simp only [hs, if_true] at hop
    dsimp only
    generalize D.used = U at *
    generalize D.counted.put (vn : Int) (gx, gy) = F at *
    clear hs hvn
    unfold Dk.told
    unfold dkc at hop hcn hput hus ⊢
    unfold Dk.counted at hcn hput
    have Hcu := Lib.hid hcu
    clear hcu
    obtain ⟨fs, dr, sf, cg, cap, ops, arm, dd⟩ := D
    obtain ⟨a1, a2, a3, a4, c1, c2, c3, c4⟩ := a
    dsimp only at *
    obtain ⟨o2, ho2⟩ : ∃ o2 : Int, ops + 1 = o2 := ⟨_, rfl⟩
    obtain ⟨r2, hr2⟩ : ∃ r2 : Int, (if 0 < arm then arm - 1 else arm) = r2 := ⟨_, rfl⟩
    obtain ⟨lst, hls⟩ : ∃ lst : Bool, (Dk.last ⟨fs, dr, sf, cg, cap, ops, arm, dd⟩) = lst := ⟨_, rfl⟩
    obtain ⟨d2, hd2⟩ : ∃ d2 : Bool, (dd || lst) = d2 := ⟨_, rfl⟩
    rw [hls, hd2, ho2, hr2] at hcn hput
    simp only [hls]
    clear hls hd2 ho2 hr2
    obtain ⟨tn, htn⟩ : ∃ tn : Int, (if lst = true then 200 else 0) = tn := ⟨_, rfl⟩
    have Htold : Hid (∀ W, Calls Tryz.prog 61 #[.bool lst] W fun e w' => e = .returned (.int .i64 tn) ∧ Below W.heap.size W w') := Lib.hid fun W => by rw [← htn]; exact dref_told_any lst W
    simp only [htn]
    clear htn
    obtain ⟨n1, hn1⟩ : ∃ n, fs.length = n := ⟨_, rfl⟩
    obtain ⟨n2, hn2⟩ : ∃ n, dr.length = n := ⟨_, rfl⟩
    obtain ⟨n3, hn3⟩ : ∃ n, sf.length = n := ⟨_, rfl⟩
    obtain ⟨n4, hn4⟩ : ∃ n, cg.length = n := ⟨_, rfl⟩
    have HL1 := Lib.hid hn1
    have HL2 := Lib.hid hn2
    have HL3 := Lib.hid hn3
    have HL4 := Lib.hid hn4
    rw [hn1, hn2, hn3, hn4] at hop hus hcn hput
    have Hcn := Lib.hid hcn
    have Hput := Lib.hid hput
    clear hcn hput
    try rw [hn1, hn2, hn3, hn4]
    have Hop := Lib.hid hop
    have Hus := Lib.hid hus
    rw [hn1] at hvl
    clear hn1 hn2 hn3 hn4 hop hus
    subst ea
    have hvi : (0 : Int) ≤ (vn : Int) ∧ (vn : Int) < (n1 : Int) := by omega
    have E0 := Lib.hid e0
    have E1 := Lib.hid e1
    clear e0 e1
    have hwr : IntKind.i64.wrap ((U : Int) + (x.length : Int)) = (U : Int) + (x.length : Int) := by rw [IntKind.wrap_i64]; omega
    have hgt : decide (cap < (U : Int) + (x.length : Int)) = false := by rw [decide_eq_false_iff_not]; exact hc
    clear hc hu hx
    have h1 := (Blk.new w 33 #[.slice (some ⟨b, off, none⟩) n1 c1, .slice a2 n2 c2, .slice a3 n3 c3, .slice a4 n4 c4, .int .i64 cap, .int .i64 ops, .int .i64 arm, .bool dd]).alloc (.cells #[.slice none 0 0, .slice none 0 0, .slice none 0 0, .slice none 0 0, .int .i64 0, .int .i64 0, .int .i64 0, .bool false] 33)
    have h3 := Blk.new (w.alloc (.cells #[.slice (some ⟨b, off, none⟩) n1 c1, .slice a2 n2 c2, .slice a3 n3 c3, .slice a4 n4 c4, .int .i64 cap, .int .i64 ops, .int .i64 arm, .bool dd] 33)) 33 #[.slice none 0 0, .slice none 0 0, .slice none 0 0, .slice none 0 0, .int .i64 0, .int .i64 0, .int .i64 0, .bool false]
    simp only [World.size_alloc] at h3
    have H1 := Lib.hid h1
    have H3 := Lib.hid h3
    have HB0 : Hid (Below w.heap.size w ((w.alloc (.cells #[.slice (some ⟨b, off, none⟩) n1 c1, .slice a2 n2 c2, .slice a3 n3 c3, .slice a4 n4 c4, .int .i64 cap, .int .i64 ops, .int .i64 arm, .bool dd] 33)).alloc (.cells #[.slice none 0 0, .slice none 0 0, .slice none 0 0, .slice none 0 0, .int .i64 0, .int .i64 0, .int .i64 0, .bool false] 33))) := Lib.hid (by go_grown)
    clear h1 h3
    go_enter Tryz.func22, Tryz.ntmps22
    go_upto_region 7 with (first
      | (go_at_call 57; (with_reducible refine (Hop.out _ HB0.out).mono ?_); rintro e w1 ⟨rfl, hb1⟩; replace H1 := Lib.hid (H1.out.below hb1 H1.out.lt); replace H3 := Lib.hid (H3.out.below hb1 H3.out.lt); replace HB0 := Lib.hid (HB0.out.trans (hb1.mono HB0.out.size)); clear hb1; have p0 := H1.out.cell 0; have p1 := H1.out.cell 1; have p2 := H1.out.cell 2; have p3 := H1.out.cell 3; have p4 := H1.out.cell 4; have p5 := H1.out.cell 5; have p6 := H1.out.cell 6; have p7 := H1.out.cell 7; simp only [List.getElem?_toArray, List.getElem?_cons_zero, List.getElem?_cons_succ] at p0 p1 p2 p3 p4 p5 p6 p7; have q0 := H3.out.cell 0; have q1 := H3.out.cell 1; have q2 := H3.out.cell 2; have q3 := H3.out.cell 3; have q4 := H3.out.cell 4; have q5 := H3.out.cell 5; have q6 := H3.out.cell 6; have q7 := H3.out.cell 7; simp only [List.getElem?_toArray, List.getElem?_cons_zero, List.getElem?_cons_succ] at q0 q1 q2 q3 q4 q5 q6 q7; have v0 := H3.out.frozen 0; have v1 := H3.out.frozen 1; have v2 := H3.out.frozen 2; have v3 := H3.out.frozen 3; have v4 := H3.out.frozen 4; have v5 := H3.out.frozen 5; have v6 := H3.out.frozen 6; have v7 := H3.out.frozen 7; replace H3 := H3; have y0 := (HB0.out.cell (p := ⟨b, off + vn * 2, none⟩) hb).trans E0.out; have y2 := (HB0.out.cell (p := ⟨b, off + vn * 2 + 1, none⟩) hb).trans E1.out)
      | (go_at_call 58; (with_reducible refine (Hcu.out _).mono ?_); rintro e w3 ⟨rfl, hb3⟩; clear p0 p1 p2 p3 p4 p5 p6 p7 q0 q1 q2 q3 q4 q5 q6 q7 v0 v1 v2 v3 v4 v5 v6 v7; replace H1 := Lib.hid (H1.out.below hb3 H1.out.lt); replace H3 := Lib.hid (H3.out.below hb3 H3.out.lt); replace HB0 := Lib.hid (HB0.out.trans (hb3.mono HB0.out.size)); clear hb3; have p0 := H1.out.cell 0; have p1 := H1.out.cell 1; have p2 := H1.out.cell 2; have p3 := H1.out.cell 3; have p4 := H1.out.cell 4; have p5 := H1.out.cell 5; have p6 := H1.out.cell 6; have p7 := H1.out.cell 7; simp only [List.getElem?_toArray, List.getElem?_cons_zero, List.getElem?_cons_succ] at p0 p1 p2 p3 p4 p5 p6 p7; have q0 := H3.out.cell 0; have q1 := H3.out.cell 1; have q2 := H3.out.cell 2; have q3 := H3.out.cell 3; have q4 := H3.out.cell 4; have q5 := H3.out.cell 5; have q6 := H3.out.cell 6; have q7 := H3.out.cell 7; simp only [List.getElem?_toArray, List.getElem?_cons_zero, List.getElem?_cons_succ] at q0 q1 q2 q3 q4 q5 q6 q7; have v0 := H3.out.frozen 0; have v1 := H3.out.frozen 1; have v2 := H3.out.frozen 2; have v3 := H3.out.frozen 3; have v4 := H3.out.frozen 4; have v5 := H3.out.frozen 5; have v6 := H3.out.frozen 6; have v7 := H3.out.frozen 7; have hl3 := H3.out.lt; have hl4 := H1.out.lt; have i1 := Nat.ne_of_gt hl4; have i2 := Nat.ne_of_lt hl4; have i3 := Nat.ne_of_gt hl3; have i4 := Nat.ne_of_lt hl3))
    clear Hop
    have HL3x := H3.out.lt
    have HFx := Lib.hid (Blk.new w3 91 #[.string ⟨gx.toArray⟩, .string ⟨gy.toArray⟩])
    replace H1 := Lib.hid (H1.out.alloc (.cells #[.string ⟨gx.toArray⟩, .string ⟨gy.toArray⟩] 91))
    replace H3 := Lib.hid (H3.out.alloc (.cells #[.string ⟨gx.toArray⟩, .string ⟨gy.toArray⟩] 91))
    replace HB0 := Lib.hid (HB0.out.alloc HB0.out.size (.cells #[.string ⟨gx.toArray⟩, .string ⟨gy.toArray⟩] 91))
    generalize (w3.alloc (.cells #[.string ⟨gx.toArray⟩, .string ⟨gy.toArray⟩] 91)) = X3 at *
    clear p0 p1 p2 p3 p4 p5 p6 p7 q0 q1 q2 q3 q4 q5 q6 q7 v0 v1 v2 v3 v4 v5 v6 v7
    replace H1 := Lib.hid H1.out.drew
    replace H3 := Lib.hid H3.out.drew
    replace HFx := Lib.hid HFx.out.drew
    replace HB0 := Lib.hid HB0.out.drew
    go_wp2
    refine wp_region_held_drew (S := (fun W => Blk W w.heap.size 33 #[.slice (some ⟨b, off, none⟩) n1 c1, .slice a2 n2 c2, .slice a3 n3 c3, .slice a4 n4 c4, .int .i64 cap, .int .i64 ops, .int .i64 arm, .bool dd])) (by kernel_rfl) (H1.out) (fun hHeld => ?_)
    refine wpAnyH_take (i := 0) (oi := _) (v := ?_) rfl (by kernel_rfl) (by kernel_rfl) (by kernel_rfl) (fun _ _ _ h => h) (Or.inl ⟨by rfl, ?_⟩) hHeld ?_
    rotate_left
    · (intro wz hSw; have k0 := hSw.cell 0; have k1 := hSw.cell 1; have k2 := hSw.cell 2; have k3 := hSw.cell 3; have k4 := hSw.cell 4; have k5 := hSw.cell 5; have k6 := hSw.cell 6; have k7 := hSw.cell 7; simp only [List.getElem?_toArray, List.getElem?_cons_zero, List.getElem?_cons_succ] at k0 k1 k2 k3 k4 k5 k6 k7; go_simp; try (with_reducible rfl))
    (try dsimp only [List.getElem_toArray, List.getElem_cons_zero, List.getElem_cons_succ]); (try simp only [Act.put, List.setIfInBounds_toArray, List.set_cons_zero, List.set_cons_succ])
    refine wpAnyH_take (i := 2) (oi := _) (v := ?_) rfl (by kernel_rfl) (by kernel_rfl) (by kernel_rfl) (fun _ _ _ h => h) (Or.inl ⟨by rfl, ?_⟩) hHeld ?_
    rotate_left
    · (intro wz hSw; go_simp; try (with_reducible rfl))
    (try dsimp only [List.getElem_toArray, List.getElem_cons_zero, List.getElem_cons_succ]); (try simp only [Act.put, List.setIfInBounds_toArray, List.set_cons_zero, List.set_cons_succ])
    refine wpAnyH_take (i := 3) (oi := _) (v := ?_) rfl (by kernel_rfl) (by kernel_rfl) (by kernel_rfl) (fun _ _ _ h => h) (Or.inl ⟨by rfl, ?_⟩) hHeld ?_
    rotate_left
    · (intro wz hSw; go_simp; try (with_reducible rfl))
    (try dsimp only [List.getElem_toArray, List.getElem_cons_zero, List.getElem_cons_succ]); (try simp only [Act.put, List.setIfInBounds_toArray, List.set_cons_zero, List.set_cons_succ])
    refine wpAnyH_take (i := 5) (oi := _) (v := ?_) rfl (by kernel_rfl) (by kernel_rfl) (by kernel_rfl) (fun _ _ _ h => h) (Or.inl ⟨by rfl, ?_⟩) hHeld ?_
    rotate_left
    · (intro wz hSw; go_simp; try (with_reducible rfl))
    (try dsimp only [List.getElem_toArray, List.getElem_cons_zero, List.getElem_cons_succ]); (try simp only [Act.put, List.setIfInBounds_toArray, List.set_cons_zero, List.set_cons_succ])
    refine wpAnyH_take (i := 6) (oi := _) (v := ?_) rfl (by kernel_rfl) (by kernel_rfl) (by kernel_rfl) (fun _ _ _ h => h) (Or.inl ⟨by rfl, ?_⟩) hHeld ?_
    rotate_left
    · (intro wz hSw; have k4 := hSw.cell 4; simp only [List.getElem?_toArray, List.getElem?_cons_zero, List.getElem?_cons_succ] at k4; go_simp; try (with_reducible rfl))
    (try dsimp only [List.getElem_toArray, List.getElem_cons_zero, List.getElem_cons_succ]); (try simp only [Act.put, List.setIfInBounds_toArray, List.set_cons_zero, List.set_cons_succ])
    refine wpAnyH_ready (rs := [1]) (by kernel_rfl) (by simp) ?_
    refine AllReadyH.cons (o := _) rfl (fun K hK => ?_) AllReadyH.nil
    go_simp
    go_at_call 38
    (with_reducible refine (Hus.out _ HB0.out).mono ?_)
    rintro e w6 ⟨rfl, hb1⟩
    replace H1 := Lib.hid (H1.out.below hb1 H1.out.lt)
    replace H3 := Lib.hid (H3.out.below hb1 H3.out.lt)
    replace HFx := Lib.hid (HFx.out.below hb1 HFx.out.lt)
    replace HB0 := Lib.hid (HB0.out.trans (hb1.mono HB0.out.size))
    refine hK.out _ _ (hHeld.below hb1 hHeld.lt) (fun hH => ?_)
    clear hHeld hK K hb1
    have hHeld := hH
    clear hH
    (try dsimp only [List.getElem_toArray, List.getElem_cons_zero, List.getElem_cons_succ]); (try simp only [Act.put, List.setIfInBounds_toArray, List.set_cons_zero, List.set_cons_succ])
    refine wpAnyH_take (i := 4) (oi := _) (v := ?_) rfl (by kernel_rfl) (by kernel_rfl) (by kernel_rfl) (fun _ _ _ h => h) (Or.inl ⟨by rfl, ?_⟩) hHeld ?_
    rotate_left
    · (intro wz hSw; go_simp; try (with_reducible rfl))
    (try dsimp only [List.getElem_toArray, List.getElem_cons_zero, List.getElem_cons_succ]); (try simp only [Act.put, List.setIfInBounds_toArray, List.set_cons_zero, List.set_cons_succ])
    refine wpAnyH_take (i := 7) (oi := _) (v := ?_) rfl (by kernel_rfl) (by kernel_rfl) (by kernel_rfl) (fun _ _ _ h => h) (Or.inl ⟨by rfl, ?_⟩) hHeld ?_
    rotate_left
    · (intro wz hSw; go_simp; try (with_reducible rfl))
    (try dsimp only [List.getElem_toArray, List.getElem_cons_zero, List.getElem_cons_succ]); (try simp only [Act.put, List.setIfInBounds_toArray, List.set_cons_zero, List.set_cons_succ])
    refine wpAnyH_done (by kernel_rfl) ?_ _
    clear hHeld
    have p0 := H1.out.cell 0; have p1 := H1.out.cell 1; have p2 := H1.out.cell 2; have p3 := H1.out.cell 3; have p4 := H1.out.cell 4; have p5 := H1.out.cell 5; have p6 := H1.out.cell 6; have p7 := H1.out.cell 7; simp only [List.getElem?_toArray, List.getElem?_cons_zero, List.getElem?_cons_succ] at p0 p1 p2 p3 p4 p5 p6 p7
    have f0 := HFx.out.cell 0; have f1 := HFx.out.cell 1; simp only [List.getElem?_toArray, List.getElem?_cons_zero, List.getElem?_cons_succ] at f0 f1
    go_wp2_with (first
      | (go_at_call 59; clear p0 p1 p2 p3 p4 p5 p6 p7; clear f0 f1; (with_reducible refine (Hcn.out _).mono ?_); rintro e w5 ⟨rfl, hb5⟩; replace HFx := Lib.hid (HFx.out.below hb5 HFx.out.lt); replace H1 := Lib.hid (H1.out.below hb5 H1.out.lt); replace H3 := Lib.hid (H3.out.below hb5 H3.out.lt); replace HB0 := Lib.hid (HB0.out.trans (hb5.mono HB0.out.size)); clear hb5; have p0 := H1.out.cell 0; have p1 := H1.out.cell 1; have p2 := H1.out.cell 2; have p3 := H1.out.cell 3; have p4 := H1.out.cell 4; have p5 := H1.out.cell 5; have p6 := H1.out.cell 6; have p7 := H1.out.cell 7; simp only [List.getElem?_toArray, List.getElem?_cons_zero, List.getElem?_cons_succ] at p0 p1 p2 p3 p4 p5 p6 p7; have v0 := H1.out.frozen 0; have v1 := H1.out.frozen 1; have v2 := H1.out.frozen 2; have v3 := H1.out.frozen 3; have v4 := H1.out.frozen 4; have v5 := H1.out.frozen 5; have v6 := H1.out.frozen 6; have v7 := H1.out.frozen 7; have f0 := HFx.out.cell 0; have f1 := HFx.out.cell 1; simp only [List.getElem?_toArray, List.getElem?_cons_zero, List.getElem?_cons_succ] at f0 f1)
      | (go_at_call 60; generalize hX6 : ((((((((w5.setCell ⟨w.heap.size, 0, none⟩ (.slice (some ⟨b, off, none⟩) n1 c1)).setCell ⟨w.heap.size, 1, none⟩ (.slice a2 n2 c2)).setCell ⟨w.heap.size, 2, none⟩ (.slice a3 n3 c3)).setCell ⟨w.heap.size, 3, none⟩ (.slice a4 n4 c4)).setCell ⟨w.heap.size, 4, none⟩ (.int .i64 cap)).setCell ⟨w.heap.size, 5, none⟩ (.int .i64 o2)).setCell ⟨w.heap.size, 6, none⟩ (.int .i64 r2)).setCell ⟨w.heap.size, 7, none⟩ (.bool d2)) = X6; obtain ⟨y1, y2⟩ := oset8 H1.out hX6; replace HB0 := Lib.hid (HB0.out.trans (y2.below (fun k _ e => by omega) HB0.out.size)); replace H1 := Lib.hid y1; replace H3 := Lib.hid (H3.out.touch y2 (by omega)); clear y1 y2 hX6 f0 f1 HFx; clear p0 p1 p2 p3 p4 p5 p6 p7 v0 v1 v2 v3 v4 v5 v6 v7; (with_reducible refine (Hput.out _ HB0.out).mono ?_); rintro e w7 ⟨a5, rfl, hm5, hb7, hk5⟩; have HM5 := Lib.hid hm5; have HK5 := Lib.hid (hk5.mono (w := w) HB0.out.size (Nat.le_refl _)); clear hk5; clear hm5; replace H1 := Lib.hid (H1.out.below hb7 H1.out.lt); replace H3 := Lib.hid (H3.out.below hb7 H3.out.lt); replace HB0 := Lib.hid (HB0.out.trans (hb7.mono HB0.out.size)); clear hb7)
      | (go_at_call 61; (with_reducible refine (Htold.out _).mono ?_); rintro e w2 ⟨rfl, hb8⟩; replace HM5 := Lib.hid (HM5.out.on hb8); replace HK5 := Lib.hid (HK5.out.late hb8.size); replace H1 := Lib.hid (H1.out.below hb8 H1.out.lt); replace H3 := Lib.hid (H3.out.below hb8 H3.out.lt); replace HB0 := Lib.hid (HB0.out.trans (hb8.mono HB0.out.size)); clear hb8; have q0 := H3.out.cell 0; have q1 := H3.out.cell 1; have q2 := H3.out.cell 2; have q3 := H3.out.cell 3; have q4 := H3.out.cell 4; have q5 := H3.out.cell 5; have q6 := H3.out.cell 6; have q7 := H3.out.cell 7; simp only [List.getElem?_toArray, List.getElem?_cons_zero, List.getElem?_cons_succ] at q0 q1 q2 q3 q4 q5 q6 q7; have v0 := H3.out.frozen 0; have v1 := H3.out.frozen 1; have v2 := H3.out.frozen 2; have v3 := H3.out.frozen 3; have v4 := H3.out.frozen 4; have v5 := H3.out.frozen 5; have v6 := H3.out.frozen 6; have v7 := H3.out.frozen 7))
    generalize hX9 : ((((((((w2.setCell ⟨w.heap.size + 1, 0, none⟩ (.slice a5.a1 F.files.length a5.c1)).setCell ⟨w.heap.size + 1, 1, none⟩ (.slice a5.a2 F.dir.length a5.c2)).setCell ⟨w.heap.size + 1, 2, none⟩ (.slice a5.a3 F.safe.length a5.c3)).setCell ⟨w.heap.size + 1, 3, none⟩ (.slice a5.a4 F.chg.length a5.c4)).setCell ⟨w.heap.size + 1, 4, none⟩ (.int .i64 F.cap)).setCell ⟨w.heap.size + 1, 5, none⟩ (.int .i64 F.ops)).setCell ⟨w.heap.size + 1, 6, none⟩ (.int .i64 F.armed)).setCell ⟨w.heap.size + 1, 7, none⟩ (.bool F.dead)) = X9
    obtain ⟨y1, y2⟩ := oset8 H3.out hX9
    have HB9 := HB0.out.trans (y2.below (fun k _ e => by omega) HB0.out.size)
    have x0 := y1.cell 0; have x1 := y1.cell 1; have x2 := y1.cell 2; have x3 := y1.cell 3; have x4 := y1.cell 4; have x5 := y1.cell 5; have x6 := y1.cell 6; have x7 := y1.cell 7; simp only [List.getElem?_toArray, List.getElem?_cons_zero, List.getElem?_cons_succ] at x0 x1 x2 x3 x4 x5 x6 x7
    refine bodyPost_ret (v := .tuple #[.agg #[.slice a5.a1 F.files.length a5.c1, .slice a5.a2 F.dir.length a5.c2, .slice a5.a3 F.safe.length a5.c3, .slice a5.a4 F.chg.length a5.c4, .int .i64 F.cap, .int .i64 F.ops, .int .i64 F.armed, .bool F.dead], .int .i64 tn]) (by simp [results, Tryz.results22, go_sem, x0, x1, x2, x3, x4, x5, x6, x7]) rfl ?_
    exact ⟨a5, rfl, HM5.out.off H3.out (by simp) y2, HB9, HK5.out.late y2.size⟩
theorem dref_app_any (D : Dk) (a : DAd) (s x : List UInt8) (w : World) (hM : DkMem w D a) (hd : D.dir.length ≤ 1000000) (hw : D.wf) (hx : x.length ≤ 1000000000) (hfl : (D.file (D.find s)).2.length ≤ 1000000000) (hu : D.used ≤ 1000000000000000) (hf : D.files.length ≤ 1000000) (ho : 0 ≤ D.ops ∧ D.ops ≤ 1000000) (ha : -9223372036854775808 ≤ D.armed ∧ D.armed < 9223372036854775808) : Calls Tryz.prog 22 #[.agg (dkc D a), .string ⟨s.toArray⟩, .string ⟨x.toArray⟩] w fun e w' => DPost a w w' e (dappF D s x) := by
  by_cases hs : D.shut s = 0
  · by_cases hk : (flappF (D.file (D.find s)) x).2 = 0
    · by_cases hc : D.cap < (D.used : Int) + x.length
      · exact dref_app_c D a s x w hM hd hw hx hfl hu hs hk hc
      · exact dref_app_d D a s x w hM hd hw hx hfl hu hf ho ha hs hk hc
    · exact dref_app_b D a s x w hM hd hw hx hfl hs hk
  · exact dref_app_a D a s x w hM hd hs
end Go.Proofs.YtgoahcmgpjacjaaGreat
