/-
  Layer 20, the document's: Sync (ahead of the code's landing).
-/
import Derived.Test.YtgoahcmgpjacjaaGreatDisK
namespace Go.Proofs.YtgoahcmgpjacjaaGreat
set_option linter.unusedSimpArgs false
set_option linter.unusedVariables false
open Go.ChangeShapes Go.WideShapes Go.ChangeAt Go.RowKit Go.Joins Go.Deep
def DSy (g b o : Nat) (cs : Array Value) (fa fb : List UInt8) (W : World) : Prop := Blk W g 33 cs ∧ W.cell? ⟨b, o, none⟩ = some (.string ⟨fa.toArray⟩) ∧ W.cell? ⟨b, o + 1, none⟩ = some (.string ⟨fb.toArray⟩) ∧ b < W.heap.size
theorem DSy.below {g b o : Nat} {cs : Array Value} {fa fb : List UInt8} {W W' : World} (h : DSy g b o cs fa fb W) (hb : Below W.heap.size W W') : DSy g b o cs fa fb W' :=
  ⟨h.1.below hb h.1.lt, (hb.cell (p := ⟨b, o, none⟩) h.2.2.2).trans h.2.1, (hb.cell (p := ⟨b, o + 1, none⟩) h.2.2.2).trans h.2.2.1, Nat.lt_of_lt_of_le h.2.2.2 hb.size⟩
theorem DSy.touch {g b o q : Nat} {cs : Array Value} {fa fb : List UInt8} {W W' : World} (h : DSy g b o cs fa fb W) (ht : Touch W W' (fun k => k = q)) (h1 : g ≠ q) (h2 : b ≠ q) : DSy g b o cs fa fb W' :=
  ⟨h.1.touch ht h1, (World.cell?_of_block (w := W) (ht.block b h.2.2.2 h2)).trans h.2.1, (World.cell?_of_block (w := W) (ht.block b h.2.2.2 h2)).trans h.2.2.1, Nat.lt_of_lt_of_le h.2.2.2 ht.size⟩
set_option maxRecDepth 100000 in
set_option maxHeartbeats 2000000 in
theorem dref_syn_a (D : Dk) (a : DAd) (s : List UInt8) (w : World) (hM : DkMem w D a) (hd : D.dir.length ≤ 1000000) (hs : ¬ D.shut s = 0) : Calls Tryz.prog 23 #[.agg (dkc D a), .string ⟨s.toArray⟩] w fun e w' => DPost a w w' e (dsyncF D s) := by
  have hop := fun W hb => dref_open_any D a s W (hM.on hb) hd
  have Hmem := Lib.hid hM
  unfold DPost dsyncF
  clear hM hd
  · have hs2 : (D.shut s == 0) = false := by rw [beq_eq_false_iff_ne]; exact hs
    rw [if_pos hs]
    simp only [hs, if_false] at hop
    dsimp only
    generalize D.find s = FN at *
    generalize D.shut s = SH at *
    unfold dkc at hop ⊢
    obtain ⟨fs, dr, sf, cg, cap, ops, arm, dd⟩ := D
    obtain ⟨a1, a2, a3, a4, c1, c2, c3, c4⟩ := a
    dsimp only at *
    obtain ⟨n1, hn1⟩ : ∃ n, fs.length = n := ⟨_, rfl⟩
    obtain ⟨n2, hn2⟩ : ∃ n, dr.length = n := ⟨_, rfl⟩
    obtain ⟨n3, hn3⟩ : ∃ n, sf.length = n := ⟨_, rfl⟩
    obtain ⟨n4, hn4⟩ : ∃ n, cg.length = n := ⟨_, rfl⟩
    have HL1 := Lib.hid hn1
    have HL2 := Lib.hid hn2
    have HL3 := Lib.hid hn3
    have HL4 := Lib.hid hn4
    rw [hn1, hn2, hn3, hn4] at hop ⊢
    have Hop := Lib.hid hop
    clear hn1 hn2 hn3 hn4 hop
    have h1 := (Blk.new w 33 #[.slice a1 n1 c1, .slice a2 n2 c2, .slice a3 n3 c3, .slice a4 n4 c4, .int .i64 cap, .int .i64 ops, .int .i64 arm, .bool dd]).alloc (.cells #[.slice none 0 0, .slice none 0 0, .slice none 0 0, .slice none 0 0, .int .i64 0, .int .i64 0, .int .i64 0, .bool false] 33)
    have h3 := Blk.new (w.alloc (.cells #[.slice a1 n1 c1, .slice a2 n2 c2, .slice a3 n3 c3, .slice a4 n4 c4, .int .i64 cap, .int .i64 ops, .int .i64 arm, .bool dd] 33)) 33 #[.slice none 0 0, .slice none 0 0, .slice none 0 0, .slice none 0 0, .int .i64 0, .int .i64 0, .int .i64 0, .bool false]
    simp only [World.size_alloc] at h3
    have H1 := Lib.hid h1
    have H3 := Lib.hid h3
    have HB0 : Hid (Below w.heap.size w ((w.alloc (.cells #[.slice a1 n1 c1, .slice a2 n2 c2, .slice a3 n3 c3, .slice a4 n4 c4, .int .i64 cap, .int .i64 ops, .int .i64 arm, .bool dd] 33)).alloc (.cells #[.slice none 0 0, .slice none 0 0, .slice none 0 0, .slice none 0 0, .int .i64 0, .int .i64 0, .int .i64 0, .bool false] 33))) := Lib.hid (by go_grown)
    clear h1 h3
    go_enter Tryz.func23, Tryz.ntmps23
    go_wp2_with (first
      | (go_at_call 57; (with_reducible refine (Hop.out _ HB0.out).mono ?_); rintro e w1 ⟨rfl, hb1⟩; replace H1 := Lib.hid (H1.out.below hb1 H1.out.lt); replace H3 := Lib.hid (H3.out.below hb1 H3.out.lt); replace HB0 := Lib.hid (HB0.out.trans (hb1.mono HB0.out.size)); clear hb1; have p0 := H1.out.cell 0; have p1 := H1.out.cell 1; have p2 := H1.out.cell 2; have p3 := H1.out.cell 3; have p4 := H1.out.cell 4; have p5 := H1.out.cell 5; have p6 := H1.out.cell 6; have p7 := H1.out.cell 7; simp only [List.getElem?_toArray, List.getElem?_cons_zero, List.getElem?_cons_succ] at p0 p1 p2 p3 p4 p5 p6 p7; have q0 := H3.out.cell 0; have q1 := H3.out.cell 1; have q2 := H3.out.cell 2; have q3 := H3.out.cell 3; have q4 := H3.out.cell 4; have q5 := H3.out.cell 5; have q6 := H3.out.cell 6; have q7 := H3.out.cell 7; simp only [List.getElem?_toArray, List.getElem?_cons_zero, List.getElem?_cons_succ] at q0 q1 q2 q3 q4 q5 q6 q7; have v0 := H3.out.frozen 0; have v1 := H3.out.frozen 1; have v2 := H3.out.frozen 2; have v3 := H3.out.frozen 3; have v4 := H3.out.frozen 4; have v5 := H3.out.frozen 5; have v6 := H3.out.frozen 6; have v7 := H3.out.frozen 7))
    clear Hop
    generalize hX9 : ((((((((w1.setCell ⟨w.heap.size + 1, 0, none⟩ (.slice a1 n1 c1)).setCell ⟨w.heap.size + 1, 1, none⟩ (.slice a2 n2 c2)).setCell ⟨w.heap.size + 1, 2, none⟩ (.slice a3 n3 c3)).setCell ⟨w.heap.size + 1, 3, none⟩ (.slice a4 n4 c4)).setCell ⟨w.heap.size + 1, 4, none⟩ (.int .i64 cap)).setCell ⟨w.heap.size + 1, 5, none⟩ (.int .i64 ops)).setCell ⟨w.heap.size + 1, 6, none⟩ (.int .i64 arm)).setCell ⟨w.heap.size + 1, 7, none⟩ (.bool dd)) = X9
    obtain ⟨y1, y2⟩ := oset8 H3.out hX9
    have HB9 := HB0.out.trans (y2.below (fun k _ e => by omega) HB0.out.size)
    have x0 := y1.cell 0; have x1 := y1.cell 1; have x2 := y1.cell 2; have x3 := y1.cell 3; have x4 := y1.cell 4; have x5 := y1.cell 5; have x6 := y1.cell 6; have x7 := y1.cell 7; simp only [List.getElem?_toArray, List.getElem?_cons_zero, List.getElem?_cons_succ] at x0 x1 x2 x3 x4 x5 x6 x7
    refine bodyPost_ret (v := .tuple #[.agg #[.slice a1 n1 c1, .slice a2 n2 c2, .slice a3 n3 c3, .slice a4 n4 c4, .int .i64 cap, .int .i64 ops, .int .i64 arm, .bool dd], .int .i64 SH]) (by simp [results, Tryz.results23, go_sem, x0, x1, x2, x3, x4, x5, x6, x7]) rfl ?_
    exact ⟨⟨a1, a2, a3, a4, c1, c2, c3, c4⟩, rfl, Hmem.out.on HB9, HB9, DkN.refl _ _ _⟩
set_option maxRecDepth 100000 in
set_option maxHeartbeats 2000000 in
theorem dref_syn_b (D : Dk) (a : DAd) (s : List UInt8) (w : World) (hM : DkMem w D a) (hd : D.dir.length ≤ 1000000) (ho : 0 ≤ D.ops ∧ D.ops ≤ 1000000) (ha : -9223372036854775808 ≤ D.armed ∧ D.armed < 9223372036854775808) (hs : D.shut s = 0) (hl : D.last = true) : Calls Tryz.prog 23 #[.agg (dkc D a), .string ⟨s.toArray⟩] w fun e w' => DPost a w w' e (dsyncF D s) := by
  have hop := fun W hb => dref_open_any D a s W (hM.on hb) hd
  have hcn := fun W => dref_counted_any D a W ho ha
  have Hmem := Lib.hid hM
  unfold DPost dsyncF
  rw [if_neg (by rw [hs]; simp), if_pos hl]
  simp only [hs, if_true] at hop
  clear hM hd ho ha
  · dsimp only
    generalize D.find s = FN at *
    unfold Dk.counted at hcn ⊢
    rw [hl] at hcn ⊢
    unfold dkc at hop hcn ⊢
    clear hl hs
    obtain ⟨fs, dr, sf, cg, cap, ops, arm, dd⟩ := D
    obtain ⟨a1, a2, a3, a4, c1, c2, c3, c4⟩ := a
    dsimp only at *
    obtain ⟨n1, hn1⟩ : ∃ n, fs.length = n := ⟨_, rfl⟩
    obtain ⟨n2, hn2⟩ : ∃ n, dr.length = n := ⟨_, rfl⟩
    obtain ⟨n3, hn3⟩ : ∃ n, sf.length = n := ⟨_, rfl⟩
    obtain ⟨n4, hn4⟩ : ∃ n, cg.length = n := ⟨_, rfl⟩
    have HL1 := Lib.hid hn1
    have HL2 := Lib.hid hn2
    have HL3 := Lib.hid hn3
    have HL4 := Lib.hid hn4
    obtain ⟨o2, ho2⟩ : ∃ o2 : Int, ops + 1 = o2 := ⟨_, rfl⟩
    obtain ⟨r2, hr2⟩ : ∃ r2 : Int, (if 0 < arm then arm - 1 else arm) = r2 := ⟨_, rfl⟩
    obtain ⟨d2, hd2⟩ : ∃ d2 : Bool, (dd || true) = d2 := ⟨_, rfl⟩
    rw [hd2, ho2, hr2, hn1, hn2, hn3, hn4] at hcn
    rw [hd2, ho2, hr2, hn1, hn2, hn3, hn4]
    rw [hn1, hn2, hn3, hn4] at hop
    have Hcn := Lib.hid hcn
    have Hop := Lib.hid hop
    clear ho2 hr2 hd2 hn1 hn2 hn3 hn4 hcn hop
    have h1 := (Blk.new w 33 #[.slice a1 n1 c1, .slice a2 n2 c2, .slice a3 n3 c3, .slice a4 n4 c4, .int .i64 cap, .int .i64 ops, .int .i64 arm, .bool dd]).alloc (.cells #[.slice none 0 0, .slice none 0 0, .slice none 0 0, .slice none 0 0, .int .i64 0, .int .i64 0, .int .i64 0, .bool false] 33)
    have h3 := Blk.new (w.alloc (.cells #[.slice a1 n1 c1, .slice a2 n2 c2, .slice a3 n3 c3, .slice a4 n4 c4, .int .i64 cap, .int .i64 ops, .int .i64 arm, .bool dd] 33)) 33 #[.slice none 0 0, .slice none 0 0, .slice none 0 0, .slice none 0 0, .int .i64 0, .int .i64 0, .int .i64 0, .bool false]
    simp only [World.size_alloc] at h3
    have H1 := Lib.hid h1
    have H3 := Lib.hid h3
    have HB0 : Hid (Below w.heap.size w ((w.alloc (.cells #[.slice a1 n1 c1, .slice a2 n2 c2, .slice a3 n3 c3, .slice a4 n4 c4, .int .i64 cap, .int .i64 ops, .int .i64 arm, .bool dd] 33)).alloc (.cells #[.slice none 0 0, .slice none 0 0, .slice none 0 0, .slice none 0 0, .int .i64 0, .int .i64 0, .int .i64 0, .bool false] 33))) := Lib.hid (by go_grown)
    clear h1 h3
    go_enter Tryz.func23, Tryz.ntmps23
    go_upto_region 6 with (first
      | (go_at_call 57; (with_reducible refine (Hop.out _ HB0.out).mono ?_); rintro e w1 ⟨rfl, hb1⟩; replace H1 := Lib.hid (H1.out.below hb1 H1.out.lt); replace H3 := Lib.hid (H3.out.below hb1 H3.out.lt); replace HB0 := Lib.hid (HB0.out.trans (hb1.mono HB0.out.size)); clear hb1; have p0 := H1.out.cell 0; have p1 := H1.out.cell 1; have p2 := H1.out.cell 2; have p3 := H1.out.cell 3; have p4 := H1.out.cell 4; have p5 := H1.out.cell 5; have p6 := H1.out.cell 6; have p7 := H1.out.cell 7; simp only [List.getElem?_toArray, List.getElem?_cons_zero, List.getElem?_cons_succ] at p0 p1 p2 p3 p4 p5 p6 p7; have q0 := H3.out.cell 0; have q1 := H3.out.cell 1; have q2 := H3.out.cell 2; have q3 := H3.out.cell 3; have q4 := H3.out.cell 4; have q5 := H3.out.cell 5; have q6 := H3.out.cell 6; have q7 := H3.out.cell 7; simp only [List.getElem?_toArray, List.getElem?_cons_zero, List.getElem?_cons_succ] at q0 q1 q2 q3 q4 q5 q6 q7; have v0 := H3.out.frozen 0; have v1 := H3.out.frozen 1; have v2 := H3.out.frozen 2; have v3 := H3.out.frozen 3; have v4 := H3.out.frozen 4; have v5 := H3.out.frozen 5; have v6 := H3.out.frozen 6; have v7 := H3.out.frozen 7)
      | (go_at_call 59; clear p0 p1 p2 p3 p4 p5 p6 p7 q0 q1 q2 q3 q4 q5 q6 q7 v0 v1 v2 v3 v4 v5 v6 v7; (with_reducible refine (Hcn.out _).mono ?_); rintro e w5 ⟨rfl, hb5⟩; replace H1 := Lib.hid (H1.out.below hb5 H1.out.lt); replace H3 := Lib.hid (H3.out.below hb5 H3.out.lt); replace HB0 := Lib.hid (HB0.out.trans (hb5.mono HB0.out.size)); clear hb5; have p0 := H1.out.cell 0; have p1 := H1.out.cell 1; have p2 := H1.out.cell 2; have p3 := H1.out.cell 3; have p4 := H1.out.cell 4; have p5 := H1.out.cell 5; have p6 := H1.out.cell 6; have p7 := H1.out.cell 7; simp only [List.getElem?_toArray, List.getElem?_cons_zero, List.getElem?_cons_succ] at p0 p1 p2 p3 p4 p5 p6 p7; have v0 := H1.out.frozen 0; have v1 := H1.out.frozen 1; have v2 := H1.out.frozen 2; have v3 := H1.out.frozen 3; have v4 := H1.out.frozen 4; have v5 := H1.out.frozen 5; have v6 := H1.out.frozen 6; have v7 := H1.out.frozen 7))
    generalize hX6 : ((((((((w5.setCell ⟨w.heap.size, 0, none⟩ (.slice a1 n1 c1)).setCell ⟨w.heap.size, 1, none⟩ (.slice a2 n2 c2)).setCell ⟨w.heap.size, 2, none⟩ (.slice a3 n3 c3)).setCell ⟨w.heap.size, 3, none⟩ (.slice a4 n4 c4)).setCell ⟨w.heap.size, 4, none⟩ (.int .i64 cap)).setCell ⟨w.heap.size, 5, none⟩ (.int .i64 o2)).setCell ⟨w.heap.size, 6, none⟩ (.int .i64 r2)).setCell ⟨w.heap.size, 7, none⟩ (.bool d2)) = X6
    obtain ⟨y1, y2⟩ := oset8 H1.out hX6
    replace HB0 := Lib.hid (HB0.out.trans (y2.below (fun k _ e => by omega) HB0.out.size))
    replace H1 := Lib.hid y1
    replace H3 := Lib.hid (H3.out.touch y2 (by omega))
    clear y1 y2 hX6 p0 p1 p2 p3 p4 p5 p6 p7 v0 v1 v2 v3 v4 v5 v6 v7
    have p0 := H1.out.cell 0; have p1 := H1.out.cell 1; have p2 := H1.out.cell 2; have p3 := H1.out.cell 3; have p4 := H1.out.cell 4; have p5 := H1.out.cell 5; have p6 := H1.out.cell 6; have p7 := H1.out.cell 7; simp only [List.getElem?_toArray, List.getElem?_cons_zero, List.getElem?_cons_succ] at p0 p1 p2 p3 p4 p5 p6 p7
    have q0 := H3.out.cell 0; have q1 := H3.out.cell 1; have q2 := H3.out.cell 2; have q3 := H3.out.cell 3; have q4 := H3.out.cell 4; have q5 := H3.out.cell 5; have q6 := H3.out.cell 6; have q7 := H3.out.cell 7; simp only [List.getElem?_toArray, List.getElem?_cons_zero, List.getElem?_cons_succ] at q0 q1 q2 q3 q4 q5 q6 q7
    have v0 := H3.out.frozen 0; have v1 := H3.out.frozen 1; have v2 := H3.out.frozen 2; have v3 := H3.out.frozen 3; have v4 := H3.out.frozen 4; have v5 := H3.out.frozen 5; have v6 := H3.out.frozen 6; have v7 := H3.out.frozen 7
    go_wp2
    generalize hX9 : ((((((((X6.setCell ⟨w.heap.size + 1, 0, none⟩ (.slice a1 n1 c1)).setCell ⟨w.heap.size + 1, 1, none⟩ (.slice a2 n2 c2)).setCell ⟨w.heap.size + 1, 2, none⟩ (.slice a3 n3 c3)).setCell ⟨w.heap.size + 1, 3, none⟩ (.slice a4 n4 c4)).setCell ⟨w.heap.size + 1, 4, none⟩ (.int .i64 cap)).setCell ⟨w.heap.size + 1, 5, none⟩ (.int .i64 o2)).setCell ⟨w.heap.size + 1, 6, none⟩ (.int .i64 r2)).setCell ⟨w.heap.size + 1, 7, none⟩ (.bool d2)) = X9
    obtain ⟨y1, y2⟩ := oset8 H3.out hX9
    have HB9 := HB0.out.trans (y2.below (fun k _ e => by omega) HB0.out.size)
    have x0 := y1.cell 0; have x1 := y1.cell 1; have x2 := y1.cell 2; have x3 := y1.cell 3; have x4 := y1.cell 4; have x5 := y1.cell 5; have x6 := y1.cell 6; have x7 := y1.cell 7; simp only [List.getElem?_toArray, List.getElem?_cons_zero, List.getElem?_cons_succ] at x0 x1 x2 x3 x4 x5 x6 x7
    refine bodyPost_ret (v := .tuple #[.agg #[.slice a1 n1 c1, .slice a2 n2 c2, .slice a3 n3 c3, .slice a4 n4 c4, .int .i64 cap, .int .i64 o2, .int .i64 r2, .bool d2], .int .i64 200]) (by simp [results, Tryz.results23, go_sem, x0, x1, x2, x3, x4, x5, x6, x7]) rfl ?_
    have h := Hmem.out.on HB9
    exact ⟨⟨a1, a2, a3, a4, c1, c2, c3, c4⟩, rfl, ⟨h.files, h.dir, h.safe, h.chg, h.k1, h.k2, h.k3, h.k4⟩, HB9, DkN.refl _ _ _⟩
set_option maxRecDepth 100000 in
set_option maxHeartbeats 8000000 in
theorem dref_syn_c (D : Dk) (a : DAd) (s : List UInt8) (w : World) (hM : DkMem w D a) (hd : D.dir.length ≤ 1000000) (hw : D.wf) (hf : D.files.length ≤ 1000000) (ho : 0 ≤ D.ops ∧ D.ops ≤ 1000000) (ha : -9223372036854775808 ≤ D.armed ∧ D.armed < 9223372036854775808) (hs : D.shut s = 0) (hl : D.last = false) : Calls Tryz.prog 23 #[.agg (dkc D a), .string ⟨s.toArray⟩] w fun e w' => DPost a w w' e (dsyncF D s) := by
  have hop := fun W hb => dref_open_any D a s W (hM.on hb) hd
  obtain ⟨-, hf0, hf1⟩ := dshut_ok hw hs
  obtain ⟨vn, hvn⟩ := Int.eq_ofNat_of_zero_le hf0
  have hvl : vn < D.files.length := by rw [hvn] at hf1; exact Int.ofNat_lt.1 hf1
  have hfi := dfile_at hvl
  obtain ⟨b, off, ea, hb, hcl⟩ := fl_cells hM.files rfl (by omega)
  have e0 := (hcl vn hvl).1
  have e1 := (hcl vn hvl).2
  rw [show D.files[vn] = D.file (vn : Int) from hfi.symm] at e0 e1
  have Hmem := Lib.hid hM
  unfold DPost dsyncF
  rw [hvn]
  simp only [hvn] at hop
  obtain ⟨⟨fa, fb⟩, hfile⟩ : ∃ x, D.file (vn : Int) = x := ⟨_, rfl⟩
  rw [hfile] at e0 e1
  rw [hfile]
  dsimp only at e0 e1
  have hsy := fun W => flref_sync_any fa fb W
  dsimp only [flc] at hsy
  have hput := fun W hb => dref_put_any D.counted a vn (fb, fb) W ((hM.on hb).counted_) hvl hf
  have hcn := fun W => dref_counted_any D a W ho ha
  clear hM hd hw hcl hf0 hf1 hfi hfile ho ha hf
  · rw [if_neg (by rw [hs]; simp), if_neg (by rw [hl]; simp)]
    simp only [hs, if_true] at hop
    dsimp only
    generalize D.counted.put (vn : Int) (fb, fb) = F at *
    clear hs hvn
    unfold dkc at hop hcn hput ⊢
    unfold Dk.counted at hcn hput
    rw [hl] at hcn hput
    clear hl
    obtain ⟨fs, dr, sf, cg, cap, ops, arm, dd⟩ := D
    obtain ⟨a1, a2, a3, a4, c1, c2, c3, c4⟩ := a
    dsimp only at *
    obtain ⟨n1, hn1⟩ : ∃ n, fs.length = n := ⟨_, rfl⟩
    obtain ⟨n2, hn2⟩ : ∃ n, dr.length = n := ⟨_, rfl⟩
    obtain ⟨n3, hn3⟩ : ∃ n, sf.length = n := ⟨_, rfl⟩
    obtain ⟨n4, hn4⟩ : ∃ n, cg.length = n := ⟨_, rfl⟩
    have HL1 := Lib.hid hn1
    have HL2 := Lib.hid hn2
    have HL3 := Lib.hid hn3
    have HL4 := Lib.hid hn4
    obtain ⟨o2, ho2⟩ : ∃ o2 : Int, ops + 1 = o2 := ⟨_, rfl⟩
    obtain ⟨r2, hr2⟩ : ∃ r2 : Int, (if 0 < arm then arm - 1 else arm) = r2 := ⟨_, rfl⟩
    obtain ⟨d2, hd2⟩ : ∃ d2 : Bool, (dd || false) = d2 := ⟨_, rfl⟩
    rw [hd2, ho2, hr2, hn1, hn2, hn3, hn4] at hcn hput
    rw [hn1, hn2, hn3, hn4] at hop
    try rw [hn1, hn2, hn3, hn4]
    rw [hn1] at hvl
    have Hcn := Lib.hid hcn
    have Hop := Lib.hid hop
    have Hput := Lib.hid hput
    have Hsy := Lib.hid hsy
    clear ho2 hr2 hd2 hn1 hn2 hn3 hn4 hcn hop hput hsy
    subst ea
    have hvi : (0 : Int) ≤ (vn : Int) ∧ (vn : Int) < (n1 : Int) := by omega
    have E0 := Lib.hid e0
    have E1 := Lib.hid e1
    clear e0 e1
    have h1 := (Blk.new w 33 #[.slice (some ⟨b, off, none⟩) n1 c1, .slice a2 n2 c2, .slice a3 n3 c3, .slice a4 n4 c4, .int .i64 cap, .int .i64 ops, .int .i64 arm, .bool dd]).alloc (.cells #[.slice none 0 0, .slice none 0 0, .slice none 0 0, .slice none 0 0, .int .i64 0, .int .i64 0, .int .i64 0, .bool false] 33)
    have h3 := Blk.new (w.alloc (.cells #[.slice (some ⟨b, off, none⟩) n1 c1, .slice a2 n2 c2, .slice a3 n3 c3, .slice a4 n4 c4, .int .i64 cap, .int .i64 ops, .int .i64 arm, .bool dd] 33)) 33 #[.slice none 0 0, .slice none 0 0, .slice none 0 0, .slice none 0 0, .int .i64 0, .int .i64 0, .int .i64 0, .bool false]
    simp only [World.size_alloc] at h3
    have H1 := Lib.hid h1
    have H3 := Lib.hid h3
    have HB0 : Hid (Below w.heap.size w ((w.alloc (.cells #[.slice (some ⟨b, off, none⟩) n1 c1, .slice a2 n2 c2, .slice a3 n3 c3, .slice a4 n4 c4, .int .i64 cap, .int .i64 ops, .int .i64 arm, .bool dd] 33)).alloc (.cells #[.slice none 0 0, .slice none 0 0, .slice none 0 0, .slice none 0 0, .int .i64 0, .int .i64 0, .int .i64 0, .bool false] 33))) := Lib.hid (by go_grown)
    clear h1 h3
    go_enter Tryz.func23, Tryz.ntmps23
    go_upto_region 7 with (first
      | (go_at_call 57; (with_reducible refine (Hop.out _ HB0.out).mono ?_); rintro e w1 ⟨rfl, hb1⟩; replace H1 := Lib.hid (H1.out.below hb1 H1.out.lt); replace H3 := Lib.hid (H3.out.below hb1 H3.out.lt); replace HB0 := Lib.hid (HB0.out.trans (hb1.mono HB0.out.size)); clear hb1; have p0 := H1.out.cell 0; have p1 := H1.out.cell 1; have p2 := H1.out.cell 2; have p3 := H1.out.cell 3; have p4 := H1.out.cell 4; have p5 := H1.out.cell 5; have p6 := H1.out.cell 6; have p7 := H1.out.cell 7; simp only [List.getElem?_toArray, List.getElem?_cons_zero, List.getElem?_cons_succ] at p0 p1 p2 p3 p4 p5 p6 p7; have q0 := H3.out.cell 0; have q1 := H3.out.cell 1; have q2 := H3.out.cell 2; have q3 := H3.out.cell 3; have q4 := H3.out.cell 4; have q5 := H3.out.cell 5; have q6 := H3.out.cell 6; have q7 := H3.out.cell 7; simp only [List.getElem?_toArray, List.getElem?_cons_zero, List.getElem?_cons_succ] at q0 q1 q2 q3 q4 q5 q6 q7; have v0 := H3.out.frozen 0; have v1 := H3.out.frozen 1; have v2 := H3.out.frozen 2; have v3 := H3.out.frozen 3; have v4 := H3.out.frozen 4; have v5 := H3.out.frozen 5; have v6 := H3.out.frozen 6; have v7 := H3.out.frozen 7)
      | (go_at_call 59; clear p0 p1 p2 p3 p4 p5 p6 p7 q0 q1 q2 q3 q4 q5 q6 q7 v0 v1 v2 v3 v4 v5 v6 v7; (with_reducible refine (Hcn.out _).mono ?_); rintro e w5 ⟨rfl, hb5⟩; replace H1 := Lib.hid (H1.out.below hb5 H1.out.lt); replace H3 := Lib.hid (H3.out.below hb5 H3.out.lt); replace HB0 := Lib.hid (HB0.out.trans (hb5.mono HB0.out.size)); clear hb5; have p0 := H1.out.cell 0; have p1 := H1.out.cell 1; have p2 := H1.out.cell 2; have p3 := H1.out.cell 3; have p4 := H1.out.cell 4; have p5 := H1.out.cell 5; have p6 := H1.out.cell 6; have p7 := H1.out.cell 7; simp only [List.getElem?_toArray, List.getElem?_cons_zero, List.getElem?_cons_succ] at p0 p1 p2 p3 p4 p5 p6 p7; have v0 := H1.out.frozen 0; have v1 := H1.out.frozen 1; have v2 := H1.out.frozen 2; have v3 := H1.out.frozen 3; have v4 := H1.out.frozen 4; have v5 := H1.out.frozen 5; have v6 := H1.out.frozen 6; have v7 := H1.out.frozen 7))
    generalize hX6 : ((((((((w5.setCell ⟨w.heap.size, 0, none⟩ (.slice (some ⟨b, off, none⟩) n1 c1)).setCell ⟨w.heap.size, 1, none⟩ (.slice a2 n2 c2)).setCell ⟨w.heap.size, 2, none⟩ (.slice a3 n3 c3)).setCell ⟨w.heap.size, 3, none⟩ (.slice a4 n4 c4)).setCell ⟨w.heap.size, 4, none⟩ (.int .i64 cap)).setCell ⟨w.heap.size, 5, none⟩ (.int .i64 o2)).setCell ⟨w.heap.size, 6, none⟩ (.int .i64 r2)).setCell ⟨w.heap.size, 7, none⟩ (.bool d2)) = X6
    obtain ⟨y1, y2⟩ := oset8 H1.out hX6
    replace HB0 := Lib.hid (HB0.out.trans (y2.below (fun k _ e => by omega) HB0.out.size))
    replace H1 := Lib.hid y1
    replace H3 := Lib.hid (H3.out.touch y2 (by omega))
    clear y1 y2 hX6 p0 p1 p2 p3 p4 p5 p6 p7 v0 v1 v2 v3 v4 v5 v6 v7
    have HSY : Hid ((DSy w.heap.size b (off + vn * 2) #[.slice (some ⟨b, off, none⟩) n1 c1, .slice a2 n2 c2, .slice a3 n3 c3, .slice a4 n4 c4, .int .i64 cap, .int .i64 o2, .int .i64 r2, .bool d2] fa fb) X6.drew) := Lib.hid ⟨H1.out.drew, (HB0.out.cell (p := ⟨b, off + vn * 2, none⟩) hb).trans E0.out, (HB0.out.cell (p := ⟨b, off + vn * 2 + 1, none⟩) hb).trans E1.out, Nat.lt_of_lt_of_le hb HB0.out.size⟩
    replace H3 := Lib.hid H3.out.drew
    replace HB0 := Lib.hid HB0.out.drew
    clear Hop Hcn
    go_wp2
    refine wp_region_held_drew (S := (DSy w.heap.size b (off + vn * 2) #[.slice (some ⟨b, off, none⟩) n1 c1, .slice a2 n2 c2, .slice a3 n3 c3, .slice a4 n4 c4, .int .i64 cap, .int .i64 o2, .int .i64 r2, .bool d2] fa fb)) (by kernel_rfl) (HSY.out) (fun hHeld => ?_)
    refine wpAnyH_take (i := 0) (oi := _) (v := ?_) rfl (by kernel_rfl) (by kernel_rfl) (by kernel_rfl) (fun _ _ _ h => h) (Or.inl ⟨by rfl, ?_⟩) hHeld ?_
    rotate_left
    · (intro wz hSw; have k0 := hSw.1.cell 0; have k1 := hSw.1.cell 1; have k2 := hSw.1.cell 2; have k3 := hSw.1.cell 3; have k4 := hSw.1.cell 4; have k5 := hSw.1.cell 5; have k6 := hSw.1.cell 6; have k7 := hSw.1.cell 7; simp only [List.getElem?_toArray, List.getElem?_cons_zero, List.getElem?_cons_succ] at k0 k1 k2 k3 k4 k5 k6 k7; go_simp; try (with_reducible rfl))
    (try dsimp only [List.getElem_toArray, List.getElem_cons_zero, List.getElem_cons_succ]); (try simp only [Act.put, List.setIfInBounds_toArray, List.set_cons_zero, List.set_cons_succ])
    refine wpAnyH_take (i := 1) (oi := _) (v := ?_) rfl (by kernel_rfl) (by kernel_rfl) (by kernel_rfl) (fun _ _ _ h => h) (Or.inl ⟨by rfl, ?_⟩) hHeld ?_
    rotate_left
    · (intro wz hSw; go_simp; try (with_reducible rfl))
    (try dsimp only [List.getElem_toArray, List.getElem_cons_zero, List.getElem_cons_succ]); (try simp only [Act.put, List.setIfInBounds_toArray, List.set_cons_zero, List.set_cons_succ])
    refine wpAnyH_take (i := 2) (oi := _) (v := ?_) rfl (by kernel_rfl) (by kernel_rfl) (by kernel_rfl) (fun _ _ _ h => h) (Or.inl ⟨by rfl, ?_⟩) hHeld ?_
    rotate_left
    · (intro wz hSw; go_simp; try (with_reducible rfl))
    (try dsimp only [List.getElem_toArray, List.getElem_cons_zero, List.getElem_cons_succ]); (try simp only [Act.put, List.setIfInBounds_toArray, List.set_cons_zero, List.set_cons_succ])
    refine wpAnyH_take (i := 3) (oi := _) (v := ?_) rfl (by kernel_rfl) (by kernel_rfl) (by kernel_rfl) (fun _ _ _ h => h) (Or.inl ⟨by rfl, ?_⟩) hHeld ?_
    rotate_left
    · (intro wz hSw; have k0 := hSw.1.cell 0; simp only [List.getElem?_toArray, List.getElem?_cons_zero, List.getElem?_cons_succ] at k0; go_simp; try (with_reducible rfl))
    (try dsimp only [List.getElem_toArray, List.getElem_cons_zero, List.getElem_cons_succ]); (try simp only [Act.put, List.setIfInBounds_toArray, List.set_cons_zero, List.set_cons_succ])
    refine wpAnyH_take (i := 4) (oi := _) (v := ?_) rfl (by kernel_rfl) (by kernel_rfl) (by kernel_rfl) (fun _ _ _ h => h) (Or.inl ⟨by rfl, ?_⟩) hHeld ?_
    rotate_left
    · (intro wz hSw; go_simp; try (with_reducible rfl))
    (try dsimp only [List.getElem_toArray, List.getElem_cons_zero, List.getElem_cons_succ]); (try simp only [Act.put, List.setIfInBounds_toArray, List.set_cons_zero, List.set_cons_succ])
    refine wpAnyH_take (i := 5) (oi := _) (v := ?_) rfl (by kernel_rfl) (by kernel_rfl) (by kernel_rfl) (fun _ _ _ h => h) (Or.inl ⟨by rfl, ?_⟩) hHeld ?_
    rotate_left
    · (intro wz hSw; go_simp; try (with_reducible rfl))
    (try dsimp only [List.getElem_toArray, List.getElem_cons_zero, List.getElem_cons_succ]); (try simp only [Act.put, List.setIfInBounds_toArray, List.set_cons_zero, List.set_cons_succ])
    refine wpAnyH_take (i := 6) (oi := _) (v := ?_) rfl (by kernel_rfl) (by kernel_rfl) (by kernel_rfl) (fun _ _ _ h => h) (Or.inl ⟨by rfl, ?_⟩) hHeld ?_
    rotate_left
    · (intro wz hSw; have m0 := hSw.2.1; have m1 := hSw.2.2.1; go_simp; try (with_reducible rfl))
    (try dsimp only [List.getElem_toArray, List.getElem_cons_zero, List.getElem_cons_succ]); (try simp only [Act.put, List.setIfInBounds_toArray, List.set_cons_zero, List.set_cons_succ])
    refine wpAnyH_ready (rs := [7]) (by kernel_rfl) (by simp) ?_
    refine AllReadyH.cons (o := _) rfl (fun K hK => ?_) AllReadyH.nil
    go_simp
    go_at_call 62
    (with_reducible refine (Hsy.out _).mono ?_)
    rintro e w8 ⟨rfl, hb1⟩
    replace H3 := Lib.hid (H3.out.below hb1 H3.out.lt)
    replace HB0 := Lib.hid (HB0.out.trans (hb1.mono HB0.out.size))
    refine hK.out _ _ (hHeld.below hb1) (fun hH => ?_)
    clear hHeld hK K hb1
    have hHeld := hH
    clear hH
    (try dsimp only [List.getElem_toArray, List.getElem_cons_zero, List.getElem_cons_succ]); (try simp only [Act.put, List.setIfInBounds_toArray, List.set_cons_zero, List.set_cons_succ])
    refine wpAnyH_ready (rs := [8]) (by kernel_rfl) (by simp) ?_
    refine AllReadyH.cons (o := _) rfl (fun K hK => ?_) AllReadyH.nil
    go_simp
    go_at_call 60
    (with_reducible refine (Hput.out _ HB0.out).mono ?_)
    rintro e w2 ⟨a5, rfl, hm5, hb1, hk5⟩
    have HM5 := Lib.hid hm5
    have HK5 := Lib.hid (hk5.mono (w := w) HB0.out.size (Nat.le_refl _))
    clear hm5 hk5
    replace H3 := Lib.hid (H3.out.below hb1 H3.out.lt)
    replace HB0 := Lib.hid (HB0.out.trans (hb1.mono HB0.out.size))
    refine hK.out _ _ (hHeld.below hb1) (fun hH => ?_)
    clear hHeld hK K hb1
    have hHeld := hH
    clear hH
    (try dsimp only [List.getElem_toArray, List.getElem_cons_zero, List.getElem_cons_succ]); (try simp only [Act.put, List.setIfInBounds_toArray, List.set_cons_zero, List.set_cons_succ])
    refine wpAnyH_ready (rs := [9]) (by kernel_rfl) (by simp) ?_
    refine AllReadyH.cons (o := _) rfl (fun K hK => ?_) AllReadyH.nil
    have k0 := H3.out.cell 0; have z0 := H3.out.frozen 0; have k1 := H3.out.cell 1; have z1 := H3.out.frozen 1; have k2 := H3.out.cell 2; have z2 := H3.out.frozen 2; have k3 := H3.out.cell 3; have z3 := H3.out.frozen 3; have k4 := H3.out.cell 4; have z4 := H3.out.frozen 4; have k5 := H3.out.cell 5; have z5 := H3.out.frozen 5; have k6 := H3.out.cell 6; have z6 := H3.out.frozen 6; have k7 := H3.out.cell 7; have z7 := H3.out.frozen 7
    simp only [List.getElem?_toArray, List.getElem?_cons_zero, List.getElem?_cons_succ] at k0 k1 k2 k3 k4 k5 k6 k7
    go_simp
    refine hK.out _ _ ((by first | exact (hHeld.touch (oset8 H3.out rfl).2 (by show ¬ w.heap.size = w.heap.size + 1; omega) (by show ¬ b = w.heap.size + 1; omega)))) (fun hH => ?_)
    clear hK K hHeld
    have hHeld := hH
    clear hH
    clear k0 z0 k1 z1 k2 z2 k3 z3 k4 z4 k5 z5 k6 z6 k7 z7
    (try dsimp only [List.getElem_toArray, List.getElem_cons_zero, List.getElem_cons_succ]); (try simp only [Act.put, List.setIfInBounds_toArray, List.set_cons_zero, List.set_cons_succ])
    refine wpAnyH_take (i := 10) (oi := _) (v := ?_) rfl (by kernel_rfl) (by kernel_rfl) (by kernel_rfl) (fun _ _ _ h => h) (Or.inl ⟨by rfl, ?_⟩) hHeld ?_
    rotate_left
    · (intro wz hSw; go_simp; try (with_reducible rfl))
    (try dsimp only [List.getElem_toArray, List.getElem_cons_zero, List.getElem_cons_succ]); (try simp only [Act.put, List.setIfInBounds_toArray, List.set_cons_zero, List.set_cons_succ])
    refine wpAnyH_done (by kernel_rfl) ?_ _
    clear hHeld
    go_wp2
    generalize hX9 : ((((((((w2.setCell ⟨w.heap.size + 1, 0, none⟩ (.slice a5.a1 F.files.length a5.c1)).setCell ⟨w.heap.size + 1, 1, none⟩ (.slice a5.a2 F.dir.length a5.c2)).setCell ⟨w.heap.size + 1, 2, none⟩ (.slice a5.a3 F.safe.length a5.c3)).setCell ⟨w.heap.size + 1, 3, none⟩ (.slice a5.a4 F.chg.length a5.c4)).setCell ⟨w.heap.size + 1, 4, none⟩ (.int .i64 F.cap)).setCell ⟨w.heap.size + 1, 5, none⟩ (.int .i64 F.ops)).setCell ⟨w.heap.size + 1, 6, none⟩ (.int .i64 F.armed)).setCell ⟨w.heap.size + 1, 7, none⟩ (.bool F.dead)) = X9
    obtain ⟨y1, y2⟩ := oset8 H3.out hX9
    have HB9 := HB0.out.trans (y2.below (fun k _ e => by omega) HB0.out.size)
    have x0 := y1.cell 0; have x1 := y1.cell 1; have x2 := y1.cell 2; have x3 := y1.cell 3; have x4 := y1.cell 4; have x5 := y1.cell 5; have x6 := y1.cell 6; have x7 := y1.cell 7; simp only [List.getElem?_toArray, List.getElem?_cons_zero, List.getElem?_cons_succ] at x0 x1 x2 x3 x4 x5 x6 x7
    refine bodyPost_ret (v := .tuple #[.agg #[.slice a5.a1 F.files.length a5.c1, .slice a5.a2 F.dir.length a5.c2, .slice a5.a3 F.safe.length a5.c3, .slice a5.a4 F.chg.length a5.c4, .int .i64 F.cap, .int .i64 F.ops, .int .i64 F.armed, .bool F.dead], .int .i64 0]) (by simp [results, Tryz.results23, go_sem, x0, x1, x2, x3, x4, x5, x6, x7]) rfl ?_
    exact ⟨a5, rfl, HM5.out.off H3.out (by simp) y2, HB9, HK5.out.late y2.size⟩
theorem dref_syn_any (D : Dk) (a : DAd) (s : List UInt8) (w : World) (hM : DkMem w D a) (hd : D.dir.length ≤ 1000000) (hw : D.wf) (hf : D.files.length ≤ 1000000) (ho : 0 ≤ D.ops ∧ D.ops ≤ 1000000) (ha : -9223372036854775808 ≤ D.armed ∧ D.armed < 9223372036854775808) : Calls Tryz.prog 23 #[.agg (dkc D a), .string ⟨s.toArray⟩] w fun e w' => DPost a w w' e (dsyncF D s) := by
  by_cases hs : D.shut s = 0
  · cases hl : D.last with
    | true => exact dref_syn_b D a s w hM hd ho ha hs hl
    | false => exact dref_syn_c D a s w hM hd hw hf ho ha hs hl
  · exact dref_syn_a D a s w hM hd hs
end Go.Proofs.YtgoahcmgpjacjaaGreat
