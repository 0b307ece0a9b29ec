/-
  Layer 20: the law's RefDo, over the document's contracts (ahead of the code's landing).
-/
import Derived.Test.YtgoahcmgpjacjaaGreatDisDm
import Derived.Test.YtgoahcmgpjacjaaGreatDisW
import Derived.Test.YtgoahcmgpjacjaaGreatDisV
import Derived.Test.YtgoahcmgpjacjaaGreatDisS
import Derived.Test.YtgoahcmgpjacjaaGreatDisQ
import Derived.Test.YtgoahcmgpjacjaaGreatDisI
import Derived.Test.YtgoahcmgpjacjaaGreatDisL
namespace Go.Proofs.YtgoahcmgpjacjaaGreat
set_option linter.unusedSimpArgs false
set_option linter.unusedVariables false
open Go.ChangeShapes Go.WideShapes Go.ChangeAt Go.RowKit Go.Joins Go.Deep
theorem dusedL_max {D : Dk} (h : DBnd D) : ∀ l : List Ent, dusedL D l ≤ l.length * 1000000
  | [] => by simp [dusedL]
  | e :: l => by
    have h1 := dusedL_max h l
    have h2 := (h.file e.2).2
    unfold dusedL
    rw [List.length_cons]
    omega
theorem DSm.used_ {t : Nat} {D : Dk} (h : DSm t D) (ht : t ≤ 1000) : D.used ≤ 1000000000000000 := by
  have h1 := dusedL_max h.bnd D.dir
  have h2 := h.dir
  show dusedL D D.dir ≤ _
  have : D.dir.length * 1000000 ≤ 1000 * 1000000 := Nat.mul_le_mul_right _ (by omega)
  omega
theorem DkMem.off_ {W : World} {D : Dk} {a : DAd} (h : DkMem W D a) : DkMem W (doffF D) a := ⟨h.files, h.dir, h.safe, h.chg, h.k1, h.k2, h.k3, h.k4⟩
theorem DkMem.arm_ {W : World} {D : Dk} {a : DAd} (h : DkMem W D a) (n : Int) : DkMem W (darmF D n).1 a := by
  unfold darmF
  split
  · exact h
  split
  · exact h
  · exact ⟨h.files, h.dir, h.safe, h.chg, h.k1, h.k2, h.k3, h.k4⟩
section
variable {D : Dk} {a : DAd} (n : Int) (s t : List UInt8) (dir : Int) (cuts : List Int) (marks : List (List UInt8)) (cA : Option Addr) (cc : Nat) (mA : Option Addr) (mc : Nat) (w : World) (hM : DkMem w D a) (hD : DSm 1000 D)
include hM hD
set_option maxRecDepth 100000 in
set_option maxHeartbeats 4000000 in
theorem law_rd_0 (hx : AcOk w w.heap.size ⟨0, n, s, t, dir, cuts, marks, cA, cc, mA, mc⟩) (hf : AcFew ⟨0, n, s, t, dir, cuts, marks, cA, cc, mA, mc⟩) : Calls Tryz.prog 8 #[.agg (dkc D a), .agg #[.int .i64 0, .int .i64 n, .string ⟨s.toArray⟩, .string ⟨t.toArray⟩, .int .i64 dir, .slice cA cuts.length cc, .slice mA marks.length mc]] w fun e w' => DPost a w w' e (dcreateF D s) := by
  have hs1 : s.length ≤ 100000 := by have := hf.1; dsimp only at this; omega
  have hs2 : t.length ≤ 100000 := by have := hf.2.1; dsimp only at this; omega
  have d1 : D.dir.length ≤ 1000000 := by have := hD.dir; omega
  have d3 : D.chg.length ≤ 1000000 := by have := hD.chg; omega
  have d4 : D.files.length ≤ 1000000 := by have := hD.files; omega
  have d5 : (D.file (D.find s)).2.length ≤ 1000000000 := by have := (hD.bnd.file (D.find s)).2; omega
  have d6 := hD.used_ (by omega)
  have d7 : D.safe.length ≤ 100000 := by have := hD.safe; omega
  have d8 : D.chg.length ≤ 100000 := by have := hD.chg; omega
  have o1 : 0 ≤ D.ops ∧ D.ops ≤ 1000000 := by have := hD.ops; omega
  have o2 : -9223372036854775808 ≤ D.armed ∧ D.armed < 9223372036854775808 := by have := hD.armed; omega
  have C := Lib.hid (fun W (hb : Below w.heap.size w W) (hW : DkMem W D a) => dref_cre_any D a s W hW d1 (by omega) d3 d4 o1 o2)
  have HK : Hid (∀ W, Below w.heap.size w W → DkMem W D a) := Lib.hid fun W hb => hM.on hb
  have hb1 := (Below.refl w.heap.size w).alloc (Nat.le_refl _) (.cells #[.slice a.a1 D.files.length a.c1, .slice a.a2 D.dir.length a.c2, .slice a.a3 D.safe.length a.c3, .slice a.a4 D.chg.length a.c4, .int .i64 D.cap, .int .i64 D.ops, .int .i64 D.armed, .bool D.dead] 33)
  have hb2 := hb1.alloc hb1.size (.cells #[.int .i64 0, .int .i64 n, .string ⟨s.toArray⟩, .string ⟨t.toArray⟩, .int .i64 dir, .slice cA cuts.length cc, .slice mA marks.length mc] 43)
  have hb3 := hb2.alloc hb2.size (.cells #[.slice none 0 0, .slice none 0 0, .slice none 0 0, .slice none 0 0, .int .i64 0, .int .i64 0, .int .i64 0, .bool false] 33)
  have h3 := Blk.new ((w.alloc (.cells #[.slice a.a1 D.files.length a.c1, .slice a.a2 D.dir.length a.c2, .slice a.a3 D.safe.length a.c3, .slice a.a4 D.chg.length a.c4, .int .i64 D.cap, .int .i64 D.ops, .int .i64 D.armed, .bool D.dead] 33)).alloc (.cells #[.int .i64 0, .int .i64 n, .string ⟨s.toArray⟩, .string ⟨t.toArray⟩, .int .i64 dir, .slice cA cuts.length cc, .slice mA marks.length mc] 43)) 33 #[.slice none 0 0, .slice none 0 0, .slice none 0 0, .slice none 0 0, .int .i64 0, .int .i64 0, .int .i64 0, .bool false]
  simp only [World.size_alloc] at h3
  have H3 := Lib.hid h3
  have HB0 := Lib.hid hb3
  clear hb1 hb2 hb3 h3
  clear hM hD hx hf hs1 hs2 d1 d3 d4 d5 d6 d7 d8 o1 o2
  generalize cuts.length = k1 at *
  generalize marks.length = k2 at *
  generalize dcreateF D s = R at *
  obtain ⟨F, m⟩ := R
  unfold dkc at C ⊢
  go_enter Tryz.func8, Tryz.ntmps8
  go_wp2_with (first | (go_at_call 21; (with_reducible refine (C.out _ HB0.out (HK.out _ HB0.out)).mono ?_); rintro e w2 ⟨a9, rfl, hm9, hb, hk9⟩; have HM9 := Lib.hid hm9; have HK9 := Lib.hid (hk9.mono (w := w) HB0.out.size (Nat.le_refl _)); replace H3 := Lib.hid (H3.out.below hb H3.out.lt); replace HB0 := Lib.hid (HB0.out.trans (hb.mono HB0.out.size)); clear hb hm9 hk9; (try unfold dkc); (try dsimp only); have q0 := H3.out.cell 0; have q1 := H3.out.cell 1; have q2 := H3.out.cell 2; have q3 := H3.out.cell 3; have q4 := H3.out.cell 4; have q5 := H3.out.cell 5; have q6 := H3.out.cell 6; have q7 := H3.out.cell 7; simp only [List.getElem?_toArray, List.getElem?_cons_zero, List.getElem?_cons_succ] at q0 q1 q2 q3 q4 q5 q6 q7; have v0 := H3.out.frozen 0; have v1 := H3.out.frozen 1; have v2 := H3.out.frozen 2; have v3 := H3.out.frozen 3; have v4 := H3.out.frozen 4; have v5 := H3.out.frozen 5; have v6 := H3.out.frozen 6; have v7 := H3.out.frozen 7) | fail)
  generalize hX9 : ((((((((w2.setCell ⟨w.heap.size + 2, 0, none⟩ (.slice a9.a1 F.files.length a9.c1)).setCell ⟨w.heap.size + 2, 1, none⟩ (.slice a9.a2 F.dir.length a9.c2)).setCell ⟨w.heap.size + 2, 2, none⟩ (.slice a9.a3 F.safe.length a9.c3)).setCell ⟨w.heap.size + 2, 3, none⟩ (.slice a9.a4 F.chg.length a9.c4)).setCell ⟨w.heap.size + 2, 4, none⟩ (.int .i64 F.cap)).setCell ⟨w.heap.size + 2, 5, none⟩ (.int .i64 F.ops)).setCell ⟨w.heap.size + 2, 6, none⟩ (.int .i64 F.armed)).setCell ⟨w.heap.size + 2, 7, none⟩ (.bool F.dead)) = X9
  obtain ⟨y1, y2⟩ := oset8 H3.out hX9
  have HB9 := HB0.out.trans (y2.below (fun k _ e => by omega) HB0.out.size)
  have x0 := y1.cell 0; have x1 := y1.cell 1; have x2 := y1.cell 2; have x3 := y1.cell 3; have x4 := y1.cell 4; have x5 := y1.cell 5; have x6 := y1.cell 6; have x7 := y1.cell 7; simp only [List.getElem?_toArray, List.getElem?_cons_zero, List.getElem?_cons_succ] at x0 x1 x2 x3 x4 x5 x6 x7
  refine bodyPost_ret (v := .tuple #[.agg #[.slice a9.a1 F.files.length a9.c1, .slice a9.a2 F.dir.length a9.c2, .slice a9.a3 F.safe.length a9.c3, .slice a9.a4 F.chg.length a9.c4, .int .i64 F.cap, .int .i64 F.ops, .int .i64 F.armed, .bool F.dead], .int .i64 m]) (by simp [results, Tryz.results8, go_sem, x0, x1, x2, x3, x4, x5, x6, x7]) rfl ?_
  exact ⟨a9, rfl, HM9.out.off H3.out (by simp) y2, HB9, HK9.out.late y2.size⟩
set_option maxRecDepth 100000 in
set_option maxHeartbeats 4000000 in
theorem law_rd_1 (hx : AcOk w w.heap.size ⟨1, n, s, t, dir, cuts, marks, cA, cc, mA, mc⟩) (hf : AcFew ⟨1, n, s, t, dir, cuts, marks, cA, cc, mA, mc⟩) : Calls Tryz.prog 8 #[.agg (dkc D a), .agg #[.int .i64 1, .int .i64 n, .string ⟨s.toArray⟩, .string ⟨t.toArray⟩, .int .i64 dir, .slice cA cuts.length cc, .slice mA marks.length mc]] w fun e w' => DPost a w w' e (dappF D s t) := by
  have hs1 : s.length ≤ 100000 := by have := hf.1; dsimp only at this; omega
  have hs2 : t.length ≤ 100000 := by have := hf.2.1; dsimp only at this; omega
  have d1 : D.dir.length ≤ 1000000 := by have := hD.dir; omega
  have d3 : D.chg.length ≤ 1000000 := by have := hD.chg; omega
  have d4 : D.files.length ≤ 1000000 := by have := hD.files; omega
  have d5 : (D.file (D.find s)).2.length ≤ 1000000000 := by have := (hD.bnd.file (D.find s)).2; omega
  have d6 := hD.used_ (by omega)
  have d7 : D.safe.length ≤ 100000 := by have := hD.safe; omega
  have d8 : D.chg.length ≤ 100000 := by have := hD.chg; omega
  have o1 : 0 ≤ D.ops ∧ D.ops ≤ 1000000 := by have := hD.ops; omega
  have o2 : -9223372036854775808 ≤ D.armed ∧ D.armed < 9223372036854775808 := by have := hD.armed; omega
  have C := Lib.hid (fun W (hb : Below w.heap.size w W) (hW : DkMem W D a) => dref_app_any D a s t W hW d1 hD.wf (by omega) d5 d6 d4 o1 o2)
  have HK : Hid (∀ W, Below w.heap.size w W → DkMem W D a) := Lib.hid fun W hb => hM.on hb
  have hb1 := (Below.refl w.heap.size w).alloc (Nat.le_refl _) (.cells #[.slice a.a1 D.files.length a.c1, .slice a.a2 D.dir.length a.c2, .slice a.a3 D.safe.length a.c3, .slice a.a4 D.chg.length a.c4, .int .i64 D.cap, .int .i64 D.ops, .int .i64 D.armed, .bool D.dead] 33)
  have hb2 := hb1.alloc hb1.size (.cells #[.int .i64 1, .int .i64 n, .string ⟨s.toArray⟩, .string ⟨t.toArray⟩, .int .i64 dir, .slice cA cuts.length cc, .slice mA marks.length mc] 43)
  have hb3 := hb2.alloc hb2.size (.cells #[.slice none 0 0, .slice none 0 0, .slice none 0 0, .slice none 0 0, .int .i64 0, .int .i64 0, .int .i64 0, .bool false] 33)
  have h3 := Blk.new ((w.alloc (.cells #[.slice a.a1 D.files.length a.c1, .slice a.a2 D.dir.length a.c2, .slice a.a3 D.safe.length a.c3, .slice a.a4 D.chg.length a.c4, .int .i64 D.cap, .int .i64 D.ops, .int .i64 D.armed, .bool D.dead] 33)).alloc (.cells #[.int .i64 1, .int .i64 n, .string ⟨s.toArray⟩, .string ⟨t.toArray⟩, .int .i64 dir, .slice cA cuts.length cc, .slice mA marks.length mc] 43)) 33 #[.slice none 0 0, .slice none 0 0, .slice none 0 0, .slice none 0 0, .int .i64 0, .int .i64 0, .int .i64 0, .bool false]
  simp only [World.size_alloc] at h3
  have H3 := Lib.hid h3
  have HB0 := Lib.hid hb3
  clear hb1 hb2 hb3 h3
  clear hM hD hx hf hs1 hs2 d1 d3 d4 d5 d6 d7 d8 o1 o2
  generalize cuts.length = k1 at *
  generalize marks.length = k2 at *
  generalize dappF D s t = R at *
  obtain ⟨F, m⟩ := R
  unfold dkc at C ⊢
  go_enter Tryz.func8, Tryz.ntmps8
  go_wp2_with (first | (go_at_call 22; (with_reducible refine (C.out _ HB0.out (HK.out _ HB0.out)).mono ?_); rintro e w2 ⟨a9, rfl, hm9, hb, hk9⟩; have HM9 := Lib.hid hm9; have HK9 := Lib.hid (hk9.mono (w := w) HB0.out.size (Nat.le_refl _)); replace H3 := Lib.hid (H3.out.below hb H3.out.lt); replace HB0 := Lib.hid (HB0.out.trans (hb.mono HB0.out.size)); clear hb hm9 hk9; (try unfold dkc); (try dsimp only); have q0 := H3.out.cell 0; have q1 := H3.out.cell 1; have q2 := H3.out.cell 2; have q3 := H3.out.cell 3; have q4 := H3.out.cell 4; have q5 := H3.out.cell 5; have q6 := H3.out.cell 6; have q7 := H3.out.cell 7; simp only [List.getElem?_toArray, List.getElem?_cons_zero, List.getElem?_cons_succ] at q0 q1 q2 q3 q4 q5 q6 q7; have v0 := H3.out.frozen 0; have v1 := H3.out.frozen 1; have v2 := H3.out.frozen 2; have v3 := H3.out.frozen 3; have v4 := H3.out.frozen 4; have v5 := H3.out.frozen 5; have v6 := H3.out.frozen 6; have v7 := H3.out.frozen 7) | fail)
  generalize hX9 : ((((((((w2.setCell ⟨w.heap.size + 2, 0, none⟩ (.slice a9.a1 F.files.length a9.c1)).setCell ⟨w.heap.size + 2, 1, none⟩ (.slice a9.a2 F.dir.length a9.c2)).setCell ⟨w.heap.size + 2, 2, none⟩ (.slice a9.a3 F.safe.length a9.c3)).setCell ⟨w.heap.size + 2, 3, none⟩ (.slice a9.a4 F.chg.length a9.c4)).setCell ⟨w.heap.size + 2, 4, none⟩ (.int .i64 F.cap)).setCell ⟨w.heap.size + 2, 5, none⟩ (.int .i64 F.ops)).setCell ⟨w.heap.size + 2, 6, none⟩ (.int .i64 F.armed)).setCell ⟨w.heap.size + 2, 7, none⟩ (.bool F.dead)) = X9
  obtain ⟨y1, y2⟩ := oset8 H3.out hX9
  have HB9 := HB0.out.trans (y2.below (fun k _ e => by omega) HB0.out.size)
  have x0 := y1.cell 0; have x1 := y1.cell 1; have x2 := y1.cell 2; have x3 := y1.cell 3; have x4 := y1.cell 4; have x5 := y1.cell 5; have x6 := y1.cell 6; have x7 := y1.cell 7; simp only [List.getElem?_toArray, List.getElem?_cons_zero, List.getElem?_cons_succ] at x0 x1 x2 x3 x4 x5 x6 x7
  refine bodyPost_ret (v := .tuple #[.agg #[.slice a9.a1 F.files.length a9.c1, .slice a9.a2 F.dir.length a9.c2, .slice a9.a3 F.safe.length a9.c3, .slice a9.a4 F.chg.length a9.c4, .int .i64 F.cap, .int .i64 F.ops, .int .i64 F.armed, .bool F.dead], .int .i64 m]) (by simp [results, Tryz.results8, go_sem, x0, x1, x2, x3, x4, x5, x6, x7]) rfl ?_
  exact ⟨a9, rfl, HM9.out.off H3.out (by simp) y2, HB9, HK9.out.late y2.size⟩
set_option maxRecDepth 100000 in
set_option maxHeartbeats 4000000 in
theorem law_rd_2 (hx : AcOk w w.heap.size ⟨2, n, s, t, dir, cuts, marks, cA, cc, mA, mc⟩) (hf : AcFew ⟨2, n, s, t, dir, cuts, marks, cA, cc, mA, mc⟩) : Calls Tryz.prog 8 #[.agg (dkc D a), .agg #[.int .i64 2, .int .i64 n, .string ⟨s.toArray⟩, .string ⟨t.toArray⟩, .int .i64 dir, .slice cA cuts.length cc, .slice mA marks.length mc]] w fun e w' => DPost a w w' e (dsyncF D s) := by
  have hs1 : s.length ≤ 100000 := by have := hf.1; dsimp only at this; omega
  have hs2 : t.length ≤ 100000 := by have := hf.2.1; dsimp only at this; omega
  have d1 : D.dir.length ≤ 1000000 := by have := hD.dir; omega
  have d3 : D.chg.length ≤ 1000000 := by have := hD.chg; omega
  have d4 : D.files.length ≤ 1000000 := by have := hD.files; omega
  have d5 : (D.file (D.find s)).2.length ≤ 1000000000 := by have := (hD.bnd.file (D.find s)).2; omega
  have d6 := hD.used_ (by omega)
  have d7 : D.safe.length ≤ 100000 := by have := hD.safe; omega
  have d8 : D.chg.length ≤ 100000 := by have := hD.chg; omega
  have o1 : 0 ≤ D.ops ∧ D.ops ≤ 1000000 := by have := hD.ops; omega
  have o2 : -9223372036854775808 ≤ D.armed ∧ D.armed < 9223372036854775808 := by have := hD.armed; omega
  have C := Lib.hid (fun W (hb : Below w.heap.size w W) (hW : DkMem W D a) => dref_syn_any D a s W hW d1 hD.wf d4 o1 o2)
  have HK : Hid (∀ W, Below w.heap.size w W → DkMem W D a) := Lib.hid fun W hb => hM.on hb
  have hb1 := (Below.refl w.heap.size w).alloc (Nat.le_refl _) (.cells #[.slice a.a1 D.files.length a.c1, .slice a.a2 D.dir.length a.c2, .slice a.a3 D.safe.length a.c3, .slice a.a4 D.chg.length a.c4, .int .i64 D.cap, .int .i64 D.ops, .int .i64 D.armed, .bool D.dead] 33)
  have hb2 := hb1.alloc hb1.size (.cells #[.int .i64 2, .int .i64 n, .string ⟨s.toArray⟩, .string ⟨t.toArray⟩, .int .i64 dir, .slice cA cuts.length cc, .slice mA marks.length mc] 43)
  have hb3 := hb2.alloc hb2.size (.cells #[.slice none 0 0, .slice none 0 0, .slice none 0 0, .slice none 0 0, .int .i64 0, .int .i64 0, .int .i64 0, .bool false] 33)
  have h3 := Blk.new ((w.alloc (.cells #[.slice a.a1 D.files.length a.c1, .slice a.a2 D.dir.length a.c2, .slice a.a3 D.safe.length a.c3, .slice a.a4 D.chg.length a.c4, .int .i64 D.cap, .int .i64 D.ops, .int .i64 D.armed, .bool D.dead] 33)).alloc (.cells #[.int .i64 2, .int .i64 n, .string ⟨s.toArray⟩, .string ⟨t.toArray⟩, .int .i64 dir, .slice cA cuts.length cc, .slice mA marks.length mc] 43)) 33 #[.slice none 0 0, .slice none 0 0, .slice none 0 0, .slice none 0 0, .int .i64 0, .int .i64 0, .int .i64 0, .bool false]
  simp only [World.size_alloc] at h3
  have H3 := Lib.hid h3
  have HB0 := Lib.hid hb3
  clear hb1 hb2 hb3 h3
  clear hM hD hx hf hs1 hs2 d1 d3 d4 d5 d6 d7 d8 o1 o2
  generalize cuts.length = k1 at *
  generalize marks.length = k2 at *
  generalize dsyncF D s = R at *
  obtain ⟨F, m⟩ := R
  unfold dkc at C ⊢
  go_enter Tryz.func8, Tryz.ntmps8
  go_wp2_with (first | (go_at_call 23; (with_reducible refine (C.out _ HB0.out (HK.out _ HB0.out)).mono ?_); rintro e w2 ⟨a9, rfl, hm9, hb, hk9⟩; have HM9 := Lib.hid hm9; have HK9 := Lib.hid (hk9.mono (w := w) HB0.out.size (Nat.le_refl _)); replace H3 := Lib.hid (H3.out.below hb H3.out.lt); replace HB0 := Lib.hid (HB0.out.trans (hb.mono HB0.out.size)); clear hb hm9 hk9; (try unfold dkc); (try dsimp only); have q0 := H3.out.cell 0; have q1 := H3.out.cell 1; have q2 := H3.out.cell 2; have q3 := H3.out.cell 3; have q4 := H3.out.cell 4; have q5 := H3.out.cell 5; have q6 := H3.out.cell 6; have q7 := H3.out.cell 7; simp only [List.getElem?_toArray, List.getElem?_cons_zero, List.getElem?_cons_succ] at q0 q1 q2 q3 q4 q5 q6 q7; have v0 := H3.out.frozen 0; have v1 := H3.out.frozen 1; have v2 := H3.out.frozen 2; have v3 := H3.out.frozen 3; have v4 := H3.out.frozen 4; have v5 := H3.out.frozen 5; have v6 := H3.out.frozen 6; have v7 := H3.out.frozen 7) | fail)
  generalize hX9 : ((((((((w2.setCell ⟨w.heap.size + 2, 0, none⟩ (.slice a9.a1 F.files.length a9.c1)).setCell ⟨w.heap.size + 2, 1, none⟩ (.slice a9.a2 F.dir.length a9.c2)).setCell ⟨w.heap.size + 2, 2, none⟩ (.slice a9.a3 F.safe.length a9.c3)).setCell ⟨w.heap.size + 2, 3, none⟩ (.slice a9.a4 F.chg.length a9.c4)).setCell ⟨w.heap.size + 2, 4, none⟩ (.int .i64 F.cap)).setCell ⟨w.heap.size + 2, 5, none⟩ (.int .i64 F.ops)).setCell ⟨w.heap.size + 2, 6, none⟩ (.int .i64 F.armed)).setCell ⟨w.heap.size + 2, 7, none⟩ (.bool F.dead)) = X9
  obtain ⟨y1, y2⟩ := oset8 H3.out hX9
  have HB9 := HB0.out.trans (y2.below (fun k _ e => by omega) HB0.out.size)
  have x0 := y1.cell 0; have x1 := y1.cell 1; have x2 := y1.cell 2; have x3 := y1.cell 3; have x4 := y1.cell 4; have x5 := y1.cell 5; have x6 := y1.cell 6; have x7 := y1.cell 7; simp only [List.getElem?_toArray, List.getElem?_cons_zero, List.getElem?_cons_succ] at x0 x1 x2 x3 x4 x5 x6 x7
  refine bodyPost_ret (v := .tuple #[.agg #[.slice a9.a1 F.files.length a9.c1, .slice a9.a2 F.dir.length a9.c2, .slice a9.a3 F.safe.length a9.c3, .slice a9.a4 F.chg.length a9.c4, .int .i64 F.cap, .int .i64 F.ops, .int .i64 F.armed, .bool F.dead], .int .i64 m]) (by simp [results, Tryz.results8, go_sem, x0, x1, x2, x3, x4, x5, x6, x7]) rfl ?_
  exact ⟨a9, rfl, HM9.out.off H3.out (by simp) y2, HB9, HK9.out.late y2.size⟩
set_option maxRecDepth 100000 in
set_option maxHeartbeats 4000000 in
theorem law_rd_3 (hx : AcOk w w.heap.size ⟨3, n, s, t, dir, cuts, marks, cA, cc, mA, mc⟩) (hf : AcFew ⟨3, n, s, t, dir, cuts, marks, cA, cc, mA, mc⟩) : Calls Tryz.prog 8 #[.agg (dkc D a), .agg #[.int .i64 3, .int .i64 n, .string ⟨s.toArray⟩, .string ⟨t.toArray⟩, .int .i64 dir, .slice cA cuts.length cc, .slice mA marks.length mc]] w fun e w' => DPost a w w' e (dcutF D s n) := by
  have hs1 : s.length ≤ 100000 := by have := hf.1; dsimp only at this; omega
  have hs2 : t.length ≤ 100000 := by have := hf.2.1; dsimp only at this; omega
  have d1 : D.dir.length ≤ 1000000 := by have := hD.dir; omega
  have d3 : D.chg.length ≤ 1000000 := by have := hD.chg; omega
  have d4 : D.files.length ≤ 1000000 := by have := hD.files; omega
  have d5 : (D.file (D.find s)).2.length ≤ 1000000000 := by have := (hD.bnd.file (D.find s)).2; omega
  have d6 := hD.used_ (by omega)
  have d7 : D.safe.length ≤ 100000 := by have := hD.safe; omega
  have d8 : D.chg.length ≤ 100000 := by have := hD.chg; omega
  have o1 : 0 ≤ D.ops ∧ D.ops ≤ 1000000 := by have := hD.ops; omega
  have o2 : -9223372036854775808 ≤ D.armed ∧ D.armed < 9223372036854775808 := by have := hD.armed; omega
  have C := Lib.hid (fun W (hb : Below w.heap.size w W) (hW : DkMem W D a) => dref_cut_any D a s n W hW d1 hD.wf d4 o1 o2)
  have HK : Hid (∀ W, Below w.heap.size w W → DkMem W D a) := Lib.hid fun W hb => hM.on hb
  have hb1 := (Below.refl w.heap.size w).alloc (Nat.le_refl _) (.cells #[.slice a.a1 D.files.length a.c1, .slice a.a2 D.dir.length a.c2, .slice a.a3 D.safe.length a.c3, .slice a.a4 D.chg.length a.c4, .int .i64 D.cap, .int .i64 D.ops, .int .i64 D.armed, .bool D.dead] 33)
  have hb2 := hb1.alloc hb1.size (.cells #[.int .i64 3, .int .i64 n, .string ⟨s.toArray⟩, .string ⟨t.toArray⟩, .int .i64 dir, .slice cA cuts.length cc, .slice mA marks.length mc] 43)
  have hb3 := hb2.alloc hb2.size (.cells #[.slice none 0 0, .slice none 0 0, .slice none 0 0, .slice none 0 0, .int .i64 0, .int .i64 0, .int .i64 0, .bool false] 33)
  have h3 := Blk.new ((w.alloc (.cells #[.slice a.a1 D.files.length a.c1, .slice a.a2 D.dir.length a.c2, .slice a.a3 D.safe.length a.c3, .slice a.a4 D.chg.length a.c4, .int .i64 D.cap, .int .i64 D.ops, .int .i64 D.armed, .bool D.dead] 33)).alloc (.cells #[.int .i64 3, .int .i64 n, .string ⟨s.toArray⟩, .string ⟨t.toArray⟩, .int .i64 dir, .slice cA cuts.length cc, .slice mA marks.length mc] 43)) 33 #[.slice none 0 0, .slice none 0 0, .slice none 0 0, .slice none 0 0, .int .i64 0, .int .i64 0, .int .i64 0, .bool false]
  simp only [World.size_alloc] at h3
  have H3 := Lib.hid h3
  have HB0 := Lib.hid hb3
  clear hb1 hb2 hb3 h3
  clear hM hD hx hf hs1 hs2 d1 d3 d4 d5 d6 d7 d8 o1 o2
  generalize cuts.length = k1 at *
  generalize marks.length = k2 at *
  generalize dcutF D s n = R at *
  obtain ⟨F, m⟩ := R
  unfold dkc at C ⊢
  go_enter Tryz.func8, Tryz.ntmps8
  go_wp2_with (first | (go_at_call 24; (with_reducible refine (C.out _ HB0.out (HK.out _ HB0.out)).mono ?_); rintro e w2 ⟨a9, rfl, hm9, hb, hk9⟩; have HM9 := Lib.hid hm9; have HK9 := Lib.hid (hk9.mono (w := w) HB0.out.size (Nat.le_refl _)); replace H3 := Lib.hid (H3.out.below hb H3.out.lt); replace HB0 := Lib.hid (HB0.out.trans (hb.mono HB0.out.size)); clear hb hm9 hk9; (try unfold dkc); (try dsimp only); have q0 := H3.out.cell 0; have q1 := H3.out.cell 1; have q2 := H3.out.cell 2; have q3 := H3.out.cell 3; have q4 := H3.out.cell 4; have q5 := H3.out.cell 5; have q6 := H3.out.cell 6; have q7 := H3.out.cell 7; simp only [List.getElem?_toArray, List.getElem?_cons_zero, List.getElem?_cons_succ] at q0 q1 q2 q3 q4 q5 q6 q7; have v0 := H3.out.frozen 0; have v1 := H3.out.frozen 1; have v2 := H3.out.frozen 2; have v3 := H3.out.frozen 3; have v4 := H3.out.frozen 4; have v5 := H3.out.frozen 5; have v6 := H3.out.frozen 6; have v7 := H3.out.frozen 7) | fail)
  generalize hX9 : ((((((((w2.setCell ⟨w.heap.size + 2, 0, none⟩ (.slice a9.a1 F.files.length a9.c1)).setCell ⟨w.heap.size + 2, 1, none⟩ (.slice a9.a2 F.dir.length a9.c2)).setCell ⟨w.heap.size + 2, 2, none⟩ (.slice a9.a3 F.safe.length a9.c3)).setCell ⟨w.heap.size + 2, 3, none⟩ (.slice a9.a4 F.chg.length a9.c4)).setCell ⟨w.heap.size + 2, 4, none⟩ (.int .i64 F.cap)).setCell ⟨w.heap.size + 2, 5, none⟩ (.int .i64 F.ops)).setCell ⟨w.heap.size + 2, 6, none⟩ (.int .i64 F.armed)).setCell ⟨w.heap.size + 2, 7, none⟩ (.bool F.dead)) = X9
  obtain ⟨y1, y2⟩ := oset8 H3.out hX9
  have HB9 := HB0.out.trans (y2.below (fun k _ e => by omega) HB0.out.size)
  have x0 := y1.cell 0; have x1 := y1.cell 1; have x2 := y1.cell 2; have x3 := y1.cell 3; have x4 := y1.cell 4; have x5 := y1.cell 5; have x6 := y1.cell 6; have x7 := y1.cell 7; simp only [List.getElem?_toArray, List.getElem?_cons_zero, List.getElem?_cons_succ] at x0 x1 x2 x3 x4 x5 x6 x7
  refine bodyPost_ret (v := .tuple #[.agg #[.slice a9.a1 F.files.length a9.c1, .slice a9.a2 F.dir.length a9.c2, .slice a9.a3 F.safe.length a9.c3, .slice a9.a4 F.chg.length a9.c4, .int .i64 F.cap, .int .i64 F.ops, .int .i64 F.armed, .bool F.dead], .int .i64 m]) (by simp [results, Tryz.results8, go_sem, x0, x1, x2, x3, x4, x5, x6, x7]) rfl ?_
  exact ⟨a9, rfl, HM9.out.off H3.out (by simp) y2, HB9, HK9.out.late y2.size⟩
set_option maxRecDepth 100000 in
set_option maxHeartbeats 4000000 in
theorem law_rd_4 (hx : AcOk w w.heap.size ⟨4, n, s, t, dir, cuts, marks, cA, cc, mA, mc⟩) (hf : AcFew ⟨4, n, s, t, dir, cuts, marks, cA, cc, mA, mc⟩) : Calls Tryz.prog 8 #[.agg (dkc D a), .agg #[.int .i64 4, .int .i64 n, .string ⟨s.toArray⟩, .string ⟨t.toArray⟩, .int .i64 dir, .slice cA cuts.length cc, .slice mA marks.length mc]] w fun e w' => DPost a w w' e (drenF D s t) := by
  have hs1 : s.length ≤ 100000 := by have := hf.1; dsimp only at this; omega
  have hs2 : t.length ≤ 100000 := by have := hf.2.1; dsimp only at this; omega
  have d1 : D.dir.length ≤ 1000000 := by have := hD.dir; omega
  have d3 : D.chg.length ≤ 1000000 := by have := hD.chg; omega
  have d4 : D.files.length ≤ 1000000 := by have := hD.files; omega
  have d5 : (D.file (D.find s)).2.length ≤ 1000000000 := by have := (hD.bnd.file (D.find s)).2; omega
  have d6 := hD.used_ (by omega)
  have d7 : D.safe.length ≤ 100000 := by have := hD.safe; omega
  have d8 : D.chg.length ≤ 100000 := by have := hD.chg; omega
  have o1 : 0 ≤ D.ops ∧ D.ops ≤ 1000000 := by have := hD.ops; omega
  have o2 : -9223372036854775808 ≤ D.armed ∧ D.armed < 9223372036854775808 := by have := hD.armed; omega
  have C := Lib.hid (fun W (hb : Below w.heap.size w W) (hW : DkMem W D a) => dref_ren_any D a s t W hW d1 d3 o1 o2 (by omega))
  have HK : Hid (∀ W, Below w.heap.size w W → DkMem W D a) := Lib.hid fun W hb => hM.on hb
  have hb1 := (Below.refl w.heap.size w).alloc (Nat.le_refl _) (.cells #[.slice a.a1 D.files.length a.c1, .slice a.a2 D.dir.length a.c2, .slice a.a3 D.safe.length a.c3, .slice a.a4 D.chg.length a.c4, .int .i64 D.cap, .int .i64 D.ops, .int .i64 D.armed, .bool D.dead] 33)
  have hb2 := hb1.alloc hb1.size (.cells #[.int .i64 4, .int .i64 n, .string ⟨s.toArray⟩, .string ⟨t.toArray⟩, .int .i64 dir, .slice cA cuts.length cc, .slice mA marks.length mc] 43)
  have hb3 := hb2.alloc hb2.size (.cells #[.slice none 0 0, .slice none 0 0, .slice none 0 0, .slice none 0 0, .int .i64 0, .int .i64 0, .int .i64 0, .bool false] 33)
  have h3 := Blk.new ((w.alloc (.cells #[.slice a.a1 D.files.length a.c1, .slice a.a2 D.dir.length a.c2, .slice a.a3 D.safe.length a.c3, .slice a.a4 D.chg.length a.c4, .int .i64 D.cap, .int .i64 D.ops, .int .i64 D.armed, .bool D.dead] 33)).alloc (.cells #[.int .i64 4, .int .i64 n, .string ⟨s.toArray⟩, .string ⟨t.toArray⟩, .int .i64 dir, .slice cA cuts.length cc, .slice mA marks.length mc] 43)) 33 #[.slice none 0 0, .slice none 0 0, .slice none 0 0, .slice none 0 0, .int .i64 0, .int .i64 0, .int .i64 0, .bool false]
  simp only [World.size_alloc] at h3
  have H3 := Lib.hid h3
  have HB0 := Lib.hid hb3
  clear hb1 hb2 hb3 h3
  clear hM hD hx hf hs1 hs2 d1 d3 d4 d5 d6 d7 d8 o1 o2
  generalize cuts.length = k1 at *
  generalize marks.length = k2 at *
  generalize drenF D s t = R at *
  obtain ⟨F, m⟩ := R
  unfold dkc at C ⊢
  go_enter Tryz.func8, Tryz.ntmps8
  go_wp2_with (first | (go_at_call 25; (with_reducible refine (C.out _ HB0.out (HK.out _ HB0.out)).mono ?_); rintro e w2 ⟨a9, rfl, hm9, hb, hk9⟩; have HM9 := Lib.hid hm9; have HK9 := Lib.hid (hk9.mono (w := w) HB0.out.size (Nat.le_refl _)); replace H3 := Lib.hid (H3.out.below hb H3.out.lt); replace HB0 := Lib.hid (HB0.out.trans (hb.mono HB0.out.size)); clear hb hm9 hk9; (try unfold dkc); (try dsimp only); have q0 := H3.out.cell 0; have q1 := H3.out.cell 1; have q2 := H3.out.cell 2; have q3 := H3.out.cell 3; have q4 := H3.out.cell 4; have q5 := H3.out.cell 5; have q6 := H3.out.cell 6; have q7 := H3.out.cell 7; simp only [List.getElem?_toArray, List.getElem?_cons_zero, List.getElem?_cons_succ] at q0 q1 q2 q3 q4 q5 q6 q7; have v0 := H3.out.frozen 0; have v1 := H3.out.frozen 1; have v2 := H3.out.frozen 2; have v3 := H3.out.frozen 3; have v4 := H3.out.frozen 4; have v5 := H3.out.frozen 5; have v6 := H3.out.frozen 6; have v7 := H3.out.frozen 7) | fail)
  generalize hX9 : ((((((((w2.setCell ⟨w.heap.size + 2, 0, none⟩ (.slice a9.a1 F.files.length a9.c1)).setCell ⟨w.heap.size + 2, 1, none⟩ (.slice a9.a2 F.dir.length a9.c2)).setCell ⟨w.heap.size + 2, 2, none⟩ (.slice a9.a3 F.safe.length a9.c3)).setCell ⟨w.heap.size + 2, 3, none⟩ (.slice a9.a4 F.chg.length a9.c4)).setCell ⟨w.heap.size + 2, 4, none⟩ (.int .i64 F.cap)).setCell ⟨w.heap.size + 2, 5, none⟩ (.int .i64 F.ops)).setCell ⟨w.heap.size + 2, 6, none⟩ (.int .i64 F.armed)).setCell ⟨w.heap.size + 2, 7, none⟩ (.bool F.dead)) = X9
  obtain ⟨y1, y2⟩ := oset8 H3.out hX9
  have HB9 := HB0.out.trans (y2.below (fun k _ e => by omega) HB0.out.size)
  have x0 := y1.cell 0; have x1 := y1.cell 1; have x2 := y1.cell 2; have x3 := y1.cell 3; have x4 := y1.cell 4; have x5 := y1.cell 5; have x6 := y1.cell 6; have x7 := y1.cell 7; simp only [List.getElem?_toArray, List.getElem?_cons_zero, List.getElem?_cons_succ] at x0 x1 x2 x3 x4 x5 x6 x7
  refine bodyPost_ret (v := .tuple #[.agg #[.slice a9.a1 F.files.length a9.c1, .slice a9.a2 F.dir.length a9.c2, .slice a9.a3 F.safe.length a9.c3, .slice a9.a4 F.chg.length a9.c4, .int .i64 F.cap, .int .i64 F.ops, .int .i64 F.armed, .bool F.dead], .int .i64 m]) (by simp [results, Tryz.results8, go_sem, x0, x1, x2, x3, x4, x5, x6, x7]) rfl ?_
  exact ⟨a9, rfl, HM9.out.off H3.out (by simp) y2, HB9, HK9.out.late y2.size⟩
set_option maxRecDepth 100000 in
set_option maxHeartbeats 4000000 in
theorem law_rd_5 (hx : AcOk w w.heap.size ⟨5, n, s, t, dir, cuts, marks, cA, cc, mA, mc⟩) (hf : AcFew ⟨5, n, s, t, dir, cuts, marks, cA, cc, mA, mc⟩) : Calls Tryz.prog 8 #[.agg (dkc D a), .agg #[.int .i64 5, .int .i64 n, .string ⟨s.toArray⟩, .string ⟨t.toArray⟩, .int .i64 dir, .slice cA cuts.length cc, .slice mA marks.length mc]] w fun e w' => DPost a w w' e (dremF D s) := by
  have hs1 : s.length ≤ 100000 := by have := hf.1; dsimp only at this; omega
  have hs2 : t.length ≤ 100000 := by have := hf.2.1; dsimp only at this; omega
  have d1 : D.dir.length ≤ 1000000 := by have := hD.dir; omega
  have d3 : D.chg.length ≤ 1000000 := by have := hD.chg; omega
  have d4 : D.files.length ≤ 1000000 := by have := hD.files; omega
  have d5 : (D.file (D.find s)).2.length ≤ 1000000000 := by have := (hD.bnd.file (D.find s)).2; omega
  have d6 := hD.used_ (by omega)
  have d7 : D.safe.length ≤ 100000 := by have := hD.safe; omega
  have d8 : D.chg.length ≤ 100000 := by have := hD.chg; omega
  have o1 : 0 ≤ D.ops ∧ D.ops ≤ 1000000 := by have := hD.ops; omega
  have o2 : -9223372036854775808 ≤ D.armed ∧ D.armed < 9223372036854775808 := by have := hD.armed; omega
  have C := Lib.hid (fun W (hb : Below w.heap.size w W) (hW : DkMem W D a) => dref_remove_any D a s W hW d1 d3 o1 o2)
  have HK : Hid (∀ W, Below w.heap.size w W → DkMem W D a) := Lib.hid fun W hb => hM.on hb
  have hb1 := (Below.refl w.heap.size w).alloc (Nat.le_refl _) (.cells #[.slice a.a1 D.files.length a.c1, .slice a.a2 D.dir.length a.c2, .slice a.a3 D.safe.length a.c3, .slice a.a4 D.chg.length a.c4, .int .i64 D.cap, .int .i64 D.ops, .int .i64 D.armed, .bool D.dead] 33)
  have hb2 := hb1.alloc hb1.size (.cells #[.int .i64 5, .int .i64 n, .string ⟨s.toArray⟩, .string ⟨t.toArray⟩, .int .i64 dir, .slice cA cuts.length cc, .slice mA marks.length mc] 43)
  have hb3 := hb2.alloc hb2.size (.cells #[.slice none 0 0, .slice none 0 0, .slice none 0 0, .slice none 0 0, .int .i64 0, .int .i64 0, .int .i64 0, .bool false] 33)
  have h3 := Blk.new ((w.alloc (.cells #[.slice a.a1 D.files.length a.c1, .slice a.a2 D.dir.length a.c2, .slice a.a3 D.safe.length a.c3, .slice a.a4 D.chg.length a.c4, .int .i64 D.cap, .int .i64 D.ops, .int .i64 D.armed, .bool D.dead] 33)).alloc (.cells #[.int .i64 5, .int .i64 n, .string ⟨s.toArray⟩, .string ⟨t.toArray⟩, .int .i64 dir, .slice cA cuts.length cc, .slice mA marks.length mc] 43)) 33 #[.slice none 0 0, .slice none 0 0, .slice none 0 0, .slice none 0 0, .int .i64 0, .int .i64 0, .int .i64 0, .bool false]
  simp only [World.size_alloc] at h3
  have H3 := Lib.hid h3
  have HB0 := Lib.hid hb3
  clear hb1 hb2 hb3 h3
  clear hM hD hx hf hs1 hs2 d1 d3 d4 d5 d6 d7 d8 o1 o2
  generalize cuts.length = k1 at *
  generalize marks.length = k2 at *
  generalize dremF D s = R at *
  obtain ⟨F, m⟩ := R
  unfold dkc at C ⊢
  go_enter Tryz.func8, Tryz.ntmps8
  go_wp2_with (first | (go_at_call 26; (with_reducible refine (C.out _ HB0.out (HK.out _ HB0.out)).mono ?_); rintro e w2 ⟨a9, rfl, hm9, hb, hk9⟩; have HM9 := Lib.hid hm9; have HK9 := Lib.hid (hk9.mono (w := w) HB0.out.size (Nat.le_refl _)); replace H3 := Lib.hid (H3.out.below hb H3.out.lt); replace HB0 := Lib.hid (HB0.out.trans (hb.mono HB0.out.size)); clear hb hm9 hk9; (try unfold dkc); (try dsimp only); have q0 := H3.out.cell 0; have q1 := H3.out.cell 1; have q2 := H3.out.cell 2; have q3 := H3.out.cell 3; have q4 := H3.out.cell 4; have q5 := H3.out.cell 5; have q6 := H3.out.cell 6; have q7 := H3.out.cell 7; simp only [List.getElem?_toArray, List.getElem?_cons_zero, List.getElem?_cons_succ] at q0 q1 q2 q3 q4 q5 q6 q7; have v0 := H3.out.frozen 0; have v1 := H3.out.frozen 1; have v2 := H3.out.frozen 2; have v3 := H3.out.frozen 3; have v4 := H3.out.frozen 4; have v5 := H3.out.frozen 5; have v6 := H3.out.frozen 6; have v7 := H3.out.frozen 7) | fail)
  generalize hX9 : ((((((((w2.setCell ⟨w.heap.size + 2, 0, none⟩ (.slice a9.a1 F.files.length a9.c1)).setCell ⟨w.heap.size + 2, 1, none⟩ (.slice a9.a2 F.dir.length a9.c2)).setCell ⟨w.heap.size + 2, 2, none⟩ (.slice a9.a3 F.safe.length a9.c3)).setCell ⟨w.heap.size + 2, 3, none⟩ (.slice a9.a4 F.chg.length a9.c4)).setCell ⟨w.heap.size + 2, 4, none⟩ (.int .i64 F.cap)).setCell ⟨w.heap.size + 2, 5, none⟩ (.int .i64 F.ops)).setCell ⟨w.heap.size + 2, 6, none⟩ (.int .i64 F.armed)).setCell ⟨w.heap.size + 2, 7, none⟩ (.bool F.dead)) = X9
  obtain ⟨y1, y2⟩ := oset8 H3.out hX9
  have HB9 := HB0.out.trans (y2.below (fun k _ e => by omega) HB0.out.size)
  have x0 := y1.cell 0; have x1 := y1.cell 1; have x2 := y1.cell 2; have x3 := y1.cell 3; have x4 := y1.cell 4; have x5 := y1.cell 5; have x6 := y1.cell 6; have x7 := y1.cell 7; simp only [List.getElem?_toArray, List.getElem?_cons_zero, List.getElem?_cons_succ] at x0 x1 x2 x3 x4 x5 x6 x7
  refine bodyPost_ret (v := .tuple #[.agg #[.slice a9.a1 F.files.length a9.c1, .slice a9.a2 F.dir.length a9.c2, .slice a9.a3 F.safe.length a9.c3, .slice a9.a4 F.chg.length a9.c4, .int .i64 F.cap, .int .i64 F.ops, .int .i64 F.armed, .bool F.dead], .int .i64 m]) (by simp [results, Tryz.results8, go_sem, x0, x1, x2, x3, x4, x5, x6, x7]) rfl ?_
  exact ⟨a9, rfl, HM9.out.off H3.out (by simp) y2, HB9, HK9.out.late y2.size⟩
set_option maxRecDepth 100000 in
set_option maxHeartbeats 4000000 in
theorem law_rd_6 (hx : AcOk w w.heap.size ⟨6, n, s, t, dir, cuts, marks, cA, cc, mA, mc⟩) (hf : AcFew ⟨6, n, s, t, dir, cuts, marks, cA, cc, mA, mc⟩) : Calls Tryz.prog 8 #[.agg (dkc D a), .agg #[.int .i64 6, .int .i64 n, .string ⟨s.toArray⟩, .string ⟨t.toArray⟩, .int .i64 dir, .slice cA cuts.length cc, .slice mA marks.length mc]] w fun e w' => DPost a w w' e (ddirF D) := by
  have hs1 : s.length ≤ 100000 := by have := hf.1; dsimp only at this; omega
  have hs2 : t.length ≤ 100000 := by have := hf.2.1; dsimp only at this; omega
  have d1 : D.dir.length ≤ 1000000 := by have := hD.dir; omega
  have d3 : D.chg.length ≤ 1000000 := by have := hD.chg; omega
  have d4 : D.files.length ≤ 1000000 := by have := hD.files; omega
  have d5 : (D.file (D.find s)).2.length ≤ 1000000000 := by have := (hD.bnd.file (D.find s)).2; omega
  have d6 := hD.used_ (by omega)
  have d7 : D.safe.length ≤ 100000 := by have := hD.safe; omega
  have d8 : D.chg.length ≤ 100000 := by have := hD.chg; omega
  have o1 : 0 ≤ D.ops ∧ D.ops ≤ 1000000 := by have := hD.ops; omega
  have o2 : -9223372036854775808 ≤ D.armed ∧ D.armed < 9223372036854775808 := by have := hD.armed; omega
  have C := Lib.hid (fun W (hb : Below w.heap.size w W) (hW : DkMem W D a) => dref_dsy_any D a W hW o1 o2)
  have HK : Hid (∀ W, Below w.heap.size w W → DkMem W D a) := Lib.hid fun W hb => hM.on hb
  have hb1 := (Below.refl w.heap.size w).alloc (Nat.le_refl _) (.cells #[.slice a.a1 D.files.length a.c1, .slice a.a2 D.dir.length a.c2, .slice a.a3 D.safe.length a.c3, .slice a.a4 D.chg.length a.c4, .int .i64 D.cap, .int .i64 D.ops, .int .i64 D.armed, .bool D.dead] 33)
  have hb2 := hb1.alloc hb1.size (.cells #[.int .i64 6, .int .i64 n, .string ⟨s.toArray⟩, .string ⟨t.toArray⟩, .int .i64 dir, .slice cA cuts.length cc, .slice mA marks.length mc] 43)
  have hb3 := hb2.alloc hb2.size (.cells #[.slice none 0 0, .slice none 0 0, .slice none 0 0, .slice none 0 0, .int .i64 0, .int .i64 0, .int .i64 0, .bool false] 33)
  have h3 := Blk.new ((w.alloc (.cells #[.slice a.a1 D.files.length a.c1, .slice a.a2 D.dir.length a.c2, .slice a.a3 D.safe.length a.c3, .slice a.a4 D.chg.length a.c4, .int .i64 D.cap, .int .i64 D.ops, .int .i64 D.armed, .bool D.dead] 33)).alloc (.cells #[.int .i64 6, .int .i64 n, .string ⟨s.toArray⟩, .string ⟨t.toArray⟩, .int .i64 dir, .slice cA cuts.length cc, .slice mA marks.length mc] 43)) 33 #[.slice none 0 0, .slice none 0 0, .slice none 0 0, .slice none 0 0, .int .i64 0, .int .i64 0, .int .i64 0, .bool false]
  simp only [World.size_alloc] at h3
  have H3 := Lib.hid h3
  have HB0 := Lib.hid hb3
  clear hb1 hb2 hb3 h3
  clear hM hD hx hf hs1 hs2 d1 d3 d4 d5 d6 d7 d8 o1 o2
  generalize cuts.length = k1 at *
  generalize marks.length = k2 at *
  generalize ddirF D = R at *
  obtain ⟨F, m⟩ := R
  unfold dkc at C ⊢
  go_enter Tryz.func8, Tryz.ntmps8
  go_wp2_with (first | (go_at_call 27; (with_reducible refine (C.out _ HB0.out (HK.out _ HB0.out)).mono ?_); rintro e w2 ⟨a9, rfl, hm9, hb, hk9⟩; have HM9 := Lib.hid hm9; have HK9 := Lib.hid (hk9.mono (w := w) HB0.out.size (Nat.le_refl _)); replace H3 := Lib.hid (H3.out.below hb H3.out.lt); replace HB0 := Lib.hid (HB0.out.trans (hb.mono HB0.out.size)); clear hb hm9 hk9; (try unfold dkc); (try dsimp only); have q0 := H3.out.cell 0; have q1 := H3.out.cell 1; have q2 := H3.out.cell 2; have q3 := H3.out.cell 3; have q4 := H3.out.cell 4; have q5 := H3.out.cell 5; have q6 := H3.out.cell 6; have q7 := H3.out.cell 7; simp only [List.getElem?_toArray, List.getElem?_cons_zero, List.getElem?_cons_succ] at q0 q1 q2 q3 q4 q5 q6 q7; have v0 := H3.out.frozen 0; have v1 := H3.out.frozen 1; have v2 := H3.out.frozen 2; have v3 := H3.out.frozen 3; have v4 := H3.out.frozen 4; have v5 := H3.out.frozen 5; have v6 := H3.out.frozen 6; have v7 := H3.out.frozen 7) | fail)
  generalize hX9 : ((((((((w2.setCell ⟨w.heap.size + 2, 0, none⟩ (.slice a9.a1 F.files.length a9.c1)).setCell ⟨w.heap.size + 2, 1, none⟩ (.slice a9.a2 F.dir.length a9.c2)).setCell ⟨w.heap.size + 2, 2, none⟩ (.slice a9.a3 F.safe.length a9.c3)).setCell ⟨w.heap.size + 2, 3, none⟩ (.slice a9.a4 F.chg.length a9.c4)).setCell ⟨w.heap.size + 2, 4, none⟩ (.int .i64 F.cap)).setCell ⟨w.heap.size + 2, 5, none⟩ (.int .i64 F.ops)).setCell ⟨w.heap.size + 2, 6, none⟩ (.int .i64 F.armed)).setCell ⟨w.heap.size + 2, 7, none⟩ (.bool F.dead)) = X9
  obtain ⟨y1, y2⟩ := oset8 H3.out hX9
  have HB9 := HB0.out.trans (y2.below (fun k _ e => by omega) HB0.out.size)
  have x0 := y1.cell 0; have x1 := y1.cell 1; have x2 := y1.cell 2; have x3 := y1.cell 3; have x4 := y1.cell 4; have x5 := y1.cell 5; have x6 := y1.cell 6; have x7 := y1.cell 7; simp only [List.getElem?_toArray, List.getElem?_cons_zero, List.getElem?_cons_succ] at x0 x1 x2 x3 x4 x5 x6 x7
  refine bodyPost_ret (v := .tuple #[.agg #[.slice a9.a1 F.files.length a9.c1, .slice a9.a2 F.dir.length a9.c2, .slice a9.a3 F.safe.length a9.c3, .slice a9.a4 F.chg.length a9.c4, .int .i64 F.cap, .int .i64 F.ops, .int .i64 F.armed, .bool F.dead], .int .i64 m]) (by simp [results, Tryz.results8, go_sem, x0, x1, x2, x3, x4, x5, x6, x7]) rfl ?_
  exact ⟨a9, rfl, HM9.out.off H3.out (by simp) y2, HB9, HK9.out.late y2.size⟩
set_option maxRecDepth 100000 in
set_option maxHeartbeats 4000000 in
theorem law_rd_7 (hx : AcOk w w.heap.size ⟨7, n, s, t, dir, cuts, marks, cA, cc, mA, mc⟩) (hf : AcFew ⟨7, n, s, t, dir, cuts, marks, cA, cc, mA, mc⟩) : Calls Tryz.prog 8 #[.agg (dkc D a), .agg #[.int .i64 7, .int .i64 n, .string ⟨s.toArray⟩, .string ⟨t.toArray⟩, .int .i64 dir, .slice cA cuts.length cc, .slice mA marks.length mc]] w fun e w' => DPost a w w' e (darmF D n) := by
  have hs1 : s.length ≤ 100000 := by have := hf.1; dsimp only at this; omega
  have hs2 : t.length ≤ 100000 := by have := hf.2.1; dsimp only at this; omega
  have d1 : D.dir.length ≤ 1000000 := by have := hD.dir; omega
  have d3 : D.chg.length ≤ 1000000 := by have := hD.chg; omega
  have d4 : D.files.length ≤ 1000000 := by have := hD.files; omega
  have d5 : (D.file (D.find s)).2.length ≤ 1000000000 := by have := (hD.bnd.file (D.find s)).2; omega
  have d6 := hD.used_ (by omega)
  have d7 : D.safe.length ≤ 100000 := by have := hD.safe; omega
  have d8 : D.chg.length ≤ 100000 := by have := hD.chg; omega
  have o1 : 0 ≤ D.ops ∧ D.ops ≤ 1000000 := by have := hD.ops; omega
  have o2 : -9223372036854775808 ≤ D.armed ∧ D.armed < 9223372036854775808 := by have := hD.armed; omega
  have C := Lib.hid (fun W (hb : Below w.heap.size w W) (hW : DkMem W D a) => dref_arm_any D a n W)
  have HK : Hid (∀ W, Below w.heap.size w W → DkMem W D a) := Lib.hid fun W hb => hM.on hb
  have hb1 := (Below.refl w.heap.size w).alloc (Nat.le_refl _) (.cells #[.slice a.a1 D.files.length a.c1, .slice a.a2 D.dir.length a.c2, .slice a.a3 D.safe.length a.c3, .slice a.a4 D.chg.length a.c4, .int .i64 D.cap, .int .i64 D.ops, .int .i64 D.armed, .bool D.dead] 33)
  have hb2 := hb1.alloc hb1.size (.cells #[.int .i64 7, .int .i64 n, .string ⟨s.toArray⟩, .string ⟨t.toArray⟩, .int .i64 dir, .slice cA cuts.length cc, .slice mA marks.length mc] 43)
  have hb3 := hb2.alloc hb2.size (.cells #[.slice none 0 0, .slice none 0 0, .slice none 0 0, .slice none 0 0, .int .i64 0, .int .i64 0, .int .i64 0, .bool false] 33)
  have h3 := Blk.new ((w.alloc (.cells #[.slice a.a1 D.files.length a.c1, .slice a.a2 D.dir.length a.c2, .slice a.a3 D.safe.length a.c3, .slice a.a4 D.chg.length a.c4, .int .i64 D.cap, .int .i64 D.ops, .int .i64 D.armed, .bool D.dead] 33)).alloc (.cells #[.int .i64 7, .int .i64 n, .string ⟨s.toArray⟩, .string ⟨t.toArray⟩, .int .i64 dir, .slice cA cuts.length cc, .slice mA marks.length mc] 43)) 33 #[.slice none 0 0, .slice none 0 0, .slice none 0 0, .slice none 0 0, .int .i64 0, .int .i64 0, .int .i64 0, .bool false]
  simp only [World.size_alloc] at h3
  have H3 := Lib.hid h3
  have HB0 := Lib.hid hb3
  clear hb1 hb2 hb3 h3
  clear hM hD hx hf hs1 hs2 d1 d3 d4 d5 d6 d7 d8 o1 o2
  generalize cuts.length = k1 at *
  generalize marks.length = k2 at *
  have HK0 : Hid (∀ W, Below w.heap.size w W → DkMem W ((darmF D n).1) a) := Lib.hid fun W hb => (HK.out W hb).arm_ n
  generalize darmF D n = R at *
  obtain ⟨F, m⟩ := R
  dsimp only at C HK0
  unfold dkc at C ⊢
  go_enter Tryz.func8, Tryz.ntmps8
  go_wp2_with (first | (go_at_call 28; (with_reducible refine (C.out _ HB0.out (HK.out _ HB0.out)).mono ?_); rintro e w2 ⟨rfl, hb⟩; replace H3 := Lib.hid (H3.out.below hb H3.out.lt); replace HB0 := Lib.hid (HB0.out.trans (hb.mono HB0.out.size)); clear hb; (try unfold dkc); (try dsimp only); have q0 := H3.out.cell 0; have q1 := H3.out.cell 1; have q2 := H3.out.cell 2; have q3 := H3.out.cell 3; have q4 := H3.out.cell 4; have q5 := H3.out.cell 5; have q6 := H3.out.cell 6; have q7 := H3.out.cell 7; simp only [List.getElem?_toArray, List.getElem?_cons_zero, List.getElem?_cons_succ] at q0 q1 q2 q3 q4 q5 q6 q7; have v0 := H3.out.frozen 0; have v1 := H3.out.frozen 1; have v2 := H3.out.frozen 2; have v3 := H3.out.frozen 3; have v4 := H3.out.frozen 4; have v5 := H3.out.frozen 5; have v6 := H3.out.frozen 6; have v7 := H3.out.frozen 7) | fail)
  generalize hX9 : ((((((((w2.setCell ⟨w.heap.size + 2, 0, none⟩ (.slice a.a1 F.files.length a.c1)).setCell ⟨w.heap.size + 2, 1, none⟩ (.slice a.a2 F.dir.length a.c2)).setCell ⟨w.heap.size + 2, 2, none⟩ (.slice a.a3 F.safe.length a.c3)).setCell ⟨w.heap.size + 2, 3, none⟩ (.slice a.a4 F.chg.length a.c4)).setCell ⟨w.heap.size + 2, 4, none⟩ (.int .i64 F.cap)).setCell ⟨w.heap.size + 2, 5, none⟩ (.int .i64 F.ops)).setCell ⟨w.heap.size + 2, 6, none⟩ (.int .i64 F.armed)).setCell ⟨w.heap.size + 2, 7, none⟩ (.bool F.dead)) = X9
  obtain ⟨y1, y2⟩ := oset8 H3.out hX9
  have HB9 := HB0.out.trans (y2.below (fun k _ e => by omega) HB0.out.size)
  have x0 := y1.cell 0; have x1 := y1.cell 1; have x2 := y1.cell 2; have x3 := y1.cell 3; have x4 := y1.cell 4; have x5 := y1.cell 5; have x6 := y1.cell 6; have x7 := y1.cell 7; simp only [List.getElem?_toArray, List.getElem?_cons_zero, List.getElem?_cons_succ] at x0 x1 x2 x3 x4 x5 x6 x7
  refine bodyPost_ret (v := .tuple #[.agg #[.slice a.a1 F.files.length a.c1, .slice a.a2 F.dir.length a.c2, .slice a.a3 F.safe.length a.c3, .slice a.a4 F.chg.length a.c4, .int .i64 F.cap, .int .i64 F.ops, .int .i64 F.armed, .bool F.dead], .int .i64 m]) (by simp [results, Tryz.results8, go_sem, x0, x1, x2, x3, x4, x5, x6, x7]) rfl ?_
  exact ⟨a, rfl, HK0.out _ HB9, HB9, DkN.refl w _ a⟩
set_option maxRecDepth 100000 in
set_option maxHeartbeats 4000000 in
theorem law_rd_8 (hx : AcOk w w.heap.size ⟨8, n, s, t, dir, cuts, marks, cA, cc, mA, mc⟩) (hf : AcFew ⟨8, n, s, t, dir, cuts, marks, cA, cc, mA, mc⟩) : Calls Tryz.prog 8 #[.agg (dkc D a), .agg #[.int .i64 8, .int .i64 n, .string ⟨s.toArray⟩, .string ⟨t.toArray⟩, .int .i64 dir, .slice cA cuts.length cc, .slice mA marks.length mc]] w fun e w' => DPost a w w' e ((doffF D, 0)) := by
  have hs1 : s.length ≤ 100000 := by have := hf.1; dsimp only at this; omega
  have hs2 : t.length ≤ 100000 := by have := hf.2.1; dsimp only at this; omega
  have d1 : D.dir.length ≤ 1000000 := by have := hD.dir; omega
  have d3 : D.chg.length ≤ 1000000 := by have := hD.chg; omega
  have d4 : D.files.length ≤ 1000000 := by have := hD.files; omega
  have d5 : (D.file (D.find s)).2.length ≤ 1000000000 := by have := (hD.bnd.file (D.find s)).2; omega
  have d6 := hD.used_ (by omega)
  have d7 : D.safe.length ≤ 100000 := by have := hD.safe; omega
  have d8 : D.chg.length ≤ 100000 := by have := hD.chg; omega
  have o1 : 0 ≤ D.ops ∧ D.ops ≤ 1000000 := by have := hD.ops; omega
  have o2 : -9223372036854775808 ≤ D.armed ∧ D.armed < 9223372036854775808 := by have := hD.armed; omega
  have C := Lib.hid (fun W (hb : Below w.heap.size w W) (hW : DkMem W D a) => dref_off_any D a W)
  have HK : Hid (∀ W, Below w.heap.size w W → DkMem W D a) := Lib.hid fun W hb => hM.on hb
  have hb1 := (Below.refl w.heap.size w).alloc (Nat.le_refl _) (.cells #[.slice a.a1 D.files.length a.c1, .slice a.a2 D.dir.length a.c2, .slice a.a3 D.safe.length a.c3, .slice a.a4 D.chg.length a.c4, .int .i64 D.cap, .int .i64 D.ops, .int .i64 D.armed, .bool D.dead] 33)
  have hb2 := hb1.alloc hb1.size (.cells #[.int .i64 8, .int .i64 n, .string ⟨s.toArray⟩, .string ⟨t.toArray⟩, .int .i64 dir, .slice cA cuts.length cc, .slice mA marks.length mc] 43)
  have hb3 := hb2.alloc hb2.size (.cells #[.slice none 0 0, .slice none 0 0, .slice none 0 0, .slice none 0 0, .int .i64 0, .int .i64 0, .int .i64 0, .bool false] 33)
  have h3 := Blk.new ((w.alloc (.cells #[.slice a.a1 D.files.length a.c1, .slice a.a2 D.dir.length a.c2, .slice a.a3 D.safe.length a.c3, .slice a.a4 D.chg.length a.c4, .int .i64 D.cap, .int .i64 D.ops, .int .i64 D.armed, .bool D.dead] 33)).alloc (.cells #[.int .i64 8, .int .i64 n, .string ⟨s.toArray⟩, .string ⟨t.toArray⟩, .int .i64 dir, .slice cA cuts.length cc, .slice mA marks.length mc] 43)) 33 #[.slice none 0 0, .slice none 0 0, .slice none 0 0, .slice none 0 0, .int .i64 0, .int .i64 0, .int .i64 0, .bool false]
  simp only [World.size_alloc] at h3
  have H3 := Lib.hid h3
  have HB0 := Lib.hid hb3
  clear hb1 hb2 hb3 h3
  clear hM hD hx hf hs1 hs2 d1 d3 d4 d5 d6 d7 d8 o1 o2
  generalize cuts.length = k1 at *
  generalize marks.length = k2 at *
  have HK0 : Hid (∀ W, Below w.heap.size w W → DkMem W (doffF D) a) := Lib.hid fun W hb => (HK.out W hb).off_
  generalize doffF D = R at *
  obtain ⟨F, hF⟩ : ∃ F, R = F := ⟨_, rfl⟩
  subst hF
  unfold dkc at C ⊢
  go_enter Tryz.func8, Tryz.ntmps8
  go_wp2_with (first | (go_at_call 29; (with_reducible refine (C.out _ HB0.out (HK.out _ HB0.out)).mono ?_); rintro e w2 ⟨rfl, hb⟩; replace H3 := Lib.hid (H3.out.below hb H3.out.lt); replace HB0 := Lib.hid (HB0.out.trans (hb.mono HB0.out.size)); clear hb; (try unfold dkc); (try dsimp only); have q0 := H3.out.cell 0; have q1 := H3.out.cell 1; have q2 := H3.out.cell 2; have q3 := H3.out.cell 3; have q4 := H3.out.cell 4; have q5 := H3.out.cell 5; have q6 := H3.out.cell 6; have q7 := H3.out.cell 7; simp only [List.getElem?_toArray, List.getElem?_cons_zero, List.getElem?_cons_succ] at q0 q1 q2 q3 q4 q5 q6 q7; have v0 := H3.out.frozen 0; have v1 := H3.out.frozen 1; have v2 := H3.out.frozen 2; have v3 := H3.out.frozen 3; have v4 := H3.out.frozen 4; have v5 := H3.out.frozen 5; have v6 := H3.out.frozen 6; have v7 := H3.out.frozen 7) | fail)
  generalize hX9 : ((((((((w2.setCell ⟨w.heap.size + 2, 0, none⟩ (.slice a.a1 R.files.length a.c1)).setCell ⟨w.heap.size + 2, 1, none⟩ (.slice a.a2 R.dir.length a.c2)).setCell ⟨w.heap.size + 2, 2, none⟩ (.slice a.a3 R.safe.length a.c3)).setCell ⟨w.heap.size + 2, 3, none⟩ (.slice a.a4 R.chg.length a.c4)).setCell ⟨w.heap.size + 2, 4, none⟩ (.int .i64 R.cap)).setCell ⟨w.heap.size + 2, 5, none⟩ (.int .i64 R.ops)).setCell ⟨w.heap.size + 2, 6, none⟩ (.int .i64 R.armed)).setCell ⟨w.heap.size + 2, 7, none⟩ (.bool R.dead)) = X9
  obtain ⟨y1, y2⟩ := oset8 H3.out hX9
  have HB9 := HB0.out.trans (y2.below (fun k _ e => by omega) HB0.out.size)
  have x0 := y1.cell 0; have x1 := y1.cell 1; have x2 := y1.cell 2; have x3 := y1.cell 3; have x4 := y1.cell 4; have x5 := y1.cell 5; have x6 := y1.cell 6; have x7 := y1.cell 7; simp only [List.getElem?_toArray, List.getElem?_cons_zero, List.getElem?_cons_succ] at x0 x1 x2 x3 x4 x5 x6 x7
  refine bodyPost_ret (v := .tuple #[.agg #[.slice a.a1 R.files.length a.c1, .slice a.a2 R.dir.length a.c2, .slice a.a3 R.safe.length a.c3, .slice a.a4 R.chg.length a.c4, .int .i64 R.cap, .int .i64 R.ops, .int .i64 R.armed, .bool R.dead], .int .i64 0]) (by simp [results, Tryz.results8, go_sem, x0, x1, x2, x3, x4, x5, x6, x7]) rfl ?_
  exact ⟨a, rfl, HK0.out _ HB9, HB9, DkN.refl w _ a⟩
set_option maxRecDepth 100000 in
set_option maxHeartbeats 4000000 in
theorem law_rd_9 (hx : AcOk w w.heap.size ⟨9, n, s, t, dir, cuts, marks, cA, cc, mA, mc⟩) (hf : AcFew ⟨9, n, s, t, dir, cuts, marks, cA, cc, mA, mc⟩) : Calls Tryz.prog 8 #[.agg (dkc D a), .agg #[.int .i64 9, .int .i64 n, .string ⟨s.toArray⟩, .string ⟨t.toArray⟩, .int .i64 dir, .slice cA cuts.length cc, .slice mA marks.length mc]] w fun e w' => DPost a w w' e ((dbootF D dir cuts marks, 0)) := by
  have hs1 : s.length ≤ 100000 := by have := hf.1; dsimp only at this; omega
  have hs2 : t.length ≤ 100000 := by have := hf.2.1; dsimp only at this; omega
  have d1 : D.dir.length ≤ 1000000 := by have := hD.dir; omega
  have d3 : D.chg.length ≤ 1000000 := by have := hD.chg; omega
  have d4 : D.files.length ≤ 1000000 := by have := hD.files; omega
  have d5 : (D.file (D.find s)).2.length ≤ 1000000000 := by have := (hD.bnd.file (D.find s)).2; omega
  have d6 := hD.used_ (by omega)
  have d7 : D.safe.length ≤ 100000 := by have := hD.safe; omega
  have d8 : D.chg.length ≤ 100000 := by have := hD.chg; omega
  have o1 : 0 ≤ D.ops ∧ D.ops ≤ 1000000 := by have := hD.ops; omega
  have o2 : -9223372036854775808 ≤ D.armed ∧ D.armed < 9223372036854775808 := by have := hD.armed; omega
  have C := Lib.hid (fun W (hb : Below w.heap.size w W) (hW : DkMem W D a) => dref_boot_any D a dir cuts marks cA mA cuts.length cc marks.length mc W hW hD.wf d7 d8 d4 hD.bnd rfl (dReads_on hx.cuts hb) rfl (dReads_on hx.marks hb) (fun m hm => by have := hf.2.2.2 m hm; omega) ⟨by have := hx.m1; unfold maxLen at this; dsimp only at this; omega, by have := hx.m2; unfold maxLen at this; dsimp only at this; omega⟩)
  have HK : Hid (∀ W, Below w.heap.size w W → DkMem W D a) := Lib.hid fun W hb => hM.on hb
  have hb1 := (Below.refl w.heap.size w).alloc (Nat.le_refl _) (.cells #[.slice a.a1 D.files.length a.c1, .slice a.a2 D.dir.length a.c2, .slice a.a3 D.safe.length a.c3, .slice a.a4 D.chg.length a.c4, .int .i64 D.cap, .int .i64 D.ops, .int .i64 D.armed, .bool D.dead] 33)
  have hb2 := hb1.alloc hb1.size (.cells #[.int .i64 9, .int .i64 n, .string ⟨s.toArray⟩, .string ⟨t.toArray⟩, .int .i64 dir, .slice cA cuts.length cc, .slice mA marks.length mc] 43)
  have hb3 := hb2.alloc hb2.size (.cells #[.slice none 0 0, .slice none 0 0, .slice none 0 0, .slice none 0 0, .int .i64 0, .int .i64 0, .int .i64 0, .bool false] 33)
  have h3 := Blk.new ((w.alloc (.cells #[.slice a.a1 D.files.length a.c1, .slice a.a2 D.dir.length a.c2, .slice a.a3 D.safe.length a.c3, .slice a.a4 D.chg.length a.c4, .int .i64 D.cap, .int .i64 D.ops, .int .i64 D.armed, .bool D.dead] 33)).alloc (.cells #[.int .i64 9, .int .i64 n, .string ⟨s.toArray⟩, .string ⟨t.toArray⟩, .int .i64 dir, .slice cA cuts.length cc, .slice mA marks.length mc] 43)) 33 #[.slice none 0 0, .slice none 0 0, .slice none 0 0, .slice none 0 0, .int .i64 0, .int .i64 0, .int .i64 0, .bool false]
  simp only [World.size_alloc] at h3
  have H3 := Lib.hid h3
  have HB0 := Lib.hid hb3
  clear hb1 hb2 hb3 h3
  clear hM hD hx hf hs1 hs2 d1 d3 d4 d5 d6 d7 d8 o1 o2
  generalize cuts.length = k1 at *
  generalize marks.length = k2 at *
  generalize dbootF D dir cuts marks = F at *
  unfold dkc at C ⊢
  go_enter Tryz.func8, Tryz.ntmps8
  go_wp2_with (first | (go_at_call 30; (with_reducible refine (C.out _ HB0.out (HK.out _ HB0.out)).mono ?_); rintro e w2 ⟨a9, rfl, hm9, hb, hk9⟩; have HM9 := Lib.hid hm9; have HK9 := Lib.hid (hk9.mono (w := w) HB0.out.size (Nat.le_refl _)); replace H3 := Lib.hid (H3.out.below hb H3.out.lt); replace HB0 := Lib.hid (HB0.out.trans (hb.mono HB0.out.size)); clear hb hm9 hk9; (try unfold dkc); (try dsimp only); have q0 := H3.out.cell 0; have q1 := H3.out.cell 1; have q2 := H3.out.cell 2; have q3 := H3.out.cell 3; have q4 := H3.out.cell 4; have q5 := H3.out.cell 5; have q6 := H3.out.cell 6; have q7 := H3.out.cell 7; simp only [List.getElem?_toArray, List.getElem?_cons_zero, List.getElem?_cons_succ] at q0 q1 q2 q3 q4 q5 q6 q7; have v0 := H3.out.frozen 0; have v1 := H3.out.frozen 1; have v2 := H3.out.frozen 2; have v3 := H3.out.frozen 3; have v4 := H3.out.frozen 4; have v5 := H3.out.frozen 5; have v6 := H3.out.frozen 6; have v7 := H3.out.frozen 7) | fail)
  generalize hX9 : ((((((((w2.setCell ⟨w.heap.size + 2, 0, none⟩ (.slice a9.a1 F.files.length a9.c1)).setCell ⟨w.heap.size + 2, 1, none⟩ (.slice a9.a2 F.dir.length a9.c2)).setCell ⟨w.heap.size + 2, 2, none⟩ (.slice a9.a3 F.safe.length a9.c3)).setCell ⟨w.heap.size + 2, 3, none⟩ (.slice a9.a4 F.chg.length a9.c4)).setCell ⟨w.heap.size + 2, 4, none⟩ (.int .i64 F.cap)).setCell ⟨w.heap.size + 2, 5, none⟩ (.int .i64 F.ops)).setCell ⟨w.heap.size + 2, 6, none⟩ (.int .i64 F.armed)).setCell ⟨w.heap.size + 2, 7, none⟩ (.bool F.dead)) = X9
  obtain ⟨y1, y2⟩ := oset8 H3.out hX9
  have HB9 := HB0.out.trans (y2.below (fun k _ e => by omega) HB0.out.size)
  have x0 := y1.cell 0; have x1 := y1.cell 1; have x2 := y1.cell 2; have x3 := y1.cell 3; have x4 := y1.cell 4; have x5 := y1.cell 5; have x6 := y1.cell 6; have x7 := y1.cell 7; simp only [List.getElem?_toArray, List.getElem?_cons_zero, List.getElem?_cons_succ] at x0 x1 x2 x3 x4 x5 x6 x7
  refine bodyPost_ret (v := .tuple #[.agg #[.slice a9.a1 F.files.length a9.c1, .slice a9.a2 F.dir.length a9.c2, .slice a9.a3 F.safe.length a9.c3, .slice a9.a4 F.chg.length a9.c4, .int .i64 F.cap, .int .i64 F.ops, .int .i64 F.armed, .bool F.dead], .int .i64 0]) (by simp [results, Tryz.results8, go_sem, x0, x1, x2, x3, x4, x5, x6, x7]) rfl ?_
  exact ⟨a9, rfl, HM9.out.off H3.out (by simp) y2, HB9, HK9.out.late y2.size⟩
set_option maxRecDepth 100000 in
set_option maxHeartbeats 4000000 in
theorem law_rd_no (kind : Int) (hk : ∀ j : Nat, j ≤ 9 → kind ≠ (j : Int)) : Calls Tryz.prog 8 #[.agg (dkc D a), .agg #[.int .i64 kind, .int .i64 n, .string ⟨s.toArray⟩, .string ⟨t.toArray⟩, .int .i64 dir, .slice cA cuts.length cc, .slice mA marks.length mc]] w fun e w' => DPost a w w' e (D, 0) := by
  have k0 : ¬ kind = 0 := hk 0 (by omega)
  have k1 : ¬ kind = 1 := hk 1 (by omega)
  have k2 : ¬ kind = 2 := hk 2 (by omega)
  have k3 : ¬ kind = 3 := hk 3 (by omega)
  have k4 : ¬ kind = 4 := hk 4 (by omega)
  have k5 : ¬ kind = 5 := hk 5 (by omega)
  have k6 : ¬ kind = 6 := hk 6 (by omega)
  have k7 : ¬ kind = 7 := hk 7 (by omega)
  have k8 : ¬ kind = 8 := hk 8 (by omega)
  have k9 : ¬ kind = 9 := hk 9 (by omega)
  have q0 : (kind == 0) = false := by rw [beq_eq_false_iff_ne]; exact k0
  have q1 : (kind == 1) = false := by rw [beq_eq_false_iff_ne]; exact k1
  have q2 : (kind == 2) = false := by rw [beq_eq_false_iff_ne]; exact k2
  have q3 : (kind == 3) = false := by rw [beq_eq_false_iff_ne]; exact k3
  have q4 : (kind == 4) = false := by rw [beq_eq_false_iff_ne]; exact k4
  have q5 : (kind == 5) = false := by rw [beq_eq_false_iff_ne]; exact k5
  have q6 : (kind == 6) = false := by rw [beq_eq_false_iff_ne]; exact k6
  have q7 : (kind == 7) = false := by rw [beq_eq_false_iff_ne]; exact k7
  have q8 : (kind == 8) = false := by rw [beq_eq_false_iff_ne]; exact k8
  have q9 : (kind == 9) = false := by rw [beq_eq_false_iff_ne]; exact k9
  have HM : Hid (∀ W, Below w.heap.size w W → DkMem W D a) := Lib.hid fun W hb => hM.on hb
  have e3 := hD
  clear e3
  clear hM hD hk
  generalize cuts.length = k1 at *
  generalize marks.length = k2 at *
  unfold dkc
  go_enter Tryz.func8, Tryz.ntmps8
  go_wp2
  refine bodyPost_ret (v := .tuple #[.agg #[.slice a.a1 D.files.length a.c1, .slice a.a2 D.dir.length a.c2, .slice a.a3 D.safe.length a.c3, .slice a.a4 D.chg.length a.c4, .int .i64 D.cap, .int .i64 D.ops, .int .i64 D.armed, .bool D.dead], .int .i64 0]) (by simp [results, Tryz.results8, go_sem]) rfl ?_
  exact ⟨a, rfl, HM.out _ (by go_grown), by go_grown, DkN.refl w _ a⟩
end
theorem law_rd_any {D : Dk} {a : DAd} (x : Ac) (w : World) (hM : DkMem w D a) (hD : DSm 1000 D) (hx : AcOk w w.heap.size x) (hf : AcFew x) :
    Calls Tryz.prog 8 #[.agg (dkc D a), .agg (acf x).toArray] w fun e w' => DPost a w w' e (dDoF D x) := by
  obtain ⟨kind, n, s, t, dir, cuts, marks, cA, cc, mA, mc⟩ := x
  unfold dDoF
  dsimp only
  by_cases k0 : kind = 0
  · subst k0
    rw [if_pos rfl]
    exact law_rd_0 n s t dir cuts marks cA cc mA mc w hM hD hx hf
  rw [if_neg k0]
  by_cases k1 : kind = 1
  · subst k1
    rw [if_pos rfl]
    exact law_rd_1 n s t dir cuts marks cA cc mA mc w hM hD hx hf
  rw [if_neg k1]
  by_cases k2 : kind = 2
  · subst k2
    rw [if_pos rfl]
    exact law_rd_2 n s t dir cuts marks cA cc mA mc w hM hD hx hf
  rw [if_neg k2]
  by_cases k3 : kind = 3
  · subst k3
    rw [if_pos rfl]
    exact law_rd_3 n s t dir cuts marks cA cc mA mc w hM hD hx hf
  rw [if_neg k3]
  by_cases k4 : kind = 4
  · subst k4
    rw [if_pos rfl]
    exact law_rd_4 n s t dir cuts marks cA cc mA mc w hM hD hx hf
  rw [if_neg k4]
  by_cases k5 : kind = 5
  · subst k5
    rw [if_pos rfl]
    exact law_rd_5 n s t dir cuts marks cA cc mA mc w hM hD hx hf
  rw [if_neg k5]
  by_cases k6 : kind = 6
  · subst k6
    rw [if_pos rfl]
    exact law_rd_6 n s t dir cuts marks cA cc mA mc w hM hD hx hf
  rw [if_neg k6]
  by_cases k7 : kind = 7
  · subst k7
    rw [if_pos rfl]
    exact law_rd_7 n s t dir cuts marks cA cc mA mc w hM hD hx hf
  rw [if_neg k7]
  by_cases k8 : kind = 8
  · subst k8
    rw [if_pos rfl]
    exact law_rd_8 n s t dir cuts marks cA cc mA mc w hM hD hx hf
  rw [if_neg k8]
  by_cases k9 : kind = 9
  · subst k9
    rw [if_pos rfl]
    exact law_rd_9 n s t dir cuts marks cA cc mA mc w hM hD hx hf
  rw [if_neg k9]
  refine law_rd_no n s t dir cuts marks cA cc mA mc w hM hD kind fun j hj => ?_
  match j, hj with
  | 0, _ => exact k0
  | 1, _ => exact k1
  | 2, _ => exact k2
  | 3, _ => exact k3
  | 4, _ => exact k4
  | 5, _ => exact k5
  | 6, _ => exact k6
  | 7, _ => exact k7
  | 8, _ => exact k8
  | 9, _ => exact k9
end Go.Proofs.YtgoahcmgpjacjaaGreat
