/-
  Layer 20: the law's Do, over the contracts (ahead of the code's landing).
-/
import Derived.Test.YtgoahcmgpjacjaaGreatDisX
namespace Go.Proofs.YtgoahcmgpjacjaaGreat
set_option linter.unusedSimpArgs false
set_option linter.unusedVariables false
open Go.ChangeShapes Go.WideShapes Go.ChangeAt Go.RowKit Go.Joins Go.Deep
theorem DOp.from {w w1 w2 : World} {S : Nat → Prop} {g : Nat} {D : Dk} (hb : Below w.heap.size w w1) (h : DOp w1 w2 S g D) : DOp w w2 S g D := by
  obtain ⟨h1, S', h2, h3⟩ := h
  refine ⟨(touch_below hb (Nat.le_refl _)).trans h1, S', h2, fun k hk => ?_⟩
  rcases h3 k hk with h4 | h4
  · exact .inl h4
  · exact .inr (Nat.le_trans hb.size h4)
theorem DOp.same {w w2 : World} {S : Nat → Prop} {g : Nat} {D : Dk} (hb : Below w.heap.size w w2) (h : DR w S g D) : DOp w w2 S g D :=
  ⟨touch_below hb (Nat.le_refl _), S, h.keep (fun k hk => hb.block k (h.lt k hk)), fun k hk => .inl hk⟩
section
variable {D : Dk} {S : Nat → Prop} {g B : Nat} (n : Int) (s t : List UInt8) (dir : Int) (cuts : List Int) (marks : List (List UInt8)) (cA : Option Addr) (cc : Nat) (mA : Option Addr) (mc : Nat) (w : World) (h : DR w S g D) (hD : DSm 1000 D) (hB : ∀ k, S k → B ≤ k) (hBw : B ≤ w.heap.size)
include h hD hB hBw
set_option maxRecDepth 100000 in
set_option maxHeartbeats 4000000 in
theorem law_do_0 (hx : AcOk w B ⟨0, n, s, t, dir, cuts, marks, cA, cc, mA, mc⟩) (hf : AcFew ⟨0, n, s, t, dir, cuts, marks, cA, cc, mA, mc⟩) : Calls Tryz.prog 9 #[.pointer (some ⟨g, 0, none⟩), .agg #[.int .i64 0, .int .i64 n, .string ⟨s.toArray⟩, .string ⟨t.toArray⟩, .int .i64 dir, .slice cA cuts.length cc, .slice mA marks.length mc]] w fun e w' => e = .returned (.int .i64 (dcreateF D s).2) ∧ DOp w w' S g (dcreateF D s).1 := by
  have hs1 : s.length ≤ 100000 := by have := hf.1; dsimp only at this; omega
  have hs2 : t.length ≤ 100000 := by have := hf.2.1; dsimp only at this; omega
  have C := Lib.hid (fun W (hW : DR W S g D) => p_dcreate_any W hW hD s (by omega))
  have HK : Hid (∀ W, Below w.heap.size w W → DR W S g D) := Lib.hid fun W hb => h.keep fun k hk => hb.block k (h.lt k hk)
  have e1 := hB
  have e2 := hBw
  clear e1 e2
  have HB0 := Lib.hid ((Below.refl w.heap.size w).alloc (Nat.le_refl _) (.cells #[.int .i64 0, .int .i64 n, .string ⟨s.toArray⟩, .string ⟨t.toArray⟩, .int .i64 dir, .slice cA cuts.length cc, .slice mA marks.length mc] 43))
  clear h hD hB hBw hx hf hs1 hs2
  try dsimp only at C ⊢
  generalize cuts.length = c1 at *
  generalize marks.length = c2 at *
  generalize dcreateF D s = R at *
  go_enter Tryz.func9, Tryz.ntmps9
  go_wp2_with (first | (go_at_call 11; (with_reducible refine (C.out _ (HK.out _ HB0.out)).mono ?_); rintro e w2 ⟨rfl, ho⟩; have HO := Lib.hid (DOp.from HB0.out ho); clear ho) | fail)
  go_ret
  exact ⟨rfl, HO.out⟩
set_option maxRecDepth 100000 in
set_option maxHeartbeats 4000000 in
theorem law_do_1 (hx : AcOk w B ⟨1, n, s, t, dir, cuts, marks, cA, cc, mA, mc⟩) (hf : AcFew ⟨1, n, s, t, dir, cuts, marks, cA, cc, mA, mc⟩) : Calls Tryz.prog 9 #[.pointer (some ⟨g, 0, none⟩), .agg #[.int .i64 1, .int .i64 n, .string ⟨s.toArray⟩, .string ⟨t.toArray⟩, .int .i64 dir, .slice cA cuts.length cc, .slice mA marks.length mc]] w fun e w' => e = .returned (.int .i64 (dappF D s t).2) ∧ DOp w w' S g (dappF D s t).1 := by
  have hs1 : s.length ≤ 100000 := by have := hf.1; dsimp only at this; omega
  have hs2 : t.length ≤ 100000 := by have := hf.2.1; dsimp only at this; omega
  have C := Lib.hid (fun W (hW : DR W S g D) => p_dapp_any W hW hD s t (by omega) (by omega))
  have HK : Hid (∀ W, Below w.heap.size w W → DR W S g D) := Lib.hid fun W hb => h.keep fun k hk => hb.block k (h.lt k hk)
  have e1 := hB
  have e2 := hBw
  clear e1 e2
  have HB0 := Lib.hid ((Below.refl w.heap.size w).alloc (Nat.le_refl _) (.cells #[.int .i64 1, .int .i64 n, .string ⟨s.toArray⟩, .string ⟨t.toArray⟩, .int .i64 dir, .slice cA cuts.length cc, .slice mA marks.length mc] 43))
  clear h hD hB hBw hx hf hs1 hs2
  try dsimp only at C ⊢
  generalize cuts.length = c1 at *
  generalize marks.length = c2 at *
  generalize dappF D s t = R at *
  go_enter Tryz.func9, Tryz.ntmps9
  go_wp2_with (first | (go_at_call 12; (with_reducible refine (C.out _ (HK.out _ HB0.out)).mono ?_); rintro e w2 ⟨rfl, ho⟩; have HO := Lib.hid (DOp.from HB0.out ho); clear ho) | fail)
  go_ret
  exact ⟨rfl, HO.out⟩
set_option maxRecDepth 100000 in
set_option maxHeartbeats 4000000 in
theorem law_do_2 (hx : AcOk w B ⟨2, n, s, t, dir, cuts, marks, cA, cc, mA, mc⟩) (hf : AcFew ⟨2, n, s, t, dir, cuts, marks, cA, cc, mA, mc⟩) : Calls Tryz.prog 9 #[.pointer (some ⟨g, 0, none⟩), .agg #[.int .i64 2, .int .i64 n, .string ⟨s.toArray⟩, .string ⟨t.toArray⟩, .int .i64 dir, .slice cA cuts.length cc, .slice mA marks.length mc]] w fun e w' => e = .returned (.int .i64 (dsyncF D s).2) ∧ DOp w w' S g (dsyncF D s).1 := by
  have hs1 : s.length ≤ 100000 := by have := hf.1; dsimp only at this; omega
  have hs2 : t.length ≤ 100000 := by have := hf.2.1; dsimp only at this; omega
  have C := Lib.hid (fun W (hW : DR W S g D) => p_dsync_any W hW hD s (by omega))
  have HK : Hid (∀ W, Below w.heap.size w W → DR W S g D) := Lib.hid fun W hb => h.keep fun k hk => hb.block k (h.lt k hk)
  have e1 := hB
  have e2 := hBw
  clear e1 e2
  have HB0 := Lib.hid ((Below.refl w.heap.size w).alloc (Nat.le_refl _) (.cells #[.int .i64 2, .int .i64 n, .string ⟨s.toArray⟩, .string ⟨t.toArray⟩, .int .i64 dir, .slice cA cuts.length cc, .slice mA marks.length mc] 43))
  clear h hD hB hBw hx hf hs1 hs2
  try dsimp only at C ⊢
  generalize cuts.length = c1 at *
  generalize marks.length = c2 at *
  generalize dsyncF D s = R at *
  go_enter Tryz.func9, Tryz.ntmps9
  go_wp2_with (first | (go_at_call 13; (with_reducible refine (C.out _ (HK.out _ HB0.out)).mono ?_); rintro e w2 ⟨rfl, ho⟩; have HO := Lib.hid (DOp.from HB0.out ho); clear ho) | fail)
  go_ret
  exact ⟨rfl, HO.out⟩
set_option maxRecDepth 100000 in
set_option maxHeartbeats 4000000 in
theorem law_do_3 (hx : AcOk w B ⟨3, n, s, t, dir, cuts, marks, cA, cc, mA, mc⟩) (hf : AcFew ⟨3, n, s, t, dir, cuts, marks, cA, cc, mA, mc⟩) : Calls Tryz.prog 9 #[.pointer (some ⟨g, 0, none⟩), .agg #[.int .i64 3, .int .i64 n, .string ⟨s.toArray⟩, .string ⟨t.toArray⟩, .int .i64 dir, .slice cA cuts.length cc, .slice mA marks.length mc]] w fun e w' => e = .returned (.int .i64 (dcutF D s n).2) ∧ DOp w w' S g (dcutF D s n).1 := by
  have hs1 : s.length ≤ 100000 := by have := hf.1; dsimp only at this; omega
  have hs2 : t.length ≤ 100000 := by have := hf.2.1; dsimp only at this; omega
  have C := Lib.hid (fun W (hW : DR W S g D) => p_dcut_any W hW hD s n (by omega))
  have HK : Hid (∀ W, Below w.heap.size w W → DR W S g D) := Lib.hid fun W hb => h.keep fun k hk => hb.block k (h.lt k hk)
  have e1 := hB
  have e2 := hBw
  clear e1 e2
  have HB0 := Lib.hid ((Below.refl w.heap.size w).alloc (Nat.le_refl _) (.cells #[.int .i64 3, .int .i64 n, .string ⟨s.toArray⟩, .string ⟨t.toArray⟩, .int .i64 dir, .slice cA cuts.length cc, .slice mA marks.length mc] 43))
  clear h hD hB hBw hx hf hs1 hs2
  try dsimp only at C ⊢
  generalize cuts.length = c1 at *
  generalize marks.length = c2 at *
  generalize dcutF D s n = R at *
  go_enter Tryz.func9, Tryz.ntmps9
  go_wp2_with (first | (go_at_call 31; (with_reducible refine (C.out _ (HK.out _ HB0.out)).mono ?_); rintro e w2 ⟨rfl, ho⟩; have HO := Lib.hid (DOp.from HB0.out ho); clear ho) | fail)
  go_ret
  exact ⟨rfl, HO.out⟩
set_option maxRecDepth 100000 in
set_option maxHeartbeats 4000000 in
theorem law_do_4 (hx : AcOk w B ⟨4, n, s, t, dir, cuts, marks, cA, cc, mA, mc⟩) (hf : AcFew ⟨4, n, s, t, dir, cuts, marks, cA, cc, mA, mc⟩) : Calls Tryz.prog 9 #[.pointer (some ⟨g, 0, none⟩), .agg #[.int .i64 4, .int .i64 n, .string ⟨s.toArray⟩, .string ⟨t.toArray⟩, .int .i64 dir, .slice cA cuts.length cc, .slice mA marks.length mc]] w fun e w' => e = .returned (.int .i64 (drenF D s t).2) ∧ DOp w w' S g (drenF D s t).1 := by
  have hs1 : s.length ≤ 100000 := by have := hf.1; dsimp only at this; omega
  have hs2 : t.length ≤ 100000 := by have := hf.2.1; dsimp only at this; omega
  have C := Lib.hid (fun W (hW : DR W S g D) => p_dren_any W hW hD s t (by omega) (by omega))
  have HK : Hid (∀ W, Below w.heap.size w W → DR W S g D) := Lib.hid fun W hb => h.keep fun k hk => hb.block k (h.lt k hk)
  have e1 := hB
  have e2 := hBw
  clear e1 e2
  have HB0 := Lib.hid ((Below.refl w.heap.size w).alloc (Nat.le_refl _) (.cells #[.int .i64 4, .int .i64 n, .string ⟨s.toArray⟩, .string ⟨t.toArray⟩, .int .i64 dir, .slice cA cuts.length cc, .slice mA marks.length mc] 43))
  clear h hD hB hBw hx hf hs1 hs2
  try dsimp only at C ⊢
  generalize cuts.length = c1 at *
  generalize marks.length = c2 at *
  generalize drenF D s t = R at *
  go_enter Tryz.func9, Tryz.ntmps9
  go_wp2_with (first | (go_at_call 32; (with_reducible refine (C.out _ (HK.out _ HB0.out)).mono ?_); rintro e w2 ⟨rfl, ho⟩; have HO := Lib.hid (DOp.from HB0.out ho); clear ho) | fail)
  go_ret
  exact ⟨rfl, HO.out⟩
set_option maxRecDepth 100000 in
set_option maxHeartbeats 4000000 in
theorem law_do_5 (hx : AcOk w B ⟨5, n, s, t, dir, cuts, marks, cA, cc, mA, mc⟩) (hf : AcFew ⟨5, n, s, t, dir, cuts, marks, cA, cc, mA, mc⟩) : Calls Tryz.prog 9 #[.pointer (some ⟨g, 0, none⟩), .agg #[.int .i64 5, .int .i64 n, .string ⟨s.toArray⟩, .string ⟨t.toArray⟩, .int .i64 dir, .slice cA cuts.length cc, .slice mA marks.length mc]] w fun e w' => e = .returned (.int .i64 (dremF D s).2) ∧ DOp w w' S g (dremF D s).1 := by
  have hs1 : s.length ≤ 100000 := by have := hf.1; dsimp only at this; omega
  have hs2 : t.length ≤ 100000 := by have := hf.2.1; dsimp only at this; omega
  have C := Lib.hid (fun W (hW : DR W S g D) => p_drem_any W hW hD s (by omega))
  have HK : Hid (∀ W, Below w.heap.size w W → DR W S g D) := Lib.hid fun W hb => h.keep fun k hk => hb.block k (h.lt k hk)
  have e1 := hB
  have e2 := hBw
  clear e1 e2
  have HB0 := Lib.hid ((Below.refl w.heap.size w).alloc (Nat.le_refl _) (.cells #[.int .i64 5, .int .i64 n, .string ⟨s.toArray⟩, .string ⟨t.toArray⟩, .int .i64 dir, .slice cA cuts.length cc, .slice mA marks.length mc] 43))
  clear h hD hB hBw hx hf hs1 hs2
  try dsimp only at C ⊢
  generalize cuts.length = c1 at *
  generalize marks.length = c2 at *
  generalize dremF D s = R at *
  go_enter Tryz.func9, Tryz.ntmps9
  go_wp2_with (first | (go_at_call 33; (with_reducible refine (C.out _ (HK.out _ HB0.out)).mono ?_); rintro e w2 ⟨rfl, ho⟩; have HO := Lib.hid (DOp.from HB0.out ho); clear ho) | fail)
  go_ret
  exact ⟨rfl, HO.out⟩
set_option maxRecDepth 100000 in
set_option maxHeartbeats 4000000 in
theorem law_do_6 (hx : AcOk w B ⟨6, n, s, t, dir, cuts, marks, cA, cc, mA, mc⟩) (hf : AcFew ⟨6, n, s, t, dir, cuts, marks, cA, cc, mA, mc⟩) : Calls Tryz.prog 9 #[.pointer (some ⟨g, 0, none⟩), .agg #[.int .i64 6, .int .i64 n, .string ⟨s.toArray⟩, .string ⟨t.toArray⟩, .int .i64 dir, .slice cA cuts.length cc, .slice mA marks.length mc]] w fun e w' => e = .returned (.int .i64 (ddirF D).2) ∧ DOp w w' S g (ddirF D).1 := by
  have hs1 : s.length ≤ 100000 := by have := hf.1; dsimp only at this; omega
  have hs2 : t.length ≤ 100000 := by have := hf.2.1; dsimp only at this; omega
  have C := Lib.hid (fun W (hW : DR W S g D) => p_ddirs_any W hW hD)
  have HK : Hid (∀ W, Below w.heap.size w W → DR W S g D) := Lib.hid fun W hb => h.keep fun k hk => hb.block k (h.lt k hk)
  have e1 := hB
  have e2 := hBw
  clear e1 e2
  have HB0 := Lib.hid ((Below.refl w.heap.size w).alloc (Nat.le_refl _) (.cells #[.int .i64 6, .int .i64 n, .string ⟨s.toArray⟩, .string ⟨t.toArray⟩, .int .i64 dir, .slice cA cuts.length cc, .slice mA marks.length mc] 43))
  clear h hD hB hBw hx hf hs1 hs2
  try dsimp only at C ⊢
  generalize cuts.length = c1 at *
  generalize marks.length = c2 at *
  generalize ddirF D = R at *
  go_enter Tryz.func9, Tryz.ntmps9
  go_wp2_with (first | (go_at_call 14; (with_reducible refine (C.out _ (HK.out _ HB0.out)).mono ?_); rintro e w2 ⟨rfl, ho⟩; have HO := Lib.hid (DOp.from HB0.out ho); clear ho) | fail)
  go_ret
  exact ⟨rfl, HO.out⟩
set_option maxRecDepth 100000 in
set_option maxHeartbeats 4000000 in
theorem law_do_7 (hx : AcOk w B ⟨7, n, s, t, dir, cuts, marks, cA, cc, mA, mc⟩) (hf : AcFew ⟨7, n, s, t, dir, cuts, marks, cA, cc, mA, mc⟩) : Calls Tryz.prog 9 #[.pointer (some ⟨g, 0, none⟩), .agg #[.int .i64 7, .int .i64 n, .string ⟨s.toArray⟩, .string ⟨t.toArray⟩, .int .i64 dir, .slice cA cuts.length cc, .slice mA marks.length mc]] w fun e w' => e = .returned (.int .i64 (darmF D n).2) ∧ DOp w w' S g (darmF D n).1 := by
  have hs1 : s.length ≤ 100000 := by have := hf.1; dsimp only at this; omega
  have hs2 : t.length ≤ 100000 := by have := hf.2.1; dsimp only at this; omega
  have C := Lib.hid (fun W (hW : DR W S g D) => p_darm_any W hW hD n hx.num)
  have HK : Hid (∀ W, Below w.heap.size w W → DR W S g D) := Lib.hid fun W hb => h.keep fun k hk => hb.block k (h.lt k hk)
  have e1 := hB
  have e2 := hBw
  clear e1 e2
  have HB0 := Lib.hid ((Below.refl w.heap.size w).alloc (Nat.le_refl _) (.cells #[.int .i64 7, .int .i64 n, .string ⟨s.toArray⟩, .string ⟨t.toArray⟩, .int .i64 dir, .slice cA cuts.length cc, .slice mA marks.length mc] 43))
  clear h hD hB hBw hx hf hs1 hs2
  try dsimp only at C ⊢
  generalize cuts.length = c1 at *
  generalize marks.length = c2 at *
  generalize darmF D n = R at *
  go_enter Tryz.func9, Tryz.ntmps9
  go_wp2_with (first | (go_at_call 34; (with_reducible refine (C.out _ (HK.out _ HB0.out)).mono ?_); rintro e w2 ⟨rfl, ho⟩; have HO := Lib.hid (DOp.from HB0.out ho); clear ho) | fail)
  go_ret
  exact ⟨rfl, HO.out⟩
set_option maxRecDepth 100000 in
set_option maxHeartbeats 4000000 in
theorem law_do_8 (hx : AcOk w B ⟨8, n, s, t, dir, cuts, marks, cA, cc, mA, mc⟩) (hf : AcFew ⟨8, n, s, t, dir, cuts, marks, cA, cc, mA, mc⟩) : Calls Tryz.prog 9 #[.pointer (some ⟨g, 0, none⟩), .agg #[.int .i64 8, .int .i64 n, .string ⟨s.toArray⟩, .string ⟨t.toArray⟩, .int .i64 dir, .slice cA cuts.length cc, .slice mA marks.length mc]] w fun e w' => e = .returned (.int .i64 ((doffF D, 0)).2) ∧ DOp w w' S g ((doffF D, 0)).1 := by
  have hs1 : s.length ≤ 100000 := by have := hf.1; dsimp only at this; omega
  have hs2 : t.length ≤ 100000 := by have := hf.2.1; dsimp only at this; omega
  have C := Lib.hid (fun W (hW : DR W S g D) => p_doff_any W hW hD)
  have HK : Hid (∀ W, Below w.heap.size w W → DR W S g D) := Lib.hid fun W hb => h.keep fun k hk => hb.block k (h.lt k hk)
  have e1 := hB
  have e2 := hBw
  clear e1 e2
  have HB0 := Lib.hid ((Below.refl w.heap.size w).alloc (Nat.le_refl _) (.cells #[.int .i64 8, .int .i64 n, .string ⟨s.toArray⟩, .string ⟨t.toArray⟩, .int .i64 dir, .slice cA cuts.length cc, .slice mA marks.length mc] 43))
  clear h hD hB hBw hx hf hs1 hs2
  try dsimp only at C ⊢
  generalize cuts.length = c1 at *
  generalize marks.length = c2 at *
  generalize doffF D = R at *
  go_enter Tryz.func9, Tryz.ntmps9
  go_wp2_with (first | (go_at_call 35; (with_reducible refine (C.out _ (HK.out _ HB0.out)).mono ?_); rintro e w2 ⟨rfl, ho⟩; have HO := Lib.hid (DOp.from HB0.out ho); clear ho) | fail)
  go_ret
  exact ⟨rfl, HO.out⟩
set_option maxRecDepth 100000 in
set_option maxHeartbeats 4000000 in
theorem law_do_9 (hx : AcOk w B ⟨9, n, s, t, dir, cuts, marks, cA, cc, mA, mc⟩) (hf : AcFew ⟨9, n, s, t, dir, cuts, marks, cA, cc, mA, mc⟩) : Calls Tryz.prog 9 #[.pointer (some ⟨g, 0, none⟩), .agg #[.int .i64 9, .int .i64 n, .string ⟨s.toArray⟩, .string ⟨t.toArray⟩, .int .i64 dir, .slice cA cuts.length cc, .slice mA marks.length mc]] w fun e w' => e = .returned (.int .i64 ((dbootF D dir cuts marks, 0)).2) ∧ DOp w w' S g ((dbootF D dir cuts marks, 0)).1 := by
  have hs1 : s.length ≤ 100000 := by have := hf.1; dsimp only at this; omega
  have hs2 : t.length ≤ 100000 := by have := hf.2.1; dsimp only at this; omega
  have C := Lib.hid (fun W (hW : DR W S g D) (hb : Below w.heap.size w W) => p_dboot_any W hW hD ⟨9, n, s, t, dir, cuts, marks, cA, cc, mA, mc⟩ ((hx.on (hb.mono hBw)).more (Nat.le_trans hBw hb.size)) (hx.far hB) (fun m hm => by have := hf.2.2.2 m hm; omega))
  have HK : Hid (∀ W, Below w.heap.size w W → DR W S g D) := Lib.hid fun W hb => h.keep fun k hk => hb.block k (h.lt k hk)
  have e1 := hB
  have e2 := hBw
  clear e1 e2
  have HB0 := Lib.hid ((Below.refl w.heap.size w).alloc (Nat.le_refl _) (.cells #[.int .i64 9, .int .i64 n, .string ⟨s.toArray⟩, .string ⟨t.toArray⟩, .int .i64 dir, .slice cA cuts.length cc, .slice mA marks.length mc] 43))
  clear h hD hB hBw hx hf hs1 hs2
  dsimp only [chf] at C ⊢
  generalize dbootF D dir cuts marks = R at *
  go_enter Tryz.func9, Tryz.ntmps9
  go_wp2_with (first | (go_at_call 17; (with_reducible refine (C.out _ (HK.out _ HB0.out) HB0.out).mono ?_); rintro e w2 ⟨rfl, ho⟩; have HO := Lib.hid (DOp.from HB0.out ho); clear ho) | fail)
  go_ret
  exact ⟨rfl, HO.out⟩
set_option maxRecDepth 100000 in
set_option maxHeartbeats 4000000 in
theorem law_do_no (kind : Int) (hk : ∀ j : Nat, j ≤ 9 → kind ≠ (j : Int)) : Calls Tryz.prog 9 #[.pointer (some ⟨g, 0, none⟩), .agg #[.int .i64 kind, .int .i64 n, .string ⟨s.toArray⟩, .string ⟨t.toArray⟩, .int .i64 dir, .slice cA cuts.length cc, .slice mA marks.length mc]] w fun e w' => e = .returned (.int .i64 0) ∧ DOp w w' S g D := by
  have HB0 := Lib.hid ((Below.refl w.heap.size w).alloc (Nat.le_refl _) (.cells #[.int .i64 kind, .int .i64 n, .string ⟨s.toArray⟩, .string ⟨t.toArray⟩, .int .i64 dir, .slice cA cuts.length cc, .slice mA marks.length mc] 43))
  have k0 : ¬ kind = 0 := hk 0 (by omega)
  have k1 : ¬ kind = 1 := hk 1 (by omega)
  have k2 : ¬ kind = 2 := hk 2 (by omega)
  have k3 : ¬ kind = 3 := hk 3 (by omega)
  have k4 : ¬ kind = 4 := hk 4 (by omega)
  have k5 : ¬ kind = 5 := hk 5 (by omega)
  have k6 : ¬ kind = 6 := hk 6 (by omega)
  have k7 : ¬ kind = 7 := hk 7 (by omega)
  have k8 : ¬ kind = 8 := hk 8 (by omega)
  have k9 : ¬ kind = 9 := hk 9 (by omega)
  have q0 : (kind == 0) = false := by rw [beq_eq_false_iff_ne]; exact k0
  have q1 : (kind == 1) = false := by rw [beq_eq_false_iff_ne]; exact k1
  have q2 : (kind == 2) = false := by rw [beq_eq_false_iff_ne]; exact k2
  have q3 : (kind == 3) = false := by rw [beq_eq_false_iff_ne]; exact k3
  have q4 : (kind == 4) = false := by rw [beq_eq_false_iff_ne]; exact k4
  have q5 : (kind == 5) = false := by rw [beq_eq_false_iff_ne]; exact k5
  have q6 : (kind == 6) = false := by rw [beq_eq_false_iff_ne]; exact k6
  have q7 : (kind == 7) = false := by rw [beq_eq_false_iff_ne]; exact k7
  have q8 : (kind == 8) = false := by rw [beq_eq_false_iff_ne]; exact k8
  have q9 : (kind == 9) = false := by rw [beq_eq_false_iff_ne]; exact k9
  have HO := Lib.hid (DOp.same HB0.out h)
  have e1 := hB
  have e2 := hBw
  have e3 := hD
  clear e1 e2 e3
  clear h hD hB hBw hk
  generalize cuts.length = c1 at *
  generalize marks.length = c2 at *
  go_enter Tryz.func9, Tryz.ntmps9
  go_wp2
  go_ret
  exact ⟨rfl, HO.out⟩
end
theorem law_do_any {D : Dk} {S : Nat → Prop} {g B : Nat} (x : Ac) (w : World) (h : DR w S g D) (hD : DSm 1000 D) (hB : ∀ k, S k → B ≤ k) (hBw : B ≤ w.heap.size) (hx : AcOk w B x) (hf : AcFew x) :
    Calls Tryz.prog 9 #[.pointer (some ⟨g, 0, none⟩), .agg (acf x).toArray] w fun e w' => e = .returned (.int .i64 (dDoF D x).2) ∧ DOp w w' S g (dDoF D x).1 := by
  obtain ⟨kind, n, s, t, dir, cuts, marks, cA, cc, mA, mc⟩ := x
  unfold dDoF
  dsimp only
  by_cases k0 : kind = 0
  · subst k0
    rw [if_pos rfl]
    exact law_do_0 n s t dir cuts marks cA cc mA mc w h hD hB hBw hx hf
  rw [if_neg k0]
  by_cases k1 : kind = 1
  · subst k1
    rw [if_pos rfl]
    exact law_do_1 n s t dir cuts marks cA cc mA mc w h hD hB hBw hx hf
  rw [if_neg k1]
  by_cases k2 : kind = 2
  · subst k2
    rw [if_pos rfl]
    exact law_do_2 n s t dir cuts marks cA cc mA mc w h hD hB hBw hx hf
  rw [if_neg k2]
  by_cases k3 : kind = 3
  · subst k3
    rw [if_pos rfl]
    exact law_do_3 n s t dir cuts marks cA cc mA mc w h hD hB hBw hx hf
  rw [if_neg k3]
  by_cases k4 : kind = 4
  · subst k4
    rw [if_pos rfl]
    exact law_do_4 n s t dir cuts marks cA cc mA mc w h hD hB hBw hx hf
  rw [if_neg k4]
  by_cases k5 : kind = 5
  · subst k5
    rw [if_pos rfl]
    exact law_do_5 n s t dir cuts marks cA cc mA mc w h hD hB hBw hx hf
  rw [if_neg k5]
  by_cases k6 : kind = 6
  · subst k6
    rw [if_pos rfl]
    exact law_do_6 n s t dir cuts marks cA cc mA mc w h hD hB hBw hx hf
  rw [if_neg k6]
  by_cases k7 : kind = 7
  · subst k7
    rw [if_pos rfl]
    exact law_do_7 n s t dir cuts marks cA cc mA mc w h hD hB hBw hx hf
  rw [if_neg k7]
  by_cases k8 : kind = 8
  · subst k8
    rw [if_pos rfl]
    exact law_do_8 n s t dir cuts marks cA cc mA mc w h hD hB hBw hx hf
  rw [if_neg k8]
  by_cases k9 : kind = 9
  · subst k9
    rw [if_pos rfl]
    exact law_do_9 n s t dir cuts marks cA cc mA mc w h hD hB hBw hx hf
  rw [if_neg k9]
  refine law_do_no n s t dir cuts marks cA cc mA mc w h hD hB hBw kind fun j hj => ?_
  match j, hj with
  | 0, _ => exact k0
  | 1, _ => exact k1
  | 2, _ => exact k2
  | 3, _ => exact k3
  | 4, _ => exact k4
  | 5, _ => exact k5
  | 6, _ => exact k6
  | 7, _ => exact k7
  | 8, _ => exact k8
  | 9, _ => exact k9
end Go.Proofs.YtgoahcmgpjacjaaGreat
