/-
  Layer 20: the law's Do on no disk (ahead of the code's landing).
-/
import Derived.Test.YtgoahcmgpjacjaaDisX
namespace Go.Proofs.Ytgoahcmgpjacjaa
set_option linter.unusedSimpArgs false
set_option linter.unusedVariables false
open Go.ChangeShapes Go.WideShapes Go.ChangeAt Go.RowKit Go.Joins Go.Deep
theorem DNone.on {w w' : World} {v : Value} (h : DNone w v) (hb : Below w.heap.size w w') : DNone w' v := by
  rcases h with h | ⟨g, h1, h2⟩
  · exact .inl h
  · exact .inr ⟨g, h1, h2.below hb h2.lt⟩
section
variable {v : Value} (n : Int) (s t : List UInt8) (dir : Int) (cuts : List Int) (marks : List (List UInt8)) (cA : Option Addr) (cc : Nat) (mA : Option Addr) (mc : Nat) (w : World) (h : DNone w v)
include h
set_option maxRecDepth 100000 in
set_option maxHeartbeats 4000000 in
theorem law_no_0 : Calls Try.prog 9 #[v, .agg #[.int .i64 0, .int .i64 n, .string ⟨s.toArray⟩, .string ⟨t.toArray⟩, .int .i64 dir, .slice cA cuts.length cc, .slice mA marks.length mc]] w fun e w' => e = .returned (.int .i64 1) ∧ Below w.heap.size w w' := by
  have C := Lib.hid (fun W (hW : DNone W v) => p_dcreate_none W hW s)
  have HK : Hid (∀ W, Below w.heap.size w W → DNone W v) := Lib.hid fun W hb => h.on hb
  have HB0 := Lib.hid ((Below.refl w.heap.size w).alloc (Nat.le_refl _) (.cells #[.int .i64 0, .int .i64 n, .string ⟨s.toArray⟩, .string ⟨t.toArray⟩, .int .i64 dir, .slice cA cuts.length cc, .slice mA marks.length mc] 29))
  clear h
  try dsimp only at C ⊢
  generalize cuts.length = c1 at *
  generalize marks.length = c2 at *
  go_enter Try.func9, Try.ntmps9
  go_wp2_with (first | (go_at_call 24; (with_reducible refine (C.out _ (HK.out _ HB0.out)).mono ?_); rintro e w2 ⟨rfl, ho⟩; have HO := Lib.hid (HB0.out.trans (ho.mono HB0.out.size)); clear ho) | fail)
  go_ret
  exact ⟨rfl, HO.out⟩
set_option maxRecDepth 100000 in
set_option maxHeartbeats 4000000 in
theorem law_no_1 : Calls Try.prog 9 #[v, .agg #[.int .i64 1, .int .i64 n, .string ⟨s.toArray⟩, .string ⟨t.toArray⟩, .int .i64 dir, .slice cA cuts.length cc, .slice mA marks.length mc]] w fun e w' => e = .returned (.int .i64 1) ∧ Below w.heap.size w w' := by
  have C := Lib.hid (fun W (hW : DNone W v) => p_dapp_none W hW s t)
  have HK : Hid (∀ W, Below w.heap.size w W → DNone W v) := Lib.hid fun W hb => h.on hb
  have HB0 := Lib.hid ((Below.refl w.heap.size w).alloc (Nat.le_refl _) (.cells #[.int .i64 1, .int .i64 n, .string ⟨s.toArray⟩, .string ⟨t.toArray⟩, .int .i64 dir, .slice cA cuts.length cc, .slice mA marks.length mc] 29))
  clear h
  try dsimp only at C ⊢
  generalize cuts.length = c1 at *
  generalize marks.length = c2 at *
  go_enter Try.func9, Try.ntmps9
  go_wp2_with (first | (go_at_call 25; (with_reducible refine (C.out _ (HK.out _ HB0.out)).mono ?_); rintro e w2 ⟨rfl, ho⟩; have HO := Lib.hid (HB0.out.trans (ho.mono HB0.out.size)); clear ho) | fail)
  go_ret
  exact ⟨rfl, HO.out⟩
set_option maxRecDepth 100000 in
set_option maxHeartbeats 4000000 in
theorem law_no_2 : Calls Try.prog 9 #[v, .agg #[.int .i64 2, .int .i64 n, .string ⟨s.toArray⟩, .string ⟨t.toArray⟩, .int .i64 dir, .slice cA cuts.length cc, .slice mA marks.length mc]] w fun e w' => e = .returned (.int .i64 1) ∧ Below w.heap.size w w' := by
  have C := Lib.hid (fun W (hW : DNone W v) => p_dsync_none W hW s)
  have HK : Hid (∀ W, Below w.heap.size w W → DNone W v) := Lib.hid fun W hb => h.on hb
  have HB0 := Lib.hid ((Below.refl w.heap.size w).alloc (Nat.le_refl _) (.cells #[.int .i64 2, .int .i64 n, .string ⟨s.toArray⟩, .string ⟨t.toArray⟩, .int .i64 dir, .slice cA cuts.length cc, .slice mA marks.length mc] 29))
  clear h
  try dsimp only at C ⊢
  generalize cuts.length = c1 at *
  generalize marks.length = c2 at *
  go_enter Try.func9, Try.ntmps9
  go_wp2_with (first | (go_at_call 11; (with_reducible refine (C.out _ (HK.out _ HB0.out)).mono ?_); rintro e w2 ⟨rfl, ho⟩; have HO := Lib.hid (HB0.out.trans (ho.mono HB0.out.size)); clear ho) | fail)
  go_ret
  exact ⟨rfl, HO.out⟩
set_option maxRecDepth 100000 in
set_option maxHeartbeats 4000000 in
theorem law_no_3 : Calls Try.prog 9 #[v, .agg #[.int .i64 3, .int .i64 n, .string ⟨s.toArray⟩, .string ⟨t.toArray⟩, .int .i64 dir, .slice cA cuts.length cc, .slice mA marks.length mc]] w fun e w' => e = .returned (.int .i64 1) ∧ Below w.heap.size w w' := by
  have C := Lib.hid (fun W (hW : DNone W v) => p_dcut_none W hW s n)
  have HK : Hid (∀ W, Below w.heap.size w W → DNone W v) := Lib.hid fun W hb => h.on hb
  have HB0 := Lib.hid ((Below.refl w.heap.size w).alloc (Nat.le_refl _) (.cells #[.int .i64 3, .int .i64 n, .string ⟨s.toArray⟩, .string ⟨t.toArray⟩, .int .i64 dir, .slice cA cuts.length cc, .slice mA marks.length mc] 29))
  clear h
  try dsimp only at C ⊢
  generalize cuts.length = c1 at *
  generalize marks.length = c2 at *
  go_enter Try.func9, Try.ntmps9
  go_wp2_with (first | (go_at_call 26; (with_reducible refine (C.out _ (HK.out _ HB0.out)).mono ?_); rintro e w2 ⟨rfl, ho⟩; have HO := Lib.hid (HB0.out.trans (ho.mono HB0.out.size)); clear ho) | fail)
  go_ret
  exact ⟨rfl, HO.out⟩
set_option maxRecDepth 100000 in
set_option maxHeartbeats 4000000 in
theorem law_no_4 : Calls Try.prog 9 #[v, .agg #[.int .i64 4, .int .i64 n, .string ⟨s.toArray⟩, .string ⟨t.toArray⟩, .int .i64 dir, .slice cA cuts.length cc, .slice mA marks.length mc]] w fun e w' => e = .returned (.int .i64 1) ∧ Below w.heap.size w w' := by
  have C := Lib.hid (fun W (hW : DNone W v) => p_dren_none W hW s t)
  have HK : Hid (∀ W, Below w.heap.size w W → DNone W v) := Lib.hid fun W hb => h.on hb
  have HB0 := Lib.hid ((Below.refl w.heap.size w).alloc (Nat.le_refl _) (.cells #[.int .i64 4, .int .i64 n, .string ⟨s.toArray⟩, .string ⟨t.toArray⟩, .int .i64 dir, .slice cA cuts.length cc, .slice mA marks.length mc] 29))
  clear h
  try dsimp only at C ⊢
  generalize cuts.length = c1 at *
  generalize marks.length = c2 at *
  go_enter Try.func9, Try.ntmps9
  go_wp2_with (first | (go_at_call 27; (with_reducible refine (C.out _ (HK.out _ HB0.out)).mono ?_); rintro e w2 ⟨rfl, ho⟩; have HO := Lib.hid (HB0.out.trans (ho.mono HB0.out.size)); clear ho) | fail)
  go_ret
  exact ⟨rfl, HO.out⟩
set_option maxRecDepth 100000 in
set_option maxHeartbeats 4000000 in
theorem law_no_5 : Calls Try.prog 9 #[v, .agg #[.int .i64 5, .int .i64 n, .string ⟨s.toArray⟩, .string ⟨t.toArray⟩, .int .i64 dir, .slice cA cuts.length cc, .slice mA marks.length mc]] w fun e w' => e = .returned (.int .i64 1) ∧ Below w.heap.size w w' := by
  have C := Lib.hid (fun W (hW : DNone W v) => p_drem_none W hW s)
  have HK : Hid (∀ W, Below w.heap.size w W → DNone W v) := Lib.hid fun W hb => h.on hb
  have HB0 := Lib.hid ((Below.refl w.heap.size w).alloc (Nat.le_refl _) (.cells #[.int .i64 5, .int .i64 n, .string ⟨s.toArray⟩, .string ⟨t.toArray⟩, .int .i64 dir, .slice cA cuts.length cc, .slice mA marks.length mc] 29))
  clear h
  try dsimp only at C ⊢
  generalize cuts.length = c1 at *
  generalize marks.length = c2 at *
  go_enter Try.func9, Try.ntmps9
  go_wp2_with (first | (go_at_call 28; (with_reducible refine (C.out _ (HK.out _ HB0.out)).mono ?_); rintro e w2 ⟨rfl, ho⟩; have HO := Lib.hid (HB0.out.trans (ho.mono HB0.out.size)); clear ho) | fail)
  go_ret
  exact ⟨rfl, HO.out⟩
set_option maxRecDepth 100000 in
set_option maxHeartbeats 4000000 in
theorem law_no_6 : Calls Try.prog 9 #[v, .agg #[.int .i64 6, .int .i64 n, .string ⟨s.toArray⟩, .string ⟨t.toArray⟩, .int .i64 dir, .slice cA cuts.length cc, .slice mA marks.length mc]] w fun e w' => e = .returned (.int .i64 1) ∧ Below w.heap.size w w' := by
  have C := Lib.hid (fun W (hW : DNone W v) => p_ddirs_none W hW)
  have HK : Hid (∀ W, Below w.heap.size w W → DNone W v) := Lib.hid fun W hb => h.on hb
  have HB0 := Lib.hid ((Below.refl w.heap.size w).alloc (Nat.le_refl _) (.cells #[.int .i64 6, .int .i64 n, .string ⟨s.toArray⟩, .string ⟨t.toArray⟩, .int .i64 dir, .slice cA cuts.length cc, .slice mA marks.length mc] 29))
  clear h
  try dsimp only at C ⊢
  generalize cuts.length = c1 at *
  generalize marks.length = c2 at *
  go_enter Try.func9, Try.ntmps9
  go_wp2_with (first | (go_at_call 12; (with_reducible refine (C.out _ (HK.out _ HB0.out)).mono ?_); rintro e w2 ⟨rfl, ho⟩; have HO := Lib.hid (HB0.out.trans (ho.mono HB0.out.size)); clear ho) | fail)
  go_ret
  exact ⟨rfl, HO.out⟩
set_option maxRecDepth 100000 in
set_option maxHeartbeats 4000000 in
theorem law_no_7 : Calls Try.prog 9 #[v, .agg #[.int .i64 7, .int .i64 n, .string ⟨s.toArray⟩, .string ⟨t.toArray⟩, .int .i64 dir, .slice cA cuts.length cc, .slice mA marks.length mc]] w fun e w' => e = .returned (.int .i64 1) ∧ Below w.heap.size w w' := by
  have C := Lib.hid (fun W (hW : DNone W v) => p_darm_none W hW n)
  have HK : Hid (∀ W, Below w.heap.size w W → DNone W v) := Lib.hid fun W hb => h.on hb
  have HB0 := Lib.hid ((Below.refl w.heap.size w).alloc (Nat.le_refl _) (.cells #[.int .i64 7, .int .i64 n, .string ⟨s.toArray⟩, .string ⟨t.toArray⟩, .int .i64 dir, .slice cA cuts.length cc, .slice mA marks.length mc] 29))
  clear h
  try dsimp only at C ⊢
  generalize cuts.length = c1 at *
  generalize marks.length = c2 at *
  go_enter Try.func9, Try.ntmps9
  go_wp2_with (first | (go_at_call 29; (with_reducible refine (C.out _ (HK.out _ HB0.out)).mono ?_); rintro e w2 ⟨rfl, ho⟩; have HO := Lib.hid (HB0.out.trans (ho.mono HB0.out.size)); clear ho) | fail)
  go_ret
  exact ⟨rfl, HO.out⟩
set_option maxRecDepth 100000 in
set_option maxHeartbeats 4000000 in
theorem law_no_8 : Calls Try.prog 9 #[v, .agg #[.int .i64 8, .int .i64 n, .string ⟨s.toArray⟩, .string ⟨t.toArray⟩, .int .i64 dir, .slice cA cuts.length cc, .slice mA marks.length mc]] w fun e w' => e = .returned (.int .i64 1) ∧ Below w.heap.size w w' := by
  have C := Lib.hid (fun W (hW : DNone W v) => p_doff_none W hW)
  have HK : Hid (∀ W, Below w.heap.size w W → DNone W v) := Lib.hid fun W hb => h.on hb
  have HB0 := Lib.hid ((Below.refl w.heap.size w).alloc (Nat.le_refl _) (.cells #[.int .i64 8, .int .i64 n, .string ⟨s.toArray⟩, .string ⟨t.toArray⟩, .int .i64 dir, .slice cA cuts.length cc, .slice mA marks.length mc] 29))
  clear h
  try dsimp only at C ⊢
  generalize cuts.length = c1 at *
  generalize marks.length = c2 at *
  go_enter Try.func9, Try.ntmps9
  go_wp2_with (first | (go_at_call 19; (with_reducible refine (C.out _ (HK.out _ HB0.out)).mono ?_); rintro e w2 ⟨rfl, ho⟩; have HO := Lib.hid (HB0.out.trans (ho.mono HB0.out.size)); clear ho) | fail)
  go_ret
  exact ⟨rfl, HO.out⟩
set_option maxRecDepth 100000 in
set_option maxHeartbeats 4000000 in
theorem law_no_9 : Calls Try.prog 9 #[v, .agg #[.int .i64 9, .int .i64 n, .string ⟨s.toArray⟩, .string ⟨t.toArray⟩, .int .i64 dir, .slice cA cuts.length cc, .slice mA marks.length mc]] w fun e w' => e = .returned (.int .i64 1) ∧ Below w.heap.size w w' := by
  have C := Lib.hid (fun W (hW : DNone W v) => p_dboot_none W hW ⟨9, n, s, t, dir, cuts, marks, cA, cc, mA, mc⟩)
  have HK : Hid (∀ W, Below w.heap.size w W → DNone W v) := Lib.hid fun W hb => h.on hb
  have HB0 := Lib.hid ((Below.refl w.heap.size w).alloc (Nat.le_refl _) (.cells #[.int .i64 9, .int .i64 n, .string ⟨s.toArray⟩, .string ⟨t.toArray⟩, .int .i64 dir, .slice cA cuts.length cc, .slice mA marks.length mc] 29))
  clear h
  dsimp only [chf] at C ⊢
  go_enter Try.func9, Try.ntmps9
  go_wp2_with (first | (go_at_call 14; (with_reducible refine (C.out _ (HK.out _ HB0.out)).mono ?_); rintro e w2 ⟨rfl, ho⟩; have HO := Lib.hid (HB0.out.trans (ho.mono HB0.out.size)); clear ho) | fail)
  go_ret
  exact ⟨rfl, HO.out⟩
end
theorem law_no_any {v : Value} (x : Ac) (w : World) (h : DNone w v) (hk : 0 ≤ x.kind ∧ x.kind ≤ 9) :
    Calls Try.prog 9 #[v, .agg (acf x).toArray] w fun e w' => e = .returned (.int .i64 1) ∧ Below w.heap.size w w' := by
  obtain ⟨kind, n, s, t, dir, cuts, marks, cA, cc, mA, mc⟩ := x
  dsimp only at hk
  have hkk : kind = 0 ∨ kind = 1 ∨ kind = 2 ∨ kind = 3 ∨ kind = 4 ∨ kind = 5 ∨ kind = 6 ∨ kind = 7 ∨ kind = 8 ∨ kind = 9 := by omega
  rcases hkk with rfl | rfl | rfl | rfl | rfl | rfl | rfl | rfl | rfl | rfl
  · exact law_no_0 n s t dir cuts marks cA cc mA mc w h
  · exact law_no_1 n s t dir cuts marks cA cc mA mc w h
  · exact law_no_2 n s t dir cuts marks cA cc mA mc w h
  · exact law_no_3 n s t dir cuts marks cA cc mA mc w h
  · exact law_no_4 n s t dir cuts marks cA cc mA mc w h
  · exact law_no_5 n s t dir cuts marks cA cc mA mc w h
  · exact law_no_6 n s t dir cuts marks cA cc mA mc w h
  · exact law_no_7 n s t dir cuts marks cA cc mA mc w h
  · exact law_no_8 n s t dir cuts marks cA cc mA mc w h
  · exact law_no_9 n s t dir cuts marks cA cc mA mc w h
end Go.Proofs.Ytgoahcmgpjacjaa
