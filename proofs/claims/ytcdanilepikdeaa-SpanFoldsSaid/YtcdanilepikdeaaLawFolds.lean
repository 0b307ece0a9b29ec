/-
  For any ranges l and any two ranges a, b: the program's Both and Cover of l, Meets and Within of a and b answer as the document's own do, and the layer's probe holds (SpanFolds). No condition.
-/
import Derived.Test.YtcdanilepikdeaaHeld
namespace Go.Proofs.Ytcdanilepikdeaa
set_option linter.unusedSimpArgs false
set_option linter.unusedVariables false
open Go.ChangeShapes Go.WideShapes Go.ChangeAt Go.RowKit Go.Joins Go.Deep

set_option maxHeartbeats 400000 in
theorem folds_long (A : Option Addr) (n c : Nat) (a b : Int × Int) (w : World) (hn : 1000 < n) :
    Calls Try.prog 4 #[.slice A n c, .agg #[.int .i64 a.1, .int .i64 a.2], .agg #[.int .i64 b.1, .int .i64 b.2]] w fun e w' => e = .returned (.bool true) ∧ Below w.heap.size w w' := by
  have hn' : (1000 : Int) < (n : Int) := by omega
  go_enter Try.func4, Try.ntmps4
  go_wp2_with fail
  refine (awake_any _).mono ?_
  rintro e w1 ⟨rfl, hb1⟩
  have hb : Below w.heap.size w w1 := (by go_grown : Below w.heap.size w ((w.alloc (.cells #[.int .i64 a.1, .int .i64 a.2] 23)).alloc (.cells #[.int .i64 b.1, .int .i64 b.2] 23))).trans (hb1.mono (by simp; omega))
  go_wp2
  go_ret
  exact ⟨rfl, hb⟩

set_option maxHeartbeats 4000000 in
theorem folds_walk (A : Option Addr) (n c : Nat) (l : List (Int × Int)) (a b : Int × Int) (w : World) (hl : l.length = n) (hn : ¬ 1000 < n) (hc : n ≤ c) (hm : c ≤ maxLen) (hr : Reads w w.heap.size 2 A n (pairs .i64 l)) :
    Calls Try.prog 4 #[.slice A n c, .agg #[.int .i64 a.1, .int .i64 a.2], .agg #[.int .i64 b.1, .int .i64 b.2]] w fun e w' => e = .returned (.bool true) ∧ Below w.heap.size w w' := by
  have hn' : (n : Int) ≤ (1000 : Int) := by omega
  have Hl := Lib.hid hl
  have Hr := Lib.hid hr
  have Hm := Lib.hid hm
  clear hl hr hn hm
  go_enter Try.func4, Try.ntmps4
  go_wp2_with fail
  have h0 : Held w ((w.alloc (.cells #[.int .i64 a.1, .int .i64 a.2] 23)).alloc (.cells #[.int .i64 b.1, .int .i64 b.2] 23)) w.heap.size (w.heap.size + 1) 23 (.int .i64 a.1) (.int .i64 a.2) (.int .i64 b.1) (.int .i64 b.2) :=
    ⟨by omega, by omega, by go_grown, (Blk.new _ _ _).alloc _, by simpa using Blk.new (w.alloc _) _ _⟩
  go_region_held3 (fun w' => w'.cell? ⟨w.heap.size, 0, none⟩ = some (.int .i64 a.1) ∧ w'.cell? ⟨w.heap.size, 1, none⟩ = some (.int .i64 a.2) ∧ w'.cell? ⟨w.heap.size + 1, 0, none⟩ = some (.int .i64 b.1) ∧ w'.cell? ⟨w.heap.size + 1, 1, none⟩ = some (.int .i64 b.2) ∧ Held w w' (w.heap.size) (w.heap.size + 1) 23 (.int .i64 a.1) (.int .i64 a.2) (.int .i64 b.1) (.int .i64 b.2))
    (first | exact Held.next (by assumption) hb1 | exact (Held.drew h0).conds)
    (first
      | (go_at_call 16; refine (both_any _ _ _ l _ Hl.out hc Hm.out (Held.reads Hr.out (by assumption))).mono ?_; rintro e w' ⟨rfl, hb1⟩)
      | (go_at_call 17; refine (refBoth_any _ _ _ l _ Hl.out hc Hm.out (Held.reads Hr.out (by assumption))).mono ?_; rintro e w' ⟨rfl, hb1⟩)
      | (go_at_call 18; refine (cover_any _ _ _ l _ Hl.out hc Hm.out (Held.reads Hr.out (by assumption))).mono ?_; rintro e w' ⟨rfl, hb1⟩)
      | (go_at_call 19; refine (refCover_any _ _ _ l _ Hl.out hc Hm.out (Held.reads Hr.out (by assumption))).mono ?_; rintro e w' ⟨rfl, hb1⟩)
      | (go_at_call 20; refine (meets_any _ _ _).mono ?_; rintro e w' ⟨rfl, hb1⟩)
      | (go_at_call 21; refine (refMeets_any _ _ _).mono ?_; rintro e w' ⟨rfl, hb1⟩)
      | (go_at_call 22; refine (within_any _ _ _).mono ?_; rintro e w' ⟨rfl, hb1⟩)
      | (go_at_call 23; refine (refWithin_any _ _ _).mono ?_; rintro e w' ⟨rfl, hb1⟩)
      | (go_at_call 15; refine (awake_any _).mono ?_; rintro e w' ⟨rfl, hb1⟩))
  go_wp2
  go_ret
  exact ⟨rfl, Held.last (by assumption)⟩

namespace SpanFolds
set_option maxRecDepth 100000 in
theorem lifted (os : Os) (started : os.Started) (H : Type) (enc : TypeId × Value → H) :
    ReturnsInHanded {} Try.checked os 4 .any (Rows.spanFoldsSpec.pre6 enc Try.prog Try.f4 Rows.spanFoldsRow.domain false) (Rows.spanFoldsSpec.post enc Try.prog Try.f4 false true false false) := by
  refine law_sized (C := Try.checked) (tb := 4) own started (by kernel_rfl) Try.func4
    (ChangeSpec.witness6 (enc := enc) (C := Try.checked) false ⟨#[], #[.slice none 0 0, .agg #[.int .i64 0, .int .i64 0], .agg #[.int .i64 0, .int .i64 0]], []⟩ 8 (by kernel_rfl) (by kernel_rfl) (by kernel_rfl) (by kernel_rfl))
    laid (by kernel_rfl) rfl (by kernel_rfl) Try.underlying4 (by intro ds h; match ds, h with | [_, _, _], _ => rfl) ?_
  intro W base args ds p hval0 hA0 hlt _
  have hval : ∀ (j : Nat) t v, Try.f4.params[j]? = some t → args[j]? = some v → Value.okWide Try.prog W .any base t v := hval0
  have hA : DataW.TrodAll enc Try.prog W 0 (fun _ => true) true Try.f4.params.toList args.toList ds p := hA0
  rw [Try.params4] at hA hval
  obtain ⟨v0, v1, v2, d0, d1, d2, p0, p1, p2, rfl, rfl, rfl, h0, h1, h2⟩ := trodAll_three hA
  obtain ⟨A, n, c, l, rfl, hl, hc, hm, hr, _⟩ := open_pair_slice Try.underlying29 Try.underlying23 rangeCells rfl rfl intCells intCells Try.underlying3 Try.underlying3 (hval 0 29 v0 rfl rfl) h0
  obtain ⟨a, a', rfl, wa, wa'⟩ := open_pair Try.underlying23 (by kernel_rfl) rangeCells Try.underlying3 Try.underlying3 (hval 1 23 v1 rfl rfl) h1
  obtain ⟨b, b', rfl, wb, wb'⟩ := open_pair Try.underlying23 (by kernel_rfl) rangeCells Try.underlying3 Try.underlying3 (hval 2 23 v2 rfl rfl) h2
  by_cases hn : 1000 < n
  · exact folds_long A n c (a, a') (b, b') W hn
  · exact folds_walk A n c l (a, a') (b, b') W hl hn hc hm hr

theorem holds : Rows.SpanFoldsSaid :=
  OpenClaim.holds_of_wide 4 Try.f4 rfl rfl rfl rfl rfl rfl rfl ⟨rfl, rfl, rfl, rfl, rfl⟩ rfl rfl rfl rfl rfl (by kernel_rfl) Try.func4 (by kernel_rfl)
    (of_decide_eq_true (by kernel_rfl)) (by unfold Func.isWrapper; first | (rw [if_pos (by decide +kernel)]; kernel_rfl) | (rw [if_neg (by decide +kernel)]; exact ⟨rfl, rfl⟩))
    (fun os started H enc _ => lifted os started H enc)
end SpanFolds
end Go.Proofs.Ytcdanilepikdeaa
