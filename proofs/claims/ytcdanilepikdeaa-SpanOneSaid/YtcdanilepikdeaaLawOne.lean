/-
  For any range r and any number n: the program's Has, Empty, Size and Trim answer as the document's own do, and the layer's probe holds (SpanOne). No condition.
-/
import Derived.Test.YtcdanilepikdeaaHeld
namespace Go.Proofs.Ytcdanilepikdeaa
set_option linter.unusedSimpArgs false
set_option linter.unusedVariables false
open Go.ChangeShapes Go.WideShapes Go.ChangeAt Go.RowKit Go.Joins Go.Deep

set_option maxHeartbeats 2000000 in
theorem one_walk (a b n : Int) (w : World) (ha : -9223372036854775808 ≤ a) (ha' : a ≤ 9223372036854775807) (hb : -9223372036854775808 ≤ b) (hb' : b ≤ 9223372036854775807) :
    Calls Try.prog 3 #[.agg #[.int .i64 a, .int .i64 b], .int .i64 n] w fun e w' => e = .returned (.bool true) ∧ Below w.heap.size w w' := by
  go_enter Try.func3, Try.ntmps3
  go_wp2_with fail
  have h0 : Held w (w.alloc (.cells #[.int .i64 a, .int .i64 b] 23)) w.heap.size w.heap.size 23 (.int .i64 a) (.int .i64 b) (.int .i64 a) (.int .i64 b) :=
    ⟨by omega, by omega, by go_grown, Blk.new _ _ _, Blk.new _ _ _⟩
  go_region_held3 (fun w' => w'.cell? ⟨w.heap.size, 0, none⟩ = some (.int .i64 a) ∧ w'.cell? ⟨w.heap.size, 1, none⟩ = some (.int .i64 b) ∧ w'.cell? ⟨w.heap.size, 0, none⟩ = some (.int .i64 a) ∧ w'.cell? ⟨w.heap.size, 1, none⟩ = some (.int .i64 b) ∧ Held w w' w.heap.size w.heap.size 23 (.int .i64 a) (.int .i64 b) (.int .i64 a) (.int .i64 b))
    (first | exact Held.next (by assumption) hb1 | exact (Held.drew h0).conds)
    (first
      | (go_at_call 7; refine (has_any _ _ _ _).mono ?_; rintro e w' ⟨rfl, hb1⟩)
      | (go_at_call 8; refine (refHas_any _ _ _ _).mono ?_; rintro e w' ⟨rfl, hb1⟩)
      | (go_at_call 9; refine (empty_any _ _ _).mono ?_; rintro e w' ⟨rfl, hb1⟩)
      | (go_at_call 10; refine (refEmpty_any _ _ _).mono ?_; rintro e w' ⟨rfl, hb1⟩)
      | (go_at_call 11; refine (size_any _ _ _ ha ha' hb hb').mono ?_; rintro e w' ⟨rfl, hb1⟩)
      | (go_at_call 12; refine (refSize_any _ _ _ ha ha' hb hb').mono ?_; rintro e w' ⟨rfl, hb1⟩)
      | (go_at_call 13; refine (trim_any (a, b) _ _).mono ?_; rintro e w' ⟨rfl, hb1⟩)
      | (go_at_call 14; refine (refTrim_any _ _ _ _ hb').mono ?_; rintro e w' ⟨rfl, hb1⟩)
      | (go_at_call 15; refine (awake_any _).mono ?_; rintro e w' ⟨rfl, hb1⟩))
  go_wp2
  go_ret
  exact ⟨rfl, Held.last (by assumption)⟩

namespace SpanOne
set_option maxRecDepth 100000 in
theorem lifted (os : Os) (started : os.Started) (H : Type) (enc : TypeId × Value → H) :
    ReturnsInHanded {} Try.checked os 3 .any (Rows.spanOneSpec.pre6 enc Try.prog Try.f3 Rows.spanOneRow.domain false) (Rows.spanOneSpec.post enc Try.prog Try.f3 false true false false) := by
  refine law_sized (C := Try.checked) (tb := 4) own started (by kernel_rfl) Try.func3
    (ChangeSpec.witness6 (enc := enc) (C := Try.checked) false ⟨#[], #[.agg #[.int .i64 0, .int .i64 0], .int .i64 0], []⟩ 8 (by kernel_rfl) (by kernel_rfl) (by kernel_rfl) (by kernel_rfl))
    laid (by kernel_rfl) rfl (by kernel_rfl) Try.underlying4 (by intro ds h; match ds, h with | [_, _], _ => rfl) ?_
  intro W base args ds p hval0 hA0 hlt _
  have hval : ∀ (j : Nat) t v, Try.f3.params[j]? = some t → args[j]? = some v → Value.okWide Try.prog W .any base t v := hval0
  have hA : DataW.TrodAll enc Try.prog W 0 (fun _ => true) true Try.f3.params.toList args.toList ds p := hA0
  rw [Try.params3] at hA hval
  obtain ⟨v0, v1, d0, d1, p0, p1, rfl, rfl, rfl, h0, h1⟩ := trodAll_two hA
  obtain ⟨a, b, rfl, wa, wb⟩ := open_pair Try.underlying23 (by kernel_rfl) rangeCells Try.underlying3 Try.underlying3 (hval 0 23 v0 rfl rfl) h0
  obtain ⟨n, rfl, rfl, rfl, wn⟩ := open_int Try.underlying3 (hval 1 3 v1 rfl rfl) h1
  exact one_walk a b n W (bounds_i64 wa).1 (bounds_i64 wa).2 (bounds_i64 wb).1 (bounds_i64 wb).2

theorem holds : Rows.SpanOneSaid :=
  OpenClaim.holds_of_wide 3 Try.f3 rfl rfl rfl rfl rfl rfl rfl ⟨rfl, rfl, rfl, rfl, rfl⟩ rfl rfl rfl rfl rfl (by kernel_rfl) Try.func3 (by kernel_rfl)
    (of_decide_eq_true (by kernel_rfl)) (by unfold Func.isWrapper; first | (rw [if_pos (by decide +kernel)]; kernel_rfl) | (rw [if_neg (by decide +kernel)]; exact ⟨rfl, rfl⟩))
    (fun os started H enc _ => lifted os started H enc)
end SpanOne
end Go.Proofs.Ytcdanilepikdeaa
