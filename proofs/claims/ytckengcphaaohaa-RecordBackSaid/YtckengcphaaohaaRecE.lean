/-
  Layer 15, the program's: behind; two records held against each other as wholes.
-/
import Derived.Test.YtckengcphaaohaaRecB
import Derived.Laws.StructEq
namespace Go.Proofs.Ytckengcphaaohaa
set_option linter.unusedSimpArgs false
set_option linter.unusedVariables false
open Go.ChangeShapes Go.WideShapes Go.ChangeAt Go.RowKit Go.Joins Go.Deep
theorem rrec_equal (x y x' y' : Int) (d d' : List UInt8) (w : World) : (Op.equalIn 10000 23 (.agg #[.int .i64 x, .int .i64 y, .string ⟨d.toArray⟩]) (.agg #[.int .i64 x', .int .i64 y', .string ⟨d'.toArray⟩])).run Try.prog w = .ok (decide (x = x' ∧ y = y' ∧ d = d')) w := by
  by_cases h1 : x = x' <;> by_cases h2 : y = y' <;> by_cases h3 : d = d' <;> simp [go_sem, h1, h2, h3]
theorem rrec_guard : Try.prog.eqGuardType Try.prog.depth 23 = false := by kernel_rfl
set_option maxRecDepth 100000 in
theorem p_behind_any (x y u v m : Int) (d e : List UInt8) (w : World) (h0 : -1000000000 ≤ u) (h1 : u ≤ 1000000000) (hm : (v < y ∧ m = y) ∨ (y ≤ v ∧ m = v)) : Calls Try.prog 32 #[.agg #[.int .i64 u, .int .i64 v, .string ⟨e.toArray⟩], .agg #[.int .i64 x, .int .i64 y, .string ⟨d.toArray⟩]] w fun r w' => r = .returned (.agg #[.int .i64 (u + 1), .int .i64 m, .string ⟨d.toArray⟩]) ∧ Below w.heap.size w w' := by
  have hu : IntKind.i64.wrap (u + 1) = u + 1 := by rw [IntKind.wrap_i64]; omega
  rcases hm with ⟨h, rfl⟩ | ⟨h, rfl⟩
  · have h2 : ¬ m < v := by omega
    have h3 : ¬ m ≤ v := by omega
    go_enter Try.func32, Try.ntmps32
    go_wp2
    refine bodyPost_ret (v := .agg #[.int .i64 (u + 1), .int .i64 m, .string ⟨d.toArray⟩]) (by simp [results, Try.results32, go_sem]) rfl ⟨rfl, by go_grown⟩
  · have h2 : ¬ m < y := by omega
    go_enter Try.func32, Try.ntmps32
    go_wp2
    refine bodyPost_ret (v := .agg #[.int .i64 (u + 1), .int .i64 m, .string ⟨d.toArray⟩]) (by simp [results, Try.results32, go_sem]) rfl ⟨rfl, by go_grown⟩
end Go.Proofs.Ytckengcphaaohaa
