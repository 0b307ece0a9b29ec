/-
  Layer 2: the probe that each statement of the layer asks beside itself returns true.
-/
import Derived.Test.YtpkjlgjnnfmnfaaVarV
namespace Go.Proofs.Ytpkjlgjnnfmnfaa
set_option linter.unusedSimpArgs false
set_option linter.unusedVariables false
open Go.ChangeShapes Go.WideShapes Go.ChangeAt Go.RowKit Go.Joins Go.Deep

theorem aw_put (w : World) : Calls Try.prog 8 #[.int .i64 300] w fun e w' => e = .returned (.tuple #[.string ⟨#[172, 2]⟩, .int .i64 0]) ∧ Below w.heap.size w w' := by
  have h := put_any 300 w (by decide)
  rw [show putB 300 = [172, 2] from by decide, show putE 300 = 0 from by decide] at h
  exact h
theorem aw_put2 (w : World) : Calls Try.prog 8 #[.int .i64 (-1)] w fun e w' => e = .returned (.tuple #[.string ⟨#[]⟩, .int .i64 2]) ∧ Below w.heap.size w w' := by
  have h := put_any (-1) w (by decide)
  rw [show putB (-1) = [] from by decide, show putE (-1) = 2 from by decide] at h
  exact h
theorem aw_add (w : World) : (Op.stringOp .add ⟨#[120]⟩ ⟨#[172, 2]⟩).run Try.prog w = .ok (.string ⟨#[120, 172, 2]⟩) w := add_bytes [120] [172, 2] (by decide) w
theorem aw_get (w : World) : Calls Try.prog 15 #[.string ⟨#[120, 172, 2]⟩, .int .i64 1] w fun e w' => e = .returned (.tuple #[.int .i64 300, .int .i64 3, .int .i64 0]) ∧ w = w' :=
  get_is (l := [120, 172, 2]) (p := 1) (by decide) w (by decide)
theorem aw_fix (w : World) : Calls Try.prog 10 #[.int .i64 300, .int .i64 4] w fun e w' => e = .returned (.tuple #[.string ⟨#[44, 1, 0, 0]⟩, .int .i64 0]) ∧ Below w.heap.size w w' := by
  have h := fix_any 300 4 w
  rw [show fixB 300 4 = [44, 1, 0, 0] from by decide, show fixE 300 4 = 0 from by decide] at h
  exact h
theorem aw_unfix (w : World) : Calls Try.prog 17 #[.string ⟨#[44, 1, 0, 0]⟩, .int .i64 0, .int .i64 4] w fun e w' => e = .returned (.tuple #[.int .i64 300, .int .i64 4, .int .i64 0]) ∧ w = w' := by
  have h := unfix_any [44, 1, 0, 0] 0 4 w (by decide)
  rw [show unfixF [44, 1, 0, 0] 0 4 = (300, 4, 0) from by decide] at h
  exact h
theorem aw_list (W : World) : Calls Try.prog 19 #[.slice (some ⟨W.heap.size, 0, none⟩) 2 2] (W.alloc (.cells #[.int .i64 1, .int .i64 300] 3)) fun e w' => e = .returned (.tuple #[.string ⟨#[2, 1, 172, 2]⟩, .int .i64 0]) ∧ Below (W.heap.size + 1) (W.alloc (.cells #[.int .i64 1, .int .i64 300] 3)) w' := by
  have hr := (Reads.new W 3 (ints [1, 300]) 1 2 rfl)
  have h := list_any (some ⟨W.heap.size, 0, none⟩) 2 2 [1, 300] (W.alloc (.cells #[.int .i64 1, .int .i64 300] 3)) rfl (by decide) (by simpa [ints] using hr) (by decide)
  rw [show listB [1, 300] = [2, 1, 172, 2] from by decide, show listE [1, 300] = 0 from by decide] at h
  have e : (W.alloc (.cells #[.int .i64 1, .int .i64 300] 3)).heap.size = W.heap.size + 1 := by simp
  rw [e] at h
  exact h
theorem aw_unlist (w : World) : Calls Try.prog 21 #[.string ⟨#[2, 1, 172, 2]⟩, .int .i64 0, .int .i64 2] w fun e w' => ∃ A c, e = .returned (.tuple #[.slice A 2 c, .int .i64 4, .int .i64 0]) ∧ Below w.heap.size w w' := by
  refine (unlist_any [2, 1, 172, 2] 0 2 w (by decide) ([1, 300], 4, 0) (by decide)).mono ?_
  rintro e w' ⟨A, c, rfl, _, hb⟩
  exact ⟨A, c, rfl, hb⟩
theorem aw_size (w : World) : Calls Try.prog 12 #[.int .i64 300] w fun e w' => e = .returned (.int .i64 2) ∧ w = w' := by
  have h := size_any 300 w (by decide)
  rw [show sizeF 300 = 2 from by decide] at h
  exact h

set_option maxRecDepth 100000 in
set_option maxHeartbeats 2000000 in
theorem awake_any (w : World) : Calls Try.prog 14 #[] w fun e w' => e = .returned (.bool true) ∧ Below w.heap.size w w' := by
  have hadd := aw_add
  go_enter Try.func14, Try.ntmps14
  go_wp2_with (first
    | (go_at_call 8; (with_reducible refine (aw_put _).mono ?_); rintro e w1 ⟨rfl, hb1⟩)
    | (go_at_call 8; (with_reducible refine (aw_put2 _).mono ?_); rintro e w5 ⟨rfl, hb5⟩)
    | (go_at_call 15; refine (aw_get _).mono ?_; rintro e w0 ⟨rfl, rfl⟩)
    | (go_at_call 10; refine (aw_fix _).mono ?_; rintro e w2 ⟨rfl, hb2⟩)
    | (go_at_call 17; refine (aw_unfix _).mono ?_; rintro e w0 ⟨rfl, rfl⟩)
    | (go_at_call 19; refine (aw_list _).mono ?_; rintro e w3 ⟨rfl, hb3⟩)
    | (go_at_call 21; refine (aw_unlist _).mono ?_; rintro e w4 ⟨A, c, rfl, hb4⟩)
    | (go_at_call 12; refine (aw_size _).mono ?_; rintro e w0 ⟨rfl, rfl⟩))
  go_ret
  refine ⟨rfl, ?_⟩
  have s1 := hb1.size
  have s2 := hb2.size
  have s3 := hb3.size
  have s4 := hb4.size
  have e3 : (w2.alloc (.cells #[.int .i64 1, .int .i64 300] 3)).heap.size = w2.heap.size + 1 := by simp
  rw [e3] at s3
  exact ((((hb1.trans (hb2.mono s1)).alloc (by omega) _).trans (hb3.mono (by omega))).trans (hb4.mono (by omega))).trans (hb5.mono (by omega))
end Go.Proofs.Ytpkjlgjnnfmnfaa
