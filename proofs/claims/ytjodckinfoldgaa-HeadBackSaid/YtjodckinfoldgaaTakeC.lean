/-
  Layer 3: the methods of a taker, where there is no fault; the call that Run defers.
-/
import Derived.Test.YtjodckinfoldgaaTakeB
import Derived.Defers
import Derived.Recover
namespace Go.Proofs.Ytjodckinfoldgaa
set_option linter.unusedSimpArgs false
set_option linter.unusedVariables false
open Go.ChangeShapes Go.WideShapes Go.ChangeAt Go.RowKit Go.Joins Go.Deep
theorem got_f0 (v1 v2 : Value) (w : World) : (Instr.field 79 (.agg #[v1, v2]) 0).run Try.prog w = .ok v1 w := by kernel_rfl
theorem got_f1 (v1 v2 : Value) (w : World) : (Instr.field 79 (.agg #[v1, v2]) 1).run Try.prog w = .ok v2 w := by kernel_rfl
section
variable (l : List UInt8) (p : Int) (g : Nat) (w : World) (hl : l.length ≤ 4611686018427387904) (h0 : 0 ≤ p) (hp : p ≤ l.length) (hB : Blk w g 88 #[.string ⟨l.toArray⟩, .int .i64 p])
include hl h0 hp hB
theorem num_ok (x : Int) (s : List UInt8) (q : Int) (hr : pieceF l p 2 0 = ((x, s), q, 0)) :
    Calls Try.prog 30 #[.pointer (some ⟨g, 0, none⟩)] w fun e w' => e = .returned (.int .i64 x) ∧ w.grownBy w' (some g) ∧ Blk w' g 88 #[.string ⟨l.toArray⟩, .int .i64 q] := by
  have ht := fun w hB => take_ok l p 2 0 g w hl h0 hp hB x s q hr
  have f0 := got_f0
  have f1 := got_f1
  clear hr
  go_enter Try.func30, Try.ntmps30
  go_wp2_with (refine (ht _ hB).mono ?_; rintro e w1 ⟨rfl, h1, h2⟩)
  go_ret
  exact ⟨rfl, h1, h2⟩
theorem end_ok (x : Int) (s : List UInt8) (q : Int) (hr : pieceF l p 6 0 = ((x, s), q, 0)) :
    Calls Try.prog 31 #[.pointer (some ⟨g, 0, none⟩)] w fun e w' => e = .returned (.tuple #[]) ∧ w.grownBy w' (some g) ∧ Blk w' g 88 #[.string ⟨l.toArray⟩, .int .i64 q] := by
  have ht := fun w hB => take_ok l p 6 0 g w hl h0 hp hB x s q hr
  have f0 := got_f0
  have f1 := got_f1
  clear hr
  go_enter Try.func31, Try.ntmps31
  go_wp2_with (refine (ht _ hB).mono ?_; rintro e w1 ⟨rfl, h1, h2⟩)
  go_end0
  exact ⟨rfl, h1, h2⟩
end
end Go.Proofs.Ytjodckinfoldgaa
