/-
 What the law of the last of these texts stands on, part 34.
-/
import Derived.Test.YtanjhbkbpalnaaaGreatMa26
import Derived.Defers
import Derived.Recover
set_option maxRecDepth 100000
set_option maxHeartbeats 8000000
open Go.Proofs.Tryz
namespace Go.Proofs.YtanjhbkbpalnaaaGreat
set_option linter.unusedSimpArgs false
set_option linter.unusedVariables false
open Go.ChangeShapes Go.WideShapes Go.ChangeAt Go.RowKit Go.Joins Go.Deep
theorem got_f0 (v1 v2 : Value) (w : World) : (Instr.field 169 (.agg #[v1, v2]) 0).run prog w = .ok v1 w := by kernel_rfl
theorem got_f1 (v1 v2 : Value) (w : World) : (Instr.field 169 (.agg #[v1, v2]) 1).run prog w = .ok v2 w := by kernel_rfl
section
variable (l : List UInt8) (p : Int) (g : Nat) (w : World) (hl : l.length ≤ 4611686018427387904) (h0 : 0 ≤ p) (hp : p ≤ l.length) (hB : Blk w g 208 #[.string ⟨l.toArray⟩, .int .i64 p])
include hl h0 hp hB
theorem num_ok (x : Int) (s : List UInt8) (q : Int) (hr : yb8 l p 2 0 = ((x, s), q, 0)) :
  Calls prog 84 #[.pointer (some ⟨g, 0, none⟩)] w fun e w' => e = .returned (.int .i64 x) ∧ w.grownBy w' (some g) ∧ Blk w' g 208 #[.string ⟨l.toArray⟩, .int .i64 q] := by
 have ht := fun w hB => take_ok l p 2 0 g w hl h0 hp hB x s q hr
 have f0 := got_f0
 have f1 := got_f1
 clear hr
 go_enter func84, ntmps84
 go_wp2_with (refine (ht _ hB).mono ?_; rintro e w1 ⟨rfl, h1, h2⟩)
 go_ret
 exact ⟨rfl, h1, h2⟩
theorem rest_ok (x : Int) (s : List UInt8) (q : Int) (hr : yb8 l p 5 0 = ((x, s), q, 0)) :
  Calls prog 85 #[.pointer (some ⟨g, 0, none⟩)] w fun e w' => e = .returned (.string ⟨s.toArray⟩) ∧ w.grownBy w' (some g) ∧ Blk w' g 208 #[.string ⟨l.toArray⟩, .int .i64 q] := by
 have ht := fun w hB => take_ok l p 5 0 g w hl h0 hp hB x s q hr
 have f0 := got_f0
 have f1 := got_f1
 clear hr
 go_enter func85, ntmps85
 go_wp2_with (refine (ht _ hB).mono ?_; rintro e w1 ⟨rfl, h1, h2⟩)
 go_ret
 exact ⟨rfl, h1, h2⟩
end
end Go.Proofs.YtanjhbkbpalnaaaGreat
