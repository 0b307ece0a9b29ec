/-
  Layer 15: what the laws lean on.
-/
import Derived.Test.YtckengcphaaohaaRecC
import Derived.Test.YtckengcphaaohaaRecD
import Derived.Test.YtckengcphaaohaaRecE
import Derived.Test.YtckengcphaaohaaRecF
import Derived.Test.YtckengcphaaohaaRecH
import Derived.Test.YtckengcphaaohaaRecU
import Derived.Test.YtckengcphaaohaaRecV
import Derived.Test.YtckengcphaaohaaRecW
namespace Go.Proofs.Ytckengcphaaohaa
set_option linter.unusedSimpArgs false
set_option linter.unusedVariables false
open Go.ChangeShapes Go.WideShapes Go.ChangeAt Go.RowKit Go.Joins Go.Deep
theorem rfresh (r : Rc) (w : World) : Reads (w.alloc (.cells #[.int .i64 r.1, .int .i64 r.2.1, .string ⟨r.2.2.toArray⟩] 23)) (w.alloc (.cells #[.int .i64 r.1, .int .i64 r.2.1, .string ⟨r.2.2.toArray⟩] 23)).heap.size 3 (some ⟨w.heap.size, 0, none⟩) 1 (rcs [r]) := by
  have := reads_new w 23 #[.int .i64 r.1, .int .i64 r.2.1, .string ⟨r.2.2.toArray⟩] 3 1 rfl
  exact this.more (by simp)
theorem Reads.on15 {w w' : World} {size n : Nat} {A : Option Addr} {xs : List Value} (h : Reads w w.heap.size size A n xs) (hb : Below w.heap.size w w') : Reads w' w'.heap.size size A n xs := (h.below hb).more hb.size
theorem rfew_any (r : Rc) (f : Bool) (hf : fewF [r] = f) (w : World) : Calls Try.prog 7 #[.slice (some ⟨w.heap.size, 0, none⟩) 1 1] (w.alloc (.cells #[.int .i64 r.1, .int .i64 r.2.1, .string ⟨r.2.2.toArray⟩] 23)) fun e w' => e = .returned (.bool f) ∧ Below w.heap.size w w' := by
  refine (few_any [r] _ 1 1 _ rfl (rfresh r w)).mono ?_
  rintro e w' ⟨rfl, rfl⟩
  exact ⟨by rw [hf], (Below.refl _ _).alloc (Nat.le_refl _) _⟩
theorem rrec_same (x y : Int) (d : List UInt8) (w : World) : (Op.equalIn 10000 23 (.agg #[.int .i64 x, .int .i64 y, .string ⟨d.toArray⟩]) (.agg #[.int .i64 x, .int .i64 y, .string ⟨d.toArray⟩])).run Try.prog w = .ok true w := by
  rw [rrec_equal, decide_eq_true (⟨rfl, rfl, rfl⟩ : x = x ∧ y = y ∧ d = d)]
end Go.Proofs.Ytckengcphaaohaa
