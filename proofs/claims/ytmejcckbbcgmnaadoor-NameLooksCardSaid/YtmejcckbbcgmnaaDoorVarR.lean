/-
  Layer 2: what the document's own Size, Put and Fix return, for every argument.
-/
import Derived.Test.YtmejcckbbcgmnaaDoorVarL
import Derived.Test.YtmejcckbbcgmnaaDoorVarP
import Derived.Outline
namespace Go.Proofs.YtmejcckbbcgmnaaDoor
set_option linter.unusedSimpArgs false
set_option linter.unusedVariables false
open Go.ChangeShapes Go.WideShapes Go.ChangeAt Go.RowKit Go.Joins Go.Deep
theorem one_byte (x : Int) (b : UInt8) (h : (b.toNat : Int) = x) (W : World) :
    (convert 40 9 (.slice (some ⟨W.heap.size, 0, none⟩) 1 1)).run Tryd.prog (W.alloc (.cells #[.int .u8 x] 5)) = .ok (.string ⟨#[b]⟩) (W.alloc (.cells #[.int .u8 x] 5)) := by
  subst h
  exact run_str (W.alloc (.cells #[.int .u8 (b.toNat : Int)] 5)) W.heap.size 1 1 5 [b] rfl (Blk.new W 5 (bc [b]))
theorem add_bytes (a b : List UInt8) (h : a.length + b.length ≤ 9223372036854775807) (w : World) : (Op.stringOp .add ⟨a.toArray⟩ ⟨b.toArray⟩).run Tryd.prog w = .ok (.string ⟨(a ++ b).toArray⟩) w := by
  rw [run_string_add_sum w _ _ (by rw [ByteArray.size_mk', ByteArray.size_mk', List.size_toArray, List.size_toArray]; exact h), ByteArray.mk_append_mk]
end Go.Proofs.YtmejcckbbcgmnaaDoor
