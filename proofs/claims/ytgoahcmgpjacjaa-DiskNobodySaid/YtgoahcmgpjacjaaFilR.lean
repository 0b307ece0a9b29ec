/-
  Layer 19, the document's: Append, Sync, Cut, Left, Fall (ahead of the code's landing).
-/
import Derived.Test.YtgoahcmgpjacjaaFilM
import Derived.Test.YtgoahcmgpjacjaaRows
import Derived.Test.YtgoahcmgpjacjaaMore
import Derived.Deep.QuietTactic
import Derived.BigQuiet
import Derived.RegionTactic
import Derived.ChangeAlike
import Derived.Deep.DeepCutAuto
namespace Go.Proofs.Ytgoahcmgpjacjaa
set_option linter.unusedSimpArgs false
set_option linter.unusedVariables false
open Go.ChangeShapes Go.WideShapes Go.ChangeAt Go.RowKit Go.Joins Go.Deep
theorem fl_head (l : List UInt8) (p : Nat) (hp : p ≤ l.length) (w : World) : (Instr.slice 9 (.string ⟨l.toArray⟩) none (some (.int .i64 (p : Int))) none).run Try.prog w = .ok (.string ⟨(l.take p).toArray⟩) w := by
  rw [run_slice_string_h w 9 ⟨l.toArray⟩ Try.underlying9 .i64 (p : Int) (by omega) (by rw [ByteArray.size_mk', List.size_toArray]; omega), ByteArray.extract_mk, List.drop_zero, Nat.sub_zero, Int.toNat_natCast]
theorem fl_tail (l : List UInt8) (p : Nat) (hp : p ≤ l.length) (w : World) : (Instr.slice 9 (.string ⟨l.toArray⟩) (some (.int .i64 (p : Int))) none none).run Try.prog w = .ok (.string ⟨(l.drop p).toArray⟩) w := by
  rw [run_slice_string_l w 9 ⟨l.toArray⟩ Try.underlying9 .i64 (p : Int) (by omega) (by rw [ByteArray.size_mk', List.size_toArray]; omega), ByteArray.extract_mk, ByteArray.size_mk', List.size_toArray, Int.toNat_natCast, List.take_of_length_le (by rw [List.length_drop]; omega)]
theorem fl_add (a b : List UInt8) (h : a.length + b.length ≤ 9223372036854775807) (w : World) : (Op.stringOp .add ⟨a.toArray⟩ ⟨b.toArray⟩).run Try.prog w = .ok (.string ⟨(a ++ b).toArray⟩) w := by
  rw [run_string_add_sum w _ _ (by rw [ByteArray.size_mk', ByteArray.size_mk', List.size_toArray, List.size_toArray]; exact h), ByteArray.mk_append_mk]
abbrev flc (f : Fl) : Array Value := #[.string ⟨f.1.toArray⟩, .string ⟨f.2.toArray⟩]
end Go.Proofs.Ytgoahcmgpjacjaa
