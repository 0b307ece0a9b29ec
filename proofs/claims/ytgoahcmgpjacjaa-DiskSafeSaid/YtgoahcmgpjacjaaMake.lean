/-
  Over any program with bytes: make([]byte, n) as a block of bytes 00, and string(b) of a block that is known whole.
-/
import Derived.Test.YtgoahcmgpjacjaaMore
import Derived.Test.YtgoahcmgpjacjaaRows
import Derived.Deep.OwnRows
namespace Go.Proofs.Ytgoahcmgpjacjaa
set_option linter.unusedSimpArgs false
set_option linter.unusedVariables false
open Go.ChangeShapes Go.WideShapes Go.ChangeAt Go.RowKit Go.Joins Go.Deep
theorem mbyte_info : (Try.prog.info? 5).map (fun i => (i.zero, i.size, i.bytes)) = some (some (.int .u8 0), 1, 1) := by kernel_rfl
theorem mk_bytes (n : Int) (N : Nat) (hN : (N : Int) = n) (h : N ≤ 281474976710656) (w : World) :
    (Instr.makeSlice 57 (.int .i64 n) (.int .i64 n)).run Try.prog w = .ok (.slice (some ⟨w.heap.size, 0, none⟩) N N) (w.alloc (.cells (bc (List.replicate N 0)) 5)) := by
  subst hN
  rw [← bc_zero]
  exact run_make_row' (P := Try.prog) 57 5 (.int .u8 0) 1 Try.underlying57 mbyte_info rfl .i64 .i64 N (by omega) (by omega) w
theorem str_blk (w : World) (g n c : Nat) (t : TypeId) (l : List UInt8) (hn : l.length = n) (h : Blk w g t (bc l)) :
    (convert 57 9 (.slice (some ⟨g, 0, none⟩) n c)).run Try.prog w = .ok (.string ⟨l.toArray⟩) w :=
  run_bytes_str Try.underlying57 Try.underlying5 Try.underlying9 w g 0 c l n hn fun j b hj => by rw [Nat.zero_add]; exact blk_byte h hj
end Go.Proofs.Ytgoahcmgpjacjaa
