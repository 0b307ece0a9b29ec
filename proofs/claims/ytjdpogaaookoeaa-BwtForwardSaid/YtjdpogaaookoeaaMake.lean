/-
  Over any program with bytes: make([]byte, n) as a block of bytes 00, and string(b) of a block that is known whole.
-/
import Derived.Test.YtjdpogaaookoeaaMore
import Derived.Test.YtjdpogaaookoeaaRows
import Derived.Deep.OwnRows
namespace Go.Proofs.Ytjdpogaaookoeaa
set_option linter.unusedSimpArgs false
set_option linter.unusedVariables false
open Go.ChangeShapes Go.WideShapes Go.ChangeAt Go.RowKit Go.Joins Go.Deep

theorem mbyte_info : (Try.prog.info? 5).map (fun i => (i.zero, i.size, i.bytes)) = some (some (.int .u8 0), 1, 1) := by kernel_rfl
/-- A row of bytes that a call has just made: all 0. -/
theorem mk_bytes (n : Int) (N : Nat) (hN : (N : Int) = n) (h : N ≤ 281474976710656) (w : World) :
    (Instr.makeSlice 44 (.int .i64 n) (.int .i64 n)).run Try.prog w = .ok (.slice (some ⟨w.heap.size, 0, none⟩) N N) (w.alloc (.cells (bc (List.replicate N 0)) 5)) := by
  subst hN
  rw [← bc_zero]
  exact run_make_row' (P := Try.prog) 44 5 (.int .u8 0) 1 Try.underlying44 mbyte_info rfl .i64 .i64 N (by omega) (by omega) w
theorem str_blk (w : World) (g n c : Nat) (t : TypeId) (l : List UInt8) (hn : l.length = n) (h : Blk w g t (bc l)) :
    (convert 44 9 (.slice (some ⟨g, 0, none⟩) n c)).run Try.prog w = .ok (.string ⟨l.toArray⟩) w :=
  run_bytes_str Try.underlying44 Try.underlying5 Try.underlying9 w g 0 c l n hn fun j b hj => by rw [Nat.zero_add]; exact blk_byte h hj
end Go.Proofs.Ytjdpogaaookoeaa
