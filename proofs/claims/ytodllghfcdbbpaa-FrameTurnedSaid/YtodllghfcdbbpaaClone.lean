/-
  strings.Clone, walked whole: the same bytes; only new memory is written.
-/
import Derived.Test.YtodllghfcdbbpaaMake
import Derived.Lib.BufferWrite
import Derived.Laws.CopyOwn
namespace Go.Proofs.Ytodllghfcdbbpaa
set_option linter.unusedSimpArgs false
set_option linter.unusedVariables false
open Go.ChangeShapes Go.WideShapes Go.ChangeAt Go.RowKit Go.Joins Go.Deep
theorem clone_copy (l : List UInt8) (ty : TypeId) (w : World) :
    (Builtin.copy_ #[43, 9] ty #[.slice (some ⟨w.heap.size, 0, none⟩) l.length l.length, .string ⟨l.toArray⟩]).run Try.prog (w.alloc (.cells (bc (List.replicate l.length 0)) 5)) = .ok (.int .i64 (l.length : Int)) ((w.alloc (.cells (bc (List.replicate l.length 0)) 5)).setRow w.heap.size (bc l)) := by
  obtain ⟨i0, hi, _, hz1, _⟩ := info_parts mbyte_info
  rw [Lib.run_copy_row_string (w.alloc (.cells (bc (List.replicate l.length 0)) 5)) 43 9 ty 5 w.heap.size 0 l.length l.length ⟨l.toArray⟩ (bc (List.replicate l.length 0)) 5 Try.underlying43 (by rw [hi]; simp [hz1]) (Blk.new w 5 _) (by rw [ByteArray.size_mk', List.size_toArray]; exact Nat.le_refl _) (by rw [ByteArray.size_mk', List.size_toArray, bc_size, List.length_replicate]; omega)]
  have e : ((bc (List.replicate l.length 0)).toList.take 0 ++ Lib.byteCells l ++ (bc (List.replicate l.length 0)).toList.drop (0 + l.length)).toArray = bc l := by
    rw [List.take_zero, List.nil_append, List.drop_of_length_le (by rw [Array.length_toList, bc_size, List.length_replicate]; omega), List.append_nil]
    rfl
  rw [ByteArray.size_mk', List.size_toArray]
  exact congrArg (fun c => Result.ok (Value.int .i64 (l.length : Int)) ((w.alloc (.cells (bc (List.replicate l.length 0)) 5)).setRow w.heap.size c)) e
set_option maxRecDepth 100000 in
theorem clone_lite_any (l : List UInt8) (w : World) (hl : l.length ≤ 281474976710656) : Calls Try.prog 39 #[.string ⟨l.toArray⟩] w fun e w' => e = .returned (.string ⟨l.toArray⟩) ∧ Below w.heap.size w w' := by
  by_cases h0 : l.length = 0
  · obtain rfl := List.length_eq_zero_iff.1 h0
    go_enter Try.func39, Try.ntmps39
    go_wp2
    go_ret
    exact ⟨rfl, by go_grown⟩
  have hmk := mk_bytes (l.length : Int) l.length rfl hl w
  have hcp := fun ty => clone_copy l ty w
  have hne : ((l.length : Int) == 0) = false := beq_eq_false_iff_ne.2 (by omega)
  have hpos : (0 : Int) < (l.length : Int) := by omega
  have hgot : Blk ((w.alloc (.cells (bc (List.replicate l.length 0)) 5)).setRow w.heap.size (bc l)) w.heap.size 5 (bc l) := setRow_heap _ _ _ _ _ _ (Blk.new w 5 (bc (List.replicate l.length 0)))
  have hus := fun ty => Lib.run_unsafeString_row (P := Try.prog) ((w.alloc (.cells (bc (List.replicate l.length 0)) 5)).setRow w.heap.size (bc l)) 71 3 ty 5 Try.underlying71 (by kernel_rfl) w.heap.size l.length (by unfold World.shape?; rw [show _ = _ from hgot]; simp [bc_size]) l (fun h => h0 (by rw [h]; rfl)) (Nat.le_refl _) (by omega) (fun j x hx => by
    rw [add_mk, Nat.zero_add]
    exact blk_byte hgot hx)
  have hb : Below w.heap.size w (((w.alloc (.cells (bc (List.replicate l.length 0)) 5)).setRow w.heap.size (bc l)).freeze ⟨w.heap.size, 0, none⟩ l.length) := Lib.below_freeze (below_setRow ((Below.refl _ _).alloc (Nat.le_refl _) _) (Nat.le_refl _) _) (Nat.le_refl _) _
  have HB := Lib.hid hb
  clear hgot hb h0
  generalize hW : ((w.alloc (.cells (bc (List.replicate l.length 0)) 5)).setRow w.heap.size (bc l)).freeze ⟨w.heap.size, 0, none⟩ l.length = W at *
  generalize hW2 : (w.alloc (.cells (bc (List.replicate l.length 0)) 5)).setRow w.heap.size (bc l) = W2 at *
  generalize hW3 : w.alloc (.cells (bc (List.replicate l.length 0)) 5) = W3 at *
  clear hW hW2 hW3
  go_enter Try.func39, Try.ntmps39
  go_wp2
  go_ret
  exact ⟨rfl, HB.out⟩
theorem clone_any (l : List UInt8) (w : World) (hl : l.length ≤ 281474976710656) : Calls Try.prog 33 #[.string ⟨l.toArray⟩] w fun e w' => e = .returned (.string ⟨l.toArray⟩) ∧ Below w.heap.size w w' := by
  have hc := Lib.hid fun W => clone_lite_any l W hl
  go_enter Try.func33, Try.ntmps33
  go_wp2_with (go_at_call 39; (with_reducible refine (hc.out _).mono ?_); rintro e w1 ⟨rfl, hb1⟩; have HB1 := Lib.hid hb1; clear hb1 hc)
  go_ret
  exact ⟨rfl, HB1.out⟩
end Go.Proofs.Ytodllghfcdbbpaa
