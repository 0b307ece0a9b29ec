/-
  A row of truth values (generic).
-/
import Derived.Test.YtjdpogaaookoeaaInts
namespace Go.Proofs.Ytjdpogaaookoeaa
set_option linter.unusedSimpArgs false
set_option linter.unusedVariables false
open Go.ChangeShapes Go.WideShapes Go.ChangeAt Go.RowKit Go.Joins Go.Deep

def gbools (l : List Bool) : List Value := l.map Value.bool
theorem gbool_info : (Try.prog.info? 4).map (fun i => (i.zero, i.size, i.bytes)) = some (some (.bool false), 1, 1) := by kernel_rfl
theorem gbools_zero (n : Nat) : madeCells #[.bool false] n = (gbools (List.replicate n false)).toArray := by
  unfold gbools
  apply Array.ext'
  simp [madeCells, Nat.mod_one]
  rw [List.map_const', List.length_range]
theorem gmk_bools (n : Int) (N : Nat) (hN : (N : Int) = n) (h : N ≤ 17592186044416) (w : World) :
    (Instr.makeSlice 42 (.int .i64 n) (.int .i64 n)).run Try.prog w = .ok (.slice (some ⟨w.heap.size, 0, none⟩) N N) (w.alloc (.cells (gbools (List.replicate N false)).toArray 4)) := by
  subst hN
  rw [← gbools_zero]
  exact run_make_row' (P := Try.prog) 42 4 (.bool false) 1 Try.underlying42 gbool_info rfl .i64 .i64 N (by omega) (by omega) w
theorem gbools_set (l : List Bool) (k : Nat) (v : Bool) : (gbools l).toArray.setIfInBounds k (.bool v) = (gbools (l.set k v)).toArray := by
  rw [List.setIfInBounds_toArray]
  simp [gbools, List.map_set]
theorem gblk_bool {w : World} {g : Nat} {t : TypeId} {l : List Bool} (h : Blk w g t (gbools l).toArray) (k : Nat) (hk : k < l.length) : w.cell? ⟨g, k, none⟩ = some (.bool l[k]) := by
  rw [h.cell, List.getElem?_toArray]
  simp [gbools, hk]
end Go.Proofs.Ytjdpogaaookoeaa
