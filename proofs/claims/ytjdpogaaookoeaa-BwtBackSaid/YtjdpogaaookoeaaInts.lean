/-
  Over any program with integers: make([]int, n) as a block of 0, a block of integers and its cells, a call that returns a list and an error.
-/
import Derived.Test.YtjdpogaaookoeaaMore
import Derived.Test.YtjdpogaaookoeaaRows
import Derived.Deep.OwnRows
namespace Go.Proofs.Ytjdpogaaookoeaa
set_option linter.unusedSimpArgs false
set_option linter.unusedVariables false
open Go.ChangeShapes Go.WideShapes Go.ChangeAt Go.RowKit Go.Joins Go.Deep

theorem gint_info : (Try.prog.info? 3).map (fun i => (i.zero, i.size, i.bytes)) = some (some (.int .i64 0), 1, 8) := by kernel_rfl
theorem gints_zero (n : Nat) : madeCells #[.int .i64 0] n = (ints (List.replicate n 0)).toArray := by
  unfold ints
  apply Array.ext'
  simp [madeCells, Nat.mod_one]
  rw [List.map_const', List.length_range]
/-- A row of integers that a call has just made: all 0. -/
theorem gmk_ints (n : Int) (N : Nat) (hN : (N : Int) = n) (h : N ≤ 17592186044416) (w : World) :
    (Instr.makeSlice 33 (.int .i64 n) (.int .i64 n)).run Try.prog w = .ok (.slice (some ⟨w.heap.size, 0, none⟩) N N) (w.alloc (.cells (ints (List.replicate N 0)).toArray 3)) := by
  subst hN
  rw [← gints_zero]
  exact run_make_row' (P := Try.prog) 33 3 (.int .i64 0) 8 Try.underlying33 gint_info rfl .i64 .i64 N (by omega) (by omega) w
theorem gints_set (l : List Int) (k : Nat) (v : Int) : (ints l).toArray.setIfInBounds k (.int .i64 v) = (ints (l.set k v)).toArray := by
  rw [List.setIfInBounds_toArray]
  simp [ints, List.map_set]
theorem gints_one (l : List Int) : ∀ u ∈ ints l, u.oneCell' = true := by
  intro u hu
  obtain ⟨b, _, rfl⟩ := List.mem_map.1 hu
  rfl
theorem gints_app (a b : List Int) : ints (a ++ b) = ints a ++ ints b := by simp [ints]
theorem gints_take (l : List Int) (k : Nat) : (ints l).take k = ints (l.take k) := by simp [ints]
theorem gints_drop (l : List Int) (k : Nat) : (ints l).drop k = ints (l.drop k) := by simp [ints]
theorem gblk_ints {w : World} {g n : Nat} {t : TypeId} {l : List Int} (h : Blk w g t (ints l).toArray) (hn : l.length = n) : Reads w w.heap.size 1 (some ⟨g, 0, none⟩) n (ints l) :=
  ⟨by rw [ints_length]; omega, fun _ => ⟨g, 0, rfl, h.lt, fun j u hu => by rw [Nat.zero_add, h.cell]; simpa using hu⟩⟩
theorem gblk_cell {w : World} {g : Nat} {t : TypeId} {l : List Int} (h : Blk w g t (ints l).toArray) (k : Nat) (hk : k < l.length) : w.cell? ⟨g, k, none⟩ = some (.int .i64 l[k]) := by rw [h.cell, List.getElem?_toArray, ints_get l k hk]
/-- A list's cells in later worlds. -/
theorem gcells {w : World} {A : Option Addr} {n : Nat} {l : List Int} (hr : Reads w w.heap.size 1 A n (ints l)) : ∀ W, Below w.heap.size w W → ∀ k (hk : k < l.length), ∃ b off, A = some ⟨b, off, none⟩ ∧ b < w.heap.size ∧ W.cell? ⟨b, off + k, none⟩ = some (.int .i64 l[k]) := fun W hW k hk => by
  have en : l.length = n := by have := hr.1; rw [ints_length] at this; omega
  obtain ⟨b, off, e, hb, hc⟩ := hr.2 (by omega)
  exact ⟨b, off, e, hb, (hW.cell (p := ⟨b, off + k, none⟩) hb).trans (hc k _ (ints_get l k hk))⟩
theorem gcells_at {w : World} {A : Option Addr} {n : Nat} {l : List Int} (hr : Reads w w.heap.size 1 A n (ints l)) (hn : 0 < n) : ∃ b off, A = some ⟨b, off, none⟩ ∧ b < w.heap.size ∧ ∀ W, Below w.heap.size w W → ∀ k (hk : k < l.length), W.cell? ⟨b, off + k, none⟩ = some (.int .i64 l[k]) := by
  obtain ⟨b, off, e, hb, hc⟩ := hr.2 hn
  exact ⟨b, off, e, hb, fun W hW k hk => (hW.cell (p := ⟨b, off + k, none⟩) hb).trans (hc k _ (ints_get l k hk))⟩
theorem Reads.upto {w w' : World} {size n : Nat} {A : Option Addr} {xs : List Value} (h : Reads w w.heap.size size A n xs) (hb : Below w.heap.size w w') : Reads w' w'.heap.size size A n xs := (h.below hb).more hb.size
/-- A call that returns a list and an error. -/
def LPost (w w' : World) (e : Ending) (F : List Int × Int) : Prop := ∃ A' c', e = .returned (.tuple #[.slice A' F.1.length c', .int .i64 F.2]) ∧ F.1.length ≤ c' ∧ Reads w' w'.heap.size 1 A' F.1.length (ints F.1) ∧ Below w.heap.size w w'
theorem lpost_none {w w' : World} {E : Int} (hb : Below w.heap.size w w') : LPost w w' (.returned (.tuple #[.slice none 0 0, .int .i64 E])) ([], E) := ⟨none, 0, rfl, Nat.le_refl _, Reads.none_, hb⟩
theorem lpost_row {w w' : World} {l : List Int} {A : Option Addr} {k c : Nat} (hl : l.length = k) (hc : k ≤ c) (hr : Reads w' w'.heap.size 1 A k (ints l)) (hb : Below w.heap.size w w') : LPost w w' (.returned (.tuple #[.slice A k c, .int .i64 0])) (l, 0) := by
  subst hl
  exact ⟨A, c, rfl, hc, hr, hb⟩
theorem lpost_blk {w w' : World} {l : List Int} {g k : Nat} (hl : l.length = k) (hB : Blk w' g 3 (ints l).toArray) (hb : Below w.heap.size w w') : LPost w w' (.returned (.tuple #[.slice (some ⟨g, 0, none⟩) k k, .int .i64 0])) (l, 0) := lpost_row hl (Nat.le_refl _) (gblk_ints hB hl) hb
/-- A new block of one integer. -/
theorem s_one_own {N : Nat} (W : World) (x : Int) (h : N ≤ W.heap.size) : (W.alloc (.cells #[.int .i64 x] 3)).ownsRow N 3 1 (.slice (some ⟨W.heap.size, 0, none⟩) 1 1) 1 (ints [x]) :=
  ⟨rfl, Or.inr ⟨W.heap.size, 1, #[.int .i64 x], rfl, h, Blk.new W _ _, Nat.le_refl _, by unfold maxLen; omega, rfl, rfl⟩⟩
end Go.Proofs.Ytjdpogaaookoeaa
