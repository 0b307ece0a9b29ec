/-
  Slices, one behind the other: sources of slices.Concat.
-/
import Derived.Test.YtehpnfijpddcfaaGrow
import Derived.Test.YtehpnfijpddcfaaRows
import Derived.Shelf.Spec.SlicesGrow
namespace Go.Proofs.Ytehpnfijpddcfaa
set_option linter.unusedSimpArgs false
set_option linter.unusedVariables false
open Go.ChangeShapes Go.WideShapes Go.ChangeAt Go.RowKit Go.Joins Go.Deep

/-- A slice and what its cells hold. -/
structure CSrc where
  A : Option Addr
  n : Nat
  c : Nat
  xs : List Value
def CSum (l : List CSrc) : Nat := (l.map (·.n)).sum
def CAll (l : List CSrc) : List Value := (l.map (·.xs)).flatten
/-- A slice of slices. -/
def CRow (W : World) (A : Option Addr) (l : List CSrc) : Prop := 0 < l.length → ∃ b off, A = some ⟨b, off, none⟩ ∧ b < W.heap.size ∧ ∀ i (h : i < l.length), W.cell? ⟨b, off + i, none⟩ = some (.slice l[i].A l[i].n l[i].c)
theorem CSum_step (l : List CSrc) (i : Nat) (h : i < l.length) : CSum (l.take (i + 1)) = CSum (l.take i) + l[i].n := by
  unfold CSum
  rw [List.take_succ_eq_append_getElem h, List.map_append, List.sum_append_nat]
  rfl
theorem CAll_step (l : List CSrc) (i : Nat) (h : i < l.length) : CAll (l.take (i + 1)) = CAll (l.take i) ++ l[i].xs := by
  unfold CAll
  rw [List.take_succ_eq_append_getElem h, List.map_append, List.flatten_append]
  show _ ++ (l[i].xs ++ []) = _
  rw [List.append_nil]
theorem CSum_take (l : List CSrc) (i : Nat) : CSum (l.take i) ≤ CSum l := by
  have h : CSum l = CSum (l.take i) + CSum (l.drop i) := by
    unfold CSum
    rw [← List.sum_append_nat, ← List.map_append, List.take_append_drop]
  omega
theorem zeroCells_size (z : Array Value) (n : Nat) : (Builtin.zeroCells z n).size = n * z.size := by
  unfold Builtin.zeroCells
  simp [Nat.mul_comm]
/-- What an append of the call's own turns lies at the base or behind. -/
theorem own_below {w w' : World} {base n size : Nat} {e : TypeId} {v : Value} {xs : List Value} (h : w.ownsRow base e size v n xs) (hg : w.grownBy w' v.ownBlock) (hb : base ≤ w.heap.size) : Below base w w' := by
  refine ⟨hg.os, hg.tape, hg.output, hg.size, fun i hi => hg.block i (by omega) ?_⟩
  rcases h.2 with ⟨rfl, _⟩ | ⟨g, cap, cur, rfl, hbg, _⟩
  · intro e; cases e
  · intro e
    injection e with e
    have e' : i = g := e
    omega
end Go.Proofs.Ytehpnfijpddcfaa
