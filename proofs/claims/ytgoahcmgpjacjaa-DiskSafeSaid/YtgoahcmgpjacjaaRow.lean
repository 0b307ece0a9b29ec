/-
  Over any program: a row of bytes in a block, read and written byte by byte; '[]byte(s)' lays one, string(b) reads it.
-/
import Derived.Test.YtgoahcmgpjacjaaMore
import Derived.Laws.IdiomStrings
namespace Go.Proofs.Ytgoahcmgpjacjaa
set_option linter.unusedSimpArgs false
set_option linter.unusedVariables false
open Go.ChangeShapes Go.WideShapes Go.ChangeAt Go.RowKit Go.Joins Go.Deep
structure BRow (w : World) (g : Nat) (l : List UInt8) : Prop where
  lt : g < w.heap.size
  cell : ∀ j b, l[j]? = some b → w.cell? ⟨g, j, none⟩ = some (.int .u8 (b.toNat : Int))
  free : ∀ j, j < l.length → w.frozen? ⟨g, j, none⟩ = false
section
variable {w w' : World} {g : Nat} {l : List UInt8}
theorem BRow.below {B : Nat} (h : BRow w g l) (hb : Below B w w') (hg : g < B) : BRow w' g l :=
  ⟨Nat.lt_of_lt_of_le h.lt hb.size, fun j b hj => (hb.cell (p := ⟨g, j, none⟩) hg).trans (h.cell j b hj), fun j hj => (hb.frozen (p := ⟨g, j, none⟩) hg).trans (h.free j hj)⟩
theorem BRow.drew (h : BRow w g l) : BRow w.drew g l := ⟨h.lt, h.cell, h.free⟩
theorem BRow.drewN (h : BRow w g l) (n : Nat) : BRow (w.drewN n) g l := ⟨h.lt, h.cell, h.free⟩
theorem BRow.set (h : BRow w g l) (i : Nat) (b : UInt8) (hi : i < l.length) : BRow (w.setCell ⟨g, i, none⟩ (.int .u8 (b.toNat : Int))) g (l.set i b) := by
  obtain ⟨c0, hc0⟩ : ∃ c, l[i]? = some c := ⟨l[i], List.getElem?_eq_getElem hi⟩
  have hold := h.cell i c0 hc0
  refine ⟨by simpa [World.setCell] using h.lt, fun j c hj => ?_, fun j hj => ?_⟩
  · rw [List.getElem?_set] at hj
    by_cases e : i = j
    · subst e
      rw [if_pos rfl, if_pos hi] at hj
      injection hj with hj
      subst hj
      exact World.cell?_setCell_same _ _ _ hold
    · rw [if_neg e] at hj
      rw [World.cell?_setCell_other _ _ _ _ (by intro e2; injection e2 with _ e3; exact e e3)]
      exact h.cell j c hj
  · rw [World.frozen?_setCell]
    exact h.free j (by simpa using hj)
theorem run_bytes_row {P : Program} (w : World) (src dst e : TypeId) (l : List UInt8) (hs : P.underlying src = some .string) (hd : P.underlying dst = some (.slice e)) (he : P.underlying e = some (.int .u8)) :
    ∃ cap W', (convert src dst (.string ⟨l.toArray⟩)).run P w = .ok (.slice (some ⟨w.heap.size, 0, none⟩) l.length cap) W' ∧ BRow W' w.heap.size l ∧ Below w.heap.size w W' ∧ l.length ≤ cap := by
  have h := run_bytes_of_string (P := P) w src dst e ⟨l.toArray⟩ hs hd he
  have hsz : (ByteArray.mk l.toArray).size = l.length := by rw [ByteArray.size_mk']; simp
  rw [hsz] at h
  refine ⟨_, _, h, ?_, ?_, ?_⟩
  · generalize grownCap w l.length 0 e = cp
    have hlen : (bytesRow ⟨l.toArray⟩ cp).size = l.length + (cp - l.length) := by simp [bytesRow, hsz]
    have hh : (w.drew.alloc (.cells (bytesRow ⟨l.toArray⟩ cp) e ((bytesRow ⟨l.toArray⟩ cp).size, (bytesRow ⟨l.toArray⟩ cp).size + 1))).heap[w.heap.size]? = some (.cells (bytesRow ⟨l.toArray⟩ cp) e ((bytesRow ⟨l.toArray⟩ cp).size, (bytesRow ⟨l.toArray⟩ cp).size + 1)) := heap_alloc_new w.drew _
    refine ⟨by show w.heap.size < (w.heap.push _).size; simp, fun j b hj => ?_, fun j hj => ?_⟩
    · rw [cell_of_row _ _ j _ e _ hh]
      have hjl : j < l.length := (List.getElem?_eq_some_iff.1 hj).1
      have hjb : l[j] = b := (List.getElem?_eq_some_iff.1 hj).2
      subst hjb
      simp [bytesRow, Array.getElem?_append, hjl]
    · simp only [World.frozen?, hh]
      rw [hlen]
      simp
      omega
  · exact (Below.refl _ _).drew.alloc (Nat.le_refl _) _
  · exact grownCap_ge w _ _ _
theorem BRow.str {P : Program} {src dst e : TypeId} (hs : P.underlying src = some (.slice e)) (he : P.underlying e = some (.int .u8)) (hd : P.underlying dst = some .string) (h : BRow w g l) (n c : Nat) (hn : l.length = n) :
    (convert src dst (.slice (some ⟨g, 0, none⟩) n c)).run P w = .ok (.string ⟨l.toArray⟩) w :=
  run_bytes_str hs he hd w g 0 c l n hn fun j b hj => by rw [Nat.zero_add]; exact h.cell j b hj
end
end Go.Proofs.Ytgoahcmgpjacjaa
