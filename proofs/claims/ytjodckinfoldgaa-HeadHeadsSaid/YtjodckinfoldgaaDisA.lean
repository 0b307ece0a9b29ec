/-
  Layer 20: a disk's rows in memory (entries, changes, files: cells of two and of three) (ahead of the code's landing).
-/
import Derived.Test.YtjodckinfoldgaaBytes
import Derived.Test.YtjodckinfoldgaaMore
import Derived.Test.YtjodckinfoldgaaRows
namespace Go.Proofs.Ytjodckinfoldgaa
set_option linter.unusedSimpArgs false
set_option linter.unusedVariables false
open Go.ChangeShapes Go.WideShapes Go.ChangeAt Go.RowKit Go.Joins Go.Deep
section
variable {α : Type} (f : α → List Value) (m : Nat) (hm : ∀ x, (f x).length = m)
def dcs (f : α → List Value) (l : List α) : List Value := l.flatMap f
theorem dcs_app (a b : List α) : dcs f (a ++ b) = dcs f a ++ dcs f b := by simp [dcs]
include hm
theorem dcs_length (l : List α) : (dcs f l).length = l.length * m := by
  induction l with
  | nil => simp [dcs]
  | cons x l ih =>
    show (f x ++ dcs f l).length = _
    rw [List.length_append, ih, hm, List.length_cons, Nat.add_mul, Nat.one_mul, Nat.add_comm]
theorem dcs_at (l : List α) : ∀ (i : Nat) (h : i < l.length) (j : Nat), j < m → (dcs f l)[i * m + j]? = (f l[i])[j]? := by
  induction l with
  | nil => intro i h; cases h
  | cons x l ih =>
    intro i h j hj
    show (f x ++ dcs f l)[i * m + j]? = _
    cases i with
    | zero =>
      rw [Nat.zero_mul, Nat.zero_add, List.getElem?_append_left (by rw [hm]; exact hj)]
      rfl
    | succ i =>
      rw [List.getElem?_append_right (by rw [hm, Nat.add_mul]; omega), hm, show (i + 1) * m + j - m = i * m + j from by rw [Nat.add_mul]; omega]
      exact ih i (by simpa using h) j hj
theorem dcs_take (l : List α) (k : Nat) (hk : k ≤ l.length) : dcs f (l.take k) = (dcs f l).take (k * m) := by
  have h1 := dcs_app f (l.take k) (l.drop k)
  rw [List.take_append_drop] at h1
  have h2 : (dcs f (l.take k)).length = k * m := by rw [dcs_length f m hm, List.length_take, Nat.min_eq_left hk]
  rw [h1, ← h2, List.take_left]
theorem dcs_drop (l : List α) (k : Nat) (hk : k ≤ l.length) : dcs f (l.drop k) = (dcs f l).drop (k * m) := by
  have h1 := dcs_app f (l.take k) (l.drop k)
  rw [List.take_append_drop] at h1
  have h2 : (dcs f (l.take k)).length = k * m := by rw [dcs_length f m hm, List.length_take, Nat.min_eq_left hk]
  rw [h1, ← h2, List.drop_left]
theorem dcs_cells {w : World} {B n : Nat} {A : Option Addr} {l : List α} (hr : Reads w B m A n (dcs f l)) (hl : l.length = n) (hn : 0 < n) :
    ∃ b off, A = some ⟨b, off, none⟩ ∧ b < B ∧ ∀ i (hi : i < l.length) (j : Nat) (u : Value), j < m → (f l[i])[j]? = some u → w.cell? ⟨b, off + (i * m + j), none⟩ = some u := by
  obtain ⟨b, off, e, hb, hc⟩ := hr.2 hn
  refine ⟨b, off, e, hb, fun i hi j u hj hu => hc _ _ ?_⟩
  rw [dcs_at f m hm l i hi j hj]
  exact hu
theorem Reads.top {w : World} {B n k : Nat} {A : Option Addr} {l : List α} (hr : Reads w B m A n (dcs f l)) (hl : l.length = n) (hk : k ≤ n) : Reads w B m A k (dcs f (l.take k)) := by
  refine ⟨by rw [dcs_length f m hm, List.length_take, hl, Nat.min_eq_left hk], fun h => ?_⟩
  obtain ⟨b, off, e, hb, hc⟩ := hr.2 (by omega)
  refine ⟨b, off, e, hb, fun j u hj => hc j u ?_⟩
  rw [dcs_take f m hm l k (by omega)] at hj
  rw [List.getElem?_take] at hj
  split at hj
  · exact hj
  · cases hj
end
theorem dReads_on {w w' : World} {size n : Nat} {A : Option Addr} {xs : List Value} (h : Reads w w.heap.size size A n xs) (hb : Below w.heap.size w w') : Reads w' w'.heap.size size A n xs := (h.below hb).more hb.size
structure DOwn {α : Type} (t : TypeId) (f : α → List Value) (m : Nat) (w wr : World) (v : Value) (l : List α) : Prop where
  own : wr.ownsRow w.heap.size t m v l.length (dcs f l)
  below : Below w.heap.size w wr
theorem DOwn.on {α : Type} {t : TypeId} {f : α → List Value} {m : Nat} {w w1 w2 : World} {v : Value} {l : List α} (h : DOwn t f m w w1 v l) (hb : Below w1.heap.size w1 w2) : DOwn t f m w w2 v l :=
  ⟨owns_below h.own hb (Nat.le_refl _), h.below.trans (hb.mono h.below.size)⟩
theorem DOwn.add {α : Type} {t : TypeId} {f : α → List Value} {m : Nat} {w w1 w2 : World} {v v' : Value} {l k : List α} (h : DOwn t f m w w1 v l) {N : Nat} (hN : N = l.length + k.length) (ho : w2.ownsRow w.heap.size t m v' N (dcs f l ++ dcs f k)) (hg : w1.grownBy w2 v.ownBlock) : DOwn t f m w w2 v' (l ++ k) :=
  ⟨by rw [List.length_append, dcs_app, ← hN]; exact ho, h.below.grown hg h.below.size fun b hb => (h.own.lt b hb).1⟩
end Go.Proofs.Ytjodckinfoldgaa
