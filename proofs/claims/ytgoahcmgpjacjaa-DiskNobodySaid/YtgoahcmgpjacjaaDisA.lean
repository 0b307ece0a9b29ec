/-
  Layer 20: a disk's rows in memory (entries, changes, files: cells of two and of three) (ahead of the code's landing).
-/
import Derived.Test.YtgoahcmgpjacjaaDisM
import Derived.Test.YtgoahcmgpjacjaaMore
import Derived.Test.YtgoahcmgpjacjaaRows
namespace Go.Proofs.Ytgoahcmgpjacjaa
set_option linter.unusedSimpArgs false
set_option linter.unusedVariables false
open Go.ChangeShapes Go.WideShapes Go.ChangeAt Go.RowKit Go.Joins Go.Deep
section
variable {α : Type} (f : α → List Value) (m : Nat) (hm : ∀ x, (f x).length = m)
def dcs (f : α → List Value) (l : List α) : List Value := l.flatMap f
theorem dcs_app (a b : List α) : dcs f (a ++ b) = dcs f a ++ dcs f b := by simp [dcs]
theorem dcs_one (x : α) : dcs f [x] = f x := by simp [dcs]
include hm
theorem dcs_length (l : List α) : (dcs f l).length = l.length * m := by
  induction l with
  | nil => simp [dcs]
  | cons x l ih =>
    show (f x ++ dcs f l).length = _
    rw [List.length_append, ih, hm, List.length_cons, Nat.add_mul, Nat.one_mul, Nat.add_comm]
theorem dcs_at (l : List α) : ∀ (i : Nat) (h : i < l.length) (j : Nat), j < m → (dcs f l)[i * m + j]? = (f l[i])[j]? := by
  induction l with
  | nil => intro i h; cases h
  | cons x l ih =>
    intro i h j hj
    show (f x ++ dcs f l)[i * m + j]? = _
    cases i with
    | zero =>
      rw [Nat.zero_mul, Nat.zero_add, List.getElem?_append_left (by rw [hm]; exact hj)]
      rfl
    | succ i =>
      rw [List.getElem?_append_right (by rw [hm, Nat.add_mul]; omega), hm, show (i + 1) * m + j - m = i * m + j from by rw [Nat.add_mul]; omega]
      exact ih i (by simpa using h) j hj
end
theorem dReads_on {w w' : World} {size n : Nat} {A : Option Addr} {xs : List Value} (h : Reads w w.heap.size size A n xs) (hb : Below w.heap.size w w') : Reads w' w'.heap.size size A n xs := (h.below hb).more hb.size
def AN (w w' : World) (A0 A : Option Addr) : Prop := A = A0 ∨ A = none ∨ ∃ b off, A = some ⟨b, off, none⟩ ∧ w.heap.size ≤ b ∧ b < w'.heap.size
theorem AN.mono {w w1 w2 w3 : World} {A0 A : Option Addr} (h : AN w1 w2 A0 A) (hs : w.heap.size ≤ w1.heap.size) (ht : w2.heap.size ≤ w3.heap.size) : AN w w3 A0 A := by
  rcases h with h | h | ⟨b, off, h1, h2, h3⟩
  · exact .inl h
  · exact .inr (.inl h)
  · exact .inr (.inr ⟨b, off, h1, Nat.le_trans hs h2, Nat.lt_of_lt_of_le h3 ht⟩)
theorem AN.any {w w' : World} {A0 A : Option Addr} (h : AN w w' none A) : AN w w' A0 A := by
  rcases h with h | h | h
  · exact .inr (.inl h)
  · exact .inr (.inl h)
  · exact .inr (.inr h)
theorem owns_new {W w : World} {N n m k : Nat} {t : TypeId} {A : Option Addr} {c : Nat} {xs : List Value} (h : W.ownsRow N t m (.slice A k c) n xs) (hN : w.heap.size ≤ N) : AN w W none A := by
  have hlt := h.lt
  obtain ⟨-, h2⟩ := h
  rcases h2 with ⟨h3, -⟩ | ⟨g, cap, cur, h3, h4, -⟩
  · injection h3 with h3
    exact .inl h3
  · injection h3 with h3
    subst h3
    exact .inr (.inr ⟨g, 0, rfl, Nat.le_trans hN h4, (hlt g rfl).2⟩)
def DRow {α : Type} (A0 : Option Addr) (f : α → List Value) (m : Nat) (w w' : World) (e : Ending) (l : List α) : Prop := ∃ A c, e = .returned (.slice A l.length c) ∧ l.length ≤ c ∧ Reads w' w'.heap.size m A l.length (dcs f l) ∧ Below w.heap.size w w' ∧ AN w w' A0 A
structure DOwn {α : Type} (t : TypeId) (f : α → List Value) (m : Nat) (w wr : World) (v : Value) (l : List α) : Prop where
  own : wr.ownsRow w.heap.size t m v l.length (dcs f l)
  below : Below w.heap.size w wr
theorem DOwn.on {α : Type} {t : TypeId} {f : α → List Value} {m : Nat} {w w1 w2 : World} {v : Value} {l : List α} (h : DOwn t f m w w1 v l) (hb : Below w1.heap.size w1 w2) : DOwn t f m w w2 v l :=
  ⟨owns_below h.own hb (Nat.le_refl _), h.below.trans (hb.mono h.below.size)⟩
theorem DOwn.add {α : Type} {t : TypeId} {f : α → List Value} {m : Nat} {w w1 w2 : World} {v v' : Value} {l k : List α} (h : DOwn t f m w w1 v l) {N : Nat} (hN : N = l.length + k.length) (ho : w2.ownsRow w.heap.size t m v' N (dcs f l ++ dcs f k)) (hg : w1.grownBy w2 v.ownBlock) : DOwn t f m w w2 v' (l ++ k) :=
  ⟨by rw [List.length_append, dcs_app, ← hN]; exact ho, h.below.grown hg h.below.size fun b hb => (h.own.lt b hb).1⟩
theorem DOwn.row {α : Type} {t : TypeId} {f : α → List Value} {m : Nat} {w w1 : World} {v : Value} {l : List α} (h : DOwn t f m w w1 v l) : DRow none f m w w1 (.returned v) l := by
  obtain ⟨A, c, hv, hc, hr⟩ := owns_cells h.own
  have ho := h.own
  rw [hv] at ho
  exact ⟨A, c, by rw [hv], hc, hr, h.below, owns_new ho (Nat.le_refl _)⟩
end Go.Proofs.Ytgoahcmgpjacjaa
