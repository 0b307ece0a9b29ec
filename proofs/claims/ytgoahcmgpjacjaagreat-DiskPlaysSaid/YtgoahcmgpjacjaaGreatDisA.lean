/-
  Layer 20: a disk's rows in memory (entries, changes, files: cells of two and of three) (ahead of the code's landing).
-/
import Derived.Test.YtgoahcmgpjacjaaGreatGb
import Derived.Test.YtgoahcmgpjacjaaGreatGa
import Derived.Test.YtgoahcmgpjacjaaGreatRows
namespace Go.Proofs.YtgoahcmgpjacjaaGreat
set_option linter.unusedSimpArgs false
set_option linter.unusedVariables false
open Go.ChangeShapes Go.WideShapes Go.ChangeAt Go.RowKit Go.Joins Go.Deep
section
variable {α : Type} (f : α → List Value) (m : Nat) (hm : ∀ x, (f x).length = m)
def dcs (f : α → List Value) (l : List α) : List Value := l.flatMap f
theorem dcs_app (a b : List α) : dcs f (a ++ b) = dcs f a ++ dcs f b := by simp [dcs]
include hm
theorem dcs_length (l : List α) : (dcs f l).length = l.length * m := by
  induction l with
  | nil => simp [dcs]
  | cons x l ih =>
    show (f x ++ dcs f l).length = _
    rw [List.length_append, ih, hm, List.length_cons, Nat.add_mul, Nat.one_mul, Nat.add_comm]
theorem dcs_at (l : List α) : ∀ (i : Nat) (h : i < l.length) (j : Nat), j < m → (dcs f l)[i * m + j]? = (f l[i])[j]? := by
  induction l with
  | nil => intro i h; cases h
  | cons x l ih =>
    intro i h j hj
    show (f x ++ dcs f l)[i * m + j]? = _
    cases i with
    | zero =>
      rw [Nat.zero_mul, Nat.zero_add, List.getElem?_append_left (by rw [hm]; exact hj)]
      rfl
    | succ i =>
      rw [List.getElem?_append_right (by rw [hm, Nat.add_mul]; omega), hm, show (i + 1) * m + j - m = i * m + j from by rw [Nat.add_mul]; omega]
      exact ih i (by simpa using h) j hj
theorem dcs_take (l : List α) (k : Nat) (hk : k ≤ l.length) : dcs f (l.take k) = (dcs f l).take (k * m) := by
  have h1 := dcs_app f (l.take k) (l.drop k)
  rw [List.take_append_drop] at h1
  have h2 : (dcs f (l.take k)).length = k * m := by rw [dcs_length f m hm, List.length_take, Nat.min_eq_left hk]
  rw [h1, ← h2, List.take_left]
theorem dcs_drop (l : List α) (k : Nat) (hk : k ≤ l.length) : dcs f (l.drop k) = (dcs f l).drop (k * m) := by
  have h1 := dcs_app f (l.take k) (l.drop k)
  rw [List.take_append_drop] at h1
  have h2 : (dcs f (l.take k)).length = k * m := by rw [dcs_length f m hm, List.length_take, Nat.min_eq_left hk]
  rw [h1, ← h2, List.drop_left]
theorem dcs_cells {w : World} {B n : Nat} {A : Option Addr} {l : List α} (hr : Reads w B m A n (dcs f l)) (hl : l.length = n) (hn : 0 < n) :
    ∃ b off, A = some ⟨b, off, none⟩ ∧ b < B ∧ ∀ i (hi : i < l.length) (j : Nat) (u : Value), j < m → (f l[i])[j]? = some u → w.cell? ⟨b, off + (i * m + j), none⟩ = some u := by
  obtain ⟨b, off, e, hb, hc⟩ := hr.2 hn
  refine ⟨b, off, e, hb, fun i hi j u hj hu => hc _ _ ?_⟩
  rw [dcs_at f m hm l i hi j hj]
  exact hu
theorem Reads.top {w : World} {B n k : Nat} {A : Option Addr} {l : List α} (hr : Reads w B m A n (dcs f l)) (hl : l.length = n) (hk : k ≤ n) : Reads w B m A k (dcs f (l.take k)) := by
  refine ⟨by rw [dcs_length f m hm, List.length_take, hl, Nat.min_eq_left hk], fun h => ?_⟩
  obtain ⟨b, off, e, hb, hc⟩ := hr.2 (by omega)
  refine ⟨b, off, e, hb, fun j u hj => hc j u ?_⟩
  rw [dcs_take f m hm l k (by omega)] at hj
  rw [List.getElem?_take] at hj
  split at hj
  · exact hj
  · cases hj
end
abbrev efc (e : Ent) : List Value := [.string ⟨e.1.toArray⟩, .int .i64 e.2]
abbrev cfc (c : Chg) : List Value := [.string ⟨c.1.toArray⟩, .string ⟨c.2.1.toArray⟩, .int .i64 c.2.2]
abbrev ffc (f : Fl) : List Value := [.string ⟨f.1.toArray⟩, .string ⟨f.2.toArray⟩]
theorem efc_len (e : Ent) : (efc e).length = 2 := rfl
theorem cfc_len (c : Chg) : (cfc c).length = 3 := rfl
theorem ffc_len (f : Fl) : (ffc f).length = 2 := rfl
theorem ent_cells {w : World} {B n : Nat} {A : Option Addr} {l : List Ent} (hr : Reads w B 2 A n (dcs efc l)) (hl : l.length = n) (hn : 0 < n) :
    ∃ b off, A = some ⟨b, off, none⟩ ∧ b < B ∧ ∀ i (hi : i < l.length), w.cell? ⟨b, off + i * 2, none⟩ = some (.string ⟨l[i].1.toArray⟩) ∧ w.cell? ⟨b, off + i * 2 + 1, none⟩ = some (.int .i64 l[i].2) := by
  obtain ⟨b, off, e, hb, hc⟩ := dcs_cells efc 2 efc_len hr hl hn
  exact ⟨b, off, e, hb, fun i hi => ⟨hc i hi 0 _ (by omega) rfl, hc i hi 1 _ (by omega) rfl⟩⟩
theorem fl_cells {w : World} {B n : Nat} {A : Option Addr} {l : List Fl} (hr : Reads w B 2 A n (dcs ffc l)) (hl : l.length = n) (hn : 0 < n) :
    ∃ b off, A = some ⟨b, off, none⟩ ∧ b < B ∧ ∀ i (hi : i < l.length), w.cell? ⟨b, off + i * 2, none⟩ = some (.string ⟨l[i].1.toArray⟩) ∧ w.cell? ⟨b, off + i * 2 + 1, none⟩ = some (.string ⟨l[i].2.toArray⟩) := by
  obtain ⟨b, off, e, hb, hc⟩ := dcs_cells ffc 2 ffc_len hr hl hn
  exact ⟨b, off, e, hb, fun i hi => ⟨hc i hi 0 _ (by omega) rfl, hc i hi 1 _ (by omega) rfl⟩⟩
theorem chg_cells {w : World} {B n : Nat} {A : Option Addr} {l : List Chg} (hr : Reads w B 3 A n (dcs cfc l)) (hl : l.length = n) (hn : 0 < n) :
    ∃ b off, A = some ⟨b, off, none⟩ ∧ b < B ∧ ∀ i (hi : i < l.length), w.cell? ⟨b, off + i * 3, none⟩ = some (.string ⟨l[i].1.toArray⟩) ∧ w.cell? ⟨b, off + i * 3 + 1, none⟩ = some (.string ⟨l[i].2.1.toArray⟩) ∧ w.cell? ⟨b, off + i * 3 + 2, none⟩ = some (.int .i64 l[i].2.2) := by
  obtain ⟨b, off, e, hb, hc⟩ := dcs_cells cfc 3 cfc_len hr hl hn
  exact ⟨b, off, e, hb, fun i hi => ⟨hc i hi 0 _ (by omega) rfl, hc i hi 1 _ (by omega) rfl, hc i hi 2 _ (by omega) rfl⟩⟩
theorem efc_cell : ∀ (l : List Ent), ∀ u ∈ dcs efc l, u.oneCell' = true := fun l u hu => by
  obtain ⟨e, _, h⟩ := List.mem_flatMap.1 hu
  simp only [List.mem_cons, List.not_mem_nil, or_false] at h
  rcases h with rfl | rfl <;> rfl
theorem cfc_cell : ∀ (l : List Chg), ∀ u ∈ dcs cfc l, u.oneCell' = true := fun l u hu => by
  obtain ⟨e, _, h⟩ := List.mem_flatMap.1 hu
  simp only [List.mem_cons, List.not_mem_nil, or_false] at h
  rcases h with rfl | rfl | rfl <;> rfl
theorem ffc_cell : ∀ (l : List Fl), ∀ u ∈ dcs ffc l, u.oneCell' = true := fun l u hu => by
  obtain ⟨e, _, h⟩ := List.mem_flatMap.1 hu
  simp only [List.mem_cons, List.not_mem_nil, or_false] at h
  rcases h with rfl | rfl <;> rfl
theorem ent_info : (Tryz.prog.info? 94).map (fun i => (i.zero, i.size, i.bytes)) = some (some (.agg #[.string ⟨#[]⟩, .int .i64 0]), 2, 24) := by kernel_rfl
theorem chg_info : (Tryz.prog.info? 96).map (fun i => (i.zero, i.size, i.bytes)) = some (some (.agg #[.string ⟨#[]⟩, .string ⟨#[]⟩, .int .i64 0]), 3, 40) := by kernel_rfl
theorem flr_info : (Tryz.prog.info? 91).map (fun i => (i.zero, i.size, i.bytes)) = some (some (.agg #[.string ⟨#[]⟩, .string ⟨#[]⟩]), 2, 32) := by kernel_rfl
theorem dReads_on {w w' : World} {size n : Nat} {A : Option Addr} {xs : List Value} (h : Reads w w.heap.size size A n xs) (hb : Below w.heap.size w w') : Reads w' w'.heap.size size A n xs := (h.below hb).more hb.size
def AN (w w' : World) (A0 A : Option Addr) : Prop := A = A0 ∨ A = none ∨ ∃ b off, A = some ⟨b, off, none⟩ ∧ w.heap.size ≤ b ∧ b < w'.heap.size
theorem AN.mono {w w1 w2 w3 : World} {A0 A : Option Addr} (h : AN w1 w2 A0 A) (hs : w.heap.size ≤ w1.heap.size) (ht : w2.heap.size ≤ w3.heap.size) : AN w w3 A0 A := by
  rcases h with h | h | ⟨b, off, h1, h2, h3⟩
  · exact .inl h
  · exact .inr (.inl h)
  · exact .inr (.inr ⟨b, off, h1, Nat.le_trans hs h2, Nat.lt_of_lt_of_le h3 ht⟩)
theorem AN.any {w w' : World} {A0 A : Option Addr} (h : AN w w' none A) : AN w w' A0 A := by
  rcases h with h | h | h
  · exact .inr (.inl h)
  · exact .inr (.inl h)
  · exact .inr (.inr h)
theorem owns_new {W w : World} {N n m k : Nat} {t : TypeId} {A : Option Addr} {c : Nat} {xs : List Value} (h : W.ownsRow N t m (.slice A k c) n xs) (hN : w.heap.size ≤ N) : AN w W none A := by
  have hlt := h.lt
  obtain ⟨-, h2⟩ := h
  rcases h2 with ⟨h3, -⟩ | ⟨g, cap, cur, h3, h4, -⟩
  · injection h3 with h3
    exact .inl h3
  · injection h3 with h3
    subst h3
    exact .inr (.inr ⟨g, 0, rfl, Nat.le_trans hN h4, (hlt g rfl).2⟩)
def DRow {α : Type} (A0 : Option Addr) (f : α → List Value) (m : Nat) (w w' : World) (e : Ending) (l : List α) : Prop := ∃ A c, e = .returned (.slice A l.length c) ∧ l.length ≤ c ∧ Reads w' w'.heap.size m A l.length (dcs f l) ∧ Below w.heap.size w w' ∧ AN w w' A0 A
structure DOwn {α : Type} (t : TypeId) (f : α → List Value) (m : Nat) (w wr : World) (v : Value) (l : List α) : Prop where
  own : wr.ownsRow w.heap.size t m v l.length (dcs f l)
  below : Below w.heap.size w wr
theorem DOwn.on {α : Type} {t : TypeId} {f : α → List Value} {m : Nat} {w w1 w2 : World} {v : Value} {l : List α} (h : DOwn t f m w w1 v l) (hb : Below w1.heap.size w1 w2) : DOwn t f m w w2 v l :=
  ⟨owns_below h.own hb (Nat.le_refl _), h.below.trans (hb.mono h.below.size)⟩
theorem DOwn.add {α : Type} {t : TypeId} {f : α → List Value} {m : Nat} {w w1 w2 : World} {v v' : Value} {l k : List α} (h : DOwn t f m w w1 v l) {N : Nat} (hN : N = l.length + k.length) (ho : w2.ownsRow w.heap.size t m v' N (dcs f l ++ dcs f k)) (hg : w1.grownBy w2 v.ownBlock) : DOwn t f m w w2 v' (l ++ k) :=
  ⟨by rw [List.length_append, dcs_app, ← hN]; exact ho, h.below.grown hg h.below.size fun b hb => (h.own.lt b hb).1⟩
theorem DOwn.row {α : Type} {t : TypeId} {f : α → List Value} {m : Nat} {w w1 : World} {v : Value} {l : List α} (h : DOwn t f m w w1 v l) : DRow none f m w w1 (.returned v) l := by
  obtain ⟨A, c, hv, hc, hr⟩ := owns_cells h.own
  have ho := h.own
  rw [hv] at ho
  exact ⟨A, c, by rw [hv], hc, hr, h.below, owns_new ho (Nat.le_refl _)⟩
end Go.Proofs.YtgoahcmgpjacjaaGreat
