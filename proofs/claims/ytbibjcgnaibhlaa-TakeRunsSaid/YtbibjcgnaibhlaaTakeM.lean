/-
  Layer 3, plain: what is taken of bytes piece by piece, up to the first fault; that parts are the whole, that the pieces are what stands there, and that what stands behind plays no part.
-/
import Derived.Test.YtbibjcgnaibhlaaVarM
namespace Go.Proofs.Ytbibjcgnaibhlaa
set_option linter.unusedSimpArgs false
set_option linter.unusedVariables false
open Go.ChangeShapes Go.WideShapes Go.ChangeAt Go.RowKit Go.Joins Go.Deep

/-- A text of n bytes from a place on: it, the place behind it, the error. -/
def textF (l : List UInt8) (p n : Int) : List UInt8 × Int × Int :=
  if n < 0 then ([], 0, 2) else if (l.length : Int) - p < n then ([], 0, 4) else ((l.drop p.toNat).take n.toNat, p + n, 0)
/-- A piece: what is got (a number, a text), the place behind it, the error. -/
def pieceF (l : List UInt8) (p k n : Int) : (Int × List UInt8) × Int × Int :=
  if k = 1 then (((unfixF l p 1).1, []), (unfixF l p 1).2.1, (unfixF l p 1).2.2)
  else if k = 2 then (((getF l p).1, []), (getF l p).2.1, (getF l p).2.2)
  else if k = 3 then (((unfixF l p n).1, []), (unfixF l p n).2.1, (unfixF l p n).2.2)
  else if k = 4 then ((0, (textF l p n).1), (textF l p n).2.1, (textF l p n).2.2)
  else if k = 5 then ((0, l.drop p.toNat), l.length, 0)
  else if k = 6 then (if p < l.length then ((0, []), 0, 6) else ((0, []), p, 0))
  else ((0, []), 0, 2)
/-- Pieces, one behind the other, up to the first fault: what was got, the place, the error. -/
def runF (l : List UInt8) : Int → List (Int × Int) → List (Int × List UInt8) × Int × Int
  | p, [] => ([], p, 0)
  | p, w :: ws => if (pieceF l p w.1 w.2).2.2 = 0 then ((pieceF l p w.1 w.2).1 :: (runF l (pieceF l p w.1 w.2).2.1 ws).1, (runF l (pieceF l p w.1 w.2).2.1 ws).2) else ([], p, (pieceF l p w.1 w.2).2.2)

theorem runF_ok {l : List UInt8} {p : Int} {w : Int × Int} (h : (pieceF l p w.1 w.2).2.2 = 0) (ws : List (Int × Int)) : runF l p (w :: ws) = ((pieceF l p w.1 w.2).1 :: (runF l (pieceF l p w.1 w.2).2.1 ws).1, (runF l (pieceF l p w.1 w.2).2.1 ws).2) := by rw [runF, if_pos h]
theorem runF_no {l : List UInt8} {p : Int} {w : Int × Int} (h : (pieceF l p w.1 w.2).2.2 ≠ 0) (ws : List (Int × Int)) : runF l p (w :: ws) = ([], p, (pieceF l p w.1 w.2).2.2) := by rw [runF, if_neg h]

theorem getF_ok' {l : List UInt8} {p : Int} (h : (getF l p).2.2 = 0) : 0 ≤ p ∧ p < (getF l p).2.1 ∧ (getF l p).2.1 ≤ l.length ∧ 0 ≤ (getF l p).1 ∧ (getF l p).1 < 9223372036854775808 := by
  unfold getF at h ⊢
  by_cases hp : 0 ≤ p ∧ p ≤ l.length
  · rw [if_pos hp] at h ⊢
    by_cases h2 : (getR (l.drop p.toNat)).2.2 = 0
    · rw [if_pos h2]
      obtain ⟨m, hm, e1, e2, e3, _⟩ := getR_ok _ h2
      rw [List.length_drop] at e3
      simp only
      omega
    · rw [if_neg h2] at h
      exact absurd h h2
  · rw [if_neg hp] at h
    simp at h
theorem getF_no {l : List UInt8} {p : Int} (h : (getF l p).2.2 ≠ 0) : (getF l p).1 = 0 ∧ (getF l p).2.1 = 0 := by
  unfold getF at h ⊢
  by_cases hp : 0 ≤ p ∧ p ≤ l.length
  · rw [if_pos hp] at h ⊢
    by_cases h2 : (getR (l.drop p.toNat)).2.2 = 0
    · rw [if_pos h2] at h
      simp at h
    · rw [if_neg h2]
      simp
  · rw [if_neg hp]
    simp
theorem unfixF_ok {l : List UInt8} {p n : Int} (h : (unfixF l p n).2.2 = 0) : 0 ≤ p ∧ 1 ≤ n ∧ n ≤ 8 ∧ p + n ≤ l.length ∧ (unfixF l p n).2.1 = p + n ∧ (unfixF l p n).1 = val8 ((l.drop p.toNat).take n.toNat) ∧ 0 ≤ (unfixF l p n).1 ∧ (unfixF l p n).1 < 9223372036854775808 := by
  unfold unfixF at h ⊢
  by_cases hp : 1 ≤ n ∧ n ≤ 8 ∧ 0 ≤ p ∧ p ≤ l.length
  · rw [if_pos hp] at h ⊢
    by_cases h2 : l.length < p + n
    · rw [if_pos h2] at h
      simp at h
    · rw [if_neg h2] at h ⊢
      by_cases h3 : 9223372036854775808 ≤ val8 ((l.drop p.toNat).take n.toNat)
      · rw [if_pos h3] at h
        simp at h
      · rw [if_neg h3]
        exact ⟨hp.2.2.1, hp.1, hp.2.1, by omega, rfl, rfl, by show (0 : Int) ≤ ((val8 _ : Nat) : Int); omega, by show ((val8 _ : Nat) : Int) < _; omega⟩
  · rw [if_neg hp] at h
    simp at h
theorem unfixF_no {l : List UInt8} {p n : Int} (h : (unfixF l p n).2.2 ≠ 0) : (unfixF l p n).1 = 0 ∧ (unfixF l p n).2.1 = 0 := by
  unfold unfixF at h ⊢
  repeat' split
  all_goals simp_all
theorem textF_ok {l : List UInt8} {p n : Int} (h : (textF l p n).2.2 = 0) : 0 ≤ n ∧ p + n ≤ l.length ∧ (textF l p n).2.1 = p + n ∧ (textF l p n).1 = (l.drop p.toNat).take n.toNat := by
  unfold textF at h ⊢
  by_cases h1 : n < 0
  · rw [if_pos h1] at h; simp at h
  · rw [if_neg h1] at h ⊢
    by_cases h2 : (l.length : Int) - p < n
    · rw [if_pos h2] at h; simp at h
    · rw [if_neg h2]
      exact ⟨by omega, by omega, rfl, rfl⟩
theorem textF_no {l : List UInt8} {p n : Int} (h : (textF l p n).2.2 ≠ 0) : (textF l p n).1 = [] ∧ (textF l p n).2.1 = 0 := by
  unfold textF at h ⊢
  repeat' split
  all_goals simp_all

/-- A piece that is taken goes on, within the bytes. -/
theorem pieceF_ok {l : List UInt8} {p k n : Int} (h : (pieceF l p k n).2.2 = 0) (h0 : 0 ≤ p) (hp : p ≤ l.length) : p ≤ (pieceF l p k n).2.1 ∧ (pieceF l p k n).2.1 ≤ l.length := by
  unfold pieceF at h ⊢
  by_cases h1 : k = 1
  · rw [if_pos h1] at h ⊢
    have := unfixF_ok h
    simp only
    omega
  rw [if_neg h1] at h ⊢
  by_cases h2 : k = 2
  · rw [if_pos h2] at h ⊢
    have := getF_ok' h
    simp only
    omega
  rw [if_neg h2] at h ⊢
  by_cases h3 : k = 3
  · rw [if_pos h3] at h ⊢
    have := unfixF_ok h
    simp only
    omega
  rw [if_neg h3] at h ⊢
  by_cases h4 : k = 4
  · rw [if_pos h4] at h ⊢
    have := textF_ok h
    simp only
    omega
  rw [if_neg h4] at h ⊢
  by_cases h5 : k = 5
  · rw [if_pos h5] at h ⊢
    simp only
    omega
  rw [if_neg h5] at h ⊢
  by_cases h6 : k = 6
  · rw [if_pos h6] at h ⊢
    by_cases h7 : p < l.length
    · rw [if_pos h7] at h; simp at h
    · rw [if_neg h7]
      simp only
      omega
  rw [if_neg h6] at h
  simp at h

/-- A piece that is not taken is nothing. -/
theorem pieceF_no {l : List UInt8} {p k n : Int} (h : (pieceF l p k n).2.2 ≠ 0) : (pieceF l p k n).1 = (0, []) ∧ (pieceF l p k n).2.1 = 0 := by
  unfold pieceF at h ⊢
  by_cases h1 : k = 1
  · rw [if_pos h1] at h ⊢
    have := unfixF_no h
    simp [this]
  rw [if_neg h1] at h ⊢
  by_cases h2 : k = 2
  · rw [if_pos h2] at h ⊢
    have := getF_no h
    simp [this]
  rw [if_neg h2] at h ⊢
  by_cases h3 : k = 3
  · rw [if_pos h3] at h ⊢
    have := unfixF_no h
    simp [this]
  rw [if_neg h3] at h ⊢
  by_cases h4 : k = 4
  · rw [if_pos h4] at h ⊢
    have := textF_no h
    simp [this]
  rw [if_neg h4] at h ⊢
  by_cases h5 : k = 5
  · rw [if_pos h5] at h
    simp at h
  rw [if_neg h5] at h ⊢
  by_cases h6 : k = 6
  · rw [if_pos h6] at h ⊢
    by_cases h7 : p < l.length
    · rw [if_pos h7]; simp
    · rw [if_neg h7] at h; simp at h
  rw [if_neg h6]
  simp

theorem runF_le {l : List UInt8} : ∀ (ws : List (Int × Int)) (p : Int), 0 ≤ p → p ≤ l.length → p ≤ (runF l p ws).2.1 ∧ (runF l p ws).2.1 ≤ l.length
  | [], p, h0, hp => ⟨Int.le_refl _, hp⟩
  | w :: ws, p, h0, hp => by
    by_cases h : (pieceF l p w.1 w.2).2.2 = 0
    · rw [runF_ok h]
      have h1 := pieceF_ok h h0 hp
      have h2 := runF_le (l := l) ws (pieceF l p w.1 w.2).2.1 (by omega) h1.2
      exact ⟨by simp only; omega, h2.2⟩
    · rw [runF_no h]
      exact ⟨Int.le_refl _, hp⟩
theorem runF_len {l : List UInt8} : ∀ (ws : List (Int × Int)) (p : Int), (runF l p ws).1.length ≤ ws.length ∧ ((runF l p ws).2.2 ≠ 0 → (runF l p ws).1.length < ws.length)
  | [], p => ⟨Nat.le_refl _, fun h => absurd rfl h⟩
  | w :: ws, p => by
    by_cases h : (pieceF l p w.1 w.2).2.2 = 0
    · rw [runF_ok h]
      have h2 := runF_len (l := l) ws (pieceF l p w.1 w.2).2.1
      refine ⟨by simp only [List.length_cons]; omega, fun h3 => ?_⟩
      have := h2.2 h3
      simp only [List.length_cons]
      omega
    · rw [runF_no h]
      exact ⟨by simp, fun _ => by simp⟩

/-! ### Parts -/
theorem getF_shift (l : List UInt8) (q p : Int) (hq : 0 ≤ q) (hql : q ≤ l.length) (hp : 0 ≤ p) (hpl : p ≤ l.length - q) : getF l (q + p) = if (getF (l.drop q.toNat) p).2.2 = 0 then ((getF (l.drop q.toNat) p).1, q + (getF (l.drop q.toNat) p).2.1, 0) else getF (l.drop q.toNat) p := by
  unfold getF
  have e : l.drop (q + p).toNat = (l.drop q.toNat).drop p.toNat := by rw [List.drop_drop]; congr 1; omega
  have c1 : 0 ≤ q + p ∧ q + p ≤ l.length := by omega
  have c2 : 0 ≤ p ∧ p ≤ (l.drop q.toNat).length := by rw [List.length_drop]; omega
  simp only [if_pos c1, if_pos c2]
  rw [e]
  by_cases h : (getR ((l.drop q.toNat).drop p.toNat)).2.2 = 0
  · simp only [if_pos h, if_true, Int.add_assoc]
  · simp only [if_neg h]
theorem unfixF_shift (l : List UInt8) (q p n : Int) (hq : 0 ≤ q) (hql : q ≤ l.length) (hp : 0 ≤ p) (hpl : p ≤ l.length - q) : unfixF l (q + p) n = if (unfixF (l.drop q.toNat) p n).2.2 = 0 then ((unfixF (l.drop q.toNat) p n).1, q + (unfixF (l.drop q.toNat) p n).2.1, 0) else unfixF (l.drop q.toNat) p n := by
  unfold unfixF
  have e : l.drop (q + p).toNat = (l.drop q.toNat).drop p.toNat := by rw [List.drop_drop]; congr 1; omega
  rw [e]
  by_cases h1 : 1 ≤ n ∧ n ≤ 8
  · have c1 : 1 ≤ n ∧ n ≤ 8 ∧ 0 ≤ q + p ∧ q + p ≤ l.length := by omega
    have c2 : 1 ≤ n ∧ n ≤ 8 ∧ 0 ≤ p ∧ p ≤ (l.drop q.toNat).length := by rw [List.length_drop]; omega
    simp only [if_pos c1, if_pos c2]
    by_cases h2 : l.length < (q + p) + n
    · have c3 : (l.drop q.toNat).length < p + n := by rw [List.length_drop]; omega
      simp only [if_pos h2, if_pos c3]
      rfl
    · have c3 : ¬ (l.drop q.toNat).length < p + n := by rw [List.length_drop]; omega
      simp only [if_neg h2, if_neg c3]
      by_cases h3 : 9223372036854775808 ≤ val8 (((l.drop q.toNat).drop p.toNat).take n.toNat)
      · simp only [if_pos h3]
        rfl
      · simp only [if_neg h3, if_true, Int.add_assoc]
  · have c1 : ¬ (1 ≤ n ∧ n ≤ 8 ∧ 0 ≤ q + p ∧ q + p ≤ l.length) := by omega
    have c2 : ¬ (1 ≤ n ∧ n ≤ 8 ∧ 0 ≤ p ∧ p ≤ (l.drop q.toNat).length) := by omega
    simp only [if_neg c1, if_neg c2]
    rfl
theorem textF_shift (l : List UInt8) (q p n : Int) (hq : 0 ≤ q) (hql : q ≤ l.length) (hp : 0 ≤ p) (hpl : p ≤ l.length - q) : textF l (q + p) n = if (textF (l.drop q.toNat) p n).2.2 = 0 then ((textF (l.drop q.toNat) p n).1, q + (textF (l.drop q.toNat) p n).2.1, 0) else textF (l.drop q.toNat) p n := by
  unfold textF
  have e : l.drop (q + p).toNat = (l.drop q.toNat).drop p.toNat := by rw [List.drop_drop]; congr 1; omega
  rw [e]
  by_cases h1 : n < 0
  · simp only [if_pos h1]
    rfl
  · simp only [if_neg h1]
    by_cases h2 : (l.length : Int) - (q + p) < n
    · have c3 : ((l.drop q.toNat).length : Int) - p < n := by rw [List.length_drop]; omega
      simp only [if_pos h2, if_pos c3]
      rfl
    · have c3 : ¬ ((l.drop q.toNat).length : Int) - p < n := by rw [List.length_drop]; omega
      simp only [if_neg h2, if_neg c3, if_true, Int.add_assoc]
theorem pieceF_shift (l : List UInt8) (q p k n : Int) (hq : 0 ≤ q) (hql : q ≤ l.length) (hp : 0 ≤ p) (hpl : p ≤ l.length - q) : pieceF l (q + p) k n = if (pieceF (l.drop q.toNat) p k n).2.2 = 0 then ((pieceF (l.drop q.toNat) p k n).1, q + (pieceF (l.drop q.toNat) p k n).2.1, 0) else pieceF (l.drop q.toNat) p k n := by
  unfold pieceF
  by_cases h1 : k = 1
  · simp only [if_pos h1]
    rw [unfixF_shift l q p 1 hq hql hp hpl]
    split <;> rfl
  simp only [if_neg h1]
  by_cases h2 : k = 2
  · simp only [if_pos h2]
    rw [getF_shift l q p hq hql hp hpl]
    split <;> rfl
  simp only [if_neg h2]
  by_cases h3 : k = 3
  · simp only [if_pos h3]
    rw [unfixF_shift l q p n hq hql hp hpl]
    split <;> rfl
  simp only [if_neg h3]
  by_cases h4 : k = 4
  · simp only [if_pos h4]
    rw [textF_shift l q p n hq hql hp hpl]
    split <;> rfl
  simp only [if_neg h4]
  by_cases h5 : k = 5
  · simp only [if_pos h5, if_true]
    rw [List.drop_drop, show (q + p).toNat = q.toNat + p.toNat from by omega, List.length_drop]
    congr 2
    omega
  simp only [if_neg h5]
  by_cases h6 : k = 6
  · simp only [if_pos h6]
    by_cases h7 : q + p < l.length
    · have c3 : p < (l.drop q.toNat).length := by rw [List.length_drop]; omega
      simp only [if_pos h7, if_pos c3]
      rfl
    · have c3 : ¬ p < (l.drop q.toNat).length := by rw [List.length_drop]; omega
      simp only [if_neg h7, if_neg c3, if_true]
  simp only [if_neg h6]
  rfl
theorem runF_shift (l : List UInt8) (q : Int) (hq : 0 ≤ q) (hql : q ≤ l.length) : ∀ (ws : List (Int × Int)) (p : Int), 0 ≤ p → p ≤ l.length - q →
    runF l (q + p) ws = ((runF (l.drop q.toNat) p ws).1, q + (runF (l.drop q.toNat) p ws).2.1, (runF (l.drop q.toNat) p ws).2.2)
  | [], p, _, _ => rfl
  | w :: ws, p, hp, hpl => by
    have hs := pieceF_shift l q p w.1 w.2 hq hql hp hpl
    by_cases h : (pieceF (l.drop q.toNat) p w.1 w.2).2.2 = 0
    · rw [if_pos h] at hs
      have h1 := pieceF_ok h hp (by rw [List.length_drop]; omega)
      rw [List.length_drop] at h1
      have hs2 : (pieceF l (q + p) w.1 w.2).2.2 = 0 := by rw [hs]
      rw [runF_ok h, runF_ok hs2, hs]
      simp only
      rw [runF_shift l q hq hql ws (pieceF (l.drop q.toNat) p w.1 w.2).2.1 (by omega) (by omega)]
    · rw [if_neg h] at hs
      have hs2 : (pieceF l (q + p) w.1 w.2).2.2 ≠ 0 := by rw [hs]; exact h
      rw [runF_no h, runF_no hs2, hs]
theorem runF_append (l : List UInt8) : ∀ (a b : List (Int × Int)) (p : Int), (runF l p a).2.2 = 0 → runF l p (a ++ b) = ((runF l p a).1 ++ (runF l (runF l p a).2.1 b).1, (runF l (runF l p a).2.1 b).2)
  | [], b, p, _ => rfl
  | w :: a, b, p, h => by
    rw [List.cons_append]
    by_cases h1 : (pieceF l p w.1 w.2).2.2 = 0
    · rw [runF_ok h1] at h
      rw [runF_ok h1, runF_ok h1, runF_append l a b _ h]
      rfl
    · rw [runF_no h1] at h
      exact absurd h h1
/-- Pieces that are taken in two parts are those that are taken at once. -/
theorem runF_parts (l : List UInt8) (a b : List (Int × Int)) (h : (runF l 0 a).2.2 = 0) :
    runF l 0 (a ++ b) = ((runF l 0 a).1 ++ (runF (l.drop (runF l 0 a).2.1.toNat) 0 b).1, (runF l 0 a).2.1 + (runF (l.drop (runF l 0 a).2.1.toNat) 0 b).2.1, (runF (l.drop (runF l 0 a).2.1.toNat) 0 b).2.2) := by
  have h1 := runF_le (l := l) a 0 (Int.le_refl _) (by omega)
  have h2 := runF_shift l (runF l 0 a).2.1 (by omega) h1.2 b 0 (Int.le_refl _) (by omega)
  rw [Int.add_zero] at h2
  rw [runF_append l a b 0 h, h2]

/-! ### Covers -/
/-- What a size asks: a byte, or a text. -/
def wantOf (n : Int) : Int × Int := if n < 0 then (1, 0) else (4, n)
/-- What is told of a piece that was got of a size. -/
def textOf (n : Int) (g : Int × List UInt8) : List UInt8 := if n < 0 then UInt8.ofNat g.1.toNat :: g.2 else g.2

theorem val8_one (b : UInt8) : val8 [b] = b.toNat := by simp [val8]
theorem pieceF_byte (l : List UInt8) (p : Int) (h0 : 0 ≤ p) (hp : p < l.length) : pieceF l p 1 0 = ((((l[p.toNat]'(by omega)).toNat : Int), []), p + 1, 0) := by
  have e : (l.drop p.toNat).take (1 : Int).toNat = [l[p.toNat]'(by omega)] := by
    rw [show (1 : Int).toNat = 1 from rfl, List.drop_eq_getElem_cons (by omega), List.take_succ_cons, List.take_zero]
  unfold pieceF
  rw [if_pos rfl]
  have hv : unfixF l p 1 = (((l[p.toNat]'(by omega)).toNat : Int), p + 1, 0) := by
    unfold unfixF
    rw [if_pos (by omega), if_neg (by omega), e, val8_one, if_neg (by have := UInt8.toNat_lt (l[p.toNat]'(by omega)); omega)]
  rw [hv]
theorem pieceF_byte_no (l : List UInt8) (p : Int) (h0 : 0 ≤ p) (hp : p = l.length) : pieceF l p 1 0 = ((0, []), 0, 4) := by
  unfold pieceF
  rw [if_pos rfl]
  have hv : unfixF l p 1 = (0, 0, 4) := by
    unfold unfixF
    rw [if_pos (by omega), if_pos (by omega)]
  rw [hv]
theorem pieceF_text (l : List UInt8) (p n : Int) : pieceF l p 4 n = ((0, (textF l p n).1), (textF l p n).2.1, (textF l p n).2.2) := by
  unfold pieceF
  rw [if_neg (by decide), if_neg (by decide), if_neg (by decide), if_pos rfl]

/-- One piece of a size: what is told of it is what stands from the place to the place behind it. -/
theorem piece_cover (l : List UInt8) (p n : Int) (h0 : 0 ≤ p) (hp : p ≤ l.length) (h : (pieceF l p (wantOf n).1 (wantOf n).2).2.2 = 0) :
    l.take p.toNat ++ textOf n (pieceF l p (wantOf n).1 (wantOf n).2).1 = l.take (pieceF l p (wantOf n).1 (wantOf n).2).2.1.toNat := by
  unfold wantOf textOf at *
  by_cases hn : n < 0
  · simp only [if_pos hn] at h ⊢
    have hlt : p < l.length := by
      by_cases h1 : p < l.length
      · exact h1
      · rw [pieceF_byte_no l p h0 (by omega)] at h
        simp at h
    rw [pieceF_byte l p h0 hlt]
    simp only [Int.toNat_natCast, UInt8.ofNat_toNat]
    rw [show (p + 1).toNat = p.toNat + 1 from by omega, List.take_succ_eq_append_getElem (by omega)]
  · simp only [if_neg hn] at h ⊢
    rw [pieceF_text] at h ⊢
    have := textF_ok h
    simp only
    rw [this.2.2.2, this.2.2.1, show (p + n).toNat = p.toNat + n.toNat from by omega, List.take_add]

def textsOf : List Int → List (Int × List UInt8) → List UInt8
  | n :: ns, g :: gs => textOf n g ++ textsOf ns gs
  | _, _ => []
theorem run_cover (l : List UInt8) : ∀ (ns : List Int) (p : Int), 0 ≤ p → p ≤ l.length → l.take p.toNat ++ textsOf ns (runF l p (ns.map wantOf)).1 = l.take (runF l p (ns.map wantOf)).2.1.toNat
  | [], p, _, _ => by simp [textsOf, runF]
  | n :: ns, p, h0, hp => by
    rw [List.map_cons]
    by_cases h : (pieceF l p (wantOf n).1 (wantOf n).2).2.2 = 0
    · rw [runF_ok h]
      have h1 := pieceF_ok h h0 hp
      have h2 := run_cover l ns (pieceF l p (wantOf n).1 (wantOf n).2).2.1 (by omega) h1.2
      rw [← piece_cover l p n h0 hp h, List.append_assoc] at h2
      exact h2
    · rw [runF_no h]
      simp [textsOf]

/-- What stands behind plays no part. -/
theorem piece_behind (l t : List UInt8) (p n : Int) (h0 : 0 ≤ p) (hp : p ≤ l.length) (h : (pieceF l p (wantOf n).1 (wantOf n).2).2.2 = 0) : pieceF (l ++ t) p (wantOf n).1 (wantOf n).2 = pieceF l p (wantOf n).1 (wantOf n).2 := by
  unfold wantOf at *
  by_cases hn : n < 0
  · simp only [if_pos hn] at h ⊢
    have hlt : p < l.length := by
      by_cases h1 : p < l.length
      · exact h1
      · rw [pieceF_byte_no l p h0 (by omega)] at h
        simp at h
    rw [pieceF_byte l p h0 hlt, pieceF_byte (l ++ t) p h0 (by rw [List.length_append]; omega)]
    congr 4
    rw [List.getElem_append_left]
  · simp only [if_neg hn] at h ⊢
    rw [pieceF_text] at h
    have h1 := textF_ok h
    have e : textF (l ++ t) p n = textF l p n := by
      unfold textF
      rw [if_neg hn, if_neg hn, if_neg (by rw [List.length_append]; omega), if_neg (by omega), List.drop_append_of_le_length (by omega), List.take_append_of_le_length (by rw [List.length_drop]; omega)]
    rw [pieceF_text, pieceF_text, e]
theorem run_behind (l t : List UInt8) : ∀ (ns : List Int) (p : Int), 0 ≤ p → p ≤ l.length → (runF l p (ns.map wantOf)).2.2 = 0 → runF (l ++ t) p (ns.map wantOf) = runF l p (ns.map wantOf)
  | [], p, _, _, _ => rfl
  | n :: ns, p, h0, hp, hr => by
    rw [List.map_cons] at hr ⊢
    by_cases h : (pieceF l p (wantOf n).1 (wantOf n).2).2.2 = 0
    · have h1 := pieceF_ok h h0 hp
      rw [runF_ok h] at hr
      have hb := piece_behind l t p n h0 hp h
      have h2 : (pieceF (l ++ t) p (wantOf n).1 (wantOf n).2).2.2 = 0 := by rw [hb]; exact h
      rw [runF_ok h, runF_ok h2, hb, run_behind l t ns _ (by omega) h1.2 hr]
    · rw [runF_no h] at hr
      exact absurd hr h
end Go.Proofs.Ytbibjcgnaibhlaa
