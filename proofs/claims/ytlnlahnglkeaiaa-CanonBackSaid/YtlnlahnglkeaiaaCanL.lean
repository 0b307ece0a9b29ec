/-
  Layer 9, plain: which word begins a row of bits: the one in whose part of the whole the bits lie, and no other (ahead of the code's landing).
-/
import Derived.Test.YtlnlahnglkeaiaaCanU
namespace Go.Proofs.Ytlnlahnglkeaiaa
set_option linter.unusedSimpArgs false
set_option linter.unusedVariables false
open Go.ChangeShapes Go.WideShapes Go.ChangeAt Go.RowKit Go.Joins Go.Deep

/-- The first fifteen bits of a row, or what there is of them and noughts, as a number. -/
def v15 (R : List Nat) : Nat := num ((R ++ List.replicate 15 0).take 15)
theorem bin_zeros (n : Nat) : Bin (List.replicate n 0) := fun d hd => by rw [List.eq_of_mem_replicate hd]; omega
theorem v15_bin {R : List Nat} (hb : Bin R) : Bin ((R ++ List.replicate 15 0).take 15) := fun d hd => (hb.app (bin_zeros 15)) d (List.mem_of_mem_take hd)
theorem v15_lt {R : List Nat} (hb : Bin R) : v15 R < 32768 := by
  have h := num_lt (v15_bin hb)
  have hl : ((R ++ List.replicate 15 0).take 15).length = 15 := by simp
  rw [hl] at h
  exact h
theorem v15_take {R : List Nat} (hb : Bin R) (n : Nat) (hn : n ≤ 15) (hl : n ≤ R.length) : num (R.take n) = v15 R / 2 ^ (15 - n) := by
  have e : (R ++ List.replicate 15 0).take 15 = R.take n ++ ((R ++ List.replicate 15 0).drop n).take (15 - n) := by
    conv => lhs; rw [show 15 = n + (15 - n) from by omega]
    rw [List.take_add, List.take_append_of_le_length hl, show n + (15 - n) = 15 from by omega]
  have hr : Bin (((R ++ List.replicate 15 0).drop n).take (15 - n)) := fun d hd => (hb.app (bin_zeros 15)) d (List.mem_of_mem_drop (List.mem_of_mem_take hd))
  have hrl : (((R ++ List.replicate 15 0).drop n).take (15 - n)).length = 15 - n := by simp; omega
  have h1 := num_lt hr
  rw [hrl] at h1
  unfold v15
  rw [e, num_append, hrl, Nat.mul_comm, Nat.mul_add_div (Nat.pow_pos (by omega)), Nat.div_eq_of_lt h1, Nat.add_zero]
theorem part_of {v D x : Nat} (h : 0 < D) : v / D = x ↔ x * D ≤ v ∧ v < x * D + D := by
  constructor
  · intro e
    subst e
    have h1 := Nat.div_add_mod v D
    have h2 := Nat.mod_lt v h
    rw [Nat.mul_comm] at h1
    omega
  · intro e
    exact Nat.div_eq_of_lt_le e.1 (by rw [Nat.add_mul, Nat.one_mul]; exact e.2)

theorem begF_all : ∀ (R d : List Nat), (begF R d).2 = true ↔ d.length ≤ R.length ∧ R.take d.length = d
  | R, [] => by cases R <;> simp [begF]
  | [], _ :: _ => by simp [begF]
  | a :: t, b :: u => by
    unfold begF
    by_cases e : a = b
    · rw [if_pos e, begF_all t u]
      subst e
      simp
    · rw [if_neg e]
      simp [e]
theorem begF_some : ∀ (R d : List Nat), (begF R d).1 = true ↔ R.take d.length = d.take R.length
  | R, [] => by cases R <;> simp [begF]
  | [], _ :: _ => by simp [begF]
  | a :: t, b :: u => by
    unfold begF
    by_cases e : a = b
    · rw [if_pos e, begF_some t u]
      subst e
      simp
    · rw [if_neg e]
      simp [e]
/-- A word begins a row, if it is no longer and the row lies in its part. -/
theorem begF_word {R : List Nat} (hb : Bin R) (n x : Nat) (hn : n ≤ 15) (hx : x < 2 ^ n) : (begF R (dig n x)).2 = true ↔ n ≤ R.length ∧ x * 2 ^ (15 - n) ≤ v15 R ∧ v15 R < x * 2 ^ (15 - n) + 2 ^ (15 - n) := by
  rw [begF_all, dig_length]
  have hD : 0 < (2 : Nat) ^ (15 - n) := Nat.pow_pos (by omega)
  constructor
  · rintro ⟨hl, e⟩
    refine ⟨hl, (part_of hD).1 ?_⟩
    rw [← v15_take hb n hn hl, e, num_dig, Nat.mod_eq_of_lt hx]
  · rintro ⟨hl, e⟩
    refine ⟨hl, ?_⟩
    have h1 := (part_of hD).2 e
    rw [← v15_take hb n hn hl] at h1
    have h2 := dig_num_of n (R.take n) (by simp; omega) fun d hd => hb d (List.mem_of_mem_take hd)
    rw [← h2, h1]
/-- A longer word in whose part the row lies goes on from it. -/
theorem begF_part {R : List Nat} (hb : Bin R) (n x : Nat) (hn : n ≤ 15) (hl : R.length < n) (e : x * 2 ^ (15 - n) ≤ v15 R ∧ v15 R < x * 2 ^ (15 - n) + 2 ^ (15 - n)) : (begF R (dig n x)).1 = true := by
  rw [begF_some, dig_length, List.take_of_length_le (by omega)]
  have hD : 0 < (2 : Nat) ^ (15 - n) := Nat.pow_pos (by omega)
  have h1 := (part_of hD).2 e
  have h2 := v15_take hb R.length (by omega) (Nat.le_refl _)
  rw [List.take_of_length_le (Nat.le_refl _)] at h2
  have h3 : x / 2 ^ (n - R.length) = num R := by
    rw [← h1, h2, Nat.div_div_eq_div_mul, ← Nat.pow_add, show 15 - n + (n - R.length) = 15 - R.length from by omega]
  have h4 := dig_add R.length (n - R.length) x
  rw [show R.length + (n - R.length) = n from by omega, h3, dig_num hb] at h4
  rw [h4, List.take_append_of_le_length (Nat.le_refl _), List.take_of_length_le (Nat.le_refl _)]

/-! ### Get over a row of words -/
theorem cget1_hit (R : List Nat) (E : Int) : ∀ (ws : List (Int × Int)) (s k : Nat) (E : Int) (hk : k < ws.length), (∀ j (hj : j < ws.length), j < k → ws[j].2 = 0 ∨ (begF R (digI ws[j].1 ws[j].2)).2 = false) → ws[k].2 ≠ 0 → (begF R (digI ws[k].1 ws[k].2)).2 = true → cget1 ws s R E = (((s + k : Nat) : Int), ((digI ws[k].1 ws[k].2).length : Int), 0)
  | f :: t, s, 0, E, hk, _, h1, h2 => by
    unfold cget1
    simp only [List.getElem_cons_zero] at h1 h2 ⊢
    rw [if_neg h1, if_pos h2]
    rfl
  | f :: t, s, k + 1, E, hk, h0, h1, h2 => by
    have hf := h0 0 (by simp) (by omega)
    simp only [List.getElem_cons_zero] at hf
    have ih := fun E => cget1_hit R E t (s + 1) k E (by simpa using hk) (fun j hj hjk => by
      have := h0 (j + 1) (by simpa using hj) (by omega)
      simpa only [List.getElem_cons_succ] using this) (by simpa only [List.getElem_cons_succ] using h1) (by simpa only [List.getElem_cons_succ] using h2)
    simp only [List.getElem_cons_succ]
    unfold cget1
    by_cases hz : f.2 = 0
    · rw [if_pos hz, ih, show s + 1 + k = s + (k + 1) from by omega]
    · rcases hf with hf | hf
      · exact absurd hf hz
      · rw [if_neg hz, if_neg (by rw [hf]; decide), ih, show s + 1 + k = s + (k + 1) from by omega]
theorem cget1_short (R : List Nat) : ∀ (ws : List (Int × Int)) (s : Nat) (E : Int), (∀ j (hj : j < ws.length), ws[j].2 = 0 ∨ (begF R (digI ws[j].1 ws[j].2)).2 = false) → (E = 4 ∨ ∃ j, ∃ hj : j < ws.length, ws[j].2 ≠ 0 ∧ (begF R (digI ws[j].1 ws[j].2)).1 = true) → cget1 ws s R E = (0, 0, 4)
  | [], s, E, _, h => by
    rcases h with rfl | ⟨j, hj, _⟩
    · rfl
    · exact absurd hj (by simp)
  | f :: t, s, E, h0, h => by
    have hf := h0 0 (by simp)
    simp only [List.getElem_cons_zero] at hf
    have ih := fun E => cget1_short R t (s + 1) E (fun j hj => by
      have := h0 (j + 1) (by simpa using hj)
      simpa only [List.getElem_cons_succ] using this)
    have hrest : E = 4 ∨ (f.2 ≠ 0 ∧ (begF R (digI f.1 f.2)).1 = true) ∨ ∃ j, ∃ hj : j < t.length, t[j].2 ≠ 0 ∧ (begF R (digI t[j].1 t[j].2)).1 = true := by
      rcases h with h | ⟨j, hj, h1, h2⟩
      · exact Or.inl h
      · cases j with
        | zero => exact Or.inr (Or.inl ⟨by simpa only [List.getElem_cons_zero] using h1, by simpa only [List.getElem_cons_zero] using h2⟩)
        | succ j => exact Or.inr (Or.inr ⟨j, by simpa using hj, by simpa only [List.getElem_cons_succ] using h1, by simpa only [List.getElem_cons_succ] using h2⟩)
    unfold cget1
    by_cases hz : f.2 = 0
    · rw [if_pos hz]
      refine ih E ?_
      rcases hrest with h | h | h
      · exact Or.inl h
      · exact absurd hz h.1
      · exact Or.inr h
    · rcases hf with hf | hf
      · exact absurd hf hz
      · rw [if_neg hz, if_neg (by rw [hf]; decide)]
        refine ih _ ?_
        rcases hrest with h | h | h
        · left; split <;> simp [h]
        · left; rw [if_pos h.2]
        · exact Or.inr h
end Go.Proofs.Ytlnlahnglkeaiaa
