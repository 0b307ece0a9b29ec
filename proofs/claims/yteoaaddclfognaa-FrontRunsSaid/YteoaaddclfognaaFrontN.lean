/-
  Layer 6, plain: the row behind bytes is those that came, the last one first, and then the others in order; a rank counts the unlike ones between.
-/
import Derived.Test.YteoaaddclfognaaFrontB
namespace Go.Proofs.Yteoaaddclfognaa
set_option linter.unusedSimpArgs false
set_option linter.unusedVariables false
open Go.ChangeShapes Go.WideShapes Go.ChangeAt Go.RowKit Go.Joins Go.Deep

/-- Each byte once, where it comes first. -/
def dd : List UInt8 → List UInt8
  | [] => []
  | b :: l => b :: (dd l).filter (fun y => decide (y ≠ b))
theorem dd_append (m x : List UInt8) : dd (m ++ x) = dd m ++ (dd x).filter (fun y => decide (y ∉ m)) := by
  induction m with
  | nil => simp [dd, List.filter_eq_self.2]
  | cons c t ih =>
    show c :: (dd (t ++ x)).filter _ = c :: (dd t).filter _ ++ _
    rw [ih, List.filter_append, List.filter_filter, List.cons_append]
    congr 2
    refine List.filter_congr fun y _ => ?_
    simp only [List.mem_cons, not_or, Bool.decide_and]
theorem mem_dd (b : UInt8) (l : List UInt8) : b ∈ dd l ↔ b ∈ l := by
  induction l with
  | nil => rfl
  | cons c t ih =>
    show b ∈ c :: (dd t).filter _ ↔ _
    rw [List.mem_cons, List.mem_cons, List.mem_filter, ih]
    by_cases h : b = c <;> simp [h]
theorem dd_snoc (m : List UInt8) (b : UInt8) : (dd (m ++ [b])).length = (dd m).length + (if b ∈ m then 0 else 1) := by
  rw [dd_append, List.length_append]
  congr 1
  by_cases h : b ∈ m <;> simp [dd, h]

/-! ### The row behind bytes -/
theorem filter_ne {A D : List UInt8} {b : UInt8} (h : (A ++ b :: D).Nodup) : (A ++ b :: D).filter (fun y => decide (y ≠ b)) = A ++ D := by
  rw [List.nodup_append] at h
  obtain ⟨_, h2, h3⟩ := h
  rw [List.nodup_cons] at h2
  rw [List.filter_append, List.filter_cons]
  simp only [ne_eq, not_true_eq_false, decide_false, Bool.false_eq_true, if_false]
  rw [List.filter_eq_self.2, List.filter_eq_self.2]
  · intro y hy
    have : y ≠ b := fun e => h2.1 (e ▸ hy)
    simpa using this
  · intro y hy
    have : y ≠ b := h3 y hy b (List.mem_cons_self ..)
    simpa using this
theorem mv_filter {R : List UInt8} (h : Whole R) (b : UInt8) : mv R (pl R b) = b :: R.filter (fun y => decide (y ≠ b)) := by
  have hp := parted R (pl R b) (by rw [h.len]; exact pl_lt h b)
  rw [pl_get h b] at hp
  have hn := h.nodup
  unfold mv
  rw [pl_get h b]
  congr 1
  rw [hp] at hn
  conv => rhs; rw [hp]
  exact (filter_ne hn).symm
theorem row_is (l : List UInt8) : rowS row0 l.reverse = dd l ++ row0.filter (fun y => decide (y ∉ l)) := by
  induction l with
  | nil =>
    show row0 = [] ++ _
    simp [List.filter_eq_self.2]
  | cons b t ih =>
    rw [List.reverse_cons, rowS_snoc, mv_filter (row0_whole.rowS _), ih, List.filter_append, List.filter_filter]
    show _ = (b :: _) ++ _
    rw [List.cons_append]
    congr 2
    refine List.filter_congr fun y _ => ?_
    simp only [List.mem_cons, not_or, Bool.decide_and]
theorem row_rev (s : List UInt8) : rowS row0 s = dd s.reverse ++ row0.filter (fun y => decide (y ∉ s.reverse)) := by
  have := row_is s.reverse
  rwa [List.reverse_reverse] at this

/-! ### Ranks, one by one -/
theorem rks_append (t : List UInt8) : ∀ (s R : List UInt8), rks R (s ++ t) = rks R s ++ rks (rowS R s) t
  | [], _ => rfl
  | b :: s, R => by
    show _ :: rks _ (s ++ t) = _
    rw [rks_append t s]
    rfl
theorem rks_get (s : List UInt8) (i : Nat) (h : i < s.length) : (rks row0 s)[i]? = some (pl (rowS row0 (s.take i)) s[i] : Int) := by
  have e : s = s.take i ++ s[i] :: s.drop (i + 1) := by rw [← List.drop_eq_getElem_cons h, List.take_append_drop]
  have e2 : rks row0 s = rks row0 (s.take i) ++ ((pl (rowS row0 (s.take i)) s[i] : Int) :: rks (mv (rowS row0 (s.take i)) (pl (rowS row0 (s.take i)) s[i])) (s.drop (i + 1))) := by
    conv => lhs; rw [e]
    rw [rks_append]
    rfl
  rw [e2, List.getElem?_append_right (by rw [rks_len, List.length_take]; omega), rks_len, List.length_take, show i - min i s.length = 0 from by omega]
  rfl
/-- How many unlike bytes stand ahead of the first that is the same; -1: there is none. -/
def btw (l : List UInt8) (b : UInt8) : Int := if b ∈ l then ((dd (l.take (l.idxOf b))).length : Int) else -1
theorem btw_found (m x : List UInt8) (b : UInt8) (h : b ∉ m) : btw (m ++ b :: x) b = ((dd m).length : Int) := by
  unfold btw
  rw [if_pos (by simp), List.idxOf_append, if_neg h, List.idxOf_cons_self, Nat.zero_add, List.take_left']
  rfl
theorem btw_none (l : List UInt8) (b : UInt8) (h : b ∉ l) : btw l b = -1 := by
  unfold btw
  rw [if_neg h]
theorem pl_between (m x : List UInt8) (b : UInt8) (h : b ∉ m) (D : List UInt8) : pl (dd (m ++ b :: x) ++ D) b = (dd m).length := by
  have hd : b ∉ dd m := fun e => h ((mem_dd b m).1 e)
  unfold pl
  rw [dd_append]
  show List.idxOf b (dd m ++ (b :: (dd x).filter _).filter _ ++ D) = _
  rw [List.filter_cons, if_pos (by simpa using h), List.append_assoc, List.idxOf_append, if_neg hd, List.cons_append, List.idxOf_cons_self, Nat.zero_add]
theorem split_at (l : List UInt8) (b : UInt8) (h : b ∈ l) : ∃ m x, l = m ++ b :: x ∧ b ∉ m := by
  induction l with
  | nil => cases h
  | cons c t ih =>
    by_cases e : c = b
    · subst e
      exact ⟨[], t, rfl, by simp⟩
    · rcases List.mem_cons.1 h with h | h
      · exact absurd h.symm e
      · obtain ⟨m, x, e1, e2⟩ := ih h
        refine ⟨c :: m, x, by rw [e1]; rfl, ?_⟩
        rw [List.mem_cons, not_or]
        exact ⟨fun e3 => e e3.symm, e2⟩
theorem rank_between (s : List UInt8) (b : UInt8) (h : 0 ≤ btw s.reverse b) : (pl (rowS row0 s) b : Int) = btw s.reverse b := by
  by_cases hb : b ∈ s.reverse
  · obtain ⟨m, x, e, hm⟩ := split_at _ b hb
    rw [row_rev, e, btw_found m x b hm, pl_between m x b hm]
  · rw [btw_none _ _ hb] at h
    omega
theorem rank_zero {R : List UInt8} (h : Whole R) (b : UInt8) : pl R b = 0 ↔ R.getD 0 0 = b := by
  constructor
  · intro e
    have := pl_get h b
    rwa [e] at this
  · intro e
    have := pl_of h 0 (by omega)
    rwa [e] at this
theorem head_begun : row0.getD 0 0 = 0 := by decide +kernel
theorem head_behind (s : List UInt8) (i : Nat) (h : i < s.length) : (rowS row0 (s.take (i + 1))).getD 0 0 = s[i] := by
  rw [rowS_take row0 s i h]
  have := pl_get (row0_whole.rowS (s.take i)) s[i]
  unfold mv
  rw [List.getD_cons_zero]
  exact this
/-- A rank is 0 just if the byte is the same as the one ahead of it. -/
theorem zero_same (s : List UInt8) (i : Nat) (h : i < s.length) : (pl (rowS row0 (s.take i)) s[i] = 0) ↔ ((∃ h : 0 < i, s[i - 1]'(by omega) = s[i]) ∨ (i = 0 ∧ s[i] = 0)) := by
  rw [rank_zero (row0_whole.rowS _)]
  cases i with
  | zero =>
    have e : rowS row0 (s.take 0) = row0 := rfl
    rw [e, head_begun]
    constructor
    · intro e2; exact Or.inr ⟨rfl, e2.symm⟩
    · rintro (⟨h0, _⟩ | ⟨_, e2⟩)
      · exact absurd h0 (by omega)
      · exact e2.symm
  | succ k =>
    rw [head_behind s k (by omega)]
    constructor
    · intro e; exact Or.inl ⟨by omega, e⟩
    · rintro (⟨_, e⟩ | ⟨h0, _⟩)
      · exact e
      · omega
/-- The bytes ahead of a place, from it backwards. -/
theorem rev_get (s : List UInt8) (i j : Nat) (hi : i ≤ s.length) (hj : j < i) : (s.take i).reverse[j]? = some (s[i - 1 - j]'(by omega)) := by
  rw [List.getElem?_reverse (by rw [List.length_take]; omega), List.length_take, List.getElem?_take]
  rw [if_pos (by omega), List.getElem?_eq_getElem (by omega)]
  congr 2
  omega
theorem rev_split (s : List UInt8) (i j : Nat) (hi : i ≤ s.length) (hj : j < i) : (s.take i).reverse = (s.take i).reverse.take j ++ (s[i - 1 - j]'(by omega)) :: (s.take i).reverse.drop (j + 1) := by
  have hl : j < (s.take i).reverse.length := by rw [List.length_reverse, List.length_take]; omega
  have := rev_get s i j hi hj
  rw [List.getElem?_eq_getElem hl] at this
  injection this with this
  rw [← this, ← List.drop_eq_getElem_cons hl, List.take_append_drop]
theorem rev_snoc (s : List UInt8) (i j : Nat) (hi : i ≤ s.length) (hj : j < i) : (s.take i).reverse.take (j + 1) = (s.take i).reverse.take j ++ [s[i - 1 - j]'(by omega)] := by
  have hl : j < (s.take i).reverse.length := by rw [List.length_reverse, List.length_take]; omega
  have := rev_get s i j hi hj
  rw [List.getElem?_eq_getElem hl] at this
  injection this with this
  rw [take_snoc _ j hl, this]

/-! ### Which bytes were seen -/
def seenC (m : List UInt8) : List Value := (List.range 256).map fun v => Value.bool (decide (UInt8.ofNat v ∈ m))
theorem seenC_len (m : List UInt8) : (seenC m).length = 256 := by simp [seenC]
theorem seenC_get (m : List UInt8) (b : UInt8) : (seenC m)[b.toNat]? = some (.bool (decide (b ∈ m))) := by
  unfold seenC
  rw [List.getElem?_map, List.getElem?_range (u8_lt b)]
  simp
theorem seenC_set (m : List UInt8) (b : UInt8) : (seenC m).set b.toNat (.bool true) = seenC (m ++ [b]) := by
  apply List.ext_getElem?
  intro i
  rw [List.getElem?_set]
  by_cases hi : i < 256
  · have e : i = (UInt8.ofNat i).toNat := (u8_ofNat i hi).symm
    by_cases hb : b.toNat = i
    · rw [if_pos hb, if_pos (by rw [seenC_len]; omega), ← hb, seenC_get]
      simp
    · rw [if_neg hb, e, seenC_get, seenC_get]
      have hne : UInt8.ofNat i ≠ b := fun e2 => hb (by rw [← e2, u8_ofNat i hi])
      simp [hne]
  · rw [if_neg (by have := u8_lt b; omega), List.getElem?_eq_none (by rw [seenC_len]; omega), List.getElem?_eq_none (by rw [seenC_len]; omega)]

/-! ### The row, place by place -/
theorem row_front (s m x : List UInt8) (b : UInt8) (h : s.reverse = m ++ b :: x) (hb : b ∉ m) : (rowS row0 s)[(dd m).length]? = some b := by
  rw [row_rev, h, dd_append]
  show ((dd m ++ (b :: (dd x).filter _).filter _) ++ _)[_]? = _
  rw [List.filter_cons, if_pos (by simpa using hb), List.append_assoc, List.getElem?_append_right (Nat.le_refl _), Nat.sub_self]
  rfl
theorem dd_le (s : List UInt8) : (dd s.reverse).length ≤ 256 := by
  have h := (row0_whole.rowS s).len
  rw [row_rev, List.length_append] at h
  omega
theorem row_back (s : List UInt8) (i : Nat) (h : (dd s.reverse).length ≤ i) (hi : i < (rowS row0 s).length) : (rowS row0 s)[i] ∉ s.reverse := by
  have hg : (rowS row0 s)[i]? = some (rowS row0 s)[i] := List.getElem?_eq_getElem hi
  generalize (rowS row0 s)[i] = y at *
  rw [row_rev, List.getElem?_append_right h] at hg
  have := List.mem_of_getElem? hg
  rw [List.mem_filter] at this
  simpa using this.2
theorem row_up (s : List UInt8) (i : Nat) (h : (dd s.reverse).length < i) (hi : i < (rowS row0 s).length) : ((rowS row0 s)[i - 1]'(by omega)).toNat < (rowS row0 s)[i].toNat := by
  have hg : (rowS row0 s)[i]? = some (rowS row0 s)[i] := List.getElem?_eq_getElem hi
  have hf : (rowS row0 s)[i - 1]? = some ((rowS row0 s)[i - 1]'(by omega)) := List.getElem?_eq_getElem (by omega)
  generalize (rowS row0 s)[i] = y at *
  generalize (rowS row0 s)[i - 1]'(by omega) = x at *
  rw [row_rev, List.getElem?_append_right (by omega)] at hg hf
  have hp : (row0.filter (fun y => decide (y ∉ s.reverse))).Pairwise (fun a b => a.toNat < b.toNat) := row0_lt.sublist List.filter_sublist
  generalize row0.filter (fun y => decide (y ∉ s.reverse)) = T at *
  obtain ⟨h1, e1⟩ := List.getElem?_eq_some_iff.1 hg
  obtain ⟨h2, e2⟩ := List.getElem?_eq_some_iff.1 hf
  rw [← e1, ← e2]
  exact List.pairwise_iff_getElem.1 hp _ _ h2 h1 (by omega)
end Go.Proofs.Yteoaaddclfognaa
