/-
  Layer 12, plain: the document's array is an order (P12.5); what its ends have in common (P12.6); what is found in it (P12.7).
-/
import Derived.Test.YtjdpogaaookoeaaSufN
namespace Go.Proofs.Ytjdpogaaookoeaa
set_option linter.unusedSimpArgs false
set_option linter.unusedVariables false
open Go.ChangeShapes Go.WideShapes Go.ChangeAt Go.RowKit Go.Joins Go.Deep

/-! ### The array (P12.5) -/
theorem sarr_len (s : List UInt8) : (sarr s).length = s.length + 1 := slay_len _ _
theorem sarr_sort (s : List UInt8) : SSort (slt s) (sarr s) := slay_sort (slt_ord s) _ (Nat.le_refl _)
theorem sarr_mem (s : List UInt8) (p : Nat) : p ∈ sarr s ↔ p < s.length + 1 := slay_mem _ _ _
theorem sarr_le (s : List UInt8) (i : Nat) (h : i < (sarr s).length) : (sarr s)[i] ≤ s.length := by
  have := (sarr_mem s _).1 (List.getElem_mem h)
  omega
theorem sarr_nodup (s : List UInt8) : (sarr s).Nodup := ssort_nodup (slt_ord s) _ (sarr_sort s)
theorem snodup_inj {l : List Nat} (hn : l.Nodup) {i j : Nat} (hi : i < l.length) (hj : j < l.length) (h : l[i] = l[j]) : i = j := by
  have hp := List.pairwise_iff_getElem.1 hn
  rcases Nat.lt_trichotomy i j with h1 | h1 | h1
  · exact absurd h (hp i j hi hj h1)
  · exact h1
  · exact absurd h.symm (hp j i hj hi h1)
theorem sarr_inj (s : List UInt8) (i j : Nat) (hi : i < (sarr s).length) (hj : j < (sarr s).length) (h : (sarr s)[i] = (sarr s)[j]) : i = j := snodup_inj (sarr_nodup s) hi hj h
theorem sarr_next (s : List UInt8) (i : Nat) (h : i + 1 < (sarr s).length) : Op.bytesLess (s.drop (sarr s)[i]) (s.drop (sarr s)[i + 1]) = true := ssort_get (sarr_sort s) i (i + 1) (by omega) h (by omega)
/-- The row of the places that have been seen. -/
def sseen (s : List UInt8) (k : Nat) : List Bool := (List.range (s.length + 1)).map fun p => decide (p ∈ (sarr s).take k)
theorem sseen_len (s : List UInt8) (k : Nat) : (sseen s k).length = s.length + 1 := by simp [sseen]
theorem sseen_get (s : List UInt8) (k p : Nat) (h : p < (sseen s k).length) : (sseen s k)[p] = decide (p ∈ (sarr s).take k) := by simp [sseen]
theorem sseen_zero (s : List UInt8) : sseen s 0 = List.replicate (s.length + 1) false := by
  apply List.ext_getElem
  · simp [sseen]
  · intro i h1 h2
    rw [sseen_get]
    simp
theorem smem_take {l : List Nat} (hn : l.Nodup) (k i : Nat) (hi : i < l.length) : l[i] ∈ l.take k ↔ i < k := by
  constructor
  · intro h
    obtain ⟨j, hj, e⟩ := List.getElem_of_mem h
    rw [List.getElem_take] at e
    rw [List.length_take] at hj
    have := snodup_inj hn _ hi e
    omega
  · intro h
    have : (l.take k)[i]'(by rw [List.length_take]; omega) = l[i] := List.getElem_take
    rw [← this]
    exact List.getElem_mem _
theorem sseen_fresh (s : List UInt8) (k : Nat) (hk : k < (sarr s).length) : (sseen s k)[(sarr s)[k]]'(by rw [sseen_len]; have := sarr_le s k hk; omega) = false := by
  rw [sseen_get]
  have := smem_take (sarr_nodup s) k k hk
  simp [this]
theorem sseen_step (s : List UInt8) (k : Nat) (hk : k < (sarr s).length) : (sseen s k).set (sarr s)[k] true = sseen s (k + 1) := by
  apply List.ext_getElem
  · rw [List.length_set, sseen_len, sseen_len]
  · intro q h1 h2
    rw [List.getElem_set, sseen_get, sseen_get, List.take_succ_eq_append_getElem hk]
    have hm : q ∈ (sarr s).take k ++ [(sarr s)[k]] ↔ q ∈ (sarr s).take k ∨ q = (sarr s)[k] := by rw [List.mem_append, List.mem_singleton]
    by_cases e : (sarr s)[k] = q
    · rw [if_pos e]
      exact (decide_eq_true (hm.2 (Or.inr e.symm))).symm
    · rw [if_neg e]
      refine decide_eq_decide.2 (Iff.trans ?_ hm.symm)
      exact ⟨Or.inl, fun h => h.elim id fun h => absurd h.symm e⟩
/-- An order is not refused. -/
theorem splc_sord {l : List Nat} {n : Nat} (hl : l.length = n) (hm : ∀ p ∈ l, p < n) (hn : l.Nodup) : sordF (splc l) = true := sord_of fun i hi => by
  rw [splc_len] at hi
  have e : (splc l).getD i 0 = ((l[i] : Nat) : Int) := by
    rw [List.getD_eq_getElem?_getD, List.getElem?_eq_getElem (by rw [splc_len]; exact hi)]
    exact splc_get l i _
  have hb := hm _ (List.getElem_mem hi)
  refine ⟨by rw [e]; omega, by rw [e, splc_len]; omega, fun h => ?_⟩
  rw [e, splc_take] at h
  unfold splc at h
  rw [List.mem_map] at h
  obtain ⟨q, hq, e2⟩ := h
  have e3 : q = l[i] := by omega
  rw [e3, smem_take hn] at hq
  omega
theorem sarr_sord (s : List UInt8) : sordF (splc (sarr s)) = true := splc_sord (sarr_len s) (fun p hp => (sarr_mem s p).1 hp) (sarr_nodup s)
theorem sarr_getD (s : List UInt8) (i : Nat) (hi : i < (sarr s).length) : (splc (sarr s)).getD i 0 = (((sarr s)[i] : Nat) : Int) := by
  rw [List.getD_eq_getElem?_getD, List.getElem?_eq_getElem (by rw [splc_len]; exact hi)]
  exact splc_get _ i _
theorem sarr_sup (s : List UInt8) : sup s (splc (sarr s)) = true := sup_of fun i hi h0 => by
  rw [splc_len] at hi
  obtain ⟨j, rfl⟩ : ∃ j, i = j + 1 := ⟨i - 1, by omega⟩
  rw [show j + 1 - 1 = j from rfl, sarr_getD s j (by omega), sarr_getD s (j + 1) hi]
  exact sarr_next s j hi

/-! ### In common (P12.6) -/
theorem alike_comm : ∀ x y : List UInt8, alike x y = alike y x
  | [], y => by rw [alike_nil_l, alike_nil_r]
  | a :: x, [] => by rw [alike_nil_l, alike_nil_r]
  | a :: x, b :: y => by
    show (if a = b then alike x y + 1 else 0) = (if b = a then alike y x + 1 else 0)
    rw [alike_comm x y]
    by_cases e : a = b
    · rw [if_pos e, if_pos e.symm]
    · rw [if_neg e, if_neg fun h => e h.symm]
theorem alike_take : ∀ x y : List UInt8, x.take (alike x y) = y.take (alike x y)
  | [], y => by rw [alike_nil_l]; simp
  | a :: x, [] => by rw [alike_nil_r]; simp
  | a :: x, b :: y => by
    show (a :: x).take (if a = b then alike x y + 1 else 0) = (b :: y).take (if a = b then alike x y + 1 else 0)
    by_cases e : a = b
    · rw [if_pos e, List.take_succ_cons, List.take_succ_cons, alike_take x y, e]
    · rw [if_neg e, List.take_zero, List.take_zero]
theorem alike_end : ∀ (x y : List UInt8) (h1 : alike x y < x.length) (h2 : alike x y < y.length), x[alike x y] ≠ y[alike x y]
  | [], y, h, _ => absurd h (by simp)
  | a :: x, [], _, h => absurd h (by simp)
  | a :: x, b :: y, h1, h2 => by
    by_cases e : a = b
    · have e2 : alike (a :: x) (b :: y) = alike x y + 1 := if_pos e
      simp only [e2, List.getElem_cons_succ]
      rw [e2] at h1 h2
      exact alike_end x y (by simpa using h1) (by simpa using h2)
    · have e2 : alike (a :: x) (b :: y) = 0 := if_neg e
      simp only [e2, List.getElem_cons_zero]
      exact e
/-- A text begins with another one. -/
theorem alike_full (x y : List UInt8) : alike x y = y.length ↔ x.take y.length = y := by
  constructor
  · intro h
    have := alike_take x y
    rw [h, List.take_length] at this
    exact this
  · intro h
    have hl := congrArg List.length h
    rw [List.length_take] at hl
    refine alike_at x y _ (fun i h1 h2 _ => ?_) (by omega) (Nat.le_refl _) (Or.inr (Or.inl rfl))
    have : (x.take y.length)[i]'(by rw [List.length_take]; omega) = x[i] := List.getElem_take
    rw [← this]
    simp only [h]

/-! ### What is found (P12.7) -/
/-- A place at which something stands. -/
def sat (s x : List UInt8) (p : Nat) : Bool := decide ((s.drop p).take x.length = x)
/-- At how many of the first k places it stands. -/
def socc (s x : List UInt8) (k : Nat) : Nat := (List.range k).countP (sat s x)
theorem socc_succ (s x : List UInt8) (k : Nat) : socc s x (k + 1) = socc s x k + if sat s x k = true then 1 else 0 := by
  unfold socc
  rw [List.range_succ, List.countP_append, List.countP_singleton]
theorem sat_short {s x : List UInt8} {p : Nat} (h : s.length < p + x.length) (hp : p ≤ s.length) : sat s x p = false := decide_eq_false fun e => by
  have := congrArg List.length e
  rw [List.length_take, List.length_drop] at this
  omega
theorem socc_rest {s x : List UInt8} (k : Nat) (h : s.length < k + x.length) : ∀ j, k + j ≤ s.length + 1 → socc s x (k + j) = socc s x k
  | 0, _ => rfl
  | j + 1, hj => by
    rw [show k + (j + 1) = (k + j) + 1 from by omega, socc_succ, sat_short (by omega) (by omega), socc_rest k h j (by omega)]
    rfl
/-- What lies between two texts that begin with x begins with x. -/
theorem sbetween : ∀ (x u v w : List UInt8), u.take x.length = x → w.take x.length = x → Op.bytesLess u v = true → Op.bytesLess v w = true → v.take x.length = x
  | [], u, v, w, _, _, _, _ => by simp
  | c :: x, [], v, w, h, _, _, _ => by simp at h
  | c :: x, _ :: _, v, [], _, h, _, _ => by simp at h
  | c :: x, a :: u, [], b :: w, _, _, h, _ => by rw [slt_nil] at h; cases h
  | c :: x, a :: u, d :: v, b :: w, h1, h2, h3, h4 => by
    rw [List.length_cons, List.take_succ_cons] at h1 h2 ⊢
    injection h1 with e1 h1
    injection h2 with e2 h2
    rw [slt_iff] at h3 h4
    subst e1
    subst e2
    rcases h3 with h3 | ⟨rfl, h3⟩
    · rcases h4 with h4 | ⟨rfl, h4⟩
      · omega
      · omega
    · rcases h4 with h4 | ⟨_, h4⟩
      · omega
      · rw [sbetween x u v w h1 h2 h3 h4]
/-- Does the i-th end of the array begin with x? -/
def shat (s x : List UInt8) (i : Nat) : Bool := sat s x ((sarr s).getD i 0)
theorem shat_get (s x : List UInt8) (i : Nat) (h : i < (sarr s).length) : shat s x i = sat s x (sarr s)[i] := by
  unfold shat
  rw [List.getD_eq_getElem?_getD, List.getElem?_eq_getElem h]
  rfl
theorem shit_iff (s x : List UInt8) (i : Nat) (h : i < (sarr s).length) : shit s (splc (sarr s)) x i ↔ shat s x i = true := by
  unfold shit
  rw [shat_get s x i h, sarr_getD s i h, Int.toNat_natCast, alike_full]
  unfold sat
  rw [decide_eq_true_iff]
theorem shat_mid {s x : List UInt8} {i j k : Nat} (hij : i < j) (hjk : j < k) (hk : k < (sarr s).length) (h1 : shat s x i = true) (h2 : shat s x k = true) : shat s x j = true := by
  rw [shat_get s x _ (by omega)] at h1 h2 ⊢
  exact decide_eq_true (sbetween x _ _ _ (of_decide_eq_true h1) (of_decide_eq_true h2) (ssort_get (sarr_sort s) i j (by omega) (by omega) hij) (ssort_get (sarr_sort s) j k (by omega) hk hjk))
/-- What has been found among the first k. -/
theorem sfr_at (s x : List UInt8) : ∀ k, k ≤ (sarr s).length →
    (sfr s (splc (sarr s)) x k = (1, 0) ∧ (∀ i, i < k → shat s x i = false) ∧ ((sarr s).take k).countP (sat s x) = 0) ∨
    (∃ lo hi : Nat, sfr s (splc (sarr s)) x k = ((lo : Int), (hi : Int)) ∧ lo ≤ hi ∧ hi < k ∧ (∀ i, i < k → (shat s x i = true ↔ lo ≤ i ∧ i ≤ hi)) ∧ ((sarr s).take k).countP (sat s x) = hi - lo + 1)
  | 0, _ => Or.inl ⟨rfl, fun i h => by omega, by simp⟩
  | k + 1, hk => by
    have ih := sfr_at s x k (by omega)
    have e1 : sfr s (splc (sarr s)) x (k + 1) = if shit s (splc (sarr s)) x k then (if (sfr s (splc (sarr s)) x k).2 < (sfr s (splc (sarr s)) x k).1 then (k : Int) else (sfr s (splc (sarr s)) x k).1, (k : Int)) else sfr s (splc (sarr s)) x k := rfl
    have e2 : ((sarr s).take (k + 1)).countP (sat s x) = ((sarr s).take k).countP (sat s x) + if shat s x k = true then 1 else 0 := by
      rw [List.take_succ_eq_append_getElem (by omega), List.countP_append, List.countP_singleton, shat_get s x k (by omega)]
    rw [e1, e2]
    by_cases h : shat s x k = true
    · rw [if_pos ((shit_iff s x k (by omega)).2 h), if_pos h]
      rcases ih with ⟨e3, h3, h4⟩ | ⟨lo, hi, e3, h3, h4, h5, h6⟩
      · refine Or.inr ⟨k, k, ?_, Nat.le_refl _, by omega, fun i hi => ?_, by omega⟩
        · rw [e3, if_pos (by decide)]
        · by_cases e : i = k
          · subst e
            simp [h]
          · rw [h3 i (by omega)]
            constructor
            · intro h
              cases h
            · omega
      · have h7 : hi + 1 = k := by
          by_cases hlt : hi + 1 < k
          · have := shat_mid (i := hi) (j := hi + 1) (k := k) (by omega) hlt (by omega) ((h5 hi h4).2 ⟨h3, Nat.le_refl _⟩) h
            have := (h5 (hi + 1) hlt).1 this
            omega
          · omega
        refine Or.inr ⟨lo, k, ?_, by omega, by omega, fun i hi2 => ?_, by omega⟩
        · rw [e3, if_neg (by show ¬ ((hi : Int) < (lo : Int)); omega)]
        · by_cases e : i = k
          · subst e
            simp only [h, true_iff]
            omega
          · rw [h5 i (by omega)]
            omega
    · have hf : shat s x k = false := by simpa using h
      rw [if_neg fun h2 => h ((shit_iff s x k (by omega)).1 h2), if_neg h]
      rcases ih with ⟨e3, h3, h4⟩ | ⟨lo, hi, e3, h3, h4, h5, h6⟩
      · refine Or.inl ⟨e3, fun i hi => ?_, by omega⟩
        by_cases e : i = k
        · rw [e]
          exact hf
        · exact h3 i (by omega)
      · refine Or.inr ⟨lo, hi, e3, h3, by omega, fun i hi2 => ?_, by omega⟩
        by_cases e : i = k
        · rw [e, hf]
          constructor
          · intro h
            cases h
          · omega
        · exact h5 i (by omega)
theorem sarr_perm (s : List UInt8) : (sarr s).Perm (List.range (s.length + 1)) := by
  rw [List.perm_iff_count]
  intro p
  rw [(sarr_nodup s).count, List.nodup_range.count]
  by_cases h : p < s.length + 1
  · rw [if_pos ((sarr_mem s p).2 h), if_pos (List.mem_range.2 h)]
  · rw [if_neg fun h2 => h ((sarr_mem s p).1 h2), if_neg fun h2 => h (List.mem_range.1 h2)]
/-- As many ends as it stands in the text; and each of these begins with it. -/
theorem sfound (s x : List UInt8) :
    (sfr s (splc (sarr s)) x (s.length + 1) = (1, 0) ∧ socc s x (s.length + 1) = 0) ∨
    (∃ lo hi : Nat, sfr s (splc (sarr s)) x (s.length + 1) = ((lo : Int), (hi : Int)) ∧ lo ≤ hi ∧ hi < s.length + 1 ∧ socc s x (s.length + 1) = hi - lo + 1 ∧ ∀ i (h : i < (sarr s).length), lo ≤ i → i ≤ hi → (s.drop (sarr s)[i]).take x.length = x) := by
  have hp := (sarr_perm s).countP_eq (sat s x)
  have hl := sarr_len s
  have h := sfr_at s x (s.length + 1) (by omega)
  rw [List.take_of_length_le (by omega), hp] at h
  rcases h with ⟨h1, _, h2⟩ | ⟨lo, hi, h1, h2, h3, h4, h5⟩
  · exact Or.inl ⟨h1, h2⟩
  · refine Or.inr ⟨lo, hi, h1, h2, h3, h5, fun i h6 h7 h8 => ?_⟩
    have := (h4 i (by omega)).2 ⟨h7, h8⟩
    rw [shat_get s x i h6] at this
    exact of_decide_eq_true this
end Go.Proofs.Ytjdpogaaookoeaa
