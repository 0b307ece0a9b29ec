/-
  What the law of the last of these texts stands on, part 17.
-/
import Derived.Test.YtpocpckhcciecaaRows
import Derived.Test.YtpocpckhcciecaaMg01
import Derived.Test.YtpocpckhcciecaaMg02
import Derived.Test.YtpocpckhcciecaaMg03
import Derived.Test.YtpocpckhcciecaaMg04
import Derived.Test.YtpocpckhcciecaaMg05
import Derived.Test.YtpocpckhcciecaaMg10
import Derived.Test.YtpocpckhcciecaaMg11
import Derived.Test.YtpocpckhcciecaaMg12
import Derived.Test.YtpocpckhcciecaaMg13
import Derived.Test.YtpocpckhcciecaaMg14
import Derived.WalkKit
import Derived.WalkSpells
import Derived.WalkLawsBesides
import Derived.ProofKit
import Derived.OpenShut
import Derived.Handy
import Derived.SizedLaws
import Derived.JoinedOf
import Derived.KernelRfl
import Derived.Lib.Hide
import Derived.Lib.SmallJoins
import Derived.Deep.Slices
import Derived.Deep.Fields
import Derived.Deep.SlicePairs
import Derived.Deep.Draws
import Derived.Deep.AppendLies
import Derived.Deep.QuietTactic
import Derived.BigQuiet
import Derived.Deep.RegionHeld3
import Derived.StillTailTactics
import Derived.Laws.OwnMore
import Derived.Laws.Rows
import Derived.Below
import Derived.Carry
import Derived.Lib.BitFns
import Derived.Deep.OwnRows
import Derived.WalkMore
import Derived.Laws.BytesString
import Derived.Laws.BitsLemmas
import Derived.Laws.Concat
import Derived.OwnWalk
import Derived.Deep.Upon
namespace Go.Proofs.Ytpocpckhcciecaa
set_option linter.unusedSimpArgs false
set_option linter.unusedVariables false
open Go.ChangeShapes Go.WideShapes Go.ChangeAt Go.RowKit Go.Joins Go.Deep
variable {ls : List Nat}
/-- The symbols of a length among the first i. -/
def crow (ls : List Nat) (i n : Nat) : List Nat := (List.range i).filter fun s => decide (0 < n ∧ ls.getD s 0 = n)
theorem crow_zero (n : Nat) : crow ls 0 n = [] := rfl
theorem crow_next (i n : Nat) : crow ls (i + 1) n = crow ls i n ++ (if 0 < n ∧ ls.getD i 0 = n then [i] else []) := by
  unfold crow
  rw [List.range_succ, List.filter_append]
  congr 1
  by_cases h : 0 < n ∧ ls.getD i 0 = n
  · rw [if_pos h, List.filter_cons, if_pos (by simpa using h)]; rfl
  · rw [if_neg h, List.filter_cons, if_neg (by simpa using h)]; rfl
theorem crow_none (i : Nat) : crow ls i 0 = [] := by
  induction i with
  | zero => rfl
  | succ i ih => rw [crow_next, ih, if_neg (by omega)]; rfl
theorem crow_len_le (i n : Nat) : (crow ls i n).length ≤ i := by
  have := List.length_filter_le (fun s => decide (0 < n ∧ ls.getD s 0 = n)) (List.range i)
  simpa [crow] using this
/-- One of them. -/
theorem crow_at (n k s : Nat) : ∀ (i : Nat), (crow ls i n)[k]? = some s → s < i ∧ 0 < n ∧ ls.getD s 0 = n ∧ (crow ls s n).length = k
  | 0, h => by simp [crow_zero] at h
  | i + 1, h => by
    rw [crow_next] at h
    by_cases hk : k < (crow ls i n).length
    · rw [List.getElem?_append_left hk] at h
      obtain ⟨h1, h2⟩ := crow_at n k s i h
      exact ⟨by omega, h2⟩
    · rw [List.getElem?_append_right (by omega)] at h
      by_cases hp : 0 < n ∧ ls.getD i 0 = n
      · rw [if_pos hp] at h
        have e : k - (crow ls i n).length = 0 := by
          rcases Nat.eq_zero_or_pos (k - (crow ls i n).length) with e | e
          · exact e
          · rw [List.getElem?_eq_none (by simp; omega)] at h
            cases h
        rw [e] at h
        have : i = s := by simpa using h
        subst this
        exact ⟨by omega, hp.1, hp.2, by omega⟩
      · rw [if_neg hp] at h
        simp at h
theorem crow_mono (i n : Nat) : ∀ d, (crow ls i n).length ≤ (crow ls (i + d) n).length
  | 0 => Nat.le_refl _
  | d + 1 => by
    have := crow_mono i n d
    rw [show i + (d + 1) = i + d + 1 from rfl, crow_next, List.length_append]
    omega
theorem getD_at {l : List Nat} (s : Nat) (h : s < l.length) : l.getD s 0 = l[s] := by rw [List.getD_eq_getElem?_getD, List.getElem?_eq_getElem h]; rfl
/-- Between two places without a symbol of that length nothing turns. -/
theorem crow_same (n : Nat) (hn : 0 < n) (i : Nat) : ∀ d, (crow ls (i + d) n).length = (crow ls i n).length → cpos ls n (i + d) = cpos ls n i ∧ wat ls n (i + d) = wat ls n i
  | 0, _ => ⟨rfl, rfl⟩
  | d + 1, h => by
    have h1 := crow_mono (ls := ls) i n d
    have h2 := crow_next (ls := ls) (i + d) n
    rw [show i + (d + 1) = i + d + 1 from rfl] at h ⊢
    by_cases hp : 0 < n ∧ ls.getD (i + d) 0 = n
    · rw [h2, if_pos hp, List.length_append, List.length_singleton] at h
      omega
    · have hne : ls.getD (i + d) 0 ≠ n := fun e => hp ⟨hn, e⟩
      rw [h2, if_neg hp, List.append_nil] at h
      obtain ⟨h3, h4⟩ := crow_same n hn i d h
      refine ⟨?_, ?_⟩
      · rw [cpos_skip n (i + d) fun hs e => hne (by rw [getD_at _ hs]; exact e), h3]
      · rw [wat_skip ls n (i + d) hne, h4]
theorem crow_eq (n : Nat) (hn : 0 < n) (i j : Nat) (h : (crow ls i n).length = (crow ls j n).length) : cpos ls n i = cpos ls n j ∧ wat ls n i = wat ls n j := by
  rcases Nat.le_total i j with e | e
  · obtain ⟨d, rfl⟩ := Nat.exists_eq_add_of_le e
    obtain ⟨a, b⟩ := crow_same n hn i d h.symm
    exact ⟨a.symm, b.symm⟩
  · obtain ⟨d, rfl⟩ := Nat.exists_eq_add_of_le e
    exact crow_same n hn j d h
theorem crow_pos (n : Nat) (hn : 0 < n) : ∀ i, i ≤ ls.length → cpos ls n i = cpos ls n 0 + (crow ls i n).length * 2 ^ (15 - n)
  | 0, _ => by rw [crow_zero]; simp
  | i + 1, h => by
    have ih := crow_pos n hn i (by omega)
    have hg := getD_at (l := ls) i (by omega)
    rw [crow_next]
    by_cases hp : ls[i]'(by omega) = n
    · rw [cpos_step n i (by omega) hp hn, ih, if_pos ⟨hn, by rw [hg]; exact hp⟩, List.length_append, List.length_singleton, Nat.add_mul, Nat.one_mul]
      omega
    · rw [cpos_skip n i fun _ => hp, ih, if_neg (by rw [hg]; exact fun e => hp e.2), List.append_nil]
/-- Where the words of a length begin. -/
def cst (ls : List Nat) (n : Nat) : Nat := cword ls n 0
theorem cst_pos (n : Nat) (hn : n ≤ 15) : cst ls n * 2 ^ (15 - n) = cpos ls n 0 := cword_pos n 0 hn
theorem cst_none : cst ls 0 = 0 := by
  unfold cst cword
  rw [cpos_none, Nat.zero_div]
/-- The number of all symbols of a length. -/
theorem crow_over (n : Nat) (hn : n ≤ 15) : cpos ls (n + 1) 0 = (cst ls n + (crow ls ls.length n).length) * 2 ^ (15 - n) := by
  rw [← cpos_next n ls.length (Nat.le_refl _), Nat.add_mul, cst_pos n hn]
  rcases Nat.eq_zero_or_pos n with e | e
  · subst e
    rw [cpos_none, cpos_none, crow_none]
    simp
  · exact crow_pos n e ls.length (Nat.le_refl _)
theorem cst_next (n : Nat) (hn : n + 1 ≤ 15) : cst ls (n + 1) = 2 * (cst ls n + (crow ls ls.length n).length) := by
  have h1 := crow_over (ls := ls) n (by omega)
  have h2 := cst_pos (ls := ls) (n + 1) hn
  have h3 : 0 < (2 : Nat) ^ (15 - (n + 1)) := Nat.pow_pos (by omega)
  rw [show 15 - n = 15 - (n + 1) + 1 from by omega, Nat.pow_succ, Nat.mul_comm _ 2, ← Nat.mul_assoc, Nat.mul_comm _ 2] at h1
  rw [h1] at h2
  exact Nat.eq_of_mul_eq_mul_right h3 h2
theorem cst_word (n k s : Nat) (hn : 0 < n) (hn2 : n ≤ 15) (h : (crow ls ls.length n)[k]? = some s) : cword ls n s = cst ls n + k ∧ s < ls.length ∧ ls.getD s 0 = n ∧ (crow ls s n).length = k := by
  obtain ⟨h1, _, h2, h3⟩ := crow_at n k s _ h
  refine ⟨?_, h1, h2, h3⟩
  have h4 := crow_pos (ls := ls) n hn s (by omega)
  have h5 := cst_pos (ls := ls) n hn2
  have h6 := cword_pos (ls := ls) n s hn2
  rw [h3, ← h5, ← Nat.add_mul] at h4
  rw [h4] at h6
  exact Nat.eq_of_mul_eq_mul_right (Nat.pow_pos (by omega)) h6
theorem cst_le (n : Nat) (hn : n ≤ 15) (hc : call ls ≤ 32768) : cst ls n ≤ 32768 := by
  have h1 := cst_pos (ls := ls) n hn
  have h2 := cpos_le (ls := ls) n 0
  have h3 : 0 < (2 : Nat) ^ (15 - n) := Nat.pow_pos (by omega)
  have h4 := Nat.mul_le_mul_left (cst ls n) h3
  omega
/-- Above the longest length nothing turns any more. -/
theorem cdeep_over (n : Nat) (h : ∀ s (hs : s < ls.length), ls[s] ≤ n) : ∀ m, cpos ls (n + 1 + m) 0 = cpos ls (n + 1) 0 ∧ wat ls (n + 1 + m) 0 = wat ls (n + 1) 0
  | 0 => ⟨rfl, rfl⟩
  | m + 1 => by
    obtain ⟨h1, h2⟩ := cdeep_over n h m
    have hz : (crow ls ls.length (n + 1 + m)).length = (crow ls 0 (n + 1 + m)).length := by
      have : crow ls ls.length (n + 1 + m) = [] := by
        unfold crow
        rw [List.filter_eq_nil_iff]
        intro s hs
        have hs2 := List.mem_range.1 hs
        have h3 := h s hs2
        have h4 := getD_at (l := ls) s hs2
        simp only [decide_eq_true_eq]
        omega
      rw [this, crow_zero]
    obtain ⟨h5, h6⟩ := crow_eq (ls := ls) (n + 1 + m) (by omega) _ _ hz
    rw [cpos_next _ _ (Nat.le_refl _)] at h5
    rw [wat_next _ _ _ (Nat.le_refl _)] at h6
    rw [show n + 1 + (m + 1) = n + 1 + m + 1 from rfl, h5, h6]
    exact ⟨h1, h2⟩
theorem cdeep_all (n : Nat) (hn : n ≤ 15) (h : ∀ s (hs : s < ls.length), ls[s] ≤ n) : cpos ls (n + 1) 0 = call ls ∧ wat ls (n + 1) 0 = wat ls 16 0 := by
  obtain ⟨h1, h2⟩ := cdeep_over n h (15 - n)
  rw [show n + 1 + (15 - n) = 16 from by omega] at h1 h2
  refine ⟨?_, h2.symm⟩
  rw [← h1]
  exact cpos_end fun x hx => by
    obtain ⟨i, hi, rfl⟩ := List.getElem_of_mem hx
    have := h i hi
    omega
section
variable {R : List Nat}
theorem cgo_bit (hb : Bin R) (k : Nat) (hk : k < R.length) : num ((R.drop k).take 1) = R[k] := by
  rw [List.drop_eq_getElem_cons hk, List.take_succ_cons, List.take_zero]
  simp [num]
theorem cgo_num (n : Nat) (hk : n < R.length) : num (R.take (n + 1)) = 2 * num (R.take n) + R[n] := num_next R n hk
theorem cgo_le (hb : Bin R) (n : Nat) (hn : n ≤ 15) (hl : n ≤ R.length) (hv : cpos ls n 0 ≤ v15 R) : cst ls n ≤ num (R.take n) := by
  rw [v15_take hb n hn hl, Nat.le_div_iff_mul_le (Nat.pow_pos (by omega)), cst_pos n hn]
  exact hv
theorem cgo_hit (h15 : ∀ x ∈ ls, x ≤ 15) (hc : call ls ≤ 32768) (hb : Bin R) (E : Int) (n : Nat) (hn : 0 < n) (hn2 : n ≤ 15) (hl : n ≤ R.length) (k s : Nat) (hk : num (R.take n) = cst ls n + k) (hs : (crow ls ls.length n)[k]? = some s) : cget1 (wat ls 16 0) 0 R E = ((s : Int), (n : Int), 0) := by
  obtain ⟨h1, h2, h3, _⟩ := cst_word n k s hn hn2 hs
  have hg := getD_at (l := ls) s h2
  have h4 : ls[s] = n := by omega
  have h5 := cget_found h15 hc hb E s h2 (by omega) (by omega) (by
    have h6 := cword_pos (ls := ls) n s hn2
    have h7 := (part_of (v := v15 R) (D := 2 ^ (15 - n)) (x := num (R.take n)) (Nat.pow_pos (by omega))).1 (v15_take hb n hn2 hl).symm
    rw [h4, ← h6, h1, ← hk]
    exact h7)
  rw [h4] at h5
  exact h5
theorem cgo_miss (hb : Bin R) (n : Nat) (hn2 : n ≤ 15) (hl : n ≤ R.length) (h : cst ls n + (crow ls ls.length n).length ≤ num (R.take n)) : cpos ls (n + 1) 0 ≤ v15 R := by
  rw [crow_over n hn2, ← Nat.le_div_iff_mul_le (Nat.pow_pos (by omega)), ← v15_take hb n hn2 hl]
  exact h
/-- The bits end. -/
theorem cgo_short (h15 : ∀ x ∈ ls, x ≤ 15) (hc : call ls ≤ 32768) (hb : Bin R) (n D : Nat) (hn : 0 < n) (hn2 : n ≤ D) (hl : R.length + 1 = n) (hv : cpos ls n 0 ≤ v15 R) (hD : D = 1 ∨ call ls = 32768) (E : Int) (hE : R = [] → E = 4) : cget1 (wat ls 16 0) 0 R E = (0, 0, 4) := by
  rcases hD with hD | hD
  · have hR : R = [] := List.eq_nil_of_length_eq_zero (by omega)
    subst hR
    refine cget1_short [] _ 0 E (fun j hj => ?_) (Or.inl (hE rfl))
    have hj2 : j < ls.length := by rw [wat_len] at hj; exact hj
    by_cases hp : 0 < ls[j]
    · right
      rw [(wat_dig h15 j hj2 hj hp).1]
      cases hbb : (begF [] (dig ls[j] (cword ls ls[j] j))).2 with
      | false => rfl
      | true =>
        have := ((begF_all _ _).1 hbb).1
        rw [dig_length, List.length_nil] at this
        omega
    · exact Or.inl (wat_none h15 j hj2 hj hp)
  · obtain ⟨k, hk, hp, hv2⟩ := cpos_find (ls := ls) (v15 R) 16 0 (by rw [cpos_end h15, hD]; exact v15_lt hb)
    refine cget_cut h15 hc hb E k hk hp ?_ hv2
    rcases Nat.lt_or_ge R.length ls[k] with e | e
    · exact e
    · have := cpos_ahead ls[k] k n 0 hk rfl hp (Or.inl (by omega))
      omega
theorem cget1_none (R : List Nat) : ∀ (ws : List (Int × Int)) (s : Nat) (E : Int), (∀ j (hj : j < ws.length), ws[j].2 = 0 ∨ (begF R (digI ws[j].1 ws[j].2)).1 = false ∧ (begF R (digI ws[j].1 ws[j].2)).2 = false) → cget1 ws s R E = (0, 0, E)
  | [], s, E, _ => rfl
  | f :: t, s, E, h0 => by
    have hf := h0 0 (by simp)
    simp only [List.getElem_cons_zero] at hf
    have ih := cget1_none R t (s + 1) E (fun j hj => by
      have := h0 (j + 1) (by simpa using hj)
      simpa only [List.getElem_cons_succ] using this)
    unfold cget1
    by_cases hz : f.2 = 0
    · rw [if_pos hz]
      exact ih
    · rcases hf with hf | ⟨hf, hf2⟩
      · exact absurd hf hz
      · rw [if_neg hz, if_neg (by rw [hf2]; decide), if_neg (by rw [hf]; decide)]
        exact ih
/-- No word begins so. -/
theorem cgo_end (h15 : ∀ x ∈ ls, x ≤ 15) (hc : call ls ≤ 32768) (hb : Bin R) (D : Nat) (hD1 : 0 < D) (hD2 : D ≤ 15) (hd : ∀ s (hs : s < ls.length), ls[s] ≤ D) (hl : D ≤ R.length) (hv : cpos ls (D + 1) 0 ≤ v15 R) (E : Int) : cget1 (wat ls 16 0) 0 R E = (0, 0, E) := by
  refine cget1_none R _ 0 E fun j hj => ?_
  have hj2 : j < ls.length := by rw [wat_len] at hj; exact hj
  by_cases hp : 0 < ls[j]
  · right
    have h1 := hd j hj2
    have h2 : (begF R (dig ls[j] (cword ls ls[j] j))).2 = false := by
      cases hbb : (begF R (dig ls[j] (cword ls ls[j] j))).2 with
      | false => rfl
      | true =>
        have h3 := ((wat_begins h15 hc hb j hj2 hp).1 hbb).2
        have h4 := cpos_ahead ls[j] j (D + 1) 0 hj2 rfl hp (Or.inl (by omega))
        omega
    rw [(wat_dig h15 j hj2 hj hp).1]
    refine ⟨?_, h2⟩
    cases hbb : (begF R (dig ls[j] (cword ls ls[j] j))).1 with
    | false => rfl
    | true =>
      have h3 := (begF_some _ _).1 hbb
      rw [dig_length, List.take_of_length_le (l := dig _ _) (by rw [dig_length]; omega)] at h3
      have h4 := (begF_all R (dig ls[j] (cword ls ls[j] j))).2 ⟨by rw [dig_length]; omega, by rw [dig_length]; exact h3⟩
      rw [h4] at h2
      cases h2
  · exact Or.inl (wat_none h15 j hj2 hj hp)
end
def cdeep (ls : List Nat) : Nat → Nat
  | 0 => 1
  | i + 1 => max (cdeep ls i) (ls.getD i 0)
theorem cdeep_pos : ∀ i, 1 ≤ cdeep ls i
  | 0 => Nat.le_refl _
  | i + 1 => Nat.le_trans (cdeep_pos i) (Nat.le_max_left _ _)
theorem cdeep_le (h15 : ∀ s (hs : s < ls.length), ls[s] ≤ 15) : ∀ i, i ≤ ls.length → cdeep ls i ≤ 15
  | 0, _ => by show 1 ≤ 15; omega
  | i + 1, h => by
    have h1 := cdeep_le h15 i (by omega)
    have h2 := h15 i (by omega)
    have h3 := getD_at (l := ls) i (by omega)
    show max _ _ ≤ 15
    omega
theorem cdeep_ge : ∀ i, i ≤ ls.length → ∀ s (hs : s < ls.length), s < i → ls[s] ≤ cdeep ls i
  | 0, _, s, hs, h => by omega
  | i + 1, hi, s, hs, h => by
    show _ ≤ max (cdeep ls i) (ls.getD i 0)
    by_cases e : s = i
    · subst e
      rw [getD_at _ hs]
      omega
    · have := cdeep_ge i (by omega) s hs (by omega)
      omega
theorem cdeep_has : ∀ i, i ≤ ls.length → cdeep ls i = 1 ∨ ∃ s, ∃ hs : s < ls.length, ls[s] = cdeep ls i
  | 0, _ => Or.inl rfl
  | i + 1, hi => by
    show max (cdeep ls i) (ls.getD i 0) = 1 ∨ ∃ s, ∃ hs : s < ls.length, ls[s] = max (cdeep ls i) (ls.getD i 0)
    have hg := getD_at (l := ls) i (by omega)
    rcases Nat.le_total (cdeep ls i) (ls.getD i 0) with e | e
    · exact Or.inr ⟨i, by omega, by omega⟩
    · rw [Nat.max_eq_left e]
      exact cdeep_has i (by omega)
theorem cpart_more : ∀ (l : List Int), partF l ≤ 16384 * usedF l ∧ ((∃ x ∈ l, 2 ≤ x) → partF l + 8192 ≤ 16384 * usedF l)
  | [] => ⟨by simp [usedF, partF], fun ⟨x, hx, _⟩ => by cases hx⟩
  | x :: t => by
    obtain ⟨h1, h2⟩ := cpart_more t
    have hu : usedF (x :: t) = (if 0 < x then 1 else 0) + usedF t := by
      unfold usedF
      by_cases h : 0 < x
      · rw [List.filter_cons, if_pos (by simpa using h), if_pos h, List.length_cons]; omega
      · rw [List.filter_cons, if_neg (by simpa using h), if_neg h]; omega
    have hp : partF (x :: t) = (if 0 < x then 2 ^ (15 - x.toNat) else 0) + partF t := rfl
    rw [hu, hp]
    have hs : 0 < x → (2 : Nat) ^ (15 - x.toNat) ≤ 16384 := fun h => Nat.le_trans (Nat.pow_le_pow_right (by omega) (by omega)) (by decide : (2 : Nat) ^ 14 ≤ 16384)
    have hs2 : 2 ≤ x → (2 : Nat) ^ (15 - x.toNat) ≤ 8192 := fun h => Nat.le_trans (Nat.pow_le_pow_right (by omega) (by omega)) (by decide : (2 : Nat) ^ 13 ≤ 8192)
    by_cases h : 0 < x
    · rw [if_pos h, if_pos h]
      have h3 := hs h
      refine ⟨by omega, fun ⟨y, hy, hy2⟩ => ?_⟩
      rcases List.mem_cons.1 hy with rfl | hy
      · have := hs2 hy2
        omega
      · have := h2 ⟨y, hy, hy2⟩
        omega
    · rw [if_neg h, if_neg h]
      refine ⟨by omega, fun ⟨y, hy, hy2⟩ => ?_⟩
      rcases List.mem_cons.1 hy with rfl | hy
      · omega
      · have := h2 ⟨y, hy, hy2⟩
        omega
/-- A code in which a word has two bits or more is full. -/
theorem cdeep_full {l : List Int} (h : checkF l = 0) : cdeep (l.map Int.toNat) (l.map Int.toNat).length = 1 ∨ call (l.map Int.toNat) = 32768 := by
  rcases cdeep_has (ls := l.map Int.toNat) _ (Nat.le_refl _) with e | ⟨s, hs, e⟩
  · exact Or.inl e
  · by_cases hd : cdeep (l.map Int.toNat) (l.map Int.toNat).length = 1
    · exact Or.inl hd
    · right
      have hge := cdeep_pos (ls := l.map Int.toNat) (l.map Int.toNat).length
      obtain ⟨hl, hg, hca⟩ := check_ok h
      have hs2 : s < l.length := by simpa using hs
      have hx : ∃ x ∈ l, 2 ≤ x := ⟨l[s], List.getElem_mem hs2, by rw [List.getElem_map] at e; omega⟩
      obtain ⟨h1, h2⟩ := cpart_more l
      have h3 := h2 hx
      have h4 := cpart_used l
      rw [call_part]
      unfold checkF at h
      rw [if_neg (by omega)] at h
      by_cases h5 : sumF l = 0 ∨ sumF l = 32768 ∨ ((usedF l : Int) = 1 ∧ sumF l = 16384)
      · unfold sumF at h5
        rw [if_pos hg] at h5
        omega
      · rw [if_neg h5] at h
        cases h
end Go.Proofs.Ytpocpckhcciecaa
namespace Go.Proofs.Ytpocpckhcciecaa
set_option linter.unusedSimpArgs false
set_option linter.unusedVariables false
open Go.ChangeShapes Go.WideShapes Go.ChangeAt Go.RowKit Go.Joins Go.Deep
theorem bfits_yes (n width : Int) (w : World) (h : fits n width) : Calls Try.prog 65 #[.int .i64 n, .int .i64 width] w fun e w' => e = .returned (.bool true) ∧ w = w' := by
  obtain ⟨h1, h2, h3, h4⟩ := h
  obtain ⟨W, rfl⟩ := Int.eq_ofNat_of_zero_le h1
  obtain ⟨N, rfl⟩ := Int.eq_ofNat_of_zero_le h3
  go_enter Try.func65, Try.ntmps65
  go_wp2
  go_ret
  refine ⟨?_, rfl⟩
  have hd : (N : Int) / 2 ^ W = 0 := Int.ediv_eq_zero_of_lt h3 (by simpa using h4)
  show Ending.returned (.bool ((N : Int) / 2 ^ W == 0)) = _
  rw [hd]
  rfl
theorem some_is (g : Nat) (w : World) : Calls Try.prog 54 #[.pointer (some ⟨g, 0, none⟩)] w fun e w' => e = .returned (.pointer (some ⟨g, 0, none⟩)) ∧ w = w' := by
  go_enter Try.func54, Try.ntmps54
  go_wp2
  go_ret
  exact ⟨rfl, rfl⟩
theorem newreader_any (s : ByteArray) (w : World) : Calls Try.prog 27 #[.string s] w fun e w' => e = .returned (.pointer (some ⟨w.heap.size, 0, none⟩)) ∧ w.alloc (.cells #[.string s, .int .i64 0] 87) = w' := by
  go_enter Try.func27, Try.ntmps27
  go_wp2
  go_ret
  exact ⟨rfl, rfl⟩
theorem bleft_any (l : List UInt8) (p : Nat) (g : Nat) (w : World) (hl : l.length ≤ 4611686018427387) (hp : p ≤ 8 * l.length) (hB : Blk w g 87 #[.string ⟨l.toArray⟩, .int .i64 p]) :
    Calls Try.prog 55 #[.pointer (some ⟨g, 0, none⟩)] w fun e w' => e = .returned (.int .i64 ((8 * l.length - p : Nat) : Int)) ∧ ∃ k, w.drewN k = w' := by
  obtain ⟨c1, c2, _, _⟩ := hB.two
  go_enter Try.func55, Try.ntmps55
  go_wp2_with (go_at_call 54; refine (some_is g _).mono ?_; rintro e w1 ⟨rfl, rfl⟩)
  go_quiet (fail)
  go_wp2
  go_ret
  exact ⟨congrArg Ending.returned (iv (by omega)), _, rfl⟩
/-- A writer at block g has the bits R; v is its slice of bytes. -/
def WHold (w : World) (B g : Nat) (v : Value) (R : List Nat) : Prop :=
  Blk w g 46 #[v, .int .i64 (fr R)] ∧ w.ownsRow B 5 1 v (text R).length (bc (text R)).toList ∧ Bin R
section
variable {w w' : World} {B g : Nat} {v : Value} {R : List Nat} {S : Nat → Prop}
theorem WHold.touch (h : WHold w B g v R) (ht : Touch w w' S) (hg : ¬ S g) (hv : ∀ k, v.ownBlock = some k → ¬ S k) : WHold w' B g v R := ⟨h.1.touch ht hg, owns_touch h.2.1 ht hv, h.2.2⟩
theorem WHold.below (h : WHold w B g v R) {C : Nat} (hb : Below C w w') (hC : w.heap.size ≤ C) : WHold w' B g v R := h.touch (touch_below (S := fun _ => False) hb hC) (fun h => h) (fun _ _ h => h)
end
theorem wtext_any (B g : Nat) (v : Value) (R : List Nat) (w : World) (hH : WHold w B g v R) :
    Calls Try.prog 23 #[.pointer (some ⟨g, 0, none⟩)] w fun e w' => e = .returned (.string ⟨(text R).toArray⟩) ∧ w = w' := by
  obtain ⟨A, c, rfl, hc, hr⟩ := owns_cells hH.2.1
  obtain ⟨c1, c2, _, _⟩ := hH.1.two
  have hcv : (convert 44 9 (.slice A (text R).length c)).run Try.prog w = .ok (.string ⟨(text R).toArray⟩) w := run_str_any Try.underlying44 Try.underlying5 Try.underlying9 w A c _ hr
  have hg := hH.1.lt
  clear hH hr hc
  generalize (text R).length = n at *
  generalize (text R).toArray = a at *
  go_enter Try.func23, Try.ntmps23
  go_wp2
  go_ret
  exact ⟨rfl, rfl⟩
end Go.Proofs.Ytpocpckhcciecaa
