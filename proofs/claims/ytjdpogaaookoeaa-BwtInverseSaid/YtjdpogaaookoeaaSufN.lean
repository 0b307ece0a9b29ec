/-
  Layer 12, plain: what Array, Sort, Ranks, Common and Find answer (ahead of the code's landing).
-/
import Derived.Test.YtjdpogaaookoeaaSufM
namespace Go.Proofs.Ytjdpogaaookoeaa
set_option linter.unusedSimpArgs false
set_option linter.unusedVariables false
open Go.ChangeShapes Go.WideShapes Go.ChangeAt Go.RowKit Go.Joins Go.Deep

/-- Places as integers. -/
def splc (l : List Nat) : List Int := l.map fun p : Nat => (p : Int)
theorem splc_len (l : List Nat) : (splc l).length = l.length := by simp [splc]
theorem splc_get (l : List Nat) (i : Nat) (h : i < (splc l).length) : (splc l)[i] = ((l[i]'(by rw [splc_len] at h; exact h) : Nat) : Int) := by simp [splc]
theorem splc_take (l : List Nat) (k : Nat) : (splc l).take k = splc (l.take k) := by simp [splc]
theorem splc_drop (l : List Nat) (k : Nat) : (splc l).drop k = splc (l.drop k) := by simp [splc]
theorem splc_app (a b : List Nat) : splc (a ++ b) = splc a ++ splc b := by simp [splc]

/-! ### Array, Sort -/
def sarr (s : List UInt8) : List Nat := slay (slt s) (s.length + 1)
def saF (s : List UInt8) : List Int × Int := if 20000 < s.length then ([], 3) else (splc (sarr s), 0)
def kgood (keys : List Int) (most : Int) : Bool := keys.all fun x => decide (0 ≤ x) && decide (x ≤ most)
theorem kgood_get {keys : List Int} {most : Int} (h : kgood keys most = true) (i : Nat) (hi : i < keys.length) : 0 ≤ keys[i] ∧ keys[i] ≤ most := by
  unfold kgood at h
  rw [List.all_eq_true] at h
  simpa using h keys[i] (List.getElem_mem hi)
theorem kgood_of {keys : List Int} {most : Int} (h : ∀ i (hi : i < keys.length), 0 ≤ keys[i] ∧ keys[i] ≤ most) : kgood keys most = true := by
  unfold kgood
  rw [List.all_eq_true]
  intro x hx
  obtain ⟨i, hi, rfl⟩ := List.getElem_of_mem hx
  simpa using h i hi
def ksF (keys : List Int) (most : Int) : List Int × Int := if most < 0 ∨ 1000000 < most then ([], 2) else if kgood keys most = true then (splc (slay (klt keys) keys.length), 0) else ([], 2)

/-! ### Ranks -/
/-- Is the i-th of a row one of its places, and not yet there? -/
def sok (a : List Int) (i : Nat) : Prop := 0 ≤ a.getD i 0 ∧ a.getD i 0 < a.length ∧ a.getD i 0 ∉ a.take i
instance (a : List Int) (i : Nat) : Decidable (sok a i) := by unfold sok; infer_instance
/-- Is a row an order? -/
def sordF (a : List Int) : Bool := (List.range a.length).all fun i => decide (sok a i)
theorem sord_get {a : List Int} (h : sordF a = true) (i : Nat) (hi : i < a.length) : sok a i := by
  unfold sordF at h
  rw [List.all_eq_true] at h
  simpa using h i (List.mem_range.2 hi)
theorem sord_of {a : List Int} (h : ∀ i, i < a.length → sok a i) : sordF a = true := by
  unfold sordF
  rw [List.all_eq_true]
  intro i hi
  simpa using h i (List.mem_range.1 hi)
theorem sord_no {a : List Int} (i : Nat) (hi : i < a.length) (h : ¬ sok a i) : ¬ sordF a = true := fun h2 => h (sord_get h2 i hi)
/-- Where each place stands among the first k; -1, if it does not. -/
def srk (a : List Int) (k : Nat) : List Int := (List.range a.length).map fun p : Nat => if (p : Int) ∈ a.take k then (((a.take k).idxOf (p : Int) : Nat) : Int) else -1
theorem srk_len (a : List Int) (k : Nat) : (srk a k).length = a.length := by unfold srk; rw [List.length_map, List.length_range]
theorem srk_get (a : List Int) (k p : Nat) (h : p < (srk a k).length) : (srk a k)[p] = if (p : Int) ∈ a.take k then (((a.take k).idxOf (p : Int) : Nat) : Int) else -1 := by
  have hp : p < a.length := by rw [srk_len] at h; exact h
  have e : (srk a k)[p]? = some (if (p : Int) ∈ a.take k then (((a.take k).idxOf (p : Int) : Nat) : Int) else -1) := by
    unfold srk
    rw [List.getElem?_map, List.getElem?_range hp]
    rfl
  rw [List.getElem?_eq_getElem h] at e
  injection e
theorem srk_zero (a : List Int) : srk a 0 = List.replicate a.length (-1) := by
  apply List.ext_getElem
  · rw [srk_len, List.length_replicate]
  · intro i h1 h2
    rw [srk_get, List.getElem_replicate, if_neg (by simp)]
theorem srk_step (a : List Int) (k p : Nat) (hk : k < a.length) (hp : a[k] = (p : Int)) (hn : (p : Int) ∉ a.take k) : (srk a k).set p (k : Int) = srk a (k + 1) := by
  apply List.ext_getElem
  · rw [List.length_set, srk_len, srk_len]
  · intro q h1 h2
    have ht : a.take (k + 1) = a.take k ++ [(p : Int)] := by rw [List.take_succ_eq_append_getElem hk, hp]
    have hkl : (a.take k).length = k := by rw [List.length_take]; omega
    rw [List.getElem_set, srk_get, srk_get, ht]
    by_cases e : p = q
    · subst e
      rw [if_pos rfl, if_pos (by simp), List.idxOf_append, if_neg hn, hkl]
      simp
    · have hq : (q : Int) ∈ a.take k ++ [(p : Int)] ↔ (q : Int) ∈ a.take k := by
        rw [List.mem_append, List.mem_singleton]
        constructor
        · rintro (h | h)
          · exact h
          · omega
        · exact Or.inl
      rw [if_neg e]
      by_cases hm : (q : Int) ∈ a.take k
      · rw [if_pos hm, if_pos (hq.2 hm), List.idxOf_append, if_pos hm]
      · rw [if_neg hm, if_neg fun h => hm (hq.1 h)]
def skF (a : List Int) : List Int × Int := if sordF a = true then (srk a a.length, 0) else ([], 2)

/-! ### Common -/
/-- How many bytes two texts have in common at their beginning. -/
def alike : List UInt8 → List UInt8 → Nat
  | a :: x, b :: y => if a = b then alike x y + 1 else 0
  | _, _ => 0
theorem alike_nil_l (y : List UInt8) : alike [] y = 0 := by cases y <;> rfl
theorem alike_nil_r (x : List UInt8) : alike x [] = 0 := by cases x <;> rfl
theorem alike_le : ∀ x y : List UInt8, alike x y ≤ x.length ∧ alike x y ≤ y.length
  | [], y => by rw [alike_nil_l]; omega
  | a :: x, [] => by rw [alike_nil_r]; omega
  | a :: x, b :: y => by
    have := alike_le x y
    show (if a = b then alike x y + 1 else 0) ≤ _ ∧ (if a = b then alike x y + 1 else 0) ≤ _
    split <;> simp <;> omega
/-- So far as they have been held against each other. -/
theorem alike_at : ∀ (x y : List UInt8) (n : Nat), (∀ i (h1 : i < x.length) (h2 : i < y.length), i < n → x[i] = y[i]) → n ≤ x.length → n ≤ y.length → (n = x.length ∨ n = y.length ∨ ∃ (h1 : n < x.length) (h2 : n < y.length), x[n] ≠ y[n]) → alike x y = n
  | [], y, n, _, h1, _, _ => by simp at h1; subst h1; exact alike_nil_l y
  | a :: x, [], n, _, _, h2, _ => by simp at h2; subst h2; exact alike_nil_r _
  | a :: x, b :: y, 0, _, _, _, h => by
    show (if a = b then alike x y + 1 else 0) = 0
    rcases h with h | h | ⟨_, _, h⟩
    · simp at h
    · simp at h
    · simp only [List.getElem_cons_zero] at h
      rw [if_neg h]
  | a :: x, b :: y, n + 1, h, h1, h2, h3 => by
    have h0 := h 0 (by simp) (by simp) (by omega)
    simp only [List.getElem_cons_zero] at h0
    show (if a = b then alike x y + 1 else 0) = n + 1
    rw [if_pos h0, alike_at x y n (fun i a1 a2 a3 => by
      have := h (i + 1) (by simpa using a1) (by simpa using a2) (by omega)
      simpa using this) (by simpa using h1) (by simpa using h2) (by
      rcases h3 with h3 | h3 | ⟨g1, g2, g3⟩
      · exact Or.inl (by simpa using h3)
      · exact Or.inr (Or.inl (by simpa using h3))
      · exact Or.inr (Or.inr ⟨by simpa using g1, by simpa using g2, by simpa using g3⟩))]
/-- What an end of the row has in common with the one ahead. -/
def scm (s : List UInt8) (a : List Int) (i : Nat) : Int := if i = 0 then 0 else ((alike (s.drop (a.getD i 0).toNat) (s.drop (a.getD (i - 1) 0).toNat) : Nat) : Int)
def scmL (s : List UInt8) (a : List Int) (k : Nat) : List Int := (List.range k).map (scm s a)
theorem scmL_succ (s : List UInt8) (a : List Int) (k : Nat) : scmL s a (k + 1) = scmL s a k ++ [scm s a k] := by simp [scmL, List.range_succ]
theorem scmL_len (s : List UInt8) (a : List Int) (k : Nat) : (scmL s a k).length = k := by simp [scmL]
def scF (s : List UInt8) (a : List Int) : List Int × Int := if sordF a = true ∧ a.length = s.length + 1 then (scmL s a a.length, 0) else ([], 2)

/-! ### Find -/
/-- Does the i-th end of the row begin with what? -/
def shit (s : List UInt8) (a : List Int) (x : List UInt8) (i : Nat) : Prop := alike (s.drop (a.getD i 0).toNat) x = x.length
instance (s : List UInt8) (a : List Int) (x : List UInt8) (i : Nat) : Decidable (shit s a x i) := by unfold shit; infer_instance
/-- The range of the first k ends of the row. -/
def sfr (s : List UInt8) (a : List Int) (x : List UInt8) : Nat → Int × Int
  | 0 => (1, 0)
  | k + 1 => if shit s a x k then (if (sfr s a x k).2 < (sfr s a x k).1 then (k : Int) else (sfr s a x k).1, (k : Int)) else sfr s a x k
/-- Does each end lie behind the one ahead? -/
def sup (s : List UInt8) (a : List Int) : Bool := (List.range a.length).all fun i => decide (i = 0) || slt s (a.getD (i - 1) 0).toNat (a.getD i 0).toNat
theorem sup_get {s : List UInt8} {a : List Int} (h : sup s a = true) (i : Nat) (hi : i < a.length) (h0 : i ≠ 0) : slt s (a.getD (i - 1) 0).toNat (a.getD i 0).toNat = true := by
  unfold sup at h
  rw [List.all_eq_true] at h
  have := h i (List.mem_range.2 hi)
  simpa [h0] using this
theorem sup_of {s : List UInt8} {a : List Int} (h : ∀ i, i < a.length → i ≠ 0 → slt s (a.getD (i - 1) 0).toNat (a.getD i 0).toNat = true) : sup s a = true := by
  unfold sup
  rw [List.all_eq_true]
  intro i hi
  by_cases h0 : i = 0
  · simp [h0]
  · have := h i (List.mem_range.1 hi) h0
    rw [Bool.or_eq_true]
    exact Or.inr this
def sfF (s : List UInt8) (a : List Int) (x : List UInt8) : (Int × Int) × Int :=
  if ¬ (sordF a = true ∧ a.length = s.length + 1) then ((0, 0), 2) else if 20000 < s.length then ((0, 0), 3) else if sup s a = true then (sfr s a x a.length, 0) else ((0, 0), 2)
end Go.Proofs.Ytjdpogaaookoeaa
