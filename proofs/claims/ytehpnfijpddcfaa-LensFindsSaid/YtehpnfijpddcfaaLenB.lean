/-
  Layer 8: the document's own Best, for every list of counts and every limit.
-/
import Derived.Test.YtehpnfijpddcfaaLenV
import Derived.Deep.OwnRows
namespace Go.Proofs.Ytehpnfijpddcfaa
set_option linter.unusedSimpArgs false
set_option linter.unusedVariables false
open Go.ChangeShapes Go.WideShapes Go.ChangeAt Go.RowKit Go.Joins Go.Deep

/-! ### Plain -/
/-- All counts are within the limits. -/
def cgood (l : List Int) : Bool := l.all fun c => decide (0 ≤ c) && decide (c ≤ 1000000)
theorem cgood_get {l : List Int} (h : cgood l = true) (i : Nat) (hi : i < l.length) : 0 ≤ l[i] ∧ l[i] ≤ 1000000 := by
  unfold cgood at h
  rw [List.all_eq_true] at h
  simpa using h l[i] (List.getElem_mem hi)
theorem cgood_of {l : List Int} (h : ∀ i (hi : i < l.length), 0 ≤ l[i] ∧ l[i] ≤ 1000000) : cgood l = true := by
  unfold cgood
  rw [List.all_eq_true]
  intro x hx
  obtain ⟨i, hi, rfl⟩ := List.getElem_of_mem hx
  simpa using h i hi
def lbestF (counts : List Int) (most : Int) : List Int × Int :=
  if 257 < counts.length then ([], 3) else if most < 1 ∨ 15 < most then ([], 2) else if cgood counts = true then
    (if 2 ^ most.toNat < (lleaves counts).length then ([], 3) else (lbestL counts most.toNat, 0)) else ([], 2)
theorem lleaves_len (counts : List Int) : (lleaves counts).length ≤ counts.length := by
  have h1 := lleaves_sum counts (fun _ => 1)
  rw [lsum_one] at h1
  have h2 : ∀ (l : List Int) (i : Nat), isum (fun _ c => if 0 < c then 1 else 0) i l ≤ l.length := by
    intro l
    induction l with
    | nil => intro i; simp [isum]
    | cons c t ih =>
      intro i
      have := ih (i + 1)
      simp only [isum, List.length_cons]
      split <;> omega
  have := h2 counts 0
  omega
theorem lrow_short {leaves : List LTh} (hl : LLeaves leaves) : ∀ k, (lrow leaves k).length ≤ 2 * leaves.length
  | 0 => by show leaves.length ≤ _; omega
  | k + 1 => by
    have := lrow_short hl k
    rw [lrow_len hl k]
    omega
/-- A property that packages keep. -/
theorem lpacks_all {P Q : LTh → Prop} (h : ∀ a b, P a → P b → Q (lpack a b)) : ∀ R : List LTh, (∀ x ∈ R, P x) → ∀ x ∈ lpacks R, Q x
  | [], _, x, hx => by cases hx
  | [_], _, x, hx => by cases hx
  | a :: b :: t, hp, x, hx => by
    rcases List.mem_cons.1 hx with rfl | hx
    · exact h a b (hp a (by simp)) (hp b (by simp))
    · exact lpacks_all h t (fun y hy => hp y (by simp [hy])) x hx
def LFits (n k : Nat) (x : LTh) : Prop := x.syms.length ≤ 2 ^ k ∧ 0 ≤ x.w ∧ x.w ≤ ((2 ^ k : Nat) : Int) * 1000000 ∧ ∀ s ∈ x.syms, s < n
theorem lrow_fits (counts : List Int) (hg : cgood counts = true) : ∀ k, ∀ x ∈ lrow (lleaves counts) k, LFits counts.length k x
  | 0, x, h => by
    obtain ⟨j, hj, hp, rfl⟩ := (lleaves_mem counts x).1 h
    have := cgood_get hg j hj
    refine ⟨by simp, by show 0 ≤ counts[j]; omega, by show counts[j] ≤ _; simp; omega, fun s hs => ?_⟩
    have : s = j := by simpa using hs
    omega
  | k + 1, x, h => by
    have hl := lleaves_ok counts
    have hr := lrow_row hl k
    have ih := lrow_fits counts hg k
    have h2 : (2 ^ (k + 1) : Nat) = 2 ^ k + 2 ^ k := by rw [Nat.pow_succ]; omega
    have hp1 : 0 < (2 ^ k : Nat) := Nat.pow_pos (by omega)
    cases hx : x.leaf with
    | true =>
      have h0 : x ∈ lleaves counts := by rw [← hr.lv]; exact List.mem_filter.2 ⟨h, hx⟩
      obtain ⟨j, hj, hp, rfl⟩ := (lleaves_mem counts x).1 h0
      have := cgood_get hg j hj
      refine ⟨by show 1 ≤ _; omega, by show 0 ≤ counts[j]; omega, ?_, fun s hs => ?_⟩
      · show counts[j] ≤ _
        have : (1 : Int) * 1000000 ≤ ((2 ^ (k + 1) : Nat) : Int) * 1000000 := Int.mul_le_mul_of_nonneg_right (by omega) (by omega)
        omega
      · have : s = j := by simpa using hs
        omega
    | false =>
      refine lpacks_all (P := LFits counts.length k) ?_ (lrow (lleaves counts) k) ih x (by rw [← hr.pk]; exact List.mem_filter.2 ⟨h, by simp [hx]⟩)
      rintro a b ⟨a1, a2, a3, a4⟩ ⟨b1, b2, b3, b4⟩
      refine ⟨?_, ?_, ?_, ?_⟩
      · show (a.syms ++ b.syms).length ≤ _
        rw [List.length_append]
        omega
      · show 0 ≤ a.w + b.w
        omega
      · show a.w + b.w ≤ _
        rw [h2, Int.natCast_add, Int.add_mul]
        omega
      · intro s hs
        rcases List.mem_append.1 (show s ∈ a.syms ++ b.syms from hs) with hs | hs
        · exact a4 s hs
        · exact b4 s hs

/-- Lengths while they are counted. -/
def lout (n : Nat) (f : Nat → Int) : List Int := (List.range n).map f
theorem lout_len (n : Nat) (f : Nat → Int) : (lout n f).length = n := by simp [lout]
theorem lout_get (n : Nat) (f : Nat → Int) (s : Nat) (h : s < n) : (lout n f)[s]? = some (f s) := by simp [lout, h]
theorem lout_set (n : Nat) (f g : Nat → Int) (s : Nat) (v : Int) (hs : g s = v) (ho : ∀ t, t ≠ s → g t = f t) : (lout n f).set s v = lout n g := by
  apply List.ext_getElem?
  intro t
  by_cases ht : t < n
  · rw [List.getElem?_set, lout_get n f t ht, lout_get n g t ht, lout_len]
    by_cases e : s = t
    · subst e
      rw [if_pos rfl, if_pos ht, hs]
    · rw [if_neg e, ho t (fun h => e h.symm)]
  · rw [List.getElem?_eq_none (by rw [List.length_set, lout_len]; omega), List.getElem?_eq_none (by rw [lout_len]; omega)]
theorem lout_congr (n : Nat) (f g : Nat → Int) (h : ∀ t, t < n → f t = g t) : lout n f = lout n g := by
  unfold lout
  exact List.map_congr_left fun t ht => h t (List.mem_range.1 ht)
/-- How often a symbol is in the first things, and the first symbols of the next one. -/
def lfar (R : List LTh) (i k s : Nat) : Int := lsum (lhas s) (R.take i) + ((((R[i]?).map (·.syms)).getD []).take k).count s
theorem lfar_zero (R : List LTh) (i s : Nat) : lfar R i 0 s = lsum (lhas s) (R.take i) := by simp [lfar]
theorem lfar_step (R : List LTh) (i k s : Nat) (hi : i < R.length) (hk : k < R[i].syms.length) : lfar R i (k + 1) s = lfar R i k s + if s = R[i].syms[k] then 1 else 0 := by
  unfold lfar
  rw [List.getElem?_eq_getElem hi]
  simp only [Option.map_some, Option.getD_some]
  rw [List.take_succ_eq_append_getElem hk, List.count_append, List.count_singleton]
  by_cases e : s = R[i].syms[k]
  · rw [if_pos e, if_pos (by simp [e])]; omega
  · rw [if_neg e, if_neg (by simpa using fun h => e h.symm)]; omega
theorem lfar_end (R : List LTh) (i s : Nat) (hi : i < R.length) : lfar R i R[i].syms.length s = lsum (lhas s) (R.take (i + 1)) := by
  unfold lfar
  rw [List.getElem?_eq_getElem hi]
  simp only [Option.map_some, Option.getD_some, List.take_length]
  rw [List.take_succ_eq_append_getElem hi, lsum_app]
  simp [lsum, lhas]
theorem lbestL_many (counts : List Int) (most : Nat) (h : (lleaves counts).length ≠ 1) : lbestL counts most = lout counts.length (fun s => lsum (lhas s) (ltaken counts most)) := by
  unfold lbestL
  rw [if_neg h]
  rfl
theorem lbestL_one (counts : List Int) (most s : Nat) (h : (lleaves counts).length = 1) (hs : ((lleaves counts)[0]'(by omega)).syms = [s]) : s < counts.length ∧ (lout counts.length (fun _ => 0)).set s 1 = lbestL counts most := by
  obtain ⟨j, hj, hp, e⟩ := (lleaves_mem counts _).1 (List.getElem_mem (show 0 < (lleaves counts).length by omega))
  have hjs : j = s := by
    rw [e] at hs
    simpa using hs
  subst hjs
  refine ⟨hj, ?_⟩
  rw [lout_set counts.length (fun _ => 0) (fun t => if t = j then 1 else 0) j 1 (by simp) (fun t ht => if_neg ht)]
  unfold lbestL
  rw [if_pos h]
  apply List.ext_getElem
  · simp [lout]
  · intro t h1 h2
    have ht : t < counts.length := by simpa using h2
    simp only [lout, List.getElem_map, List.getElem_range]
    by_cases e2 : t = j
    · subst e2
      rw [if_pos rfl, if_pos hp]
    · rw [if_neg e2, if_neg ?_]
      intro hp2
      obtain ⟨r, hr, e3⟩ := List.getElem_of_mem ((lleaves_mem counts ⟨counts[t], [t], true⟩).2 ⟨t, ht, hp2, rfl⟩)
      obtain rfl : r = 0 := by omega
      rw [e] at e3
      injection e3 with _ e4 _
      injection e4 with e4 _
      exact e2 e4.symm
end Go.Proofs.Ytehpnfijpddcfaa
