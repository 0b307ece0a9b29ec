/-
  What the law of the last of these texts stands on, part 9.
-/
import Derived.Test.YtpocpckhcciecaaRows
import Derived.Test.YtpocpckhcciecaaMg01
import Derived.Test.YtpocpckhcciecaaMg02
import Derived.Test.YtpocpckhcciecaaMg03
import Derived.Test.YtpocpckhcciecaaMg04
import Derived.Test.YtpocpckhcciecaaMg05
import Derived.Test.YtpocpckhcciecaaMg06
import Derived.Test.YtpocpckhcciecaaMg07
import Derived.Test.YtpocpckhcciecaaMg08
import Derived.Deep.OwnRows
import Derived.WalkKit
import Derived.WalkSpells
import Derived.WalkLawsBesides
import Derived.ProofKit
import Derived.OpenShut
import Derived.Handy
import Derived.SizedLaws
import Derived.JoinedOf
import Derived.KernelRfl
import Derived.Lib.Hide
import Derived.Lib.SmallJoins
import Derived.Deep.Slices
import Derived.Deep.Fields
import Derived.Deep.SlicePairs
import Derived.Deep.Draws
import Derived.Deep.AppendLies
import Derived.Deep.QuietTactic
import Derived.BigQuiet
import Derived.Deep.RegionHeld3
import Derived.StillTailTactics
import Derived.Laws.OwnMore
import Derived.Laws.Rows
import Derived.Below
import Derived.Carry
import Derived.WalkMore
import Derived.Laws.BytesString
import Derived.Laws.BitsLemmas
import Derived.Laws.Concat
import Derived.Deep.RegionWith
import Derived.Deep.Upon
import Derived.Deep.RegionLaw
import Derived.Laws.EntriesVeiled
namespace Go.Proofs.Ytpocpckhcciecaa
set_option linter.unusedSimpArgs false
set_option linter.unusedVariables false
open Go.ChangeShapes Go.WideShapes Go.ChangeAt Go.RowKit Go.Joins Go.Deep
/-- All counts are within the limits. -/
def cgood (l : List Int) : Bool := l.all fun c => decide (0 ≤ c) && decide (c ≤ 1000000)
theorem cgood_get {l : List Int} (h : cgood l = true) (i : Nat) (hi : i < l.length) : 0 ≤ l[i] ∧ l[i] ≤ 1000000 := by
  unfold cgood at h
  rw [List.all_eq_true] at h
  simpa using h l[i] (List.getElem_mem hi)
theorem cgood_of {l : List Int} (h : ∀ i (hi : i < l.length), 0 ≤ l[i] ∧ l[i] ≤ 1000000) : cgood l = true := by
  unfold cgood
  rw [List.all_eq_true]
  intro x hx
  obtain ⟨i, hi, rfl⟩ := List.getElem_of_mem hx
  simpa using h i hi
def lbestF (counts : List Int) (most : Int) : List Int × Int :=
  if 257 < counts.length then ([], 3) else if most < 1 ∨ 15 < most then ([], 2) else if cgood counts = true then
    (if 2 ^ most.toNat < (lleaves counts).length then ([], 3) else (lbestL counts most.toNat, 0)) else ([], 2)
theorem lleaves_len (counts : List Int) : (lleaves counts).length ≤ counts.length := by
  have h1 := lleaves_sum counts (fun _ => 1)
  rw [lsum_one] at h1
  have h2 : ∀ (l : List Int) (i : Nat), isum (fun _ c => if 0 < c then 1 else 0) i l ≤ l.length := by
    intro l
    induction l with
    | nil => intro i; simp [isum]
    | cons c t ih =>
      intro i
      have := ih (i + 1)
      simp only [isum, List.length_cons]
      split <;> omega
  have := h2 counts 0
  omega
theorem lrow_short {leaves : List LTh} (hl : LLeaves leaves) : ∀ k, (lrow leaves k).length ≤ 2 * leaves.length
  | 0 => by show leaves.length ≤ _; omega
  | k + 1 => by
    have := lrow_short hl k
    rw [lrow_len hl k]
    omega
/-- A property that packages keep. -/
theorem lpacks_all {P Q : LTh → Prop} (h : ∀ a b, P a → P b → Q (lpack a b)) : ∀ R : List LTh, (∀ x ∈ R, P x) → ∀ x ∈ lpacks R, Q x
  | [], _, x, hx => by cases hx
  | [_], _, x, hx => by cases hx
  | a :: b :: t, hp, x, hx => by
    rcases List.mem_cons.1 hx with rfl | hx
    · exact h a b (hp a (by simp)) (hp b (by simp))
    · exact lpacks_all h t (fun y hy => hp y (by simp [hy])) x hx
def LFits (n k : Nat) (x : LTh) : Prop := x.syms.length ≤ 2 ^ k ∧ 0 ≤ x.w ∧ x.w ≤ ((2 ^ k : Nat) : Int) * 1000000 ∧ ∀ s ∈ x.syms, s < n
theorem lrow_fits (counts : List Int) (hg : cgood counts = true) : ∀ k, ∀ x ∈ lrow (lleaves counts) k, LFits counts.length k x
  | 0, x, h => by
    obtain ⟨j, hj, hp, rfl⟩ := (lleaves_mem counts x).1 h
    have := cgood_get hg j hj
    refine ⟨by simp, by show 0 ≤ counts[j]; omega, by show counts[j] ≤ _; simp; omega, fun s hs => ?_⟩
    have : s = j := by simpa using hs
    omega
  | k + 1, x, h => by
    have hl := lleaves_ok counts
    have hr := lrow_row hl k
    have ih := lrow_fits counts hg k
    have h2 : (2 ^ (k + 1) : Nat) = 2 ^ k + 2 ^ k := by rw [Nat.pow_succ]; omega
    have hp1 : 0 < (2 ^ k : Nat) := Nat.pow_pos (by omega)
    cases hx : x.leaf with
    | true =>
      have h0 : x ∈ lleaves counts := by rw [← hr.lv]; exact List.mem_filter.2 ⟨h, hx⟩
      obtain ⟨j, hj, hp, rfl⟩ := (lleaves_mem counts x).1 h0
      have := cgood_get hg j hj
      refine ⟨by show 1 ≤ _; omega, by show 0 ≤ counts[j]; omega, ?_, fun s hs => ?_⟩
      · show counts[j] ≤ _
        have : (1 : Int) * 1000000 ≤ ((2 ^ (k + 1) : Nat) : Int) * 1000000 := Int.mul_le_mul_of_nonneg_right (by omega) (by omega)
        omega
      · have : s = j := by simpa using hs
        omega
    | false =>
      refine lpacks_all (P := LFits counts.length k) ?_ (lrow (lleaves counts) k) ih x (by rw [← hr.pk]; exact List.mem_filter.2 ⟨h, by simp [hx]⟩)
      rintro a b ⟨a1, a2, a3, a4⟩ ⟨b1, b2, b3, b4⟩
      refine ⟨?_, ?_, ?_, ?_⟩
      · show (a.syms ++ b.syms).length ≤ _
        rw [List.length_append]
        omega
      · show 0 ≤ a.w + b.w
        omega
      · show a.w + b.w ≤ _
        rw [h2, Int.natCast_add, Int.add_mul]
        omega
      · intro s hs
        rcases List.mem_append.1 (show s ∈ a.syms ++ b.syms from hs) with hs | hs
        · exact a4 s hs
        · exact b4 s hs
/-- Lengths while they are counted. -/
def lout (n : Nat) (f : Nat → Int) : List Int := (List.range n).map f
theorem lout_len (n : Nat) (f : Nat → Int) : (lout n f).length = n := by simp [lout]
theorem lout_get (n : Nat) (f : Nat → Int) (s : Nat) (h : s < n) : (lout n f)[s]? = some (f s) := by simp [lout, h]
theorem lout_set (n : Nat) (f g : Nat → Int) (s : Nat) (v : Int) (hs : g s = v) (ho : ∀ t, t ≠ s → g t = f t) : (lout n f).set s v = lout n g := by
  apply List.ext_getElem?
  intro t
  by_cases ht : t < n
  · rw [List.getElem?_set, lout_get n f t ht, lout_get n g t ht, lout_len]
    by_cases e : s = t
    · subst e
      rw [if_pos rfl, if_pos ht, hs]
    · rw [if_neg e, ho t (fun h => e h.symm)]
  · rw [List.getElem?_eq_none (by rw [List.length_set, lout_len]; omega), List.getElem?_eq_none (by rw [lout_len]; omega)]
theorem lout_congr (n : Nat) (f g : Nat → Int) (h : ∀ t, t < n → f t = g t) : lout n f = lout n g := by
  unfold lout
  exact List.map_congr_left fun t ht => h t (List.mem_range.1 ht)
/-- How often a symbol is in the first things, and the first symbols of the next one. -/
def lfar (R : List LTh) (i k s : Nat) : Int := lsum (lhas s) (R.take i) + ((((R[i]?).map (·.syms)).getD []).take k).count s
theorem lfar_zero (R : List LTh) (i s : Nat) : lfar R i 0 s = lsum (lhas s) (R.take i) := by simp [lfar]
theorem lfar_step (R : List LTh) (i k s : Nat) (hi : i < R.length) (hk : k < R[i].syms.length) : lfar R i (k + 1) s = lfar R i k s + if s = R[i].syms[k] then 1 else 0 := by
  unfold lfar
  rw [List.getElem?_eq_getElem hi]
  simp only [Option.map_some, Option.getD_some]
  rw [List.take_succ_eq_append_getElem hk, List.count_append, List.count_singleton]
  by_cases e : s = R[i].syms[k]
  · rw [if_pos e, if_pos (by simp [e])]; omega
  · rw [if_neg e, if_neg (by simpa using fun h => e h.symm)]; omega
theorem lfar_end (R : List LTh) (i s : Nat) (hi : i < R.length) : lfar R i R[i].syms.length s = lsum (lhas s) (R.take (i + 1)) := by
  unfold lfar
  rw [List.getElem?_eq_getElem hi]
  simp only [Option.map_some, Option.getD_some, List.take_length]
  rw [List.take_succ_eq_append_getElem hi, lsum_app]
  simp [lsum, lhas]
theorem lbestL_many (counts : List Int) (most : Nat) (h : (lleaves counts).length ≠ 1) : lbestL counts most = lout counts.length (fun s => lsum (lhas s) (ltaken counts most)) := by
  unfold lbestL
  rw [if_neg h]
  rfl
theorem lbestL_one (counts : List Int) (most s : Nat) (h : (lleaves counts).length = 1) (hs : ((lleaves counts)[0]'(by omega)).syms = [s]) : s < counts.length ∧ (lout counts.length (fun _ => 0)).set s 1 = lbestL counts most := by
  obtain ⟨j, hj, hp, e⟩ := (lleaves_mem counts _).1 (List.getElem_mem (show 0 < (lleaves counts).length by omega))
  have hjs : j = s := by
    rw [e] at hs
    simpa using hs
  subst hjs
  refine ⟨hj, ?_⟩
  rw [lout_set counts.length (fun _ => 0) (fun t => if t = j then 1 else 0) j 1 (by simp) (fun t ht => if_neg ht)]
  unfold lbestL
  rw [if_pos h]
  apply List.ext_getElem
  · simp [lout]
  · intro t h1 h2
    have ht : t < counts.length := by simpa using h2
    simp only [lout, List.getElem_map, List.getElem_range]
    by_cases e2 : t = j
    · subst e2
      rw [if_pos rfl, if_pos hp]
    · rw [if_neg e2, if_neg ?_]
      intro hp2
      obtain ⟨r, hr, e3⟩ := List.getElem_of_mem ((lleaves_mem counts ⟨counts[t], [t], true⟩).2 ⟨t, ht, hp2, rfl⟩)
      obtain rfl : r = 0 := by omega
      rw [e] at e3
      injection e3 with _ e4 _
      injection e4 with e4 _
      exact e2 e4.symm
end Go.Proofs.Ytpocpckhcciecaa
namespace Go.Proofs.Ytpocpckhcciecaa
set_option linter.unusedSimpArgs false
set_option linter.unusedVariables false
open Go.ChangeShapes Go.WideShapes Go.ChangeAt Go.RowKit Go.Joins Go.Deep
/-- What a symbol costs. -/
def cterm (c l : Int) : Int := if 0 ≤ c ∧ c ≤ 1000000 ∧ 0 ≤ l ∧ l ≤ 15 then c * l else 0
def ccost : List Int → List Int → Int
  | c :: t, l :: u => cterm c l + ccost t u
  | _, _ => 0
def costF (counts lens : List Int) : Int := ccost (counts.take 257) (lens.take 257)
theorem ccost_end (a b : List Int) (h : a = [] ∨ b = []) : ccost a b = 0 := by
  rcases h with rfl | rfl
  · cases b <;> rfl
  · cases a <;> rfl
theorem ccost_step (a b : List Int) (k : Nat) (ha : k < a.length) (hb : k < b.length) : ccost (a.drop k) (b.drop k) = cterm a[k] b[k] + ccost (a.drop (k + 1)) (b.drop (k + 1)) := by
  rw [List.drop_eq_getElem_cons ha, List.drop_eq_getElem_cons hb]
  rfl
theorem cterm_bound (c l : Int) : 0 ≤ cterm c l ∧ cterm c l ≤ 15000000 := by
  unfold cterm
  by_cases h : 0 ≤ c ∧ c ≤ 1000000 ∧ 0 ≤ l ∧ l ≤ 15
  · rw [if_pos h]
    have h1 : 0 ≤ c * l := Int.mul_nonneg h.1 h.2.2.1
    have h2 : c * l ≤ c * 15 := Int.mul_le_mul_of_nonneg_left h.2.2.2 h.1
    omega
  · rw [if_neg h]
    omega
end Go.Proofs.Ytpocpckhcciecaa
namespace Go.Proofs.Ytpocpckhcciecaa
set_option linter.unusedSimpArgs false
set_option linter.unusedVariables false
open Go.ChangeShapes Go.WideShapes Go.ChangeAt Go.RowKit Go.Joins Go.Deep
theorem partF_isum (f : Nat → Int) : ∀ (counts l : List Int) (i : Nat), l.length = counts.length → (∀ j (hl : j < l.length), l[j] = f (i + j)) → (∀ j (hl : j < l.length) (hc : j < counts.length), 0 < l[j] ↔ 0 < counts[j]) →
    (partF l : Int) = isum (fun j c => if 0 < c then ((2 ^ (15 - (f j).toNat) : Nat) : Int) else 0) i counts
  | [], [], i, _, _, _ => rfl
  | [], y :: l, i, h, _, _ => by simp at h
  | c :: t, [], i, h, _, _ => by simp at h
  | c :: t, y :: l, i, h, hf, hp => by
    have ih := partF_isum f t l (i + 1) (by simpa using h) (fun j hl => by
      have := hf (j + 1) (by simpa using hl)
      rw [show i + (j + 1) = i + 1 + j from by omega] at this
      simpa using this) (fun j hl hc => hp (j + 1) (by simpa using hl) (by simpa using hc))
    have h0 := hf 0 (by simp)
    have p0 := hp 0 (by simp) (by simp)
    simp only [List.getElem_cons_zero, Nat.add_zero] at h0 p0
    show (((if 0 < y then 2 ^ (15 - y.toNat) else 0) + partF l : Nat) : Int) = (if 0 < c then ((2 ^ (15 - (f i).toNat) : Nat) : Int) else 0) + isum _ (i + 1) t
    rw [Int.natCast_add, ih, ← h0]
    by_cases hc : 0 < c
    · rw [if_pos hc, if_pos (p0.2 hc)]
    · rw [if_neg hc, if_neg (fun h => hc (p0.1 h))]
      rfl
theorem usedF_isum : ∀ (counts l : List Int) (i : Nat), l.length = counts.length → (∀ j (hl : j < l.length) (hc : j < counts.length), 0 < l[j] ↔ 0 < counts[j]) →
    (usedF l : Int) = isum (fun _ c => if 0 < c then 1 else 0) i counts
  | [], [], i, _, _ => rfl
  | [], y :: l, i, h, _ => by simp at h
  | c :: t, [], i, h, _ => by simp at h
  | c :: t, y :: l, i, h, hp => by
    have ih := usedF_isum t l (i + 1) (by simpa using h) (fun j hl hc => hp (j + 1) (by simpa using hl) (by simpa using hc))
    have p0 := hp 0 (by simp) (by simp)
    simp only [List.getElem_cons_zero] at p0
    have e : usedF (y :: l) = (if 0 < y then 1 else 0) + usedF l := by
      unfold usedF
      rw [List.filter_cons]
      by_cases h : 0 < y
      · rw [if_pos (by simpa using h), if_pos h, List.length_cons]; omega
      · rw [if_neg (by simpa using h), if_neg h]; omega
    show (usedF (y :: l) : Int) = (if 0 < c then 1 else 0) + isum _ (i + 1) t
    rw [e, Int.natCast_add, ih]
    by_cases hc : 0 < c
    · rw [if_pos hc, if_pos (p0.2 hc)]; rfl
    · rw [if_neg hc, if_neg (fun h => hc (p0.1 h))]; rfl
theorem costF_isum (f : Nat → Int) (counts l : List Int) (hn : counts.length ≤ 257) (hl : l.length = counts.length) (hf : ∀ j (h : j < l.length), l[j] = f j) (hc : ∀ j (h : j < counts.length), 0 ≤ counts[j] ∧ counts[j] ≤ 1000000) (hb : ∀ j (h : j < l.length), 0 ≤ l[j] ∧ l[j] ≤ 15) :
    costF counts l = isum (fun j c => c * f j) 0 counts := by
  unfold costF
  rw [List.take_of_length_le (by omega), List.take_of_length_le (by omega)]
  have : ∀ (counts l : List Int) (i : Nat), l.length = counts.length → (∀ j (h : j < l.length), l[j] = f (i + j)) → (∀ j (h : j < counts.length), 0 ≤ counts[j] ∧ counts[j] ≤ 1000000) → (∀ j (h : j < l.length), 0 ≤ l[j] ∧ l[j] ≤ 15) → ccost counts l = isum (fun j c => c * f j) i counts := by
    intro counts
    induction counts with
    | nil => intro l i h _ _ _; cases l <;> rfl
    | cons c t ih =>
      intro l i h h1 h2 h3
      cases l with
      | nil => simp at h
      | cons y l =>
        have e := ih l (i + 1) (by simpa using h) (fun j hj => by
          have := h1 (j + 1) (by simpa using hj)
          rw [show i + (j + 1) = i + 1 + j from by omega] at this
          simpa using this) (fun j hj => h2 (j + 1) (by simpa using hj)) (fun j hj => h3 (j + 1) (by simpa using hj))
        have a1 := h1 0 (by simp)
        have a2 := h2 0 (by simp)
        have a3 := h3 0 (by simp)
        simp only [List.getElem_cons_zero, Nat.add_zero] at a1 a2 a3
        show cterm c y + ccost t l = c * f i + isum _ (i + 1) t
        rw [e, ← a1]
        unfold cterm
        rw [if_pos ⟨a2.1, a2.2, a3.1, a3.2⟩]
  exact this counts l 0 hl (fun j h => by rw [Nat.zero_add]; exact hf j h) hc hb
theorem isum_le {g h : Nat → Int → Int} : ∀ (l : List Int) (i : Nat), (∀ j (hj : j < l.length), g (i + j) l[j] ≤ h (i + j) l[j]) → isum g i l ≤ isum h i l
  | [], _, _ => Int.le_refl _
  | c :: t, i, e => by
    have h0 := e 0 (by simp)
    have ih : isum g (i + 1) t ≤ isum h (i + 1) t := isum_le t (i + 1) fun j hj => by
      have e2 := e (j + 1) (by simpa using hj)
      rw [show i + (j + 1) = i + 1 + j from by omega] at e2
      simpa using e2
    simp only [Nat.add_zero, List.getElem_cons_zero] at h0
    show g i c + isum g (i + 1) t ≤ h i c + isum h (i + 1) t
    omega
theorem isum_mul (a : Int) (g : Nat → Int → Int) : ∀ (l : List Int) (i : Nat), isum (fun j c => a * g j c) i l = a * isum g i l
  | [], _ => by simp [isum]
  | c :: t, i => by
    have ih := isum_mul a g t (i + 1)
    simp only [isum, ih, Int.mul_add]
theorem lleaves_count (counts : List Int) (i : Nat) : isum (fun _ c => if 0 < c then 1 else 0) i counts = ((lleaves counts).length : Int) := by
  have h := lleaves_sum counts (fun _ => 1)
  rw [lsum_one] at h
  have e : ∀ (l : List Int) (i j : Nat), isum (fun _ c => if 0 < c then (1 : Int) else 0) i l = isum (fun _ c => if 0 < c then 1 else 0) j l := by
    intro l
    induction l with
    | nil => intro i j; rfl
    | cons c t ih => intro i j; simp only [isum]; rw [ih (i + 1) (j + 1)]
  rw [e counts i 0]
  exact h.symm
/-- 2 to the power of a length less, in parts of the whole. -/
theorem lpow_split (L : Nat) (hL : L ≤ 15) (x : Nat) (hx : x ≤ L) : (2 ^ (15 - x) : Nat) = 2 ^ (15 - L) * 2 ^ (L - x) := by
  rw [← Nat.pow_add]
  congr 1
  omega
theorem lpow_all (L : Nat) (hL : L ≤ 15) : (32768 : Nat) = 2 ^ (15 - L) * 2 ^ L := by
  rw [← Nat.pow_add, show 15 - L + L = 15 from by omega]
section
variable {counts : List Int} {L : Nat}
theorem lbestL_get (h : (lleaves counts).length ≠ 1) (j : Nat) (hj : j < (lbestL counts L).length) : (lbestL counts L)[j] = llen counts L j := by
  have e : lbestL counts L = lout counts.length (fun s => llen counts L s) := by rw [lbestL_many counts L h]; rfl
  have h2 : (lbestL counts L)[j]? = some (llen counts L j) := by
    rw [e, lout_get _ _ _ (by rw [lbestL_len] at hj; exact hj)]
  rw [List.getElem?_eq_getElem hj] at h2
  injection h2
theorem lbestL_get1 (h : (lleaves counts).length = 1) (j : Nat) (hj : j < (lbestL counts L).length) : (lbestL counts L)[j] = if 0 < counts[j]'(by rw [lbestL_len] at hj; exact hj) then 1 else 0 := by
  have e : lbestL counts L = counts.map (fun c => if 0 < c then 1 else 0) := by unfold lbestL; rw [if_pos h]
  simp only [e, List.getElem_map]
/-- What is asked of the best lengths. -/
structure LGoodB (counts l : List Int) (L : Nat) : Prop where
  len : l.length = counts.length
  pos : ∀ j (hl : j < l.length) (hc : j < counts.length), 0 < l[j] ↔ 0 < counts[j]
  rng : ∀ j (hl : j < l.length), 0 ≤ l[j] ∧ l[j] ≤ L
  falls : ∀ i j (hi : i < l.length) (hj : j < l.length) (hi' : i < counts.length) (hj' : j < counts.length), counts[j] < counts[i] → 0 < counts[j] → l[i] ≤ l[j]
theorem lbestL_good (hL : 1 ≤ L ∧ L ≤ 15) (hg : cgood counts = true) (hm : (lleaves counts).length ≤ 2 ^ L) : LGoodB counts (lbestL counts L) L := by
  have hlen := lbestL_len counts L
  obtain ⟨k, rfl⟩ : ∃ k, L = k + 1 := ⟨L - 1, by omega⟩
  by_cases h1 : (lleaves counts).length = 1
  · refine ⟨hlen, fun j hl hc => ?_, fun j hl => ?_, fun i j hi hj hi' hj' hlt h0 => ?_⟩
    · rw [lbestL_get1 h1 j hl]
      by_cases h : 0 < counts[j]
      · rw [if_pos h]; simp [h]
      · rw [if_neg h]; simp [h]
    · rw [lbestL_get1 h1 j hl]
      split <;> omega
    · rw [lbestL_get1 h1 i hi, lbestL_get1 h1 j hj, if_pos (show 0 < counts[i] by omega), if_pos h0]
      exact Int.le_refl _
  · by_cases h2 : 2 ≤ (lleaves counts).length
    · refine ⟨hlen, fun j hl hc => ?_, fun j hl => ?_, fun i j hi hj hi' hj' hlt h0 => ?_⟩
      · rw [lbestL_get h1 j hl]
        constructor
        · intro h
          rcases Int.lt_or_le 0 counts[j] with e | e
          · exact e
          · have := llen_none (counts := counts) (k + 1) j fun _ => e
            omega
        · intro h
          have := (llen_some h2 hm j hc h).1
          omega
      · rw [lbestL_get h1 j hl]
        have hc : j < counts.length := by omega
        rcases Int.lt_or_le 0 counts[j] with e | e
        · have := llen_some h2 hm j hc e
          omega
        · have := llen_none (counts := counts) (k + 1) j fun _ => e
          omega
      · rw [lbestL_get h1 i hi, lbestL_get h1 j hj]
        exact llen_falls h2 hm i j hi' hj' hlt h0
    · have hno : ∀ j (hj : j < counts.length), ¬ 0 < counts[j] := fun j hj hp => by
        have := (lleaves_mem counts ⟨counts[j], [j], true⟩).2 ⟨j, hj, hp, rfl⟩
        have := List.length_pos_of_mem this
        omega
      have hz : ∀ j (hj : j < (lbestL counts (k + 1)).length), (lbestL counts (k + 1))[j] = 0 := fun j hj => by
        rw [lbestL_get h1 j hj]
        exact llen_none (counts := counts) (k + 1) j fun hs => by have := hno j hs; omega
      refine ⟨hlen, fun j hl hc => ?_, fun j hl => ?_, fun i j hi hj hi' hj' hlt h0 => absurd h0 (hno j hj')⟩
      · rw [hz j hl]
        have := hno j hc
        omega
      · rw [hz j hl]; omega
theorem lbestL_check (hL : 1 ≤ L ∧ L ≤ 15) (hg : cgood counts = true) (hm : (lleaves counts).length ≤ 2 ^ L) (hn : counts.length ≤ 257) : pcheckF (lbestL counts L) = 0 := by
  have hG := lbestL_good hL hg hm
  have hused := usedF_isum counts (lbestL counts L) 0 hG.len hG.pos
  rw [lleaves_count] at hused
  have hu2 := lpart_used (lbestL counts L)
  have hlg : lgood (lbestL counts L) = true := lgood_of fun i hi => by have := hG.rng i hi; omega
  unfold pcheckF
  rw [if_neg (by rw [hG.len]; omega), if_pos hlg]
  obtain ⟨k, rfl⟩ : ∃ k, L = k + 1 := ⟨L - 1, by omega⟩
  by_cases h1 : (lleaves counts).length = 1
  · have hp := partF_isum (fun j => (lbestL counts (k + 1))[j]?.getD 0) counts (lbestL counts (k + 1)) 0 hG.len (fun j hl => by rw [Nat.zero_add, List.getElem?_eq_getElem hl]; rfl) hG.pos
    rw [isum_congr (h := fun j c => 16384 * (if 0 < c then 1 else 0)) counts 0 fun j hj => ?_, isum_mul, lleaves_count, h1] at hp
    · have hfu : fullF (usedF (lbestL counts (k + 1))) = 16384 := by
        unfold fullF
        rw [if_neg (by omega), if_pos (by omega)]
      rw [hfu, if_pos (by omega)]
    · have hj2 : j < (lbestL counts (k + 1)).length := by rw [hG.len]; exact hj
      rw [Nat.zero_add]
      by_cases h0 : 0 < counts[j]
      · rw [if_pos h0, if_pos h0, List.getElem?_eq_getElem hj2, lbestL_get1 h1 j hj2, if_pos h0]
        decide
      · rw [if_neg h0, if_neg h0]; decide
  · by_cases h2 : 2 ≤ (lleaves counts).length
    · have hp := partF_isum (fun j => llen counts (k + 1) j) counts (lbestL counts (k + 1)) 0 hG.len (fun j hl => by rw [Nat.zero_add]; exact lbestL_get h1 j hl) hG.pos
      rw [isum_congr (h := fun j c => ((2 ^ (15 - (k + 1)) : Nat) : Int) * (if 0 < c then ((2 ^ (k + 1 - (llen counts (k + 1) j).toNat) : Nat) : Int) else 0)) counts 0 fun j hj => ?_, isum_mul, llen_full h2 hm] at hp
      · have h3 := lpow_all (k + 1) hL.2
        have h4 : (partF (lbestL counts (k + 1)) : Int) = 32768 := by rw [hp, ← Int.natCast_mul, ← h3]; rfl
        have hfu : fullF (usedF (lbestL counts (k + 1))) = 32768 := by
          unfold fullF
          rw [if_neg (by omega), if_neg (by omega)]
        rw [hfu, if_pos h4]
      · rw [Nat.zero_add]
        by_cases h0 : 0 < counts[j]
        · rw [if_pos h0, if_pos h0]
          have := llen_some h2 hm j hj h0
          rw [lpow_split (k + 1) hL.2 (llen counts (k + 1) j).toNat (by omega), Int.natCast_mul]
        · rw [if_neg h0, if_neg h0, Int.mul_zero]
    · have hfu : fullF (usedF (lbestL counts (k + 1))) = 0 := by
        unfold fullF
        rw [if_pos (by omega)]
      rw [hfu, if_pos (by omega)]
/-- No lengths of the limit that leave room for all cost less. -/
theorem lbestL_least (hL : 1 ≤ L ∧ L ≤ 15) (hg : cgood counts = true) (hm : (lleaves counts).length ≤ 2 ^ L) (hn : counts.length ≤ 257) (own : List Int) (hl : own.length = counts.length)
    (hr : ∀ j (h : j < own.length), 0 ≤ own[j] ∧ own[j] ≤ L) (hp : ∀ j (h : j < own.length) (hc : j < counts.length), 0 < own[j] ↔ 0 < counts[j]) (hs : (partF own : Int) ≤ 32768) : costF counts (lbestL counts L) ≤ costF counts own := by
  have hG := lbestL_good hL hg hm
  have hc := fun j hj => cgood_get hg j hj
  obtain ⟨f, hf⟩ : ∃ f : Nat → Int, f = fun j => own[j]?.getD 0 := ⟨_, rfl⟩
  have hfo : ∀ j (h : j < own.length), own[j] = f j := fun j h => by rw [hf]; simp only [List.getElem?_eq_getElem h]; rfl
  have co := costF_isum f counts own hn hl hfo hc (fun j h => by have := hr j h; omega)
  rw [co]
  obtain ⟨k, rfl⟩ : ∃ k, L = k + 1 := ⟨L - 1, by omega⟩
  by_cases h1 : (lleaves counts).length = 1
  · have cb := costF_isum (fun j => (lbestL counts (k + 1))[j]?.getD 0) counts (lbestL counts (k + 1)) hn hG.len (fun j h => by simp only [List.getElem?_eq_getElem h]; rfl) hc (fun j h => by have := hG.rng j h; omega)
    rw [cb]
    refine isum_le counts 0 fun j hj => ?_
    have hj2 : j < (lbestL counts (k + 1)).length := by rw [hG.len]; exact hj
    have hj3 : j < own.length := by omega
    rw [Nat.zero_add, List.getElem?_eq_getElem hj2, lbestL_get1 h1 j hj2, ← hfo j hj3]
    have h0 := (hc j hj).1
    by_cases h : 0 < counts[j]
    · rw [if_pos h]
      have := (hp j hj3 hj).2 h
      exact Int.mul_le_mul_of_nonneg_left (by show (1 : Int) ≤ own[j]; omega) h0
    · rw [if_neg h, show counts[j] = 0 from by omega]
      simp
  · have cb := costF_isum (fun j => llen counts (k + 1) j) counts (lbestL counts (k + 1)) hn hG.len (fun j h => lbestL_get h1 j h) hc (fun j h => by have := hG.rng j h; omega)
    rw [cb]
    by_cases h2 : 2 ≤ (lleaves counts).length
    · refine llen_least h2 (fun j hj => (hc j hj).1) f (fun j hj h0 => ?_) ?_
      · rw [← hfo j (by omega)]
        exact hr j (by omega)
      · have hpo := partF_isum f counts own 0 hl (fun j h => by rw [Nat.zero_add]; exact hfo j h) hp
        rw [isum_congr (h := fun j c => ((2 ^ (15 - (k + 1)) : Nat) : Int) * (if 0 < c then ((2 ^ (k + 1 - (f j).toNat) : Nat) : Int) else 0)) counts 0 fun j hj => ?_, isum_mul] at hpo
        · have h3 := lpow_all (k + 1) hL.2
          have h4 : 0 < (2 ^ (15 - (k + 1)) : Nat) := Nat.pow_pos (by omega)
          have h5 : ((2 ^ (15 - (k + 1)) : Nat) : Int) * isum (fun j c => if 0 < c then ((2 ^ (k + 1 - (f j).toNat) : Nat) : Int) else 0) 0 counts ≤ ((2 ^ (15 - (k + 1)) : Nat) : Int) * ((2 ^ (k + 1) : Nat) : Int) := by
            rw [← hpo, ← Int.natCast_mul, ← h3]
            exact hs
          exact Int.le_of_mul_le_mul_left h5 (by omega)
        · rw [Nat.zero_add]
          by_cases h0 : 0 < counts[j]
          · rw [if_pos h0, if_pos h0]
            have := hr j (by omega)
            rw [hfo j (by omega)] at this
            rw [lpow_split (k + 1) hL.2 (f j).toNat (by omega), Int.natCast_mul]
          · rw [if_neg h0, if_neg h0, Int.mul_zero]
    · refine isum_le counts 0 fun j hj => ?_
      have hno : ¬ 0 < counts[j] := fun hp2 => by
        have := (lleaves_mem counts ⟨counts[j], [j], true⟩).2 ⟨j, hj, hp2, rfl⟩
        have := List.length_pos_of_mem this
        omega
      rw [show counts[j] = 0 from by have := (hc j hj).1; omega]
      simp
end
end Go.Proofs.Ytpocpckhcciecaa
