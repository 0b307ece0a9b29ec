/-
  What the law of the last of these texts stands on, part 4.
-/
import Derived.Test.YtpocpckhcciecaaMg01
import Derived.Test.YtpocpckhcciecaaMg02
import Derived.Test.YtpocpckhcciecaaMg03
import Derived.WalkKit
import Derived.WalkSpells
import Derived.WalkLawsBesides
import Derived.ProofKit
import Derived.OpenShut
import Derived.Handy
import Derived.SizedLaws
import Derived.JoinedOf
import Derived.KernelRfl
import Derived.Lib.Hide
import Derived.Lib.SmallJoins
import Derived.Deep.Slices
import Derived.Deep.Fields
import Derived.Deep.SlicePairs
import Derived.Deep.Draws
import Derived.Deep.AppendLies
import Derived.Deep.QuietTactic
import Derived.BigQuiet
import Derived.Deep.RegionHeld3
import Derived.StillTailTactics
import Derived.Laws.OwnMore
import Derived.Laws.Rows
import Derived.Below
import Derived.Carry
import Derived.WalkMore
import Derived.Laws.BytesString
import Derived.Laws.BitsLemmas
import Derived.Laws.Concat
import Derived.Deep.Upon
namespace Go.Proofs.Ytpocpckhcciecaa
set_option linter.unusedSimpArgs false
set_option linter.unusedVariables false
open Go.ChangeShapes Go.WideShapes Go.ChangeAt Go.RowKit Go.Joins Go.Deep
theorem lsum_add (f g : LTh → Int) : ∀ R : List LTh, lsum (fun x => f x + g x) R = lsum f R + lsum g R
  | [] => rfl
  | x :: t => by
    simp only [lsum, lsum_add f g t]
    omega
theorem lsum_mul (c : Int) (f : LTh → Int) : ∀ R : List LTh, lsum (fun x => c * f x) R = c * lsum f R
  | [] => by simp [lsum]
  | x :: t => by
    simp only [lsum, lsum_mul c f t, Int.mul_add]
theorem lsum_one (R : List LTh) : lsum (fun _ => 1) R = R.length := by
  induction R with
  | nil => rfl
  | cons x t ih => simp only [lsum, ih, List.length_cons]; omega
theorem lsum_filter (f : LTh → Int) (p : LTh → Bool) (R : List LTh) : lsum f (R.filter p) = lsum (fun x => if p x = true then f x else 0) R := by
  induction R with
  | nil => rfl
  | cons x t ih =>
    rw [List.filter_cons]
    by_cases h : p x = true
    · rw [if_pos h]; simp only [lsum, ih, if_pos h]
    · rw [if_neg h]; simp only [lsum, ih, if_neg h]; omega
/-- Of a row in order any things weigh no less than as many first ones. -/
theorem lsum_first (p : LTh → Bool) : ∀ l : List LTh, l.Pairwise (fun a b => a.w ≤ b.w) → lsum (·.w) (l.take (l.filter p).length) ≤ lsum (·.w) (l.filter p)
  | [], _ => Int.le_refl _
  | a :: t, h => by
    obtain ⟨h1, h2⟩ := List.pairwise_cons.1 h
    have ih := lsum_first p t h2
    rw [List.filter_cons]
    by_cases hp : p a = true
    · rw [if_pos hp, List.length_cons, List.take_succ_cons]
      simp only [lsum]
      omega
    · rw [if_neg hp]
      have hle := List.length_filter_le p t
      cases hn : (t.filter p).length with
      | zero =>
        have : t.filter p = [] := List.length_eq_zero_iff.1 hn
        rw [this]
        simp [lsum]
      | succ n =>
        rw [hn] at ih hle
        rw [List.take_succ_eq_append_getElem (by omega), lsum_app] at ih
        have h3 := h1 t[n] (List.getElem_mem (by omega))
        simp only [List.take_succ_cons, lsum] at ih ⊢
        omega
section
variable (ℓ : LTh → Nat) (leaves : List LTh)
/-- How many leaves are deeper than d, than d + 1, and so on. -/
def lcl : Nat → Nat → List Nat
  | _, 0 => []
  | d, k + 1 => (leaves.filter (fun x => decide (d + 1 ≤ ℓ x))).length :: lcl (d + 1) k
theorem lcl_len : ∀ k d, (lcl ℓ leaves d k).length = k
  | 0, _ => rfl
  | k + 1, d => by show (lcl ℓ leaves (d + 1) k).length + 1 = _; rw [lcl_len k]
theorem lcl_le : ∀ k d, ∀ x ∈ lcl ℓ leaves d k, x ≤ leaves.length
  | 0, _, x, h => by cases h
  | k + 1, d, x, h => by
    rcases List.mem_cons.1 h with rfl | h
    · exact List.length_filter_le _ _
    · exact lcl_le k (d + 1) x h
theorem lcl_wid : ∀ k d, (lwid (lcl ℓ leaves d k) : Int) + lsum (fun x => ((2 ^ (k - min (ℓ x - d) k) : Nat) : Int)) leaves = ((2 ^ k : Nat) : Int) * leaves.length
  | 0, d => by
    simp only [lcl, lwid]
    have : lsum (fun x => ((2 ^ (0 - min (ℓ x - d) 0) : Nat) : Int)) leaves = leaves.length := by
      rw [← lsum_one]
      exact lsum_congr _ fun x _ => by simp
    rw [this]
    simp
  | k + 1, d => by
    have ih := lcl_wid k (d + 1)
    show (((2 ^ (lcl ℓ leaves (d + 1) k).length * (leaves.filter (fun x => decide (d + 1 ≤ ℓ x))).length + lwid (lcl ℓ leaves (d + 1) k) : Nat)) : Int) + _ = _
    rw [lcl_len]
    have e1 : ((leaves.filter (fun x => decide (d + 1 ≤ ℓ x))).length : Int) = lsum (fun x => if decide (d + 1 ≤ ℓ x) = true then 1 else 0) leaves := by rw [← lsum_one, lsum_filter]
    have e2 : lsum (fun x => ((2 ^ k : Nat) : Int) * (if decide (d + 1 ≤ ℓ x) = true then 1 else 0) + ((2 ^ (k + 1 - min (ℓ x - d) (k + 1)) : Nat) : Int)) leaves = lsum (fun x => ((2 ^ k : Nat) : Int) * 1 + ((2 ^ (k - min (ℓ x - (d + 1)) k) : Nat) : Int)) leaves := by
      refine lsum_congr _ fun x _ => ?_
      by_cases h : d + 1 ≤ ℓ x
      · rw [if_pos (by simpa using h), show k + 1 - min (ℓ x - d) (k + 1) = k - min (ℓ x - (d + 1)) k from by omega]
      · rw [if_neg (by simpa using h), show k + 1 - min (ℓ x - d) (k + 1) = k + 1 from by omega, show k - min (ℓ x - (d + 1)) k = k from by omega, Nat.pow_succ]
        omega
    rw [lsum_add, lsum_add, lsum_mul, lsum_mul, lsum_one, ← e1] at e2
    rw [Int.natCast_add, Int.natCast_mul, Nat.pow_succ]
    have e3 : (((2 ^ k * 2 : Nat)) : Int) * leaves.length = ((2 ^ k : Nat) : Int) * leaves.length + ((2 ^ k : Nat) : Int) * leaves.length := by
      rw [Int.natCast_mul, Int.mul_assoc, Int.mul_comm ((2 : Nat) : Int), ← Int.mul_assoc]
      omega
    rw [e3]
    generalize ((2 ^ k : Nat) : Int) * ((leaves.filter (fun x => decide (d + 1 ≤ ℓ x))).length : Int) = a1 at *
    generalize ((2 ^ k : Nat) : Int) * (leaves.length : Int) = a2 at *
    generalize lsum (fun x => ((2 ^ (k + 1 - min (ℓ x - d) (k + 1)) : Nat) : Int)) leaves = a3 at *
    generalize lsum (fun x => ((2 ^ (k - min (ℓ x - (d + 1)) k) : Nat) : Int)) leaves = a4 at *
    omega
theorem lcl_cost (ho : leaves.Pairwise (fun a b => a.w ≤ b.w)) : ∀ k d, nsum (fun a => lsum (·.w) (leaves.take a)) (lcl ℓ leaves d k) ≤ lsum (fun x => x.w * ((min (ℓ x - d) k : Nat) : Int)) leaves
  | 0, d => by
    have : lsum (fun x => x.w * ((min (ℓ x - d) 0 : Nat) : Int)) leaves = lsum (fun x => 0 * x.w) leaves := lsum_congr _ fun x _ => by simp
    rw [this, lsum_mul]
    simp [lcl, nsum]
  | k + 1, d => by
    have ih := lcl_cost ho k (d + 1)
    have h1 := lsum_first (fun x => decide (d + 1 ≤ ℓ x)) leaves ho
    rw [lsum_filter] at h1
    have e : lsum (fun x => x.w * ((min (ℓ x - d) (k + 1) : Nat) : Int)) leaves = lsum (fun x => (if decide (d + 1 ≤ ℓ x) = true then x.w else 0) + x.w * ((min (ℓ x - (d + 1)) k : Nat) : Int)) leaves := by
      refine lsum_congr _ fun x _ => ?_
      by_cases h : d + 1 ≤ ℓ x
      · rw [if_pos (by simpa using h), show min (ℓ x - d) (k + 1) = min (ℓ x - (d + 1)) k + 1 from by omega, Int.natCast_add, Int.mul_add]
        simp
        omega
      · rw [if_neg (by simpa using h), show min (ℓ x - d) (k + 1) = 0 from by omega, show min (ℓ x - (d + 1)) k = 0 from by omega]
        simp
    rw [e, lsum_add]
    show lsum (·.w) (leaves.take _) + nsum _ (lcl ℓ leaves (d + 1) k) ≤ _
    omega
end
/-- The first things of the last row weigh no more than what any lengths of the limit cost that leave room for all. -/
theorem lrow_best {leaves : List LTh} (hl : LLeaves leaves) (hp : ∀ x ∈ leaves, 0 < x.w) (ℓ : LTh → Nat) (k : Nat) (h2 : 2 ≤ leaves.length) (hle : ∀ x ∈ leaves, ℓ x ≤ k + 1)
    (hk : lsum (fun x => ((2 ^ (k + 1 - ℓ x) : Nat) : Int)) leaves ≤ ((2 ^ (k + 1) : Nat) : Int)) : 2 * leaves.length - 2 ≤ (lrow leaves k).length ∧ lsum (·.w) ((lrow leaves k).take (2 * leaves.length - 2)) ≤ lsum (fun x => x.w * (ℓ x : Int)) leaves := by
  have hlen := lcl_len ℓ leaves (k + 1) 0
  have hcl := lcl_le ℓ leaves (k + 1) 0
  have hw := lcl_wid ℓ leaves (k + 1) 0
  have hf := lfloor_wid (lcl ℓ leaves 0 (k + 1)) k hlen
  have e1 : lsum (fun x => ((2 ^ (k + 1 - min (ℓ x - 0) (k + 1)) : Nat) : Int)) leaves = lsum (fun x => ((2 ^ (k + 1 - ℓ x) : Nat) : Int)) leaves := lsum_congr _ fun x hx => by
    have := hle x hx
    rw [show min (ℓ x - 0) (k + 1) = ℓ x from by omega]
  rw [e1] at hw
  have ht : 2 * leaves.length - 2 ≤ lfloor (lcl ℓ leaves 0 (k + 1)) := by
    rcases Nat.lt_or_ge (lfloor (lcl ℓ leaves 0 (k + 1))) (2 * leaves.length - 2) with h | h
    · exfalso
      have h3 : 2 ^ k * (lfloor (lcl ℓ leaves 0 (k + 1)) + 1) ≤ 2 ^ k * (2 * leaves.length - 2) := Nat.mul_le_mul_left _ (by omega)
      obtain ⟨j, hj⟩ : ∃ j, leaves.length = j + 1 := ⟨leaves.length - 1, by omega⟩
      rw [hj] at h3 hw
      have e2 : 2 ^ k * (2 * (j + 1) - 2) = 2 ^ (k + 1) * j := by rw [show 2 * (j + 1) - 2 = 2 * j from by omega, ← Nat.mul_assoc, ← Nat.pow_succ]
      have e3 : ((2 ^ (k + 1) : Nat) : Int) * ((j + 1 : Nat) : Int) = ((2 ^ (k + 1) * j : Nat) : Int) + ((2 ^ (k + 1) : Nat) : Int) := by
        rw [← Int.natCast_mul, Nat.mul_succ, Int.natCast_add]
      rw [e3] at hw
      rw [e2] at h3
      omega
    · exact h
  refine ⟨Nat.le_trans ht (lfloor_le hl _ k hlen hcl), ?_⟩
  have h4 := lrow_least hl hp _ k _ hlen hcl ht
  have h5 := lcl_cost ℓ leaves hl.order (k + 1) 0
  have e4 : lsum (fun x => x.w * ((min (ℓ x - 0) (k + 1) : Nat) : Int)) leaves = lsum (fun x => x.w * (ℓ x : Int)) leaves := lsum_congr _ fun x hx => by
    have := hle x hx
    rw [show min (ℓ x - 0) (k + 1) = ℓ x from by omega]
  rw [e4] at h5
  omega
/-- The last row is long enough, where the limit leaves room for all. -/
theorem lrow_room {leaves : List LTh} (hl : LLeaves leaves) (hp : ∀ x ∈ leaves, 0 < x.w) (k : Nat) (h2 : 2 ≤ leaves.length) (hm : leaves.length ≤ 2 ^ (k + 1)) : 2 * leaves.length - 2 ≤ (lrow leaves k).length := by
  refine (lrow_best hl hp (fun _ => k + 1) k h2 (fun _ _ => Nat.le_refl _) ?_).1
  have : lsum (fun x => ((2 ^ (k + 1 - (k + 1)) : Nat) : Int)) leaves = leaves.length := by
    rw [← lsum_one]
    exact lsum_congr _ fun x _ => by simp
  rw [this]
  omega
theorem lhas_single (s j : Nat) (x : LTh) (h : x.syms = [j]) : lhas s x = if j = s then 1 else 0 := by
  unfold lhas
  rw [h, List.count_singleton]
  by_cases e : j = s
  · subst e; simp
  · rw [if_neg e, if_neg (by simpa using e)]; rfl
theorem lhas_take (s : Nat) : ∀ (l : List LTh) (r a : Nat) (hr : r < l.length), l.Pairwise (fun a b => a.syms ≠ b.syms) → (∀ x ∈ l, ∃ j, x.syms = [j]) → l[r].syms = [s] → lsum (lhas s) (l.take a) = if r < a then 1 else 0
  | [], r, a, hr, _, _, _ => by simp at hr
  | x :: t, r, 0, _, _, _, _ => by simp [lsum]
  | x :: t, 0, a + 1, _, hd, hs, h => by
    have h' : x.syms = [s] := h
    obtain ⟨h1, h2⟩ := List.pairwise_cons.1 hd
    have h0 : lsum (lhas s) (t.take a) = lsum (fun x => 0 * x.w) (t.take a) := lsum_congr _ fun y hy => by
      have hyt := List.mem_of_mem_take hy
      obtain ⟨j, hj⟩ := hs y (List.mem_cons_of_mem _ hyt)
      have hne := h1 y hyt
      rw [lhas_single s j y hj, if_neg (fun e => hne (by rw [h', hj, e]))]
      simp
    rw [lsum_mul] at h0
    rw [List.take_succ_cons]
    simp only [lsum, h0, lhas_single s s x h']
    simp
  | x :: t, r + 1, a + 1, hr, hd, hs, h => by
    obtain ⟨h1, h2⟩ := List.pairwise_cons.1 hd
    have hrt : r < t.length := by simpa using hr
    have ht : t[r].syms = [s] := by simpa using h
    have ih := lhas_take s t r a hrt h2 (fun y hy => hs y (List.mem_cons_of_mem _ hy)) ht
    obtain ⟨j, hj⟩ := hs x (List.mem_cons_self ..)
    have hne := h1 t[r] (List.getElem_mem hrt)
    rw [List.take_succ_cons]
    simp only [lsum, ih, lhas_single s j x hj]
    rw [if_neg (fun e : j = s => hne (by rw [hj, ht, e]))]
    by_cases hra : r < a
    · rw [if_pos hra, if_pos (by omega)]; omega
    · rw [if_neg hra, if_neg (by omega)]; omega
theorem nsum_lof (r : Nat) : ∀ A : List Nat, nsum (fun a => if r < a then 1 else 0) A = (lof A r : Int)
  | [] => rfl
  | a :: t => by
    rw [lof_cons]
    simp only [nsum, nsum_lof r t]
    by_cases h : r < a
    · rw [if_pos h, if_pos h]; omega
    · rw [if_neg h, if_neg h]; omega
theorem nsum_congr {g h : Nat → Int} : ∀ A : List Nat, (∀ a ∈ A, g a = h a) → nsum g A = nsum h A
  | [], _ => rfl
  | a :: t, e => by
    simp only [nsum]
    rw [e a (List.mem_cons_self ..), nsum_congr t fun x hx => e x (List.mem_cons_of_mem _ hx)]
theorem lsum_rank (f : LTh → Int) (g : Nat → Nat) (l : List LTh) (h : ∀ r (hr : r < l.length), f l[r] = (g r : Int)) : ∀ n, n ≤ l.length → lsum f (l.take n) = (rsum g n : Int)
  | 0, _ => by simp [lsum, rsum]
  | n + 1, hn => by
    have ih := lsum_rank f g l h n (by omega)
    rw [List.take_succ_eq_append_getElem (by omega), lsum_app, ih]
    simp only [lsum, rsum, h n (by omega)]
    omega
section
variable (counts : List Int) (k : Nat)
/-- The profile of the last row's first things. -/
def lprofile : List Nat := lprof (lleaves counts) k (2 * (lleaves counts).length - 2)
variable {counts k}
theorem lprofile_full (h2 : 2 ≤ (lleaves counts).length) (hm : (lleaves counts).length ≤ 2 ^ (k + 1)) :
    rsum (fun r => 2 ^ (k + 1 - lof (lprofile counts k) r)) (lleaves counts).length = 2 ^ (k + 1) := by
  have hl := lleaves_ok counts
  have hp := lleaves_pos counts
  have ht := lrow_room hl hp k h2 hm
  exact lof_full _ _ k (lprof_len _ _ _) (lprof_le hl k _ ht) (lprof_first hl hp k _ ht) (lprof_wid _ _) h2
theorem llen_rank (h2 : 2 ≤ (lleaves counts).length) (hm : (lleaves counts).length ≤ 2 ^ (k + 1)) (s r : Nat) (hr : r < (lleaves counts).length) (hs : (lleaves counts)[r].syms = [s]) : llen counts (k + 1) s = (lof (lprofile counts k) r : Int) := by
  have hl := lleaves_ok counts
  have ht := lrow_room hl (lleaves_pos counts) k h2 hm
  unfold llen ltaken
  rw [show k + 1 - 1 = k from rfl, lprof_sum hl (lhas_adds s) k _ ht, ← nsum_lof]
  refine nsum_congr _ fun a _ => ?_
  refine lhas_take s (lleaves counts) r a hr (lleaves_dist counts) (fun x hx => ?_) hs
  obtain ⟨j, hj, _, rfl⟩ := (lleaves_mem counts x).1 hx
  exact ⟨j, rfl⟩
theorem lrank_of (j : Nat) (hj : j < counts.length) (h : 0 < counts[j]) : ∃ r, ∃ hr : r < (lleaves counts).length, (lleaves counts)[r] = ⟨counts[j], [j], true⟩ := by
  obtain ⟨r, hr, e⟩ := List.getElem_of_mem ((lleaves_mem counts ⟨counts[j], [j], true⟩).2 ⟨j, hj, h, rfl⟩)
  exact ⟨r, hr, e⟩
/-- Who does not come has no length. -/
theorem llen_none (most s : Nat) (h : ∀ hs : s < counts.length, counts[s] ≤ 0) : llen counts most s = 0 := by
  have hv := lrow_val (lleaves_ok counts) (lhas_adds s) (g := fun x => 0 * x.w) (fun a b => by simp) (fun x hx => by
    obtain ⟨j, hj, hp, rfl⟩ := (lleaves_mem counts x).1 hx
    rw [lhas_single s j _ rfl, if_neg (fun e => by subst e; have := h hj; omega)]
    simp) (most - 1)
  have := lsum_congr (f := lhas s) (g := fun x => 0 * x.w) (ltaken counts most) fun x hx => hv x (List.mem_of_mem_take hx)
  rw [lsum_mul] at this
  simpa [llen] using this
/-- Who comes has a length within the limit. -/
theorem llen_some (h2 : 2 ≤ (lleaves counts).length) (hm : (lleaves counts).length ≤ 2 ^ (k + 1)) (j : Nat) (hj : j < counts.length) (h : 0 < counts[j]) : 1 ≤ llen counts (k + 1) j ∧ llen counts (k + 1) j ≤ ((k + 1 : Nat) : Int) := by
  obtain ⟨r, hr, e⟩ := lrank_of j hj h
  rw [llen_rank h2 hm j r hr (by rw [e])]
  have h1 := lof_pos _ _ k (lprofile_full h2 hm) h2 r hr
  have h3 := lof_le (lprofile counts k) r
  have h4 : (lprofile counts k).length = k + 1 := lprof_len _ _ _
  omega
/-- Who comes more often has no greater length. -/
theorem llen_falls (h2 : 2 ≤ (lleaves counts).length) (hm : (lleaves counts).length ≤ 2 ^ (k + 1)) (i j : Nat) (hi : i < counts.length) (hj : j < counts.length) (h : counts[j] < counts[i]) (h0 : 0 < counts[j]) : llen counts (k + 1) i ≤ llen counts (k + 1) j := by
  obtain ⟨r, hr, e⟩ := lrank_of i hi (by omega)
  obtain ⟨q, hq, e2⟩ := lrank_of j hj h0
  rw [llen_rank h2 hm i r hr (by rw [e]), llen_rank h2 hm j q hq (by rw [e2])]
  have hqr : q ≤ r := by
    rcases Nat.lt_or_ge r q with hlt | hge
    · exfalso
      have := List.pairwise_iff_getElem.1 (lleaves_ok counts).order r q hr hq hlt
      rw [e, e2] at this
      have h5 : counts[i] ≤ counts[j] := this
      omega
    · exact hge
  have := lof_mono (lprofile counts k) hqr
  omega
/-- A code has the best lengths. -/
theorem llen_full (h2 : 2 ≤ (lleaves counts).length) (hm : (lleaves counts).length ≤ 2 ^ (k + 1)) : isum (fun j c => if 0 < c then ((2 ^ (k + 1 - (llen counts (k + 1) j).toNat) : Nat) : Int) else 0) 0 counts = ((2 ^ (k + 1) : Nat) : Int) := by
  have h := lleaves_sum counts (fun x => ((2 ^ (k + 1 - (llen counts (k + 1) (x.syms.headD 0)).toNat) : Nat) : Int))
  have h3 := lsum_rank (fun x => ((2 ^ (k + 1 - (llen counts (k + 1) (x.syms.headD 0)).toNat) : Nat) : Int)) (fun r => 2 ^ (k + 1 - lof (lprofile counts k) r)) (lleaves counts) (fun r hr => by
    obtain ⟨j, hj, hp, e⟩ := (lleaves_mem counts _).1 (List.getElem_mem hr)
    have := llen_rank h2 hm j r hr (by rw [e])
    rw [e]
    show ((2 ^ (k + 1 - (llen counts (k + 1) j).toNat) : Nat) : Int) = _
    rw [this, Int.toNat_natCast]) _ (Nat.le_refl _)
  rw [List.take_length, lprofile_full h2 hm] at h3
  rw [h3] at h
  exact h.symm
/-- No lengths of the limit that leave room for all cost less. -/
theorem llen_least (h2 : 2 ≤ (lleaves counts).length) (hc : ∀ j (hj : j < counts.length), 0 ≤ counts[j]) (own : Nat → Int) (ho : ∀ j (hj : j < counts.length), 0 < counts[j] → 0 ≤ own j ∧ own j ≤ ((k + 1 : Nat) : Int))
    (hk : isum (fun j c => if 0 < c then ((2 ^ (k + 1 - (own j).toNat) : Nat) : Int) else 0) 0 counts ≤ ((2 ^ (k + 1) : Nat) : Int)) :
    isum (fun j c => c * llen counts (k + 1) j) 0 counts ≤ isum (fun j c => c * own j) 0 counts := by
  have h := (lrow_best (lleaves_ok counts) (lleaves_pos counts) (fun x => (own (x.syms.headD 0)).toNat) k h2 (fun x hx => by
    obtain ⟨j, hj, hp, rfl⟩ := (lleaves_mem counts x).1 hx
    have := (ho j hj hp).2
    show (own j).toNat ≤ k + 1
    omega) (by rw [lleaves_sum]; exact hk)).2
  rw [llen_cost]
  unfold ltaken
  rw [show k + 1 - 1 = k from rfl]
  refine Int.le_trans h (Int.le_of_eq ?_)
  rw [lleaves_sum]
  refine isum_congr counts 0 fun j hj => ?_
  by_cases hp : 0 < counts[j]
  · rw [if_pos hp]
    have := (ho j hj hp).1
    show counts[j] * (((own (0 + j)).toNat : Nat) : Int) = counts[j] * own (0 + j)
    rw [Nat.zero_add, Int.toNat_of_nonneg this]
  · rw [if_neg hp]
    have := hc j hj
    rw [show counts[j] = 0 from by omega, Int.zero_mul]
end
end Go.Proofs.Ytpocpckhcciecaa
