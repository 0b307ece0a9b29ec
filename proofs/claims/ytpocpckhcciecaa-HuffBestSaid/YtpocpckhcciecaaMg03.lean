/-
  What the law of the last of these texts stands on, part 3.
-/
import Derived.Test.YtpocpckhcciecaaMg01
import Derived.Test.YtpocpckhcciecaaMg02
import Derived.WalkKit
import Derived.WalkSpells
import Derived.WalkLawsBesides
import Derived.ProofKit
import Derived.OpenShut
import Derived.Handy
import Derived.SizedLaws
import Derived.JoinedOf
import Derived.KernelRfl
import Derived.Lib.Hide
import Derived.Lib.SmallJoins
import Derived.Deep.Slices
import Derived.Deep.Fields
import Derived.Deep.SlicePairs
import Derived.Deep.Draws
import Derived.Deep.AppendLies
import Derived.Deep.QuietTactic
import Derived.BigQuiet
import Derived.Deep.RegionHeld3
import Derived.StillTailTactics
import Derived.Laws.OwnMore
import Derived.Laws.Rows
import Derived.Below
import Derived.Carry
import Derived.WalkMore
import Derived.Laws.BytesString
import Derived.Laws.BitsLemmas
import Derived.Laws.Concat
import Derived.Deep.Upon
namespace Go.Proofs.Ytpocpckhcciecaa
set_option linter.unusedSimpArgs false
set_option linter.unusedVariables false
open Go.ChangeShapes Go.WideShapes Go.ChangeAt Go.RowKit Go.Joins Go.Deep
/-- In how many of the rows the leaf of a rank is. -/
def lof (A : List Nat) (r : Nat) : Nat := (A.filter (fun a => decide (r < a))).length
/-- What a rank has of the width. -/
def lpart : List Nat → Nat → Nat
  | [], _ => 0
  | a :: t, r => (if r < a then 2 ^ t.length else 0) + lpart t r
/-- A sum over the ranks below n. -/
def rsum (g : Nat → Nat) : Nat → Nat
  | 0 => 0
  | n + 1 => rsum g n + g n
theorem rsum_add (g h : Nat → Nat) : ∀ n, rsum (fun r => g r + h r) n = rsum g n + rsum h n
  | 0 => rfl
  | n + 1 => by
    simp only [rsum, rsum_add g h n]
    omega
theorem rsum_congr {g h : Nat → Nat} : ∀ n, (∀ r, r < n → g r = h r) → rsum g n = rsum h n
  | 0, _ => rfl
  | n + 1, e => by
    simp only [rsum]
    rw [rsum_congr n fun r hr => e r (by omega), e n (by omega)]
theorem rsum_const (c : Nat) : ∀ n, rsum (fun _ => c) n = c * n
  | 0 => rfl
  | n + 1 => by
    simp only [rsum, rsum_const c n, Nat.mul_succ]
theorem rsum_below (c a : Nat) : ∀ n, rsum (fun r => if r < a then c else 0) n = c * min a n
  | 0 => by simp [rsum]
  | n + 1 => by
    simp only [rsum, rsum_below c a n]
    by_cases h : n < a
    · rw [if_pos h, Nat.min_eq_right (by omega), Nat.min_eq_right (by omega), Nat.mul_succ]
    · rw [if_neg h, Nat.min_eq_left (by omega), Nat.min_eq_left (by omega)]
      rfl
theorem lpart_sum (m : Nat) : ∀ A : List Nat, (∀ a ∈ A, a ≤ m) → rsum (lpart A) m = lwid A
  | [], _ => by
    have := rsum_const 0 m
    simp at this
    exact this
  | a :: t, h => by
    have ih := lpart_sum m t fun x hx => h x (List.mem_cons_of_mem _ hx)
    have ha := h a (List.mem_cons_self ..)
    show rsum (fun r => (if r < a then 2 ^ t.length else 0) + lpart t r) m = 2 ^ t.length * a + lwid t
    rw [rsum_add, rsum_below, Nat.min_eq_left ha, ih]
theorem lof_le (A : List Nat) (r : Nat) : lof A r ≤ A.length := List.length_filter_le _ _
theorem lof_cons (a : Nat) (t : List Nat) (r : Nat) : lof (a :: t) r = (if r < a then 1 else 0) + lof t r := by
  unfold lof
  rw [List.filter_cons]
  by_cases h : r < a
  · simp [h]; omega
  · simp [h]
/-- In a profile that falls, a rank has all of the width but what its length leaves. -/
theorem lpart_lof : ∀ (A : List Nat), A.Pairwise (fun a b => b ≤ a) → ∀ r, lpart A r + 2 ^ (A.length - lof A r) = 2 ^ A.length
  | [], _, r => by simp [lpart, lof]
  | a :: t, h, r => by
    obtain ⟨h1, h2⟩ := List.pairwise_cons.1 h
    have ih := lpart_lof t h2 r
    have hle := lof_le t r
    rw [lof_cons, List.length_cons]
    unfold lpart
    by_cases hr : r < a
    · rw [if_pos hr, if_pos hr, show t.length + 1 - (1 + lof t r) = t.length - lof t r from by omega, Nat.pow_succ]
      omega
    · have h0 : lof t r = 0 := by
        unfold lof
        rw [List.length_eq_zero_iff, List.filter_eq_nil_iff]
        intro x hx
        have := h1 x hx
        simp
        omega
      rw [h0] at ih ⊢
      rw [if_neg hr, if_neg hr]
      simp only [Nat.sub_zero, Nat.add_zero] at ih ⊢
      omega
theorem lof_mono (A : List Nat) {r r' : Nat} (h : r ≤ r') : lof A r' ≤ lof A r := by
  induction A with
  | nil => exact Nat.le_refl _
  | cons a t ih =>
    rw [lof_cons, lof_cons]
    by_cases h1 : r' < a
    · rw [if_pos h1, if_pos (by omega)]; omega
    · rw [if_neg h1]; omega
/-- The sum of what the lengths leave is just the whole. -/
theorem lof_full (A : List Nat) (m k : Nat) (hlen : A.length = k + 1) (hle : ∀ a ∈ A, a ≤ m) (hdec : A.Pairwise (fun a b => b ≤ a)) (hw : lwid A = 2 ^ k * (2 * m - 2)) (hm : 2 ≤ m) :
    rsum (fun r => 2 ^ (k + 1 - lof A r)) m = 2 ^ (k + 1) := by
  have h1 := lpart_sum m A hle
  have h2 : rsum (fun r => lpart A r + 2 ^ (k + 1 - lof A r)) m = 2 ^ (k + 1) * m := by
    rw [← rsum_const (2 ^ (k + 1)) m]
    refine rsum_congr m fun r _ => ?_
    have := lpart_lof A hdec r
    rw [hlen] at this
    exact this
  rw [rsum_add, h1, hw] at h2
  obtain ⟨j, rfl⟩ : ∃ j, m = j + 2 := ⟨m - 2, by omega⟩
  have e1 : 2 ^ k * (2 * (j + 2) - 2) = 2 * (2 ^ k * (j + 1)) := by rw [show 2 * (j + 2) - 2 = 2 * (j + 1) from by omega, Nat.mul_left_comm]
  have e2 : 2 ^ (k + 1) * (j + 2) = 2 * (2 ^ k * (j + 1)) + 2 ^ (k + 1) := by
    rw [Nat.mul_succ, Nat.pow_succ, Nat.mul_comm (2 ^ k) 2, Nat.mul_assoc]
  rw [e1, e2] at h2
  omega
theorem rsum_ge (g : Nat → Nat) : ∀ n i, i < n → g i ≤ rsum g n
  | 0, i, h => by omega
  | n + 1, i, h => by
    simp only [rsum]
    rcases Nat.lt_or_ge i n with h1 | h1
    · have := rsum_ge g n i h1; omega
    · obtain rfl : i = n := by omega
      omega
theorem rsum_two (g : Nat → Nat) : ∀ n i j, i < n → j < n → i ≠ j → g i + g j ≤ rsum g n
  | 0, i, j, h, _, _ => by omega
  | n + 1, i, j, h, k, hne => by
    simp only [rsum]
    rcases Nat.lt_or_ge i n with h1 | h1
    · rcases Nat.lt_or_ge j n with h2 | h2
      · have := rsum_two g n i j h1 h2 hne; omega
      · obtain rfl : j = n := by omega
        have := rsum_ge g j i h1; omega
    · obtain rfl : i = n := by omega
      have := rsum_ge g i j (by omega); omega
/-- Each symbol that comes has a length. -/
theorem lof_pos (A : List Nat) (m k : Nat) (hfull : rsum (fun r => 2 ^ (k + 1 - lof A r)) m = 2 ^ (k + 1)) (hm : 2 ≤ m) (r : Nat) (hr : r < m) : 1 ≤ lof A r := by
  rcases Nat.eq_zero_or_pos (lof A r) with h0 | h0
  · exfalso
    obtain ⟨j, hj, hne⟩ : ∃ j, j < m ∧ r ≠ j := by
      by_cases h : r = 0
      · exact ⟨1, by omega, by omega⟩
      · exact ⟨0, by omega, h⟩
    have := rsum_two (fun r => 2 ^ (k + 1 - lof A r)) m r j hr hj hne
    rw [hfull, h0, Nat.sub_zero] at this
    have hp : 0 < 2 ^ (k + 1 - lof A j) := Nat.pow_pos (by omega)
    omega
  · exact h0
/-- How wide sets of so many leaves are, rounded down row by row. -/
def lfloor : List Nat → Nat
  | [] => 0
  | c :: t => c + lfloor t / 2
theorem lfloor_wid : ∀ (c : List Nat) (k : Nat), c.length = k + 1 → lwid c < 2 ^ k * (lfloor c + 1)
  | [c], 0, _ => by simp [lwid, lfloor]
  | c :: d :: t, k + 1, h => by
    have hl : (d :: t).length = k + 1 := by simpa using h
    have ih := lfloor_wid (d :: t) k hl
    show 2 ^ (d :: t).length * c + lwid (d :: t) < 2 ^ (k + 1) * (c + lfloor (d :: t) / 2 + 1)
    rw [hl]
    generalize lfloor (d :: t) = F at *
    generalize lwid (d :: t) = W at *
    have h2 : F + 1 ≤ 2 * (F / 2 + 1) := by omega
    have h3 : 2 ^ k * (F + 1) ≤ 2 ^ k * (2 * (F / 2 + 1)) := Nat.mul_le_mul_left _ h2
    rw [← Nat.mul_assoc, ← Nat.pow_succ] at h3
    rw [Nat.add_assoc, Nat.mul_add]
    generalize 2 ^ (k + 1) * (F / 2 + 1) = X at *
    generalize 2 ^ k * (F + 1) = Y at *
    generalize 2 ^ (k + 1) * c = Z at *
    omega
  | [c], k + 1, h => by simp at h
  | c :: d :: t, 0, h => by simp at h
  | [], k, h => by simp at h
theorem lfloor_le {leaves : List LTh} (hl : LLeaves leaves) : ∀ (c : List Nat) (k : Nat), c.length = k + 1 → (∀ x ∈ c, x ≤ leaves.length) → lfloor c ≤ (lrow leaves k).length
  | [c], 0, _, h => by
    have := h c (by simp)
    show c + 0 / 2 ≤ leaves.length
    omega
  | c :: d :: t, k + 1, h, hc => by
    have ih := lfloor_le hl (d :: t) k (by simpa using h) fun x hx => hc x (List.mem_cons_of_mem _ hx)
    have h1 := hc c (List.mem_cons_self ..)
    rw [lrow_len hl k]
    show c + lfloor (d :: t) / 2 ≤ _
    omega
  | [c], k + 1, h, _ => by simp at h
  | c :: d :: t, 0, h, _ => by simp at h
  | [], k, h, _ => by simp at h
/-- A list that is parted at a threshold: no other beginning of it is less, weighed against the threshold. -/
theorem lsum_thr (f : LTh → Int) (τ : Int) : ∀ (l : List LTh) (a c : Nat), a ≤ l.length → c ≤ l.length → (∀ x ∈ l.take a, f x ≤ τ) → (∀ x ∈ l.drop a, τ ≤ f x) → lsum f (l.take a) - a * τ ≤ lsum f (l.take c) - c * τ
  | l, 0, 0, _, _, _, _ => Int.le_refl _
  | [], a + 1, c, h, _, _, _ => by simp at h
  | [], 0, c + 1, _, h, _, _ => by simp at h
  | x :: t, 0, c + 1, _, hc, h1, h2 => by
    have ih := lsum_thr f τ t 0 c (by omega) (by simpa using hc) (by simp) (fun y hy => h2 y (List.mem_cons_of_mem _ hy))
    have hx := h2 x (List.mem_cons_self ..)
    simp only [List.take_succ_cons, List.take_zero, lsum] at ih ⊢
    have e : ((c + 1 : Nat) : Int) * τ = c * τ + τ := by rw [Int.natCast_add, Int.add_mul]; simp
    rw [e]
    omega
  | x :: t, a + 1, 0, ha, _, h1, h2 => by
    have ih := lsum_thr f τ t a 0 (by simpa using ha) (by omega) (fun y hy => h1 y (List.mem_cons_of_mem _ hy)) h2
    have hx := h1 x (List.mem_cons_self ..)
    simp only [List.take_succ_cons, List.take_zero, lsum] at ih ⊢
    have e : ((a + 1 : Nat) : Int) * τ = a * τ + τ := by rw [Int.natCast_add, Int.add_mul]; simp
    rw [e]
    omega
  | x :: t, a + 1, c + 1, ha, hc, h1, h2 => by
    have ih := lsum_thr f τ t a c (by simpa using ha) (by simpa using hc) (fun y hy => h1 y (List.mem_cons_of_mem _ hy)) h2
    simp only [List.take_succ_cons, lsum] at ih ⊢
    have e1 : ((a + 1 : Nat) : Int) * τ = a * τ + τ := by rw [Int.natCast_add, Int.add_mul]; simp
    have e2 : ((c + 1 : Nat) : Int) * τ = c * τ + τ := by rw [Int.natCast_add, Int.add_mul]; simp
    rw [e1, e2]
    omega
theorem lsum_nonneg (f : LTh → Int) : ∀ l : List LTh, (∀ x ∈ l, 0 ≤ f x) → 0 ≤ lsum f l
  | [], _ => by simp [lsum]
  | x :: t, h => by
    have h1 := h x (List.mem_cons_self ..)
    have h2 := lsum_nonneg f t fun y hy => h y (List.mem_cons_of_mem _ hy)
    show 0 ≤ f x + lsum f t
    omega
/-- The first t things of a row weigh no more than any beginnings of its leaves and its packages that are t things together. -/
theorem LRow.exchange {leaves packs R : List LTh} (h : LRow leaves packs R) (hp : ∀ x ∈ R, 0 < x.w) (t c s : Nat) (ht : t ≤ R.length) (hc : c ≤ leaves.length) (hs : s ≤ packs.length) (hcs : t ≤ c + s) :
    lsum (·.w) (R.take t) ≤ lsum (·.w) (leaves.take c) + lsum (·.w) (packs.take s) := by
  rcases Nat.eq_zero_or_pos t with h0 | h0
  · subst h0
    have h1 := lsum_nonneg (·.w) (leaves.take c) fun x hx => by
      have := List.mem_of_mem_take hx
      rw [← h.lv] at this
      have := hp x (List.mem_filter.1 this).1
      show 0 ≤ x.w
      omega
    have h2 := lsum_nonneg (·.w) (packs.take s) fun x hx => by
      have := List.mem_of_mem_take hx
      rw [← h.pk] at this
      have := hp x (List.mem_filter.1 this).1
      show 0 ≤ x.w
      omega
    simp only [List.take_zero, lsum]
    omega
  · have ho := lorder_w h.order
    obtain ⟨τ, h1, h2, h3⟩ : ∃ τ : Int, (∀ x ∈ R.take t, x.w ≤ τ) ∧ (∀ x ∈ R.drop t, τ ≤ x.w) ∧ 0 ≤ τ := by
      have hlt : t - 1 < R.length := by omega
      refine ⟨R[t - 1].w, ?_, ?_, Int.le_of_lt (hp _ (List.getElem_mem hlt))⟩
      · intro x hx
        obtain ⟨i, hi, rfl⟩ := List.getElem_of_mem hx
        rw [List.length_take] at hi
        rw [List.getElem_take]
        rcases Nat.lt_or_ge i (t - 1) with h4 | h4
        · exact List.pairwise_iff_getElem.1 ho i (t - 1) (by omega) hlt h4
        · obtain rfl : i = t - 1 := by omega
          exact Int.le_refl _
      · intro x hx
        obtain ⟨i, hi, rfl⟩ := List.getElem_of_mem hx
        rw [List.length_drop] at hi
        rw [List.getElem_drop]
        exact List.pairwise_iff_getElem.1 ho (t - 1) (t + i) hlt (by omega) (by omega)
    have e1 := h.take_lv t
    have e2 := h.take_pk t ht
    have e3 := h.drop_lv t
    have e4 : (R.drop t).filter (fun x => !x.leaf) = packs.drop (t - lcnt R t) := by
      have e : R.filter (fun x => !x.leaf) = (R.take t).filter (fun x => !x.leaf) ++ (R.drop t).filter (fun x => !x.leaf) := by rw [← List.filter_append, List.take_append_drop]
      rw [h.pk, e2] at e
      have := List.take_append_drop (t - lcnt R t) packs
      rw [← this] at e
      exact (List.append_cancel_left (by rw [List.take_append_drop] at e ⊢; exact e)).symm
    have ha := h.cnt_leaves t
    have hb := h.cnt_packs t ht
    have hle := lcnt_le R t
    rw [h.take_sum (·.w) t ht]
    generalize lcnt R t = a at *
    have g1 := lsum_thr (·.w) τ leaves a c ha hc (fun x hx => h1 x (by rw [← e1] at hx; exact (List.mem_filter.1 hx).1)) (fun x hx => h2 x (by rw [← e3] at hx; exact (List.mem_filter.1 hx).1))
    have g2 := lsum_thr (·.w) τ packs (t - a) s hb hs (fun x hx => h1 x (by rw [← e2] at hx; exact (List.mem_filter.1 hx).1)) (fun x hx => h2 x (by rw [← e4] at hx; exact (List.mem_filter.1 hx).1))
    have g3 : (a : Int) * τ + ((t - a : Nat) : Int) * τ ≤ (c : Int) * τ + (s : Int) * τ := by
      rw [← Int.add_mul, ← Int.add_mul]
      exact Int.mul_le_mul_of_nonneg_right (by omega) h3
    omega
/-- What sets of leaves cost, one a row, is no less than the first things of the last row. -/
theorem lrow_least {leaves : List LTh} (hl : LLeaves leaves) (hp : ∀ x ∈ leaves, 0 < x.w) : ∀ (c : List Nat) (k t : Nat), c.length = k + 1 → (∀ x ∈ c, x ≤ leaves.length) → t ≤ lfloor c →
    lsum (·.w) ((lrow leaves k).take t) ≤ nsum (fun a => lsum (·.w) (leaves.take a)) c
  | [c], 0, t, _, hc, ht => by
    have h1 : c ≤ leaves.length := hc c (by simp)
    have h2 : t ≤ c := by simpa [lfloor] using ht
    show lsum (·.w) (leaves.take t) ≤ lsum (·.w) (leaves.take c) + 0
    have e : leaves.take c = leaves.take t ++ (leaves.take c).drop t := by
      conv => lhs; rw [← List.take_append_drop t (leaves.take c)]
      rw [List.take_take, Nat.min_eq_left h2]
    rw [e, lsum_app]
    have := lsum_nonneg (·.w) ((leaves.take c).drop t) fun x hx => Int.le_of_lt (hp x (List.mem_of_mem_take (List.mem_of_mem_drop hx)))
    omega
  | c :: d :: u, k + 1, t, hlen, hc, ht => by
    have hlen2 : (d :: u).length = k + 1 := by simpa using hlen
    have hc2 : ∀ x ∈ d :: u, x ≤ leaves.length := fun x hx => hc x (List.mem_cons_of_mem _ hx)
    have hc1 := hc c (List.mem_cons_self ..)
    have hfl := lfloor_le hl (d :: u) k hlen2 hc2
    have ht2 : t ≤ c + lfloor (d :: u) / 2 := ht
    have hrl := lrow_len hl k
    obtain ⟨s, hs1, hs2⟩ : ∃ s, t ≤ c + s ∧ 2 * s ≤ lfloor (d :: u) := ⟨t - c, by omega, by omega⟩
    have ih := lrow_least hl hp (d :: u) k (2 * s) hlen2 hc2 hs2
    have hadd : LAdds (·.w) := fun a b => rfl
    have hex := (lrow_row hl k).exchange (lrow_pos hl hp (k + 1)) t c s (by omega) hc1 (by rw [lpacks_len]; omega) hs1
    rw [lsum_packs hadd _ _ (by omega)] at hex
    show _ ≤ lsum (·.w) (leaves.take c) + nsum _ (d :: u)
    omega
  | [c], k + 1, t, h, _, _ => by simp at h
  | c :: d :: u, 0, t, h, _, _ => by simp at h
  | [], k, t, h, _, _ => by simp at h
end Go.Proofs.Ytpocpckhcciecaa
namespace Go.Proofs.Ytpocpckhcciecaa
set_option linter.unusedSimpArgs false
set_option linter.unusedVariables false
open Go.ChangeShapes Go.WideShapes Go.ChangeAt Go.RowKit Go.Joins Go.Deep
def lfirst : Nat → List Int → List LTh → List LTh
  | _, [], out => out
  | i, c :: t, out => lfirst (i + 1) t (if 0 < c then lput out ⟨c, [i], true⟩ else out)
def lleaves (counts : List Int) : List LTh := lfirst 0 counts []
/-- A sum over a list's places and numbers. -/
def isum (g : Nat → Int → Int) : Nat → List Int → Int
  | _, [] => 0
  | i, c :: t => g i c + isum g (i + 1) t
theorem isum_congr {g h : Nat → Int → Int} : ∀ (l : List Int) (i : Nat), (∀ j (hj : j < l.length), g (i + j) l[j] = h (i + j) l[j]) → isum g i l = isum h i l
  | [], _, _ => rfl
  | c :: t, i, e => by
    have h0 := e 0 (by simp)
    have ih : isum g (i + 1) t = isum h (i + 1) t := isum_congr t (i + 1) fun j hj => by
      have e2 := e (j + 1) (by simpa using hj)
      rw [show i + (j + 1) = i + 1 + j from by omega] at e2
      exact e2
    simp only [Nat.add_zero, List.getElem_cons_zero] at h0
    show g i c + isum g (i + 1) t = h i c + isum h (i + 1) t
    rw [h0, ih]
theorem isum_add (g h : Nat → Int → Int) : ∀ (l : List Int) (i : Nat), isum (fun j c => g j c + h j c) i l = isum g i l + isum h i l
  | [], _ => rfl
  | c :: t, i => by
    have ih := isum_add g h t (i + 1)
    simp only [isum, ih]
    omega
theorem isum_zero (l : List Int) : ∀ i, isum (fun _ _ => 0) i l = 0 := by
  induction l with
  | nil => intro i; rfl
  | cons c t ih => intro i; simp [isum, ih]
theorem lsum_lput (f : LTh → Int) (x : LTh) (R : List LTh) : lsum f (lput R x) = lsum f R + f x := by
  obtain ⟨r1, r2, h1, h2, _, _⟩ := lput_split x R
  rw [h2, h1, lsum_app, lsum_app]
  simp only [lsum]
  omega
theorem lput_mem (x y : LTh) (R : List LTh) : y ∈ lput R x ↔ y = x ∨ y ∈ R := by
  obtain ⟨r1, r2, h1, h2, _, _⟩ := lput_split x R
  rw [h2, h1]
  simp only [List.mem_append, List.mem_cons]
  constructor
  · rintro (h | h | h)
    · exact Or.inr (Or.inl h)
    · exact Or.inl h
    · exact Or.inr (Or.inr h)
  · rintro (h | h | h)
    · exact Or.inr (Or.inl h)
    · exact Or.inl h
    · exact Or.inr (Or.inr h)
theorem lput_order (x : LTh) (R : List LTh) (h : R.Pairwise (fun a b => lle a b = true)) : (lput R x).Pairwise (fun a b => lle a b = true) := by
  obtain ⟨r1, r2, h1, h2, h3, h4⟩ := lput_split x R
  rw [h1] at h
  obtain ⟨o1, o2, o3⟩ := List.pairwise_append.1 h
  rw [h2, List.pairwise_append]
  have hx2 : ∀ z ∈ r2, lle x z = true := by
    intro z hz
    cases hr : r2 with
    | nil => rw [hr] at hz; cases hz
    | cons y t =>
      have hy := lle_total (h4 y t hr)
      rw [hr] at hz o2
      rcases List.mem_cons.1 hz with rfl | hz
      · exact hy
      · exact lle_trans hy ((List.pairwise_cons.1 o2).1 z hz)
  refine ⟨o1, List.pairwise_cons.2 ⟨hx2, o2⟩, ?_⟩
  intro a ha b hb
  rcases List.mem_cons.1 hb with rfl | hb
  · exact h3 a ha
  · exact o3 a ha b hb
theorem lput_dist (x : LTh) (R : List LTh) (h : R.Pairwise (fun a b => a.syms ≠ b.syms)) (hx : ∀ y ∈ R, y.syms ≠ x.syms) : (lput R x).Pairwise (fun a b => a.syms ≠ b.syms) := by
  obtain ⟨r1, r2, h1, h2, h3, h4⟩ := lput_split x R
  rw [h1] at h hx
  obtain ⟨o1, o2, o3⟩ := List.pairwise_append.1 h
  rw [h2, List.pairwise_append]
  refine ⟨o1, List.pairwise_cons.2 ⟨fun z hz => (hx z (List.mem_append_right _ hz)).symm, o2⟩, ?_⟩
  intro a ha b hb
  rcases List.mem_cons.1 hb with rfl | hb
  · exact hx a (List.mem_append_left _ ha)
  · exact o3 a ha b hb
theorem lfirst_sum (f : LTh → Int) : ∀ (l : List Int) (i : Nat) (out : List LTh), lsum f (lfirst i l out) = lsum f out + isum (fun j c => if 0 < c then f ⟨c, [j], true⟩ else 0) i l
  | [], i, out => by simp [lfirst, isum]
  | c :: t, i, out => by
    have ih := lfirst_sum f t (i + 1) (if 0 < c then lput out ⟨c, [i], true⟩ else out)
    show lsum f (lfirst (i + 1) t _) = lsum f out + ((if 0 < c then f ⟨c, [i], true⟩ else 0) + isum _ (i + 1) t)
    rw [ih]
    by_cases h : 0 < c
    · rw [if_pos h, if_pos h, lsum_lput]; omega
    · rw [if_neg h, if_neg h]; omega
theorem lfirst_order : ∀ (l : List Int) (i : Nat) (out : List LTh), out.Pairwise (fun a b => lle a b = true) → (lfirst i l out).Pairwise (fun a b => lle a b = true)
  | [], i, out, h => h
  | c :: t, i, out, h => by
    refine lfirst_order t (i + 1) _ ?_
    split
    · exact lput_order _ _ h
    · exact h
theorem lfirst_mem : ∀ (l : List Int) (i : Nat) (out : List LTh) (x : LTh), x ∈ lfirst i l out ↔ x ∈ out ∨ ∃ j, ∃ hj : j < l.length, 0 < l[j] ∧ x = ⟨l[j], [i + j], true⟩
  | [], i, out, x => by simp [lfirst]
  | c :: t, i, out, x => by
    have ih := lfirst_mem t (i + 1) (if 0 < c then lput out ⟨c, [i], true⟩ else out) x
    show x ∈ lfirst (i + 1) t _ ↔ _
    rw [ih]
    constructor
    · rintro (h | ⟨j, hj, h1, h2⟩)
      · by_cases hc : 0 < c
        · rw [if_pos hc, lput_mem] at h
          rcases h with rfl | h
          · exact Or.inr ⟨0, by simp, hc, rfl⟩
          · exact Or.inl h
        · rw [if_neg hc] at h
          exact Or.inl h
      · exact Or.inr ⟨j + 1, by simpa using hj, h1, by rw [h2, show i + 1 + j = i + (j + 1) from by omega]; rfl⟩
    · rintro (h | ⟨j, hj, h1, h2⟩)
      · refine Or.inl ?_
        split
        · exact (lput_mem _ _ _).2 (Or.inr h)
        · exact h
      · cases j with
        | zero =>
          refine Or.inl ?_
          rw [if_pos (show 0 < c from h1)]
          exact (lput_mem _ _ _).2 (Or.inl h2)
        | succ j => exact Or.inr ⟨j, by simpa using hj, h1, by rw [h2, show i + 1 + j = i + (j + 1) from by omega]; rfl⟩
theorem lfirst_dist : ∀ (l : List Int) (i : Nat) (out : List LTh), out.Pairwise (fun a b => a.syms ≠ b.syms) → (∀ x ∈ out, ∃ j, j < i ∧ x.syms = [j]) → (lfirst i l out).Pairwise (fun a b => a.syms ≠ b.syms)
  | [], i, out, h, _ => h
  | c :: t, i, out, h, hs => by
    refine lfirst_dist t (i + 1) _ ?_ ?_
    · split
      · refine lput_dist _ _ h fun y hy => ?_
        obtain ⟨j, hj, e⟩ := hs y hy
        rw [e]
        intro e2
        injection e2 with e2 _
        omega
      · exact h
    · intro x hx
      split at hx
      · rcases (lput_mem _ _ _).1 hx with rfl | hx
        · exact ⟨i, by omega, rfl⟩
        · obtain ⟨j, hj, e⟩ := hs x hx
          exact ⟨j, by omega, e⟩
      · obtain ⟨j, hj, e⟩ := hs x hx
        exact ⟨j, by omega, e⟩
section
variable (counts : List Int)
theorem lleaves_mem (x : LTh) : x ∈ lleaves counts ↔ ∃ j, ∃ hj : j < counts.length, 0 < counts[j] ∧ x = ⟨counts[j], [j], true⟩ := by
  unfold lleaves
  rw [lfirst_mem]
  simp
theorem lleaves_ok : LLeaves (lleaves counts) :=
  ⟨fun x hx => by obtain ⟨j, hj, _, rfl⟩ := (lleaves_mem counts x).1 hx; rfl, lorder_w (lfirst_order counts 0 [] List.Pairwise.nil)⟩
theorem lleaves_pos : ∀ x ∈ lleaves counts, 0 < x.w := fun x hx => by
  obtain ⟨j, hj, h, rfl⟩ := (lleaves_mem counts x).1 hx
  exact h
theorem lleaves_dist : (lleaves counts).Pairwise (fun a b => a.syms ≠ b.syms) := lfirst_dist counts 0 [] List.Pairwise.nil (by simp)
theorem lleaves_sum (f : LTh → Int) : lsum f (lleaves counts) = isum (fun j c => if 0 < c then f ⟨c, [j], true⟩ else 0) 0 counts := by
  unfold lleaves
  rw [lfirst_sum]
  simp [lsum]
end
def lhas (s : Nat) (x : LTh) : Int := (x.syms.count s : Nat)
theorem lhas_adds (s : Nat) : LAdds (lhas s) := fun a b => by
  show ((List.count s (a.syms ++ b.syms) : Nat) : Int) = _
  rw [List.count_append]
  rfl
/-- What a thing's symbols weigh together. -/
def lval (counts : List Int) (x : LTh) : Int := isum (fun j c => c * lhas j x) 0 counts
theorem lval_adds (counts : List Int) : LAdds (lval counts) := fun a b => by
  unfold lval
  rw [← isum_add]
  refine isum_congr counts 0 fun j hj => ?_
  rw [lhas_adds, Int.mul_add]
theorem isum_at : ∀ (l : List Int) (i s : Nat) (h : s < l.length), isum (fun j c => if j = i + s then c else 0) i l = l[s]
  | c :: t, i, 0, _ => by
    have : isum (fun j c => if j = i + 0 then c else 0) (i + 1) t = 0 := (isum_congr (h := fun _ _ => 0) t (i + 1) fun j hj => by rw [if_neg (by omega)]).trans (isum_zero t (i + 1))
    show (if i = i + 0 then c else 0) + isum _ (i + 1) t = c
    rw [this]
    simp
  | c :: t, i, s + 1, h => by
    have ih := isum_at t (i + 1) s (by simpa using h)
    show (if i = i + (s + 1) then c else 0) + isum _ (i + 1) t = t[s]'(by simpa using h)
    rw [if_neg (by omega), ← ih, Int.zero_add]
    exact isum_congr t (i + 1) fun j hj => by rw [show i + 1 + s = i + (s + 1) from by omega]
theorem lval_leaf (counts : List Int) (s : Nat) (h : s < counts.length) : lval counts ⟨counts[s], [s], true⟩ = counts[s] := by
  rw [← isum_at counts 0 s h]
  refine isum_congr counts 0 fun j hj => ?_
  show counts[j] * (([s].count (0 + j) : Nat) : Int) = if 0 + j = 0 + s then counts[j] else 0
  rw [Nat.zero_add, Nat.zero_add, List.count_singleton]
  by_cases e : j = s
  · subst e; simp
  · rw [if_neg e, if_neg (by simpa using fun h : s = j => e h.symm)]; simp
theorem lpacks_val {f g : LTh → Int} (hf : LAdds f) (hg : LAdds g) : ∀ R : List LTh, (∀ x ∈ R, f x = g x) → ∀ x ∈ lpacks R, f x = g x
  | [], _, x, h => by cases h
  | [_], _, x, h => by cases h
  | a :: b :: t, e, x, h => by
    rcases List.mem_cons.1 h with rfl | h
    · rw [hf, hg, e a (by simp), e b (by simp)]
    · exact lpacks_val hf hg t (fun y hy => e y (by simp [hy])) x h
theorem lrow_val {leaves : List LTh} (hl : LLeaves leaves) {f g : LTh → Int} (hf : LAdds f) (hg : LAdds g) (h0 : ∀ x ∈ leaves, f x = g x) : ∀ k, ∀ x ∈ lrow leaves k, f x = g x
  | 0, x, h => h0 x h
  | k + 1, x, h => by
    have hr := lrow_row hl k
    cases hx : x.leaf with
    | true => exact h0 x (by rw [← hr.lv]; exact List.mem_filter.2 ⟨h, hx⟩)
    | false => exact lpacks_val hf hg _ (lrow_val hl hf hg h0 k) x (by rw [← hr.pk]; exact List.mem_filter.2 ⟨h, by simp [hx]⟩)
theorem lsum_congr {f g : LTh → Int} : ∀ R : List LTh, (∀ x ∈ R, f x = g x) → lsum f R = lsum g R
  | [], _ => rfl
  | x :: t, e => by
    simp only [lsum]
    rw [e x (List.mem_cons_self ..), lsum_congr t fun y hy => e y (List.mem_cons_of_mem _ hy)]
theorem lval_sum (counts : List Int) : ∀ R : List LTh, lsum (lval counts) R = isum (fun j c => c * lsum (lhas j) R) 0 counts
  | [] => by
    have := isum_congr (g := fun j c => c * lsum (lhas j) []) (h := fun _ _ => 0) counts 0 fun j hj => by simp [lsum]
    rw [this, isum_zero]
    rfl
  | x :: t => by
    show lval counts x + lsum (lval counts) t = _
    rw [lval_sum counts t]
    unfold lval
    rw [← isum_add]
    exact isum_congr counts 0 fun j hj => by rw [← Int.mul_add]; rfl
/-- The things that are taken of the last row. -/
def ltaken (counts : List Int) (most : Nat) : List LTh := (lrow (lleaves counts) (most - 1)).take (2 * (lleaves counts).length - 2)
/-- A symbol's best length, where two symbols come, or more. -/
def llen (counts : List Int) (most s : Nat) : Int := lsum (lhas s) (ltaken counts most)
def lbestL (counts : List Int) (most : Nat) : List Int :=
  if (lleaves counts).length = 1 then counts.map (fun c => if 0 < c then 1 else 0) else (List.range counts.length).map fun s => llen counts most s
theorem lbestL_len (counts : List Int) (most : Nat) : (lbestL counts most).length = counts.length := by
  unfold lbestL
  split <;> simp
theorem llen_cost (counts : List Int) (most : Nat) : isum (fun j c => c * llen counts most j) 0 counts = lsum (·.w) (ltaken counts most) := by
  have h1 : ∀ x ∈ lrow (lleaves counts) (most - 1), lval counts x = x.w := by
    refine lrow_val (lleaves_ok counts) (lval_adds counts) (g := (·.w)) (fun a b => rfl) (fun x hx => ?_) (most - 1)
    obtain ⟨j, hj, _, rfl⟩ := (lleaves_mem counts x).1 hx
    exact lval_leaf counts j hj
  rw [← lsum_congr (f := lval counts) (ltaken counts most) fun x hx => h1 x (List.mem_of_mem_take hx), lval_sum]
  rfl
end Go.Proofs.Ytpocpckhcciecaa
