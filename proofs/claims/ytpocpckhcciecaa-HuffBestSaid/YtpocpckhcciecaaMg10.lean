/-
  What the law of the last of these texts stands on, part 10.
-/
import Derived.Test.YtpocpckhcciecaaMg01
import Derived.WalkKit
import Derived.WalkSpells
import Derived.WalkLawsBesides
import Derived.ProofKit
import Derived.OpenShut
import Derived.Handy
import Derived.SizedLaws
import Derived.JoinedOf
import Derived.KernelRfl
import Derived.Lib.Hide
import Derived.Lib.SmallJoins
import Derived.Deep.Slices
import Derived.Deep.Fields
import Derived.Deep.SlicePairs
import Derived.Deep.Draws
import Derived.Deep.AppendLies
import Derived.Deep.QuietTactic
import Derived.BigQuiet
import Derived.Deep.RegionHeld3
import Derived.StillTailTactics
import Derived.Laws.OwnMore
import Derived.Laws.Rows
import Derived.Below
import Derived.Carry
import Derived.WalkMore
import Derived.Laws.BytesString
import Derived.Laws.BitsLemmas
import Derived.Laws.Concat
import Derived.Deep.Upon
namespace Go.Proofs.Ytpocpckhcciecaa
set_option linter.unusedSimpArgs false
set_option linter.unusedVariables false
open Go.ChangeShapes Go.WideShapes Go.ChangeAt Go.RowKit Go.Joins Go.Deep
/-- What the lengths that a test takes have of the whole, together. -/
def wsum (p : Nat → Nat → Bool) : Nat → List Nat → Nat
  | _, [] => 0
  | i, x :: t => (if p i x = true then 2 ^ (15 - x) else 0) + wsum p (i + 1) t
theorem wsum_congr {p q : Nat → Nat → Bool} : ∀ (l : List Nat) (i : Nat), (∀ j (h : j < l.length), p (i + j) l[j] = q (i + j) l[j]) → wsum p i l = wsum q i l
  | [], _, _ => rfl
  | x :: t, i, h => by
    have h0 := h 0 (by simp)
    have ih := wsum_congr (p := p) (q := q) t (i + 1) fun j hj => by
      have := h (j + 1) (by simpa using hj)
      rw [show i + (j + 1) = i + 1 + j from by omega] at this
      exact this
    simp only [Nat.add_zero, List.getElem_cons_zero] at h0
    show (if p i x = true then _ else 0) + wsum p (i + 1) t = _
    rw [h0, ih]
    rfl
theorem wsum_le {p q : Nat → Nat → Bool} : ∀ (l : List Nat) (i : Nat), (∀ j (h : j < l.length), p (i + j) l[j] = true → q (i + j) l[j] = true) → wsum p i l ≤ wsum q i l
  | [], _, _ => Nat.le_refl _
  | x :: t, i, h => by
    have h0 := h 0 (by simp)
    have ih := wsum_le (p := p) (q := q) t (i + 1) fun j hj => by
      have := h (j + 1) (by simpa using hj)
      rw [show i + (j + 1) = i + 1 + j from by omega] at this
      exact this
    simp only [Nat.add_zero, List.getElem_cons_zero] at h0
    show (if p i x = true then _ else 0) + wsum p (i + 1) t ≤ (if q i x = true then _ else 0) + wsum q (i + 1) t
    by_cases hp : p i x = true
    · rw [if_pos hp, if_pos (h0 hp)]; omega
    · rw [if_neg hp]; omega
theorem wsum_two {p q : Nat → Nat → Bool} : ∀ (l : List Nat) (i k : Nat) (hk : k < l.length), (∀ j (h : j < l.length), p (i + j) l[j] = true → q (i + j) l[j] = true) → p (i + k) l[k] = false → q (i + k) l[k] = true → wsum p i l + 2 ^ (15 - l[k]) ≤ wsum q i l
  | x :: t, i, 0, _, h, hp, hq => by
    simp only [Nat.add_zero, List.getElem_cons_zero] at hp hq
    have ih := wsum_le (p := p) (q := q) t (i + 1) fun j hj => by
      have := h (j + 1) (by simpa using hj)
      rw [show i + (j + 1) = i + 1 + j from by omega] at this
      exact this
    show (if p i x = true then _ else 0) + wsum p (i + 1) t + 2 ^ (15 - x) ≤ (if q i x = true then _ else 0) + wsum q (i + 1) t
    rw [if_neg (by rw [hp]; decide), if_pos hq]
    omega
  | x :: t, i, k + 1, hk, h, hp, hq => by
    have h0 := h 0 (by simp)
    simp only [Nat.add_zero, List.getElem_cons_zero] at h0
    have ih := wsum_two (p := p) (q := q) t (i + 1) k (by simpa using hk) (fun j hj => by
      have := h (j + 1) (by simpa using hj)
      rw [show i + (j + 1) = i + 1 + j from by omega] at this
      exact this) (by rw [show i + (k + 1) = i + 1 + k from by omega] at hp; exact hp) (by rw [show i + (k + 1) = i + 1 + k from by omega] at hq; exact hq)
    show (if p i x = true then _ else 0) + wsum p (i + 1) t + 2 ^ (15 - t[k]'(by simpa using hk)) ≤ (if q i x = true then _ else 0) + wsum q (i + 1) t
    by_cases hp2 : p i x = true
    · rw [if_pos hp2, if_pos (h0 hp2)]; omega
    · rw [if_neg hp2]; omega
theorem wsum_one {p q : Nat → Nat → Bool} : ∀ (l : List Nat) (i k : Nat) (hk : k < l.length), (∀ j (h : j < l.length), j ≠ k → p (i + j) l[j] = q (i + j) l[j]) → p (i + k) l[k] = false → q (i + k) l[k] = true → wsum p i l + 2 ^ (15 - l[k]) = wsum q i l
  | x :: t, i, 0, _, h, hp, hq => by
    simp only [Nat.add_zero, List.getElem_cons_zero] at hp hq
    have ih := wsum_congr (p := p) (q := q) t (i + 1) fun j hj => by
      have := h (j + 1) (by simpa using hj) (by omega)
      rw [show i + (j + 1) = i + 1 + j from by omega] at this
      exact this
    show (if p i x = true then _ else 0) + wsum p (i + 1) t + 2 ^ (15 - x) = (if q i x = true then _ else 0) + wsum q (i + 1) t
    rw [if_neg (by rw [hp]; decide), if_pos hq, ih]
    omega
  | x :: t, i, k + 1, hk, h, hp, hq => by
    have h0 := h 0 (by simp) (by omega)
    simp only [Nat.add_zero, List.getElem_cons_zero] at h0
    have ih := wsum_one (p := p) (q := q) t (i + 1) k (by simpa using hk) (fun j hj hne => by
      have := h (j + 1) (by simpa using hj) (by omega)
      rw [show i + (j + 1) = i + 1 + j from by omega] at this
      exact this) (by rw [show i + (k + 1) = i + 1 + k from by omega] at hp; exact hp) (by rw [show i + (k + 1) = i + 1 + k from by omega] at hq; exact hq)
    show (if p i x = true then _ else 0) + wsum p (i + 1) t + 2 ^ (15 - t[k]'(by simpa using hk)) = (if q i x = true then _ else 0) + wsum q (i + 1) t
    rw [h0]
    omega
theorem wsum_dvd {p : Nat → Nat → Bool} (n : Nat) (hn : n ≤ 15) : ∀ (l : List Nat) (i : Nat), (∀ j (h : j < l.length), p (i + j) l[j] = true → l[j] ≤ n) → 2 ^ (15 - n) ∣ wsum p i l
  | [], _, _ => ⟨0, rfl⟩
  | x :: t, i, h => by
    have h0 := h 0 (by simp)
    simp only [Nat.add_zero, List.getElem_cons_zero] at h0
    have ih := wsum_dvd (p := p) n hn t (i + 1) fun j hj => by
      have := h (j + 1) (by simpa using hj)
      rw [show i + (j + 1) = i + 1 + j from by omega] at this
      exact this
    show 2 ^ (15 - n) ∣ (if p i x = true then _ else 0) + wsum p (i + 1) t
    refine Nat.dvd_add ?_ ih
    by_cases hp : p i x = true
    · rw [if_pos hp]
      exact Nat.pow_dvd_pow 2 (by have := h0 hp; omega)
    · rw [if_neg hp]
      exact ⟨0, rfl⟩
/-- All that the lengths have of the whole. -/
def call (ls : List Nat) : Nat := wsum (fun _ x => decide (0 < x)) 0 ls
/-- Where the words of length n begin from symbol s on: all shorter ones, and those of that length of the symbols ahead, lie ahead. -/
def cpos (ls : List Nat) (n s : Nat) : Nat := wsum (fun j x => decide (0 < x) && (decide (x < n) || (decide (x = n) && decide (j < s)))) 0 ls
section
variable {ls : List Nat}
theorem cpos_none (s : Nat) : cpos ls 0 s = 0 := by
  have h : ∀ (l : List Nat) (i : Nat), wsum (fun j x => decide (0 < x) && (decide (x < 0) || (decide (x = 0) && decide (j < s)))) i l = 0 := by
    intro l
    induction l with
    | nil => intro i; rfl
    | cons x t ih =>
      intro i
      show (if _ then _ else 0) + wsum _ (i + 1) t = 0
      rw [ih (i + 1), if_neg (by simp; omega)]
  exact h ls 0
theorem cpos_next (n s : Nat) (h : ls.length ≤ s) : cpos ls n s = cpos ls (n + 1) 0 := by
  refine wsum_congr ls 0 fun j hj => ?_
  rw [Nat.zero_add]
  by_cases h1 : ls[j] < n
  · simp [h1, show ls[j] < n + 1 by omega]
  · by_cases h2 : ls[j] = n
    · simp [h2, show j < s by omega]
    · simp [h1, h2, show ¬ ls[j] < n + 1 by omega]
theorem cpos_skip (n s : Nat) (h : ∀ hs : s < ls.length, ls[s] ≠ n) : cpos ls n (s + 1) = cpos ls n s := by
  refine wsum_congr ls 0 fun j hj => ?_
  rw [Nat.zero_add]
  by_cases h2 : ls[j] = n
  · by_cases e : j = s
    · subst e; exact absurd h2 (h hj)
    · simp [h2, show (j < s + 1) = (j < s) from by simp; omega]
  · simp [h2]
theorem cpos_step (n s : Nat) (hs : s < ls.length) (h : ls[s] = n) (hn : 0 < n) : cpos ls n (s + 1) = cpos ls n s + 2 ^ (15 - n) := by
  have := wsum_one (p := fun j x => decide (0 < x) && (decide (x < n) || (decide (x = n) && decide (j < s)))) (q := fun j x => decide (0 < x) && (decide (x < n) || (decide (x = n) && decide (j < s + 1)))) ls 0 s hs (fun j hj hne => by
    rw [Nat.zero_add]
    simp only [show decide (j < s + 1) = decide (j < s) from by simp; omega]) (by simp [h]) (by simp [h, hn])
  rw [h] at this
  exact this.symm
theorem cpos_dvd (n s : Nat) (hn : n ≤ 15) : 2 ^ (15 - n) ∣ cpos ls n s := wsum_dvd n hn ls 0 fun j hj h => by
  simp only [Bool.and_eq_true, Bool.or_eq_true, decide_eq_true_eq] at h
  omega
/-- One word lies ahead of another one. -/
theorem cpos_ahead (n s n' s' : Nat) (hs : s < ls.length) (h : ls[s] = n) (hn : 0 < n) (hl : n < n' ∨ (n = n' ∧ s < s')) : cpos ls n s + 2 ^ (15 - n) ≤ cpos ls n' s' := by
  have := wsum_two (p := fun j x => decide (0 < x) && (decide (x < n) || (decide (x = n) && decide (j < s)))) (q := fun j x => decide (0 < x) && (decide (x < n') || (decide (x = n') && decide (j < s')))) ls 0 s hs (fun j hj hp => by
    rw [Nat.zero_add] at *
    simp only [Bool.and_eq_true, Bool.or_eq_true, decide_eq_true_eq] at hp ⊢
    omega) (by simp [h]) (by
    rw [Nat.zero_add, h]
    simp only [Bool.and_eq_true, Bool.or_eq_true, decide_eq_true_eq]
    omega)
  rw [h] at this
  exact this
theorem cpos_all (n s : Nat) (hs : s < ls.length) (h : ls[s] = n) (hn : 0 < n) : cpos ls n s + 2 ^ (15 - n) ≤ call ls := by
  have := wsum_two (p := fun j x => decide (0 < x) && (decide (x < n) || (decide (x = n) && decide (j < s)))) (q := fun _ x => decide (0 < x)) ls 0 s hs (fun j hj hp => by
    simp only [Bool.and_eq_true] at hp
    exact hp.1) (by simp [h]) (by simp [h, hn])
  rw [h] at this
  exact this
theorem cpos_end (h : ∀ x ∈ ls, x ≤ 15) : cpos ls 16 0 = call ls := by
  refine wsum_congr ls 0 fun j hj => ?_
  have := h ls[j] (List.getElem_mem hj)
  simp [show ls[j] < 16 by omega]
/-- Every part of the whole is in a word. -/
theorem cpos_find (v : Nat) : ∀ n s, v < cpos ls n s → ∃ k, ∃ hk : k < ls.length, 0 < ls[k] ∧ cpos ls ls[k] k ≤ v ∧ v < cpos ls ls[k] k + 2 ^ (15 - ls[k])
  | 0, s, h => by rw [cpos_none] at h; omega
  | n + 1, 0, h => by
    rw [← cpos_next n ls.length (Nat.le_refl _)] at h
    exact cpos_find v n ls.length h
  | n + 1, s + 1, h => by
    by_cases hs : ∃ hs : s < ls.length, ls[s] = n + 1
    · obtain ⟨hs, e⟩ := hs
      rw [cpos_step (n + 1) s hs e (by omega)] at h
      by_cases hv : v < cpos ls (n + 1) s
      · exact cpos_find v (n + 1) s hv
      · exact ⟨s, hs, by omega, by rw [e]; omega, by rw [e]; exact h⟩
    · rw [cpos_skip (n + 1) s fun hs2 e => hs ⟨hs2, e⟩] at h
      exact cpos_find v (n + 1) s h
termination_by n s => (n, s)
/-- .. and in no other one. -/
theorem cpos_only (v k k' : Nat) (hk : k < ls.length) (hk' : k' < ls.length) (h : 0 < ls[k]) (h' : 0 < ls[k']) (a : cpos ls ls[k] k ≤ v ∧ v < cpos ls ls[k] k + 2 ^ (15 - ls[k])) (b : cpos ls ls[k'] k' ≤ v ∧ v < cpos ls ls[k'] k' + 2 ^ (15 - ls[k'])) : k = k' := by
  rcases Nat.lt_trichotomy ls[k] ls[k'] with e | e | e
  · have := cpos_ahead ls[k] k ls[k'] k' hk rfl h (Or.inl e)
    omega
  · rcases Nat.lt_trichotomy k k' with e2 | e2 | e2
    · have := cpos_ahead ls[k] k ls[k'] k' hk rfl h (Or.inr ⟨e, e2⟩)
      omega
    · exact e2
    · have := cpos_ahead ls[k'] k' ls[k] k hk' rfl h' (Or.inr ⟨e.symm, e2⟩)
      omega
  · have := cpos_ahead ls[k'] k' ls[k] k hk' rfl h' (Or.inl e)
    omega
/-- The number of a symbol's code word. -/
def cword (ls : List Nat) (n s : Nat) : Nat := cpos ls n s / 2 ^ (15 - n)
theorem cword_pos (n s : Nat) (hn : n ≤ 15) : cword ls n s * 2 ^ (15 - n) = cpos ls n s := Nat.div_mul_cancel (cpos_dvd n s hn)
theorem cword_lt (n s : Nat) (hs : s < ls.length) (h : ls[s] = n) (hn : 0 < n ∧ n ≤ 15) (hc : call ls ≤ 32768) : cword ls n s < 2 ^ n := by
  have h1 := cpos_all n s hs h hn.1
  have h2 := cword_pos (ls := ls) n s hn.2
  have h3 : (2 : Nat) ^ n * 2 ^ (15 - n) = 32768 := by rw [← Nat.pow_add, show n + (15 - n) = 15 from by omega]
  have h4 : 0 < (2 : Nat) ^ (15 - n) := Nat.pow_pos (by omega)
  rcases Nat.lt_or_ge (cword ls n s) (2 ^ n) with e | e
  · exact e
  · have := Nat.mul_le_mul_right (2 ^ (15 - n)) e
    omega
end
end Go.Proofs.Ytpocpckhcciecaa
namespace Go.Proofs.Ytpocpckhcciecaa
set_option linter.unusedSimpArgs false
set_option linter.unusedVariables false
open Go.ChangeShapes Go.WideShapes Go.ChangeAt Go.RowKit Go.Joins Go.Deep
section
variable {w w' w'' : World} {g : Nat} {row : Option Nat}
theorem grow_refl (w : World) (row : Option Nat) : w.grownBy w row := ⟨rfl, rfl, rfl, Nat.le_refl _, fun _ _ _ => rfl⟩
theorem grow_trans (h : w.grownBy w' row) (k : w'.grownBy w'' row) : w.grownBy w'' row :=
  ⟨k.os.trans h.os, k.tape.trans h.tape, k.output.trans h.output, Nat.le_trans h.size k.size, fun i hi hr => (k.block i (Nat.lt_of_lt_of_le hi h.size) hr).trans (h.block i hi hr)⟩
theorem grow_set (h : w.grownBy w' (some g)) {p : Addr} (hp : p.block = g ∨ w.heap.size ≤ p.block) (u : Value) : w.grownBy (w'.setCell p u) (some g) :=
  ⟨h.os, h.tape, h.output, by have := h.size; simpa [World.setCell] using this, fun i hi hr => by
    have e : i ≠ p.block := by
      rcases hp with hp | hp
      · exact fun e => hr (by rw [e, hp])
      · omega
    exact (Below.heap_setCell _ _ _ _ e).trans (h.block i hi hr)⟩
theorem grow_alloc (h : w.grownBy w' row) (o : Obj) : w.grownBy (w'.alloc o) row := grow_trans h (World.grownBy_alloc w' o row)
theorem below_grow {B : Nat} (h : w.grownBy w' (some g)) (hB : B ≤ g) (hw : B ≤ w.heap.size) : Below B w w' := ⟨h.os, h.tape, h.output, h.size, fun i hi => h.block i (by omega) (fun e => by injection e with e; omega)⟩
theorem Blk.grow {b : Nat} {t : TypeId} {cs : Array Value} (h : Blk w b t cs) (hg : w.grownBy w' (some g)) (hb : b ≠ g) : Blk w' b t cs := (hg.block b h.lt (fun e => by injection e with e; exact hb e)).trans h
end
section
variable {w w' : World} {g : Nat} {t : TypeId} {cs : Array Value}
theorem Blk.row (h : Blk w g t cs) (cs' : Array Value) : Blk (w.setRow g cs') g t cs' := setRow_heap w g _ _ t _ h
end
end Go.Proofs.Ytpocpckhcciecaa
