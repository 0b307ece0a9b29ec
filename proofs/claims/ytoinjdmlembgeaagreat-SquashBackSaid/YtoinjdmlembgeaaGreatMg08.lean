/-
 What the law of the last of these texts stands on, part 8.
-/
import Derived.Test.YtoinjdmlembgeaaGreatMg07
import Derived.Laws.EntriesVeiled
namespace Go.Proofs.YtoinjdmlembgeaaGreat
set_option linter.unusedSimpArgs false
set_option linter.unusedVariables false
open Go.ChangeShapes Go.WideShapes Go.ChangeAt Go.RowKit Go.Joins Go.Deep
def wsum (p : Nat → Nat → Bool) : Nat → List Nat → Nat
 | _, [] => 0
 | i, x :: t => (if p i x = true then 2 ^ (15 - x) else 0) + wsum p (i + 1) t
theorem yc2 {p q : Nat → Nat → Bool} : ∀ (l : List Nat) (i : Nat), (∀ j (h : j < l.length), p (i + j) l[j] = q (i + j) l[j]) → wsum p i l = wsum q i l
 | [], _, _ => rfl
 | x :: t, i, h => by
  have h0 := h 0 (by simp)
  have ih := yc2 (p := p) (q := q) t (i + 1) fun j hj => by
   have := h (j + 1) (by simpa using hj)
   rw [show i + (j + 1) = i + 1 + j from by omega] at this
   exact this
  simp only [Nat.add_zero, List.getElem_cons_zero] at h0
  show (if p i x = true then _ else 0) + wsum p (i + 1) t = _
  rw [h0, ih]
  rfl
theorem wsum_le {p q : Nat → Nat → Bool} : ∀ (l : List Nat) (i : Nat), (∀ j (h : j < l.length), p (i + j) l[j] = true → q (i + j) l[j] = true) → wsum p i l ≤ wsum q i l
 | [], _, _ => Nat.le_refl _
 | x :: t, i, h => by
  have h0 := h 0 (by simp)
  have ih := wsum_le (p := p) (q := q) t (i + 1) fun j hj => by
   have := h (j + 1) (by simpa using hj)
   rw [show i + (j + 1) = i + 1 + j from by omega] at this
   exact this
  simp only [Nat.add_zero, List.getElem_cons_zero] at h0
  show (if p i x = true then _ else 0) + wsum p (i + 1) t ≤ (if q i x = true then _ else 0) + wsum q (i + 1) t
  by_cases hp : p i x = true
  ·rw [if_pos hp, if_pos (h0 hp)]; omega
  ·rw [if_neg hp]; omega
theorem wsum_two {p q : Nat → Nat → Bool} : ∀ (l : List Nat) (i k : Nat) (hk : k < l.length), (∀ j (h : j < l.length), p (i + j) l[j] = true → q (i + j) l[j] = true) → p (i + k) l[k] = false → q (i + k) l[k] = true → wsum p i l + 2 ^ (15 - l[k]) ≤ wsum q i l
 | x :: t, i, 0, _, h, hp, hq => by
  simp only [Nat.add_zero, List.getElem_cons_zero] at hp hq
  have ih := wsum_le (p := p) (q := q) t (i + 1) fun j hj => by
   have := h (j + 1) (by simpa using hj)
   rw [show i + (j + 1) = i + 1 + j from by omega] at this
   exact this
  show (if p i x = true then _ else 0) + wsum p (i + 1) t + 2 ^ (15 - x) ≤ (if q i x = true then _ else 0) + wsum q (i + 1) t
  rw [if_neg (by rw [hp]; decide), if_pos hq]
  omega
 | x :: t, i, k + 1, hk, h, hp, hq => by
  have h0 := h 0 (by simp)
  simp only [Nat.add_zero, List.getElem_cons_zero] at h0
  have ih := wsum_two (p := p) (q := q) t (i + 1) k (by simpa using hk) (fun j hj => by
   have := h (j + 1) (by simpa using hj)
   rw [show i + (j + 1) = i + 1 + j from by omega] at this
   exact this) (by rw [show i + (k + 1) = i + 1 + k from by omega] at hp; exact hp) (by rw [show i + (k + 1) = i + 1 + k from by omega] at hq; exact hq)
  show (if p i x = true then _ else 0) + wsum p (i + 1) t + 2 ^ (15 - t[k]'(by simpa using hk)) ≤ (if q i x = true then _ else 0) + wsum q (i + 1) t
  by_cases hp2 : p i x = true
  ·rw [if_pos hp2, if_pos (h0 hp2)]; omega
  ·rw [if_neg hp2]; omega
theorem wsum_one {p q : Nat → Nat → Bool} : ∀ (l : List Nat) (i k : Nat) (hk : k < l.length), (∀ j (h : j < l.length), j ≠ k → p (i + j) l[j] = q (i + j) l[j]) → p (i + k) l[k] = false → q (i + k) l[k] = true → wsum p i l + 2 ^ (15 - l[k]) = wsum q i l
 | x :: t, i, 0, _, h, hp, hq => by
  simp only [Nat.add_zero, List.getElem_cons_zero] at hp hq
  have ih := yc2 (p := p) (q := q) t (i + 1) fun j hj => by
   have := h (j + 1) (by simpa using hj) (by omega)
   rw [show i + (j + 1) = i + 1 + j from by omega] at this
   exact this
  show (if p i x = true then _ else 0) + wsum p (i + 1) t + 2 ^ (15 - x) = (if q i x = true then _ else 0) + wsum q (i + 1) t
  rw [if_neg (by rw [hp]; decide), if_pos hq, ih]
  omega
 | x :: t, i, k + 1, hk, h, hp, hq => by
  have h0 := h 0 (by simp) (by omega)
  simp only [Nat.add_zero, List.getElem_cons_zero] at h0
  have ih := wsum_one (p := p) (q := q) t (i + 1) k (by simpa using hk) (fun j hj hne => by
   have := h (j + 1) (by simpa using hj) (by omega)
   rw [show i + (j + 1) = i + 1 + j from by omega] at this
   exact this) (by rw [show i + (k + 1) = i + 1 + k from by omega] at hp; exact hp) (by rw [show i + (k + 1) = i + 1 + k from by omega] at hq; exact hq)
  show (if p i x = true then _ else 0) + wsum p (i + 1) t + 2 ^ (15 - t[k]'(by simpa using hk)) = (if q i x = true then _ else 0) + wsum q (i + 1) t
  rw [h0]
  omega
theorem wsum_dvd {p : Nat → Nat → Bool} (n : Nat) (hn : n ≤ 15) : ∀ (l : List Nat) (i : Nat), (∀ j (h : j < l.length), p (i + j) l[j] = true → l[j] ≤ n) → 2 ^ (15 - n) ∣ wsum p i l
 | [], _, _ => ⟨0, rfl⟩
 | x :: t, i, h => by
  have h0 := h 0 (by simp)
  simp only [Nat.add_zero, List.getElem_cons_zero] at h0
  have ih := wsum_dvd (p := p) n hn t (i + 1) fun j hj => by
   have := h (j + 1) (by simpa using hj)
   rw [show i + (j + 1) = i + 1 + j from by omega] at this
   exact this
  show 2 ^ (15 - n) ∣ (if p i x = true then _ else 0) + wsum p (i + 1) t
  refine Nat.dvd_add ?_ ih
  by_cases hp : p i x = true
  ·rw [if_pos hp]
   exact Nat.pow_dvd_pow 2 (by have := h0 hp; omega)
  ·rw [if_neg hp]
   exact ⟨0, rfl⟩
def call (ls : List Nat) : Nat := wsum (fun _ x => decide (0 < x)) 0 ls
def cpos (ls : List Nat) (n s : Nat) : Nat := wsum (fun j x => decide (0 < x) && (decide (x < n) || (decide (x = n) && decide (j < s)))) 0 ls
section
variable {ls : List Nat}
theorem yc7 (s : Nat) : cpos ls 0 s = 0 := by
 have h : ∀ (l : List Nat) (i : Nat), wsum (fun j x => decide (0 < x) && (decide (x < 0) || (decide (x = 0) && decide (j < s)))) i l = 0 := by
  intro l
  induction l with
  | nil => intro i; rfl
  | cons x t ih =>
   intro i
   show (if _ then _ else 0) + wsum _ (i + 1) t = 0
   rw [ih (i + 1), if_neg (by simp; omega)]
 exact h ls 0
theorem yc6 (n s : Nat) (h : ls.length ≤ s) : cpos ls n s = cpos ls (n + 1) 0 := by
 refine yc2 ls 0 fun j hj => ?_
 rw [Nat.zero_add]
 by_cases h1 : ls[j] < n
 ·simp [h1, show ls[j] < n + 1 by omega]
 ·by_cases h2 : ls[j] = n
  ·simp [h2, show j < s by omega]
  ·simp [h1, h2, show ¬ ls[j] < n + 1 by omega]
theorem ye8 (n s : Nat) (h : ∀ hs : s < ls.length, ls[s] ≠ n) : cpos ls n (s + 1) = cpos ls n s := by
 refine yc2 ls 0 fun j hj => ?_
 rw [Nat.zero_add]
 by_cases h2 : ls[j] = n
 ·by_cases e : j = s
  ·subst e; exact absurd h2 (h hj)
  ·simp [h2, show (j < s + 1) = (j < s) from by simp; omega]
 ·simp [h2]
theorem yhc (n s : Nat) (hs : s < ls.length) (h : ls[s] = n) (hn : 0 < n) : cpos ls n (s + 1) = cpos ls n s + 2 ^ (15 - n) := by
 have := wsum_one (p := fun j x => decide (0 < x) && (decide (x < n) || (decide (x = n) && decide (j < s)))) (q := fun j x => decide (0 < x) && (decide (x < n) || (decide (x = n) && decide (j < s + 1)))) ls 0 s hs (fun j hj hne => by
  rw [Nat.zero_add]
  simp only [show decide (j < s + 1) = decide (j < s) from by simp; omega]) (by simp [h]) (by simp [h, hn])
 rw [h] at this
 exact this.symm
theorem cpos_dvd (n s : Nat) (hn : n ≤ 15) : 2 ^ (15 - n) ∣ cpos ls n s := wsum_dvd n hn ls 0 fun j hj h => by
 simp only [Bool.and_eq_true, Bool.or_eq_true, decide_eq_true_eq] at h
 omega
theorem ybN (n s n' s' : Nat) (hs : s < ls.length) (h : ls[s] = n) (hn : 0 < n) (hl : n < n' ∨ (n = n' ∧ s < s')) : cpos ls n s + 2 ^ (15 - n) ≤ cpos ls n' s' := by
 have := wsum_two (p := fun j x => decide (0 < x) && (decide (x < n) || (decide (x = n) && decide (j < s)))) (q := fun j x => decide (0 < x) && (decide (x < n') || (decide (x = n') && decide (j < s')))) ls 0 s hs (fun j hj hp => by
  rw [Nat.zero_add] at *
  simp only [Bool.and_eq_true, Bool.or_eq_true, decide_eq_true_eq] at hp ⊢
  omega) (by simp [h]) (by
  rw [Nat.zero_add, h]
  simp only [Bool.and_eq_true, Bool.or_eq_true, decide_eq_true_eq]
  omega)
 rw [h] at this
 exact this
theorem cpos_all (n s : Nat) (hs : s < ls.length) (h : ls[s] = n) (hn : 0 < n) : cpos ls n s + 2 ^ (15 - n) ≤ call ls := by
 have := wsum_two (p := fun j x => decide (0 < x) && (decide (x < n) || (decide (x = n) && decide (j < s)))) (q := fun _ x => decide (0 < x)) ls 0 s hs (fun j hj hp => by
  simp only [Bool.and_eq_true] at hp
  exact hp.1) (by simp [h]) (by simp [h, hn])
 rw [h] at this
 exact this
theorem cpos_end (h : ∀ x ∈ ls, x ≤ 15) : cpos ls 16 0 = call ls := by
 refine yc2 ls 0 fun j hj => ?_
 have := h ls[j] (List.getElem_mem hj)
 simp [show ls[j] < 16 by omega]
theorem ye6 (v : Nat) : ∀ n s, v < cpos ls n s → ∃ k, ∃ hk : k < ls.length, 0 < ls[k] ∧ cpos ls ls[k] k ≤ v ∧ v < cpos ls ls[k] k + 2 ^ (15 - ls[k])
 | 0, s, h => by rw [yc7] at h; omega
 | n + 1, 0, h => by
  rw [← yc6 n ls.length (Nat.le_refl _)] at h
  exact ye6 v n ls.length h
 | n + 1, s + 1, h => by
  by_cases hs : ∃ hs : s < ls.length, ls[s] = n + 1
  ·obtain ⟨hs, e⟩ := hs
   rw [yhc (n + 1) s hs e (by omega)] at h
   by_cases hv : v < cpos ls (n + 1) s
   ·exact ye6 v (n + 1) s hv
   ·exact ⟨s, hs, by omega, by rw [e]; omega, by rw [e]; exact h⟩
  ·rw [ye8 (n + 1) s fun hs2 e => hs ⟨hs2, e⟩] at h
   exact ye6 v (n + 1) s h
termination_by n s => (n, s)
theorem cpos_only (v k k' : Nat) (hk : k < ls.length) (hk' : k' < ls.length) (h : 0 < ls[k]) (h' : 0 < ls[k']) (a : cpos ls ls[k] k ≤ v ∧ v < cpos ls ls[k] k + 2 ^ (15 - ls[k])) (b : cpos ls ls[k'] k' ≤ v ∧ v < cpos ls ls[k'] k' + 2 ^ (15 - ls[k'])) : k = k' := by
 rcases Nat.lt_trichotomy ls[k] ls[k'] with e | e | e
 ·have := ybN ls[k] k ls[k'] k' hk rfl h (Or.inl e)
  omega
 ·rcases Nat.lt_trichotomy k k' with e2 | e2 | e2
  ·have := ybN ls[k] k ls[k'] k' hk rfl h (Or.inr ⟨e, e2⟩)
   omega
  ·exact e2
  ·have := ybN ls[k'] k' ls[k] k hk' rfl h' (Or.inr ⟨e.symm, e2⟩)
   omega
 ·have := ybN ls[k'] k' ls[k] k hk' rfl h' (Or.inl e)
  omega
def ybr (ls : List Nat) (n s : Nat) : Nat := cpos ls n s / 2 ^ (15 - n)
theorem ycA (n s : Nat) (hn : n ≤ 15) : ybr ls n s * 2 ^ (15 - n) = cpos ls n s := Nat.div_mul_cancel (cpos_dvd n s hn)
theorem cword_lt (n s : Nat) (hs : s < ls.length) (h : ls[s] = n) (hn : 0 < n ∧ n ≤ 15) (hc : call ls ≤ 32768) : ybr ls n s < 2 ^ n := by
 have h1 := cpos_all n s hs h hn.1
 have h2 := ycA (ls := ls) n s hn.2
 have h3 : (2 : Nat) ^ n * 2 ^ (15 - n) = 32768 := by rw [← Nat.pow_add, show n + (15 - n) = 15 from by omega]
 have h4 : 0 < (2 : Nat) ^ (15 - n) := Nat.pow_pos (by omega)
 rcases Nat.lt_or_ge (ybr ls n s) (2 ^ n) with e | e
 ·exact e
 ·have := Nat.mul_le_mul_right (2 ^ (15 - n)) e
  omega
end
def cat1 (ls : List Nat) (n s j : Nat) : Int × Int :=
 if 0 < ls.getD j 0 ∧ (ls.getD j 0 < n ∨ (ls.getD j 0 = n ∧ j < s)) then ((ybr ls (ls.getD j 0) j : Nat), (ls.getD j 0 : Nat)) else (0, 0)
def wat (ls : List Nat) (n s : Nat) : List (Int × Int) := (List.range ls.length).map (cat1 ls n s)
theorem yaF (ls : List Nat) (n s : Nat) : (wat ls n s).length = ls.length := by simp [wat]
theorem wat_get (ls : List Nat) (n s j : Nat) (h : j < ls.length) : (wat ls n s)[j]? = some (cat1 ls n s j) := by simp [wat, h]
theorem wat_congr (ls : List Nat) (n s n' s' : Nat) (h : ∀ j, j < ls.length → cat1 ls n s j = cat1 ls n' s' j) : wat ls n s = wat ls n' s' := List.map_congr_left fun j hj => h j (List.mem_range.1 hj)
theorem wat_zero (ls : List Nat) : wat ls 1 0 = List.replicate ls.length (0, 0) := by
 apply List.ext_getElem?
 intro j
 by_cases h : j < ls.length
 ·rw [wat_get ls 1 0 j h, List.getElem?_replicate, if_pos h]
  unfold cat1
  rw [if_neg (by omega)]
 ·rw [List.getElem?_eq_none (by rw [yaF]; omega), List.getElem?_eq_none (by simp; omega)]
theorem wat_next (ls : List Nat) (n s : Nat) (h : ls.length ≤ s) : wat ls n s = wat ls (n + 1) 0 := wat_congr ls _ _ _ _ fun j hj => by
 unfold cat1
 by_cases h1 : 0 < ls.getD j 0 ∧ (ls.getD j 0 < n ∨ (ls.getD j 0 = n ∧ j < s))
 ·rw [if_pos h1, if_pos (by omega)]
 ·rw [if_neg h1, if_neg (by omega)]
theorem wat_skip (ls : List Nat) (n s : Nat) (h : ls.getD s 0 ≠ n) : wat ls n (s + 1) = wat ls n s := wat_congr ls _ _ _ _ fun j hj => by
 unfold cat1
 by_cases e : j = s
 ·subst e
  by_cases h1 : 0 < ls.getD j 0 ∧ ls.getD j 0 < n
  ·rw [if_pos (by omega), if_pos (by omega)]
  ·rw [if_neg (by omega), if_neg (by omega)]
 ·by_cases h1 : 0 < ls.getD j 0 ∧ (ls.getD j 0 < n ∨ (ls.getD j 0 = n ∧ j < s))
  ·rw [if_pos h1, if_pos (by omega)]
  ·rw [if_neg h1, if_neg (by omega)]
theorem wat_set (ls : List Nat) (n s : Nat) (hs : s < ls.length) (h : ls.getD s 0 = n) (hn : 0 < n) : (wat ls n s).set s ((ybr ls n s : Nat), (n : Nat)) = wat ls n (s + 1) := by
 apply List.ext_getElem?
 intro j
 by_cases hj : j < ls.length
 ·rw [List.getElem?_set, wat_get ls n (s + 1) j hj, yaF, wat_get ls n s j hj]
  by_cases e : s = j
  ·subst e
   rw [if_pos rfl, if_pos hs]
   unfold cat1
   rw [if_pos (by omega), h]
  ·rw [if_neg e]
   unfold cat1
   by_cases h1 : 0 < ls.getD j 0 ∧ (ls.getD j 0 < n ∨ (ls.getD j 0 = n ∧ j < s))
   ·rw [if_pos h1, if_pos (by omega)]
   ·rw [if_neg h1, if_neg (by omega)]
 ·rw [List.getElem?_eq_none (by rw [List.length_set, yaF]; omega), List.getElem?_eq_none (by rw [yaF]; omega)]
def ycb (l : List Int) : List (Int × Int) × Int := if yaw l = 0 then (wat (l.map Int.toNat) 16 0, 0) else ([], yaw l)
theorem yf5 (k : IntKind) (a b : Int) : ∀ (L : List (Int × Int)) (s : Nat), s < L.length → ((ybi k L).set (s * 2) (.int k a)).set (s * 2 + 1) (.int k b) = ybi k (L.set s (a, b))
 | r :: t, 0, _ => rfl
 | r :: t, s + 1, h => by
  have ih := yf5 k a b t s (by simpa using h)
  rw [show (s + 1) * 2 = s * 2 + 1 + 1 from by omega, ybL, List.set_cons_succ, List.set_cons_succ, List.set_cons_succ, List.set_cons_succ, ih, List.set_cons_succ, ybL]
theorem pairs_zero (n : Nat) : madeCells #[.int .i64 0, .int .i64 0] (n * 2) = (ybi .i64 (List.replicate n (0, 0))).toArray := by
 have h : ybi .i64 (List.replicate n (0, 0)) = List.replicate (n * 2) (.int .i64 0) := by
  induction n with
  | zero => rfl
  | succ n ih =>
   rw [List.replicate_succ, ybL, ih, show (n + 1) * 2 = n * 2 + 1 + 1 from by omega, List.replicate_succ, List.replicate_succ]
 rw [h]
 apply Array.ext'
 apply List.ext_getElem?
 intro j
 by_cases hj : j < n * 2
 ·rcases Nat.mod_two_eq_zero_or_one j with e | e <;> simp [madeCells, hj, e]
 ·simp [madeCells, hj]
theorem field_info : (Tryz.prog.info? 100).map (fun i => (i.zero, i.size, i.bytes)) = some (some (.agg #[.int .i64 0, .int .i64 0]), 2, 16) := by kernel_rfl
theorem mk_fields (n : Nat) (h : n ≤ 1000000) (w : World) : (Instr.makeSlice 94 (.int .i64 (n : Int)) (.int .i64 (n : Int))).run Tryz.prog w = .ok (.slice (some ⟨w.heap.size, 0, none⟩) n n) (w.alloc (.cells (ybi .i64 (List.replicate n (0, 0))).toArray 100)) := by
 obtain ⟨i0, hi, hz0, hz1, hz2⟩ : ∃ i0, Tryz.prog.info? 100 = some i0 ∧ i0.zero = some (.agg #[.int .i64 0, .int .i64 0]) ∧ i0.size = 2 ∧ i0.bytes = 16 := by
  have h := field_info
  cases hi : Tryz.prog.info? 100 with
  | none => rw [hi] at h; cases h
  | some i0 =>
   rw [hi] at h
   simp only [Option.map_some, Option.some.injEq, Prod.mk.injEq] at h
   exact ⟨i0, rfl, h.1, h.2.1, h.2.2⟩
 have hr := run_make (P := Tryz.prog) w 94 100 i0 _ Tryz.underlying94 hi hz0 .i64 .i64 n n (by omega) (Int.le_refl _) (by rw [hz2]; omega) (by omega)
 simp only [Int.toNat_natCast, hz1] at hr
 rw [hr]
 show Result.ok _ (w.alloc (.cells (madeCells #[.int .i64 0, .int .i64 0] (n * 2)) 100)) = _
 rw [pairs_zero]
theorem wat_store {W : World} {g : Nat} {ls : List Nat} {n s : Nat} (hB : Blk W g 100 (ybi .i64 (wat ls n s)).toArray) (hs : s < ls.length) (h : ls.getD s 0 = n) (hn : 0 < n) :
  (∃ a b, W.cell? ⟨g, s * 2, none⟩ = some (.int .i64 a) ∧ W.cell? ⟨g, s * 2 + 1, none⟩ = some (.int .i64 b)) ∧ W.frozen? ⟨g, s * 2, none⟩ = false ∧ W.frozen? ⟨g, s * 2 + 1, none⟩ = false ∧
   Blk ((W.setCell ⟨g, s * 2, none⟩ (.int .i64 ((ybr ls n s : Nat) : Int))).setCell ⟨g, s * 2 + 1, none⟩ (.int .i64 (n : Int))) g 100 (ybi .i64 (wat ls n (s + 1))).toArray := by
 have hl : s < (wat ls n s).length := by rw [yaF]; exact hs
 refine ⟨⟨(wat ls n s)[s].1, (wat ls n s)[s].2, ?_, ?_⟩, hB.frozen _, hB.frozen _, ?_⟩
 ·rw [hB.cell, List.getElem?_toArray]
  exact ydx .i64 _ s hl
 ·rw [hB.cell, List.getElem?_toArray]
  exact ydm .i64 _ s hl
 ·have h2 := (hB.set_ (s * 2) (.int .i64 ((ybr ls n s : Nat) : Int))).set_ (s * 2 + 1) (.int .i64 (n : Int))
  rw [List.setIfInBounds_toArray, List.setIfInBounds_toArray, yf5 .i64 _ _ _ s hl, wat_set ls n s hs h hn] at h2
  exact h2
theorem cpos_le {ls : List Nat} (n s : Nat) : cpos ls n s ≤ call ls := wsum_le ls 0 fun j hj hp => by
 simp only [Bool.and_eq_true] at hp
 exact hp.1
theorem yhq : ∀ (l : List Int), call (l.map Int.toNat) = yap l := by
 have h : ∀ (l : List Int) (i : Nat), wsum (fun _ x => decide (0 < x)) i (l.map Int.toNat) = yap l := by
  intro l
  induction l with
  | nil => intro i; rfl
  | cons x t ih =>
   intro i
   show (if decide (0 < x.toNat) = true then 2 ^ (15 - x.toNat) else 0) + wsum _ (i + 1) (t.map Int.toNat) = (if 0 < x then 2 ^ (15 - x.toNat) else 0) + yap t
   rw [ih (i + 1)]
   congr 1
   by_cases h : 0 < x
   ·rw [if_pos h, if_pos (by simp; omega)]
   ·rw [if_neg h, if_neg (by simp; omega)]
 exact fun l => h l 0
theorem ycp {l : List Int} (h : yaw l = 0) : l.length ≤ 257 ∧ ydv l = true ∧ call (l.map Int.toNat) ≤ 32768 := by
 unfold yaw at h
 by_cases h1 : 257 < l.length
 ·rw [if_pos h1] at h; cases h
 ·rw [if_neg h1] at h
  by_cases h2 : sumF l = 0 ∨ sumF l = 32768 ∨ ((yau l : Int) = 1 ∧ sumF l = 16384)
  ·unfold sumF at h2
   by_cases hg : ydv l = true
   ·rw [if_pos hg] at h2
    refine ⟨by omega, hg, ?_⟩
    rw [yhq]
    omega
   ·rw [if_neg hg] at h2
    omega
  ·rw [if_neg h2] at h; cases h
set_option maxRecDepth 100000 in
set_option maxHeartbeats 16000000 in
theorem cref_words_any (l : List Int) (A : Option Addr) (n c : Nat) (w : World) (hm : n ≤ 1000000) (hr : Reads w w.heap.size 1 A n (ints l)) :
  Calls Tryz.prog 74 #[.slice A n c] w fun e w' => ∃ A' c', e = .returned (.tuple #[.slice A' (ycb l).1.length c', .int .i64 (ycb l).2]) ∧ (ycb l).1.length ≤ c' ∧ Reads w' w'.heap.size 2 A' (ycb l).1.length (ybi .i64 (ycb l).1) ∧ Below w.heap.size w w' := by
 have el : l.length = n := by have := hr.1; rw [yab] at this; omega
 have Hchk := Lib.hid (lref_check_any l A n c w hm hr)
 obtain ⟨F, hF⟩ : ∃ F, ycb l = F := ⟨_, rfl⟩
 rw [hF]
 unfold ycb at hF
 by_cases h0 : yaw l = 0
 ·rw [if_pos h0] at hF
  rw [h0] at Hchk
  obtain ⟨hl, hg, hca⟩ := ycp h0
  have Hc1 : Hid (0 < n → ∃ b off, A = some ⟨b, off, none⟩ ∧ ∀ wr, Below w.heap.size w wr → ∀ k, (hk : k < l.length) → wr.cell? ⟨b, off + k, none⟩ = some (.int .i64 l[k])) := Lib.hid fun h => by
   obtain ⟨b, off, e, hb, hc⟩ := hr.2 h
   exact ⟨b, off, e, fun wr hw k hk => (hw.cell (p := ⟨b, off + k, none⟩) hb).trans (hc k _ (yai l k hk))⟩
  obtain ⟨ls, hls⟩ : ∃ ls, l.map Int.toNat = ls := ⟨_, rfl⟩
  have hlsn : ls.length = n := by rw [← hls, List.length_map, el]
  have Hls : Hid (∀ k (hk : k < l.length) (hk2 : k < ls.length), (ls[k] : Int) = l[k] ∧ ls[k] ≤ 15) := Lib.hid fun k hk hk2 => by
   have := yaI hg k hk
   subst hls
   rw [List.getElem_map]
   omega
  rw [hls] at hF hca
  have Hca := Lib.hid hca
  have Hel := Lib.hid el
  have Hln := Lib.hid hlsn
  have hmk := fun W => mk_fields n hm W
  rw [← hlsn, ← wat_zero] at hmk
  rw [hlsn] at hmk
  have Hf := Lib.hid hF
  have hni : (n : Int) ≤ 257 := by omega
  have Hz : Hid (cpos ls 1 0 = 0) := Lib.hid (by rw [← yc6 0 ls.length (Nat.le_refl _)]; exact yc7 _)
  clear hr hF h0 hg hca hls el hl hlsn
  go_enter Tryz.func74, Tryz.ntmps74
  go_wp2_with (go_at_call 111; refine Hchk.out.mono ?_; rintro e w1 ⟨rfl, rfl⟩)
  have HB0 : Hid (Blk (w1.alloc (.cells (ybi .i64 (wat ls 1 0)).toArray 100)) w1.heap.size 100 (ybi .i64 (wat ls 1 0)).toArray) := Lib.hid (Blk.new _ _ _)
  have HG0 : Hid (w1.grownBy (w1.alloc (.cells (ybi .i64 (wat ls 1 0)).toArray 100)) (some w1.heap.size)) := Lib.hid (ydP (ydq _ _) _)
  have Hpb : Hid (∀ X Y N s : Nat, Y ≤ 15 → X * 2 ^ (15 - Y) = cpos ls N s → X ≤ 32768) := Lib.hid fun X Y N s hY h => by
   have h1 := cpos_le (ls := ls) N s
   have h2 := Hca.out
   have h3 : 0 < (2 : Nat) ^ (15 - Y) := Nat.pow_pos (by omega)
   have h4 : X * 1 ≤ X * 2 ^ (15 - Y) := Nat.mul_le_mul_left X h3
   omega
  generalize w1.alloc (.cells (ybi .i64 (wat ls 1 0)).toArray 100) = wz at *
  clear hmk
  go_loopw [6, 7, 8, 9] (fun nx la nn ss wr => ∃ (N X Y : Nat), 1 ≤ N ∧ N ≤ 16 ∧ Y < N ∧ nx = .int .i64 X ∧ la = .int .i64 Y ∧ nn = .int .i64 N ∧ Hid (X * 2 ^ (15 - Y) = cpos ls N 0) ∧ Hid (Blk wr w1.heap.size 100 (ybi .i64 (wat ls N 0)).toArray) ∧ Hid (w1.grownBy wr (some w1.heap.size))) (fun _ _ nn _ _ => 17 - (intOf nn).toNat)
  case atStart => exact ⟨1, 0, 0, by omega, by omega, by omega, rfl, rfl, rfl, Lib.hid (by simp [Hz.out]), HB0, HG0⟩
  case round =>
   obtain ⟨N, X, Y, hN1, hN2, hY, rfl, rfl, rfl, HX, HB, HG⟩ := hrel
   clear HB0 HG0
   by_cases hlt : N ≤ 15
   ·have hNz : (N : Int) ≤ 15 := by omega
    go_wp2
    go_loopw [6, 7, 9] (fun nx la ss wr => ∃ (s X Y : Nat), s ≤ n ∧ Y ≤ N ∧ nx = .int .i64 X ∧ la = .int .i64 Y ∧ ss = .int .i64 s ∧ Hid (X * 2 ^ (15 - Y) = cpos ls N s) ∧ Hid (Blk wr w1.heap.size 100 (ybi .i64 (wat ls N s)).toArray) ∧ Hid (w1.grownBy wr (some w1.heap.size))) (fun _ _ ss _ => n - (intOf ss).toNat)
    case atStart => exact ⟨0, X, Y, by omega, by omega, rfl, rfl, rfl, HX, HB, HG⟩
    case round =>
     obtain ⟨s, X, Y, hs, hY2, rfl, rfl, rfl, HX2, HB2, HG2⟩ := hrel
     clear HX HB HG
     by_cases hst : s < n
     ·have hsz : (0 : Int) ≤ (s : Int) ∧ (s : Int) < (n : Int) := by omega
      have hsl : s < l.length := by rw [Hel.out]; exact hst
      have hsn : s < ls.length := by rw [Hln.out]; exact hst
      obtain ⟨b1, o1, rfl, hcell⟩ := Hc1.out (by omega)
      have x1 := hcell wr (ydH HG2.out (Nat.le_refl _) (Nat.le_refl _)) s hsl
      obtain ⟨hv, hv2⟩ := Hls.out s hsl hsn
      clear hcell
      rw [← hv] at x1
      have hgd : ls.getD s 0 = ls[s] := by rw [List.getD_eq_getElem?_getD, List.getElem?_eq_getElem hsn]; rfl
      by_cases hne : ls[s] = N
      ·have hbe : ((ls[s] : Int) == (N : Int)) = true := by simp; omega
       have hbn : ((ls[s] : Int) != (N : Int)) = false := by simp; omega
       have hie : (ls[s] : Int) = (N : Int) := by omega
       rw [hie] at x1
       have hgN : ls.getD s 0 = N := by rw [hgd, hne]
       have Hstep := Lib.hid (yhc N s hsn hne (by omega))
       have Hw := Lib.hid fun W hB => wat_store (W := W) (g := w1.heap.size) hB hsn hgN (by omega)
       clear hbe hbn hie hgd hne hv hv2
       go_wp2
       go_loopw [6, 7] (fun nx la W => ∃ X Y : Nat, Y ≤ N ∧ nx = .int .i64 X ∧ la = .int .i64 Y ∧ Hid (X * 2 ^ (15 - Y) = cpos ls N s) ∧ Hid (Blk W w1.heap.size 100 (ybi .i64 (wat ls N s)).toArray) ∧ Hid (w1.grownBy W (some w1.heap.size))) (fun _ la _ => N - (intOf la).toNat)
       case atStart => exact ⟨X, Y, hY2, rfl, rfl, HX2, HB2, HG2⟩
       case round =>
        obtain ⟨X, Y, hY3, rfl, rfl, HX3, HB3, HG3⟩ := hrel
        clear HX2 HB2 HG2
        have hxb := Hpb.out X Y N s (by omega) HX3.out
        by_cases hYN : Y < N
        ·have hYz : (Y : Int) < (N : Int) := by omega
         have HX4 : Hid (2 * X * 2 ^ (15 - (Y + 1)) = cpos ls N s) := Lib.hid (by
          rw [← HX3.out, show 15 - Y = 15 - (Y + 1) + 1 from by omega, Nat.pow_succ, Nat.mul_comm 2 X, Nat.mul_assoc, Nat.mul_comm 2])
         go_wp2
         go_roundw
         case rel => exact ⟨2 * X, Y + 1, by omega, iv (by omega), iv (by omega), HX4, HB3, HG3⟩
         case measure => simp only [intOf]; omega
        ·have hYz : ¬ (Y : Int) < (N : Int) := by omega
         obtain rfl : Y = N := by omega
         have hX5 : ybr ls Y s = X := by
          unfold ybr
          rw [← HX3.out, Nat.mul_div_cancel _ (Nat.pow_pos (by omega))]
         obtain ⟨⟨a, b, d1, d2⟩, d3, d4, d5⟩ := Hw.out wr HB3.out
         rw [hX5] at d5
         have HB5 := Lib.hid d5
         have HX6 : Hid ((X + 1) * 2 ^ (15 - Y) = cpos ls Y (s + 1)) := Lib.hid (by rw [Hstep.out, ← HX3.out, Nat.add_mul, Nat.one_mul])
         clear d5 hX5 Hw Hstep
         go_wp2
         go_roundw
         case rel => exact ⟨s + 1, X + 1, Y, by omega, by omega, iv (by omega), rfl, iv (by omega), HX6, HB5, Lib.hid (ybg (ybg HG3.out (Or.inl rfl) _) (Or.inl rfl) _)⟩
         case measure => simp only [intOf]; omega
      ·have hbe : ((ls[s] : Int) == (N : Int)) = false := by simp; omega
       have hbn : ((ls[s] : Int) != (N : Int)) = true := by simp; omega
       have hie : ¬ (ls[s] : Int) = (N : Int) := by omega
       have HX6 : Hid (X * 2 ^ (15 - Y) = cpos ls N (s + 1)) := Lib.hid (by rw [ye8 N s fun _ => hne]; exact HX2.out)
       have HB5 : Hid (Blk wr w1.heap.size 100 (ybi .i64 (wat ls N (s + 1))).toArray) := Lib.hid (by rw [wat_skip ls N s (by rw [hgd]; exact hne)]; exact HB2.out)
       clear HX2 HB2 hgd hne hv hv2
       generalize ls[s] = lv at *
       go_wp2
       go_roundw
       case rel => exact ⟨s + 1, X, Y, by omega, hY2, rfl, rfl, iv (by omega), HX6, HB5, HG2⟩
       case measure => simp only [intOf]; omega
     ·obtain rfl : s = n := by omega
      have hsz : ¬ (s : Int) < (s : Int) := by omega
      have HX6 : Hid (X * 2 ^ (15 - Y) = cpos ls (N + 1) 0) := Lib.hid (by rw [← yc6 N s (by rw [Hln.out]; exact Nat.le_refl _)]; exact HX2.out)
      have HB5 : Hid (Blk wr w1.heap.size 100 (ybi .i64 (wat ls (N + 1) 0)).toArray) := Lib.hid (by rw [← wat_next ls N s (by rw [Hln.out]; exact Nat.le_refl _)]; exact HB2.out)
      clear HX2 HB2
      go_wp2
      go_roundw
      case rel => exact ⟨N + 1, X, Y, by omega, by omega, by omega, rfl, rfl, iv (by omega), HX6, HB5, HG2⟩
      case measure => simp only [intOf]; omega
   ·obtain rfl : N = 16 := by omega
    go_wp2
    go_ret2
    rw [← Hf.out]
    refine ⟨some ⟨w1.heap.size, 0, none⟩, n, ?_, ?_, ?_, ydH HG.out (Nat.le_refl _) (Nat.le_refl _)⟩
    ·show _ = Ending.returned (.tuple #[.slice (some ⟨w1.heap.size, 0, none⟩) (wat ls 16 0).length n, .int .i64 0])
     rw [yaF, Hln.out]
     rfl
    ·show (wat ls 16 0).length ≤ n
     rw [yaF, Hln.out]
     exact Nat.le_refl _
    ·refine ⟨by rw [pairs_length], fun _ => ⟨w1.heap.size, 0, rfl, HB.out.lt, fun j u hu => ?_⟩⟩
     rw [Nat.zero_add, HB.out.cell, List.getElem?_toArray]
     exact hu
 ·rw [if_neg h0] at hF
  have Hf := Lib.hid hF
  have hb0 : (yaw l == 0) = false := by simpa using h0
  clear hr hF
  generalize yaw l = E at *
  go_enter Tryz.func74, Tryz.ntmps74
  go_wp2_with (go_at_call 111; refine Hchk.out.mono ?_; rintro e w1 ⟨rfl, rfl⟩)
  go_ret2
  rw [← Hf.out]
  exact ⟨none, 0, rfl, Nat.le_refl _, Reads.none_, Below.refl _ _⟩
def yee (l : List UInt8) (p n : Int) : List UInt8 × Int × Int :=
 if n < 0 then ([], 0, 2) else if (l.length : Int) - p < n then ([], 0, 4) else ((l.drop p.toNat).take n.toNat, p + n, 0)
def yb9 (l : List UInt8) (p k n : Int) : (Int × List UInt8) × Int × Int :=
 if k = 1 then (((ya8 l p 1).1, []), (ya8 l p 1).2.1, (ya8 l p 1).2.2)
 else if k = 2 then (((getF l p).1, []), (getF l p).2.1, (getF l p).2.2)
 else if k = 3 then (((ya8 l p n).1, []), (ya8 l p n).2.1, (ya8 l p n).2.2)
 else if k = 4 then ((0, (yee l p n).1), (yee l p n).2.1, (yee l p n).2.2)
 else if k = 5 then ((0, l.drop p.toNat), l.length, 0)
 else if k = 6 then (if p < l.length then ((0, []), 0, 6) else ((0, []), p, 0))
 else ((0, []), 0, 2)
theorem yd7 {l : List UInt8} {p : Int} (h : (getF l p).2.2 = 0) : 0 ≤ p ∧ p < (getF l p).2.1 ∧ (getF l p).2.1 ≤ l.length ∧ 0 ≤ (getF l p).1 ∧ (getF l p).1 < 9223372036854775808 := by
 unfold getF at h ⊢
 by_cases hp : 0 ≤ p ∧ p ≤ l.length
 ·rw [if_pos hp] at h ⊢
  by_cases h2 : (getR (l.drop p.toNat)).2.2 = 0
  ·rw [if_pos h2]
   obtain ⟨m, hm, e1, e2, e3, _⟩ := getR_ok _ h2
   rw [List.length_drop] at e3
   simp only
   omega
  ·rw [if_neg h2] at h
   exact absurd h h2
 ·rw [if_neg hp] at h
  simp at h
theorem yde : (Tryz.prog.info? 3).map (fun i => (i.zero, i.size, i.bytes)) = some (some (.int .i64 0), 1, 8) := by kernel_rfl
theorem gints_zero (n : Nat) : madeCells #[.int .i64 0] n = (ints (List.replicate n 0)).toArray := by
 unfold ints
 apply Array.ext'
 simp [madeCells, Nat.mod_one]
 rw [List.map_const', List.length_range]
theorem ycU (n : Int) (N : Nat) (hN : (N : Int) = n) (h : N ≤ 17592186044416) (w : World) :
  (Instr.makeSlice 28 (.int .i64 n) (.int .i64 n)).run Tryz.prog w = .ok (.slice (some ⟨w.heap.size, 0, none⟩) N N) (w.alloc (.cells (ints (List.replicate N 0)).toArray 3)) := by
 subst hN
 rw [← gints_zero]
 exact run_make_row' (P := Tryz.prog) 28 3 (.int .i64 0) 8 Tryz.underlying28 yde rfl .i64 .i64 N (by omega) (by omega) w
theorem yaM (l : List Int) (k : Nat) (v : Int) : (ints l).toArray.setIfInBounds k (.int .i64 v) = (ints (l.set k v)).toArray := by
 rw [List.setIfInBounds_toArray]
 simp [ints, List.map_set]
theorem ya6 (l : List Int) : ∀ u ∈ ints l, u.oneCell' = true := by
 intro u hu
 obtain ⟨b, _, rfl⟩ := List.mem_map.1 hu
 rfl
theorem yax (a b : List Int) : ints (a ++ b) = ints a ++ ints b := by simp [ints]
theorem gints_take (l : List Int) (k : Nat) : (ints l).take k = ints (l.take k) := by simp [ints]
theorem gints_drop (l : List Int) (k : Nat) : (ints l).drop k = ints (l.drop k) := by simp [ints]
theorem yat {w : World} {g n : Nat} {t : TypeId} {l : List Int} (h : Blk w g t (ints l).toArray) (hn : l.length = n) : Reads w w.heap.size 1 (some ⟨g, 0, none⟩) n (ints l) :=
 ⟨by rw [yab]; omega, fun _ => ⟨g, 0, rfl, h.lt, fun j u hu => by rw [Nat.zero_add, h.cell]; simpa using hu⟩⟩
theorem yaN {w : World} {g : Nat} {t : TypeId} {l : List Int} (h : Blk w g t (ints l).toArray) (k : Nat) (hk : k < l.length) : w.cell? ⟨g, k, none⟩ = some (.int .i64 l[k]) := by rw [h.cell, List.getElem?_toArray, yai l k hk]
theorem yg5 {w : World} {A : Option Addr} {n : Nat} {l : List Int} (hr : Reads w w.heap.size 1 A n (ints l)) (hn : 0 < n) : ∃ b off, A = some ⟨b, off, none⟩ ∧ b < w.heap.size ∧ ∀ W, Below w.heap.size w W → ∀ k (hk : k < l.length), W.cell? ⟨b, off + k, none⟩ = some (.int .i64 l[k]) := by
 obtain ⟨b, off, e, hb, hc⟩ := hr.2 hn
 exact ⟨b, off, e, hb, fun W hW k hk => (hW.cell (p := ⟨b, off + k, none⟩) hb).trans (hc k _ (yai l k hk))⟩
theorem Reads.upto {w w' : World} {size n : Nat} {A : Option Addr} {xs : List Value} (h : Reads w w.heap.size size A n xs) (hb : Below w.heap.size w w') : Reads w' w'.heap.size size A n xs := (h.below hb).more hb.size
def yfW (w w' : World) (e : Ending) (F : List Int × Int) : Prop := ∃ A' c', e = .returned (.tuple #[.slice A' F.1.length c', .int .i64 F.2]) ∧ F.1.length ≤ c' ∧ Reads w' w'.heap.size 1 A' F.1.length (ints F.1) ∧ Below w.heap.size w w'
theorem yf9 {w w' : World} {E : Int} (hb : Below w.heap.size w w') : yfW w w' (.returned (.tuple #[.slice none 0 0, .int .i64 E])) ([], E) := ⟨none, 0, rfl, Nat.le_refl _, Reads.none_, hb⟩
theorem yh7 {w w' : World} {l : List Int} {A : Option Addr} {k c : Nat} (hl : l.length = k) (hc : k ≤ c) (hr : Reads w' w'.heap.size 1 A k (ints l)) (hb : Below w.heap.size w w') : yfW w w' (.returned (.tuple #[.slice A k c, .int .i64 0])) (l, 0) := by
 subst hl
 exact ⟨A, c, rfl, hc, hr, hb⟩
theorem lpost_blk {w w' : World} {l : List Int} {g k : Nat} (hl : l.length = k) (hB : Blk w' g 3 (ints l).toArray) (hb : Below w.heap.size w w') : yfW w w' (.returned (.tuple #[.slice (some ⟨g, 0, none⟩) k k, .int .i64 0])) (l, 0) := yh7 hl (Nat.le_refl _) (yat hB hl) hb
theorem ycd {N : Nat} (W : World) (x : Int) (h : N ≤ W.heap.size) : (W.alloc (.cells #[.int .i64 x] 3)).ownsRow N 3 1 (.slice (some ⟨W.heap.size, 0, none⟩) 1 1) 1 (ints [x]) :=
 ⟨rfl, Or.inr ⟨W.heap.size, 1, #[.int .i64 x], rfl, h, Blk.new W _ _, Nat.le_refl _, by unfold maxLen; omega, rfl, rfl⟩⟩
def knum (row : List Nat) (sm : Nat → Nat → Bool) : Nat → Nat → Nat
 | 0 => fun _ => 0
 | i + 1 => fun p => if i + 1 < row.length ∧ p = row.getD (i + 1) 0 then knum row sm i (row.getD i 0) + (if sm (row.getD i 0) (row.getD (i + 1) 0) = true then 0 else 1) else knum row sm i p
def kN (row : List Nat) (sm : Nat → Nat → Bool) : Nat → Nat
 | 0 => 0
 | i + 1 => kN row sm i + (if sm (row.getD i 0) (row.getD (i + 1) 0) = true then 0 else 1)
theorem yeI {l : List Nat} (k : Nat) (hk : k < l.length) : l.getD k 0 = l[k] := by rw [List.getD_eq_getElem?_getD, List.getElem?_eq_getElem hk]; rfl
theorem knum_at {row : List Nat} (hn : row.Nodup) (sm : Nat → Nat → Bool) : ∀ (i j : Nat) (hj : j < row.length), j ≤ i → knum row sm i row[j] = kN row sm j
 | 0, j, hj, h => by
  obtain rfl : j = 0 := by omega
  rfl
 | i + 1, j, hj, h => by
  show (if i + 1 < row.length ∧ row[j] = row.getD (i + 1) 0 then knum row sm i (row.getD i 0) + (if sm (row.getD i 0) (row.getD (i + 1) 0) = true then 0 else 1) else knum row sm i row[j]) = _
  by_cases e : j = i + 1
  ·subst e
   rw [if_pos ⟨hj, (yeI _ hj).symm⟩, yeI i (by omega), knum_at hn sm i i (by omega) (Nat.le_refl _)]
   show _ = kN row sm i + _
   rw [yeI i (by omega)]
  ·rw [if_neg ?_, knum_at hn sm i j hj (by omega)]
   rintro ⟨h1, h2⟩
   rw [yeI _ h1] at h2
   exact e (ybn hn hj h1 h2)
theorem kN_le (row : List Nat) (sm : Nat → Nat → Bool) : ∀ i, kN row sm i ≤ i
 | 0 => Nat.le_refl _
 | i + 1 => by
  have := kN_le row sm i
  show kN row sm i + _ ≤ _
  split <;> omega
theorem yhC (row : List Nat) (sm : Nat → Nat → Bool) (i : Nat) : ∀ d, kN row sm i ≤ kN row sm (i + d)
 | 0 => Nat.le_refl _
 | d + 1 => by
  have := yhC row sm i d
  show _ ≤ kN row sm (i + d) + _
  omega
def pre (s : List UInt8) (h p : Nat) : List UInt8 := (s.drop p).take h
theorem pre_len (s : List UInt8) (h p : Nat) : (pre s h p).length = min h (s.length - p) := by
 unfold pre
 rw [List.length_take, List.length_drop]
theorem pre_room {s : List UInt8} {h p q : Nat} (hp : p ≤ s.length) (hq : q ≤ s.length) (hne : p ≠ q) (he : pre s h p = pre s h q) : p + h ≤ s.length ∧ q + h ≤ s.length := by
 have := congrArg List.length he
 rw [pre_len, pre_len] at this
 omega
theorem yfb : ∀ (h k : Nat) (x y : List UInt8), Op.bytesLess (x.take (h + k)) (y.take (h + k)) = true ↔ Op.bytesLess (x.take h) (y.take h) = true ∨ (x.take h = y.take h ∧ Op.bytesLess ((x.drop h).take k) ((y.drop h).take k) = true)
 | 0, k, x, y => by
  rw [Nat.zero_add, List.take_zero, List.take_zero, ycz]
  simp
 | h + 1, k, [], [] => by simp [ycz]
 | h + 1, k, [], b :: y => by
  rw [show h + 1 + k = (h + k) + 1 from by omega]
  simp [Op.bytesLess]
 | h + 1, k, a :: x, [] => by
  simp [ycz]
 | h + 1, k, a :: x, b :: y => by
  rw [show h + 1 + k = (h + k) + 1 from by omega]
  simp only [List.take_succ_cons, List.drop_succ_cons]
  rw [ydu, ydu, yfb h k x y]
  constructor
  ·rintro (h1 | ⟨rfl, h1 | ⟨h2, h3⟩⟩)
   ·exact Or.inl (Or.inl h1)
   ·exact Or.inl (Or.inr ⟨rfl, h1⟩)
   ·exact Or.inr ⟨by rw [h2], h3⟩
  ·rintro ((h1 | ⟨rfl, h1⟩) | ⟨h1, h2⟩)
   ·exact Or.inl h1
   ·exact Or.inr ⟨rfl, Or.inl h1⟩
   ·injection h1 with h3 h4
    exact Or.inr ⟨h3, Or.inr ⟨h4, h2⟩⟩
theorem pre_less (s : List UInt8) (h k p q : Nat) : Op.bytesLess (pre s (h + k) p) (pre s (h + k) q) = true ↔ Op.bytesLess (pre s h p) (pre s h q) = true ∨ (pre s h p = pre s h q ∧ Op.bytesLess (pre s k (p + h)) (pre s k (q + h)) = true) := by
 unfold pre
 rw [yfb, List.drop_drop, List.drop_drop]
theorem pre_add (s : List UInt8) (h k p : Nat) : pre s (h + k) p = pre s h p ++ pre s k (p + h) := by
 unfold pre
 rw [List.take_add, List.drop_drop]
theorem pre_more {s : List UInt8} {h k p q : Nat} (h1 : pre s h p = pre s h q) (h2 : pre s k (p + h) = pre s k (q + h)) : pre s (h + k) p = pre s (h + k) q := by
 rw [pre_add, pre_add, h1, h2]
theorem pre_fst {s : List UInt8} {h k p q : Nat} (h1 : pre s (h + k) p = pre s (h + k) q) : pre s h p = pre s h q := by
 have := congrArg (List.take h) h1
 unfold pre at this ⊢
 rwa [List.take_take, List.take_take, Nat.min_eq_left (by omega)] at this
theorem pre_snd {s : List UInt8} {h k p q : Nat} (h1 : pre s (h + k) p = pre s (h + k) q) : pre s k (p + h) = pre s k (q + h) := by
 have h2 := pre_fst h1
 rw [pre_add, pre_add, h2] at h1
 exact List.append_cancel_left h1
theorem pre_slt {s : List UInt8} {h p q : Nat} (h1 : Op.bytesLess (pre s h p) (pre s h q) = true) : slt s p q = true := by
 have := (pre_less s h s.length p q).2 (Or.inl h1)
 unfold pre at this
 rwa [List.take_of_length_le (by rw [List.length_drop]; omega), List.take_of_length_le (by rw [List.length_drop]; omega)] at this
theorem ygG {s : List UInt8} {h p q : Nat} (h1 : ¬ Op.bytesLess (pre s h p) (pre s h q) = true) (h2 : ¬ Op.bytesLess (pre s h q) (pre s h p) = true) : pre s h p = pre s h q := by
 by_cases e : pre s h p = pre s h q
 ·exact e
 ·rcases yg9 _ _ e with h | h
  ·exact absurd h h1
  ·exact absurd h h2
structure SE (s : List UInt8) (h : Nat) (row : List Nat) (kd : Nat → Nat) : Prop where
 len : row.length = s.length + 1
 nodup : row.Nodup
 mem : ∀ p, p ∈ row ↔ p ≤ s.length
 lt : ∀ p q, p ≤ s.length → q ≤ s.length → (kd p < kd q ↔ Op.bytesLess (pre s h p) (pre s h q) = true)
 up : ∀ i j (hj : j < row.length) (hij : i < j), kd row[i] ≤ kd row[j]
 first : ∀ (h : 0 < row.length), kd row[0] = 0
 step : ∀ i (hi : i + 1 < row.length), kd row[i + 1] ≤ kd row[i] + 1
theorem SE.eq {s : List UInt8} {h : Nat} {row : List Nat} {kd : Nat → Nat} (S : SE s h row kd) (p q : Nat) (hp : p ≤ s.length) (hq : q ≤ s.length) : kd p = kd q ↔ pre s h p = pre s h q := by
 constructor
 ·intro e
  refine ygG (fun h1 => ?_) (fun h1 => ?_)
  ·have := (S.lt p q hp hq).2 h1
   omega
  ·have := (S.lt q p hq hp).2 h1
   omega
 ·intro e
  have h1 : ¬ kd p < kd q := fun h1 => by
   have := (S.lt p q hp hq).1 h1
   rw [e, ybO] at this
   cases this
  have h2 : ¬ kd q < kd p := fun h1 => by
   have := (S.lt q p hq hp).1 h1
   rw [e, ybO] at this
   cases this
  omega
theorem SE.le {s : List UInt8} {h : Nat} {row : List Nat} {kd : Nat → Nat} (S : SE s h row kd) (i : Nat) (hi : i < row.length) : kd row[i] ≤ i := by
 induction i with
 | zero => exact Nat.le_of_eq (S.first hi)
 | succ i ih =>
  have := ih (by omega)
  have := S.step i hi
  omega
theorem SE.bound {s : List UInt8} {h : Nat} {row : List Nat} {kd : Nat → Nat} (S : SE s h row kd) (p : Nat) (hp : p ≤ s.length) : kd p ≤ s.length := by
 obtain ⟨i, hi, rfl⟩ := List.getElem_of_mem ((S.mem p).2 hp)
 have := S.le i hi
 have := S.len
 omega
theorem SE.room {s : List UInt8} {h : Nat} {row : List Nat} {kd : Nat → Nat} (S : SE s h row kd) (p q : Nat) (hp : p ≤ s.length) (hq : q ≤ s.length) (hne : p ≠ q) (he : kd p = kd q) : p + h ≤ s.length ∧ q + h ≤ s.length :=
 pre_room hp hq hne ((S.eq p q hp hq).1 he)
theorem SE.apart {s : List UInt8} {h : Nat} {row : List Nat} {kd : Nat → Nat} (S : SE s h row kd) (ha : kd (row.getD s.length 0) = s.length) : row = sarr s := by
 have hl := S.len
 rw [yeI _ (by omega)] at ha
 have hge : ∀ d (hd : d ≤ s.length), s.length - d ≤ kd (row[s.length - d]'(by omega)) := by
  intro d
  induction d with
  | zero => intro _; exact Nat.le_of_eq ha.symm
  | succ d ih =>
   intro hd
   have h1 := ih (by omega)
   have h2 := S.step (s.length - (d + 1)) (by omega)
   simp only [show s.length - (d + 1) + 1 = s.length - d from by omega] at h2
   omega
 have hk : ∀ i (hi : i < row.length), kd row[i] = i := fun i hi => by
  have h1 := hge (s.length - i) (by omega)
  simp only [show s.length - (s.length - i) = i from by omega] at h1
  have h2 := S.le i hi
  omega
 refine slay_unique (ycx s) row (ssort_of fun i j hi hj hij => ?_) fun p => by rw [S.mem]; omega
 have hi' := (S.mem _).1 (List.getElem_mem hi)
 have hj' := (S.mem _).1 (List.getElem_mem hj)
 exact pre_slt ((S.lt _ _ hi' hj').1 (by rw [hk i hi, hk j hj]; exact hij))
theorem SE.more {s : List UInt8} {h : Nat} {row : List Nat} {kd : Nat → Nat} (S : SE s h row kd) (ha : kd (row.getD s.length 0) ≠ s.length) : h < s.length := by
 have hl := S.len
 rw [yeI _ (by omega)] at ha
 by_cases hex : ∃ i, ∃ hi : i + 1 < row.length, kd row[i] = kd row[i + 1]
 ·obtain ⟨i, hi, he⟩ := hex
  have h1 := (S.mem _).1 (List.getElem_mem (show i < row.length by omega))
  have h2 := (S.mem _).1 (List.getElem_mem hi)
  have hne : row[i] ≠ row[i + 1] := fun e => by
   have := ybn S.nodup (by omega) hi e
   omega
  have := S.room _ _ h1 h2 hne he
  omega
 ·exfalso
  apply ha
  have hk : ∀ i (hi : i < row.length), kd row[i] = i := by
   intro i
   induction i with
   | zero => intro hi; exact S.first hi
   | succ i ih =>
    intro hi
    have h1 := ih (by omega)
    have h2 := S.step i hi
    have h3 := S.up i (i + 1) hi (by omega)
    have h4 : kd row[i] ≠ kd row[i + 1] := fun e => hex ⟨i, hi, e⟩
    omega
  exact hk _ _
theorem se_of {s : List UInt8} {h : Nat} {row : List Nat} {sm : Nat → Nat → Bool} (hl : row.length = s.length + 1) (hn : row.Nodup) (hm : ∀ p, p ∈ row ↔ p ≤ s.length)
  (hs : row.Pairwise fun p q => Op.bytesLess (pre s h q) (pre s h p) = false)
  (hsm : ∀ i (hi : i + 1 < row.length), sm row[i] row[i + 1] = true ↔ pre s h row[i] = pre s h row[i + 1]) : SE s h row (knum row sm s.length) := by
 have hk : ∀ j (hj : j < row.length), knum row sm s.length row[j] = kN row sm j := fun j hj => knum_at hn sm _ j hj (by omega)
 have hsrt : ∀ i j (hi : i < row.length) (hj : j < row.length), i < j → Op.bytesLess (pre s h row[j]) (pre s h row[i]) = false := fun i j hi hj hij => List.pairwise_iff_getElem.1 hs i j hi hj hij
 have e1 : ∀ i d (hi : i + d < row.length), kN row sm i = kN row sm (i + d) → pre s h row[i] = pre s h row[i + d] := by
  intro i d
  induction d with
  | zero => intro _ _; rfl
  | succ d ih =>
   intro hi he
   have h1 := yhC row sm i d
   have h2 : kN row sm (i + (d + 1)) = kN row sm (i + d) + (if sm (row.getD (i + d) 0) (row.getD (i + d + 1) 0) = true then 0 else 1) := rfl
   rw [yeI _ (show i + d < row.length by omega), yeI _ (show i + d + 1 < row.length by omega)] at h2
   have h3 : sm row[i + d] row[i + d + 1] = true := by
    by_cases h3 : sm row[i + d] row[i + d + 1] = true
    ·exact h3
    ·rw [if_neg h3] at h2
     omega
   rw [if_pos h3] at h2
   rw [ih (by omega) (by omega)]
   exact (hsm (i + d) (by omega)).1 h3
 have e2 : ∀ i d (hi : i + d < row.length), pre s h row[i] = pre s h row[i + d] → kN row sm i = kN row sm (i + d) := by
  intro i d
  induction d with
  | zero => intro _ _; rfl
  | succ d ih =>
   intro hi he
   have hd : d = 0 ∨ 0 < d := by omega
   have h1 : pre s h row[i] = pre s h row[i + d] := by
    rcases hd with rfl | hd
    ·rfl
    ·have h1 := hsrt i (i + d) (by omega) (by omega) (by omega)
     have h2 := hsrt (i + d) (i + (d + 1)) (by omega) hi (by omega)
     rw [← he] at h2
     exact ygG (by rw [h2]; decide) (by rw [h1]; decide)
   have h2 : kN row sm (i + (d + 1)) = kN row sm (i + d) + (if sm (row.getD (i + d) 0) (row.getD (i + d + 1) 0) = true then 0 else 1) := rfl
   rw [yeI _ (show i + d < row.length by omega), yeI _ (show i + d + 1 < row.length by omega), if_pos ((hsm (i + d) (by omega)).2 (h1.symm.trans he))] at h2
   rw [h2, ih (by omega) h1]
   rfl
 refine ⟨hl, hn, hm, fun p q hp hq => ?_, fun i j hj hij => ?_, fun h0 => ?_, fun i hi => ?_⟩
 ·obtain ⟨i, hi, rfl⟩ := List.getElem_of_mem ((hm p).2 hp)
  obtain ⟨j, hj, rfl⟩ := List.getElem_of_mem ((hm q).2 hq)
  rw [hk i hi, hk j hj]
  rcases Nat.lt_trichotomy i j with hij | hij | hij
  ·obtain ⟨d, rfl⟩ : ∃ d, j = i + (d + 1) := ⟨j - i - 1, by omega⟩
   have hmn := yhC row sm i (d + 1)
   constructor
   ·intro h1
    by_cases h2 : Op.bytesLess (pre s h row[i]) (pre s h row[i + (d + 1)]) = true
    ·exact h2
    ·have h3 := hsrt i (i + (d + 1)) hi hj (by omega)
     have := e2 i (d + 1) hj (ygG h2 (by rw [h3]; decide))
     omega
   ·intro h1
    by_cases h2 : kN row sm i = kN row sm (i + (d + 1))
    ·rw [e1 i (d + 1) hj h2, ybO] at h1
     cases h1
    ·omega
  ·subst hij
   rw [ybO]
   simp
  ·obtain ⟨d, rfl⟩ := Nat.exists_eq_add_of_lt hij
   have hmn := yhC row sm j (d + 1)
   have h3 := hsrt j (j + d + 1) hj hi (by omega)
   rw [h3]
   simp only [Bool.false_eq_true, iff_false]
   rw [show j + d + 1 = j + (d + 1) from by omega]
   omega
 ·rw [hk i (by omega), hk j hj]
  obtain ⟨d, rfl⟩ := Nat.exists_eq_add_of_lt hij
  exact yhC row sm i (d + 1)
 ·rw [hk 0 h0]
  rfl
 ·rw [hk _ hi, hk i (by omega)]
  show kN row sm i + _ ≤ _
  split <;> omega
theorem slen_of {l : List Nat} {n : Nat} (hn : l.Nodup) (hm : ∀ p, p ∈ l ↔ p < n) : l.length = n := by
 have : l.Perm (List.range n) := by
  rw [List.perm_iff_count]
  intro p
  rw [hn.count, List.nodup_range.count]
  by_cases h : p < n
  ·rw [if_pos ((hm p).2 h), if_pos (List.mem_range.2 h)]
  ·rw [if_neg fun h2 => h ((hm p).1 h2), if_neg fun h2 => h (List.mem_range.1 h2)]
 have h2 := this.length_eq
 rwa [List.length_range] at h2
def ybf (s : List UInt8) (p : Nat) : Nat := (s.getD p 0).toNat
def frow (s : List UInt8) (M : Nat) : List Nat := s.length :: bks (ybf s) (List.range s.length) M
def ycM (s : List UInt8) (a b : Nat) : Bool := decide (a < s.length) && (s.getD a 0 == s.getD b 0)
theorem pre_one {s : List UInt8} {p : Nat} (h : p < s.length) : pre s 1 p = [s[p]] := by
 unfold pre
 rw [List.drop_eq_getElem_cons h]
 rfl
theorem pre_end (s : List UInt8) (h : Nat) : pre s h s.length = [] := by
 unfold pre
 rw [List.drop_length]
 simp
theorem fkey_at {s : List UInt8} {p : Nat} (h : p < s.length) : ybf s p = s[p].toNat := by
 unfold ybf
 rw [List.getD_eq_getElem?_getD, List.getElem?_eq_getElem h]
 rfl
theorem yco (s : List UInt8) (M : Nat) (hM : ∀ p ∈ List.range s.length, ybf s p < M) : SE s 1 (frow s M) (knum (frow s M) (ycM s) s.length) := by
 have hmem : ∀ p, p ∈ bks (ybf s) (List.range s.length) M ↔ p < s.length := fun p => by
  rw [bks_mem, List.mem_range]
  exact ⟨fun h => h.1, fun h => ⟨h, hM p (List.mem_range.2 h)⟩⟩
 have hp : (bks (ybf s) (List.range s.length) M).Pairwise fun p q => ybf s p < ybf s q ∨ (ybf s p = ybf s q ∧ p < q) := bks_pair List.pairwise_lt_range M
 have hnd : (bks (ybf s) (List.range s.length) M).Nodup := List.Pairwise.imp (fun {a b} h => by
  rintro rfl
  omega) hp
 have hm : ∀ p, p ∈ frow s M ↔ p ≤ s.length := fun p => by
  unfold frow
  rw [List.mem_cons, hmem]
  omega
 have hn : (frow s M).Nodup := List.nodup_cons.2 ⟨fun h => by have := (hmem _).1 h; omega, hnd⟩
 have hs : (frow s M).Pairwise fun p q => Op.bytesLess (pre s 1 q) (pre s 1 p) = false := by
  refine List.pairwise_cons.2 ⟨fun q hq => by rw [pre_end, ycz], ?_⟩
  refine List.Pairwise.imp_of_mem (fun {a b} ha hb hab => ?_) hp
  have ha' := (hmem a).1 ha
  have hb' := (hmem b).1 hb
  rw [fkey_at ha', fkey_at hb'] at hab
  rw [pre_one ha', pre_one hb']
  cases h : Op.bytesLess [s[b]] [s[a]] with
  | false => rfl
  | true =>
   rw [ydu, ycz] at h
   simp at h
   omega
 refine se_of (slen_of hn fun p => by rw [hm]; omega) hn hm hs fun i hi => ?_
 have h1 := (hm _).1 (List.getElem_mem (show i < (frow s M).length by omega))
 have h2 : (frow s M)[i + 1] < s.length := by
  have := (hm _).1 (List.getElem_mem hi)
  have hne : (frow s M)[i + 1] ≠ s.length := fun e => by
   have h0 : (frow s M)[0]'(by omega) = s.length := rfl
   have := ybn hn hi (show 0 < (frow s M).length by omega) (e.trans h0.symm)
   omega
  omega
 generalize (frow s M)[i] = a at *
 generalize (frow s M)[i + 1] = b at *
 unfold ycM
 rw [Bool.and_eq_true, decide_eq_true_iff, beq_iff_eq]
 rw [pre_one h2]
 by_cases e : a < s.length
 ·rw [pre_one e, List.getD_eq_getElem?_getD, List.getElem?_eq_getElem e, List.getD_eq_getElem?_getD, List.getElem?_eq_getElem h2]
  simp [e]
 ·obtain rfl : a = s.length := by omega
  rw [pre_end]
  simp
def ybE (n h : Nat) : List Nat := List.range' (n + 1 - h) h
def yaR (row : List Nat) (h : Nat) : List Nat := (row.filter fun p => decide (h ≤ p)).map fun p => p - h
def ycv (row : List Nat) (n h : Nat) : List Nat := ybE n h ++ yaR row h
def ygB (kd : Nat → Nat) (h a b : Nat) : Bool := (kd a == kd b) && (kd (a + h) == kd (b + h))
theorem ydF (n h p : Nat) (hh : h ≤ n) : p ∈ ybE n h ↔ n < p + h ∧ p ≤ n := by
 unfold ybE
 rw [List.mem_range'_1]
 omega
theorem yek (row : List Nat) (h p : Nat) : p ∈ yaR row h ↔ p + h ∈ row := by
 unfold yaR
 rw [List.mem_map]
 constructor
 ·rintro ⟨q, hq, rfl⟩
  rw [List.mem_filter, decide_eq_true_iff] at hq
  rw [Nat.sub_add_cancel hq.2]
  exact hq.1
 ·intro hp
  exact ⟨p + h, List.mem_filter.2 ⟨hp, by simp⟩, by omega⟩
theorem se_next {s : List UInt8} {h : Nat} {row : List Nat} {kd : Nat → Nat} (S : SE s h row kd) (hh : h ≤ s.length) (h1 : 1 ≤ h) (M : Nat) (hM : ∀ p ∈ ycv row s.length h, kd p < M) :
  SE s (h + h) (bks kd (ycv row s.length h) M) (knum (bks kd (ycv row s.length h) M) (ygB kd h) s.length) := by
 have hm0 : ∀ p, p ∈ ycv row s.length h ↔ p ≤ s.length := fun p => by
  unfold ycv
  rw [List.mem_append, ydF _ _ _ hh, yek, S.mem]
  omega
 have hp0 : (ycv row s.length h).Pairwise fun p q => p ≠ q ∧ (p + h ≤ s.length → q + h ≤ s.length → kd (p + h) ≤ kd (q + h)) := by
  refine List.pairwise_append.2 ⟨?_, ?_, fun a ha b hb => ?_⟩
  ·refine List.Pairwise.imp_of_mem (R := fun a b => a < b) (fun {a b} ha hb hab => ⟨by omega, fun h2 => ?_⟩) List.pairwise_lt_range'
   have := (ydF _ _ _ hh).1 ha
   omega
  ·unfold yaR
   refine List.pairwise_map.2 ?_
   have hrow : row.Pairwise fun p q => p ≠ q ∧ kd p ≤ kd q := List.pairwise_iff_getElem.2 fun i j hi hj hij => ⟨fun e => by have := ybn S.nodup hi hj e; omega, S.up i j hj hij⟩
   refine List.Pairwise.imp_of_mem (fun {a b} ha hb hab => ?_) (List.Pairwise.sublist (List.filter_sublist (p := fun p => decide (h ≤ p))) hrow)
   rw [List.mem_filter, decide_eq_true_iff] at ha hb
   refine ⟨fun e => hab.1 (by omega), fun _ _ => ?_⟩
   rw [Nat.sub_add_cancel ha.2, Nat.sub_add_cancel hb.2]
   exact hab.2
  ·have h2 := (ydF _ _ _ hh).1 ha
   have h3 := (S.mem _).1 ((yek _ _ _).1 hb)
   exact ⟨fun e => by omega, fun h4 => by omega⟩
 have hm : ∀ p, p ∈ bks kd (ycv row s.length h) M ↔ p ≤ s.length := fun p => by
  rw [bks_mem, hm0]
  exact ⟨fun h => h.1, fun h => ⟨h, hM p ((hm0 p).2 h)⟩⟩
 have hp := bks_pair (key := kd) hp0 M
 have hn : (bks kd (ycv row s.length h) M).Nodup := List.Pairwise.imp (fun {a b} h => by
  rintro rfl
  rcases h with h | ⟨_, h, _⟩
  ·omega
  ·exact h rfl) hp
 have hs : (bks kd (ycv row s.length h) M).Pairwise fun p q => Op.bytesLess (pre s (h + h) q) (pre s (h + h) p) = false := by
  refine List.Pairwise.imp_of_mem (fun {a b} ha hb hab => ?_) hp
  have ha' := (hm a).1 ha
  have hb' := (hm b).1 hb
  cases h5 : Op.bytesLess (pre s (h + h) b) (pre s (h + h) a) with
  | false => rfl
  | true =>
   exfalso
   rw [pre_less, ← S.lt b a hb' ha', ← S.eq b a hb' ha'] at h5
   rcases hab with h2 | ⟨h2, h3, h4⟩
   ·rcases h5 with h5 | ⟨h5, _⟩ <;> omega
   ·rcases h5 with h5 | ⟨_, h5⟩
    ·omega
    ·have hr := S.room a b ha' hb' h3 h2
     rw [← S.lt (b + h) (a + h) hr.2 hr.1] at h5
     have := h4 hr.1 hr.2
     omega
 refine se_of (slen_of hn fun p => by rw [hm]; omega) hn hm hs fun i hi => ?_
 have ha := (hm _).1 (List.getElem_mem (show i < (bks kd (ycv row s.length h) M).length by omega))
 have hb := (hm _).1 (List.getElem_mem hi)
 have hne : (bks kd (ycv row s.length h) M)[i] ≠ (bks kd (ycv row s.length h) M)[i + 1] := fun e => by
  have := ybn hn (by omega) hi e
  omega
 generalize (bks kd (ycv row s.length h) M)[i] = a at *
 generalize (bks kd (ycv row s.length h) M)[i + 1] = b at *
 unfold ygB
 rw [Bool.and_eq_true, beq_iff_eq, beq_iff_eq]
 constructor
 ·rintro ⟨h2, h3⟩
  have hr := S.room a b ha hb hne h2
  exact pre_more ((S.eq a b ha hb).1 h2) ((S.eq _ _ hr.1 hr.2).1 h3)
 ·intro h2
  have h3 := pre_fst h2
  have hr := pre_room ha hb hne h3
  exact ⟨(S.eq a b ha hb).2 h3, (S.eq _ _ hr.1 hr.2).2 (pre_snd h2)⟩
def yhn (n k : Nat) : List Int := rng n fun j => if j < k then (j : Int) else 0
theorem supto_zero (n : Nat) : yhn n 0 = List.replicate n 0 := by
 rw [rng_zero]
 exact rng_ext fun j _ => if_neg (by omega)
theorem supto_step (n k : Nat) : (yhn n k).set k (k : Int) = yhn n (k + 1) := by
 refine yhA _ _ fun j _ => ?_
 by_cases e : j = k
 ·subst e
  rw [if_pos rfl, if_pos (by omega)]
 ·rw [if_neg e]
  by_cases h : j < k
  ·rw [if_pos h, if_pos (by omega)]
  ·rw [if_neg h, if_neg (by omega)]
theorem supto_all (n : Nat) : yhn n n = splc (List.range n) := by
 apply List.ext_getElem
 ·rw [yao, List.length_range]
  exact yce _ _
 ·intro j h1 h2
  rw [yey, List.getElem_range]
  have : j < n := by
   have := yce n (fun j => if j < n then (j : Int) else 0)
   have h3 : j < (rng n fun j => if j < n then (j : Int) else 0).length := h1
   omega
  exact (ycJ _ _ _ h1).trans (if_pos this)
set_option maxRecDepth 100000 in
set_option maxHeartbeats 2000000 in
theorem s_upto_any (n : Nat) (w : World) (hm : n ≤ 1000001) :
  Calls Tryz.prog 115 #[.int .i64 (n : Int)] w fun e w' => e = .returned (.slice (some ⟨w.heap.size, 0, none⟩) n n) ∧ Blk w' w.heap.size 3 (ints (splc (List.range n))).toArray ∧ Below w.heap.size w w' := by
 have hni : (n : Int) ≤ 1000001 := by omega
 have hmk := fun w => ycU (n : Int) n rfl (by omega) w
 rw [← supto_zero] at hmk
 have HB0 := Lib.hid (Blk.new w 3 (ints (yhn n 0)).toArray)
 have HO0 := Lib.hid ((Below.refl w.heap.size w).alloc (Nat.le_refl _) (.cells (ints (yhn n 0)).toArray 3))
 have Hset : Hid (∀ k, (ints (yhn n k)).toArray.setIfInBounds k (.int .i64 (k : Int)) = (ints (yhn n (k + 1))).toArray) := Lib.hid fun k => by rw [yaM, supto_step]
 have Hlen : Hid (∀ k, (yhn n k).length = n) := Lib.hid fun k => yce _ _
 have Hall := Lib.hid (supto_all n)
 generalize hg : w.heap.size = g at *
 go_enter Tryz.func115, Tryz.ntmps115
 go_wp2
 go_loopw [9] (fun i wr => ∃ k : Nat, k ≤ n ∧ i = .int .i64 k ∧ Hid (Blk wr g 3 (ints (yhn n k)).toArray) ∧ Hid (Below g w wr)) (fun i _ => n - (intOf i).toNat)
 case atStart => exact ⟨0, by omega, rfl, HB0, HO0⟩
 case round =>
  obtain ⟨k, hk, rfl, HB, HO⟩ := hrel
  clear HB0 HO0 hmk
  by_cases hlt : k < n
  ·have hki : (k : Int) < (n : Int) := by omega
   have x1 := yaN HB.out k (by rw [Hlen.out k]; exact hlt)
   have x2 := HB.out.frozen k
   have hgl := HB.out.lt
   have Hs := Lib.hid (Hset.out k)
   generalize (yhn n k)[k]'(by rw [Hlen.out k]; exact hlt) = v0 at x1
   go_wp2
   go_roundw
   case rel => exact ⟨k + 1, by omega, iv (by omega), Lib.hid (by rw [← Hs.out]; exact HB.out.set_ k _), Lib.hid (HO.out.setCell (p := ⟨g, k, none⟩) (Nat.le_refl _) _)⟩
   case measure => simp only [intOf]; omega
  ·obtain rfl : k = n := by omega
   have hii : ¬ (k : Int) < (k : Int) := by omega
   have HF : Hid (Blk wr g 3 (ints (splc (List.range k))).toArray) := Lib.hid (by rw [← Hall.out]; exact HB.out)
   go_wp2
   go_ret
   exact ⟨rfl, HF.out, HO.out⟩
def KRow (w : World) (k : IntKind) (key : Nat → Nat) (B : Option Addr) (m : Nat) (row : List Nat) : Prop :=
 ∀ p ∈ row, p < m ∧ ∃ b off, B = some ⟨b, off, none⟩ ∧ b < w.heap.size ∧ ∀ W, Below w.heap.size w W → W.cell? ⟨b, off + p, none⟩ = some (.int k (key p : Int))
theorem splc_at (l : List Nat) (i : Nat) (h : i < l.length) : (ints (splc l))[i]? = some (.int .i64 ((l[i] : Nat) : Int)) := by
 rw [yai _ i (by rw [yao]; exact h), yey]
theorem ydO {w : World} {A : Option Addr} {n : Nat} {row : List Nat} (hn : row.length = n) (hr : Reads w w.heap.size 1 A n (ints (splc row))) : ∀ W, Below w.heap.size w W → ∀ k (hk : k < row.length), ∃ b off, A = some ⟨b, off, none⟩ ∧ b < w.heap.size ∧ W.cell? ⟨b, off + k, none⟩ = some (.int .i64 ((row[k] : Nat) : Int)) := fun W hW k hk => by
 obtain ⟨b, off, e, hb, hc⟩ := hr.2 (by omega)
 exact ⟨b, off, e, hb, (hW.cell (p := ⟨b, off + k, none⟩) hb).trans (hc k _ (splc_at row k hk))⟩
theorem KRow.at {w : World} {K : IntKind} {key : Nat → Nat} {B : Option Addr} {m : Nat} {row : List Nat} (h : KRow w K key B m row) (hkey : ∀ p ∈ row, key p ≤ 1000000) : ∀ W, Below w.heap.size w W → ∀ k (hk : k < row.length), row[k] < m ∧ key row[k] ≤ 1000000 ∧ key row[k] ≤ bmax key row row.length ∧ ∃ b off, B = some ⟨b, off, none⟩ ∧ b < w.heap.size ∧ W.cell? ⟨b, off + row[k], none⟩ = some (.int K (key row[k] : Int)) := fun W hW k hk => by
 obtain ⟨h1, b, off, e, hb, hc⟩ := h _ (List.getElem_mem hk)
 exact ⟨h1, hkey _ (List.getElem_mem hk), by have := ygq key row _ (List.getElem_mem hk); omega, b, off, e, hb, hc W hW⟩
theorem bmax_step (key : Nat → Nat) (row : List Nat) (k : Nat) (hk : k < row.length) : bmax key row (k + 1) = max (bmax key row k) (key row[k]) := by
 show max (bmax key row k) (key (row.getD k 0)) = _
 rw [yeI k hk]
set_option maxRecDepth 100000 in
set_option maxHeartbeats 4000000 in
theorem s_sorted_int (row : List Nat) (key : Nat → Nat) (A B : Option Addr) (n c m d : Nat) (w : World) (hn : row.length = n) (hm : n ≤ 1000001) (hkey : ∀ p ∈ row, key p ≤ 1000000) (hr : Reads w w.heap.size 1 A n (ints (splc row))) (hk : KRow w .i64 key B m row) :
  Calls Tryz.prog 118 #[.slice A n c, .slice B m d] w fun e w' => ∃ g M, e = .returned (.slice (some ⟨g, 0, none⟩) n n) ∧ w.heap.size ≤ g ∧ (∀ p ∈ row, key p < M) ∧ Blk w' g 3 (ints (splc (bks key row M))).toArray ∧ Below w.heap.size w w' := by
 have hni : (n : Int) ≤ 1000001 := by omega
 have Hrow := Lib.hid (ydO hn hr)
 have Hkey := Lib.hid (hk.at fun p hp => Nat.le_trans (hkey p hp) (by omega))
 have Hmx := Lib.hid (bmax_le key row 1000000 hkey)
 have Hall := Lib.hid (ygq key row)
 have Hstep := Lib.hid (bmax_step key row)
 have Hn := Lib.hid hn
 have HB0 := Lib.hid (Below.refl w.heap.size w)
 have Hg0 : Hid (∀ W : World, Below w.heap.size w W → w.heap.size ≤ W.heap.size) := Lib.hid fun W h => h.size
 clear hr hk hkey hn
 go_enter Tryz.func118, Tryz.ntmps118
 go_wp2
 go_loop [5, 18] (fun mx i => ∃ k : Nat, k ≤ n ∧ i = .int .i64 k ∧ mx = .int .i64 (bmax key row k : Nat)) (fun _ i => n - (intOf i).toNat)
 case atStart => exact ⟨0, by omega, rfl, rfl⟩
 case round =>
  obtain ⟨k, hk, rfl, rfl⟩ := hrel
  by_cases hlt : k < n
  ·have hki : (0 : Int) ≤ (k : Int) ∧ (k : Int) < (n : Int) := by omega
   have hkl : k < row.length := by rw [Hn.out]; exact hlt
   obtain ⟨b, off, rfl, hbl, x1⟩ := Hrow.out w HB0.out k hkl
   obtain ⟨hp, hx, _, b2, off2, rfl, hbl2, x2⟩ := Hkey.out w HB0.out k hkl
   have Hs := Lib.hid (Hstep.out k hkl)
   generalize row[k] = p at *
   generalize key p = x at *
   generalize bmax key row k = mx at *
   have hpi : (0 : Int) ≤ (p : Int) ∧ (p : Int) < (m : Int) := by omega
   by_cases hgt : mx < x
   ·have hgi : (mx : Int) < (x : Int) := by omega
    go_wp2
    go_round
    case rel => exact ⟨k + 1, by omega, iv (by omega), iv (by rw [Hs.out]; omega)⟩
    case measure => simp only [intOf]; omega
   ·have hgi : ¬ (mx : Int) < (x : Int) := by omega
    go_wp2
    go_round
    case rel => exact ⟨k + 1, by omega, iv (by omega), iv (by rw [Hs.out]; omega)⟩
    case measure => simp only [intOf]; omega
  ·obtain rfl : k = n := by omega
   have hmx := Hmx.out k (by rw [Hn.out]; exact Nat.le_refl _)
   have Hmxn : Hid (bmax key row row.length = bmax key row k) := Lib.hid (by rw [Hn.out])
   generalize hMX : bmax key row k = mx at *
   have hmk := fun w => ycU ((mx : Int) + 2) (mx + 2) (by omega) (by omega) w
   rw [← bn1_zero key row mx] at hmk
   have hmxi : (0 : Int) ≤ (mx : Int) ∧ (mx : Int) ≤ 1000000 := by omega
   have HB1 := Lib.hid (Blk.new w 3 (ints (bn1 key row mx 0)).toArray)
   have HO1 := Lib.hid ((Below.refl w.heap.size w).alloc (Nat.le_refl _) (.cells (ints (bn1 key row mx 0)).toArray 3))
   have hii : ¬ (k : Int) < (k : Int) := by omega
   generalize hg : w.heap.size = g at *
   go_wp2
   clear hmk
   go_loopw [34] (fun i wr => ∃ j : Nat, j ≤ k ∧ i = .int .i64 j ∧ Hid (Blk wr g 3 (ints (bn1 key row mx j)).toArray) ∧ Hid (Below g w wr)) (fun i _ => k - (intOf i).toNat)
   case atStart => exact ⟨0, by omega, rfl, HB1, HO1⟩
   case round =>
    obtain ⟨j, hj, rfl, HB, HO⟩ := hrel
    clear HB1 HO1
    by_cases hlt : j < k
    ·have hki : (0 : Int) ≤ (j : Int) ∧ (j : Int) < (k : Int) := by omega
     have hkl : j < row.length := by rw [Hn.out]; exact hlt
     obtain ⟨b, off, rfl, hbl, x1⟩ := Hrow.out wr HO.out j hkl
     obtain ⟨hp, hx, hxm, b2, off2, rfl, hbl2, x2⟩ := Hkey.out wr HO.out j hkl
     rw [Hmxn.out] at hxm
     have hlen : key row[j] + 1 < (bn1 key row mx j).length := by rw [bn1_len]; omega
     have x3 := yaN HB.out (key row[j] + 1) hlen
     rw [bn1_get] at x3
     have x4 := HB.out.frozen (key row[j] + 1)
     have hc := Nat.le_trans (ycm key row j (key row[j])) (bcnt_le key row (key row[j]))
     rw [Hn.out] at hc
     have Hs := Lib.hid (bn1_step key row mx j hkl)
     have hgl := HB.out.lt
     clear hlen
     generalize bcnt key (row.take j) (key row[j]) = cc at *
     generalize hpp : row[j] = p at *
     generalize key p = x at *
     have hpi : (0 : Int) ≤ (p : Int) ∧ (p : Int) < (m : Int) := by omega
     have hci : (0 : Int) ≤ (cc : Int) ∧ (cc : Int) ≤ 1000001 := by omega
     have hxi : (0 : Int) ≤ (x : Int) ∧ (x : Int) ≤ (mx : Int) := by omega
     clear hpp
     go_wp2
     go_roundw
     case rel => exact ⟨j + 1, by omega, iv (by omega), Lib.hid (by rw [← Hs.out, ← yaM]; exact HB.out.set_ (x + 1) _), Lib.hid (HO.out.setCell (p := ⟨g, x + 1, none⟩) (Nat.le_refl _) _)⟩
     case measure => simp only [intOf]; omega
    ·obtain rfl : j = k := by omega
     have hii : ¬ (j : Int) < (j : Int) := by omega
     have HB2 : Hid (Blk wr g 3 (ints (bn2 key row mx 0)).toArray) := Lib.hid (by rw [← bn1_all, Hn.out]; exact HB.out)
     have HO2 := Lib.hid HO.out
     clear HB HO
     go_wp2
     go_loopw [50] (fun i W => ∃ q : Nat, q ≤ mx ∧ i = .int .i64 q ∧ Hid (Blk W g 3 (ints (bn2 key row mx q)).toArray) ∧ Hid (Below g w W)) (fun i _ => mx - (intOf i).toNat)
     case atStart => exact ⟨0, by omega, rfl, HB2, HO2⟩
     case round =>
      obtain ⟨q, hq, rfl, HB, HO⟩ := hrel
      clear HB2 HO2
      by_cases hlt : q < mx
      ·have hki : (0 : Int) ≤ (q : Int) ∧ (q : Int) < (mx : Int) := by omega
       have x1 := yaN HB.out (q + 1) (by rw [bn2_len]; omega)
       have x2 := yaN HB.out q (by rw [bn2_len]; omega)
       rw [bn2_get1] at x1
       rw [bn2_get0] at x2
       have x4 := HB.out.frozen (q + 1)
       have hc := bcnt_le key row q
       have hc2 := bsum_le key row q
       rw [Hn.out] at hc hc2
       have Hs := Lib.hid (bn2_step key row mx q)
       have hgl := HB.out.lt
       generalize bcnt key row q = cc at *
       generalize bsum key row q = cs at *
       have hci : (0 : Int) ≤ (cc : Int) ∧ (cc : Int) ≤ 1000001 ∧ (0 : Int) ≤ (cs : Int) ∧ (cs : Int) ≤ 1000001 := by omega
       go_wp2
       have hw1 : IntKind.i64.wrap ((q : Int) + 1) = (q : Int) + 1 := by rw [IntKind.wrap_i64]; omega
       have hw2 : IntKind.i64.wrap ((cc : Int) + (cs : Int)) = (cc : Int) + (cs : Int) := by rw [IntKind.wrap_i64]; omega
       have hb1 : 0 ≤ (q : Int) + 1 ∧ (q : Int) + 1 < (mx : Int) + 2 := by omega
       have hb0 : 0 ≤ (q : Int) ∧ (q : Int) < (mx : Int) + 2 := by omega
       refine wp_region_still_tail 11 (by kernel_rfl) (by kernel_rfl) ?_
       simp only [List.take_succ_cons, List.take_zero, List.drop_succ_cons, List.drop_zero]
       change wpStill _ _ (World.drew _) (fun a' => wpList _ _ _ _ a' (World.drew _)) _ _
       repeat still_step
       refine wpStill_nil ?_
       go_wp2
       go_roundw
       case rel => exact ⟨q + 1, by omega, iv (by omega), Lib.hid (by rw [← Hs.out, ← yaM]; exact HB.out.drew.set_ (q + 1) _), Lib.hid (HO.out.drew.setCell (p := ⟨g, q + 1, none⟩) (Nat.le_refl _) _)⟩
       case measure => simp only [intOf]; omega
      ·obtain rfl : q = mx := by omega
       have hii2 : ¬ (q : Int) < (q : Int) := by omega
       have HB3 : Hid (Blk wr g 3 (ints (bn3 key row q 0)).toArray) := Lib.hid (by rw [← bn2_all]; exact HB.out)
       have HO3 := Lib.hid HO.out
       have hmk2 := fun w => ycU (j : Int) j rfl (by omega) w
       have e2 : List.replicate j 0 = bmid key row 0 (q + 1) := by
        rw [yhz, ydy key row (q + 1) (fun p hp => by have := Hall.out p hp; rw [Hmxn.out] at this; exact this), Hn.out]
       rw [e2] at hmk2
       clear HB HO
       have hgl := HB3.out.lt
       have HN := Lib.hid (Blk.new wr 3 (ints (bmid key row 0 (q + 1))).toArray)
       have HB4 := Lib.hid (HB3.out.alloc (.cells (ints (bmid key row 0 (q + 1))).toArray 3))
       have HO4 := Lib.hid (HO3.out.alloc (Nat.le_of_lt hgl) (.cells (ints (bmid key row 0 (q + 1))).toArray 3))
       generalize hg2 : wr.heap.size = g2 at *
       clear HB3 HO3
       go_wp2
       clear hmk2 e2
       go_loopw [70] (fun i V => ∃ u : Nat, u ≤ j ∧ i = .int .i64 u ∧ Hid (Blk V g 3 (ints (bn3 key row q u)).toArray) ∧ Hid (Blk V g2 3 (ints (bmid key row u (q + 1))).toArray) ∧ Hid (Below g w V)) (fun i _ => j - (intOf i).toNat)
       case atStart => exact ⟨0, by omega, rfl, HB4, HN, HO4⟩
       case round =>
        obtain ⟨u, hu, rfl, HB, HC, HO⟩ := hrel
        clear HB4 HN HO4
        by_cases hlt : u < j
        ·have hki : (0 : Int) ≤ (u : Int) ∧ (u : Int) < (j : Int) := by omega
         have hkl : u < row.length := by rw [Hn.out]; exact hlt
         obtain ⟨b, off, rfl, hbl, x1⟩ := Hrow.out _ HO.out u hkl
         obtain ⟨hp, hx, hxm, b2, off2, rfl, hbl2, x2⟩ := Hkey.out _ HO.out u hkl
         rw [Hmxn.out] at hxm
         have hpl := bplace_lt key row u hkl
         rw [Hn.out] at hpl
         have x3 := yaN HB.out (key row[u]) (by rw [bn3_len]; omega)
         rw [bn3_get key row q u _ hxm] at x3
         have x4 := HB.out.frozen (key row[u])
         have hml : (bmid key row u (q + 1)).length = j := by
          rw [ygn, ydy key row (q + 1) (fun p hp => by have := Hall.out p hp; rw [Hmxn.out] at this; exact this), Hn.out]
         have x5 := yaN HC.out (bsum key row (key row[u]) + bcnt key (row.take u) (key row[u])) (by rw [hml]; exact hpl)
         have x6 := HC.out.frozen (bsum key row (key row[u]) + bcnt key (row.take u) (key row[u]))
         have Hs := Lib.hid (bn3_step key row q u hkl hxm)
         have Hs2 := Lib.hid (yhP key row u hkl (q + 1) (by omega))
         have hgl := HB.out.lt
         have hgl2 := HC.out.lt
         generalize (bmid key row u (q + 1))[bsum key row (key row[u]) + bcnt key (row.take u) (key row[u])]'(by rw [hml]; exact hpl) = vv at x5
         generalize bsum key row (key row[u]) + bcnt key (row.take u) (key row[u]) = at_ at *
         generalize hpp : row[u] = p at *
         generalize key p = x at *
         have hpi : (0 : Int) ≤ (p : Int) ∧ (p : Int) < (m : Int) := by omega
         have hci : (0 : Int) ≤ (at_ : Int) ∧ (at_ : Int) < (j : Int) := by omega
         have hxi : (0 : Int) ≤ (x : Int) ∧ (x : Int) ≤ (q : Int) := by omega
         have hne : g ≠ g2 := by omega
         have hne2 : g2 ≠ g := by omega
         clear hpp hml
         go_wp2
         go_roundw
         case rel => exact ⟨u + 1, by omega, iv (by omega), Lib.hid (by rw [← Hs.out, ← yaM]; exact (HB.out.far (p := ⟨g2, at_, none⟩) hne _).set_ x _), Lib.hid (by rw [← Hs2.out, ← yaM]; exact (HC.out.set_ at_ _).far (p := ⟨g, x, none⟩) hne2 _), Lib.hid ((HO.out.setCell (p := ⟨g2, at_, none⟩) (by show g ≤ g2; omega) _).setCell (p := ⟨g, x, none⟩) (Nat.le_refl _) _)⟩
         case measure => simp only [intOf]; omega
        ·obtain rfl : u = j := by omega
         have hii3 : ¬ (u : Int) < (u : Int) := by omega
         have HF : Hid (Blk wr g2 3 (ints (splc (bks key row (q + 1)))).toArray) := Lib.hid (by rw [← bmid_all, Hn.out]; exact HC.out)
         have HM : Hid (∀ p ∈ row, key p < q + 1) := Lib.hid fun p hp => by have := Hall.out p hp; rw [Hmxn.out] at this; exact this
         have Hgg : Hid (g ≤ g2) := Lib.hid (by omega)
         clear HB HC
         go_wp2
         go_ret
         first | exact ⟨g2, rfl, Hgg.out, q + 1, HM.out, HF.out, HO.out⟩ | exact ⟨g2, q + 1, rfl, Hgg.out, HM.out, HF.out, HO.out⟩
end Go.Proofs.YtoinjdmlembgeaaGreat
