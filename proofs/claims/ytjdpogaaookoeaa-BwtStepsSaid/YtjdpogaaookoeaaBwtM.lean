/-
  Layer 13, plain: the transform of a text, the steps of its rows, and back (P13.1 to P13.5; ahead of the code's landing).
-/
import Derived.Test.YtjdpogaaookoeaaSufO
namespace Go.Proofs.Ytjdpogaaookoeaa
set_option linter.unusedSimpArgs false
set_option linter.unusedVariables false
open Go.ChangeShapes Go.WideShapes Go.ChangeAt Go.RowKit Go.Joins Go.Deep

/-! ### Counting -/
theorem wpigeon : ∀ (n : Nat) (l : List Nat), l.Nodup → (∀ x ∈ l, x < n) → l.length ≤ n
  | 0, l, _, h => by
    cases l with
    | nil => simp
    | cons a t => exact absurd (h a (List.mem_cons_self ..)) (by omega)
  | n + 1, l, hn, h => by
    have h2 := wpigeon n (l.erase n) (hn.erase n) fun x hx => by
      have h3 := (List.Nodup.mem_erase_iff hn).1 hx
      have := h x h3.2
      have := h3.1
      omega
    have h4 : l.length ≤ (l.erase n).length + 1 := by
      rw [List.length_erase]
      split <;> omega
    omega
theorem wfull {n : Nat} {l : List Nat} (hn : l.Nodup) (h : ∀ x ∈ l, x < n) (hl : l.length = n) : ∀ x, x < n → x ∈ l := fun x hx => by
  by_cases hm : x ∈ l
  · exact hm
  · have := wpigeon n (x :: l) (List.nodup_cons.2 ⟨hm, hn⟩) fun y hy => by
      rcases List.mem_cons.1 hy with rfl | hy
      · exact hx
      · exact h y hy
    rw [List.length_cons] at this
    omega
theorem wperm {n : Nat} {l : List Nat} (hn : l.Nodup) (h : ∀ x ∈ l, x < n) (hl : l.length = n) : l.Perm (List.range n) := by
  rw [List.perm_iff_count]
  intro p
  rw [hn.count, List.nodup_range.count]
  by_cases hp : p < n
  · rw [if_pos (wfull hn h hl p hp), if_pos (List.mem_range.2 hp)]
  · rw [if_neg fun h2 => hp (h p h2), if_neg fun h2 => hp (List.mem_range.1 h2)]
theorem wcount_lt {p q : Nat → Bool} : ∀ (l : List Nat), (∀ k ∈ l, p k = true → q k = true) → ∀ x ∈ l, p x = false → q x = true → l.countP p < l.countP q
  | [], _, x, hx, _, _ => by cases hx
  | a :: t, h, x, hx, h1, h2 => by
    have hle : t.countP p ≤ t.countP q := List.countP_mono_left fun k hk => h k (List.mem_cons_of_mem _ hk)
    rw [List.countP_cons, List.countP_cons]
    rcases List.mem_cons.1 hx with e | hx
    · subst e
      rw [h1, h2]
      simp
      omega
    · have ih := wcount_lt t (fun k hk => h k (List.mem_cons_of_mem _ hk)) x hx h1 h2
      have h3 := h a (List.mem_cons_self ..)
      cases ha : p a with
      | false => simp; split <;> omega
      | true => rw [h3 ha]; simp; omega
theorem wcount_below (n a : Nat) (h : a ≤ n) : (List.range n).countP (fun k => decide (k < a)) = a := by
  induction n with
  | zero => simp; omega
  | succ n ih =>
    rw [List.range_succ, List.countP_append, List.countP_singleton]
    by_cases e : a = n + 1
    · subst e
      rw [if_pos (by simp), List.countP_eq_length.2 fun k hk => by simp at hk; simp; omega, List.length_range]
    · rw [ih (by omega), if_neg (by simp; omega)]
      rfl
/-- In a row in order, as many are less as stand ahead. -/
theorem wsort_idx {lt : Nat → Nat → Bool} {n : Nat} (ho : SOrd lt n) {l : List Nat} (h : SSort lt l) (k : Nat) (hk : k < l.length) : l.countP (fun q => lt q l[k]) = k := by
  have e := List.take_append_drop k l
  have e2 : l.countP (fun q => lt q l[k]) = (l.take k ++ l.drop k).countP (fun q => lt q l[k]) := by rw [e]
  rw [e2, List.countP_append, List.countP_eq_length.2 fun q hq => ?_, List.countP_eq_zero.2 fun q hq => ?_, List.length_take]
  · omega
  · obtain ⟨j, hj, rfl⟩ := List.getElem_of_mem hq
    rw [List.getElem_drop]
    rw [List.length_drop] at hj
    cases j with
    | zero => simp [ho.irr]
    | succ j =>
      have := ssort_get h k (k + (j + 1)) hk (by omega) (by omega)
      rw [ho.asym _ _ this]
      simp
  · obtain ⟨j, hj, rfl⟩ := List.getElem_of_mem hq
    rw [List.length_take] at hj
    rw [List.getElem_take]
    exact ssort_get h j k (by omega) hk (by omega)

/-! ### The step from a row -/
/-- How many rows are less than a row: by their last bytes, then by their numbers. -/
def brk (c : List Int) (i : Nat) : Nat := (List.range c.length).countP fun k => klt c k i
theorem brk_lt (c : List Int) {i j : Nat} (hi : i < c.length) (h : klt c i j = true) : brk c i < brk c j :=
  wcount_lt _ (fun k _ hk => (klt_ord c c.length).tr k i j hk h) i (List.mem_range.2 hi) ((klt_ord c c.length).irr i) h
theorem brk_bound (c : List Int) {i : Nat} (hi : i < c.length) : brk c i < c.length := by
  have := wcount_lt (p := fun k => klt c k i) (q := fun _ => true) (List.range c.length) (fun _ _ _ => rfl) i (List.mem_range.2 hi) ((klt_ord c c.length).irr i) rfl
  rw [List.countP_eq_length.2 fun _ _ => rfl, List.length_range] at this
  exact this
theorem brk_inj (c : List Int) {i j : Nat} (hi : i < c.length) (hj : j < c.length) (h : brk c i = brk c j) : i = j := by
  by_cases e : i = j
  · exact e
  · rcases (klt_ord c c.length).tot i j hi hj e with h1 | h1
    · have := brk_lt c hi h1
      omega
    · have := brk_lt c hj h1
      omega
theorem brk_iff (c : List Int) {i j : Nat} (hi : i < c.length) (hj : j < c.length) : brk c i < brk c j ↔ klt c i j = true := by
  constructor
  · intro h
    by_cases e : i = j
    · subst e
      omega
    · rcases (klt_ord c c.length).tot i j hi hj e with h1 | h1
      · exact h1
      · have := brk_lt c hj h1
        omega
  · exact brk_lt c hi

/-! ### The last bytes, row by row -/
def bbs (l : List UInt8) : List Int := l.map fun b => (b.toNat : Int)
def bcol (l : List UInt8) (r : Nat) : List Int := bbs (l.take r) ++ -1 :: bbs (l.drop r)
theorem bbs_len (l : List UInt8) : (bbs l).length = l.length := by simp [bbs]
theorem bbs_ge (l : List UInt8) : ∀ x ∈ bbs l, 0 ≤ x := fun x hx => by
  obtain ⟨b, _, rfl⟩ := List.mem_map.1 hx
  omega
theorem bbs_inj : ∀ (a b : List UInt8), bbs a = bbs b → a = b
  | [], [], _ => rfl
  | [], _ :: _, h => by cases h
  | _ :: _, [], h => by cases h
  | x :: a, y :: b, h => by
    have h2 := List.cons.inj h
    have h3 : (x.toNat : Int) = (y.toNat : Int) := h2.1
    have h4 : x = y := UInt8.toNat_inj.1 (by omega)
    rw [bbs_inj a b h2.2, h4]
theorem bcol_len (l : List UInt8) (r : Nat) (h : r ≤ l.length) : (bcol l r).length = l.length + 1 := by
  unfold bcol
  rw [List.length_append, List.length_cons, bbs_len, bbs_len, List.length_take, List.length_drop]
  omega
theorem bcol_low (l : List UInt8) (r i : Nat) (h : r ≤ l.length) (hi : i < r) : (bcol l r).getD i 0 = ((l.getD i 0).toNat : Int) := by
  unfold bcol
  have h2 : i < (bbs (l.take r)).length := by rw [bbs_len, List.length_take]; omega
  rw [List.getD_eq_getElem?_getD, List.getElem?_append_left h2, List.getElem?_eq_getElem h2]
  simp [bbs]
  rw [List.getElem?_eq_getElem (by omega)]
  rfl
theorem bcol_at (l : List UInt8) (r : Nat) (h : r ≤ l.length) : (bcol l r).getD r 0 = -1 := by
  unfold bcol
  have h2 : (bbs (l.take r)).length = r := by rw [bbs_len, List.length_take]; omega
  rw [List.getD_eq_getElem?_getD, List.getElem?_append_right (by omega), h2, Nat.sub_self]
  rfl
theorem bcol_high (l : List UInt8) (r i : Nat) (h : r ≤ l.length) (hi : r < i) (hi2 : i < l.length + 1) : (bcol l r).getD i 0 = ((l.getD (i - 1) 0).toNat : Int) := by
  unfold bcol
  have h2 : (bbs (l.take r)).length = r := by rw [bbs_len, List.length_take]; omega
  obtain ⟨j, rfl⟩ : ∃ j, i = r + 1 + j := ⟨i - r - 1, by omega⟩
  rw [List.getD_eq_getElem?_getD, List.getElem?_append_right (by omega), h2, show r + 1 + j - r = j + 1 from by omega, List.getElem?_cons_succ, show r + 1 + j - 1 = r + j from by omega]
  simp [bbs]
  rw [List.getElem?_eq_getElem (by omega)]
  rfl
theorem bcol_ge (l : List UInt8) (r i : Nat) (h : r ≤ l.length) (hi : i < l.length + 1) (hne : i ≠ r) : 0 ≤ (bcol l r).getD i 0 := by
  rcases Nat.lt_or_gt_of_ne hne with h2 | h2
  · rw [bcol_low l r i h h2]
    omega
  · rw [bcol_high l r i h h2 hi]
    omega
/-- The primary is the least row. -/
theorem bcol_least (l : List UInt8) (r i : Nat) (h : r ≤ l.length) (hi : i < l.length + 1) (hne : i ≠ r) : klt (bcol l r) r i = true := by
  rw [klt_iff, bcol_at l r h]
  have := bcol_ge l r i h hi hne
  exact Or.inl (by omega)
theorem brk_primary (l : List UInt8) (r : Nat) (h : r ≤ l.length) : brk (bcol l r) r = 0 := by
  unfold brk
  rw [List.countP_eq_zero]
  intro k hk
  rw [List.mem_range, bcol_len l r h] at hk
  by_cases e : k = r
  · rw [e, (klt_ord _ (l.length + 1)).irr]
    simp
  · rw [(klt_ord _ (l.length + 1)).asym _ _ (bcol_least l r k h hk e)]
    simp
theorem brk_pos (l : List UInt8) (r i : Nat) (h : r ≤ l.length) (hi : i < l.length + 1) (hne : i ≠ r) : 0 < brk (bcol l r) i := by
  have := brk_lt (bcol l r) (i := r) (j := i) (by rw [bcol_len l r h]; omega) (bcol_least l r i h hi hne)
  omega

/-! ### From row to row -/
def bro (c : List Int) : Nat → Nat
  | 0 => 0
  | k + 1 => brk c (bro c k)
theorem bro_lt (c : List Int) (h : 0 < c.length) : ∀ k, bro c k < c.length
  | 0 => h
  | k + 1 => brk_bound c (bro_lt c h k)
/-- Rows that come to the primary no earlier than at the end are all rows. -/
theorem bro_apart (l : List UInt8) (r : Nat) (h : r ≤ l.length) (hn : ∀ k, k < l.length → bro (bcol l r) k ≠ r) : ∀ i j, i < j → j ≤ l.length → bro (bcol l r) i ≠ bro (bcol l r) j
  | i, 0, hi, _ => by omega
  | 0, j + 1, _, hj => fun e => by
    have e2 : brk (bcol l r) r = brk (bcol l r) (bro (bcol l r) j) := (brk_primary l r h).trans e
    have := brk_inj (bcol l r) (by rw [bcol_len l r h]; omega) (bro_lt _ (by rw [bcol_len l r h]; omega) j) e2
    exact hn j (by omega) this.symm
  | i + 1, j + 1, hi, hj => fun e => by
    have := brk_inj (bcol l r) (bro_lt _ (by rw [bcol_len l r h]; omega) i) (bro_lt _ (by rw [bcol_len l r h]; omega) j) e
    exact bro_apart l r h hn i j (by omega) (by omega) this
theorem bro_perm (l : List UInt8) (r : Nat) (h : r ≤ l.length) (hn : ∀ k, k < l.length → bro (bcol l r) k ≠ r) : ((List.range (l.length + 1)).map (bro (bcol l r))).Perm (List.range (l.length + 1)) := by
  refine wperm ?_ ?_ (by rw [List.length_map, List.length_range])
  · rw [List.nodup_iff_pairwise_ne, List.pairwise_iff_getElem]
    intro i j hi hj hij
    rw [List.length_map, List.length_range] at hj
    rw [List.getElem_map, List.getElem_map, List.getElem_range, List.getElem_range]
    exact bro_apart l r h hn i j hij (by omega)
  · intro x hx
    obtain ⟨k, _, rfl⟩ := List.mem_map.1 hx
    have := bro_lt (bcol l r) (by rw [bcol_len l r h]; omega) k
    rw [bcol_len l r h] at this
    exact this
end Go.Proofs.Ytjdpogaaookoeaa
