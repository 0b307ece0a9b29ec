/-
  Plain words on a stable sort: what stands ahead of what, insertion, two sorted lists as one, blocks.
-/
import Derived.Test.YtehpnfijpddcfaaMore
import Derived.Shelf.SlSortCmp.KitK
namespace Go.Proofs.Ytehpnfijpddcfaa
set_option linter.unusedSimpArgs false
set_option linter.unusedVariables false
open Go.Sort

section
variable {α : Type} {lt : α → α → Bool} {no : α → Nat}
/-- x stands ahead of y: it is less, or no greater and came first. -/
def sord (lt : α → α → Bool) (no : α → Nat) (x y : α) : Prop := lt x y = true ∨ (lt y x = false ∧ no x < no y)
theorem sord_down (h : SWO lt) {x u v : α} (s : sord lt no u v) (k : lt x v = false) : lt x u = false := by
  rcases s with s | ⟨s, _⟩
  · cases e : lt x u with
    | false => rfl
    | true => rw [h.trans x u v e s] at k; cases k
  · exact h.ntrans x v u k s
theorem sord_up (h : SWO lt) {x u v : α} (s : sord lt no u v) (k : lt v x = true) : lt u x = true := by
  rcases s with s | ⟨s, _⟩
  · exact h.trans u v x s k
  · cases e : lt u x with
    | true => rfl
    | false => rw [h.ntrans v u x s e] at k; cases k
theorem sord_asymm (h : SWO lt) {x y : α} (s : sord lt no x y) (k : sord lt no y x) : False := by
  rcases s with s | ⟨s, s2⟩ <;> rcases k with k | ⟨k, k2⟩
  · have := h.trans x y x s k; rw [h.irrefl] at this; cases this
  · rw [s] at k; cases k
  · rw [s] at k; cases k
  · omega
/-- A list in an order that no two have both ways is the only one of its numbers. -/
theorem sorted_unique {r : α → α → Prop} (ha : ∀ x y, r x y → r y x → False) : ∀ {l1 l2 : List α}, l1.Perm l2 → l1.Pairwise r → l2.Pairwise r → l1 = l2
  | [], l2, p, _, _ => by rw [List.nil_perm.1 p]
  | x :: t, [], p, _, _ => by simp at p
  | x :: t, y :: u, p, h1, h2 => by
    have hxy : x = y := by
      have hx : x ∈ y :: u := p.subset (List.mem_cons_self ..)
      have hy : y ∈ x :: t := p.symm.subset (List.mem_cons_self ..)
      rcases List.mem_cons.1 hx with e | hx
      · exact e
      · rcases List.mem_cons.1 hy with e | hy
        · exact e.symm
        · exact (ha x y ((List.pairwise_cons.1 h1).1 y hy) ((List.pairwise_cons.1 h2).1 x hx)).elim
    subst hxy
    rw [sorted_unique ha (List.Perm.cons_inv p) (List.pairwise_cons.1 h1).2 (List.pairwise_cons.1 h2).2]
/-- Two sorted lists, cut so that what is ahead of the cuts goes ahead of what is behind: the two parts, sorted, are all, sorted. -/
theorem merge_cut {L1 L2 R1 R2 A B : List α} (hL : (L1 ++ L2).Pairwise (sord lt no)) (hR : (R1 ++ R2).Pairwise (sord lt no)) (hid : ∀ x ∈ L1 ++ L2, ∀ y ∈ R1 ++ R2, no x < no y)
    (c1 : ∀ x ∈ L1, ∀ y ∈ R2, lt y x = false) (c2 : ∀ y ∈ R1, ∀ x ∈ L2, lt y x = true) (pA : A.Perm (L1 ++ R1)) (pB : B.Perm (L2 ++ R2)) (hA : A.Pairwise (sord lt no)) (hB : B.Pairwise (sord lt no)) :
    (A ++ B).Perm ((L1 ++ L2) ++ (R1 ++ R2)) ∧ (A ++ B).Pairwise (sord lt no) := by
  constructor
  · refine (pA.append pB).trans ?_
    rw [List.append_assoc, List.append_assoc]
    refine List.Perm.append_left L1 ?_
    rw [← List.append_assoc, ← List.append_assoc]
    exact List.Perm.append_right R2 List.perm_append_comm
  · rw [List.pairwise_append]
    refine ⟨hA, hB, fun x hx y hy => ?_⟩
    obtain ⟨_, _, l3⟩ := List.pairwise_append.1 hL
    obtain ⟨_, _, r3⟩ := List.pairwise_append.1 hR
    rcases List.mem_append.1 (pA.subset hx) with hx | hx <;> rcases List.mem_append.1 (pB.subset hy) with hy | hy
    · exact l3 x hx y hy
    · exact Or.inr ⟨c1 x hx y hy, hid x (List.mem_append_left _ hx) y (List.mem_append_right _ hy)⟩
    · exact Or.inl (c2 x hx y hy)
    · exact r3 x hx y hy

variable [Inhabited α]
theorem get_mid (P Q : List α) (x : α) (i : Nat) (hi : i = P.length) : (P ++ x :: Q).toArray[i]! = x := by
  subst hi
  simp
theorem get_list {l : List α} {i : Nat} (h : i < l.length) : l.toArray[i]! = l[i] := by
  rw [getElem!_pos l.toArray i (by simpa using h)]
  simp
/-- An exchange of two. -/
theorem swp_list (P M Q : List α) (x y : α) (i j : Nat) (hi : i = P.length) (hj : j = P.length + 1 + M.length) : swp (P ++ x :: (M ++ y :: Q)).toArray i j = (P ++ y :: (M ++ x :: Q)).toArray := by
  have e1 : (P ++ x :: (M ++ y :: Q)).toArray[i]! = x := get_mid P _ x i hi
  have e2 : (P ++ x :: (M ++ y :: Q)).toArray[j]! = y := by
    rw [show P ++ x :: (M ++ y :: Q) = (P ++ x :: M) ++ y :: Q from by simp]
    exact get_mid _ _ y j (by rw [List.length_append, List.length_cons]; omega)
  unfold swp
  rw [e1, e2, List.setIfInBounds_toArray, List.setIfInBounds_toArray]
  subst hi
  rw [List.set_append_right _ _ (Nat.le_refl _), Nat.sub_self, List.set_cons_zero]
  rw [show P ++ y :: (M ++ y :: Q) = (P ++ y :: M) ++ y :: Q from by simp, List.set_append_right _ _ (by rw [List.length_append, List.length_cons]; omega)]
  rw [show j - (P ++ y :: M).length = 0 from by rw [List.length_append, List.length_cons]; omega, List.set_cons_zero]
  simp
theorem swp_comm' (d : Array α) (i j : Nat) (hi : i < d.size) (hj : j < d.size) : swp d i j = swp d j i := by
  apply Array.ext
  · rw [swp_size, swp_size]
  · intro t h1 h2
    rw [← getElem!_pos, ← getElem!_pos, swp_get d hi hj, swp_get d hj hi]
    by_cases e : t = j
    · by_cases e2 : t = i
      · rw [if_pos e, if_pos e2, ← e2, ← e]
      · rw [if_pos e, if_neg e2, if_pos e]
    · by_cases e2 : t = i
      · rw [if_neg e, if_pos e2, if_pos e2]
      · rw [if_neg e, if_neg e2, if_neg e2, if_neg e]

/-! ### Insertion -/
/-- x goes into a sorted list, told from its end. -/
def insR (lt : α → α → Bool) : List α → α → List α
  | [], x => [x]
  | t :: r, x => if lt x t = true then insR lt r x ++ [t] else r.reverse ++ [t, x]
theorem insInner_list (P : List α) (x : α) : ∀ (r V : List α), insInner lt P.length (P.length + r.length) (P ++ r.reverse ++ x :: V).toArray = (P ++ insR lt r x ++ V).toArray
  | [], V => by
    rw [insInner_stop _ _ _ _ (Or.inl (by simp))]
    simp [insR]
  | t :: r, V => by
    have e1 : (P ++ (t :: r).reverse ++ x :: V).toArray[P.length + (t :: r).length]! = x := get_mid _ _ _ _ (by simp)
    have e2 : (P ++ (t :: r).reverse ++ x :: V).toArray[P.length + (t :: r).length - 1]! = t := by
      rw [show P ++ (t :: r).reverse ++ x :: V = (P ++ r.reverse) ++ t :: (x :: V) from by simp]
      exact get_mid _ _ _ _ (by simp)
    by_cases h : lt x t = true
    · rw [insInner_go _ _ _ _ (by simp) (by rw [e1, e2]; exact h)]
      have hs : swp (P ++ (t :: r).reverse ++ x :: V).toArray (P.length + (t :: r).length) (P.length + (t :: r).length - 1) = (P ++ r.reverse ++ x :: (t :: V)).toArray := by
        rw [swp_comm' _ _ _ (by simp) (by simp <;> omega)]
        rw [show P ++ (t :: r).reverse ++ x :: V = (P ++ r.reverse) ++ t :: ([] ++ x :: V) from by simp]
        rw [swp_list (P ++ r.reverse) [] V t x _ _ (by simp) (by simp <;> omega)]
        simp
      rw [hs, show P.length + (t :: r).length - 1 = P.length + r.length from by simp, insInner_list P x r (t :: V)]
      rw [show insR lt (t :: r) x = insR lt r x ++ [t] from if_pos h]
      simp
    · rw [insInner_stop _ _ _ _ (Or.inr (by rw [e1, e2]; simpa using h))]
      unfold insR
      rw [if_neg h]
      simp
omit [Inhabited α] in
theorem insR_perm (x : α) : ∀ r : List α, (insR lt r x).Perm (r.reverse ++ [x])
  | [] => by simp [insR]
  | t :: r => by
    unfold insR
    split
    · refine ((insR_perm x r).append_right [t]).trans ?_
      rw [List.reverse_cons, List.append_assoc, List.append_assoc]
      exact List.Perm.append_left _ List.perm_append_comm
    · simp
omit [Inhabited α] in
theorem insR_order (h : SWO lt) (x : α) : ∀ r : List α, (r.reverse).Pairwise (sord lt no) → (∀ t ∈ r, no t < no x) → (insR lt r x).Pairwise (sord lt no)
  | [], _, _ => by simp [insR]
  | t :: r, hp, hn => by
    rw [List.reverse_cons] at hp
    obtain ⟨p1, _, p3⟩ := List.pairwise_append.1 hp
    unfold insR
    split
    · rename_i hx
      rw [List.pairwise_append]
      refine ⟨insR_order h x r p1 fun u hu => hn u (List.mem_cons_of_mem _ hu), by simp, ?_⟩
      intro u hu v hv
      obtain rfl : v = t := by simpa using hv
      rcases List.mem_append.1 ((insR_perm x r).subset hu) with hu | hu
      · exact p3 u hu v (by simp)
      · obtain rfl : u = x := by simpa using hu
        exact Or.inl hx
    · rename_i hx
      have hx' : lt x t = false := by simpa using hx
      rw [show r.reverse ++ [t, x] = (r.reverse ++ [t]) ++ [x] from by simp, List.pairwise_append]
      refine ⟨hp, by simp, ?_⟩
      intro u hu v hv
      obtain rfl : v = x := by simpa using hv
      rcases List.mem_append.1 hu with hu | hu
      · exact Or.inr ⟨sord_down h (p3 u hu t (by simp)) hx', hn u (by simp at hu; simp [hu])⟩
      · obtain rfl : u = t := by simpa using hu
        exact Or.inr ⟨hx', hn u (by simp)⟩
theorem insOuter_list (h : SWO lt) (P Q : List α) : ∀ (U T : List α), T.Pairwise (sord lt no) → (∀ t ∈ T, ∀ u ∈ U, no t < no u) → U.Pairwise (fun a b => no a < no b) →
    ∃ S, S.Perm (T ++ U) ∧ S.Pairwise (sord lt no) ∧ insOuter lt P.length (P.length + T.length + U.length) (P.length + T.length) (P ++ (T ++ U) ++ Q).toArray = (P ++ S ++ Q).toArray
  | [], T, hT, _, _ => ⟨T, by simp, hT, by rw [insOuter_stop _ _ _ _ _ (by simp)]; simp⟩
  | x :: U, T, hT, hn, hU => by
    obtain ⟨u1, u2⟩ := List.pairwise_cons.1 hU
    have hin := insInner_list (lt := lt) P x T.reverse (U ++ Q)
    rw [List.reverse_reverse, List.length_reverse] at hin
    have hp := insR_perm (lt := lt) x T.reverse
    rw [List.reverse_reverse] at hp
    obtain ⟨S, s1, s2, s3⟩ := insOuter_list h P Q U (insR lt T.reverse x) (insR_order h x T.reverse (by rw [List.reverse_reverse]; exact hT) fun t ht => hn t (by simpa using ht) x (List.mem_cons_self ..)) (fun t ht u hu => by
      rcases List.mem_append.1 (hp.subset ht) with ht | ht
      · exact hn t ht u (List.mem_cons_of_mem _ hu)
      · obtain rfl : t = x := by simpa using ht
        exact u1 u hu) u2
    refine ⟨S, s1.trans ?_, s2, ?_⟩
    · refine (hp.append_right U).trans ?_
      simp
    · have hl : (insR lt T.reverse x).length = T.length + 1 := by rw [hp.length_eq]; simp
      rw [insOuter_go _ _ _ _ _ (by simp), show P ++ (T ++ x :: U) ++ Q = P ++ T ++ x :: (U ++ Q) from by simp, hin]
      rw [hl, show P.length + (T.length + 1) + U.length = P.length + T.length + (x :: U).length from by simp; omega, show P.length + (T.length + 1) = P.length + T.length + 1 from by omega] at s3
      rw [← s3]
      simp
/-- An insertion sort of a part whose numbers grow: it is sorted, the elder first. -/
theorem insertion_list (h : SWO lt) (P S Q : List α) (hS : S.Pairwise (fun a b => no a < no b)) : ∃ S', S'.Perm S ∧ S'.Pairwise (sord lt no) ∧ insertionSort lt (P ++ S ++ Q).toArray P.length (P.length + S.length) = (P ++ S' ++ Q).toArray := by
  unfold insertionSort
  cases S with
  | nil => exact ⟨[], List.Perm.refl _, List.Pairwise.nil, by rw [insOuter_stop _ _ _ _ _ (by simp)]⟩
  | cons x U =>
    obtain ⟨u1, u2⟩ := List.pairwise_cons.1 hS
    obtain ⟨S', s1, s2, s3⟩ := insOuter_list (no := no) h P Q U [x] (by simp) (fun t ht u hu => by have e : t = x := by simpa using ht
                                                                                                   rw [e]; exact u1 u hu) u2
    refine ⟨S', s1, s2, ?_⟩
    rw [← s3]
    simp [Nat.add_assoc, Nat.add_comm 1]

/-! ### Blocks -/
/-- A row of sorted blocks of a size, the last one perhaps smaller; the elder ones' numbers are less. -/
inductive Blks (lt : α → α → Bool) (no : α → Nat) (bs : Nat) : List α → Prop
  | last {l : List α} : l.length ≤ bs → l.Pairwise (sord lt no) → Blks lt no bs l
  | cons {l t : List α} : l.length = bs → l.Pairwise (sord lt no) → (∀ x ∈ l, ∀ y ∈ t, no x < no y) → Blks lt no bs t → Blks lt no bs (l ++ t)
omit [Inhabited α] in
theorem Blks.one {bs : Nat} {U : List α} (h : Blks lt no bs U) (hb : U.length ≤ bs) : U.Pairwise (sord lt no) := by
  cases h with
  | last _ h => exact h
  | cons h1 h2 h3 h4 =>
    rename_i l t
    rw [List.length_append] at hb
    have : t = [] := List.length_eq_zero_iff.1 (by omega)
    subst this
    simpa using h2
omit [Inhabited α] in
theorem Blks.more {bs : Nat} {U : List α} (h : Blks lt no bs U) (hb : bs < U.length) : ∃ l t, U = l ++ t ∧ l.length = bs ∧ l.Pairwise (sord lt no) ∧ (∀ x ∈ l, ∀ y ∈ t, no x < no y) ∧ Blks lt no bs t := by
  cases h with
  | last h _ => omega
  | cons h1 h2 h3 h4 => exact ⟨_, _, rfl, h1, h2, h3, h4⟩
end
end Go.Proofs.Ytehpnfijpddcfaa
