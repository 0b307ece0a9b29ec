/-
  Layer 12, plain: the order of texts; places in the order of their ends, laid one by one; a row in order is one list (ahead of the code's landing).
-/
import Derived.Test.YtjdpogaaookoeaaMore
namespace Go.Proofs.Ytjdpogaaookoeaa
set_option linter.unusedSimpArgs false
set_option linter.unusedVariables false
open Go.ChangeShapes Go.WideShapes Go.ChangeAt Go.RowKit Go.Joins Go.Deep

/-! ### The order of texts -/
theorem slt_cons (a b : UInt8) (x y : List UInt8) : Op.bytesLess (a :: x) (b :: y) = (decide (a < b) || (a == b && Op.bytesLess x y)) := rfl
theorem slt_iff (a b : UInt8) (x y : List UInt8) : Op.bytesLess (a :: x) (b :: y) = true ↔ a.toNat < b.toNat ∨ (a = b ∧ Op.bytesLess x y = true) := by
  rw [slt_cons]
  simp [UInt8.lt_iff_toNat_lt]
theorem slt_nil (x : List UInt8) : Op.bytesLess x [] = false := by cases x <;> rfl
theorem slt_irrefl : ∀ x : List UInt8, Op.bytesLess x x = false
  | [] => rfl
  | a :: x => by
    rw [slt_cons, slt_irrefl x]
    simp
theorem slt_trans : ∀ x y z : List UInt8, Op.bytesLess x y = true → Op.bytesLess y z = true → Op.bytesLess x z = true
  | x, y, [], _, h => by rw [slt_nil] at h; cases h
  | x, [], _ :: _, h, _ => by rw [slt_nil] at h; cases h
  | [], _ :: _, _ :: _, _, _ => rfl
  | a :: x, b :: y, c :: z, h1, h2 => by
    rw [slt_iff] at h1 h2 ⊢
    rcases h1 with h1 | ⟨rfl, h1⟩
    · rcases h2 with h2 | ⟨rfl, h2⟩
      · exact Or.inl (by omega)
      · exact Or.inl h1
    · rcases h2 with h2 | ⟨rfl, h2⟩
      · exact Or.inl h2
      · exact Or.inr ⟨rfl, slt_trans x y z h1 h2⟩
theorem slt_asymm (x y : List UInt8) (h : Op.bytesLess x y = true) : Op.bytesLess y x = false := by
  cases h2 : Op.bytesLess y x with
  | false => rfl
  | true =>
    have := slt_trans x y x h h2
    rw [slt_irrefl] at this
    cases this
theorem slt_total : ∀ x y : List UInt8, x ≠ y → Op.bytesLess x y = true ∨ Op.bytesLess y x = true
  | [], [], h => absurd rfl h
  | [], _ :: _, _ => Or.inl rfl
  | _ :: _, [], _ => Or.inr rfl
  | a :: x, b :: y, h => by
    rw [slt_iff, slt_iff]
    by_cases e : a = b
    · subst e
      rcases slt_total x y (fun e => h (by rw [e])) with h2 | h2
      · exact Or.inl (Or.inr ⟨rfl, h2⟩)
      · exact Or.inr (Or.inr ⟨rfl, h2⟩)
    · have : a.toNat ≠ b.toNat := fun e2 => e (UInt8.toNat_inj.1 e2)
      rcases Nat.lt_or_gt_of_ne this with h2 | h2
      · exact Or.inl (Or.inl h2)
      · exact Or.inr (Or.inl h2)

/-! ### A row in order -/
/-- A strict order of the places below a bound. -/
structure SOrd (lt : Nat → Nat → Bool) (n : Nat) : Prop where
  irr : ∀ p, lt p p = false
  tr : ∀ p q r, lt p q = true → lt q r = true → lt p r = true
  tot : ∀ p q, p < n → q < n → p ≠ q → lt p q = true ∨ lt q p = true
theorem SOrd.asym {lt : Nat → Nat → Bool} {n : Nat} (h : SOrd lt n) (p q : Nat) (h1 : lt p q = true) : lt q p = false := by
  cases h2 : lt q p with
  | false => rfl
  | true =>
    have := h.tr p q p h1 h2
    rw [h.irr] at this
    cases this
/-- Each is less than all behind it. -/
def SSort (lt : Nat → Nat → Bool) (l : List Nat) : Prop := l.Pairwise fun p q => lt p q = true
theorem ssort_unique {lt : Nat → Nat → Bool} {n : Nat} (h : SOrd lt n) : ∀ (a b : List Nat), SSort lt a → SSort lt b → (∀ p, p ∈ a ↔ p ∈ b) → a = b
  | [], [], _, _, _ => rfl
  | [], q :: t, _, _, hm => by
    have := (hm q).2 (List.mem_cons_self ..)
    cases this
  | p :: s, [], _, _, hm => by
    have := (hm p).1 (List.mem_cons_self ..)
    cases this
  | p :: s, q :: t, ha, hb, hm => by
    have ha' := List.pairwise_cons.1 ha
    have hb' := List.pairwise_cons.1 hb
    have e : p = q := by
      rcases List.mem_cons.1 ((hm p).1 (List.mem_cons_self ..)) with e | e
      · exact e
      · rcases List.mem_cons.1 ((hm q).2 (List.mem_cons_self ..)) with e2 | e2
        · exact e2.symm
        · have h1 := hb'.1 p e
          have h2 := ha'.1 q e2
          rw [h.asym q p h1] at h2
          cases h2
    subst e
    rw [ssort_unique h s t ha'.2 hb'.2 fun r => ?_]
    constructor
    · intro hr
      rcases List.mem_cons.1 ((hm r).1 (List.mem_cons_of_mem _ hr)) with e | e
      · subst e
        have := ha'.1 r hr
        rw [h.irr] at this
        cases this
      · exact e
    · intro hr
      rcases List.mem_cons.1 ((hm r).2 (List.mem_cons_of_mem _ hr)) with e | e
      · subst e
        have := hb'.1 r hr
        rw [h.irr] at this
        cases this
      · exact e
theorem ssort_nodup {lt : Nat → Nat → Bool} {n : Nat} (h : SOrd lt n) : ∀ l : List Nat, SSort lt l → l.Nodup
  | [], _ => List.nodup_nil
  | p :: t, hl => by
    have hl' := List.pairwise_cons.1 hl
    refine List.nodup_cons.2 ⟨fun hp => ?_, ssort_nodup h t hl'.2⟩
    have := hl'.1 p hp
    rw [h.irr] at this
    cases this
theorem ssort_get {lt : Nat → Nat → Bool} {l : List Nat} (h : SSort lt l) (i j : Nat) (hi : i < l.length) (hj : j < l.length) (hij : i < j) : lt l[i] l[j] = true := List.pairwise_iff_getElem.1 h i j hi hj hij
theorem ssort_of {lt : Nat → Nat → Bool} {l : List Nat} (h : ∀ i j (hi : i < l.length) (hj : j < l.length), i < j → lt l[i] l[j] = true) : SSort lt l := List.pairwise_iff_getElem.2 fun i j hi hj hij => h i j hi hj hij

/-! ### Laid one by one -/
/-- How many of a row are less. -/
def scut (lt : Nat → Nat → Bool) (p : Nat) : List Nat → Nat
  | [] => 0
  | q :: t => if lt q p = true then scut lt p t + 1 else 0
def sins (lt : Nat → Nat → Bool) (p : Nat) (l : List Nat) : List Nat := l.take (scut lt p l) ++ p :: l.drop (scut lt p l)
/-- The places up to k, laid one by one. -/
def slay (lt : Nat → Nat → Bool) : Nat → List Nat
  | 0 => []
  | k + 1 => sins lt k (slay lt k)
theorem scut_le (lt : Nat → Nat → Bool) (p : Nat) : ∀ l, scut lt p l ≤ l.length
  | [] => Nat.le_refl _
  | q :: t => by
    have := scut_le lt p t
    unfold scut
    split <;> simp <;> omega
/-- A place that parts the less ones from the others is the cut. -/
theorem scut_is (lt : Nat → Nat → Bool) (p : Nat) : ∀ (l : List Nat) (c : Nat), c ≤ l.length → (∀ i (h : i < l.length), i < c → lt l[i] p = true) → (∀ i (h : i < l.length), i = c → lt l[i] p = false) → scut lt p l = c
  | [], c, hc, _, _ => by simp at hc; subst hc; rfl
  | q :: t, 0, _, _, h2 => by
    have := h2 0 (by simp) rfl
    simp only [List.getElem_cons_zero] at this
    unfold scut
    rw [if_neg (by rw [this]; decide)]
  | q :: t, c + 1, hc, h1, h2 => by
    have h0 := h1 0 (by simp) (by omega)
    simp only [List.getElem_cons_zero] at h0
    unfold scut
    rw [if_pos h0, scut_is lt p t c (by simpa using hc) (fun i hi hic => by
      have := h1 (i + 1) (by simpa using hi) (by omega)
      simpa using this) (fun i hi hic => by
      have := h2 (i + 1) (by simpa using hi) (by omega)
      simpa using this)]
theorem scut_less (lt : Nat → Nat → Bool) (p : Nat) : ∀ (l : List Nat) (i : Nat) (h : i < l.length), i < scut lt p l → lt l[i] p = true
  | [], i, h, _ => absurd h (by simp)
  | q :: t, i, h, hc => by
    unfold scut at hc
    by_cases e : lt q p = true
    · rw [if_pos e] at hc
      cases i with
      | zero => exact e
      | succ i => exact scut_less lt p t i (by simpa using h) (by omega)
    · rw [if_neg e] at hc
      omega
theorem scut_more {lt : Nat → Nat → Bool} {n : Nat} (hl : SOrd lt n) (p : Nat) (hp : p < n) : ∀ (l : List Nat) (i : Nat) (h : i < l.length), SSort lt l → (∀ q ∈ l, q < n ∧ q ≠ p) → scut lt p l ≤ i → lt p l[i] = true
  | [], i, h, _, _, _ => absurd h (by simp)
  | q :: t, i, h, hs, hq, hc => by
    have hs' := List.pairwise_cons.1 hs
    unfold scut at hc
    by_cases e : lt q p = true
    · rw [if_pos e] at hc
      cases i with
      | zero => omega
      | succ i => exact scut_more hl p hp t i (by simpa using h) hs'.2 (fun r hr => hq r (List.mem_cons_of_mem _ hr)) (by omega)
    · have hqp := hq q (List.mem_cons_self ..)
      have h1 : lt p q = true := by
        rcases hl.tot q p hqp.1 hp hqp.2 with h2 | h2
        · exact absurd h2 e
        · exact h2
      cases i with
      | zero => exact h1
      | succ i => exact hl.tr p q _ h1 (hs'.1 _ (List.getElem_mem (by simpa using h)))
theorem sins_mem (lt : Nat → Nat → Bool) (p : Nat) (l : List Nat) (q : Nat) : q ∈ sins lt p l ↔ q = p ∨ q ∈ l := by
  unfold sins
  rw [List.mem_append, List.mem_cons]
  have h := List.take_append_drop (scut lt p l) l
  have h2 : q ∈ l ↔ q ∈ l.take (scut lt p l) ∨ q ∈ l.drop (scut lt p l) := by rw [← List.mem_append, h]
  rw [h2]
  constructor
  · rintro (a | a | a)
    · exact Or.inr (Or.inl a)
    · exact Or.inl a
    · exact Or.inr (Or.inr a)
  · rintro (a | a | a)
    · exact Or.inr (Or.inl a)
    · exact Or.inl a
    · exact Or.inr (Or.inr a)
theorem sins_sort {lt : Nat → Nat → Bool} {n : Nat} (hl : SOrd lt n) (p : Nat) (hp : p < n) (l : List Nat) (hs : SSort lt l) (hq : ∀ q ∈ l, q < n ∧ q ≠ p) : SSort lt (sins lt p l) := by
  have hc := scut_le lt p l
  have hmore : ∀ q ∈ l.drop (scut lt p l), lt p q = true := fun q hq2 => by
    obtain ⟨i, hi, rfl⟩ := List.getElem_of_mem hq2
    rw [List.length_drop] at hi
    rw [List.getElem_drop]
    exact scut_more hl p hp l _ (by omega) hs hq (by omega)
  have hless : ∀ q ∈ l.take (scut lt p l), lt q p = true := fun q hq2 => by
    obtain ⟨i, hi, rfl⟩ := List.getElem_of_mem hq2
    rw [List.length_take] at hi
    rw [List.getElem_take]
    exact scut_less lt p l i (by omega) (by omega)
  unfold sins SSort
  refine List.pairwise_append.2 ⟨List.Pairwise.sublist (List.take_sublist _ _) hs, List.pairwise_cons.2 ⟨hmore, List.Pairwise.sublist (List.drop_sublist _ _) hs⟩, fun a ha b hb => ?_⟩
  rcases List.mem_cons.1 hb with rfl | hb
  · exact hless a ha
  · exact hl.tr a p b (hless a ha) (hmore b hb)
theorem slay_mem (lt : Nat → Nat → Bool) : ∀ k q, q ∈ slay lt k ↔ q < k
  | 0, q => by simp [slay]
  | k + 1, q => by
    show q ∈ sins lt k (slay lt k) ↔ _
    rw [sins_mem, slay_mem lt k q]
    omega
theorem slay_sort {lt : Nat → Nat → Bool} {n : Nat} (hl : SOrd lt n) : ∀ k, k ≤ n → SSort lt (slay lt k)
  | 0, _ => List.Pairwise.nil
  | k + 1, hk => sins_sort hl k (by omega) _ (slay_sort hl k (by omega)) fun q hq => by
    have := (slay_mem lt k q).1 hq
    omega
theorem slay_len (lt : Nat → Nat → Bool) : ∀ k, (slay lt k).length = k
  | 0 => rfl
  | k + 1 => by
    show (sins lt k (slay lt k)).length = k + 1
    have h1 := slay_len lt k
    have h2 := scut_le lt k (slay lt k)
    unfold sins
    rw [List.length_append, List.length_cons, List.length_take, List.length_drop]
    omega
/-- The row in order is the one that was laid one by one. -/
theorem slay_unique {lt : Nat → Nat → Bool} {n : Nat} (hl : SOrd lt n) (a : List Nat) (hs : SSort lt a) (hm : ∀ p, p ∈ a ↔ p < n) : a = slay lt n :=
  ssort_unique hl a (slay lt n) hs (slay_sort hl n (Nat.le_refl _)) fun p => by rw [hm p, slay_mem]

/-! ### The two orders of this layer -/
/-- An end is less than another one. -/
def slt (s : List UInt8) (p q : Nat) : Bool := Op.bytesLess (s.drop p) (s.drop q)
theorem slt_ord (s : List UInt8) : SOrd (slt s) (s.length + 1) := by
  refine ⟨fun p => slt_irrefl _, fun p q r h1 h2 => slt_trans _ _ _ h1 h2, fun p q hp hq hne => slt_total _ _ fun e => ?_⟩
  have := congrArg List.length e
  rw [List.length_drop, List.length_drop] at this
  omega
/-- A key is less than another one, or as great and stands ahead. -/
def klt (keys : List Int) (p q : Nat) : Bool := decide (keys.getD p 0 < keys.getD q 0) || (decide (keys.getD p 0 = keys.getD q 0) && decide (p < q))
theorem klt_iff (keys : List Int) (p q : Nat) : klt keys p q = true ↔ keys.getD p 0 < keys.getD q 0 ∨ (keys.getD p 0 = keys.getD q 0 ∧ p < q) := by simp [klt]
theorem klt_ord (keys : List Int) (n : Nat) : SOrd (klt keys) n := by
  refine ⟨fun p => ?_, fun p q r h1 h2 => ?_, fun p q hp hq hne => ?_⟩
  · cases h : klt keys p p with
    | false => rfl
    | true => rw [klt_iff] at h; omega
  · rw [klt_iff] at h1 h2 ⊢
    omega
  · rw [klt_iff, klt_iff]
    omega
end Go.Proofs.Ytjdpogaaookoeaa
