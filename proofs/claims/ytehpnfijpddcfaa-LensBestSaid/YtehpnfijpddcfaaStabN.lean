/-
  Plain words on a stable sort, at the places of a row: what a search by halves finds.
-/
import Derived.Test.YtehpnfijpddcfaaStabM
namespace Go.Proofs.Ytehpnfijpddcfaa
set_option linter.unusedSimpArgs false
set_option linter.unusedVariables false
open Go.Sort

section
variable {α : Type} [Inhabited α] {lt : α → α → Bool} {no : α → Nat}
theorem part_get (P Y Q : List α) (t : Nat) (h1 : P.length ≤ t) (h2 : t - P.length < Y.length) : (P ++ (Y ++ Q)).toArray[t]! = Y[t - P.length] := by
  rw [get_list (by simp only [List.length_append]; omega), List.getElem_append_right h1, List.getElem_append_left h2]
theorem part_le (P Y Q : List α) (hY : Y.Pairwise (sord lt no)) (s t : Nat) (h1 : P.length ≤ s) (h2 : s ≤ t) (h3 : t < P.length + Y.length) :
    (P ++ (Y ++ Q)).toArray[s]! = (P ++ (Y ++ Q)).toArray[t]! ∨ sord lt no (P ++ (Y ++ Q)).toArray[s]! (P ++ (Y ++ Q)).toArray[t]! := by
  rcases Nat.eq_or_lt_of_le h2 with e | e
  · exact Or.inl (by rw [e])
  · rw [part_get P Y Q s h1 (by omega), part_get P Y Q t (by omega) (by omega)]
    exact Or.inr (List.pairwise_iff_getElem.1 hY _ _ _ _ (by omega))
/-- Places of which none stands behind a later one. -/
def Goes (lt : α → α → Bool) (no : α → Nat) (A : Array α) (lo hi : Nat) : Prop := ∀ s t, lo ≤ s → s ≤ t → t < hi → A[s]! = A[t]! ∨ sord lt no A[s]! A[t]!
theorem Goes.lt_down (hO : SWO lt) {A : Array α} {lo hi : Nat} (h : Goes lt no A lo hi) {x : α} (s t : Nat) (h1 : lo ≤ s) (h2 : s ≤ t) (h3 : t < hi) (k : lt A[t]! x = true) : lt A[s]! x = true := by
  rcases h s t h1 h2 h3 with e | e
  · rw [e]; exact k
  · exact sord_up hO e k
theorem Goes.ge_down (hO : SWO lt) {A : Array α} {lo hi : Nat} (h : Goes lt no A lo hi) {x : α} (s t : Nat) (h1 : lo ≤ s) (h2 : s ≤ t) (h3 : t < hi) (k : lt x A[t]! = false) : lt x A[s]! = false := by
  rcases h s t h1 h2 h3 with e | e
  · rw [e]; exact k
  · exact sord_down hO e k
theorem part_take (P Y Q : List α) (p : α → Prop) (e : Nat) (he : e ≤ P.length + Y.length) (h : ∀ t, P.length ≤ t → t < e → p (P ++ (Y ++ Q)).toArray[t]!) : ∀ y ∈ Y.take (e - P.length), p y := by
  intro y hy
  obtain ⟨i, hi, rfl⟩ := List.getElem_of_mem hy
  rw [List.length_take] at hi
  rw [List.getElem_take]
  have := h (P.length + i) (by omega) (by omega)
  rw [part_get P Y Q _ (by omega) (by omega)] at this
  simpa using this
theorem part_drop (P Y Q : List α) (p : α → Prop) (e : Nat) (he : P.length ≤ e) (h : ∀ t, e ≤ t → t < P.length + Y.length → p (P ++ (Y ++ Q)).toArray[t]!) : ∀ y ∈ Y.drop (e - P.length), p y := by
  intro y hy
  obtain ⟨i, hi, rfl⟩ := List.getElem_of_mem hy
  rw [List.length_drop] at hi
  rw [List.getElem_drop]
  have := h (e + i) (by omega) (by omega)
  rw [part_get P Y Q _ (by omega) (by omega)] at this
  have e2 : e - P.length + i = e + i - P.length := by omega
  simp only [e2]
  exact this
/-- Both parts of a row. -/
structure Both (lt : α → α → Bool) (no : α → Nat) (P X Y Q : List α) (A : Array α) (a m b len : Nat) : Prop where
  eA : A = (P ++ (X ++ (Y ++ Q))).toArray
  hP : P.length = a
  hX : a + X.length = m
  hY : m + Y.length = b
  hlen : A.size = len
  oX : X.Pairwise (sord lt no)
  oY : Y.Pairwise (sord lt no)
  hno : ∀ x ∈ X, ∀ y ∈ Y, no x < no y
section
variable {P X Y Q : List α} {A : Array α} {a m b len : Nat}
omit [Inhabited α] in
theorem Both.size (h : Both lt no P X Y Q A a m b len) : b + Q.length = len := by
  have h1 := h.hlen
  rw [h.eA, List.size_toArray] at h1
  simp only [List.length_append] at h1
  have := h.hP; have := h.hX; have := h.hY
  omega
theorem Both.left (h : Both lt no P X Y Q A a m b len) : Goes lt no A a m := by
  intro s t h1 h2 h3
  rw [h.eA]
  exact part_le P X _ h.oX s t (by rw [h.hP]; exact h1) h2 (by rw [h.hP, h.hX]; exact h3)
theorem Both.right (h : Both lt no P X Y Q A a m b len) : Goes lt no A m b := by
  intro s t h1 h2 h3
  rw [h.eA, ← List.append_assoc P X]
  have e : (P ++ X).length = m := by rw [List.length_append, h.hP, h.hX]
  exact part_le (P ++ X) Y _ h.oY s t (by rw [e]; exact h1) h2 (by rw [e, h.hY]; exact h3)
theorem Both.take_left (h : Both lt no P X Y Q A a m b len) (p : α → Prop) (e : Nat) (he : e ≤ m) (k : ∀ t, a ≤ t → t < e → p A[t]!) : ∀ y ∈ X.take (e - a), p y := by
  rw [← h.hP]
  refine part_take P X (Y ++ Q) p e (by rw [h.hP, h.hX]; exact he) fun t h1 h2 => ?_
  rw [← h.eA]
  exact k t (by rw [← h.hP]; exact h1) h2
theorem Both.drop_left (h : Both lt no P X Y Q A a m b len) (p : α → Prop) (e : Nat) (he : a ≤ e) (k : ∀ t, e ≤ t → t < m → p A[t]!) : ∀ y ∈ X.drop (e - a), p y := by
  rw [← h.hP]
  refine part_drop P X (Y ++ Q) p e (by rw [h.hP]; exact he) fun t h1 h2 => ?_
  rw [← h.eA]
  exact k t h1 (by rw [← h.hX, ← h.hP]; exact h2)
theorem Both.take_right (h : Both lt no P X Y Q A a m b len) (p : α → Prop) (e : Nat) (he : e ≤ b) (k : ∀ t, m ≤ t → t < e → p A[t]!) : ∀ y ∈ Y.take (e - m), p y := by
  have e2 : (P ++ X).length = m := by rw [List.length_append, h.hP, h.hX]
  rw [← e2]
  refine part_take (P ++ X) Y Q p e (by rw [e2, h.hY]; exact he) fun t h1 h2 => ?_
  rw [List.append_assoc, ← h.eA]
  exact k t (by rw [← e2]; exact h1) h2
theorem Both.drop_right (h : Both lt no P X Y Q A a m b len) (p : α → Prop) (e : Nat) (he : m ≤ e) (k : ∀ t, e ≤ t → t < b → p A[t]!) : ∀ y ∈ Y.drop (e - m), p y := by
  have e2 : (P ++ X).length = m := by rw [List.length_append, h.hP, h.hX]
  rw [← e2]
  refine part_drop (P ++ X) Y Q p e (by rw [e2]; exact he) fun t h1 h2 => ?_
  rw [List.append_assoc, ← h.eA]
  exact k t h1 (by rw [← h.hY, ← e2]; exact h2)
/-- A cut of both parts at a found place. -/
theorem Both.cut (hO : SWO lt) (h : Both lt no P X Y Q A a m b len) (start stop c0 r0 mid : Nat) (h0 : c0 ≤ start) (h1 : start ≤ r0) (hn : mid + m = start + stop)
    (hc : (mid < m ∧ mid + m = c0 + b ∧ r0 = mid) ∨ (m ≤ mid ∧ c0 = a ∧ r0 = m)) (hab : a ≤ start ∧ start ≤ m ∧ m ≤ stop ∧ stop ≤ b)
    (f : ∀ c, c0 ≤ c → c < start → lt A[mid + m - 1 - c]! A[c]! = false) (t : ∀ c, start ≤ c → c < r0 → lt A[mid + m - 1 - c]! A[c]! = true) :
    (∀ x ∈ X.take (start - a), ∀ y ∈ Y.drop (stop - m), lt y x = false) ∧ (∀ y ∈ Y.take (stop - m), ∀ x ∈ X.drop (start - a), lt y x = true) := by
  constructor
  · refine h.take_left (fun x => ∀ y ∈ Y.drop (stop - m), lt y x = false) start hab.2.1 fun i i1 i2 => ?_
    refine h.drop_right (fun y => lt y A[i]! = false) stop hab.2.2.1 fun j j1 j2 => ?_
    have k := f (start - 1) (by omega) (by omega)
    rw [show mid + m - 1 - (start - 1) = stop from by omega] at k
    have k2 := h.left.ge_down hO i (start - 1) i1 (by omega) (by omega) k
    cases e : lt A[j]! A[i]! with
    | false => rfl
    | true => rw [h.right.lt_down hO stop j (by omega) j1 j2 e] at k2; cases k2
  · refine h.take_right (fun y => ∀ x ∈ X.drop (start - a), lt y x = true) stop hab.2.2.2 fun j j1 j2 => ?_
    refine h.drop_left (fun x => lt A[j]! x = true) start hab.1 fun i i1 i2 => ?_
    have k := t start (Nat.le_refl _) (by omega)
    rw [show mid + m - 1 - start = stop - 1 from by omega] at k
    have k2 := h.right.lt_down hO j (stop - 1) j1 (by omega) (by omega) k
    cases e : lt A[j]! A[i]! with
    | true => rfl
    | false => rw [h.left.ge_down hO start i (by omega) i1 i2 e] at k2; cases k2
/-- The test goes over from no to yes just once. -/
theorem Both.turns (hO : SWO lt) (h : Both lt no P X Y Q A a m b len) (n c d : Nat) (hcd : c ≤ d) (h1 : a ≤ c) (h2 : d < m) (h3 : m ≤ n - d) (h4 : n - c < b) (k : lt A[n - d]! A[d]! = false) : lt A[n - c]! A[c]! = false := by
  have k2 := h.left.ge_down hO c d h1 hcd h2 k
  cases e : lt A[n - c]! A[c]! with
  | false => rfl
  | true => rw [h.right.lt_down hO (n - d) (n - c) h3 (by omega) h4 e] at k2; cases k2
end
end
end Go.Proofs.Ytehpnfijpddcfaa
