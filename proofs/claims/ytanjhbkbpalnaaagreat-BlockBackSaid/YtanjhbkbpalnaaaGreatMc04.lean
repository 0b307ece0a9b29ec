/-
 What the law of the last of these texts stands on, part 4.
-/
import Derived.Test.YtanjhbkbpalnaaaGreatMc01
import Derived.Shelf.SlSortCmp.KitK
set_option maxRecDepth 100000
set_option maxHeartbeats 8000000
open Go.Proofs.Tryz
namespace Go.Proofs.YtanjhbkbpalnaaaGreat
set_option linter.unusedSimpArgs false
set_option linter.unusedVariables false
open Go.Sort
section
variable {α : Type} {lt : α → α → Bool} {no : α → Nat}
def sord (lt : α → α → Bool) (no : α → Nat) (x y : α) : Prop := lt x y = true ∨ (lt y x = false ∧ no x < no y)
theorem sord_down (h : SWO lt) {x u v : α} (s : sord lt no u v) (k : lt x v = false) : lt x u = false := by
 rcases s with s | ⟨s, _⟩
 ·cases e : lt x u with
  | false => rfl
  | true => rw [h.trans x u v e s] at k; cases k
 ·exact h.ntrans x v u k s
theorem sord_up (h : SWO lt) {x u v : α} (s : sord lt no u v) (k : lt v x = true) : lt u x = true := by
 rcases s with s | ⟨s, _⟩
 ·exact h.trans u v x s k
 ·cases e : lt u x with
  | true => rfl
  | false => rw [h.ntrans v u x s e] at k; cases k
theorem sord_asymm (h : SWO lt) {x y : α} (s : sord lt no x y) (k : sord lt no y x) : False := by
 rcases s with s | ⟨s, s2⟩ <;> rcases k with k | ⟨k, k2⟩
 ·have := h.trans x y x s k; rw [h.irrefl] at this; cases this
 ·rw [s] at k; cases k
 ·rw [s] at k; cases k
 ·omega
theorem ybB {r : α → α → Prop} (ha : ∀ x y, r x y → r y x → False) : ∀ {l1 l2 : List α}, l1.Perm l2 → l1.Pairwise r → l2.Pairwise r → l1 = l2
 | [], l2, p, _, _ => by rw [List.nil_perm.1 p]
 | x :: t, [], p, _, _ => by simp at p
 | x :: t, y :: u, p, h1, h2 => by
  have hxy : x = y := by
   have hx : x ∈ y :: u := p.subset (qa4 ..)
   have hy : y ∈ x :: t := p.symm.subset (qa4 ..)
   rcases qaB.1 hx with e | hx
   ·exact e
   ·rcases qaB.1 hy with e | hy
    ·exact e.symm
    ·exact (ha x y ((qa7.1 h1).1 y hy) ((qa7.1 h2).1 x hx)).elim
  subst hxy
  rw [ybB ha (List.Perm.cons_inv p) (qa7.1 h1).2 (qa7.1 h2).2]
theorem merge_cut {L1 L2 R1 R2 A B : List α} (hL : (L1 ++ L2).Pairwise (sord lt no)) (hR : (R1 ++ R2).Pairwise (sord lt no)) (hid : ∀ x ∈ L1 ++ L2, ∀ y ∈ R1 ++ R2, no x < no y)
  (c1 : ∀ x ∈ L1, ∀ y ∈ R2, lt y x = false) (c2 : ∀ y ∈ R1, ∀ x ∈ L2, lt y x = true) (pA : A.Perm (L1 ++ R1)) (pB : B.Perm (L2 ++ R2)) (hA : A.Pairwise (sord lt no)) (hB : B.Pairwise (sord lt no)) :
  (A ++ B).Perm ((L1 ++ L2) ++ (R1 ++ R2)) ∧ (A ++ B).Pairwise (sord lt no) := by
 constructor
 ·refine (pA.append pB).trans ?_
  rw [qak, qak]
  refine qct L1 ?_
  rw [← qak, ← qak]
  exact List.Perm.append_right R2 List.perm_append_comm
 ·rw [qa2]
  refine ⟨hA, hB, fun x hx y hy => ?_⟩
  obtain ⟨_, _, l3⟩ := qa2.1 hL
  obtain ⟨_, _, r3⟩ := qa2.1 hR
  rcases qbm.1 (pA.subset hx) with hx | hx <;> rcases qbm.1 (pB.subset hy) with hy | hy
  ·exact l3 x hx y hy
  ·exact qaK ⟨c1 x hx y hy, hid x (qbu _ hx) y (qbj _ hy)⟩
  ·exact qas (c2 x hx y hy)
  ·exact r3 x hx y hy
variable [Inhabited α]
theorem ycX (P Q : List α) (x : α) (i : Nat) (hi : i = P.length) : (P ++ x :: Q).toArray[i]! = x := by
 subst hi
 simp
theorem get_list {l : List α} {i : Nat} (h : i < l.length) : l.toArray[i]! = l[i] := by
 rw [getElem!_pos l.toArray i (by simpa using h)]
 simp
theorem yfL (P M Q : List α) (x y : α) (i j : Nat) (hi : i = P.length) (hj : j = P.length + 1 + M.length) : swp (P ++ x :: (M ++ y :: Q)).toArray i j = (P ++ y :: (M ++ x :: Q)).toArray := by
 have e1 : (P ++ x :: (M ++ y :: Q)).toArray[i]! = x := ycX P _ x i hi
 have e2 : (P ++ x :: (M ++ y :: Q)).toArray[j]! = y := by
  rw [show P ++ x :: (M ++ y :: Q) = (P ++ x :: M) ++ y :: Q from by simp]
  exact ycX _ _ y j (by rw [qae, qau]; omega)
 unfold swp
 rw [e1, e2, qab, qab]
 subst hi
 rw [qbY _ _ (qaf _), qcc, qad]
 rw [show P ++ y :: (M ++ y :: Q) = (P ++ y :: M) ++ y :: Q from by simp, qbY _ _ (by rw [qae, qau]; omega)]
 rw [show j - (P ++ y :: M).length = 0 from by rw [qae, qau]; omega, qad]
 simp
theorem swp_comm' (d : Array α) (i j : Nat) (hi : i < d.size) (hj : j < d.size) : swp d i j = swp d j i := by
 apply Array.ext
 ·rw [swp_size, swp_size]
 ·intro t h1 h2
  rw [← getElem!_pos, ← getElem!_pos, swp_get d hi hj, swp_get d hj hi]
  by_cases e : t = j
  ·by_cases e2 : t = i
   ·rw [qah e, qah e2, ← e2, ← e]
   ·rw [qah e, qag e2, qah e]
  ·by_cases e2 : t = i
   ·rw [qag e, qah e2, qah e2]
   ·rw [qag e, qag e2, qag e2, qag e]
def insR (lt : α → α → Bool) : List α → α → List α
 | [], x => [x]
 | t :: r, x => if lt x t = true then insR lt r x ++ [t] else r.reverse ++ [t, x]
theorem yer (P : List α) (x : α) : ∀ (r V : List α), insInner lt P.length (P.length + r.length) (P ++ r.reverse ++ x :: V).toArray = (P ++ insR lt r x ++ V).toArray
 | [], V => by
  rw [insInner_stop _ _ _ _ (qas (by simp))]
  simp [insR]
 | t :: r, V => by
  have e1 : (P ++ (t :: r).reverse ++ x :: V).toArray[P.length + (t :: r).length]! = x := ycX _ _ _ _ (by simp)
  have e2 : (P ++ (t :: r).reverse ++ x :: V).toArray[P.length + (t :: r).length - 1]! = t := by
   rw [show P ++ (t :: r).reverse ++ x :: V = (P ++ r.reverse) ++ t :: (x :: V) from by simp]
   exact ycX _ _ _ _ (by simp)
  by_cases h : lt x t = true
  ·rw [insInner_go _ _ _ _ (by simp) (by rw [e1, e2]; exact h)]
   have hs : swp (P ++ (t :: r).reverse ++ x :: V).toArray (P.length + (t :: r).length) (P.length + (t :: r).length - 1) = (P ++ r.reverse ++ x :: (t :: V)).toArray := by
    rw [swp_comm' _ _ _ (by simp) (by simp <;> omega)]
    rw [show P ++ (t :: r).reverse ++ x :: V = (P ++ r.reverse) ++ t :: ([] ++ x :: V) from by simp]
    rw [yfL (P ++ r.reverse) [] V t x _ _ (by simp) (by simp <;> omega)]
    simp
   rw [hs, show P.length + (t :: r).length - 1 = P.length + r.length from by simp, yer P x r (t :: V)]
   rw [show insR lt (t :: r) x = insR lt r x ++ [t] from qah h]
   simp
  ·rw [insInner_stop _ _ _ _ (qaK (by rw [e1, e2]; simpa using h))]
   unfold insR
   rw [qag h]
   simp
omit [Inhabited α] in
theorem yhn (x : α) : ∀ r : List α, (insR lt r x).Perm (r.reverse ++ [x])
 | [] => by simp [insR]
 | t :: r => by
  unfold insR
  split
  ·refine ((yhn x r).append_right [t]).trans ?_
   rw [List.reverse_cons, qak, qak]
   exact qct _ List.perm_append_comm
  ·simp
omit [Inhabited α] in
theorem insR_order (h : SWO lt) (x : α) : ∀ r : List α, (r.reverse).Pairwise (sord lt no) → (∀ t ∈ r, no t < no x) → (insR lt r x).Pairwise (sord lt no)
 | [], _, _ => by simp [insR]
 | t :: r, hp, hn => by
  rw [List.reverse_cons] at hp
  obtain ⟨p1, _, p3⟩ := qa2.1 hp
  unfold insR
  split
  ·rename_i hx
   rw [qa2]
   refine ⟨insR_order h x r p1 fun u hu => hn u (qa3 _ hu), by simp, ?_⟩
   intro u hu v hv
   obtain rfl : v = t := by simpa using hv
   rcases qbm.1 ((yhn x r).subset hu) with hu | hu
   ·exact p3 u hu v (by simp)
   ·obtain rfl : u = x := by simpa using hu
    exact qas hx
  ·rename_i hx
   have hx' : lt x t = false := by simpa using hx
   rw [show r.reverse ++ [t, x] = (r.reverse ++ [t]) ++ [x] from by simp, qa2]
   refine ⟨hp, by simp, ?_⟩
   intro u hu v hv
   obtain rfl : v = x := by simpa using hv
   rcases qbm.1 hu with hu | hu
   ·exact qaK ⟨sord_down h (p3 u hu t (by simp)) hx', hn u (by simp at hu; simp [hu])⟩
   ·obtain rfl : u = t := by simpa using hu
    exact qaK ⟨hx', hn u (by simp)⟩
theorem ye5 (h : SWO lt) (P Q : List α) : ∀ (U T : List α), T.Pairwise (sord lt no) → (∀ t ∈ T, ∀ u ∈ U, no t < no u) → U.Pairwise (fun a b => no a < no b) →
  ∃ S, S.Perm (T ++ U) ∧ S.Pairwise (sord lt no) ∧ insOuter lt P.length (P.length + T.length + U.length) (P.length + T.length) (P ++ (T ++ U) ++ Q).toArray = (P ++ S ++ Q).toArray
 | [], T, hT, _, _ => ⟨T, by simp, hT, by rw [insOuter_stop _ _ _ _ _ (by simp)]; simp⟩
 | x :: U, T, hT, hn, hU => by
  obtain ⟨u1, u2⟩ := qa7.1 hU
  have hin := yer (lt := lt) P x T.reverse (U ++ Q)
  rw [List.reverse_reverse, List.length_reverse] at hin
  have hp := yhn (lt := lt) x T.reverse
  rw [List.reverse_reverse] at hp
  obtain ⟨S, s1, s2, s3⟩ := ye5 h P Q U (insR lt T.reverse x) (insR_order h x T.reverse (by rw [List.reverse_reverse]; exact hT) fun t ht => hn t (by simpa using ht) x (qa4 ..)) (fun t ht u hu => by
   rcases qbm.1 (hp.subset ht) with ht | ht
   ·exact hn t ht u (qa3 _ hu)
   ·obtain rfl : t = x := by simpa using ht
    exact u1 u hu) u2
  refine ⟨S, s1.trans ?_, s2, ?_⟩
  ·refine (hp.append_right U).trans ?_
   simp
  ·have hl : (insR lt T.reverse x).length = T.length + 1 := by rw [hp.length_eq]; simp
   rw [insOuter_go _ _ _ _ _ (by simp), show P ++ (T ++ x :: U) ++ Q = P ++ T ++ x :: (U ++ Q) from by simp, hin]
   rw [hl, show P.length + (T.length + 1) + U.length = P.length + T.length + (x :: U).length from by simp; omega, show P.length + (T.length + 1) = P.length + T.length + 1 from by omega] at s3
   rw [← s3]
   simp
theorem insertion_list (h : SWO lt) (P S Q : List α) (hS : S.Pairwise (fun a b => no a < no b)) : ∃ S', S'.Perm S ∧ S'.Pairwise (sord lt no) ∧ insertionSort lt (P ++ S ++ Q).toArray P.length (P.length + S.length) = (P ++ S' ++ Q).toArray := by
 unfold insertionSort
 cases S with
 | nil => exact ⟨[], qcx _, qb8, by rw [insOuter_stop _ _ _ _ _ (by simp)]⟩
 | cons x U =>
  obtain ⟨u1, u2⟩ := qa7.1 hS
  obtain ⟨S', s1, s2, s3⟩ := ye5 (no := no) h P Q U [x] (by simp) (fun t ht u hu => by have e : t = x := (by simpa using ht); rw [e]; exact u1 u hu) u2
  refine ⟨S', s1, s2, ?_⟩
  rw [← s3]
  simp [qcn, qc9 1]
inductive Blks (lt : α → α → Bool) (no : α → Nat) (bs : Nat) : List α → Prop
 | last {l : List α} : l.length ≤ bs → l.Pairwise (sord lt no) → Blks lt no bs l
 | cons {l t : List α} : l.length = bs → l.Pairwise (sord lt no) → (∀ x ∈ l, ∀ y ∈ t, no x < no y) → Blks lt no bs t → Blks lt no bs (l ++ t)
omit [Inhabited α] in
theorem Blks.one {bs : Nat} {U : List α} (h : Blks lt no bs U) (hb : U.length ≤ bs) : U.Pairwise (sord lt no) := by
 cases h with
 | last _ h => exact h
 | cons h1 h2 h3 h4 =>
  rename_i l t
  rw [qae] at hb
  have : t = [] := qaz.1 (by omega)
  subst this
  simpa using h2
omit [Inhabited α] in
theorem Blks.more {bs : Nat} {U : List α} (h : Blks lt no bs U) (hb : bs < U.length) : ∃ l t, U = l ++ t ∧ l.length = bs ∧ l.Pairwise (sord lt no) ∧ (∀ x ∈ l, ∀ y ∈ t, no x < no y) ∧ Blks lt no bs t := by
 cases h with
 | last h _ => omega
 | cons h1 h2 h3 h4 => exact ⟨_, _, rfl, h1, h2, h3, h4⟩
end
section
variable {α : Type} [Inhabited α] {lt : α → α → Bool} {no : α → Nat}
theorem yf5 (P Y Q : List α) (t : Nat) (h1 : P.length ≤ t) (h2 : t - P.length < Y.length) : (P ++ (Y ++ Q)).toArray[t]! = Y[t - P.length] := by
 rw [get_list (by simp only [qae]; omega), List.getElem_append_right h1, List.getElem_append_left h2]
theorem part_le (P Y Q : List α) (hY : Y.Pairwise (sord lt no)) (s t : Nat) (h1 : P.length ≤ s) (h2 : s ≤ t) (h3 : t < P.length + Y.length) :
  (P ++ (Y ++ Q)).toArray[s]! = (P ++ (Y ++ Q)).toArray[t]! ∨ sord lt no (P ++ (Y ++ Q)).toArray[s]! (P ++ (Y ++ Q)).toArray[t]! := by
 rcases Nat.eq_or_lt_of_le h2 with e | e
 ·exact qas (by rw [e])
 ·rw [yf5 P Y Q s h1 (by omega), yf5 P Y Q t (by omega) (by omega)]
  exact qaK (qbd.1 hY _ _ _ _ (by omega))
def Goes (lt : α → α → Bool) (no : α → Nat) (A : Array α) (lo hi : Nat) : Prop := ∀ s t, lo ≤ s → s ≤ t → t < hi → A[s]! = A[t]! ∨ sord lt no A[s]! A[t]!
theorem Goes.lt_down (hO : SWO lt) {A : Array α} {lo hi : Nat} (h : Goes lt no A lo hi) {x : α} (s t : Nat) (h1 : lo ≤ s) (h2 : s ≤ t) (h3 : t < hi) (k : lt A[t]! x = true) : lt A[s]! x = true := by
 rcases h s t h1 h2 h3 with e | e
 ·rw [e]; exact k
 ·exact sord_up hO e k
theorem Goes.ge_down (hO : SWO lt) {A : Array α} {lo hi : Nat} (h : Goes lt no A lo hi) {x : α} (s t : Nat) (h1 : lo ≤ s) (h2 : s ≤ t) (h3 : t < hi) (k : lt x A[t]! = false) : lt x A[s]! = false := by
 rcases h s t h1 h2 h3 with e | e
 ·rw [e]; exact k
 ·exact sord_down hO e k
theorem part_take (P Y Q : List α) (p : α → Prop) (e : Nat) (he : e ≤ P.length + Y.length) (h : ∀ t, P.length ≤ t → t < e → p (P ++ (Y ++ Q)).toArray[t]!) : ∀ y ∈ Y.take (e - P.length), p y := by
 intro y hy
 obtain ⟨i, hi, rfl⟩ := qaI hy
 rw [qao] at hi
 rw [List.getElem_take]
 have := h (P.length + i) (by omega) (by omega)
 rw [yf5 P Y Q _ (by omega) (by omega)] at this
 simpa using this
theorem part_drop (P Y Q : List α) (p : α → Prop) (e : Nat) (he : P.length ≤ e) (h : ∀ t, e ≤ t → t < P.length + Y.length → p (P ++ (Y ++ Q)).toArray[t]!) : ∀ y ∈ Y.drop (e - P.length), p y := by
 intro y hy
 obtain ⟨i, hi, rfl⟩ := qaI hy
 rw [qat] at hi
 rw [qbX]
 have := h (e + i) (by omega) (by omega)
 rw [yf5 P Y Q _ (by omega) (by omega)] at this
 have e2 : e - P.length + i = e + i - P.length := by omega
 simp only [e2]
 exact this
structure Both (lt : α → α → Bool) (no : α → Nat) (P X Y Q : List α) (A : Array α) (a m b len : Nat) : Prop where
 eA : A = (P ++ (X ++ (Y ++ Q))).toArray
 hP : P.length = a
 hX : a + X.length = m
 hY : m + Y.length = b
 hlen : A.size = len
 oX : X.Pairwise (sord lt no)
 oY : Y.Pairwise (sord lt no)
 hno : ∀ x ∈ X, ∀ y ∈ Y, no x < no y
section
variable {P X Y Q : List α} {A : Array α} {a m b len : Nat}
omit [Inhabited α] in
theorem Both.size (h : Both lt no P X Y Q A a m b len) : b + Q.length = len := by
 have h1 := h.hlen
 rw [h.eA, qaA] at h1
 simp only [qae] at h1
 have := h.hP; have := h.hX; have := h.hY
 omega
theorem Both.left (h : Both lt no P X Y Q A a m b len) : Goes lt no A a m := by
 intro s t h1 h2 h3
 rw [h.eA]
 exact part_le P X _ h.oX s t (by rw [h.hP]; exact h1) h2 (by rw [h.hP, h.hX]; exact h3)
theorem Both.right (h : Both lt no P X Y Q A a m b len) : Goes lt no A m b := by
 intro s t h1 h2 h3
 rw [h.eA, ← qak P X]
 have e : (P ++ X).length = m := by rw [qae, h.hP, h.hX]
 exact part_le (P ++ X) Y _ h.oY s t (by rw [e]; exact h1) h2 (by rw [e, h.hY]; exact h3)
theorem Both.take_left (h : Both lt no P X Y Q A a m b len) (p : α → Prop) (e : Nat) (he : e ≤ m) (k : ∀ t, a ≤ t → t < e → p A[t]!) : ∀ y ∈ X.take (e - a), p y := by
 rw [← h.hP]
 refine part_take P X (Y ++ Q) p e (by rw [h.hP, h.hX]; exact he) fun t h1 h2 => ?_
 rw [← h.eA]
 exact k t (by rw [← h.hP]; exact h1) h2
theorem Both.drop_left (h : Both lt no P X Y Q A a m b len) (p : α → Prop) (e : Nat) (he : a ≤ e) (k : ∀ t, e ≤ t → t < m → p A[t]!) : ∀ y ∈ X.drop (e - a), p y := by
 rw [← h.hP]
 refine part_drop P X (Y ++ Q) p e (by rw [h.hP]; exact he) fun t h1 h2 => ?_
 rw [← h.eA]
 exact k t h1 (by rw [← h.hX, ← h.hP]; exact h2)
theorem Both.take_right (h : Both lt no P X Y Q A a m b len) (p : α → Prop) (e : Nat) (he : e ≤ b) (k : ∀ t, m ≤ t → t < e → p A[t]!) : ∀ y ∈ Y.take (e - m), p y := by
 have e2 : (P ++ X).length = m := by rw [qae, h.hP, h.hX]
 rw [← e2]
 refine part_take (P ++ X) Y Q p e (by rw [e2, h.hY]; exact he) fun t h1 h2 => ?_
 rw [qak, ← h.eA]
 exact k t (by rw [← e2]; exact h1) h2
theorem Both.drop_right (h : Both lt no P X Y Q A a m b len) (p : α → Prop) (e : Nat) (he : m ≤ e) (k : ∀ t, e ≤ t → t < b → p A[t]!) : ∀ y ∈ Y.drop (e - m), p y := by
 have e2 : (P ++ X).length = m := by rw [qae, h.hP, h.hX]
 rw [← e2]
 refine part_drop (P ++ X) Y Q p e (by rw [e2]; exact he) fun t h1 h2 => ?_
 rw [qak, ← h.eA]
 exact k t h1 (by rw [← h.hY, ← e2]; exact h2)
theorem Both.cut (hO : SWO lt) (h : Both lt no P X Y Q A a m b len) (start stop c0 r0 mid : Nat) (h0 : c0 ≤ start) (h1 : start ≤ r0) (hn : mid + m = start + stop)
  (hc : (mid < m ∧ mid + m = c0 + b ∧ r0 = mid) ∨ (m ≤ mid ∧ c0 = a ∧ r0 = m)) (hab : a ≤ start ∧ start ≤ m ∧ m ≤ stop ∧ stop ≤ b)
  (f : ∀ c, c0 ≤ c → c < start → lt A[mid + m - 1 - c]! A[c]! = false) (t : ∀ c, start ≤ c → c < r0 → lt A[mid + m - 1 - c]! A[c]! = true) :
  (∀ x ∈ X.take (start - a), ∀ y ∈ Y.drop (stop - m), lt y x = false) ∧ (∀ y ∈ Y.take (stop - m), ∀ x ∈ X.drop (start - a), lt y x = true) := by
 constructor
 ·refine h.take_left (fun x => ∀ y ∈ Y.drop (stop - m), lt y x = false) start hab.2.1 fun i i1 i2 => ?_
  refine h.drop_right (fun y => lt y A[i]! = false) stop hab.2.2.1 fun j j1 j2 => ?_
  have k := f (start - 1) (by omega) (by omega)
  rw [show mid + m - 1 - (start - 1) = stop from by omega] at k
  have k2 := h.left.ge_down hO i (start - 1) i1 (by omega) (by omega) k
  cases e : lt A[j]! A[i]! with
  | false => rfl
  | true => rw [h.right.lt_down hO stop j (by omega) j1 j2 e] at k2; cases k2
 ·refine h.take_right (fun y => ∀ x ∈ X.drop (start - a), lt y x = true) stop hab.2.2.2 fun j j1 j2 => ?_
  refine h.drop_left (fun x => lt A[j]! x = true) start hab.1 fun i i1 i2 => ?_
  have k := t start (qaf _) (by omega)
  rw [show mid + m - 1 - start = stop - 1 from by omega] at k
  have k2 := h.right.lt_down hO j (stop - 1) j1 (by omega) (by omega) k
  cases e : lt A[j]! A[i]! with
  | true => rfl
  | false => rw [h.left.ge_down hO start i (by omega) i1 i2 e] at k2; cases k2
theorem Both.turns (hO : SWO lt) (h : Both lt no P X Y Q A a m b len) (n c d : Nat) (hcd : c ≤ d) (h1 : a ≤ c) (h2 : d < m) (h3 : m ≤ n - d) (h4 : n - c < b) (k : lt A[n - d]! A[d]! = false) : lt A[n - c]! A[c]! = false := by
 have k2 := h.left.ge_down hO c d h1 hcd h2 k
 cases e : lt A[n - c]! A[c]! with
 | false => rfl
 | true => rw [h.right.lt_down hO (n - d) (n - c) h3 (by omega) h4 e] at k2; cases k2
end
end
end Go.Proofs.YtanjhbkbpalnaaaGreat
