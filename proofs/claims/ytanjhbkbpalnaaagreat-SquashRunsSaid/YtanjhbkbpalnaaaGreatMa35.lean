/-
 What the law of the last of these texts stands on, part 35.
-/
import Derived.Test.YtanjhbkbpalnaaaGreatMa19
set_option maxRecDepth 100000
set_option maxHeartbeats 8000000
open Go.Proofs.Tryz
namespace Go.Proofs.YtanjhbkbpalnaaaGreat
set_option linter.unusedSimpArgs false
set_option linter.unusedVariables false
open Go.ChangeShapes Go.WideShapes Go.ChangeAt Go.RowKit Go.Joins Go.Deep
theorem hisum_step (f d : Nat → Int) : ∀ (A B : List Int) (i : Nat), A.length = B.length → (∀ j (ha : j < A.length) (hb : j < B.length), A[j] = B[j] + d (i + j)) → isum (fun j c => c * f j) i A = isum (fun j c => c * f j) i B + isum (fun j _ => d j * f j) i B
 | [], [], _, _, _ => rfl
 | [], _ :: _, _, h, _ => by cases h
 | _ :: _, [], _, h, _ => by cases h
 | a :: s, b :: t, i, hl, h => by
  have h0 := h 0 (by simp) (by simp)
  have ih := hisum_step f d s t (i + 1) (by simpa using hl) fun j ha hb => by
   have := h (j + 1) (by simpa using ha) (by simpa using hb)
   rw [show i + (j + 1) = i + 1 + j from by omega] at this
   exact this
  simp only [qbv, qaE] at h0
  show a * f i + isum _ (i + 1) s = b * f i + isum _ (i + 1) t + (d i * f i + isum _ (i + 1) t)
  rw [ih, h0, Int.add_mul]
  omega
theorem hisum_none (y : Nat → Int) (k : Nat) : ∀ (B : List Int) (i : Nat), k < i → isum (fun j _ => (if j = k then 1 else 0) * y j) i B = 0
 | [], _, _ => rfl
 | b :: t, i, h => by
  show (if i = k then (1 : Int) else 0) * y i + isum _ (i + 1) t = 0
  rw [qae (by omega), hisum_none y k t (i + 1) (by omega)]
  simp
theorem hisum_one (y : Nat → Int) (k : Nat) : ∀ (B : List Int) (i : Nat), i ≤ k → k < i + B.length → isum (fun j _ => (if j = k then 1 else 0) * y j) i B = y k
 | [], i, h1, h2 => by simp at h2; omega
 | b :: t, i, h1, h2 => by
  rw [qap] at h2
  show (if i = k then (1 : Int) else 0) * y i + isum _ (i + 1) t = y k
  by_cases e : i = k
  ·subst e
   rw [qag rfl, hisum_none y i t (i + 1) (by omega)]
   simp
  ·rw [qae e, hisum_one y k t (i + 1) (by omega) (by omega)]
   simp
theorem yh2 (own : List Int) : ∀ l : List Int, hin l = true → isum (fun j c => c * own.getD j 0) 0 (yam l) = ydO own l
 | [], _ => by
  rw [hcount_nil]
  have : ∀ (n i : Nat), isum (fun j c => c * own.getD j 0) i (List.replicate n (0 : Int)) = 0 := by
   intro n
   induction n with
   | zero => intro i; rfl
   | succ n ih =>
    intro i
    rw [qaP]
    show 0 * own.getD i 0 + isum _ (i + 1) _ = 0
    rw [ih]
    simp
  rw [this]
  rfl
 | x :: t, hi => by
  have h1 := yh1 hi
  have hx := h1 x (qa5 ..)
  have ht : hin t = true := hin_of fun y hy => h1 y (qa4 _ hy)
  rw [hisum_step (fun j => own.getD j 0) (fun j => if j = x.toNat then 1 else 0) (yam (x :: t)) (yam t) 0 (by rw [yak, yak]) (fun j ha hb => by
   rw [ya7, ya7, List.count_cons, qaz]
   by_cases e : j = x.toNat
   ·have e3 : (x == (j : Int)) = true := by rw [qcL]; omega
    rw [qag e3, qag e]
    omega
   ·have e3 : ¬ (x == (j : Int)) = true := by rw [qcL]; omega
    rw [qae e3, qae e]
    omega), yh2 own t ht, hisum_one (fun j => own.getD j 0) x.toNat (yam t) 0 (qcb _) (by rw [yak]; omega)]
  show ydO own t + own.getD x.toNat 0 = own.getD x.toNat 0 + ydO own t
  omega
theorem yeP {l : List Int} (h : l.length ≤ 100000) (hi : hin l = true) (own : List Int) (hl : own.length = 257) (hb : ∀ j (h : j < own.length), 0 ≤ own[j] ∧ own[j] ≤ 15) : yhr (yam l) own = ydO own l := by
 rw [ydv (fun j => own.getD j 0) (yam l) own (by rw [yak]; omega) (by rw [yak]; exact hl) (fun j h => by rw [qaj, qah h]; rfl) (fun j h2 => ydh (ybP h) j h2) hb, yh2 own l hi]
theorem hsize_is {l : List Int} (h : l.length ≤ 100000) (hi : hin l = true) : ((hB l).length : Int) = ((yaw (hL l)).length : Int) + yhr (yam l) (hL l) := by
 have hg := (ydl (yck h)).2
 obtain ⟨h1, _⟩ := cbits_size hg l (hL_word h hi)
 rw [yeP h hi (hL l) (yce l) (fun j hj => yaJ hg j hj), ← h1]
 unfold hB hws
 rw [qab]
 omega
theorem yek : ∀ (a b : List Int) (n : Nat), ccost a (b ++ List.replicate n 0) = ccost a b
 | [], b, n => by rw [yex [] _ (qay rfl), yex [] _ (qay rfl)]
 | c :: t, [], n => by
  rw [yex (c :: t) [] (qaI rfl), qbc]
  cases n with
  | zero => rfl
  | succ n =>
   rw [qaP]
   show cterm c 0 + ccost t (List.replicate n 0) = 0
   have := yek t [] n
   rw [qbc, yex t [] (qaI rfl)] at this
   rw [this]
   unfold cterm
   split <;> simp
 | c :: t, l :: u, n => by
  show cterm c l + ccost t (u ++ List.replicate n 0) = cterm c l + ccost t u
  rw [yek t u n]
theorem ygz : ∀ (b : List Int) (n : Nat), yap (b ++ List.replicate n 0) = yap b
 | [], n => by
  induction n with
  | zero => rfl
  | succ n ih =>
   rw [qbc] at ih ⊢
   rw [qaP]
   show (if (0 : Int) < 0 then _ else 0) + yap (List.replicate n 0) = _
   rw [ih, qae (by omega)]
   simp [yap]
 | x :: t, n => by
  show (if 0 < x then _ else 0) + yap (t ++ List.replicate n 0) = (if 0 < x then _ else 0) + yap t
  rw [ygz t n]
theorem partF_some : ∀ (a b : List Int), a.length = b.length → (∀ j (ha : j < a.length) (hb : j < b.length), a[j] = 0 ∨ a[j] = b[j]) → yap a ≤ yap b
 | [], [], _, _ => qad _
 | [], _ :: _, h, _ => by cases h
 | _ :: _, [], h, _ => by cases h
 | x :: s, y :: t, hl, h => by
  have h0 := h 0 (by simp) (by simp)
  have ih := partF_some s t (by simpa using hl) fun j ha hb => by
   have := h (j + 1) (by simpa using ha) (by simpa using hb)
   simpa using this
  simp only [qaE] at h0
  show (if 0 < x then 2 ^ (15 - x.toNat) else 0) + yap s ≤ (if 0 < y then 2 ^ (15 - y.toNat) else 0) + yap t
  rcases h0 with h0 | h0
  ·rw [qae (by omega)]
   omega
  ·rw [h0]
   omega
theorem hleast {l : List Int} (h : l.length ≤ 100000) (hi : hin l = true) (other : List Int) (hc : yat other = 0) (hs : ∀ s ∈ l, ∃ hk : s.toNat < other.length, other[s.toNat] ≠ 0) : yhr (yam l) (hL l) ≤ yhr (yam l) other := by
 obtain ⟨ho, hg, hca⟩ := ycj hc
 rw [yg7] at hca
 obtain ⟨E, hE⟩ : ∃ E : List Int, other ++ List.replicate (257 - other.length) 0 = E := ⟨_, rfl⟩
 have hEl : E.length = 257 := by rw [← hE, qab, qav]; omega
 have hEg : ∀ j (hj : j < E.length), 0 ≤ E[j] ∧ E[j] ≤ 15 := fun j hj => by
  subst hE
  rw [List.getElem_append]
  split
  ·exact yaJ hg j _
  ·rw [qbW]; omega
 have hEc : yhr (yam l) other = yhr (yam l) E := by
  unfold yhr
  rw [qar (by rw [yak]; omega : (yam l).length ≤ 257), qar ho, qar (by omega : E.length ≤ 257), ← hE, yek]
 have hEp : yap E ≤ 32768 := by rw [← hE, ygz]; exact hca
 have hEs : ∀ s ∈ l, 0 < E.getD s.toNat 0 := fun s hsl => by
  obtain ⟨hk, hne⟩ := hs s hsl
  have := yaJ hg s.toNat hk
  rw [← hE, qaj, qbN hk, qah hk]
  show 0 < other[s.toNat]
  omega
 clear hc hs hg hca hE
 obtain ⟨own, hown⟩ : ∃ own : List Int, (List.range 257).map (fun j : Nat => if 0 < l.count (j : Int) then E.getD j 0 else 0) = own := ⟨_, rfl⟩
 have hol : own.length = 257 := by rw [← hown, qaD, qa7]
 have hog : ∀ j (hj : j < own.length), own[j] = if 0 < l.count (j : Int) then E.getD j 0 else 0 := fun j hj => by
  have e : own[j]? = some (if 0 < l.count (j : Int) then E.getD j 0 else 0) := by
   rw [← hown, List.getElem?_map, List.getElem?_range (by omega)]
   rfl
  rw [qah hj] at e
  injection e
 have hEd : ∀ j (hj : j < E.length), E.getD j 0 = E[j] := fun j hj => by rw [qaj, qah hj]; rfl
 have hor : ∀ j (hj : j < own.length), 0 ≤ own[j] ∧ own[j] ≤ 15 := fun j hj => by
  rw [hog j hj]
  split
  ·rw [hEd j (by omega)]; exact hEg j _
  ·omega
 have hsum : ydO own l = ydO E l := by
  have : ∀ t : List Int, (∀ s ∈ t, s ∈ l) → ydO own t = ydO E t := by
   intro t
   induction t with
   | nil => intro _; rfl
   | cons s t ih =>
    intro ht
    have hsl := ht s (qa5 ..)
    have hr := yh1 hi s hsl
    show own.getD s.toNat 0 + ydO own t = E.getD s.toNat 0 + ydO E t
    rw [ih fun u hu => ht u (qa4 _ hu)]
    have hk : s.toNat < own.length := by omega
    rw [qaj, qah hk, qbG, hog _ hk, qag]
    rw [show ((s.toNat : Nat) : Int) = s from by omega]
    exact List.count_pos_iff.2 hsl
  exact this l fun s hs => hs
 have hp : ∀ j (hj : j < own.length) (hc : j < (yam l).length), 0 < own[j] ↔ 0 < (yam l)[j] := fun j hj hcj => by
  rw [hog j hj, ya7]
  by_cases e : 0 < l.count (j : Int)
  ·rw [qag e]
   have hm := List.count_pos_iff.1 e
   have := hEs _ hm
   rw [qan] at this
   constructor
   ·intro _; omega
   ·intro _; exact this
  ·rw [qae e]
   omega
 have hpart : (yap own : Int) ≤ 32768 := by
  have := partF_some own E (by omega) fun j ha hb => by
   rw [hog j ha]
   split
   ·exact qaI (hEd j hb)
   ·exact qay rfl
  omega
 have := lbestL_least (counts := yam l) (L := 15) ⟨by omega, by omega⟩ (ybP h) (hleaves l) (by rw [yak]; omega) own (by rw [yak]; exact hol) hor hp hpart
 rw [hEc, yeP h hi E hEl hEg, ← hsum, ← yeP h hi own hol hor]
 exact this
end Go.Proofs.YtanjhbkbpalnaaaGreat
