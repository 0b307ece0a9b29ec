/-
 What the law of the last of these texts stands on, part 5.
-/
import Derived.Test.YtanjhbkbpalnaaaGreatMb01
set_option maxRecDepth 100000
set_option maxHeartbeats 8000000
open Go.Proofs.Tryz
namespace Go.Proofs.YtanjhbkbpalnaaaGreat
set_option linter.unusedSimpArgs false
set_option linter.unusedVariables false
open Go.ChangeShapes Go.WideShapes Go.ChangeAt Go.RowKit Go.Joins Go.Deep
def lof (A : List Nat) (r : Nat) : Nat := (A.filter (fun a => decide (r < a))).length
def lpart : List Nat → Nat → Nat
 | [], _ => 0
 | a :: t, r => (if r < a then 2 ^ t.length else 0) + lpart t r
def rsum (g : Nat → Nat) : Nat → Nat
 | 0 => 0
 | n + 1 => rsum g n + g n
theorem rsum_add (g h : Nat → Nat) : ∀ n, rsum (fun r => g r + h r) n = rsum g n + rsum h n
 | 0 => rfl
 | n + 1 => by
  simp only [rsum, rsum_add g h n]
  omega
theorem rsum_congr {g h : Nat → Nat} : ∀ n, (∀ r, r < n → g r = h r) → rsum g n = rsum h n
 | 0, _ => rfl
 | n + 1, e => by
  simp only [rsum]
  rw [rsum_congr n fun r hr => e r (by omega), e n (by omega)]
theorem ye6 (c : Nat) : ∀ n, rsum (fun _ => c) n = c * n
 | 0 => rfl
 | n + 1 => by
  simp only [rsum, ye6 c n, Nat.mul_succ]
theorem rsum_below (c a : Nat) : ∀ n, rsum (fun r => if r < a then c else 0) n = c * min a n
 | 0 => by simp [rsum]
 | n + 1 => by
  simp only [rsum, rsum_below c a n]
  by_cases h : n < a
  ·rw [qah h, Nat.min_eq_right (by omega), Nat.min_eq_right (by omega), Nat.mul_succ]
  ·rw [qag h, qbh (by omega), qbh (by omega)]
   rfl
theorem lpart_sum (m : Nat) : ∀ A : List Nat, (∀ a ∈ A, a ≤ m) → rsum (lpart A) m = lwid A
 | [], _ => by
  have := ye6 0 m
  simp at this
  exact this
 | a :: t, h => by
  have ih := lpart_sum m t fun x hx => h x (qaD _ hx)
  have ha := h a (qaC ..)
  show rsum (fun r => (if r < a then 2 ^ t.length else 0) + lpart t r) m = 2 ^ t.length * a + lwid t
  rw [rsum_add, rsum_below, qbh ha, ih]
theorem lof_le (A : List Nat) (r : Nat) : lof A r ≤ A.length := qbY _ _
theorem yft (a : Nat) (t : List Nat) (r : Nat) : lof (a :: t) r = (if r < a then 1 else 0) + lof t r := by
 unfold lof
 rw [qaG]
 by_cases h : r < a
 ·simp [h]; omega
 ·simp [h]
theorem lpart_lof : ∀ (A : List Nat), A.Pairwise (fun a b => b ≤ a) → ∀ r, lpart A r + 2 ^ (A.length - lof A r) = 2 ^ A.length
 | [], _, r => by simp [lpart, lof]
 | a :: t, h, r => by
  obtain ⟨h1, h2⟩ := qa5.1 h
  have ih := lpart_lof t h2 r
  have hle := lof_le t r
  rw [yft, qau]
  unfold lpart
  by_cases hr : r < a
  ·rw [qah hr, qah hr, show t.length + 1 - (1 + lof t r) = t.length - lof t r from by omega, qaO]
   omega
  ·have h0 : lof t r = 0 := by
    unfold lof
    rw [qay, qbS]
    intro x hx
    have := h1 x hx
    simp
    omega
   rw [h0] at ih ⊢
   rw [qag hr, qag hr]
   simp only [Nat.sub_zero, qbr] at ih ⊢
   omega
theorem lof_mono (A : List Nat) {r r' : Nat} (h : r ≤ r') : lof A r' ≤ lof A r := by
 induction A with
 | nil => exact qaf _
 | cons a t ih =>
  rw [yft, yft]
  by_cases h1 : r' < a
  ·rw [qah h1, qah (by omega)]; omega
  ·rw [qag h1]; omega
theorem lof_full (A : List Nat) (m k : Nat) (hlen : A.length = k + 1) (hle : ∀ a ∈ A, a ≤ m) (hdec : A.Pairwise (fun a b => b ≤ a)) (hw : lwid A = 2 ^ k * (2 * m - 2)) (hm : 2 ≤ m) :
  rsum (fun r => 2 ^ (k + 1 - lof A r)) m = 2 ^ (k + 1) := by
 have h1 := lpart_sum m A hle
 have h2 : rsum (fun r => lpart A r + 2 ^ (k + 1 - lof A r)) m = 2 ^ (k + 1) * m := by
  rw [← ye6 (2 ^ (k + 1)) m]
  refine rsum_congr m fun r _ => ?_
  have := lpart_lof A hdec r
  rw [hlen] at this
  exact this
 rw [rsum_add, h1, hw] at h2
 obtain ⟨j, rfl⟩ : ∃ j, m = j + 2 := ⟨m - 2, by omega⟩
 have e1 : 2 ^ k * (2 * (j + 2) - 2) = 2 * (2 ^ k * (j + 1)) := by rw [show 2 * (j + 2) - 2 = 2 * (j + 1) from by omega, Nat.mul_left_comm]
 have e2 : 2 ^ (k + 1) * (j + 2) = 2 * (2 ^ k * (j + 1)) + 2 ^ (k + 1) := by
  rw [Nat.mul_succ, qaO, qbx (2 ^ k) 2, qbX]
 rw [e1, e2] at h2
 omega
theorem rsum_ge (g : Nat → Nat) : ∀ n i, i < n → g i ≤ rsum g n
 | 0, i, h => by omega
 | n + 1, i, h => by
  simp only [rsum]
  rcases qaZ i n with h1 | h1
  ·have := rsum_ge g n i h1; omega
  ·obtain rfl : i = n := by omega
   omega
theorem rsum_two (g : Nat → Nat) : ∀ n i j, i < n → j < n → i ≠ j → g i + g j ≤ rsum g n
 | 0, i, j, h, _, _ => by omega
 | n + 1, i, j, h, k, hne => by
  simp only [rsum]
  rcases qaZ i n with h1 | h1
  ·rcases qaZ j n with h2 | h2
   ·have := rsum_two g n i j h1 h2 hne; omega
   ·obtain rfl : j = n := by omega
    have := rsum_ge g j i h1; omega
  ·obtain rfl : i = n := by omega
   have := rsum_ge g i j (by omega); omega
theorem lof_pos (A : List Nat) (m k : Nat) (hfull : rsum (fun r => 2 ^ (k + 1 - lof A r)) m = 2 ^ (k + 1)) (hm : 2 ≤ m) (r : Nat) (hr : r < m) : 1 ≤ lof A r := by
 rcases qaW (lof A r) with h0 | h0
 ·exfalso
  obtain ⟨j, hj, hne⟩ : ∃ j, j < m ∧ r ≠ j := by
   by_cases h : r = 0
   ·exact ⟨1, by omega, by omega⟩
   ·exact ⟨0, by omega, h⟩
  have := rsum_two (fun r => 2 ^ (k + 1 - lof A r)) m r j hr hj hne
  rw [hfull, h0, Nat.sub_zero] at this
  have hp : 0 < 2 ^ (k + 1 - lof A j) := qbu (by omega)
  omega
 ·exact h0
def ybV : List Nat → Nat
 | [] => 0
 | c :: t => c + ybV t / 2
theorem lfloor_wid : ∀ (c : List Nat) (k : Nat), c.length = k + 1 → lwid c < 2 ^ k * (ybV c + 1)
 | [c], 0, _ => by simp [lwid, ybV]
 | c :: d :: t, k + 1, h => by
  have hl : (d :: t).length = k + 1 := by simpa using h
  have ih := lfloor_wid (d :: t) k hl
  show 2 ^ (d :: t).length * c + lwid (d :: t) < 2 ^ (k + 1) * (c + ybV (d :: t) / 2 + 1)
  rw [hl]
  generalize ybV (d :: t) = F at *
  generalize lwid (d :: t) = W at *
  have h2 : F + 1 ≤ 2 * (F / 2 + 1) := by omega
  have h3 : 2 ^ k * (F + 1) ≤ 2 ^ k * (2 * (F / 2 + 1)) := qbW _ h2
  rw [← qbX, ← qaO] at h3
  rw [qbD, Nat.mul_add]
  generalize 2 ^ (k + 1) * (F / 2 + 1) = X at *
  generalize 2 ^ k * (F + 1) = Y at *
  generalize 2 ^ (k + 1) * c = Z at *
  omega
 | [c], k + 1, h => by simp at h
 | c :: d :: t, 0, h => by simp at h
 | [], k, h => by simp at h
theorem ygi {leaves : List LTh} (hl : yaF leaves) : ∀ (c : List Nat) (k : Nat), c.length = k + 1 → (∀ x ∈ c, x ≤ leaves.length) → ybV c ≤ (lrow leaves k).length
 | [c], 0, _, h => by
  have := h c (by simp)
  show c + 0 / 2 ≤ leaves.length
  omega
 | c :: d :: t, k + 1, h, hc => by
  have ih := ygi hl (d :: t) k (by simpa using h) fun x hx => hc x (qaD _ hx)
  have h1 := hc c (qaC ..)
  rw [yfr hl k]
  show c + ybV (d :: t) / 2 ≤ _
  omega
 | [c], k + 1, h, _ => by simp at h
 | c :: d :: t, 0, h, _ => by simp at h
 | [], k, h, _ => by simp at h
theorem yee (f : LTh → Int) (τ : Int) : ∀ (l : List LTh) (a c : Nat), a ≤ l.length → c ≤ l.length → (∀ x ∈ l.take a, f x ≤ τ) → (∀ x ∈ l.drop a, τ ≤ f x) → lsum f (l.take a) - a * τ ≤ lsum f (l.take c) - c * τ
 | l, 0, 0, _, _, _, _ => qc2 _
 | [], a + 1, c, h, _, _, _ => by simp at h
 | [], 0, c + 1, _, h, _, _ => by simp at h
 | x :: t, 0, c + 1, _, hc, h1, h2 => by
  have ih := yee f τ t 0 c (by omega) (by simpa using hc) (by simp) (fun y hy => h2 y (qaD _ hy))
  have hx := h2 x (qaC ..)
  simp only [qaR, qaX, lsum] at ih ⊢
  have e : ((c + 1 : Nat) : Int) * τ = c * τ + τ := by rw [qbz, Int.add_mul]; simp
  rw [e]
  omega
 | x :: t, a + 1, 0, ha, _, h1, h2 => by
  have ih := yee f τ t a 0 (by simpa using ha) (by omega) (fun y hy => h1 y (qaD _ hy)) h2
  have hx := h1 x (qaC ..)
  simp only [qaR, qaX, lsum] at ih ⊢
  have e : ((a + 1 : Nat) : Int) * τ = a * τ + τ := by rw [qbz, Int.add_mul]; simp
  rw [e]
  omega
 | x :: t, a + 1, c + 1, ha, hc, h1, h2 => by
  have ih := yee f τ t a c (by simpa using ha) (by simpa using hc) (fun y hy => h1 y (qaD _ hy)) h2
  simp only [qaR, lsum] at ih ⊢
  have e1 : ((a + 1 : Nat) : Int) * τ = a * τ + τ := by rw [qbz, Int.add_mul]; simp
  have e2 : ((c + 1 : Nat) : Int) * τ = c * τ + τ := by rw [qbz, Int.add_mul]; simp
  rw [e1, e2]
  omega
theorem yci (f : LTh → Int) : ∀ l : List LTh, (∀ x ∈ l, 0 ≤ f x) → 0 ≤ lsum f l
 | [], _ => by simp [lsum]
 | x :: t, h => by
  have h1 := h x (qaC ..)
  have h2 := yci f t fun y hy => h y (qaD _ hy)
  show 0 ≤ f x + lsum f t
  omega
theorem LRow.exchange {leaves packs R : List LTh} (h : LRow leaves packs R) (hp : ∀ x ∈ R, 0 < x.w) (t c s : Nat) (ht : t ≤ R.length) (hc : c ≤ leaves.length) (hs : s ≤ packs.length) (hcs : t ≤ c + s) :
  lsum (·.w) (R.take t) ≤ lsum (·.w) (leaves.take c) + lsum (·.w) (packs.take s) := by
 rcases qaW t with h0 | h0
 ·subst h0
  have h1 := yci (·.w) (leaves.take c) fun x hx => by
   have := qaV hx
   rw [← h.lv] at this
   have := hp x (qaS.1 this).1
   show 0 ≤ x.w
   omega
  have h2 := yci (·.w) (packs.take s) fun x hx => by
   have := qaV hx
   rw [← h.pk] at this
   have := hp x (qaS.1 this).1
   show 0 ≤ x.w
   omega
  simp only [qaX, lsum]
  omega
 ·have ho := ydN h.order
  obtain ⟨τ, h1, h2, h3⟩ : ∃ τ : Int, (∀ x ∈ R.take t, x.w ≤ τ) ∧ (∀ x ∈ R.drop t, τ ≤ x.w) ∧ 0 ≤ τ := by
   have hlt : t - 1 < R.length := by omega
   refine ⟨R[t - 1].w, ?_, ?_, Int.le_of_lt (hp _ (qam hlt))⟩
   ·intro x hx
    obtain ⟨i, hi, rfl⟩ := qaI hx
    rw [qar] at hi
    rw [List.getElem_take]
    rcases qaZ i (t - 1) with h4 | h4
    ·exact qbb.1 ho i (t - 1) (by omega) hlt h4
    ·obtain rfl : i = t - 1 := by omega
     exact qc2 _
   ·intro x hx
    obtain ⟨i, hi, rfl⟩ := qaI hx
    rw [qaz] at hi
    rw [qbE]
    exact qbb.1 ho (t - 1) (t + i) hlt (by omega) (by omega)
  have e1 := h.take_lv t
  have e2 := h.take_pk t ht
  have e3 := h.drop_lv t
  have e4 : (R.drop t).filter (fun x => !x.leaf) = packs.drop (t - lcnt R t) := by
   have e : R.filter (fun x => !x.leaf) = (R.take t).filter (fun x => !x.leaf) ++ (R.drop t).filter (fun x => !x.leaf) := by rw [← qbi, qa1]
   rw [h.pk, e2] at e
   have := qa1 (t - lcnt R t) packs
   rw [← this] at e
   exact (List.append_cancel_left (by rw [qa1] at e ⊢; exact e)).symm
  have ha := h.cnt_leaves t
  have hb := h.cnt_packs t ht
  have hle := lcnt_le R t
  rw [h.take_sum (·.w) t ht]
  generalize lcnt R t = a at *
  have g1 := yee (·.w) τ leaves a c ha hc (fun x hx => h1 x (by rw [← e1] at hx; exact (qaS.1 hx).1)) (fun x hx => h2 x (by rw [← e3] at hx; exact (qaS.1 hx).1))
  have g2 := yee (·.w) τ packs (t - a) s hb hs (fun x hx => h1 x (by rw [← e2] at hx; exact (qaS.1 hx).1)) (fun x hx => h2 x (by rw [← e4] at hx; exact (qaS.1 hx).1))
  have g3 : (a : Int) * τ + ((t - a : Nat) : Int) * τ ≤ (c : Int) * τ + (s : Int) * τ := by
   rw [← Int.add_mul, ← Int.add_mul]
   exact qca (by omega) h3
  omega
theorem lrow_least {leaves : List LTh} (hl : yaF leaves) (hp : ∀ x ∈ leaves, 0 < x.w) : ∀ (c : List Nat) (k t : Nat), c.length = k + 1 → (∀ x ∈ c, x ≤ leaves.length) → t ≤ ybV c →
  lsum (·.w) ((lrow leaves k).take t) ≤ nsum (fun a => lsum (·.w) (leaves.take a)) c
 | [c], 0, t, _, hc, ht => by
  have h1 : c ≤ leaves.length := hc c (by simp)
  have h2 : t ≤ c := by simpa [ybV] using ht
  show lsum (·.w) (leaves.take t) ≤ lsum (·.w) (leaves.take c) + 0
  have e : leaves.take c = leaves.take t ++ (leaves.take c).drop t := by
   conv => lhs; rw [← qa1 t (leaves.take c)]
   rw [List.take_take, qbh h2]
  rw [e, ycg]
  have := yci (·.w) ((leaves.take c).drop t) fun x hx => Int.le_of_lt (hp x (qaV (qbG hx)))
  omega
 | c :: d :: u, k + 1, t, hlen, hc, ht => by
  have hlen2 : (d :: u).length = k + 1 := by simpa using hlen
  have hc2 : ∀ x ∈ d :: u, x ≤ leaves.length := fun x hx => hc x (qaD _ hx)
  have hc1 := hc c (qaC ..)
  have hfl := ygi hl (d :: u) k hlen2 hc2
  have ht2 : t ≤ c + ybV (d :: u) / 2 := ht
  have hrl := yfr hl k
  obtain ⟨s, hs1, hs2⟩ : ∃ s, t ≤ c + s ∧ 2 * s ≤ ybV (d :: u) := ⟨t - c, by omega, by omega⟩
  have ih := lrow_least hl hp (d :: u) k (2 * s) hlen2 hc2 hs2
  have hadd : LAdds (·.w) := fun a b => rfl
  have hex := (ybu hl k).exchange (lrow_pos hl hp (k + 1)) t c s (by omega) hc1 (by rw [ybZ]; omega) hs1
  rw [yeQ hadd _ _ (by omega)] at hex
  show _ ≤ lsum (·.w) (leaves.take c) + nsum _ (d :: u)
  omega
 | [c], k + 1, t, h, _, _ => by simp at h
 | c :: d :: u, 0, t, h, _, _ => by simp at h
 | [], k, t, h, _, _ => by simp at h
def yaV : Nat → List Int → List LTh → List LTh
 | _, [], out => out
 | i, c :: t, out => yaV (i + 1) t (if 0 < c then lput out ⟨c, [i], true⟩ else out)
def yaa (counts : List Int) : List LTh := yaV 0 counts []
def isum (g : Nat → Int → Int) : Nat → List Int → Int
 | _, [] => 0
 | i, c :: t => g i c + isum g (i + 1) t
theorem yeO {g h : Nat → Int → Int} : ∀ (l : List Int) (i : Nat), (∀ j (hj : j < l.length), g (i + j) l[j] = h (i + j) l[j]) → isum g i l = isum h i l
 | [], _, _ => rfl
 | c :: t, i, e => by
  have h0 := e 0 (by simp)
  have ih : isum g (i + 1) t = isum h (i + 1) t := yeO t (i + 1) fun j hj => by
   have e2 := e (j + 1) (by simpa using hj)
   rw [show i + (j + 1) = i + 1 + j from by omega] at e2
   exact e2
  simp only [qbr, List.getElem_cons_zero] at h0
  show g i c + isum g (i + 1) t = h i c + isum h (i + 1) t
  rw [h0, ih]
theorem lsum_lput (f : LTh → Int) (x : LTh) (R : List LTh) : lsum f (lput R x) = lsum f R + f x := by
 obtain ⟨r1, r2, h1, h2, _, _⟩ := yaR x R
 rw [h2, h1, ycg, ycg]
 simp only [lsum]
 omega
theorem yer (x y : LTh) (R : List LTh) : y ∈ lput R x ↔ y = x ∨ y ∈ R := by
 obtain ⟨r1, r2, h1, h2, _, _⟩ := yaR x R
 rw [h2, h1]
 simp only [qbf, qa9]
 constructor
 ·rintro (h | h | h)
  ·exact qaT (qat h)
  ·exact qat h
  ·exact qaT (qaT h)
 ·rintro (h | h | h)
  ·exact qaT (qat h)
  ·exact qat h
  ·exact qaT (qaT h)
theorem lput_order (x : LTh) (R : List LTh) (h : R.Pairwise (fun a b => lle a b = true)) : (lput R x).Pairwise (fun a b => lle a b = true) := by
 obtain ⟨r1, r2, h1, h2, h3, h4⟩ := yaR x R
 rw [h1] at h
 obtain ⟨o1, o2, o3⟩ := qa2.1 h
 rw [h2, qa2]
 have hx2 : ∀ z ∈ r2, lle x z = true := by
  intro z hz
  cases hr : r2 with
  | nil => rw [hr] at hz; cases hz
  | cons y t =>
   have hy := lle_total (h4 y t hr)
   rw [hr] at hz o2
   rcases qa9.1 hz with rfl | hz
   ·exact hy
   ·exact yfF hy ((qa5.1 o2).1 z hz)
 refine ⟨o1, qa5.2 ⟨hx2, o2⟩, ?_⟩
 intro a ha b hb
 rcases qa9.1 hb with rfl | hb
 ·exact h3 a ha
 ·exact o3 a ha b hb
theorem lput_dist (x : LTh) (R : List LTh) (h : R.Pairwise (fun a b => a.syms ≠ b.syms)) (hx : ∀ y ∈ R, y.syms ≠ x.syms) : (lput R x).Pairwise (fun a b => a.syms ≠ b.syms) := by
 obtain ⟨r1, r2, h1, h2, h3, h4⟩ := yaR x R
 rw [h1] at h hx
 obtain ⟨o1, o2, o3⟩ := qa2.1 h
 rw [h2, qa2]
 refine ⟨o1, qa5.2 ⟨fun z hz => (hx z (qbe _ hz)).symm, o2⟩, ?_⟩
 intro a ha b hb
 rcases qa9.1 hb with rfl | hb
 ·exact hx a (qbm _ ha)
 ·exact o3 a ha b hb
theorem lfirst_sum (f : LTh → Int) : ∀ (l : List Int) (i : Nat) (out : List LTh), lsum f (yaV i l out) = lsum f out + isum (fun j c => if 0 < c then f ⟨c, [j], true⟩ else 0) i l
 | [], i, out => by simp [yaV, isum]
 | c :: t, i, out => by
  have ih := lfirst_sum f t (i + 1) (if 0 < c then lput out ⟨c, [i], true⟩ else out)
  show lsum f (yaV (i + 1) t _) = lsum f out + ((if 0 < c then f ⟨c, [i], true⟩ else 0) + isum _ (i + 1) t)
  rw [ih]
  by_cases h : 0 < c
  ·rw [qah h, qah h, lsum_lput]; omega
  ·rw [qag h, qag h]; omega
theorem yeS : ∀ (l : List Int) (i : Nat) (out : List LTh), out.Pairwise (fun a b => lle a b = true) → (yaV i l out).Pairwise (fun a b => lle a b = true)
 | [], i, out, h => h
 | c :: t, i, out, h => by
  refine yeS t (i + 1) _ ?_
  split
  ·exact lput_order _ _ h
  ·exact h
theorem lfirst_mem : ∀ (l : List Int) (i : Nat) (out : List LTh) (x : LTh), x ∈ yaV i l out ↔ x ∈ out ∨ ∃ j, ∃ hj : j < l.length, 0 < l[j] ∧ x = ⟨l[j], [i + j], true⟩
 | [], i, out, x => by simp [yaV]
 | c :: t, i, out, x => by
  have ih := lfirst_mem t (i + 1) (if 0 < c then lput out ⟨c, [i], true⟩ else out) x
  show x ∈ yaV (i + 1) t _ ↔ _
  rw [ih]
  constructor
  ·rintro (h | ⟨j, hj, h1, h2⟩)
   ·by_cases hc : 0 < c
    ·rw [qah hc, yer] at h
     rcases h with rfl | h
     ·exact qaT ⟨0, by simp, hc, rfl⟩
     ·exact qat h
    ·rw [qag hc] at h
     exact qat h
   ·exact qaT ⟨j + 1, by simpa using hj, h1, by rw [h2, show i + 1 + j = i + (j + 1) from by omega]; rfl⟩
  ·rintro (h | ⟨j, hj, h1, h2⟩)
   ·refine qat ?_
    split
    ·exact (yer _ _ _).2 (qaT h)
    ·exact h
   ·cases j with
    | zero =>
     refine qat ?_
     rw [qah (show 0 < c from h1)]
     exact (yer _ _ _).2 (qat h2)
    | succ j => exact qaT ⟨j, by simpa using hj, h1, by rw [h2, show i + 1 + j = i + (j + 1) from by omega]; rfl⟩
theorem ygJ : ∀ (l : List Int) (i : Nat) (out : List LTh), out.Pairwise (fun a b => a.syms ≠ b.syms) → (∀ x ∈ out, ∃ j, j < i ∧ x.syms = [j]) → (yaV i l out).Pairwise (fun a b => a.syms ≠ b.syms)
 | [], i, out, h, _ => h
 | c :: t, i, out, h, hs => by
  refine ygJ t (i + 1) _ ?_ ?_
  ·split
   ·refine lput_dist _ _ h fun y hy => ?_
    obtain ⟨j, hj, e⟩ := hs y hy
    rw [e]
    intro e2
    injection e2 with e2 _
    omega
   ·exact h
  ·intro x hx
   split at hx
   ·rcases (yer _ _ _).1 hx with rfl | hx
    ·exact ⟨i, by omega, rfl⟩
    ·obtain ⟨j, hj, e⟩ := hs x hx
     exact ⟨j, by omega, e⟩
   ·obtain ⟨j, hj, e⟩ := hs x hx
    exact ⟨j, by omega, e⟩
section
variable (counts : List Int)
theorem yas (x : LTh) : x ∈ yaa counts ↔ ∃ j, ∃ hj : j < counts.length, 0 < counts[j] ∧ x = ⟨counts[j], [j], true⟩ := by
 unfold yaa
 rw [lfirst_mem]
 simp
theorem yaM : yaF (yaa counts) :=
 ⟨fun x hx => by obtain ⟨j, hj, _, rfl⟩ := (yas counts x).1 hx; rfl, ydN (yeS counts 0 [] qb0)⟩
theorem ycs : ∀ x ∈ yaa counts, 0 < x.w := fun x hx => by
 obtain ⟨j, hj, h, rfl⟩ := (yas counts x).1 hx
 exact h
theorem lleaves_dist : (yaa counts).Pairwise (fun a b => a.syms ≠ b.syms) := ygJ counts 0 [] qb0 (by simp)
theorem yd0 (f : LTh → Int) : lsum f (yaa counts) = isum (fun j c => if 0 < c then f ⟨c, [j], true⟩ else 0) 0 counts := by
 unfold yaa
 rw [lfirst_sum]
 simp [lsum]
end
def lhas (s : Nat) (x : LTh) : Int := (x.syms.count s : Nat)
theorem lhas_adds (s : Nat) : LAdds (lhas s) := fun a b => by
 show ((List.count s (a.syms ++ b.syms) : Nat) : Int) = _
 rw [List.count_append]
 rfl
theorem lpacks_val {f g : LTh → Int} (hf : LAdds f) (hg : LAdds g) : ∀ R : List LTh, (∀ x ∈ R, f x = g x) → ∀ x ∈ yam R, f x = g x
 | [], _, x, h => by cases h
 | [_], _, x, h => by cases h
 | a :: b :: t, e, x, h => by
  rcases qa9.1 h with rfl | h
  ·rw [hf, hg, e a (by simp), e b (by simp)]
  ·exact lpacks_val hf hg t (fun y hy => e y (by simp [hy])) x h
theorem lrow_val {leaves : List LTh} (hl : yaF leaves) {f g : LTh → Int} (hf : LAdds f) (hg : LAdds g) (h0 : ∀ x ∈ leaves, f x = g x) : ∀ k, ∀ x ∈ lrow leaves k, f x = g x
 | 0, x, h => h0 x h
 | k + 1, x, h => by
  have hr := ybu hl k
  cases hx : x.leaf with
  | true => exact h0 x (by rw [← hr.lv]; exact qaS.2 ⟨h, hx⟩)
  | false => exact lpacks_val hf hg _ (lrow_val hl hf hg h0 k) x (by rw [← hr.pk]; exact qaS.2 ⟨h, by simp [hx]⟩)
theorem yaK {f g : LTh → Int} : ∀ R : List LTh, (∀ x ∈ R, f x = g x) → lsum f R = lsum g R
 | [], _ => rfl
 | x :: t, e => by
  simp only [lsum]
  rw [e x (qaC ..), yaK t fun y hy => e y (qaD _ hy)]
def ltaken (counts : List Int) (most : Nat) : List LTh := (lrow (yaa counts) (most - 1)).take (2 * (yaa counts).length - 2)
def llen (counts : List Int) (most s : Nat) : Int := lsum (lhas s) (ltaken counts most)
def yav (counts : List Int) (most : Nat) : List Int :=
 if (yaa counts).length = 1 then counts.map (fun c => if 0 < c then 1 else 0) else (List.range counts.length).map fun s => llen counts most s
theorem ydf (counts : List Int) (most : Nat) : (yav counts most).length = counts.length := by
 unfold yav
 split <;> simp
theorem yfl (f g : LTh → Int) : ∀ R : List LTh, lsum (fun x => f x + g x) R = lsum f R + lsum g R
 | [] => rfl
 | x :: t => by
  simp only [lsum, yfl f g t]
  omega
theorem ycN (c : Int) (f : LTh → Int) : ∀ R : List LTh, lsum (fun x => c * f x) R = c * lsum f R
 | [] => by simp [lsum]
 | x :: t => by
  simp only [lsum, ycN c f t, Int.mul_add]
theorem ycW (R : List LTh) : lsum (fun _ => 1) R = R.length := by
 induction R with
 | nil => rfl
 | cons x t ih => simp only [lsum, ih, qau]; omega
theorem ygl (f : LTh → Int) (p : LTh → Bool) (R : List LTh) : lsum f (R.filter p) = lsum (fun x => if p x = true then f x else 0) R := by
 induction R with
 | nil => rfl
 | cons x t ih =>
  rw [qaG]
  by_cases h : p x = true
  ·rw [qah h]; simp only [lsum, ih, qah h]
  ·rw [qag h]; simp only [lsum, ih, qag h]; omega
theorem lsum_first (p : LTh → Bool) : ∀ l : List LTh, l.Pairwise (fun a b => a.w ≤ b.w) → lsum (·.w) (l.take (l.filter p).length) ≤ lsum (·.w) (l.filter p)
 | [], _ => qc2 _
 | a :: t, h => by
  obtain ⟨h1, h2⟩ := qa5.1 h
  have ih := lsum_first p t h2
  rw [qaG]
  by_cases hp : p a = true
  ·rw [qah hp, qau, qaR]
   simp only [lsum]
   omega
  ·rw [qag hp]
   have hle := qbY p t
   cases hn : (t.filter p).length with
   | zero =>
    have : t.filter p = [] := qay.1 hn
    rw [this]
    simp [lsum]
   | succ n =>
    rw [hn] at ih hle
    rw [qao (by omega), ycg] at ih
    have h3 := h1 t[n] (qam (by omega))
    simp only [qaR, lsum] at ih ⊢
    omega
section
variable (ℓ : LTh → Nat) (leaves : List LTh)
def lcl : Nat → Nat → List Nat
 | _, 0 => []
 | d, k + 1 => (leaves.filter (fun x => decide (d + 1 ≤ ℓ x))).length :: lcl (d + 1) k
theorem lcl_len : ∀ k d, (lcl ℓ leaves d k).length = k
 | 0, _ => rfl
 | k + 1, d => by show (lcl ℓ leaves (d + 1) k).length + 1 = _; rw [lcl_len k]
theorem lcl_le : ∀ k d, ∀ x ∈ lcl ℓ leaves d k, x ≤ leaves.length
 | 0, _, x, h => by cases h
 | k + 1, d, x, h => by
  rcases qa9.1 h with rfl | h
  ·exact qbY _ _
  ·exact lcl_le k (d + 1) x h
theorem lcl_wid : ∀ k d, (lwid (lcl ℓ leaves d k) : Int) + lsum (fun x => ((2 ^ (k - min (ℓ x - d) k) : Nat) : Int)) leaves = ((2 ^ k : Nat) : Int) * leaves.length
 | 0, d => by
  simp only [lcl, lwid]
  have : lsum (fun x => ((2 ^ (0 - min (ℓ x - d) 0) : Nat) : Int)) leaves = leaves.length := by
   rw [← ycW]
   exact yaK _ fun x _ => by simp
  rw [this]
  simp
 | k + 1, d => by
  have ih := lcl_wid k (d + 1)
  show (((2 ^ (lcl ℓ leaves (d + 1) k).length * (leaves.filter (fun x => decide (d + 1 ≤ ℓ x))).length + lwid (lcl ℓ leaves (d + 1) k) : Nat)) : Int) + _ = _
  rw [lcl_len]
  have e1 : ((leaves.filter (fun x => decide (d + 1 ≤ ℓ x))).length : Int) = lsum (fun x => if decide (d + 1 ≤ ℓ x) = true then 1 else 0) leaves := by rw [← ycW, ygl]
  have e2 : lsum (fun x => ((2 ^ k : Nat) : Int) * (if decide (d + 1 ≤ ℓ x) = true then 1 else 0) + ((2 ^ (k + 1 - min (ℓ x - d) (k + 1)) : Nat) : Int)) leaves = lsum (fun x => ((2 ^ k : Nat) : Int) * 1 + ((2 ^ (k - min (ℓ x - (d + 1)) k) : Nat) : Int)) leaves := by
   refine yaK _ fun x _ => ?_
   by_cases h : d + 1 ≤ ℓ x
   ·rw [qah (by simpa using h), show k + 1 - min (ℓ x - d) (k + 1) = k - min (ℓ x - (d + 1)) k from by omega]
   ·rw [qag (by simpa using h), show k + 1 - min (ℓ x - d) (k + 1) = k + 1 from by omega, show k - min (ℓ x - (d + 1)) k = k from by omega, qaO]
    omega
  rw [yfl, yfl, ycN, ycN, ycW, ← e1] at e2
  rw [qbz, qcw, qaO]
  have e3 : (((2 ^ k * 2 : Nat)) : Int) * leaves.length = ((2 ^ k : Nat) : Int) * leaves.length + ((2 ^ k : Nat) : Int) * leaves.length := by
   rw [qcw, Int.mul_assoc, Int.mul_comm ((2 : Nat) : Int), ← Int.mul_assoc]
   omega
  rw [e3]
  generalize ((2 ^ k : Nat) : Int) * ((leaves.filter (fun x => decide (d + 1 ≤ ℓ x))).length : Int) = a1 at *
  generalize ((2 ^ k : Nat) : Int) * (leaves.length : Int) = a2 at *
  generalize lsum (fun x => ((2 ^ (k + 1 - min (ℓ x - d) (k + 1)) : Nat) : Int)) leaves = a3 at *
  generalize lsum (fun x => ((2 ^ (k - min (ℓ x - (d + 1)) k) : Nat) : Int)) leaves = a4 at *
  omega
theorem lcl_cost (ho : leaves.Pairwise (fun a b => a.w ≤ b.w)) : ∀ k d, nsum (fun a => lsum (·.w) (leaves.take a)) (lcl ℓ leaves d k) ≤ lsum (fun x => x.w * ((min (ℓ x - d) k : Nat) : Int)) leaves
 | 0, d => by
  have : lsum (fun x => x.w * ((min (ℓ x - d) 0 : Nat) : Int)) leaves = lsum (fun x => 0 * x.w) leaves := yaK _ fun x _ => by simp
  rw [this, ycN]
  simp [lcl, nsum]
 | k + 1, d => by
  have ih := lcl_cost ho k (d + 1)
  have h1 := lsum_first (fun x => decide (d + 1 ≤ ℓ x)) leaves ho
  rw [ygl] at h1
  have e : lsum (fun x => x.w * ((min (ℓ x - d) (k + 1) : Nat) : Int)) leaves = lsum (fun x => (if decide (d + 1 ≤ ℓ x) = true then x.w else 0) + x.w * ((min (ℓ x - (d + 1)) k : Nat) : Int)) leaves := by
   refine yaK _ fun x _ => ?_
   by_cases h : d + 1 ≤ ℓ x
   ·rw [qah (by simpa using h), show min (ℓ x - d) (k + 1) = min (ℓ x - (d + 1)) k + 1 from by omega, qbz, Int.mul_add]
    simp
    omega
   ·rw [qag (by simpa using h), show min (ℓ x - d) (k + 1) = 0 from by omega, show min (ℓ x - (d + 1)) k = 0 from by omega]
    simp
  rw [e, yfl]
  show lsum (·.w) (leaves.take _) + nsum _ (lcl ℓ leaves (d + 1) k) ≤ _
  omega
end
theorem lrow_best {leaves : List LTh} (hl : yaF leaves) (hp : ∀ x ∈ leaves, 0 < x.w) (ℓ : LTh → Nat) (k : Nat) (h2 : 2 ≤ leaves.length) (hle : ∀ x ∈ leaves, ℓ x ≤ k + 1)
  (hk : lsum (fun x => ((2 ^ (k + 1 - ℓ x) : Nat) : Int)) leaves ≤ ((2 ^ (k + 1) : Nat) : Int)) : 2 * leaves.length - 2 ≤ (lrow leaves k).length ∧ lsum (·.w) ((lrow leaves k).take (2 * leaves.length - 2)) ≤ lsum (fun x => x.w * (ℓ x : Int)) leaves := by
 have hlen := lcl_len ℓ leaves (k + 1) 0
 have hcl := lcl_le ℓ leaves (k + 1) 0
 have hw := lcl_wid ℓ leaves (k + 1) 0
 have hf := lfloor_wid (lcl ℓ leaves 0 (k + 1)) k hlen
 have e1 : lsum (fun x => ((2 ^ (k + 1 - min (ℓ x - 0) (k + 1)) : Nat) : Int)) leaves = lsum (fun x => ((2 ^ (k + 1 - ℓ x) : Nat) : Int)) leaves := yaK _ fun x hx => by
  have := hle x hx
  rw [show min (ℓ x - 0) (k + 1) = ℓ x from by omega]
 rw [e1] at hw
 have ht : 2 * leaves.length - 2 ≤ ybV (lcl ℓ leaves 0 (k + 1)) := by
  rcases qaZ (ybV (lcl ℓ leaves 0 (k + 1))) (2 * leaves.length - 2) with h | h
  ·exfalso
   have h3 : 2 ^ k * (ybV (lcl ℓ leaves 0 (k + 1)) + 1) ≤ 2 ^ k * (2 * leaves.length - 2) := qbW _ (by omega)
   obtain ⟨j, hj⟩ : ∃ j, leaves.length = j + 1 := ⟨leaves.length - 1, by omega⟩
   rw [hj] at h3 hw
   have e2 : 2 ^ k * (2 * (j + 1) - 2) = 2 ^ (k + 1) * j := by rw [show 2 * (j + 1) - 2 = 2 * j from by omega, ← qbX, ← qaO]
   have e3 : ((2 ^ (k + 1) : Nat) : Int) * ((j + 1 : Nat) : Int) = ((2 ^ (k + 1) * j : Nat) : Int) + ((2 ^ (k + 1) : Nat) : Int) := by
    rw [← qcw, Nat.mul_succ, qbz]
   rw [e3] at hw
   rw [e2] at h3
   omega
  ·exact h
 refine ⟨qa7 ht (ygi hl _ k hlen hcl), ?_⟩
 have h4 := lrow_least hl hp _ k _ hlen hcl ht
 have h5 := lcl_cost ℓ leaves hl.order (k + 1) 0
 have e4 : lsum (fun x => x.w * ((min (ℓ x - 0) (k + 1) : Nat) : Int)) leaves = lsum (fun x => x.w * (ℓ x : Int)) leaves := yaK _ fun x hx => by
  have := hle x hx
  rw [show min (ℓ x - 0) (k + 1) = ℓ x from by omega]
 rw [e4] at h5
 omega
theorem yeq {leaves : List LTh} (hl : yaF leaves) (hp : ∀ x ∈ leaves, 0 < x.w) (k : Nat) (h2 : 2 ≤ leaves.length) (hm : leaves.length ≤ 2 ^ (k + 1)) : 2 * leaves.length - 2 ≤ (lrow leaves k).length := by
 refine (lrow_best hl hp (fun _ => k + 1) k h2 (fun _ _ => qaf _) ?_).1
 have : lsum (fun x => ((2 ^ (k + 1 - (k + 1)) : Nat) : Int)) leaves = leaves.length := by
  rw [← ycW]
  exact yaK _ fun x _ => by simp
 rw [this]
 omega
theorem yco (s j : Nat) (x : LTh) (h : x.syms = [j]) : lhas s x = if j = s then 1 else 0 := by
 unfold lhas
 rw [h, List.count_singleton]
 by_cases e : j = s
 ·subst e; simp
 ·rw [qag e, qag (by simpa using e)]; rfl
theorem lhas_take (s : Nat) : ∀ (l : List LTh) (r a : Nat) (hr : r < l.length), l.Pairwise (fun a b => a.syms ≠ b.syms) → (∀ x ∈ l, ∃ j, x.syms = [j]) → l[r].syms = [s] → lsum (lhas s) (l.take a) = if r < a then 1 else 0
 | [], r, a, hr, _, _, _ => by simp at hr
 | x :: t, r, 0, _, _, _, _ => by simp [lsum]
 | x :: t, 0, a + 1, _, hd, hs, h => by
  have h' : x.syms = [s] := h
  obtain ⟨h1, h2⟩ := qa5.1 hd
  have h0 : lsum (lhas s) (t.take a) = lsum (fun x => 0 * x.w) (t.take a) := yaK _ fun y hy => by
   have hyt := qaV hy
   obtain ⟨j, hj⟩ := hs y (qaD _ hyt)
   have hne := h1 y hyt
   rw [yco s j y hj, qag (fun e => hne (by rw [h', hj, e]))]
   simp
  rw [ycN] at h0
  rw [qaR]
  simp only [lsum, h0, yco s s x h']
  simp
 | x :: t, r + 1, a + 1, hr, hd, hs, h => by
  obtain ⟨h1, h2⟩ := qa5.1 hd
  have hrt : r < t.length := by simpa using hr
  have ht : t[r].syms = [s] := by simpa using h
  have ih := lhas_take s t r a hrt h2 (fun y hy => hs y (qaD _ hy)) ht
  obtain ⟨j, hj⟩ := hs x (qaC ..)
  have hne := h1 t[r] (qam hrt)
  rw [qaR]
  simp only [lsum, ih, yco s j x hj]
  rw [qag (fun e : j = s => hne (by rw [hj, ht, e]))]
  by_cases hra : r < a
  ·rw [qah hra, qah (by omega)]; omega
  ·rw [qag hra, qag (by omega)]; omega
theorem nsum_lof (r : Nat) : ∀ A : List Nat, nsum (fun a => if r < a then 1 else 0) A = (lof A r : Int)
 | [] => rfl
 | a :: t => by
  rw [yft]
  simp only [nsum, nsum_lof r t]
  by_cases h : r < a
  ·rw [qah h, qah h]; omega
  ·rw [qag h, qag h]; omega
theorem nsum_congr {g h : Nat → Int} : ∀ A : List Nat, (∀ a ∈ A, g a = h a) → nsum g A = nsum h A
 | [], _ => rfl
 | a :: t, e => by
  simp only [nsum]
  rw [e a (qaC ..), nsum_congr t fun x hx => e x (qaD _ hx)]
theorem lsum_rank (f : LTh → Int) (g : Nat → Nat) (l : List LTh) (h : ∀ r (hr : r < l.length), f l[r] = (g r : Int)) : ∀ n, n ≤ l.length → lsum f (l.take n) = (rsum g n : Int)
 | 0, _ => by simp [lsum, rsum]
 | n + 1, hn => by
  have ih := lsum_rank f g l h n (by omega)
  rw [qao (by omega), ycg, ih]
  simp only [lsum, rsum, h n (by omega)]
  omega
section
variable (counts : List Int) (k : Nat)
def ydi : List Nat := ydC (yaa counts) k (2 * (yaa counts).length - 2)
variable {counts k}
theorem ydJ (h2 : 2 ≤ (yaa counts).length) (hm : (yaa counts).length ≤ 2 ^ (k + 1)) :
  rsum (fun r => 2 ^ (k + 1 - lof (ydi counts k) r)) (yaa counts).length = 2 ^ (k + 1) := by
 have hl := yaM counts
 have hp := ycs counts
 have ht := yeq hl hp k h2 hm
 exact lof_full _ _ k (yem _ _ _) (lprof_le hl k _ ht) (yfZ hl hp k _ ht) (lprof_wid _ _) h2
theorem ydX (h2 : 2 ≤ (yaa counts).length) (hm : (yaa counts).length ≤ 2 ^ (k + 1)) (s r : Nat) (hr : r < (yaa counts).length) (hs : (yaa counts)[r].syms = [s]) : llen counts (k + 1) s = (lof (ydi counts k) r : Int) := by
 have hl := yaM counts
 have ht := yeq hl (ycs counts) k h2 hm
 unfold llen ltaken
 rw [show k + 1 - 1 = k from rfl, lprof_sum hl (lhas_adds s) k _ ht, ← nsum_lof]
 refine nsum_congr _ fun a _ => ?_
 refine lhas_take s (yaa counts) r a hr (lleaves_dist counts) (fun x hx => ?_) hs
 obtain ⟨j, hj, _, rfl⟩ := (yas counts x).1 hx
 exact ⟨j, rfl⟩
theorem lrank_of (j : Nat) (hj : j < counts.length) (h : 0 < counts[j]) : ∃ r, ∃ hr : r < (yaa counts).length, (yaa counts)[r] = ⟨counts[j], [j], true⟩ := by
 obtain ⟨r, hr, e⟩ := qaI ((yas counts ⟨counts[j], [j], true⟩).2 ⟨j, hj, h, rfl⟩)
 exact ⟨r, hr, e⟩
theorem yfE (most s : Nat) (h : ∀ hs : s < counts.length, counts[s] ≤ 0) : llen counts most s = 0 := by
 have hv := lrow_val (yaM counts) (lhas_adds s) (g := fun x => 0 * x.w) (fun a b => by simp) (fun x hx => by
  obtain ⟨j, hj, hp, rfl⟩ := (yas counts x).1 hx
  rw [yco s j _ rfl, qag (fun e => by subst e; have := h hj; omega)]
  simp) (most - 1)
 have := yaK (f := lhas s) (g := fun x => 0 * x.w) (ltaken counts most) fun x hx => hv x (qaV hx)
 rw [ycN] at this
 simpa [llen] using this
theorem ygw (h2 : 2 ≤ (yaa counts).length) (hm : (yaa counts).length ≤ 2 ^ (k + 1)) (j : Nat) (hj : j < counts.length) (h : 0 < counts[j]) : 1 ≤ llen counts (k + 1) j ∧ llen counts (k + 1) j ≤ ((k + 1 : Nat) : Int) := by
 obtain ⟨r, hr, e⟩ := lrank_of j hj h
 rw [ydX h2 hm j r hr (by rw [e])]
 have h1 := lof_pos _ _ k (ydJ h2 hm) h2 r hr
 have h3 := lof_le (ydi counts k) r
 have h4 : (ydi counts k).length = k + 1 := yem _ _ _
 omega
theorem llen_falls (h2 : 2 ≤ (yaa counts).length) (hm : (yaa counts).length ≤ 2 ^ (k + 1)) (i j : Nat) (hi : i < counts.length) (hj : j < counts.length) (h : counts[j] < counts[i]) (h0 : 0 < counts[j]) : llen counts (k + 1) i ≤ llen counts (k + 1) j := by
 obtain ⟨r, hr, e⟩ := lrank_of i hi (by omega)
 obtain ⟨q, hq, e2⟩ := lrank_of j hj h0
 rw [ydX h2 hm i r hr (by rw [e]), ydX h2 hm j q hq (by rw [e2])]
 have hqr : q ≤ r := by
  rcases qaZ r q with hlt | hge
  ·exfalso
   have := qbb.1 (yaM counts).order r q hr hq hlt
   rw [e, e2] at this
   have h5 : counts[i] ≤ counts[j] := this
   omega
  ·exact hge
 have := lof_mono (ydi counts k) hqr
 omega
theorem llen_full (h2 : 2 ≤ (yaa counts).length) (hm : (yaa counts).length ≤ 2 ^ (k + 1)) : isum (fun j c => if 0 < c then ((2 ^ (k + 1 - (llen counts (k + 1) j).toNat) : Nat) : Int) else 0) 0 counts = ((2 ^ (k + 1) : Nat) : Int) := by
 have h := yd0 counts (fun x => ((2 ^ (k + 1 - (llen counts (k + 1) (x.syms.headD 0)).toNat) : Nat) : Int))
 have h3 := lsum_rank (fun x => ((2 ^ (k + 1 - (llen counts (k + 1) (x.syms.headD 0)).toNat) : Nat) : Int)) (fun r => 2 ^ (k + 1 - lof (ydi counts k) r)) (yaa counts) (fun r hr => by
  obtain ⟨j, hj, hp, e⟩ := (yas counts _).1 (qam hr)
  have := ydX h2 hm j r hr (by rw [e])
  rw [e]
  show ((2 ^ (k + 1 - (llen counts (k + 1) j).toNat) : Nat) : Int) = _
  rw [this, qap]) _ (qaf _)
 rw [qbK, ydJ h2 hm] at h3
 rw [h3] at h
 exact h.symm
end
theorem ybt (n : Nat) (h : n ≤ 15) (w : World) : Calls prog 153 #[.int .i64 (n : Int)] w fun e w' => e = .returned (.int .i64 ((2 ^ n : Nat) : Int)) ∧ w' = w := by
 have hn : (n : Int) ≤ 15 := by omega
 have Hpow : Hid (∀ k, k ≤ n → (2 ^ k : Nat) ≤ 32768) := qaa fun k hk => qa7 (qaF (by omega) (show k ≤ 15 by omega)) (by decide)
 obtain ⟨R, hR⟩ : ∃ R : Int, ((2 ^ n : Nat) : Int) = R := ⟨_, rfl⟩
 rw [hR]
 have HR := qaa hR
 clear hR
 go_enter func153, ntmps153
 go_wp2
 go_loop [3, 4] (fun p i => ∃ k P : Nat, k ≤ n ∧ P ≤ 32768 ∧ p = .int .i64 P ∧ i = .int .i64 k ∧ Hid (P = 2 ^ k)) (fun _ i => n - (intOf i).toNat)
 case atStart => exact ⟨0, 1, by omega, by omega, rfl, rfl, rfl⟩
 case round =>
  obtain ⟨k, P, hk, hP, rfl, rfl, Hk⟩ := hrel
  by_cases hlt : k < n
  ·have hki : (k : Int) < n := by omega
   have H2 : Hid (2 * P ≤ 32768 ∧ 2 * P = 2 ^ (k + 1)) := qaa (by
    have h1 := Hpow.out (k + 1) (by omega)
    have h2 := Hk.out
    rw [qaO] at h1 ⊢
    omega)
   go_wp2
   go_round
   case rel => exact ⟨k + 1, 2 * P, by omega, H2.out.1, iv (by omega), iv (by omega), H2.out.2⟩
   case measure => simp only [intOf]; omega
  ·obtain rfl : k = n := by omega
   have Hf : Hid ((P : Int) = R) := qaa (by rw [← HR.out, ← Hk.out])
   go_wp2
   go_ret
   exact ⟨by rw [← Hf.out]; rfl, rfl⟩
def yaq (l : List Int) : Nat := (l.filter (fun x => decide (0 < x))).length
theorem usedF_take (l : List Int) (k : Nat) (h : k < l.length) : yaq (l.take (k + 1)) = yaq (l.take k) + if 0 < l[k] then 1 else 0 := by
 unfold yaq
 rw [qao h, qbi, qae]
 congr 1
 by_cases hx : 0 < l[k]
 ·rw [qah hx, qaG, qah (by simpa using hx)]; rfl
 ·rw [qag hx, qaG, qag (by simpa using hx)]; rfl
theorem usedF_le (l : List Int) : yaq l ≤ l.length := qbY _ _
def yax : List Int → Nat
 | [] => 0
 | x :: t => (if 0 < x then 2 ^ (15 - x.toNat) else 0) + yax t
theorem partF_app : ∀ a b : List Int, yax (a ++ b) = yax a + yax b
 | [], b => by simp [yax]
 | x :: t, b => by
  show (if 0 < x then 2 ^ (15 - x.toNat) else 0) + yax (t ++ b) = _
  rw [partF_app t b, ← qbD]
  rfl
theorem partF_take (l : List Int) (k : Nat) (h : k < l.length) : yax (l.take (k + 1)) = yax (l.take k) + if 0 < l[k] then 2 ^ (15 - l[k].toNat) else 0 := by
 rw [qao h, partF_app]
 simp [yax]
def ydq (l : List Int) : Bool := l.all fun x => decide (0 ≤ x) && decide (x ≤ 15)
def sumF (l : List Int) : Int := if ydq l = true then (yax l : Int) else -1
theorem yaY {l : List Int} (h : ydq l = true) (i : Nat) (hi : i < l.length) : 0 ≤ l[i] ∧ l[i] ≤ 15 := by
 unfold ydq at h
 rw [qby] at h
 simpa using h l[i] (qam hi)
theorem lgood_of {l : List Int} (h : ∀ i (hi : i < l.length), 0 ≤ l[i] ∧ l[i] ≤ 15) : ydq l = true := by
 unfold ydq
 rw [qby]
 intro x hx
 obtain ⟨i, hi, rfl⟩ := qaI hx
 simpa using h i hi
theorem sumF_bad {l : List Int} (i : Nat) (hi : i < l.length) (hb : ¬(0 ≤ l[i] ∧ l[i] ≤ 15)) : sumF l = -1 := by
 unfold sumF
 rw [qag fun h => hb (yaY h i hi)]
section
variable (l : List Int) (A : Option Addr) (n c : Nat) (w : World)
theorem lcells {l : List Int} {A : Option Addr} {n : Nat} {w : World} {B : Nat} (hr : Reads w B 1 A n (ints l)) : Hid (0 < n → ∃ b off, A = some ⟨b, off, none⟩ ∧ b < B ∧ ∀ k, (hk : k < l.length) → w.cell? ⟨b, off + k, none⟩ = some (.int .i64 l[k])) := qaa fun h => by
 obtain ⟨b, off, e, hb, hc⟩ := hr.2 h
 exact ⟨b, off, e, hb, fun k hk => hc k _ (yak l k hk)⟩
theorem lref_used_any (hm : n ≤ 4611686018427387904) (hr : Reads w w.heap.size 1 A n (ints l)) :
  Calls prog 190 #[.slice A n c] w fun e w' => e = .returned (.int .i64 (yaq l : Int)) ∧ w' = w := by
 have en : l.length = n := by have := hr.1; rw [yae] at this; omega
 have Hcell := lcells hr
 have Htake : Hid (∀ k (h : k < l.length), yaq (l.take (k + 1)) = yaq (l.take k) + if 0 < l[k] then 1 else 0) := qaa (usedF_take l)
 have Hall : Hid (yaq (l.take n) = yaq l) := qaa (by rw [qax (by omega)])
 have En := qaa en
 obtain ⟨R, hR⟩ : ∃ R : Int, (yaq l : Int) = R := ⟨_, rfl⟩
 rw [hR]
 have HR := qaa hR
 clear hr en hR
 go_enter func190, ntmps190
 go_wp2
 go_loop [3, 4] (fun p i => ∃ k P : Nat, k ≤ n ∧ P ≤ k ∧ p = .int .i64 P ∧ i = .int .i64 k ∧ Hid (P = yaq (l.take k))) (fun _ i => n - (intOf i).toNat)
 case atStart => exact ⟨0, 0, by omega, by omega, rfl, rfl, rfl⟩
 case round =>
  obtain ⟨k, P, hk, hP, rfl, rfl, Hk⟩ := hrel
  by_cases hlt : k < n
  ·have hki : (0 : Int) ≤ (k : Int) ∧ (k : Int) < n := by omega
   have hkl : k < l.length := by rw [En.out]; exact hlt
   obtain ⟨b, off, rfl, hb, hc⟩ := Hcell.out (by omega)
   have hx := hc k hkl
   have ht := Htake.out k hkl
   rw [← Hk.out] at ht
   have Ht := qaa ht
   clear hc ht
   generalize l[k] = x at *
   by_cases hx0 : 0 < x
   ·have Ht2 : Hid (P + 1 = yaq (l.take (k + 1))) := qaa (by rw [Ht.out, qah hx0])
    go_wp2
    go_round
    case rel => exact ⟨k + 1, P + 1, by omega, by omega, iv (by omega), iv (by omega), Ht2.out⟩
    case measure => simp only [intOf]; omega
   ·have Ht2 : Hid (P = yaq (l.take (k + 1))) := qaa (by rw [Ht.out, qag hx0]; rfl)
    go_wp2
    go_round
    case rel => exact ⟨k + 1, P, by omega, by omega, rfl, iv (by omega), Ht2.out⟩
    case measure => simp only [intOf]; omega
  ·obtain rfl : k = n := by omega
   have Hf : Hid ((P : Int) = R) := qaa (by rw [← HR.out, ← Hall.out, ← Hk.out])
   go_wp2
   go_ret
   exact ⟨by rw [← Hf.out]; rfl, rfl⟩
theorem lref_sum_any (hm : n ≤ 1000000) (hr : Reads w w.heap.size 1 A n (ints l)) :
  Calls prog 189 #[.slice A n c] w fun e w' => e = .returned (.int .i64 (sumF l)) ∧ w' = w := by
 have en : l.length = n := by have := hr.1; rw [yae] at this; omega
 have Hcell := lcells hr
 have Htake : Hid (∀ k (h : k < l.length), yax (l.take (k + 1)) = yax (l.take k) + if 0 < l[k] then 2 ^ (15 - l[k].toNat) else 0) := qaa (partF_take l)
 have Hall : Hid (yax (l.take n) = yax l) := qaa (by rw [qax (by omega)])
 have Hbad : Hid (∀ i (hi : i < l.length), ¬(0 ≤ l[i] ∧ l[i] ≤ 15) → sumF l = -1) := qaa fun i hi => sumF_bad i hi
 have Hok : Hid ((∀ i (hi : i < l.length), 0 ≤ l[i] ∧ l[i] ≤ 15) → sumF l = yax l) := qaa fun h => by unfold sumF; rw [qah (lgood_of h)]
 have En := qaa en
 generalize sumF l = R at *
 have hnn : (n : Int) ≤ 1000000 := by omega
 clear hr en
 go_enter func189, ntmps189
 go_wp2
 go_loop [3, 4] (fun p i => ∃ k P : Nat, k ≤ n ∧ P ≤ 32768 * k ∧ p = .int .i64 P ∧ i = .int .i64 k ∧ Hid (P = yax (l.take k) ∧ ∀ i (hi : i < l.length), i < k → 0 ≤ l[i] ∧ l[i] ≤ 15)) (fun _ i => n - (intOf i).toNat)
 case atStart => exact ⟨0, 0, by omega, by omega, rfl, rfl, ⟨rfl, fun i _ h => by omega⟩⟩
 case round =>
  obtain ⟨k, P, hk, hP, rfl, rfl, Hk⟩ := hrel
  by_cases hlt : k < n
  ·have hki : (0 : Int) ≤ (k : Int) ∧ (k : Int) < n := by omega
   have hkl : k < l.length := by rw [En.out]; exact hlt
   obtain ⟨b, off, rfl, hb, hc⟩ := Hcell.out (by omega)
   have hx := hc k hkl
   have Hbk := qaa (Hbad.out k hkl)
   have ht := Htake.out k hkl
   rw [← Hk.out.1] at ht
   have Ht := qaa ht
   have Hn : Hid (0 ≤ l[k] ∧ l[k] ≤ 15 → ∀ i (hi : i < l.length), i < k + 1 → 0 ≤ l[i] ∧ l[i] ≤ 15) := qaa fun h i hi h2 => by
    rcases qaZ i k with h3 | h3
    ·exact Hk.out.2 i hi h3
    ·obtain rfl : i = k := by omega
     exact h
   clear hc ht Hbad
   generalize l[k] = x at *
   by_cases hneg : x < 0
   ·have Hf : Hid (R = -1) := qaa (Hbk.out (by omega))
    go_wp2
    go_ret
    exact ⟨by rw [Hf.out]; rfl, rfl⟩
   ·by_cases hbig : 15 < x
    ·have Hf : Hid (R = -1) := qaa (Hbk.out (by omega))
     go_wp2
     go_ret
     exact ⟨by rw [Hf.out]; rfl, rfl⟩
    ·have Hn2 := qaa (Hn.out (by omega))
     by_cases hx0 : 0 < x
     ·obtain ⟨m, hm15, hmx⟩ : ∃ m : Nat, m ≤ 15 ∧ 15 - x = (m : Int) := ⟨(15 - x).toNat, by omega, by omega⟩
      have hp15 : (2 ^ m : Nat) ≤ 32768 := qa7 (qaF (by omega) hm15) (by decide)
      have Ht2 : Hid (P + 2 ^ m = yax (l.take (k + 1))) := qaa (by rw [Ht.out, qah hx0, show 15 - x.toNat = m from by omega])
      have hpw := ybt m hm15
      rw [← hmx] at hpw
      have Hpw := qaa hpw
      have hPk : P ≤ 32768000000 := by omega
      clear hpw
      generalize (2 ^ m : Nat) = Q at *
      clear hmx
      go_wp2_with (go_at_call 153; refine (Hpw.out _).mono ?_; rintro e w1 ⟨rfl, rfl⟩)
      go_round
      case rel => exact ⟨k + 1, P + Q, by omega, by omega, iv (by omega), iv (by omega), ⟨Ht2.out, Hn2.out⟩⟩
      case measure => simp only [intOf]; omega
     ·have Ht2 : Hid (P = yax (l.take (k + 1))) := qaa (by rw [Ht.out, qag hx0]; rfl)
      go_wp2
      go_round
      case rel => exact ⟨k + 1, P, by omega, by omega, rfl, iv (by omega), ⟨Ht2.out, Hn2.out⟩⟩
      case measure => simp only [intOf]; omega
  ·obtain rfl : k = n := by omega
   have Hf : Hid (R = (P : Int)) := qaa (by
    rw [Hok.out fun i hi => Hk.out.2 i hi (by have := En.out; omega), ← Hall.out, ← Hk.out.1])
   go_wp2
   go_ret
   exact ⟨by rw [Hf.out]; rfl, rfl⟩
def ya6 (l : List Int) : Int := if 257 < l.length then 3 else if sumF l = 0 ∨ sumF l = 32768 ∨ ((yaq l : Int) = 1 ∧ sumF l = 16384) then 0 else 80
theorem lref_check_any (hm : n ≤ 1000000) (hr : Reads w w.heap.size 1 A n (ints l)) :
  Calls prog 155 #[.slice A n c] w fun e w' => e = .returned (.int .i64 (ya6 l)) ∧ w' = w := by
 have en : l.length = n := by have := hr.1; rw [yae] at this; omega
 have Hsum := qaa (lref_sum_any l A n c w hm hr)
 have Hused := qaa (lref_used_any l A n c w (by omega) hr)
 have hp15 : ∀ W, Calls prog 153 #[.int .i64 15] W fun e w' => e = .returned (.int .i64 32768) ∧ w' = W := fun W => ybt 15 (by omega) W
 have hp14 : ∀ W, Calls prog 153 #[.int .i64 14] W fun e w' => e = .returned (.int .i64 16384) ∧ w' = W := fun W => ybt 14 (by omega) W
 have Hp15 := qaa hp15
 have Hp14 := qaa hp14
 unfold ya6
 rw [en]
 clear hr hp15 hp14 en
 generalize sumF l = S at *
 generalize (yaq l : Int) = U at *
 by_cases hn : 257 < n
 ·rw [qah hn]
  have hni : (257 : Int) < n := by omega
  go_enter func155, ntmps155
  go_wp2
  go_ret
  exact ⟨rfl, rfl⟩
 ·rw [qag hn]
  have hni : ¬ (257 : Int) < n := by omega
  by_cases h0 : S = 0
  ·subst h0
   rw [qah (qat rfl)]
   go_enter func155, ntmps155
   go_wp2_with (go_at_call 189; refine Hsum.out.mono ?_; rintro e w1 ⟨rfl, rfl⟩)
   go_ret
   exact ⟨rfl, rfl⟩
  ·have hb0 : (S == 0) = false := by simpa using h0
   by_cases h1 : S = 32768
   ·subst h1
    rw [qah (qaT (qat rfl))]
    go_enter func155, ntmps155
    go_wp2_with (first
     | (go_at_call 189; refine Hsum.out.mono ?_; rintro e w1 ⟨rfl, rfl⟩)
     | (go_at_call 153; (with_reducible refine (Hp15.out _).mono ?_); rintro e w1 ⟨rfl, rfl⟩))
    go_ret
    exact ⟨rfl, rfl⟩
   ·have hb1 : (S == 32768) = false := by simpa using h1
    by_cases h2 : U = 1
    ·subst h2
     by_cases h3 : S = 16384
     ·subst h3
      rw [qah (qaT (qaT ⟨rfl, rfl⟩))]
      go_enter func155, ntmps155
      go_wp2_with (first
       | (go_at_call 189; refine Hsum.out.mono ?_; rintro e w1 ⟨rfl, rfl⟩)
       | (go_at_call 190; refine Hused.out.mono ?_; rintro e w1 ⟨rfl, rfl⟩)
       | (go_at_call 153; (with_reducible refine (Hp15.out _).mono ?_); rintro e w1 ⟨rfl, rfl⟩)
       | (go_at_call 153; (with_reducible refine (Hp14.out _).mono ?_); rintro e w1 ⟨rfl, rfl⟩))
      go_ret
      exact ⟨rfl, rfl⟩
     ·have hb3 : (S == 16384) = false := by simpa using h3
      rw [qag (by simp [h0, h1, h3])]
      go_enter func155, ntmps155
      go_wp2_with (first
       | (go_at_call 189; refine Hsum.out.mono ?_; rintro e w1 ⟨rfl, rfl⟩)
       | (go_at_call 190; refine Hused.out.mono ?_; rintro e w1 ⟨rfl, rfl⟩)
       | (go_at_call 153; (with_reducible refine (Hp15.out _).mono ?_); rintro e w1 ⟨rfl, rfl⟩)
       | (go_at_call 153; (with_reducible refine (Hp14.out _).mono ?_); rintro e w1 ⟨rfl, rfl⟩))
      go_ret
      exact ⟨rfl, rfl⟩
    ·have hb2 : (U == 1) = false := by simpa using h2
     rw [qag (by simp [h0, h1, h2])]
     go_enter func155, ntmps155
     go_wp2_with (first
      | (go_at_call 189; refine Hsum.out.mono ?_; rintro e w1 ⟨rfl, rfl⟩)
      | (go_at_call 190; refine Hused.out.mono ?_; rintro e w1 ⟨rfl, rfl⟩)
      | (go_at_call 153; (with_reducible refine (Hp15.out _).mono ?_); rintro e w1 ⟨rfl, rfl⟩))
     go_ret
     exact ⟨rfl, rfl⟩
end
def lsy (l : List Nat) : List Int := l.map (fun s : Nat => (s : Int))
def LOk (ok : Nat → Prop) (A : Option Addr) (n : Nat) : Prop := 0 < n → ∃ b off, A = some ⟨b, off, none⟩ ∧ ok b
def LMem (W : World) (B : Nat) (ok : Nat → Prop) : List Value → List LTh → Prop
 | xs, [] => xs = []
 | xs, x :: t => ∃ As ns cs rest, xs = .int .i64 x.w :: .slice As ns cs :: .bool x.leaf :: rest ∧ ns = x.syms.length ∧ ns ≤ cs ∧ (Reads W B 1 As ns (ints (lsy x.syms)) ∧ LOk ok As ns) ∧ LMem W B ok rest t
section
variable {ok : Nat → Prop}
theorem LMem.below {W W' : World} {B : Nat} (hb : Below B W W') : ∀ {R : List LTh} {xs : List Value}, LMem W B ok xs R → LMem W' B ok xs R
 | [], _, h => h
 | x :: t, _, ⟨As, ns, cs, rest, e, hn, hc, hr, ht⟩ => ⟨As, ns, cs, rest, e, hn, hc, ⟨hr.1.below hb, hr.2⟩, LMem.below hb ht⟩
theorem LMem.more {W : World} {B B' : Nat} (hB : B ≤ B') : ∀ {R : List LTh} {xs : List Value}, LMem W B ok xs R → LMem W B' ok xs R
 | [], _, h => h
 | x :: t, _, ⟨As, ns, cs, rest, e, hn, hc, hr, ht⟩ => ⟨As, ns, cs, rest, e, hn, hc, ⟨hr.1.more hB, hr.2⟩, LMem.more hB ht⟩
theorem LMem.len {W : World} {B : Nat} : ∀ {R : List LTh} {xs : List Value}, LMem W B ok xs R → xs.length = R.length * 3
 | [], _, h => by rw [show _ = [] from h]; rfl
 | x :: t, _, ⟨As, ns, cs, rest, e, hn, hc, hr, ht⟩ => by rw [e, qau, qau, qau, LMem.len ht, qau]; omega
theorem LMem.one {W : World} {B : Nat} : ∀ {R : List LTh} {xs : List Value}, LMem W B ok xs R → ∀ u ∈ xs, u.oneCell' = true
 | [], _, h, u, hu => by rw [show _ = [] from h] at hu; cases hu
 | x :: t, _, ⟨As, ns, cs, rest, e, hn, hc, hr, ht⟩, u, hu => by
  rw [e] at hu
  simp only [qa9] at hu
  rcases hu with rfl | rfl | rfl | hu
  ·rfl
  ·rfl
  ·rfl
  ·exact LMem.one ht u hu
theorem LMem.app {W : World} {B : Nat} : ∀ {R : List LTh} {xs : List Value} {R2 : List LTh} {ys : List Value}, LMem W B ok xs R → LMem W B ok ys R2 → LMem W B ok (xs ++ ys) (R ++ R2)
 | [], _, R2, ys, h, k => by rw [show _ = [] from h]; exact k
 | x :: t, _, R2, ys, ⟨As, ns, cs, rest, e, hn, hc, hr, ht⟩, k => ⟨As, ns, cs, rest ++ ys, by rw [e]; rfl, hn, hc, hr, LMem.app ht k⟩
theorem LMem.parts {W : World} {B : Nat} : ∀ {R R2 : List LTh} {xs : List Value}, LMem W B ok xs (R ++ R2) → LMem W B ok (xs.take (R.length * 3)) R ∧ LMem W B ok (xs.drop (R.length * 3)) R2
 | [], R2, xs, h => by
  rw [show ([] : List LTh).length * 3 = 0 from rfl]
  exact ⟨by simp [LMem], by simpa using h⟩
 | x :: t, R2, xs, ⟨As, ns, cs, rest, e, hn, hc, hr, ht⟩ => by
  obtain ⟨h1, h2⟩ := LMem.parts ht
  rw [e, show (x :: t).length * 3 = t.length * 3 + 1 + 1 + 1 from by rw [qau]; omega]
  exact ⟨⟨As, ns, cs, rest.take (t.length * 3), rfl, hn, hc, hr, h1⟩, h2⟩
theorem LMem.at {W : World} {B : Nat} : ∀ {R : List LTh} {xs : List Value} (k : Nat) (hk : k < R.length), LMem W B ok xs R → ∃ As cs, xs[k * 3]? = some (.int .i64 R[k].w) ∧ xs[k * 3 + 1]? = some (.slice As R[k].syms.length cs) ∧ xs[k * 3 + 2]? = some (.bool R[k].leaf) ∧ R[k].syms.length ≤ cs ∧ (Reads W B 1 As R[k].syms.length (ints (lsy R[k].syms)) ∧ LOk ok As R[k].syms.length)
 | x :: t, _, 0, _, ⟨As, ns, cs, rest, e, hn, hc, hr, ht⟩ => by
  subst hn
  rw [e]
  exact ⟨As, cs, rfl, rfl, rfl, hc, hr⟩
 | x :: t, _, k + 1, hk, ⟨As, ns, cs, rest, e, hn, hc, hr, ht⟩ => by
  obtain ⟨As2, cs2, h1, h2, h3, h4, h5⟩ := LMem.at k (by simpa using hk) ht
  rw [e, show (k + 1) * 3 = k * 3 + 1 + 1 + 1 from by omega]
  exact ⟨As2, cs2, by simpa using h1, by simpa using h2, by simpa using h3, by simpa using h4, by simpa using h5⟩
end
def LHRow (W : World) (B : Nat) (ok : Nat → Prop) (A : Option Addr) (n : Nat) (R : List LTh) : Prop := R.length = n ∧ LOk ok A n ∧ ∃ xs, Reads W B 3 A n xs ∧ LMem W B ok xs R
section
variable {W W' : World} {B B' n : Nat} {ok : Nat → Prop} {A : Option Addr} {R : List LTh}
theorem LHRow.below (h : LHRow W B ok A n R) (hb : Below B W W') : LHRow W' B ok A n R := by
 obtain ⟨hn, ho, xs, hr, hm⟩ := h
 exact ⟨hn, ho, xs, hr.below hb, hm.below hb⟩
theorem LHRow.more (h : LHRow W B ok A n R) (hB : B ≤ B') : LHRow W B' ok A n R := by
 obtain ⟨hn, ho, xs, hr, hm⟩ := h
 exact ⟨hn, ho, xs, hr.more hB, hm.more hB⟩
theorem ygf {base size c : Nat} {e : TypeId} {xs : List Value} (h : W.ownsRow base e size (.slice A n c) n xs) (hf : ∀ b, base ≤ b → ok b) : LOk ok A n := fun hn => by
 rcases h.2 with ⟨h1, h2⟩ | ⟨g, cap, cur, h1, hb, _⟩
 ·omega
 ·injection h1 with h1 _ _
  exact ⟨g, 0, h1, hf g hb⟩
end
theorem Reads.front3 {w : World} {B size n m : Nat} {A : Option Addr} {xs : List Value} (h : Reads w B size A n xs) (hm : m ≤ n) (hs : 0 < size) : Reads w B size A m (xs.take (m * size)) := by
 refine ⟨by rw [qar, h.1]; exact qbh (qct _ hm), fun hp => ?_⟩
 obtain ⟨b, off, e, hb, hc⟩ := h.2 (by omega)
 refine ⟨b, off, e, hb, fun j u hu => hc j u ?_⟩
 rw [List.getElem?_take] at hu
 split at hu
 ·exact hu
 ·cases hu
theorem lthing_info : (prog.info? 198).map (fun i => (i.zero, i.size, i.bytes)) = some (some (.agg #[.int .i64 0, .slice none 0 0, .bool false]), 3, 40) := by kernel_rfl
end Go.Proofs.YtanjhbkbpalnaaaGreat
