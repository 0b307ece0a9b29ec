/-
 What the law of the last of these texts stands on, part 10.
-/
import Derived.Test.YtanjhbkbpalnaaaGreatMc08
set_option maxRecDepth 100000
set_option maxHeartbeats 8000000
open Go.Proofs.Tryz
namespace Go.Proofs.YtanjhbkbpalnaaaGreat
set_option linter.unusedSimpArgs false
set_option linter.unusedVariables false
open Go.ChangeShapes Go.WideShapes Go.ChangeAt Go.RowKit Go.Joins Go.Deep
def zd (n : Nat) : List Int := if h : n = 0 then [] else (((n - 1) % 2 : Nat) : Int) :: zd ((n - 1) / 2)
termination_by n
decreasing_by omega
def zv : List Int → Nat
 | [] => 0
 | s :: t => s.toNat + 1 + 2 * zv t
def ya5 (top : Int) (l : List Int) : Bool := l.all fun k => decide (0 ≤ k) && decide (k ≤ top)
def zpk (r : Nat) : List Int → List Int
 | [] => zd r
 | x :: t => if x = 0 then zpk (r + 1) t else zd r ++ (x + 1) :: zpk 0 t
def zun (d : List Int) : List Int → List Int
 | [] => List.replicate (zv d) 0
 | s :: t => if 0 ≤ s ∧ s ≤ 1 then zun (d ++ [s]) t else List.replicate (zv d) 0 ++ (s - 1) :: zun [] t
def zct (d : List Int) : List Int → Nat
 | [] => zv d
 | s :: t => if 0 ≤ s ∧ s ≤ 1 then zct (d ++ [s]) t else zv d + (if 2 ≤ s ∧ s ≤ 256 then 1 else 0) + zct [] t
def yaW (l : List Int) : Nat := min (zct [] l) 100001
def yfZ (l : List Int) : List Int × Int := if ya5 255 l = true then (zpk 0 l, 0) else ([], 60)
def zunF (l : List Int) (most : Int) : List Int × Int :=
 if ya5 256 l = true then (if (yaW l : Int) > most ∨ (yaW l : Int) > 100000 then ([], 3) else (zun [] l, 0)) else ([], 70)
theorem yb5 : zd 0 = [] := by unfold zd; simp
theorem zd_pos (n : Nat) (h : n ≠ 0) : zd n = (((n - 1) % 2 : Nat) : Int) :: zd ((n - 1) / 2) := by
 conv => lhs; unfold zd
 rw [dif_neg h]
theorem yaL (top s : Int) (t : List Int) : ya5 top (s :: t) = true ↔ (0 ≤ s ∧ s ≤ top) ∧ ya5 top t = true := by simp [ya5]
theorem yhh (top : Int) (a b : List Int) : ya5 top (a ++ b) = true ↔ ya5 top a = true ∧ ya5 top b = true := by simp [ya5, List.all_append]
theorem ybm {top : Int} {l : List Int} (h : ya5 top l = true) (i : Nat) (hi : i < l.length) : 0 ≤ l[i] ∧ l[i] ≤ top := by
 unfold ya5 at h
 rw [qb5] at h
 have := h l[i] (qaq hi)
 simpa using this
theorem yef {top : Int} {l : List Int} (h : ∀ i (hi : i < l.length), 0 ≤ l[i] ∧ l[i] ≤ top) : ya5 top l = true := by
 unfold ya5
 rw [qb5]
 intro x hx
 obtain ⟨i, hi, rfl⟩ := qaI hx
 simpa using h i hi
theorem zgood_bad {top : Int} {l : List Int} (i : Nat) (hi : i < l.length) (hb : ¬(0 ≤ l[i] ∧ l[i] ≤ top)) : ya5 top l = false := by
 cases h : ya5 top l with
 | false => rfl
 | true => exact absurd (ybm h i hi) hb
theorem yei (n : Nat) : ya5 1 (zd n) = true := by
 induction n using Nat.strongRecOn with
 | _ n ih =>
  by_cases h : n = 0
  ·subst h; rw [yb5]; rfl
  ·rw [zd_pos n h, yaL]
   exact ⟨by omega, ih _ (by omega)⟩
theorem zv_zd (n : Nat) : zv (zd n) = n := by
 induction n using Nat.strongRecOn with
 | _ n ih =>
  by_cases h : n = 0
  ·subst h; rw [yb5]; rfl
  ·rw [zd_pos n h]
   unfold zv
   rw [ih _ (by omega)]
   omega
theorem zpk_run : ∀ (r : Nat) (p t : List Int), (∀ x ∈ p, x = 0) → zpk r (p ++ t) = zpk (r + p.length) t
 | r, [], t, _ => rfl
 | r, x :: p, t, h => by
  have h0 := h x (qa4 ..)
  have ih := zpk_run (r + 1) p t fun y hy => h y (qa3 _ hy)
  show zpk r (x :: (p ++ t)) = _
  conv => lhs; unfold zpk
  rw [qah h0, ih, qau, show r + 1 + p.length = r + (p.length + 1) from by omega]
theorem zpk_end (r : Nat) (t : List Int) (h : ∀ x s, t = x :: s → x ≠ 0) : zpk r t = zd r ++ zpk 0 t := by
 cases t with
 | nil => simp [zpk, yb5]
 | cons x s =>
  have := h x s rfl
  unfold zpk
  rw [qag this, qag this, yb5]
  rfl
theorem ydj (x : Int) (t : List Int) (h : x ≠ 0) : zpk 0 (x :: t) = (x + 1) :: zpk 0 t := by
 conv => lhs; unfold zpk
 rw [qag h, yb5]
 rfl
theorem zun_run : ∀ (d p t : List Int), ya5 1 p = true → zun d (p ++ t) = zun (d ++ p) t
 | d, [], t, _ => by rw [qa8]; rfl
 | d, s :: p, t, h => by
  rw [yaL] at h
  have ih := zun_run (d ++ [s]) p t h.2
  show zun d (s :: (p ++ t)) = _
  conv => lhs; unfold zun
  rw [qah h.1, ih, qak]
  rfl
theorem zun_end (d t : List Int) (h : ∀ s u, t = s :: u → ¬(0 ≤ s ∧ s ≤ 1)) : zun d t = List.replicate (zv d) 0 ++ zun [] t := by
 cases t with
 | nil => simp [zun, zv]
 | cons s u =>
  have := h s u rfl
  unfold zun
  rw [qag this, qag this]
  simp [zv]
theorem zun_cons (s : Int) (t : List Int) (h : ¬(0 ≤ s ∧ s ≤ 1)) : zun [] (s :: t) = (s - 1) :: zun [] t := by
 conv => lhs; unfold zun
 rw [qag h]
 simp [zv]
theorem zct_run : ∀ (d p t : List Int), ya5 1 p = true → zct d (p ++ t) = zct (d ++ p) t
 | d, [], t, _ => by rw [qa8]; rfl
 | d, s :: p, t, h => by
  rw [yaL] at h
  have ih := zct_run (d ++ [s]) p t h.2
  show zct d (s :: (p ++ t)) = _
  conv => lhs; unfold zct
  rw [qah h.1, ih, qak]
  rfl
theorem zct_end (d t : List Int) (h : ∀ s u, t = s :: u → ¬(0 ≤ s ∧ s ≤ 1)) : zct d t = zv d + zct [] t := by
 cases t with
 | nil => simp [zct, zv]
 | cons s u =>
  have := h s u rfl
  unfold zct
  rw [qag this, qag this]
  simp only [zv]
  omega
theorem zct_cons (s : Int) (t : List Int) (h : ¬(0 ≤ s ∧ s ≤ 1)) : zct [] (s :: t) = (if 2 ≤ s ∧ s ≤ 256 then 1 else 0) + zct [] t := by
 conv => lhs; unfold zct
 rw [qag h]
 simp only [zv]
 omega
theorem zun_len : ∀ (l d : List Int), ya5 256 l = true → (zun d l).length = zct d l
 | [], d, _ => by simp [zun, zct]
 | s :: t, d, h => by
  rw [yaL] at h
  unfold zun zct
  by_cases h1 : 0 ≤ s ∧ s ≤ 1
  ·rw [qah h1, qah h1, zun_len t _ h.2]
  ·rw [qag h1, qag h1, qah (by omega), qae, qau, qaE, zun_len t _ h.2]
   omega
theorem zun_zpk : ∀ (l : List Int) (r : Nat), ya5 255 l = true → zun [] (zpk r l) = List.replicate r 0 ++ l
 | [], r, _ => by
  have h := zun_run [] (zd r) [] (yei r)
  rw [qa8, qaS] at h
  unfold zpk
  rw [h]
  unfold zun
  rw [zv_zd, qa8]
 | x :: t, r, h => by
  rw [yaL] at h
  unfold zpk
  by_cases h0 : x = 0
  ·rw [qah h0, zun_zpk t (r + 1) h.2, h0, qcz, qak]
   rfl
  ·rw [qag h0, zun_run [] (zd r) _ (yei r), qaS]
   conv => lhs; unfold zun
   rw [qag (by omega), zv_zd, zun_zpk t 0 h.2]
   simp
theorem yf7 : ∀ (l : List Int) (r : Nat), ya5 255 l = true → ya5 256 (zpk r l) = true
 | [], r, _ => by
  unfold zpk
  exact yef fun i hi => by have := ybm (yei r) i hi; omega
 | x :: t, r, h => by
  rw [yaL] at h
  unfold zpk
  by_cases h0 : x = 0
  ·rw [qah h0]; exact yf7 t _ h.2
  ·rw [qag h0, yhh, yaL]
   exact ⟨yef fun i hi => by have := ybm (yei r) i hi; omega, by omega, yf7 t 0 h.2⟩
theorem zun_good : ∀ (l d : List Int), ya5 256 l = true → ya5 255 (zun d l) = true
 | [], d, _ => by
  unfold zun
  exact yef fun i hi => by simp
 | s :: t, d, h => by
  rw [yaL] at h
  unfold zun
  by_cases h1 : 0 ≤ s ∧ s ≤ 1
  ·rw [qah h1]; exact zun_good t _ h.2
  ·rw [qag h1, yhh, yaL]
   exact ⟨yef fun i hi => by simp, by omega, zun_good t [] h.2⟩
theorem zd_len (n : Nat) : (zd n).length ≤ n := by
 induction n using Nat.strongRecOn with
 | _ n ih =>
  by_cases h : n = 0
  ·subst h; rw [yb5]; simp
  ·rw [zd_pos n h, qau]
   have := ih ((n - 1) / 2) (by omega)
   omega
theorem yhk : ∀ (l : List Int) (r : Nat), (zpk r l).length ≤ r + l.length
 | [], r => by unfold zpk; have := zd_len r; simp; omega
 | x :: t, r => by
  unfold zpk
  by_cases h0 : x = 0
  ·rw [qah h0]; have := yhk t (r + 1); rw [qau]; omega
  ·rw [qag h0, qae, qau, qau]
   have := yhk t 0
   have := zd_len r
   omega
theorem zback (l : List Int) (hl : l.length ≤ 100000) (h : ya5 255 l = true) : zunF (zpk 0 l) l.length = (l, 0) ∧ yaW (zpk 0 l) = l.length ∧ (zpk 0 l).length ≤ l.length := by
 have hu := zun_zpk l 0 h
 have hg := yf7 l 0 h
 have hc : yaW (zpk 0 l) = l.length := by
  unfold yaW
  rw [← zun_len _ _ hg, hu]
  simp
  omega
 refine ⟨?_, hc, by have := yhk l 0; omega⟩
 unfold zunF
 rw [qah hg, hc, qag (by omega), hu]
 rfl
def zlog (m : Nat) : Nat := if h : m ≤ 1 then 0 else zlog (m / 2) + 1
termination_by m
decreasing_by omega
theorem zlog_one (m : Nat) (h : m ≤ 1) : zlog m = 0 := by unfold zlog; rw [dif_pos h]
theorem zlog_more (m : Nat) (h : 1 < m) : zlog m = zlog (m / 2) + 1 := by
 conv => lhs; unfold zlog
 rw [dif_neg (by omega)]
theorem zd_log (n : Nat) : (zd n).length = zlog (n + 1) := by
 induction n using Nat.strongRecOn with
 | _ n ih =>
  by_cases h : n = 0
  ·subst h; rw [yb5, zlog_one 1 (by omega)]; rfl
  ·rw [zd_pos n h, qau, ih _ (by omega), zlog_more (n + 1) (by omega)]
   congr 2
   omega
theorem zlog_lt : ∀ (k m : Nat), m < 2 ^ (k + 1) → zlog m ≤ k
 | 0, m, h => by rw [zlog_one m (by simp at h; omega)]; omega
 | k + 1, m, h => by
  by_cases h1 : m ≤ 1
  ·rw [zlog_one m h1]; omega
  ·rw [zlog_more m (by omega)]
   have := zlog_lt k (m / 2) (by rw [qaW] at h; omega)
   omega
theorem yeW : ∀ l : List Int, ya1 l ≤ yaA l ∧ yaA l ≤ 16384 * ya1 l
 | [] => by simp [ya1, yaA]
 | x :: t => by
  obtain ⟨h1, h2⟩ := yeW t
  have e : ya1 (x :: t) = (if 0 < x then 1 else 0) + ya1 t := by
   unfold ya1
   rw [qaD]
   by_cases h : 0 < x
   ·rw [qah (by simpa using h), qah h, qau]; omega
   ·rw [qag (by simpa using h), qag h]; omega
  rw [e]
  show _ ≤ (if 0 < x then 2 ^ (15 - x.toNat) else 0) + yaA t ∧ _
  by_cases h : 0 < x
  ·rw [qah h, qah h]
   have h3 : (2 : Nat) ^ (15 - x.toNat) ≤ 2 ^ 14 := qaH (by omega) (by omega)
   have h4 : 0 < (2 : Nat) ^ (15 - x.toNat) := qbf (by omega)
   constructor
   ·omega
   ·show (if 0 < x then 2 ^ (15 - x.toNat) else 0) + yaA t ≤ _
    rw [qah h]
    omega
  ·rw [qag h, qag h]
   constructor
   ·omega
   ·show (if 0 < x then 2 ^ (15 - x.toNat) else 0) + yaA t ≤ _
    rw [qag h]
    omega
theorem yeJ (l : List Int) : ycC l = ya3 l := by
 unfold ycC ya3
 by_cases h : 257 < l.length
 ·rw [qah h, qah h]
 ·rw [qag h, qag h]
  obtain ⟨h1, h2⟩ := yeW l
  unfold sumF yfz
  by_cases hg : ydN l = true
  ·rw [qah hg, qah hg]
   by_cases u0 : ya1 l = 0
   ·rw [qah u0, qah (by omega), qah (by omega)]
   ·rw [qag u0]
    by_cases u1 : ya1 l = 1
    ·rw [qah u1]
     by_cases hp : (yaA l : Int) = 16384
     ·rw [qah hp, qah (by omega)]
     ·rw [qag hp, qag (by omega)]
    ·rw [qag u1]
     by_cases hp : (yaA l : Int) = 32768
     ·rw [qah hp, qah (by omega)]
     ·rw [qag hp, qag (by omega)]
  ·rw [qag hg, qag hg, qag (by omega)]
theorem yeV (f : Nat → Int) : ∀ (counts l : List Int) (i : Nat), l.length = counts.length → (∀ j (hl : j < l.length), l[j] = f (i + j)) → (∀ j (hl : j < l.length) (hc : j < counts.length), 0 < l[j] ↔ 0 < counts[j]) →
  (yaA l : Int) = isum (fun j c => if 0 < c then ((2 ^ (15 - (f j).toNat) : Nat) : Int) else 0) i counts
 | [], [], i, _, _, _ => rfl
 | [], y :: l, i, h, _, _ => by simp at h
 | c :: t, [], i, h, _, _ => by simp at h
 | c :: t, y :: l, i, h, hf, hp => by
  have ih := yeV f t l (i + 1) (by simpa using h) (fun j hl => by
   have := hf (j + 1) (by simpa using hl)
   rw [show i + (j + 1) = i + 1 + j from by omega] at this
   simpa using this) (fun j hl hc => hp (j + 1) (by simpa using hl) (by simpa using hc))
  have h0 := hf 0 (by simp)
  have p0 := hp 0 (by simp) (by simp)
  simp only [List.getElem_cons_zero, qb0] at h0 p0
  show (((if 0 < y then 2 ^ (15 - y.toNat) else 0) + yaA l : Nat) : Int) = (if 0 < c then ((2 ^ (15 - (f i).toNat) : Nat) : Int) else 0) + isum _ (i + 1) t
  rw [qb7, ih, ← h0]
  by_cases hc : 0 < c
  ·rw [qah hc, qah (p0.2 hc)]
  ·rw [qag hc, qag (fun h => hc (p0.1 h))]
   rfl
theorem usedF_isum : ∀ (counts l : List Int) (i : Nat), l.length = counts.length → (∀ j (hl : j < l.length) (hc : j < counts.length), 0 < l[j] ↔ 0 < counts[j]) →
  (ya1 l : Int) = isum (fun _ c => if 0 < c then 1 else 0) i counts
 | [], [], i, _, _ => rfl
 | [], y :: l, i, h, _ => by simp at h
 | c :: t, [], i, h, _ => by simp at h
 | c :: t, y :: l, i, h, hp => by
  have ih := usedF_isum t l (i + 1) (by simpa using h) (fun j hl hc => hp (j + 1) (by simpa using hl) (by simpa using hc))
  have p0 := hp 0 (by simp) (by simp)
  simp only [List.getElem_cons_zero] at p0
  have e : ya1 (y :: l) = (if 0 < y then 1 else 0) + ya1 l := by
   unfold ya1
   rw [qaD]
   by_cases h : 0 < y
   ·rw [qah (by simpa using h), qah h, qau]; omega
   ·rw [qag (by simpa using h), qag h]; omega
  show (ya1 (y :: l) : Int) = (if 0 < c then 1 else 0) + isum _ (i + 1) t
  rw [e, qb7, ih]
  by_cases hc : 0 < c
  ·rw [qah hc, qah (p0.2 hc)]; rfl
  ·rw [qag hc, qag (fun h => hc (p0.1 h))]; rfl
theorem isum_mul (a : Int) (g : Nat → Int → Int) : ∀ (l : List Int) (i : Nat), isum (fun j c => a * g j c) i l = a * isum g i l
 | [], _ => by simp [isum]
 | c :: t, i => by
  have ih := isum_mul a g t (i + 1)
  simp only [isum, ih, Int.mul_add]
theorem yet (counts : List Int) (i : Nat) : isum (fun _ c => if 0 < c then 1 else 0) i counts = ((yaa counts).length : Int) := by
 have h := ydS counts (fun _ => 1)
 rw [ydq] at h
 have e : ∀ (l : List Int) (i j : Nat), isum (fun _ c => if 0 < c then (1 : Int) else 0) i l = isum (fun _ c => if 0 < c then 1 else 0) j l := by
  intro l
  induction l with
  | nil => intro i j; rfl
  | cons c t ih => intro i j; simp only [isum]; rw [ih (i + 1) (j + 1)]
 rw [e counts i 0]
 exact h.symm
theorem lpow_split (L : Nat) (hL : L ≤ 15) (x : Nat) (hx : x ≤ L) : (2 ^ (15 - x) : Nat) = 2 ^ (15 - L) * 2 ^ (L - x) := by
 rw [← qbJ]
 congr 1
 omega
theorem lpow_all (L : Nat) (hL : L ≤ 15) : (32768 : Nat) = 2 ^ (15 - L) * 2 ^ L := by
 rw [← qbJ, show 15 - L + L = 15 from by omega]
section
variable {counts : List Int} {L : Nat}
theorem ybH (h : (yaa counts).length ≠ 1) (j : Nat) (hj : j < (ya0 counts L).length) : (ya0 counts L)[j] = llen counts L j := by
 have e : ya0 counts L = lout counts.length (fun s => llen counts L s) := by rw [ygD counts L h]; rfl
 have h2 : (ya0 counts L)[j]? = some (llen counts L j) := by
  rw [e, yfN _ _ _ (by rw [ydy] at hj; exact hj)]
 rw [qaj hj] at h2
 injection h2
theorem ybL (h : (yaa counts).length = 1) (j : Nat) (hj : j < (ya0 counts L).length) : (ya0 counts L)[j] = if 0 < counts[j]'(by rw [ydy] at hj; exact hj) then 1 else 0 := by
 have e : ya0 counts L = counts.map (fun c => if 0 < c then 1 else 0) := by unfold ya0; rw [qah h]
 simp only [e, qaY]
structure LGoodB (counts l : List Int) (L : Nat) : Prop where
 len : l.length = counts.length
 pos : ∀ j (hl : j < l.length) (hc : j < counts.length), 0 < l[j] ↔ 0 < counts[j]
 rng : ∀ j (hl : j < l.length), 0 ≤ l[j] ∧ l[j] ≤ L
 falls : ∀ i j (hi : i < l.length) (hj : j < l.length) (hi' : i < counts.length) (hj' : j < counts.length), counts[j] < counts[i] → 0 < counts[j] → l[i] ≤ l[j]
theorem ygb (hL : 1 ≤ L ∧ L ≤ 15) (hg : ygd counts = true) (hm : (yaa counts).length ≤ 2 ^ L) : LGoodB counts (ya0 counts L) L := by
 have hlen := ydy counts L
 obtain ⟨k, rfl⟩ : ∃ k, L = k + 1 := ⟨L - 1, by omega⟩
 by_cases h1 : (yaa counts).length = 1
 ·refine ⟨hlen, fun j hl hc => ?_, fun j hl => ?_, fun i j hi hj hi' hj' hlt h0 => ?_⟩
  ·rw [ybL h1 j hl]
   by_cases h : 0 < counts[j]
   ·rw [qah h]; simp [h]
   ·rw [qag h]; simp [h]
  ·rw [ybL h1 j hl]
   split <;> omega
  ·rw [ybL h1 i hi, ybL h1 j hj, qah (show 0 < counts[i] by omega), qah h0]
   exact qcw _
 ·by_cases h2 : 2 ≤ (yaa counts).length
  ·refine ⟨hlen, fun j hl hc => ?_, fun j hl => ?_, fun i j hi hj hi' hj' hlt h0 => ?_⟩
   ·rw [ybH h1 j hl]
    constructor
    ·intro h
     rcases Int.lt_or_le 0 counts[j] with e | e
     ·exact e
     ·have := yg6 (counts := counts) (k + 1) j fun _ => e
      omega
    ·intro h
     have := (yfU h2 hm j hc h).1
     omega
   ·rw [ybH h1 j hl]
    have hc : j < counts.length := by omega
    rcases Int.lt_or_le 0 counts[j] with e | e
    ·have := yfU h2 hm j hc e
     omega
    ·have := yg6 (counts := counts) (k + 1) j fun _ => e
     omega
   ·rw [ybH h1 i hi, ybH h1 j hj]
    exact llen_falls h2 hm i j hi' hj' hlt h0
  ·have hno : ∀ j (hj : j < counts.length), ¬ 0 < counts[j] := fun j hj hp => by
    have := (yax counts ⟨counts[j], [j], true⟩).2 ⟨j, hj, hp, rfl⟩
    have := List.length_pos_of_mem this
    omega
   have hz : ∀ j (hj : j < (ya0 counts (k + 1)).length), (ya0 counts (k + 1))[j] = 0 := fun j hj => by
    rw [ybH h1 j hj]
    exact yg6 (counts := counts) (k + 1) j fun hs => by have := hno j hs; omega
   refine ⟨hlen, fun j hl hc => ?_, fun j hl => ?_, fun i j hi hj hi' hj' hlt h0 => absurd h0 (hno j hj')⟩
   ·rw [hz j hl]
    have := hno j hc
    omega
   ·rw [hz j hl]; omega
theorem lbestL_check (hL : 1 ≤ L ∧ L ≤ 15) (hg : ygd counts = true) (hm : (yaa counts).length ≤ 2 ^ L) (hn : counts.length ≤ 257) : ycC (ya0 counts L) = 0 := by
 have hG := ygb hL hg hm
 have hused := usedF_isum counts (ya0 counts L) 0 hG.len hG.pos
 rw [yet] at hused
 have hu2 := yeW (ya0 counts L)
 have hlg : ydN (ya0 counts L) = true := lgood_of fun i hi => by have := hG.rng i hi; omega
 unfold ycC
 rw [qag (by rw [hG.len]; omega), qah hlg]
 obtain ⟨k, rfl⟩ : ∃ k, L = k + 1 := ⟨L - 1, by omega⟩
 by_cases h1 : (yaa counts).length = 1
 ·have hp := yeV (fun j => (ya0 counts (k + 1))[j]?.getD 0) counts (ya0 counts (k + 1)) 0 hG.len (fun j hl => by rw [qaL, qaj hl]; rfl) hG.pos
  rw [yeF (h := fun j c => 16384 * (if 0 < c then 1 else 0)) counts 0 fun j hj => ?_, isum_mul, yet, h1] at hp
  ·have hfu : yfz (ya1 (ya0 counts (k + 1))) = 16384 := by
    unfold yfz
    rw [qag (by omega), qah (by omega)]
   rw [hfu, qah (by omega)]
  ·have hj2 : j < (ya0 counts (k + 1)).length := by rw [hG.len]; exact hj
   rw [qaL]
   by_cases h0 : 0 < counts[j]
   ·rw [qah h0, qah h0, qaj hj2, ybL h1 j hj2, qah h0]
    decide
   ·rw [qag h0, qag h0]; decide
 ·by_cases h2 : 2 ≤ (yaa counts).length
  ·have hp := yeV (fun j => llen counts (k + 1) j) counts (ya0 counts (k + 1)) 0 hG.len (fun j hl => by rw [qaL]; exact ybH h1 j hl) hG.pos
   rw [yeF (h := fun j c => ((2 ^ (15 - (k + 1)) : Nat) : Int) * (if 0 < c then ((2 ^ (k + 1 - (llen counts (k + 1) j).toNat) : Nat) : Int) else 0)) counts 0 fun j hj => ?_, isum_mul, llen_full h2 hm] at hp
   ·have h3 := lpow_all (k + 1) hL.2
    have h4 : (yaA (ya0 counts (k + 1)) : Int) = 32768 := by rw [hp, ← qc1, ← h3]; rfl
    have hfu : yfz (ya1 (ya0 counts (k + 1))) = 32768 := by
     unfold yfz
     rw [qag (by omega), qag (by omega)]
    rw [hfu, qah h4]
   ·rw [qaL]
    by_cases h0 : 0 < counts[j]
    ·rw [qah h0, qah h0]
     have := yfU h2 hm j hj h0
     rw [lpow_split (k + 1) hL.2 (llen counts (k + 1) j).toNat (by omega), qc1]
    ·rw [qag h0, qag h0, Int.mul_zero]
  ·have hfu : yfz (ya1 (ya0 counts (k + 1))) = 0 := by
    unfold yfz
    rw [qah (by omega)]
   rw [hfu, qah (by omega)]
end
variable {ls : List Nat}
theorem wat_at (h15 : ∀ x ∈ ls, x ≤ 15) (j : Nat) (hj : j < ls.length) (hj2 : j < (wat ls 16 0).length) : (wat ls 16 0)[j] = if 0 < ls[j] then (((yb7 ls ls[j] j : Nat) : Int), ((ls[j] : Nat) : Int)) else (0, 0) := by
 have h := wat_get ls 16 0 j hj
 rw [qaj hj2] at h
 injection h with h
 rw [h]
 have hgd : ls.getD j 0 = ls[j] := by rw [qar, qaj hj]; rfl
 have h2 := h15 _ (qaq hj)
 unfold cat1
 rw [hgd]
 by_cases hp : 0 < ls[j]
 ·rw [qah hp, qah ⟨hp, qas (by omega)⟩]
 ·rw [qag hp, qag (by omega)]
theorem yc2 (h15 : ∀ x ∈ ls, x ≤ 15) (j : Nat) (hj : j < ls.length) (hj2 : j < (wat ls 16 0).length) (hp : 0 < ls[j]) : digI (wat ls 16 0)[j].1 (wat ls 16 0)[j].2 = dig ls[j] (yb7 ls ls[j] j) ∧ (wat ls 16 0)[j].2 ≠ 0 := by
 rw [wat_at h15 j hj hj2, qah hp]
 refine ⟨?_, by show ((ls[j] : Nat) : Int) ≠ 0; omega⟩
 unfold digI
 rw [qav, qav]
theorem ydv (h15 : ∀ x ∈ ls, x ≤ 15) (j : Nat) (hj : j < ls.length) (hj2 : j < (wat ls 16 0).length) (hp : ¬ 0 < ls[j]) : (wat ls 16 0)[j].2 = 0 := by
 rw [wat_at h15 j hj hj2, qag hp]
theorem ycn (h15 : ∀ x ∈ ls, x ≤ 15) (hc : call ls ≤ 32768) {R : List Nat} (hb : Bin R) (j : Nat) (hj : j < ls.length) (hp : 0 < ls[j]) : (begF R (dig ls[j] (yb7 ls ls[j] j))).2 = true ↔ ls[j] ≤ R.length ∧ cpos ls ls[j] j ≤ v15 R ∧ v15 R < cpos ls ls[j] j + 2 ^ (15 - ls[j]) := by
 have h2 := h15 _ (qaq hj)
 rw [begF_word hb _ _ h2 (cword_lt ls[j] j hj rfl ⟨hp, h2⟩ hc), ycs _ _ h2]
theorem cget_found (h15 : ∀ x ∈ ls, x ≤ 15) (hc : call ls ≤ 32768) {R : List Nat} (hb : Bin R) (E : Int) (k : Nat) (hk : k < ls.length) (hp : 0 < ls[k]) (hl : ls[k] ≤ R.length) (hv : cpos ls ls[k] k ≤ v15 R ∧ v15 R < cpos ls ls[k] k + 2 ^ (15 - ls[k])) : ybr (wat ls 16 0) 0 R E = ((k : Int), (ls[k] : Int), 0) := by
 have hkw : k < (wat ls 16 0).length := by rw [yaS]; exact hk
 have hd := yc2 h15 k hk hkw hp
 rw [cget1_hit R E (wat ls 16 0) 0 k E hkw ?_ hd.2 ?_, hd.1, yab, qaL]
 ·intro j hj hjk
  have hj2 : j < ls.length := by rw [yaS] at hj; exact hj
  by_cases hpj : 0 < ls[j]
  ·right
   rw [(yc2 h15 j hj2 hj hpj).1]
   cases hbb : (begF R (dig ls[j] (yb7 ls ls[j] j))).2 with
   | false => rfl
   | true =>
    have := (ycn h15 hc hb j hj2 hpj).1 hbb
    have := cpos_only (v15 R) j k hj2 hk hpj hp this.2 hv
    omega
  ·exact qas (ydv h15 j hj2 hj hpj)
 ·rw [hd.1]
  exact (ycn h15 hc hb k hk hp).2 ⟨hl, hv⟩
theorem cget_cut (h15 : ∀ x ∈ ls, x ≤ 15) (hc : call ls ≤ 32768) {R : List Nat} (hb : Bin R) (E : Int) (k : Nat) (hk : k < ls.length) (hp : 0 < ls[k]) (hl : R.length < ls[k]) (hv : cpos ls ls[k] k ≤ v15 R ∧ v15 R < cpos ls ls[k] k + 2 ^ (15 - ls[k])) : ybr (wat ls 16 0) 0 R E = (0, 0, 4) := by
 have hkw : k < (wat ls 16 0).length := by rw [yaS]; exact hk
 have hd := yc2 h15 k hk hkw hp
 have h2 := h15 _ (qaq hk)
 refine ydP R (wat ls 16 0) 0 E ?_ (qaK ⟨k, hkw, hd.2, ?_⟩)
 ·intro j hj
  have hj2 : j < ls.length := by rw [yaS] at hj; exact hj
  by_cases hpj : 0 < ls[j]
  ·right
   rw [(yc2 h15 j hj2 hj hpj).1]
   cases hbb : (begF R (dig ls[j] (yb7 ls ls[j] j))).2 with
   | false => rfl
   | true =>
    have h3 := (ycn h15 hc hb j hj2 hpj).1 hbb
    have h4 := cpos_only (v15 R) j k hj2 hk hpj hp h3.2 hv
    subst h4
    omega
  ·exact qas (ydv h15 j hj2 hj hpj)
 ·rw [hd.1]
  refine begF_part hb _ _ h2 hl ?_
  rw [ycs _ _ h2]
  exact hv
theorem ygN (h15 : ∀ x ∈ ls, x ≤ 15) (hc : call ls ≤ 32768) {R : List Nat} (hb : Bin R) (E : Int) (k : Nat) (hk : k < ls.length) (hp : 0 < ls[k]) (T : List Nat) (hR : R = dig ls[k] (yb7 ls ls[k] k) ++ T) : ybr (wat ls 16 0) 0 R E = ((k : Int), (ls[k] : Int), 0) := by
 have h : (begF R (dig ls[k] (yb7 ls ls[k] k))).2 = true := (yed _ _).2 ⟨by rw [hR, qae]; omega, by rw [hR, qbk (qaf _), qa5 (qaf _)]⟩
 have h1 := (ycn h15 hc hb k hk hp).1 h
 exact cget_found h15 hc hb E k hk hp h1.1 h1.2
def ycI (ws : List (Int × Int)) (sy : List Int) : List Nat := sy.flatMap fun s => (yaZ ws s).1
theorem yd1 (ws : List (Int × Int)) (s : Int) (t : List Int) : ycI ws (s :: t) = (yaZ ws s).1 ++ ycI ws t := rfl
theorem cword_has (h15 : ∀ x ∈ ls, x ≤ 15) (s : Int) (h : (yaZ (wat ls 16 0) s).2 = 0) : ∃ k, ∃ hk : k < ls.length, s = (k : Int) ∧ 0 < ls[k] ∧ (yaZ (wat ls 16 0) s).1 = dig ls[k] (yb7 ls ls[k] k) := by
 unfold yaZ at h ⊢
 by_cases h0 : 0 ≤ s ∧ s < (wat ls 16 0).length ∧ ((wat ls 16 0).getD s.toNat (0, 0)).2 ≠ 0
 ·obtain ⟨k, rfl⟩ := qaQ h0.1
  have hkw : k < (wat ls 16 0).length := by omega
  have hk : k < ls.length := by rw [yaS] at hkw; exact hkw
  rw [qah h0]
  rw [qav] at h0 ⊢
  have hgd : (wat ls 16 0).getD k (0, 0) = (wat ls 16 0)[k] := by rw [qar, qaj hkw]; rfl
  rw [hgd] at h0 ⊢
  by_cases hp : 0 < ls[k]
  ·exact ⟨k, hk, rfl, hp, (yc2 h15 k hk hkw hp).1⟩
  ·exact absurd (ydv h15 k hk hkw hp) h0.2.2
 ·rw [qag h0] at h
  exact absurd h (by decide)
theorem cword_is (h15 : ∀ x ∈ ls, x ≤ 15) (k : Nat) (hk : k < ls.length) (hp : 0 < ls[k]) : yaZ (wat ls 16 0) (k : Int) = (dig ls[k] (yb7 ls ls[k] k), 0) := by
 have hkw : k < (wat ls 16 0).length := by rw [yaS]; exact hk
 have hd := yc2 h15 k hk hkw hp
 rw [cword_at _ k hkw, qah hd.2, hd.1]
theorem cunp_back (h15 : ∀ x ∈ ls, x ≤ 15) (hc : call ls ≤ 32768) {L : List Nat} (hb : Bin L) : ∀ (sy : List Int) (p : Nat) (acc : List Int) (T : List Nat), (∀ s ∈ sy, (yaZ (wat ls 16 0) s).2 = 0) → L.drop p = ycI (wat ls 16 0) sy ++ T → cunp (wat ls 16 0) L sy.length p acc = (acc ++ sy, p + (ycI (wat ls 16 0) sy).length, 0)
 | [], p, acc, T, _, _ => by simp [cunp, ycI]
 | s :: t, p, acc, T, h, hL => by
  obtain ⟨k, hk, rfl, hp, hw⟩ := cword_has h15 s (h s (qa4 ..))
  rw [yd1, hw, qak] at hL
  have hg : ybk (wat ls 16 0) L p = ((k : Int), (ls[k] : Int), 0) := ygN h15 hc (fun d hd => hb d (qbt hd)) _ k hk hp _ hL
  have hL2 : L.drop (p + ls[k]) = ycI (wat ls 16 0) t ++ T := by
   rw [← qbh, hL, qaX (by rw [yab]; exact qaf _), qaO (by rw [yab]; exact qaf _), qaS]
  rw [qau, ycQ, hg, qah rfl]
  show cunp _ L t.length (p + ((ls[k] : Nat) : Int).toNat) (acc ++ [(k : Int)]) = _
  rw [qav, cunp_back h15 hc hb t (p + ls[k]) _ T (fun u hu => h u (qa3 _ hu)) hL2, yd1, hw, qae, yab, qak, qcn]
  rfl
end Go.Proofs.YtanjhbkbpalnaaaGreat
namespace Go.Proofs.YtanjhbkbpalnaaaGreat
set_option linter.unusedSimpArgs false
set_option linter.unusedVariables false
open Go.ChangeShapes Go.WideShapes Go.ChangeAt Go.RowKit Go.Joins Go.Deep
theorem cnat15 {l : List Int} (hg : ydN l = true) : ∀ x ∈ l.map Int.toNat, x ≤ 15 := by
 intro x hx
 obtain ⟨i, hi, rfl⟩ := qaI hx
 rw [qaY]
 have := ybK hg i (by simpa using hi)
 omega
theorem yeU : ∀ l : List Int, ya1 l ≤ yaA l
 | [] => qaf _
 | x :: t => by
  have ih := yeU t
  have hu : ya1 (x :: t) = (if 0 < x then 1 else 0) + ya1 t := by
   unfold ya1
   by_cases h : 0 < x
   ·rw [qaD, qah (by simpa using h), qah h, qau]; omega
   ·rw [qaD, qag (by simpa using h), qag h]; omega
  show ya1 (x :: t) ≤ (if 0 < x then 2 ^ (15 - x.toNat) else 0) + yaA t
  rw [hu]
  have : 0 < (2 : Nat) ^ (15 - x.toNat) := qbf (by omega)
  by_cases h : 0 < x
  ·rw [qah h, qah h]; omega
  ·rw [qag h, qag h]; omega
theorem cbits_bin {ws : List (Int × Int)} (hf : ∀ f ∈ ws, fits f.1 f.2) : ∀ sy : List Int, Bin (ycI ws sy)
 | [] => yeL
 | s :: t => by
  rw [yd1]
  exact (yha hf s).2.app (cbits_bin hf t)
theorem cwords_ok {l : List Int} (h : ya3 l = 0) : cwordsF l = (wat (l.map Int.toNat) 16 0, 0) := by unfold cwordsF; rw [qah h]
def dg : Nat → Nat → List UInt8
 | 0, _ => []
 | f + 1, n => if n < 128 then [UInt8.ofNat n] else UInt8.ofNat (128 + n % 128) :: dg f (n / 128)
def putB (n : Int) : List UInt8 := if n < 0 then [] else dg 9 n.toNat
def putE (n : Int) : Int := if n < 0 then 2 else 0
def sizeF (n : Int) : Int := (putB n).length
def val : List UInt8 → Nat
 | [] => 0
 | b :: t => b.toNat % 128 + 128 * val t
def lead : List UInt8 → Nat
 | [] => 0
 | b :: t => if 128 ≤ b.toNat then lead t + 1 else 0
def getR (l : List UInt8) : Int × Nat × Int :=
 if 9 ≤ lead l then (0, 0, 5) else if lead l = l.length then (0, 0, 4) else if 0 < lead l ∧ l.getD (lead l) 0 = 0 then (0, 0, 5) else ((val (l.take (lead l + 1)) : Int), lead l + 1, 0)
def getF (l : List UInt8) (p : Int) : Int × Int × Int :=
 if 0 ≤ p ∧ p ≤ l.length then (if (getR (l.drop p.toNat)).2.2 = 0 then ((getR (l.drop p.toNat)).1, p + (getR (l.drop p.toNat)).2.1, 0) else (0, 0, (getR (l.drop p.toNat)).2.2)) else (0, 0, 2)
theorem dg_le : ∀ f n, (dg f n).length ≤ f
 | 0, _ => qaf _
 | f + 1, n => by
  unfold dg
  split
  ·simp
  ·have := dg_le f (n / 128); simp; omega
theorem dg_pos (f n : Nat) : 0 < (dg (f + 1) n).length := by
 unfold dg
 split <;> simp
theorem lead_le : ∀ l, lead l ≤ l.length
 | [] => qaf _
 | b :: t => by
  have := lead_le t
  unfold lead
  split <;> simp <;> omega
theorem lead_at : ∀ (l : List UInt8) (j : Nat) (h : j < lead l), 128 ≤ (l[j]'(qaZ h (lead_le l))).toNat
 | [], j, h => by simp [lead] at h
 | b :: t, 0, h => by
  unfold lead at h
  split at h
  ·assumption
  ·simp at h
 | b :: t, j + 1, h => by
  unfold lead at h
  split at h
  ·simpa using lead_at t j (by omega)
  ·simp at h
theorem lead_end : ∀ (l : List UInt8) (h : lead l < l.length), (l[lead l]'h).toNat < 128
 | [], h => by simp at h
 | b :: t, h => by
  by_cases hb : 128 ≤ b.toNat
  ·have e : lead (b :: t) = lead t + 1 := by simp [lead, hb]
   have ht : lead t < t.length := by rw [e] at h; simpa using h
   have := lead_end t ht
   simp only [e, List.getElem_cons_succ]
   exact this
  ·have e : lead (b :: t) = 0 := by simp [lead, hb]
   simp only [e, List.getElem_cons_zero]
   omega
theorem lead_is (l : List UInt8) (k : Nat) (hk : k ≤ lead l) (h : k < l.length) (hb : (l[k]'h).toNat < 128) : lead l = k := by
 rcases qbz k (lead l) with hlt | hge
 ·have := lead_at l k hlt; omega
 ·omega
theorem lead_more (l : List UInt8) (k : Nat) (hk : k ≤ lead l) (h : k < l.length) (hb : 128 ≤ (l[k]'h).toNat) : k + 1 ≤ lead l := by
 rcases qbz k (lead l) with hlt | hge
 ·omega
 ·have e : lead l = k := by omega
  have hh : lead l < l.length := by omega
  have := lead_end l hh
  simp only [e] at this
  omega
theorem val_lt : ∀ l, val l < 128 ^ l.length
 | [] => by simp [val]
 | b :: t => by
  have := val_lt t
  have hb := Nat.mod_lt b.toNat (by omega : 0 < 128)
  simp only [val, qau, qaW]
  omega
theorem val_snoc : ∀ (l : List UInt8) (b : UInt8), val (l ++ [b]) = val l + 128 ^ l.length * (b.toNat % 128)
 | [], b => by simp [val]
 | a :: t, b => by
  simp only [qbl, val, val_snoc t b, qau, qaW]
  rw [Nat.mul_add, ← qcm, qbO 128 (128 ^ t.length)]
  omega
theorem yfJ (l : List UInt8) (k : Nat) (h : k < l.length) : val (l.take (k + 1)) = val (l.take k) + 128 ^ k * ((l[k]'h).toNat % 128) := by
 rw [qap h, val_snoc]
 simp [qbi (Nat.le_of_lt h)]
theorem dg_val : ∀ (f n : Nat), n < 128 ^ f → val (dg f n) = n
 | 0, n, h => by simp at h; subst h; rfl
 | f + 1, n, h => by
  unfold dg
  split
  ·rename_i h1
   simp only [val, yaE n (by omega)]
   omega
  ·have hd : n / 128 < 128 ^ f := by rw [qbB (by omega)]; rw [qaW] at h; exact h
   simp only [val, yaE (128 + n % 128) (by omega), dg_val f _ hd]
   omega
theorem dg_lead : ∀ (f n : Nat) (rest : List UInt8), n < 128 ^ (f + 1) → lead (dg (f + 1) n ++ rest) = (dg (f + 1) n).length - 1
 | f, n, rest, h => by
  by_cases h1 : n < 128
  ·have e : dg (f + 1) n = [UInt8.ofNat n] := by simp [dg, h1]
   rw [e]
   simp [lead, yaE n (by omega)]
   omega
  ·have e : dg (f + 1) n = UInt8.ofNat (128 + n % 128) :: dg f (n / 128) := by simp [dg, h1]
   cases f with
   | zero => simp at h; omega
   | succ f =>
    have hd : n / 128 < 128 ^ (f + 1) := by rw [qbB (by omega)]; rw [qaW] at h; exact h
    have ih := dg_lead f (n / 128) rest hd
    have hp := dg_pos f (n / 128)
    rw [e, qbl]
    simp only [lead, yaE (128 + n % 128) (by omega), ih, qau]
    rw [qah (by omega)]
    omega
theorem dg_last : ∀ (f n : Nat), n < 128 ^ (f + 1) → 1 < (dg (f + 1) n).length → (dg (f + 1) n).getLast? ≠ some 0
 | f, n, h, hl => by
  by_cases h1 : n < 128
  ·simp [dg, h1] at hl
  ·have e : dg (f + 1) n = UInt8.ofNat (128 + n % 128) :: dg f (n / 128) := by simp [dg, h1]
   cases f with
   | zero => simp at h; omega
   | succ f =>
    have hd : n / 128 < 128 ^ (f + 1) := by rw [qbB (by omega)]; rw [qaW] at h; exact h
    have hp := dg_pos f (n / 128)
    rw [e]
    obtain ⟨a, t, ht⟩ : ∃ a t, dg (f + 1) (n / 128) = a :: t := by
     cases hx : dg (f + 1) (n / 128) with
     | nil => rw [hx] at hp; simp at hp
     | cons a t => exact ⟨a, t, rfl⟩
    rw [ht, List.getLast?_cons_cons, ← ht]
    by_cases h2 : n / 128 < 128
    ·have e2 : dg (f + 1) (n / 128) = [UInt8.ofNat (n / 128)] := by simp [dg, h2]
     rw [e2]
     simp only [List.getLast?_singleton, ne_eq, qcg]
     intro hz
     have := qbD UInt8.toNat hz
     rw [yaE _ (by omega)] at this
     simp at this
     omega
    ·refine dg_last f (n / 128) hd ?_
     have e2 : dg (f + 1) (n / 128) = UInt8.ofNat (128 + n / 128 % 128) :: dg f (n / 128 / 128) := by simp [dg, h2]
     cases f with
     | zero => simp at hd; omega
     | succ f => rw [e2]; have := dg_pos f (n / 128 / 128); simp; omega
theorem pow9 : (128 : Nat) ^ 9 = 9223372036854775808 := by decide
theorem getR_put (n : Nat) (rest : List UInt8) (h : n < 9223372036854775808) : getR (dg 9 n ++ rest) = ((n : Int), (dg 9 n).length, 0) := by
 rw [← pow9] at h
 have hl : lead (dg 9 n ++ rest) = (dg 9 n).length - 1 := dg_lead 8 n rest h
 have hp : 0 < (dg 9 n).length := dg_pos 8 n
 have hle := dg_le 9 n
 unfold getR
 rw [hl]
 have hlen : (dg 9 n ++ rest).length = (dg 9 n).length + rest.length := qae
 rw [qag (by omega), qag (by omega)]
 have hx : (dg 9 n ++ rest).getD ((dg 9 n).length - 1) 0 = (dg 9 n).getLast?.getD 0 := by
  rw [List.getLast?_eq_getElem?, qar, qbV (by omega)]
 have hz : ¬ (0 < (dg 9 n).length - 1 ∧ (dg 9 n ++ rest).getD ((dg 9 n).length - 1) 0 = 0) := by
  rintro ⟨h1, h2⟩
  have hne : (dg 9 n).getLast? ≠ some 0 := dg_last 8 n h (by show 1 < (dg 9 n).length; omega)
  rw [hx] at h2
  cases hg : (dg 9 n).getLast? with
  | none => simp at hg; rw [hg] at hp; simp at hp
  | some b => rw [hg] at h2 hne; simp at h2; exact hne (by rw [h2])
 rw [qag hz, show (dg 9 n).length - 1 + 1 = (dg 9 n).length from by omega, qbT rfl, dg_val 9 n h]
theorem getF_put (pre rest : List UInt8) (n : Nat) (h : n < 9223372036854775808) : getF (pre ++ (dg 9 n ++ rest)) pre.length = ((n : Int), (pre.length : Int) + (dg 9 n).length, 0) := by
 unfold getF
 rw [qah ⟨by omega, by rw [qae]; omega⟩, qav, qbF rfl, getR_put n rest h]
 simp
theorem dg_of_lead : ∀ (f : Nat) (l : List UInt8), lead l < f + 1 → (h : lead l < l.length) → (lead l = 0 ∨ l.getD (lead l) 0 ≠ 0) → dg (f + 1) (val (l.take (lead l + 1))) = l.take (lead l + 1)
 | f, [], _, h, _ => by simp at h
 | f, b :: t, hf, h, hz => by
  have hb256 := u8_lt b
  by_cases hb : 128 ≤ b.toNat
  ·have e : lead (b :: t) = lead t + 1 := by simp [lead, hb]
   have ht : lead t < t.length := by rw [e] at h; simpa using h
   cases f with
   | zero => omega
   | succ f =>
    have hz' : t.getD (lead t) 0 ≠ 0 := by
     rcases hz with h0 | h0
     ·omega
     ·rw [e] at h0; simpa using h0
    have ih := dg_of_lead f t (by omega) ht (qaK hz')
    rw [e, qaJ]
    -- the value behind is not 0
    have hend := lead_end t ht
    have hv : val (t.take (lead t + 1)) = val (t.take (lead t)) + 128 ^ lead t * ((t[lead t]'ht).toNat % 128) := yfJ t _ ht
    have hne : (t[lead t]'ht).toNat ≠ 0 := by
     intro h0
     refine hz' ?_
     rw [qar, qaj ht]
     exact u8_eq (by simpa using h0)
    have hpos : 0 < 128 ^ lead t * ((t[lead t]'ht).toNat % 128) := Nat.mul_pos (qbf (by omega)) (by omega)
    have hvpos : 0 < val (t.take (lead t + 1)) := by omega
    simp only [val]
    generalize val (t.take (lead t + 1)) = v at *
    have hn : ¬ b.toNat % 128 + 128 * v < 128 := by omega
    have hdiv : (b.toNat % 128 + 128 * v) / 128 = v := by omega
    have hmod : (b.toNat % 128 + 128 * v) % 128 = b.toNat % 128 := by omega
    rw [dg, qag hn, hdiv, hmod, ih]
    congr 1
    exact u8_eq (by rw [yaE _ (by omega)]; omega)
  ·have e : lead (b :: t) = 0 := by simp [lead, hb]
   rw [e]
   have hv : val (List.take (0 + 1) (b :: t)) = b.toNat := by simp [val]; omega
   rw [hv, dg, qah (by omega)]
   simp
theorem getR_ok (l : List UInt8) (h : (getR l).2.2 = 0) : ∃ m : Nat, m < 9223372036854775808 ∧ (getR l).1 = m ∧ 0 < (getR l).2.1 ∧ (getR l).2.1 ≤ l.length ∧ l.take (getR l).2.1 = dg 9 m := by
 unfold getR at h ⊢
 by_cases h1 : 9 ≤ lead l
 ·rw [qah h1] at h; simp at h
 ·rw [qag h1] at h ⊢
  by_cases h2 : lead l = l.length
  ·rw [qah h2] at h; simp at h
  ·rw [qag h2] at h ⊢
   by_cases h3 : 0 < lead l ∧ l.getD (lead l) 0 = 0
   ·rw [qah h3] at h; simp at h
   ·rw [qag h3]
    have hlt : lead l < l.length := by have := lead_le l; omega
    have hd := dg_of_lead 8 l (by omega) hlt (by
     by_cases h0 : lead l = 0
     ·exact qas h0
     ·exact qaK fun hc => h3 ⟨by omega, hc⟩)
    refine ⟨val (l.take (lead l + 1)), ?_, rfl, by simp, by simp only; omega, hd.symm⟩
    have := val_lt (l.take (lead l + 1))
    rw [← pow9]
    refine qaZ this (qaH (by omega) ?_)
    simp; omega
def val8 : List UInt8 → Nat
 | [] => 0
 | b :: t => b.toNat + 256 * val8 t
def yau (l : List UInt8) (p w : Int) : Int × Int × Int :=
 if 1 ≤ w ∧ w ≤ 8 ∧ 0 ≤ p ∧ p ≤ l.length then
  if l.length < p + w then (0, 0, 4)
  else if 9223372036854775808 ≤ val8 ((l.drop p.toNat).take w.toNat) then (0, 0, 5)
  else ((val8 ((l.drop p.toNat).take w.toNat) : Int), p + w, 0)
 else (0, 0, 2)
theorem val8_lt : ∀ l, val8 l < 256 ^ l.length
 | [] => by simp [val8]
 | b :: t => by
  have := val8_lt t
  have hb := u8_lt b
  simp only [val8, qau, qaW]
  omega
theorem val8_snoc : ∀ (l : List UInt8) (b : UInt8), val8 (l ++ [b]) = val8 l + 256 ^ l.length * b.toNat
 | [], b => by simp [val8]
 | a :: t, b => by
  simp only [qbl, val8, val8_snoc t b, qau, qaW]
  rw [Nat.mul_add, ← qcm, qbO 256 (256 ^ t.length)]
  omega
theorem val8_take (l : List UInt8) (k : Nat) (h : k < l.length) : val8 (l.take (k + 1)) = val8 (l.take k) + 256 ^ k * (l[k]'h).toNat := by
 rw [qap h, val8_snoc]
 simp [qbi (Nat.le_of_lt h)]
theorem ycW {n : Int} (h : 0 ≤ n) : putB n = dg 9 n.toNat := by unfold putB; rw [qag (by omega)]
abbrev Rc := Int × Int × List UInt8
def rmay (r : Rc) : Bool := decide (1 ≤ r.1 ∧ r.1 ≤ 1000000000 ∧ 0 ≤ r.2.1 ∧ r.2.1 ≤ 1000000000 ∧ r.2.2.length ≤ 2000)
theorem ybc (r : Rc) : rmay r = true ↔ (1 ≤ r.1 ∧ r.1 ≤ 1000000000 ∧ 0 ≤ r.2.1 ∧ r.2.1 ≤ 1000000000 ∧ r.2.2.length ≤ 2000) := qaR
def rchk (r : Rc) : Int := if rmay r = true then 0 else 150
def rB (r : Rc) : List UInt8 := putB r.1 ++ (putB r.2.1 ++ (putB r.2.2.length ++ r.2.2))
def rputF (r : Rc) : List UInt8 × Int := if rmay r = true then (rB r, 0) else ([], 150)
def ydb (r : Rc) : Nat := (rputF r).1.length
def yfT : Rc := (0, 0, [])
def rg3 (s : List UInt8) (x y n c : Int) : Rc × Int × Int :=
 if 1 ≤ x ∧ x ≤ 1000000000 ∧ y ≤ 1000000000 ∧ n ≤ 2000 then (if (s.length : Int) < c + n then (yfT, 0, 4) else ((x, y, (s.drop c.toNat).take n.toNat), c + n, 0)) else (yfT, 0, 150)
def rg2 (s : List UInt8) (x y b : Int) : Rc × Int × Int := if (getF s b).2.2 ≠ 0 then (yfT, 0, (getF s b).2.2) else rg3 s x y (getF s b).1 (getF s b).2.1
def rg1 (s : List UInt8) (x a : Int) : Rc × Int × Int := if (getF s a).2.2 ≠ 0 then (yfT, 0, (getF s a).2.2) else rg2 s x (getF s a).1 (getF s a).2.1
def ya2 (s : List UInt8) (p : Int) : Rc × Int × Int := if (getF s p).2.2 ≠ 0 then (yfT, 0, (getF s p).2.2) else rg1 s (getF s p).1 (getF s p).2.1
theorem ybW (pre rest : List UInt8) (n : Int) (h0 : 0 ≤ n) (h : n < 9223372036854775808) (p : Int) (hp : p = (pre.length : Int)) : getF (pre ++ (putB n ++ rest)) p = (n, (pre.length : Int) + (putB n).length, 0) := by
 subst hp
 have := getF_put pre rest n.toNat (by omega)
 rw [ycW h0, this, Int.toNat_of_nonneg h0]
theorem ygj {s : List UInt8} {p : Int} (h : (getF s p).2.2 = 0) : 0 ≤ p ∧ p ≤ s.length ∧ 0 ≤ (getF s p).1 ∧ (getF s p).1 < 9223372036854775808 ∧ p < (getF s p).2.1 ∧ (getF s p).2.1 ≤ s.length ∧ (s.drop p.toNat).take ((getF s p).2.1 - p).toNat = putB (getF s p).1 := by
 unfold getF at h ⊢
 by_cases hp : 0 ≤ p ∧ p ≤ s.length
 ·rw [qah hp] at h ⊢
  by_cases h2 : (getR (s.drop p.toNat)).2.2 = 0
  ·rw [qah h2]
   obtain ⟨m, hm, e1, e2, e3, e4⟩ := getR_ok _ h2
   rw [qat] at e3
   simp only
   refine ⟨hp.1, hp.2, by omega, by omega, by omega, by omega, ?_⟩
   rw [e1, ycW (by omega), qav, show (p + ((getR (s.drop p.toNat)).2.1 : Nat) - p : Int).toNat = (getR (s.drop p.toNat)).2.1 from by omega]
   exact e4
  ·rw [qag h2] at h
   exact absurd h h2
 ·rw [qag hp] at h
  simp at h
theorem rput_pos {n : Int} (h : 0 ≤ n) : 0 < (putB n).length := by
 rw [ycW h]
 exact dg_pos 8 _
theorem yd0 (n : Int) : (putB n).length ≤ 9 := by
 unfold putB
 split
 ·exact qbE _
 ·exact dg_le 9 _
theorem rget_put (pre rest : List UInt8) (r : Rc) (h : rmay r = true) (p : Int) (hp : p = (pre.length : Int)) : ya2 (pre ++ (rB r ++ rest)) p = (r, (pre.length : Int) + (rB r).length, 0) := by
 rw [ybc] at h
 obtain ⟨x, y, d⟩ := r
 dsimp only at h
 obtain ⟨h1, h2, h3, h4, h5⟩ := h
 have g1 := ybW pre (putB y ++ (putB d.length ++ (d ++ rest))) x (by omega) (by omega) p hp
 have g2 := ybW (pre ++ putB x) (putB d.length ++ (d ++ rest)) y (by omega) (by omega) ((pre.length : Int) + (putB x).length) (by rw [qae]; omega)
 have g3 := ybW ((pre ++ putB x) ++ putB y) (d ++ rest) d.length (by omega) (by omega) (((pre ++ putB x).length : Int) + (putB y).length) (by simp only [qae]; omega)
 have e : pre ++ (rB (x, y, d) ++ rest) = pre ++ (putB x ++ (putB y ++ (putB d.length ++ (d ++ rest)))) := by unfold rB; simp only [qak]
 have e2 : (pre ++ putB x) ++ (putB y ++ (putB d.length ++ (d ++ rest))) = pre ++ (putB x ++ (putB y ++ (putB d.length ++ (d ++ rest)))) := by simp only [qak]
 have e3 : ((pre ++ putB x) ++ putB y) ++ (putB d.length ++ (d ++ rest)) = pre ++ (putB x ++ (putB y ++ (putB d.length ++ (d ++ rest)))) := by simp only [qak]
 rw [e2] at g2
 rw [e3] at g3
 rw [e]
 have e4 : (pre ++ (putB x ++ (putB y ++ (putB d.length ++ (d ++ rest))))).drop (pre.length + (putB x).length + (putB y).length + (putB d.length).length) = d ++ rest := by
  have : pre ++ (putB x ++ (putB y ++ (putB d.length ++ (d ++ rest)))) = (((pre ++ putB x) ++ putB y) ++ putB d.length) ++ (d ++ rest) := by simp only [qak]
  rw [this]
  exact qbF (by simp only [qae])
 have e5 : (pre ++ (putB x ++ (putB y ++ (putB d.length ++ (d ++ rest))))).length = pre.length + (putB x).length + (putB y).length + (putB d.length).length + d.length + rest.length := by simp only [qae]; omega
 have e6 : ((rB (x, y, d)).length : Int) = (putB x).length + (putB y).length + (putB d.length).length + d.length := by unfold rB; simp only [qae]; omega
 generalize pre ++ (putB x ++ (putB y ++ (putB d.length ++ (d ++ rest)))) = S at *
 unfold ya2
 rw [g1]
 dsimp only
 rw [qag (by simp)]
 unfold rg1
 rw [g2]
 dsimp only
 rw [qag (by simp)]
 unfold rg2
 rw [g3]
 dsimp only
 rw [qag (by simp)]
 unfold rg3
 rw [qah (by omega), qag (by simp only [qae]; omega)]
 simp only [qae]
 refine Prod.ext ?_ (Prod.ext ?_ rfl)
 ·refine Prod.ext rfl (Prod.ext rfl ?_)
  dsimp only
  rw [show (((pre.length + (putB x).length + (putB y).length : Nat) : Int) + (putB (d.length : Int)).length).toNat = pre.length + (putB x).length + (putB y).length + (putB d.length).length from by omega, e4, qav, qbT rfl]
 ·dsimp only
  omega
theorem rget_ok {s : List UInt8} {p : Int} (h : (ya2 s p).2.2 = 0) : 0 ≤ p ∧ p < (ya2 s p).2.1 ∧ (ya2 s p).2.1 ≤ s.length ∧ rmay (ya2 s p).1 = true ∧ (s.drop p.toNat).take ((ya2 s p).2.1 - p).toNat = rB (ya2 s p).1 := by
 unfold ya2 at h ⊢
 by_cases h1 : (getF s p).2.2 ≠ 0
 ·rw [qah h1] at h
  exact absurd h h1
 rw [qag h1] at h ⊢
 obtain ⟨a1, a2, a3, a4, a5, a6, a7⟩ := ygj (s := s) (p := p) (by omega)
 generalize getF s p = u at *
 obtain ⟨x, a, ea⟩ := u
 dsimp only at *
 unfold rg1 at h ⊢
 by_cases h2 : (getF s a).2.2 ≠ 0
 ·rw [qah h2] at h
  exact absurd h h2
 rw [qag h2] at h ⊢
 obtain ⟨b1, b2, b3, b4, b5, b6, b7⟩ := ygj (s := s) (p := a) (by omega)
 generalize getF s a = u at *
 obtain ⟨y, b, eb⟩ := u
 dsimp only at *
 unfold rg2 at h ⊢
 by_cases h3 : (getF s b).2.2 ≠ 0
 ·rw [qah h3] at h
  exact absurd h h3
 rw [qag h3] at h ⊢
 obtain ⟨c1, c2, c3, c4, c5, c6, c7⟩ := ygj (s := s) (p := b) (by omega)
 generalize getF s b = u at *
 obtain ⟨n, c, ec⟩ := u
 dsimp only at *
 unfold rg3 at h ⊢
 by_cases h4 : 1 ≤ x ∧ x ≤ 1000000000 ∧ y ≤ 1000000000 ∧ n ≤ 2000
 ·rw [qah h4] at h ⊢
  by_cases h5 : (s.length : Int) < c + n
  ·rw [qah h5] at h
   cases h
  ·rw [qag h5]
   dsimp only
   have hd : ((s.drop c.toNat).take n.toNat).length = n.toNat := by rw [qao, qat]; omega
   refine ⟨a1, by omega, by omega, (ybc _).2 ⟨h4.1, h4.2.1, by dsimp only; omega, h4.2.2.1, by dsimp only; rw [hd]; omega⟩, ?_⟩
   unfold rB
   dsimp only
   rw [hd, Int.toNat_of_nonneg c3, ← a7, ← b7, ← c7]
   have k1 : (c + n - p).toNat = (a - p).toNat + ((b - a).toNat + ((c - b).toNat + n.toNat)) := by omega
   rw [k1, qco, qco, qco, qbh, qbh, qbh, show p.toNat + (a - p).toNat = a.toNat from by omega, show a.toNat + (b - a).toNat = b.toNat from by omega, show b.toNat + (c - b).toNat = c.toNat from by omega]
 ·rw [qag h4] at h
  cases h
def rgo (a b : Rc) : Bool := decide (b.1 = a.1 + 1 ∧ a.2.1 ≤ b.2.1)
theorem rgo_iff (a b : Rc) : rgo a b = true ↔ (b.1 = a.1 + 1 ∧ a.2.1 ≤ b.2.1) := qaR
def yb4 (a : Rc) : List Rc → Int
 | [] => 0
 | b :: t => if rmay b = true then (if rgo a b = true then yb4 b t else 151) else 150
def yaz : List Rc → Int
 | [] => 0
 | a :: t => if rmay a = true then yb4 a t else 150
theorem ycr {a b : Rc} {t : List Rc} (h : yb4 a (b :: t) = 0) : rmay b = true ∧ rgo a b = true ∧ yb4 b t = 0 := by
 unfold yb4 at h
 by_cases h1 : rmay b = true
 ·rw [qah h1] at h
  by_cases h2 : rgo a b = true
  ·rw [qah h2] at h
   exact ⟨h1, h2, h⟩
  ·rw [qag h2] at h
   cases h
 ·rw [qag h1] at h
  cases h
theorem rrow1_may : ∀ (t : List Rc) (a : Rc), yb4 a t = 0 → ∀ r ∈ t, rmay r = true
 | [], a, _, r, hr => by cases hr
 | b :: t, a, h, r, hr => by
  obtain ⟨h1, _, h3⟩ := ycr h
  rcases qaB.1 hr with rfl | hr
  ·exact h1
  ·exact rrow1_may t b h3 r hr
theorem ydt {l : List Rc} (h : yaz l = 0) : ∀ r ∈ l, rmay r = true := by
 cases l with
 | nil => intro r hr; cases hr
 | cons a t =>
  change (if rmay a = true then yb4 a t else 150) = 0 at h
  by_cases h1 : rmay a = true
  ·rw [qah h1] at h
   intro r hr
   rcases qaB.1 hr with rfl | hr
   ·exact h1
   ·exact rrow1_may t a h r hr
  ·rw [qag h1] at h
   cases h
theorem rrow1_app (b : Rc) (u : List Rc) : ∀ (t : List Rc) (a : Rc), yb4 a t = 0 → yb4 a (t ++ b :: u) = yb4 ((a :: t).getLast (by simp)) (b :: u)
 | [], a, _ => rfl
 | c :: t, a, h => by
  obtain ⟨h1, h2, h3⟩ := ycr h
  have ih := rrow1_app b u t c h3
  rw [qbl]
  show (if rmay c = true then (if rgo a c = true then yb4 c (t ++ b :: u) else 151) else 150) = _
  rw [qah h1, qah h2, ih]
  rfl
theorem rrow1_part : ∀ (t : List Rc) (a b : Rc) (u : List Rc), yb4 a (t ++ b :: u) = 0 → yb4 a t = 0 ∧ rmay b = true ∧ yb4 b u = 0
 | [], a, b, u, h => by
  obtain ⟨h1, _, h3⟩ := ycr h
  exact ⟨rfl, h1, h3⟩
 | c :: t, a, b, u, h => by
  rw [qbl] at h
  obtain ⟨h1, h2, h3⟩ := ycr h
  obtain ⟨k1, k2, k3⟩ := rrow1_part t c b u h3
  refine ⟨?_, k2, k3⟩
  show (if rmay c = true then (if rgo a c = true then yb4 c t else 151) else 150) = 0
  rw [qah h1, qah h2, k1]
theorem rrow_part {a b : List Rc} (h : yaz (a ++ b) = 0) : yaz a = 0 ∧ yaz b = 0 := by
 cases a with
 | nil => exact ⟨rfl, h⟩
 | cons x t =>
  cases b with
  | nil =>
   rw [qa8] at h
   exact ⟨h, rfl⟩
  | cons y u =>
   rw [qbl] at h
   change (if rmay x = true then yb4 x (t ++ y :: u) else 150) = 0 at h
   show (if rmay x = true then yb4 x t else 150) = 0 ∧ (if rmay y = true then yb4 y u else 150) = 0
   by_cases m1 : rmay x = true
   ·rw [qah m1] at h ⊢
    obtain ⟨k1, k2, k3⟩ := rrow1_part t x y u h
    refine ⟨k1, ?_⟩
    rw [qah k2]
    exact k3
   ·rw [qag m1] at h
    cases h
def rjB (l : List Rc) : List UInt8 := l.flatMap rB
theorem yfB (a : Rc) (l : List Rc) : rjB (a :: l) = rB a ++ rjB l := rfl
theorem rjB_app (a b : List Rc) : rjB (a ++ b) = rjB a ++ rjB b := by unfold rjB; rw [List.flatMap_append]
def yas (l : List Rc) : List UInt8 × Int := if yaz l ≠ 0 then ([], yaz l) else if 20000 < (rjB l).length then ([], 3) else (rjB l, 0)
def rsp (s : List UInt8) : Nat → Int → List Rc → List Rc × Int
 | 0, _, acc => (acc, 0)
 | f + 1, p, acc => if p < s.length then (if (ya2 s p).2.2 ≠ 0 then ([], (ya2 s p).2.2) else rsp s f (ya2 s p).2.1 (acc ++ [(ya2 s p).1])) else (acc, 0)
def yae (s : List UInt8) : List Rc × Int :=
 if 20000 < s.length then ([], 3) else if (rsp s s.length 0 []).2 ≠ 0 then ([], (rsp s s.length 0 []).2) else if yaz (rsp s s.length 0 []).1 ≠ 0 then ([], yaz (rsp s s.length 0 []).1) else ((rsp s s.length 0 []).1, 0)
theorem rB_pos {r : Rc} (h : rmay r = true) : 0 < (rB r).length := by
 have := rput_pos (n := r.1) (by have := (ybc r).1 h; omega)
 unfold rB
 rw [qae]
 omega
theorem rjB_count : ∀ {l : List Rc}, (∀ r ∈ l, rmay r = true) → l.length ≤ (rjB l).length
 | [], _ => qbE _
 | a :: l, h => by
  have h1 := rB_pos (h a (qa4 ..))
  have ih := rjB_count (l := l) fun r hr => h r (qa3 _ hr)
  rw [yfB, qae, qau]
  omega
theorem rsp_back : ∀ (l : List Rc) (f : Nat) (pre : List UInt8) (acc : List Rc), (∀ r ∈ l, rmay r = true) → (rjB l).length ≤ f → rsp (pre ++ rjB l) f pre.length acc = (acc ++ l, 0)
 | [], f, pre, acc, _, _ => by
  have e : pre ++ rjB [] = pre := qa8 pre
  rw [e, qa8]
  cases f with
  | zero => rfl
  | succ f =>
   unfold rsp
   rw [qag (by omega)]
 | a :: l, f, pre, acc, h, hf => by
  have h1 := h a (qa4 ..)
  have h2 := rB_pos h1
  rw [yfB, qae] at hf
  cases f with
  | zero => omega
  | succ f =>
   have g := rget_put pre (rjB l) a h1 pre.length rfl
   have ih := rsp_back l f (pre ++ rB a) (acc ++ [a]) (fun r hr => h r (qa3 _ hr)) (by omega)
   rw [yfB]
   unfold rsp
   rw [qah (by rw [qae, qae]; omega), g]
   dsimp only
   rw [qag (by simp)]
   rw [qak] at ih
   rw [show ((pre.length : Int) + (rB a).length) = ((pre ++ rB a).length : Int) from by rw [qae]; omega, ih, qak]
   rfl
theorem rback {l : List Rc} (h : (yas l).2 = 0) : yae (yas l).1 = (l, 0) ∧ yas l = (rjB l, 0) ∧ (rjB l).length ≤ 20000 := by
 unfold yas at h ⊢
 by_cases h1 : yaz l ≠ 0
 ·rw [qah h1] at h
  exact absurd h h1
 rw [qag h1] at h ⊢
 by_cases h2 : 20000 < (rjB l).length
 ·rw [qah h2] at h
  cases h
 rw [qag h2]
 have e := rsp_back l (rjB l).length [] [] (ydt (by omega)) (qaf _)
 rw [qaS, qaS] at e
 refine ⟨?_, rfl, by omega⟩
 unfold yae
 dsimp only
 rw [qag h2]
 have e0 : (([] : List UInt8).length : Int) = 0 := rfl
 rw [e0] at e
 rw [e, qag (by simp)]
 dsimp only
 rw [qag h1]
theorem rsp_ok (s : List UInt8) : ∀ (f : Nat) (p : Int) (acc : List Rc), 0 ≤ p → p ≤ s.length → (s.length : Int) - p ≤ f → (rsp s f p acc).2 = 0 → ∃ l, (rsp s f p acc).1 = acc ++ l ∧ rjB l = s.drop p.toNat
 | 0, p, acc, h0, h1, hf, _ => ⟨[], (qa8 _).symm, by rw [qaO (by omega)]; rfl⟩
 | f + 1, p, acc, h0, h1, hf, h => by
  unfold rsp at h ⊢
  by_cases hp : p < s.length
  ·rw [qah hp] at h ⊢
   by_cases he : (ya2 s p).2.2 ≠ 0
   ·rw [qah he] at h
    exact absurd h he
   ·rw [qag he] at h ⊢
    obtain ⟨a1, a2, a3, _, a5⟩ := rget_ok (s := s) (p := p) (by omega)
    obtain ⟨l, e1, e2⟩ := rsp_ok s f (ya2 s p).2.1 (acc ++ [(ya2 s p).1]) (by omega) a3 (by omega) h
    refine ⟨(ya2 s p).1 :: l, by rw [e1, qak]; rfl, ?_⟩
    rw [yfB, e2, ← a5]
    have := qax ((ya2 s p).2.1 - p).toNat (s.drop p.toNat)
    rw [qbh, show p.toNat + ((ya2 s p).2.1 - p).toNat = (ya2 s p).2.1.toNat from by omega] at this
    exact this
  ·rw [qag hp]
   exact ⟨[], (qa8 _).symm, by rw [qaO (by omega)]; rfl⟩
theorem rforth {s : List UInt8} (h : (yae s).2 = 0) : yas (yae s).1 = (s, 0) := by
 unfold yae at h ⊢
 by_cases h1 : 20000 < s.length
 ·rw [qah h1] at h
  cases h
 rw [qag h1] at h ⊢
 by_cases h2 : (rsp s s.length 0 []).2 ≠ 0
 ·rw [qah h2] at h
  exact absurd h h2
 rw [qag h2] at h ⊢
 by_cases h3 : yaz (rsp s s.length 0 []).1 ≠ 0
 ·rw [qah h3] at h
  exact absurd h h3
 rw [qag h3]
 obtain ⟨l, e1, e2⟩ := rsp_ok s s.length 0 [] (by omega) (by omega) (by omega) (by omega)
 have e3 : rjB (rsp s s.length 0 []).1 = s := by rw [e1, qaS, e2]; rfl
 dsimp only
 unfold yas
 rw [qag h3, e3, qag h1]
def ydW (l : List UInt8) (p n : Int) : List UInt8 × Int × Int :=
 if n < 0 then ([], 0, 2) else if (l.length : Int) - p < n then ([], 0, 4) else ((l.drop p.toNat).take n.toNat, p + n, 0)
def yba (l : List UInt8) (p k n : Int) : (Int × List UInt8) × Int × Int :=
 if k = 1 then (((yau l p 1).1, []), (yau l p 1).2.1, (yau l p 1).2.2)
 else if k = 2 then (((getF l p).1, []), (getF l p).2.1, (getF l p).2.2)
 else if k = 3 then (((yau l p n).1, []), (yau l p n).2.1, (yau l p n).2.2)
 else if k = 4 then ((0, (ydW l p n).1), (ydW l p n).2.1, (ydW l p n).2.2)
 else if k = 5 then ((0, l.drop p.toNat), l.length, 0)
 else if k = 6 then (if p < l.length then ((0, []), 0, 6) else ((0, []), p, 0))
 else ((0, []), 0, 2)
theorem getF_ok' {l : List UInt8} {p : Int} (h : (getF l p).2.2 = 0) : 0 ≤ p ∧ p < (getF l p).2.1 ∧ (getF l p).2.1 ≤ l.length ∧ 0 ≤ (getF l p).1 ∧ (getF l p).1 < 9223372036854775808 := by
 unfold getF at h ⊢
 by_cases hp : 0 ≤ p ∧ p ≤ l.length
 ·rw [qah hp] at h ⊢
  by_cases h2 : (getR (l.drop p.toNat)).2.2 = 0
  ·rw [qah h2]
   obtain ⟨m, hm, e1, e2, e3, _⟩ := getR_ok _ h2
   rw [qat] at e3
   simp only
   omega
  ·rw [qag h2] at h
   exact absurd h h2
 ·rw [qag hp] at h
  simp at h
variable {ls : List Nat}
def crow (ls : List Nat) (i n : Nat) : List Nat := (List.range i).filter fun s => decide (0 < n ∧ ls.getD s 0 = n)
theorem ye8 (n : Nat) : crow ls 0 n = [] := rfl
theorem ybR (i n : Nat) : crow ls (i + 1) n = crow ls i n ++ (if 0 < n ∧ ls.getD i 0 = n then [i] else []) := by
 unfold crow
 rw [List.range_succ, qbq]
 congr 1
 by_cases h : 0 < n ∧ ls.getD i 0 = n
 ·rw [qah h, qaD, qah (by simpa using h)]; rfl
 ·rw [qag h, qaD, qag (by simpa using h)]; rfl
theorem crow_none (i : Nat) : crow ls i 0 = [] := by
 induction i with
 | zero => rfl
 | succ i ih => rw [ybR, ih, qag (by omega)]; rfl
theorem ydG (i n : Nat) : (crow ls i n).length ≤ i := by
 have := qck (fun s => decide (0 < n ∧ ls.getD s 0 = n)) (List.range i)
 simpa [crow] using this
theorem crow_at (n k s : Nat) : ∀ (i : Nat), (crow ls i n)[k]? = some s → s < i ∧ 0 < n ∧ ls.getD s 0 = n ∧ (crow ls s n).length = k
 | 0, h => by simp [ye8] at h
 | i + 1, h => by
  rw [ybR] at h
  by_cases hk : k < (crow ls i n).length
  ·rw [qbV hk] at h
   obtain ⟨h1, h2⟩ := crow_at n k s i h
   exact ⟨by omega, h2⟩
  ·rw [qbs (by omega)] at h
   by_cases hp : 0 < n ∧ ls.getD i 0 = n
   ·rw [qah hp] at h
    have e : k - (crow ls i n).length = 0 := by
     rcases qba (k - (crow ls i n).length) with e | e
     ·exact e
     ·rw [qbw (by simp; omega)] at h
      cases h
    rw [e] at h
    have : i = s := by simpa using h
    subst this
    exact ⟨by omega, hp.1, hp.2, by omega⟩
   ·rw [qag hp] at h
    simp at h
theorem crow_mono (i n : Nat) : ∀ d, (crow ls i n).length ≤ (crow ls (i + d) n).length
 | 0 => qaf _
 | d + 1 => by
  have := crow_mono i n d
  rw [show i + (d + 1) = i + d + 1 from rfl, ybR, qae]
  omega
theorem yc4 {l : List Nat} (s : Nat) (h : s < l.length) : l.getD s 0 = l[s] := by rw [qar, qaj h]; rfl
theorem ygM (n : Nat) (hn : 0 < n) (i : Nat) : ∀ d, (crow ls (i + d) n).length = (crow ls i n).length → cpos ls n (i + d) = cpos ls n i ∧ wat ls n (i + d) = wat ls n i
 | 0, _ => ⟨rfl, rfl⟩
 | d + 1, h => by
  have h1 := crow_mono (ls := ls) i n d
  have h2 := ybR (ls := ls) (i + d) n
  rw [show i + (d + 1) = i + d + 1 from rfl] at h ⊢
  by_cases hp : 0 < n ∧ ls.getD (i + d) 0 = n
  ·rw [h2, qah hp, qae, qbA] at h
   omega
  ·have hne : ls.getD (i + d) 0 ≠ n := fun e => hp ⟨hn, e⟩
   rw [h2, qag hp, qa8] at h
   obtain ⟨h3, h4⟩ := ygM n hn i d h
   refine ⟨?_, ?_⟩
   ·rw [ygK n (i + d) fun hs e => hne (by rw [yc4 _ hs]; exact e), h3]
   ·rw [wat_skip ls n (i + d) hne, h4]
theorem crow_eq (n : Nat) (hn : 0 < n) (i j : Nat) (h : (crow ls i n).length = (crow ls j n).length) : cpos ls n i = cpos ls n j ∧ wat ls n i = wat ls n j := by
 rcases Nat.le_total i j with e | e
 ·obtain ⟨d, rfl⟩ := Nat.exists_eq_add_of_le e
  obtain ⟨a, b⟩ := ygM n hn i d h.symm
  exact ⟨a.symm, b.symm⟩
 ·obtain ⟨d, rfl⟩ := Nat.exists_eq_add_of_le e
  exact ygM n hn j d h
theorem crow_pos (n : Nat) (hn : 0 < n) : ∀ i, i ≤ ls.length → cpos ls n i = cpos ls n 0 + (crow ls i n).length * 2 ^ (15 - n)
 | 0, _ => by rw [ye8]; simp
 | i + 1, h => by
  have ih := crow_pos n hn i (by omega)
  have hg := yc4 (l := ls) i (by omega)
  rw [ybR]
  by_cases hp : ls[i]'(by omega) = n
  ·rw [cpos_step n i (by omega) hp hn, ih, qah ⟨hn, by rw [hg]; exact hp⟩, qae, qbA, qcy, Nat.one_mul]
   omega
  ·rw [ygK n i fun _ => hp, ih, qag (by rw [hg]; exact fun e => hp e.2), qa8]
def cst (ls : List Nat) (n : Nat) : Nat := yb7 ls n 0
theorem yhm (n : Nat) (hn : n ≤ 15) : cst ls n * 2 ^ (15 - n) = cpos ls n 0 := ycs n 0 hn
theorem cst_none : cst ls 0 = 0 := by
 unfold cst yb7
 rw [ycP, Nat.zero_div]
theorem crow_over (n : Nat) (hn : n ≤ 15) : cpos ls (n + 1) 0 = (cst ls n + (crow ls ls.length n).length) * 2 ^ (15 - n) := by
 rw [← yez n ls.length (qaf _), qcy, yhm n hn]
 rcases qba n with e | e
 ·subst e
  rw [ycP, ycP, crow_none]
  simp
 ·exact crow_pos n e ls.length (qaf _)
theorem cst_next (n : Nat) (hn : n + 1 ≤ 15) : cst ls (n + 1) = 2 * (cst ls n + (crow ls ls.length n).length) := by
 have h1 := crow_over (ls := ls) n (by omega)
 have h2 := yhm (ls := ls) (n + 1) hn
 have h3 : 0 < (2 : Nat) ^ (15 - (n + 1)) := qbf (by omega)
 rw [show 15 - n = 15 - (n + 1) + 1 from by omega, qaW, qbO _ 2, ← qcm, qbO _ 2] at h1
 rw [h1] at h2
 exact Nat.eq_of_mul_eq_mul_right h3 h2
theorem cst_word (n k s : Nat) (hn : 0 < n) (hn2 : n ≤ 15) (h : (crow ls ls.length n)[k]? = some s) : yb7 ls n s = cst ls n + k ∧ s < ls.length ∧ ls.getD s 0 = n ∧ (crow ls s n).length = k := by
 obtain ⟨h1, _, h2, h3⟩ := crow_at n k s _ h
 refine ⟨?_, h1, h2, h3⟩
 have h4 := crow_pos (ls := ls) n hn s (by omega)
 have h5 := yhm (ls := ls) n hn2
 have h6 := ycs (ls := ls) n s hn2
 rw [h3, ← h5, ← qcy] at h4
 rw [h4] at h6
 exact Nat.eq_of_mul_eq_mul_right (qbf (by omega)) h6
theorem cst_le (n : Nat) (hn : n ≤ 15) (hc : call ls ≤ 32768) : cst ls n ≤ 32768 := by
 have h1 := yhm (ls := ls) n hn
 have h2 := cpos_le (ls := ls) n 0
 have h3 : 0 < (2 : Nat) ^ (15 - n) := qbf (by omega)
 have h4 := qcp (cst ls n) h3
 omega
theorem cdeep_over (n : Nat) (h : ∀ s (hs : s < ls.length), ls[s] ≤ n) : ∀ m, cpos ls (n + 1 + m) 0 = cpos ls (n + 1) 0 ∧ wat ls (n + 1 + m) 0 = wat ls (n + 1) 0
 | 0 => ⟨rfl, rfl⟩
 | m + 1 => by
  obtain ⟨h1, h2⟩ := cdeep_over n h m
  have hz : (crow ls ls.length (n + 1 + m)).length = (crow ls 0 (n + 1 + m)).length := by
   have : crow ls ls.length (n + 1 + m) = [] := by
    unfold crow
    rw [qcd]
    intro s hs
    have hs2 := qaU.1 hs
    have h3 := h s hs2
    have h4 := yc4 (l := ls) s hs2
    simp only [qch]
    omega
   rw [this, ye8]
  obtain ⟨h5, h6⟩ := crow_eq (ls := ls) (n + 1 + m) (by omega) _ _ hz
  rw [yez _ _ (qaf _)] at h5
  rw [wat_next _ _ _ (qaf _)] at h6
  rw [show n + 1 + (m + 1) = n + 1 + m + 1 from rfl, h5, h6]
  exact ⟨h1, h2⟩
theorem cdeep_all (n : Nat) (hn : n ≤ 15) (h : ∀ s (hs : s < ls.length), ls[s] ≤ n) : cpos ls (n + 1) 0 = call ls ∧ wat ls (n + 1) 0 = wat ls 16 0 := by
 obtain ⟨h1, h2⟩ := cdeep_over n h (15 - n)
 rw [show n + 1 + (15 - n) = 16 from by omega] at h1 h2
 refine ⟨?_, h2.symm⟩
 rw [← h1]
 exact cpos_end fun x hx => by
  obtain ⟨i, hi, rfl⟩ := qaI hx
  have := h i hi
  omega
section
variable {R : List Nat}
theorem cgo_bit (hb : Bin R) (k : Nat) (hk : k < R.length) : num ((R.drop k).take 1) = R[k] := by
 rw [qa6 hk, qaJ, qbb]
 simp [num]
theorem cgo_num (n : Nat) (hk : n < R.length) : num (R.take (n + 1)) = 2 * num (R.take n) + R[n] := num_next R n hk
theorem cgo_le (hb : Bin R) (n : Nat) (hn : n ≤ 15) (hl : n ≤ R.length) (hv : cpos ls n 0 ≤ v15 R) : cst ls n ≤ num (R.take n) := by
 rw [ydk hb n hn hl, Nat.le_div_iff_mul_le (qbf (by omega)), yhm n hn]
 exact hv
theorem cgo_hit (h15 : ∀ x ∈ ls, x ≤ 15) (hc : call ls ≤ 32768) (hb : Bin R) (E : Int) (n : Nat) (hn : 0 < n) (hn2 : n ≤ 15) (hl : n ≤ R.length) (k s : Nat) (hk : num (R.take n) = cst ls n + k) (hs : (crow ls ls.length n)[k]? = some s) : ybr (wat ls 16 0) 0 R E = ((s : Int), (n : Int), 0) := by
 obtain ⟨h1, h2, h3, _⟩ := cst_word n k s hn hn2 hs
 have hg := yc4 (l := ls) s h2
 have h4 : ls[s] = n := by omega
 have h5 := cget_found h15 hc hb E s h2 (by omega) (by omega) (by
  have h6 := ycs (ls := ls) n s hn2
  have h7 := (part_of (v := v15 R) (D := 2 ^ (15 - n)) (x := num (R.take n)) (qbf (by omega))).1 (ydk hb n hn2 hl).symm
  rw [h4, ← h6, h1, ← hk]
  exact h7)
 rw [h4] at h5
 exact h5
theorem cgo_miss (hb : Bin R) (n : Nat) (hn2 : n ≤ 15) (hl : n ≤ R.length) (h : cst ls n + (crow ls ls.length n).length ≤ num (R.take n)) : cpos ls (n + 1) 0 ≤ v15 R := by
 rw [crow_over n hn2, ← Nat.le_div_iff_mul_le (qbf (by omega)), ← ydk hb n hn2 hl]
 exact h
theorem cgo_short (h15 : ∀ x ∈ ls, x ≤ 15) (hc : call ls ≤ 32768) (hb : Bin R) (n D : Nat) (hn : 0 < n) (hn2 : n ≤ D) (hl : R.length + 1 = n) (hv : cpos ls n 0 ≤ v15 R) (hD : D = 1 ∨ call ls = 32768) (E : Int) (hE : R = [] → E = 4) : ybr (wat ls 16 0) 0 R E = (0, 0, 4) := by
 rcases hD with hD | hD
 ·have hR : R = [] := List.eq_nil_of_length_eq_zero (by omega)
  subst hR
  refine ydP [] _ 0 E (fun j hj => ?_) (qas (hE rfl))
  have hj2 : j < ls.length := by rw [yaS] at hj; exact hj
  by_cases hp : 0 < ls[j]
  ·right
   rw [(yc2 h15 j hj2 hj hp).1]
   cases hbb : (begF [] (dig ls[j] (yb7 ls ls[j] j))).2 with
   | false => rfl
   | true =>
    have := ((yed _ _).1 hbb).1
    rw [yab, List.length_nil] at this
    omega
  ·exact qas (ydv h15 j hj2 hj hp)
 ·obtain ⟨k, hk, hp, hv2⟩ := yeu (ls := ls) (v15 R) 16 0 (by rw [cpos_end h15, hD]; exact v15_lt hb)
  refine cget_cut h15 hc hb E k hk hp ?_ hv2
  rcases qbz R.length ls[k] with e | e
  ·exact e
  ·have := ybG ls[k] k n 0 hk rfl hp (qas (by omega))
   omega
theorem cget1_none (R : List Nat) : ∀ (ws : List (Int × Int)) (s : Nat) (E : Int), (∀ j (hj : j < ws.length), ws[j].2 = 0 ∨ (begF R (digI ws[j].1 ws[j].2)).1 = false ∧ (begF R (digI ws[j].1 ws[j].2)).2 = false) → ybr ws s R E = (0, 0, E)
 | [], s, E, _ => rfl
 | f :: t, s, E, h0 => by
  have hf := h0 0 (by simp)
  simp only [List.getElem_cons_zero] at hf
  have ih := cget1_none R t (s + 1) E (fun j hj => by
   have := h0 (j + 1) (by simpa using hj)
   simpa only [List.getElem_cons_succ] using this)
  unfold ybr
  by_cases hz : f.2 = 0
  ·rw [qah hz]
   exact ih
  ·rcases hf with hf | ⟨hf, hf2⟩
   ·exact absurd hf hz
   ·rw [qag hz, qag (by rw [hf2]; decide), qag (by rw [hf]; decide)]
    exact ih
theorem cgo_end (h15 : ∀ x ∈ ls, x ≤ 15) (hc : call ls ≤ 32768) (hb : Bin R) (D : Nat) (hD1 : 0 < D) (hD2 : D ≤ 15) (hd : ∀ s (hs : s < ls.length), ls[s] ≤ D) (hl : D ≤ R.length) (hv : cpos ls (D + 1) 0 ≤ v15 R) (E : Int) : ybr (wat ls 16 0) 0 R E = (0, 0, E) := by
 refine cget1_none R _ 0 E fun j hj => ?_
 have hj2 : j < ls.length := by rw [yaS] at hj; exact hj
 by_cases hp : 0 < ls[j]
 ·right
  have h1 := hd j hj2
  have h2 : (begF R (dig ls[j] (yb7 ls ls[j] j))).2 = false := by
   cases hbb : (begF R (dig ls[j] (yb7 ls ls[j] j))).2 with
   | false => rfl
   | true =>
    have h3 := ((ycn h15 hc hb j hj2 hp).1 hbb).2
    have h4 := ybG ls[j] j (D + 1) 0 hj2 rfl hp (qas (by omega))
    omega
  rw [(yc2 h15 j hj2 hj hp).1]
  refine ⟨?_, h2⟩
  cases hbb : (begF R (dig ls[j] (yb7 ls ls[j] j))).1 with
  | false => rfl
  | true =>
   have h3 := (ygO _ _).1 hbb
   rw [yab, qa5 (l := dig _ _) (by rw [yab]; omega)] at h3
   have h4 := (yed R (dig ls[j] (yb7 ls ls[j] j))).2 ⟨by rw [yab]; omega, by rw [yab]; exact h3⟩
   rw [h4] at h2
   cases h2
 ·exact qas (ydv h15 j hj2 hj hp)
end
def ya7 (ls : List Nat) : Nat → Nat
 | 0 => 1
 | i + 1 => max (ya7 ls i) (ls.getD i 0)
theorem ycp : ∀ i, 1 ≤ ya7 ls i
 | 0 => qaf _
 | i + 1 => qaG (ycp i) (Nat.le_max_left _ _)
theorem ye7 (h15 : ∀ s (hs : s < ls.length), ls[s] ≤ 15) : ∀ i, i ≤ ls.length → ya7 ls i ≤ 15
 | 0, _ => by show 1 ≤ 15; omega
 | i + 1, h => by
  have h1 := ye7 h15 i (by omega)
  have h2 := h15 i (by omega)
  have h3 := yc4 (l := ls) i (by omega)
  show max _ _ ≤ 15
  omega
theorem cdeep_ge : ∀ i, i ≤ ls.length → ∀ s (hs : s < ls.length), s < i → ls[s] ≤ ya7 ls i
 | 0, _, s, hs, h => by omega
 | i + 1, hi, s, hs, h => by
  show _ ≤ max (ya7 ls i) (ls.getD i 0)
  by_cases e : s = i
  ·subst e
   rw [yc4 _ hs]
   omega
  ·have := cdeep_ge i (by omega) s hs (by omega)
   omega
theorem cdeep_has : ∀ i, i ≤ ls.length → ya7 ls i = 1 ∨ ∃ s, ∃ hs : s < ls.length, ls[s] = ya7 ls i
 | 0, _ => qas rfl
 | i + 1, hi => by
  show max (ya7 ls i) (ls.getD i 0) = 1 ∨ ∃ s, ∃ hs : s < ls.length, ls[s] = max (ya7 ls i) (ls.getD i 0)
  have hg := yc4 (l := ls) i (by omega)
  rcases Nat.le_total (ya7 ls i) (ls.getD i 0) with e | e
  ·exact qaK ⟨i, by omega, by omega⟩
  ·rw [Nat.max_eq_left e]
   exact cdeep_has i (by omega)
theorem yeI : ∀ (l : List Int), yaA l ≤ 16384 * ya1 l ∧ ((∃ x ∈ l, 2 ≤ x) → yaA l + 8192 ≤ 16384 * ya1 l)
 | [] => ⟨by simp [ya1, yaA], fun ⟨x, hx, _⟩ => by cases hx⟩
 | x :: t => by
  obtain ⟨h1, h2⟩ := yeI t
  have hu : ya1 (x :: t) = (if 0 < x then 1 else 0) + ya1 t := by
   unfold ya1
   by_cases h : 0 < x
   ·rw [qaD, qah (by simpa using h), qah h, qau]; omega
   ·rw [qaD, qag (by simpa using h), qag h]; omega
  have hp : yaA (x :: t) = (if 0 < x then 2 ^ (15 - x.toNat) else 0) + yaA t := rfl
  rw [hu, hp]
  have hs : 0 < x → (2 : Nat) ^ (15 - x.toNat) ≤ 16384 := fun h => qaG (qaH (by omega) (by omega)) (by decide : (2 : Nat) ^ 14 ≤ 16384)
  have hs2 : 2 ≤ x → (2 : Nat) ^ (15 - x.toNat) ≤ 8192 := fun h => qaG (qaH (by omega) (by omega)) (by decide : (2 : Nat) ^ 13 ≤ 8192)
  by_cases h : 0 < x
  ·rw [qah h, qah h]
   have h3 := hs h
   refine ⟨by omega, fun ⟨y, hy, hy2⟩ => ?_⟩
   rcases qaB.1 hy with rfl | hy
   ·have := hs2 hy2
    omega
   ·have := h2 ⟨y, hy, hy2⟩
    omega
  ·rw [qag h, qag h]
   refine ⟨by omega, fun ⟨y, hy, hy2⟩ => ?_⟩
   rcases qaB.1 hy with rfl | hy
   ·omega
   ·have := h2 ⟨y, hy, hy2⟩
    omega
theorem cdeep_full {l : List Int} (h : ya3 l = 0) : ya7 (l.map Int.toNat) (l.map Int.toNat).length = 1 ∨ call (l.map Int.toNat) = 32768 := by
 rcases cdeep_has (ls := l.map Int.toNat) _ (qaf _) with e | ⟨s, hs, e⟩
 ·exact qas e
 ·by_cases hd : ya7 (l.map Int.toNat) (l.map Int.toNat).length = 1
  ·exact qas hd
  ·right
   have hge := ycp (ls := l.map Int.toNat) (l.map Int.toNat).length
   obtain ⟨hl, hg, hca⟩ := ydi h
   have hs2 : s < l.length := by simpa using hs
   have hx : ∃ x ∈ l, 2 ≤ x := ⟨l[s], qaq hs2, by rw [qaY] at e; omega⟩
   obtain ⟨h1, h2⟩ := yeI l
   have h3 := h2 hx
   have h4 := yeU l
   rw [call_part]
   unfold ya3 at h
   rw [qag (by omega)] at h
   by_cases h5 : sumF l = 0 ∨ sumF l = 32768 ∨ ((ya1 l : Int) = 1 ∧ sumF l = 16384)
   ·unfold sumF at h5
    rw [qah hg] at h5
    omega
   ·rw [qag h5] at h
    cases h
end Go.Proofs.YtanjhbkbpalnaaaGreat
namespace Go.Proofs.YtanjhbkbpalnaaaGreat
set_option linter.unusedSimpArgs false
set_option linter.unusedVariables false
open Go.ChangeShapes Go.WideShapes Go.ChangeAt Go.RowKit Go.Joins Go.Deep
theorem bfits_yes (n width : Int) (w : World) (h : fits n width) : Calls prog 149 #[.int .i64 n, .int .i64 width] w fun e w' => e = .returned (.bool true) ∧ w = w' := by
 obtain ⟨h1, h2, h3, h4⟩ := h
 obtain ⟨W, rfl⟩ := qaQ h1
 obtain ⟨N, rfl⟩ := qaQ h3
 go_enter func149, ntmps149
 go_wp2
 go_ret
 refine ⟨?_, rfl⟩
 have hd : (N : Int) / 2 ^ W = 0 := Int.ediv_eq_zero_of_lt h3 (by simpa using h4)
 show Ending.returned (.bool ((N : Int) / 2 ^ W == 0)) = _
 rw [hd]
 rfl
theorem ycb (g : Nat) (w : World) : Calls prog 129 #[.pointer (some ⟨g, 0, none⟩)] w fun e w' => e = .returned (.pointer (some ⟨g, 0, none⟩)) ∧ w = w' := by
 go_enter func129, ntmps129
 go_wp2
 go_ret
 exact ⟨rfl, rfl⟩
theorem yb9 (s : ByteArray) (w : World) : Calls prog 86 #[.string s] w fun e w' => e = .returned (.pointer (some ⟨w.heap.size, 0, none⟩)) ∧ w.alloc (.cells #[.string s, .int .i64 0] 174) = w' := by
 go_enter func86, ntmps86
 go_wp2
 go_ret
 exact ⟨rfl, rfl⟩
theorem ybQ (l : List UInt8) (p : Nat) (g : Nat) (w : World) (hl : l.length ≤ 4611686018427387) (hp : p ≤ 8 * l.length) (hB : Blk w g 174 #[.string ⟨l.toArray⟩, .int .i64 p]) :
  Calls prog 130 #[.pointer (some ⟨g, 0, none⟩)] w fun e w' => e = .returned (.int .i64 ((8 * l.length - p : Nat) : Int)) ∧ ∃ k, w.drewN k = w' := by
 obtain ⟨c1, c2, _, _⟩ := hB.two
 go_enter func130, ntmps130
 go_wp2_with (go_at_call 129; refine (ycb g _).mono ?_; rintro e w1 ⟨rfl, rfl⟩)
 go_quiet (fail)
 go_wp2
 go_ret
 exact ⟨qbD Ending.returned (iv (by omega)), _, rfl⟩
def WHold (w : World) (B g : Nat) (v : Value) (R : List Nat) : Prop :=
 Blk w g 102 #[v, .int .i64 (fr R)] ∧ w.ownsRow B 5 1 v (text R).length (bc (text R)).toList ∧ Bin R
section
variable {w w' : World} {B g : Nat} {v : Value} {R : List Nat} {S : Nat → Prop}
theorem WHold.touch (h : WHold w B g v R) (ht : Touch w w' S) (hg : ¬ S g) (hv : ∀ k, v.ownBlock = some k → ¬ S k) : WHold w' B g v R := ⟨h.1.touch ht hg, yaG h.2.1 ht hv, h.2.2⟩
theorem WHold.below (h : WHold w B g v R) {C : Nat} (hb : Below C w w') (hC : w.heap.size ≤ C) : WHold w' B g v R := h.touch (yai (S := fun _ => False) hb hC) (fun h => h) (fun _ _ h => h)
end
theorem wtext_any (B g : Nat) (v : Value) (R : List Nat) (w : World) (hH : WHold w B g v R) :
  Calls prog 65 #[.pointer (some ⟨g, 0, none⟩)] w fun e w' => e = .returned (.string ⟨(text R).toArray⟩) ∧ w = w' := by
 obtain ⟨A, c, rfl, hc, hr⟩ := yag hH.2.1
 obtain ⟨c1, c2, _, _⟩ := hH.1.two
 have hcv : (convert 36 9 (.slice A (text R).length c)).run prog w = .ok (.string ⟨(text R).toArray⟩) w := ybO underlying36 underlying5 underlying9 w A c _ hr
 have hg := hH.1.lt
 clear hH hr hc
 generalize (text R).length = n at *
 generalize (text R).toArray = a at *
 go_enter func65, ntmps65
 go_wp2
 go_ret
 exact ⟨rfl, rfl⟩
theorem bbyte_info : (prog.info? 5).map (fun i => (i.zero, i.size, i.bytes)) = some (some (.int .u8 0), 1, 1) := by kernel_rfl
theorem owns_some {w : World} {base size n : Nat} {e : TypeId} {v : Value} {xs : List Value} (h : w.ownsRow base e size v n xs) (hn : 0 < n) : ∃ g cap, v = .slice (some ⟨g, 0, none⟩) n cap ∧ base ≤ g ∧ n ≤ cap ∧ g < w.heap.size := by
 rcases h.2 with ⟨rfl, h0⟩ | ⟨g, cap, cur, rfl, hb, hheap, hcap, _⟩
 ·omega
 ·refine ⟨g, cap, rfl, hb, hcap, ?_⟩
  rcases qbz g w.heap.size with hlt | hge
  ·exact hlt
  ·rw [Array.getElem?_eq_none hge] at hheap; cases hheap
theorem or_u8 (x y f : Nat) (hx : x % 2 ^ f = 0) (hy : y < 2 ^ f) (hxl : x < 256) (hf : f ≤ 8) : bits .or .u8 (x : Int) (y : Int) = ((x + y : Nat) : Int) := by
 have h8 : (2 : Nat) ^ 8 = 256 := by decide
 have hp : 0 < 2 ^ f := qbf (by omega)
 have hs : x + y < 256 := by
  have h1 : x = x / 2 ^ f * 2 ^ f := by have := Nat.div_add_mod x (2 ^ f); rw [hx, qbO] at this; omega
  have h2 : 256 = 2 ^ (8 - f) * 2 ^ f := by rw [← qbJ, show 8 - f + f = 8 from by omega]
  have h3 : x / 2 ^ f < 2 ^ (8 - f) := by
   rw [qbB hp, ← h2]
   exact hxl
  have h4 : (x / 2 ^ f + 1) * 2 ^ f ≤ 2 ^ (8 - f) * 2 ^ f := qcl _ h3
  rw [qcy, ← h2, Nat.one_mul] at h4
  omega
 have h := bits_join .u8 8 (by decide) wraps_u8 f (x : Int) (y : Int) (by omega) (by exact_mod_cast hx) (by omega) (by omega) (by exact_mod_cast hy) (by omega)
 rw [h]
 omega
def WS (g : Nat) (v : Value) : Nat → Prop := fun k => k = g ∨ v.ownBlock = some k
structure PInv (w wr : World) (B g : Nat) (v : Value) (R : List Nat) (W N L : Nat) (v' : Value) : Prop where
 hold : WHold wr B g v' (R ++ dig (W - L) (N / 2 ^ L))
 touch : Touch w wr (WS g v)
 sep : Sep w v v'
 at_ : L = W ∨ L = 0 ∨ fr (R ++ dig (W - L) (N / 2 ^ L)) = 0
theorem fr_app (Q P : List Nat) (h : P.length ≤ fr Q) : fr (Q ++ P) = fr Q - P.length := by
 unfold fr at *
 rw [qae]
 omega
theorem fr_new (Q P : List Nat) (h : fr Q = 0) (h8 : P.length ≤ 8) (h0 : 0 < P.length) : fr (Q ++ P) = 8 - P.length := by
 unfold fr at *
 rw [qae]
 omega
theorem dig_on (R : List Nat) (W N L p : Nat) (hL : L ≤ W) (hp : p ≤ L) : R ++ dig (W - (L - p)) (N / 2 ^ (L - p)) = (R ++ dig (W - L) (N / 2 ^ L)) ++ dig p (N / 2 ^ (L - p)) := by
 rw [qak, show W - (L - p) = (W - L) + p from by omega, ycA, qce, ← qbJ, show L - p + p = L from by omega]
theorem bc_last (T : List UInt8) (b c : UInt8) : (bc (T ++ [b])).toList.set T.length (.int .u8 (c.toNat : Int)) = (bc (T ++ [c])).toList := by
 simp [bc, List.set_append]
theorem yval (N s p F : Nat) (hN : N < 4294967296) (hF : F ≤ 8) (hp : p ≤ F) (h : F = 8 ∨ N / 2 ^ s < 2 ^ p) : wrap64 ((N : Int) / 2 ^ s * 2 ^ (F - p)) % 256 = ((num (dig p (N / 2 ^ s)) * 2 ^ (F - p) : Nat) : Int) := by
 have e : (N : Int) / 2 ^ s * 2 ^ (F - p) = ((N / 2 ^ s * 2 ^ (F - p) : Nat) : Int) := by norm_cast
 have hle : N / 2 ^ s ≤ N := Nat.div_le_self _ _
 rw [e, ydf]
 generalize N / 2 ^ s = M at *
 have h8 : 2 ^ (F - p) ≤ 2 ^ 8 := qaH (by omega) (by omega)
 have hb : M * 2 ^ (F - p) ≤ 4294967295 * 2 ^ 8 := Nat.mul_le_mul (by omega) h8
 rw [show (2 : Nat) ^ 8 = 256 from by decide] at hb
 have hw : wrap64 ((M * 2 ^ (F - p) : Nat) : Int) = ((M * 2 ^ (F - p) : Nat) : Int) := by unfold wrap64; omega
 rw [hw]
 have hkey : M * 2 ^ (F - p) % 256 = M % 2 ^ p * 2 ^ (F - p) := by
  rcases h with rfl | h
  ·rw [show 256 = 2 ^ p * 2 ^ (8 - p) from by rw [← qbJ, show p + (8 - p) = 8 from by omega], Nat.mul_mod_mul_right]
  ·rw [qc8 h, qc8]
   have h1 : M * 2 ^ (F - p) < 2 ^ p * 2 ^ (F - p) := qb6 h (qbf (by omega))
   rw [← qbJ, show p + (F - p) = F from by omega] at h1
   have h2 : 2 ^ F ≤ 2 ^ 8 := qaH (by omega) hF
   rw [show (2 : Nat) ^ 8 = 256 from by decide] at h2
   omega
 rw [← hkey]
 generalize M * 2 ^ (F - p) = K
 omega
theorem pstep {w X : World} {B g h cap W N L p F : Nat} {v : Value} {R Q : List Nat} {T : List UInt8} {b : UInt8}
  (hX : Blk X g 102 #[.slice (some ⟨h, 0, none⟩) (T.length + 1) cap, .int .i64 F]) (hown : X.ownsRow B 5 1 (.slice (some ⟨h, 0, none⟩) (T.length + 1) cap) (T.length + 1) (bc (T ++ [b])).toList)
  (ht : Touch w X (WS g v)) (hsep : Sep w v (.slice (some ⟨h, 0, none⟩) (T.length + 1) cap)) (hQ : R ++ dig (W - L) (N / 2 ^ L) = Q) (hbin : Bin Q) (hL : L ≤ W) (hp : p ≤ L) (hpF : p ≤ F) (hF8 : F ≤ 8)
  (htext : text (Q ++ dig p (N / 2 ^ (L - p))) = T ++ [UInt8.ofNat (b.toNat + num (dig p (N / 2 ^ (L - p))) * 2 ^ (F - p))]) (hfr : fr (Q ++ dig p (N / 2 ^ (L - p))) = F - p) (hb : b.toNat % 2 ^ F = 0)
  (hat : L - p = 0 ∨ F - p = 0) (f y : Int) (hf : f = ((F - p : Nat) : Int)) (hy : y = ((num (dig p (N / 2 ^ (L - p))) * 2 ^ (F - p) : Nat) : Int)) :
  PInv w ((X.setCell ⟨g, 1, none⟩ (.int .i64 f)).setCell ⟨h, T.length, none⟩ (.int .u8 (bits .or .u8 (b.toNat : Int) y))).drew B g v R W N (L - p) (.slice (some ⟨h, 0, none⟩) (T.length + 1) cap) := by
 have hne : h ≠ g := fun e => ya4 hown hX (by decide) (by rw [e]; rfl)
 have hd := dig_on R W N L p hL hp
 rw [hQ] at hd
 have hPl : num (dig p (N / 2 ^ (L - p))) < 2 ^ p := by
  have := ye3 (ycw p (N / 2 ^ (L - p)))
  rwa [yab] at this
 have hlt : num (dig p (N / 2 ^ (L - p))) * 2 ^ (F - p) < 2 ^ F := by
  have h1 : num (dig p (N / 2 ^ (L - p))) * 2 ^ (F - p) < 2 ^ p * 2 ^ (F - p) := qb6 hPl (qbf (by omega))
  rwa [← qbJ, show p + (F - p) = F from by omega] at h1
 subst hf
 subst hy
 rw [or_u8 b.toNat _ F hb hlt (u8_lt b) hF8]
 have hs : b.toNat + num (dig p (N / 2 ^ (L - p))) * 2 ^ (F - p) < 256 := by
  have hp' : 0 < 2 ^ F := qbf (by omega)
  have h1 : b.toNat = b.toNat / 2 ^ F * 2 ^ F := by have := Nat.div_add_mod b.toNat (2 ^ F); rw [hb, qbO] at this; omega
  have h2 : 256 = 2 ^ (8 - F) * 2 ^ F := by rw [← qbJ, show 8 - F + F = 8 from by omega]
  have h3 : b.toNat / 2 ^ F < 2 ^ (8 - F) := by
   rw [qbB hp', ← h2]
   exact u8_lt b
  have h4 : (b.toNat / 2 ^ F + 1) * 2 ^ F ≤ 2 ^ (8 - F) * 2 ^ F := qcl _ h3
  rw [qcy, ← h2, Nat.one_mul] at h4
  omega
 have hbn : ((b.toNat + num (dig p (N / 2 ^ (L - p))) * 2 ^ (F - p) : Nat) : Int) = ((UInt8.ofNat (b.toNat + num (dig p (N / 2 ^ (L - p))) * 2 ^ (F - p))).toNat : Int) := by rw [yaE _ hs]
 rw [hbn]
 have hB1 : Blk (X.setCell ⟨g, 1, none⟩ (.int .i64 ((F - p : Nat) : Int))) g 102 #[.slice (some ⟨h, 0, none⟩) (T.length + 1) cap, .int .i64 ((F - p : Nat) : Int)] := hX.set_ 1 _
 have hO1 : (X.setCell ⟨g, 1, none⟩ (.int .i64 ((F - p : Nat) : Int))).ownsRow B 5 1 (.slice (some ⟨h, 0, none⟩) (T.length + 1) cap) (T.length + 1) (bc (T ++ [b])).toList :=
  yaG hown ((Touch.refl X (fun k => k = g)).set (qas rfl) _) (fun k hk e => by injection hk with hk; simp only at hk; omega)
 have hO2 := (hO1.stored T.length (.int .u8 ((UInt8.ofNat (b.toNat + num (dig p (N / 2 ^ (L - p))) * 2 ^ (F - p))).toNat : Int))).1
 rw [bc_last] at hO2
 refine ⟨⟨?_, ?_, ?_⟩, ?_, hsep, ?_⟩
 ·rw [hd, hfr]
  exact (hB1.far (p := ⟨h, T.length, none⟩) (fun e => hne e.symm) _).drew
 ·rw [hd, htext, qae]
  exact hO2
 ·rw [hd]
  exact hbin.app (ycw _ _)
 ·have h1 := (ht.set (p := ⟨g, 1, none⟩) (qas (qas rfl)) (.int .i64 ((F - p : Nat) : Int)))
  have h2 := h1.set (p := ⟨h, T.length, none⟩) (by
   rcases hsep h rfl with e | e
   ·exact qas (qaK e)
   ·exact qaK e) (.int .u8 ((UInt8.ofNat (b.toNat + num (dig p (N / 2 ^ (L - p))) * 2 ^ (F - p))).toNat : Int))
  exact h2.drewN 1
 ·rw [hd, hfr]
  rcases hat with e | e
  ·exact qaK (qas e)
  ·exact qaK (qaK e)
theorem put_yes (B g W N : Nat) (v : Value) (R : List Nat) (w : World) (hW : W ≤ 32) (hN : N < 2 ^ W) (hH : WHold w B g v R) (hB : B ≤ w.heap.size) (hR : R.length ≤ 1099511627776) :
  Calls prog 107 #[.pointer (some ⟨g, 0, none⟩), .int .i64 N, .int .i64 W] w fun e w' => e = .returned (.int .i64 0) ∧ ∃ v', WHold w' B g v' (R ++ dig W N) ∧ Touch w w' (WS g v) ∧ Sep w v v' := by
 obtain ⟨i0, hi, hz0, hz1, hz2⟩ := qb4 bbyte_info
 have hfit : fits N W := ⟨by omega, by omega, by omega, by exact_mod_cast hN⟩
 have HI0 : Hid (PInv w w B g v R W N W v) := qaa ⟨by rw [qcc]; simpa [dig] using hH, Touch.refl _ _, fun k hk => qas hk, qas rfl⟩
 have HN := qaa hN
 have HR := qaa hR
 have HB := qaa hB
 have Hfit := qaa hfit
 clear hN hH hR hB hfit
 go_enter func107, ntmps107
 go_wp2_with (go_at_call 149; refine (bfits_yes N W _ Hfit.out).mono ?_; rintro e w1 ⟨rfl, rfl⟩)
 go_loopw [7] (fun i wr => ∃ (L : Nat) (v' : Value), L ≤ W ∧ i = .int .i64 L ∧ Hid (PInv w wr B g v R W N L v')) (fun i _ => (intOf i).toNat)
 case atStart => exact ⟨W, v, qaf _, rfl, HI0.out⟩
 case round =>
  obtain ⟨L, v', hL, rfl, HI⟩ := hrel
  by_cases hlt : 0 < L
  ·have hLi : (0 : Int) < L := by omega
   have hL32 : (L : Int) ≤ 32 := by omega
   obtain ⟨c1, c2, z1, z2⟩ := HI.out.hold.1.two
   have hgl := HI.out.hold.1.lt
   generalize hQ : R ++ dig (W - L) (N / 2 ^ L) = Q at *
   have hown := HI.out.hold.2.1
   have hbin := HI.out.hold.2.2
   rw [hQ] at hown hbin
   have Hown := qaa hown
   have Hbin := qaa hbin
   have Hlen : Hid ((text Q).length ≤ 1099511627780) := qaa (by
    have := HR.out
    rw [yc3, ← hQ, qae, yab]
    omega)
   have HQ := qaa hQ
   clear hown hbin hQ
   have HN32 : Hid (N < 4294967296) := qaa (by
    have h1 := HN.out
    have h2 : 2 ^ W ≤ 2 ^ 32 := qaH (by omega) hW
    rw [show (2 : Nat) ^ 32 = 4294967296 from by decide] at h2
    omega)
   by_cases hf : fr Q = 0
   ·have c2' : wr.cell? ⟨g, 1, none⟩ = some (.int .i64 0) := by rw [c2, hf]; rfl
    have Hf := qaa hf
    clear hf c2
    go_wp2_with (at_builtin; refine yan _ rfl _ _ 36 rfl B 5 i0 (.int .u8 0) 1 1 underlying36 hi hz0 hz1 hz2 rfl (by decide) _ _ _ rfl (Hown.out.alloc _) _ 1 1 _ _ rfl (yaB wr 5 #[.int .u8 0] 1 1 rfl) ?c1 ?c2 ?c3 ?c4 ?_)
    case c1 =>
     exact rfl
    case c2 => have := Hlen.out; unfold maxLen; omega
    case c3 => have := Hlen.out; omega
    case c4 =>
     have h3 := HB.out
     have h4 := HI.out.touch.size
     simp only [qay]
     omega
    intro v2 w2 hown2 hgrow hsep
    obtain ⟨h, cap, rfl, hBh, hcap, hhl⟩ := owns_some hown2 (by omega)
    have hbw := (HI.out.hold.1.alloc (.cells #[.int .u8 0] 5)).grow' hgrow (fun e => ya4 Hown.out HI.out.hold.1 (by decide) e)
    have d1 : ¬ h = g := fun e => ya4 hown2 hbw (by decide) (by rw [e]; rfl)
    have d2 : ¬ g = h := fun e => d1 e.symm
    have hX : Blk ((w2.setCell ⟨g, 0, none⟩ (.slice (some ⟨h, 0, none⟩) ((text Q).length + 1) cap)).setCell ⟨g, 1, none⟩ (.int .i64 8)) g 102 #[.slice (some ⟨h, 0, none⟩) ((text Q).length + 1) cap, .int .i64 ((8 : Nat) : Int)] := (hbw.set_ 0 _).set_ 1 _
    have hownX : ((w2.setCell ⟨g, 0, none⟩ (.slice (some ⟨h, 0, none⟩) ((text Q).length + 1) cap)).setCell ⟨g, 1, none⟩ (.int .i64 8)).ownsRow B 5 1 (.slice (some ⟨h, 0, none⟩) ((text Q).length + 1) cap) ((text Q).length + 1) (bc (text Q ++ [0])).toList := by
     have h1 := yaG hown2 (((Touch.refl w2 (fun k => k = g)).set (p := ⟨g, 0, none⟩) (qas rfl) (.slice (some ⟨h, 0, none⟩) ((text Q).length + 1) cap)).set (p := ⟨g, 1, none⟩) (qas rfl) (.int .i64 8)) (fun k hk e => by injection hk with hk; simp only at hk; omega)
     simpa [bc] using h1
    have htX : Touch w ((w2.setCell ⟨g, 0, none⟩ (.slice (some ⟨h, 0, none⟩) ((text Q).length + 1) cap)).setCell ⟨g, 1, none⟩ (.int .i64 8)) (WS g v) := by
     have h1 := (HI.out.touch.alloc (.cells #[.int .u8 0] 5)).next (yaT hgrow) (fun k hk e => by
      rcases HI.out.sep k e.symm with e | e
      ·exact qaK e
      ·omega)
     exact (h1.set (p := ⟨g, 0, none⟩) (qas (qas rfl)) _).set (p := ⟨g, 1, none⟩) (qas (qas rfl)) _
    have hsX : Sep w v (.slice (some ⟨h, 0, none⟩) ((text Q).length + 1) cap) := fun k hk => by
     rcases hsep k hk with e | e
     ·exact HI.out.sep k e
     ·have h1 := HI.out.touch.size
      simp only [qay] at e
      exact qaK (by omega)
    have c3 : w2.cell? ⟨h, (text Q).length, none⟩ = some (.int .u8 0) := by
     rw [hown2.cellAt _ (by omega), qbs (by simp [bc])]
     simp [bc]
    have z3 : w2.frozen? ⟨h, (text Q).length, none⟩ = false := hown2.frozenAt _
    have z4 : w2.frozen? ⟨g, 0, none⟩ = false := hbw.frozen _
    have z5 : w2.frozen? ⟨g, 1, none⟩ = false := hbw.frozen _
    have hgl2 := hbw.lt
    have HX := qaa hX
    have hXt := hX.two
    have HXt := qaa hXt
    have HXc := qaa (show _ ∧ _ from ⟨hownX.cellAt (text Q).length (by omega), hownX.frozenAt (text Q).length⟩)
    clear hXt
    have HownX := qaa hownX
    have Hnew := qaa (fun (p : Nat) (h0 : 0 < p) (h8 : p ≤ 8) (hpL : p ≤ L) (hat : L - p = 0 ∨ 8 - p = 0) (f y : Int) (hf : f = ((8 - p : Nat) : Int)) (hy : y = ((num (dig p (N / 2 ^ (L - p))) * 2 ^ (8 - p) : Nat) : Int)) =>
     pstep (w := w) (v := v) (b := 0) hX hownX htX hsX HQ.out Hbin.out hL hpL h8 (by omega)
      (by
       have := text_new Q (dig p (N / 2 ^ (L - p))) Hf.out (by rw [yab]; omega) (by rw [yab]; omega)
       rw [yab] at this
       rw [this, show (0 : UInt8).toNat = 0 from rfl, qaL])
      (by rw [fr_new Q _ Hf.out (by rw [yab]; omega) (by rw [yab]; omega), yab]) (by decide) hat f y hf hy)
    have htm : ((text Q).length : Int) ≤ 1099511627780 := by have := Hlen.out; omega
    have hbq := hbw.two
    obtain ⟨q1, q2, _, _⟩ := hbq
    clear hX hownX htX hsX hsep hgrow hown2 hbw c1 c2' z1 z2 hgl
    generalize hTT : text Q = T at *
    have HTT := qaa hTT
    clear hTT
    by_cases hFL : 8 < L
    ·have hL8 : (8 : Int) < L := by omega
     go_wp2
     generalize (w2.setCell ⟨g, 0, none⟩ (.slice (some ⟨h, 0, none⟩) (T.length + 1) cap)).setCell ⟨g, 1, none⟩ (.int .i64 8) = X at *
     obtain ⟨y1, y2, y3, y4⟩ := HXt.out
     obtain ⟨y5, y6⟩ := HXc.out
     replace y2 : X.cell? ⟨g, 1, none⟩ = some (.int .i64 8) := y2
     rw [show ((bc (T ++ [0])).toList[T.length]?) = some (.int .u8 0) from by simp [bc]] at y5
     have hwt : IntKind.i64.wrap (T.length : Int) = T.length := by rw [qai]; omega
     have ht0 : 0 ≤ (T.length : Int) ∧ (T.length : Int) < T.length + 1 := by omega
     refine qb1 23 (by kernel_rfl) (by kernel_rfl) ?_
     simp only [qaJ, qbb, qbn, qb9]
     change wpStill _ _ (World.drew _) (fun a' => wpList _ _ _ _ a' (World.drew _)) _ _
     repeat still_step
     refine qcv ?_
     go_wp2
     go_roundw
     case rel => exact ⟨L - 8, _, by omega, iv (by omega), Hnew.out 8 (by omega) (by omega) (by omega) (qaK rfl) _ _ rfl (by
      have := yval N (L - 8) 8 8 HN32.out (by omega) (by omega) (qas rfl)
      simpa using this)⟩
     case measure => (simp [intOf]; omega)
    ·have hL8 : ¬ (8 : Int) < L := by omega
     go_wp2
     generalize (w2.setCell ⟨g, 0, none⟩ (.slice (some ⟨h, 0, none⟩) (T.length + 1) cap)).setCell ⟨g, 1, none⟩ (.int .i64 8) = X at *
     obtain ⟨y1, y2, y3, y4⟩ := HXt.out
     obtain ⟨y5, y6⟩ := HXc.out
     replace y2 : X.cell? ⟨g, 1, none⟩ = some (.int .i64 8) := y2
     rw [show ((bc (T ++ [0])).toList[T.length]?) = some (.int .u8 0) from by simp [bc]] at y5
     have hwt : IntKind.i64.wrap (T.length : Int) = T.length := by rw [qai]; omega
     have ht0 : 0 ≤ (T.length : Int) ∧ (T.length : Int) < T.length + 1 := by omega
     refine qb1 23 (by kernel_rfl) (by kernel_rfl) ?_
     simp only [qaJ, qbb, qbn, qb9]
     change wpStill _ _ (World.drew _) (fun a' => wpList _ _ _ _ a' (World.drew _)) _ _
     repeat still_step
     refine qcv ?_
     go_wp2
     go_roundw
     case rel => exact ⟨L - L, _, by omega, iv (by omega), Hnew.out L (by omega) (by omega) (by omega) (qas (qcc L)) _ _ (by omega) (by
      have := yval N (L - L) L 8 HN32.out (by omega) (by omega) (qas rfl)
      simpa using this)⟩
     case measure => (simp [intOf]; omega)
   ·have hF1 : ¬ (fr Q : Int) = 0 := by omega
    have hF8 : (fr Q : Int) < 8 := by have := fr_lt Q; omega
    obtain ⟨h, cap, hv', hBh, hcap, hhl⟩ := owns_some Hown.out (by
     obtain ⟨T, b, e, _⟩ := text_more Q [] (fr Q) rfl (by omega) Hbin.out (by simp)
     rw [e]
     simp)
    subst hv'
    have hLW : L = W := by
     rcases HI.out.at_ with e | e | e
     ·exact e
     ·omega
     ·rw [HQ.out] at e
      exact absurd e hf
    have Hf := qaa hf
    clear hf
    have d1 : ¬ h = g := fun e => ya4 Hown.out HI.out.hold.1 (by decide) (by rw [e]; rfl)
    have d2 : ¬ g = h := fun e => d1 e.symm
    obtain ⟨p, hp⟩ : ∃ p, p = min L (fr Q) := ⟨_, rfl⟩
    obtain ⟨T, b, hT, htx, hbm⟩ := text_more Q (dig p (N / 2 ^ (L - p))) (fr Q) rfl (by have := Hf.out; omega) Hbin.out (by rw [yab]; omega)
    have hfrQ := fr_app Q (dig p (N / 2 ^ (L - p))) (by rw [yab]; omega)
    rw [yab] at htx hfrQ
    have hTl : (text Q).length = T.length + 1 := by rw [hT]; simp
    have c3 : wr.cell? ⟨h, T.length, none⟩ = some (.int .u8 (b.toNat : Int)) := by
     rw [Hown.out.cellAt _ (by omega), hT]
     simp [bc]
    have z3 : wr.frozen? ⟨h, T.length, none⟩ = false := Hown.out.frozenAt _
    have hown3 := Hown.out
    rw [hTl, hT] at hown3
    have hX := HI.out.hold.1
    rw [HQ.out, hTl] at hX
    rw [hTl] at c1
    have hsX := HI.out.sep
    rw [hTl] at hsX
    have hTm : (T.length : Int) ≤ 1099511627780 := by have := Hlen.out; omega
    have hsmall : N / 2 ^ (L - p) < 2 ^ p := by
     rw [qbB (qbf (by omega)), ← qbJ, show p + (L - p) = L from by omega, hLW]
     exact HN.out
    have Hy := qaa (yval N (L - p) p (fr Q) HN32.out (by have := fr_lt Q; omega) (by omega) (qaK hsmall))
    have Hstep := qaa (fun (f y : Int) (hf : f = ((fr Q - p : Nat) : Int)) (hy : y = ((num (dig p (N / 2 ^ (L - p))) * 2 ^ (fr Q - p) : Nat) : Int)) =>
     pstep (w := w) (v := v) hX hown3 HI.out.touch hsX HQ.out Hbin.out hL (by omega) (by omega) (by have := fr_lt Q; omega) htx hfrQ hbm (by omega) f y hf hy)
    clear hT hTl hown3 hX hsX hsmall htx hfrQ hbm
    generalize hFF : fr Q = F at *
    have HFF := qaa hFF
    generalize (b.toNat : Int) = bv at *
    clear hFF
    have Hp := qaa hp
    clear hp
    have HLW := qaa hLW
    clear hLW
    by_cases hFL : F < L
    ·obtain rfl : p = F := by have := Hp.out; omega
     go_wp2
     have hwt : IntKind.i64.wrap (T.length : Int) = T.length := by rw [qai]; omega
     have ht0 : 0 ≤ (T.length : Int) ∧ (T.length : Int) < T.length + 1 := by omega
     refine qb1 23 (by kernel_rfl) (by kernel_rfl) ?_
     simp only [qaJ, qbb, qbn, qb9]
     change wpStill _ _ (World.drew _) (fun a' => wpList _ _ _ _ a' (World.drew _)) _ _
     repeat still_step
     refine qcv ?_
     go_wp2
     go_roundw
     case rel => exact ⟨L - p, _, by omega, iv (by omega), Hstep.out _ _ (by omega) (by
      have := Hy.out
      simpa using this)⟩
     case measure => (simp [intOf]; have := Hf.out; omega)
    ·obtain rfl : p = L := by have := Hp.out; omega
     go_wp2
     have hwt : IntKind.i64.wrap (T.length : Int) = T.length := by rw [qai]; omega
     have ht0 : 0 ≤ (T.length : Int) ∧ (T.length : Int) < T.length + 1 := by omega
     refine qb1 23 (by kernel_rfl) (by kernel_rfl) ?_
     simp only [qaJ, qbb, qbn, qb9]
     change wpStill _ _ (World.drew _) (fun a' => wpList _ _ _ _ a' (World.drew _)) _ _
     repeat still_step
     refine qcv ?_
     go_wp2
     go_roundw
     case rel => exact ⟨p - p, _, by omega, iv (by omega), Hstep.out _ _ (by omega) (by
      have := Hy.out
      simpa using this)⟩
     case measure => (simp [intOf]; omega)
  ·obtain rfl : L = 0 := by omega
   have hend := HI.out
   go_wp2
   go_ret
   refine ⟨rfl, v', ?_, hend.touch, hend.sep⟩
   have h1 := hend.hold
   simpa using h1
theorem Sep.trans {w w1 : World} {v v1 v2 : Value} (h : Sep w v v1) (k : Sep w1 v1 v2) (hs : w.heap.size ≤ w1.heap.size) : Sep w v v2 := fun i hi => by
 rcases k i hi with e | e
 ·exact h i e
 ·exact qaK (by omega)
theorem touch_ws {w w1 w2 : World} {g : Nat} {v v1 : Value} (h : Touch w w1 (WS g v)) (k : Touch w1 w2 (WS g v1)) (hs : Sep w v v1) : Touch w w2 (WS g v) :=
 h.next k fun i hi e => by
  rcases e with e | e
  ·exact qas e
  ·rcases hs i e with e | e
   ·exact qaK e
   ·omega
theorem bput_is (B g : Nat) (n width : Int) (v : Value) (R : List Nat) (w : World) (hf : fits n width) (hH : WHold w B g v R) (hB : B ≤ w.heap.size) (hR : R.length ≤ 1099511627776) :
  Calls prog 107 #[.pointer (some ⟨g, 0, none⟩), .int .i64 n, .int .i64 width] w fun e w' => e = .returned (.int .i64 0) ∧ ∃ v', WHold w' B g v' (R ++ digI n width) ∧ Touch w w' (WS g v) ∧ Sep w v v' := by
 obtain ⟨h1, h2, h3, h4⟩ := hf
 obtain ⟨W, rfl⟩ := qaQ h1
 obtain ⟨N, rfl⟩ := qaQ h3
 exact put_yes B g W N v R w (by omega) (by simp only [qav] at h4; exact_mod_cast h4) hH hB hR
theorem nread (x M t : Nat) (m : Int) (hm : m = M) (hM : M < 256) (ht : t ≤ 8) (hfit : x * 2 ^ t < 4294967296) :
  bits .or .i64 (wrap64 ((x : Int) * 2 ^ min t 64)) (bits .and .i64 m (wrap64 (wrap64 (2 ^ min t 64) - 1))) = ((x * 2 ^ t + M % 2 ^ t : Nat) : Int) := by
 subst hm
 rw [show min t 64 = t from by omega]
 have hp : 0 < 2 ^ t := qbf (by omega)
 have h8 : 2 ^ t ≤ 2 ^ 8 := qaH (by omega) ht
 rw [show (2 : Nat) ^ 8 = 256 from by decide] at h8
 have e1 : (2 : Int) ^ t = ((2 ^ t : Nat) : Int) := by norm_cast
 have e2 : wrap64 (wrap64 ((2 : Int) ^ t) - 1) = 2 ^ t - 1 := by rw [e1]; unfold wrap64; omega
 have e3 : wrap64 ((x : Int) * 2 ^ t) = ((x * 2 ^ t : Nat) : Int) := by
  have : (x : Int) * 2 ^ t = ((x * 2 ^ t : Nat) : Int) := by norm_cast
  rw [this]
  unfold wrap64
  omega
 have e63 : (2 : Int) ^ 63 = 9223372036854775808 := by decide
 have hwr : ∀ n : Int, 0 ≤ n → n < 2 ^ 63 → IntKind.i64.wrap n = n := fun n h0 h1 => by
  rw [e63] at h1
  rw [qai]
  omega
 rw [e2, bits_mask .i64 63 (by decide) hwr t (by omega) (M : Int) (by omega) (by rw [e63]; omega), e3]
 have e4 : (M : Int) % 2 ^ t = ((M % 2 ^ t : Nat) : Int) := by rw [e1]; exact (Int.natCast_emod _ _).symm
 have hlt : M % 2 ^ t < 2 ^ t := Nat.mod_lt _ hp
 rw [e4, bits_join .i64 63 (by decide) hwr t ((x * 2 ^ t : Nat) : Int) ((M % 2 ^ t : Nat) : Int) (by omega) (by rw [e1, ← Int.natCast_emod, Nat.mul_mod_left]; rfl) (by rw [e63]; omega) (by omega) (by rw [e1]; exact_mod_cast hlt) (by rw [e63]; omega)]
 omega
theorem row_next (l : List UInt8) (p k t : Nat) (hp : p ≤ k) (hq : k / 8 < l.length) (ht : k % 8 + t ≤ 8) :
  num (((yaf l).drop p).take (k + t - p)) = num (((yaf l).drop p).take (k - p)) * 2 ^ t + l[k / 8].toNat / 2 ^ (8 - k % 8 - t) % 2 ^ t := by
 have h1 := row_mid l (k / 8) (k % 8) t hq ht
 rw [Nat.div_add_mod] at h1
 rw [show k + t - p = (k - p) + t from by omega, qco, qbh, show p + (k - p) = k from by omega, h1, ycl, yab, ydf]
theorem row_bound (l : List UInt8) (p k t : Nat) (h : k - p + t ≤ 32) : num (((yaf l).drop p).take (k - p)) * 2 ^ t < 4294967296 := by
 have h1 := ye3 (l := ((yaf l).drop p).take (k - p)) (fun d hd => ycT l d (qbt (qaV hd)))
 have h2 : 2 ^ (((yaf l).drop p).take (k - p)).length ≤ 2 ^ (k - p) := qaH (by omega) (by simp; omega)
 have h3 : num (((yaf l).drop p).take (k - p)) * 2 ^ t < 2 ^ (k - p) * 2 ^ t := qb6 (by omega) (qbf (by omega))
 rw [← qbJ] at h3
 have h4 : 2 ^ (k - p + t) ≤ 2 ^ 32 := qaH (by omega) h
 rw [show (2 : Nat) ^ 32 = 4294967296 from by decide] at h4
 omega
theorem number_any (l : List UInt8) (p W g : Nat) (at0 : Int) (w : World) (hl : l.length ≤ 1099511627776) (hp : p + W ≤ 8 * l.length) (hW : W ≤ 32) (hB : Blk w g 174 #[.string ⟨l.toArray⟩, .int .i64 at0]) :
  Calls prog 170 #[.pointer (some ⟨g, 0, none⟩), .int .i64 p, .int .i64 W] w fun e w' => e = .returned (.int .i64 (num (((yaf l).drop p).take W))) ∧ ∃ k, w.drewN k = w' := by
 have hll : (l.length : Int) ≤ 1099511627776 := by omega
 have hpl : (p : Int) ≤ 8796093022208 := by omega
 have hWi : (W : Int) ≤ 32 := by omega
 go_enter func170, ntmps170
 go_wp2
 go_loopw [1, 7] (fun a n wr => ∃ k x : Nat, p ≤ k ∧ k ≤ p + W ∧ a = .int .i64 k ∧ n = .int .i64 x ∧ Hid (x = num (((yaf l).drop p).take (k - p))) ∧ Hid (∃ d, w.drewN d = wr)) (fun a _ _ => (p + W) - (intOf a).toNat)
 case atStart => exact ⟨p, 0, by omega, by omega, rfl, rfl, by rw [qcc]; rfl, 0, rfl⟩
 case round =>
  obtain ⟨k, x, hk0, hk, rfl, rfl, Hx, d, rfl⟩ := hrel
  obtain ⟨c1, c2, _, _⟩ := hB.two
  by_cases hlt : k < p + W
  ·have h1 : (k : Int) < p + W := by omega
   have hq : k / 8 < l.length := by omega
   have hqi : 0 ≤ (k : Int) / 8 ∧ (k : Int) / 8 < l.length := by omega
   have hki : (k : Int) ≤ 8796093022208 := by omega
   have hby := u8_lt l[k / 8]
   by_cases hpart : 8 - (k : Int) % 8 ≤ p + W - k
   ·have hn := row_next l p k (8 - k % 8) hk0 hq (by omega)
    have hbd := row_bound l p k (8 - k % 8) (by omega)
    have ht8 : 8 - k % 8 ≤ 8 ∧ k + (8 - k % 8) ≤ p + W ∧ 0 < 8 - k % 8 := by omega
    rw [← Hx.out] at hn hbd
    rw [show 8 - k % 8 - (8 - k % 8) = 0 from by omega, Nat.pow_zero, Nat.div_one] at hn
    have Hn := qaa hn
    have Hbd := qaa hbd
    have Ht8 := qaa ht8
    have Hby := qaa hby
    clear hn hbd ht8 hby
    go_wp2
    rw [show (8 - (k : Int) % 8) = ((8 - k % 8 : Nat) : Int) from by omega]
    generalize 8 - k % 8 = t at *
    go_quiet (fail)
    have ht9 : (t : Int) ≤ 8 := by have := Ht8.out; omega
    go_wp2
    go_roundw
    case rel =>
     have h8 := Ht8.out
     have hby := Hby.out
     refine ⟨k + t, _, by omega, by omega, iv (by omega), iv (nread x l[k / 8].toNat t _ ?_ hby h8.1 Hbd.out), Hn.out.symm, d + _, rfl⟩
     rw [yd2]
     unfold wrap64
     omega
    case measure =>
     have h8 := Ht8.out
     simp only [intOf]
     omega
   ·have hn := row_next l p k (p + W - k) hk0 hq (by omega)
    have hbd := row_bound l p k (p + W - k) (by omega)
    rw [← Hx.out] at hn hbd
    have ht8 : p + W - k ≤ 8 ∧ p + W - k ≤ 8 - k % 8 ∧ k + (p + W - k) = p + W ∧ 0 < p + W - k := by omega
    have Hn := qaa hn
    have Hbd := qaa hbd
    have Ht8 := qaa ht8
    have Hby := qaa hby
    clear hn hbd ht8 hby
    go_wp2
    rw [show (8 - (k : Int) % 8) = ((8 - k % 8 : Nat) : Int) from by omega, show ((p : Int) + W - k) = ((p + W - k : Nat) : Int) from by omega]
    have hle : (p + W - k ≤ 8 - k % 8) ∧ 8 - k % 8 ≤ 8 := by omega
    generalize 8 - k % 8 = bh at *
    generalize p + W - k = t at *
    have hws : IntKind.i64.wrap ((bh : Int) - t) = ((bh - t : Nat) : Int) := by rw [qai]; omega
    have Hle := qaa hle
    clear hle
    go_quiet (fail)
    have ht9 : (t : Int) ≤ 8 := by have := Ht8.out; omega
    go_wp2
    go_roundw
    case rel =>
     have h8 := Ht8.out
     have hby := Hby.out
     have hle := Hle.out
     have hdv : l[k / 8].toNat / 2 ^ (bh - t) ≤ l[k / 8].toNat := Nat.div_le_self _ _
     refine ⟨k + t, _, by omega, by omega, iv (by omega), iv (nread x (l[k / 8].toNat / 2 ^ (bh - t)) t _ ?_ (by omega) h8.1 Hbd.out), Hn.out.symm, d + _, rfl⟩
     rw [yd2, show min (bh - t) 64 = bh - t from by omega, show wrap64 (l[k / 8].toNat : Int) = (l[k / 8].toNat : Int) from by unfold wrap64; omega]
     norm_cast
    case measure =>
     have h8 := Ht8.out
     simp only [intOf]
     omega
  ·obtain rfl : k = p + W := by omega
   go_wp2
   go_ret
   refine ⟨qbD Ending.returned (iv ?_), d, rfl⟩
   rw [Hx.out, show p + W - p = W from by omega]
end Go.Proofs.YtanjhbkbpalnaaaGreat
