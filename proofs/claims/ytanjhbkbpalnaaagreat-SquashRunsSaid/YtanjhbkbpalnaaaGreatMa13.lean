/-
 What the law of the last of these texts stands on, part 13.
-/
import Derived.Test.YtanjhbkbpalnaaaGreatMa12
set_option maxRecDepth 100000
set_option maxHeartbeats 8000000
open Go.Proofs.Tryz
namespace Go.Proofs.YtanjhbkbpalnaaaGreat
set_option linter.unusedSimpArgs false
set_option linter.unusedVariables false
open Go.ChangeShapes Go.WideShapes Go.ChangeAt Go.RowKit Go.Joins Go.Deep
theorem yfm : ∀ l : List Int, yau l ≤ yap l ∧ yap l ≤ 16384 * yau l
 | [] => by simp [yau, yap]
 | x :: t => by
  obtain ⟨h1, h2⟩ := yfm t
  have e : yau (x :: t) = (if 0 < x then 1 else 0) + yau t := by
   unfold yau
   rw [qaG]
   by_cases h : 0 < x
   ·rw [qag (by simpa using h), qag h, qap]; omega
   ·rw [qae (by simpa using h), qae h]; omega
  rw [e]
  show _ ≤ (if 0 < x then 2 ^ (15 - x.toNat) else 0) + yap t ∧ _
  by_cases h : 0 < x
  ·rw [qag h, qag h]
   have h3 : (2 : Nat) ^ (15 - x.toNat) ≤ 2 ^ 14 := qa0 (by omega) (by omega)
   have h4 : 0 < (2 : Nat) ^ (15 - x.toNat) := qaX (by omega)
   constructor
   ·omega
   ·show (if 0 < x then 2 ^ (15 - x.toNat) else 0) + yap t ≤ _
    rw [qag h]
    omega
  ·rw [qae h, qae h]
   constructor
   ·omega
   ·show (if 0 < x then 2 ^ (15 - x.toNat) else 0) + yap t ≤ _
    rw [qae h]
    omega
theorem yfb (l : List Int) : ycI l = yat l := by
 unfold ycI yat
 by_cases h : 257 < l.length
 ·rw [qag h, qag h]
 ·rw [qae h, qae h]
  obtain ⟨h1, h2⟩ := yfm l
  unfold sumF yfM
  by_cases hg : yde l = true
  ·rw [qag hg, qag hg]
   by_cases u0 : yau l = 0
   ·rw [qag u0, qag (by omega), qag (by omega)]
   ·rw [qae u0]
    by_cases u1 : yau l = 1
    ·rw [qag u1]
     by_cases hp : (yap l : Int) = 16384
     ·rw [qag hp, qag (by omega)]
     ·rw [qae hp, qae (by omega)]
    ·rw [qae u1]
     by_cases hp : (yap l : Int) = 32768
     ·rw [qag hp, qag (by omega)]
     ·rw [qae hp, qae (by omega)]
  ·rw [qae hg, qae hg, qae (by omega)]
def yev (l : List Int) : Bool := l.all fun c => decide (0 ≤ c) && decide (c ≤ 1000000)
theorem ydh {l : List Int} (h : yev l = true) (i : Nat) (hi : i < l.length) : 0 ≤ l[i] ∧ l[i] ≤ 1000000 := by
 unfold yev at h
 rw [qbH] at h
 simpa using h l[i] (qaq hi)
theorem cgood_of {l : List Int} (h : ∀ i (hi : i < l.length), 0 ≤ l[i] ∧ l[i] ≤ 1000000) : yev l = true := by
 unfold yev
 rw [qbH]
 intro x hx
 obtain ⟨i, hi, rfl⟩ := qaJ hx
 simpa using h i hi
def yb9 (counts : List Int) (most : Int) : List Int × Int :=
 if 257 < counts.length then ([], 3) else if most < 1 ∨ 15 < most then ([], 2) else if yev counts = true then
  (if 2 ^ most.toNat < (yaa counts).length then ([], 3) else (yaq counts most.toNat, 0)) else ([], 2)
theorem ycH (counts : List Int) : (yaa counts).length ≤ counts.length := by
 have h1 := ybO counts (fun _ => 1)
 rw [ydw] at h1
 have h2 : ∀ (l : List Int) (i : Nat), isum (fun _ c => if 0 < c then 1 else 0) i l ≤ l.length := by
  intro l
  induction l with
  | nil => intro i; simp [isum]
  | cons c t ih =>
   intro i
   have := ih (i + 1)
   simp only [isum, qap]
   split <;> omega
 have := h2 counts 0
 omega
theorem yd1 {leaves : List LTh} (hl : yaP leaves) : ∀ k, (lrow leaves k).length ≤ 2 * leaves.length
 | 0 => by show leaves.length ≤ _; omega
 | k + 1 => by
  have := yd1 hl k
  rw [ygj hl k]
  omega
theorem lpacks_all {P Q : LTh → Prop} (h : ∀ a b, P a → P b → Q (yb5 a b)) : ∀ R : List LTh, (∀ x ∈ R, P x) → ∀ x ∈ yas R, Q x
 | [], _, x, hx => by cases hx
 | [_], _, x, hx => by cases hx
 | a :: b :: t, hp, x, hx => by
  rcases qaC.1 hx with rfl | hx
  ·exact h a b (hp a (by simp)) (hp b (by simp))
  ·exact lpacks_all h t (fun y hy => hp y (by simp [hy])) x hx
def LFits (n k : Nat) (x : LTh) : Prop := x.syms.length ≤ 2 ^ k ∧ 0 ≤ x.w ∧ x.w ≤ ((2 ^ k : Nat) : Int) * 1000000 ∧ ∀ s ∈ x.syms, s < n
theorem yeG (counts : List Int) (hg : yev counts = true) : ∀ k, ∀ x ∈ lrow (yaa counts) k, LFits counts.length k x
 | 0, x, h => by
  obtain ⟨j, hj, hp, rfl⟩ := (yan counts x).1 h
  have := ydh hg j hj
  refine ⟨by simp, by show 0 ≤ counts[j]; omega, by show counts[j] ≤ _; simp; omega, fun s hs => ?_⟩
  have : s = j := by simpa using hs
  omega
 | k + 1, x, h => by
  have hl := yaE counts
  have hr := yb1 hl k
  have ih := yeG counts hg k
  have h2 : (2 ^ (k + 1) : Nat) = 2 ^ k + 2 ^ k := by rw [qaR]; omega
  have hp1 : 0 < (2 ^ k : Nat) := qaX (by omega)
  cases hx : x.leaf with
  | true =>
   have h0 : x ∈ yaa counts := by rw [← hr.lv]; exact qaT.2 ⟨h, hx⟩
   obtain ⟨j, hj, hp, rfl⟩ := (yan counts x).1 h0
   have := ydh hg j hj
   refine ⟨by show 1 ≤ _; omega, by show 0 ≤ counts[j]; omega, ?_, fun s hs => ?_⟩
   ·show counts[j] ≤ _
    have : (1 : Int) * 1000000 ≤ ((2 ^ (k + 1) : Nat) : Int) * 1000000 := qco (by omega) (by omega)
    omega
   ·have : s = j := by simpa using hs
    omega
  | false =>
   refine lpacks_all (P := LFits counts.length k) ?_ (lrow (yaa counts) k) ih x (by rw [← hr.pk]; exact qaT.2 ⟨h, by simp [hx]⟩)
   rintro a b ⟨a1, a2, a3, a4⟩ ⟨b1, b2, b3, b4⟩
   refine ⟨?_, ?_, ?_, ?_⟩
   ·show (a.syms ++ b.syms).length ≤ _
    rw [qab]
    omega
   ·show 0 ≤ a.w + b.w
    omega
   ·show a.w + b.w ≤ _
    rw [h2, qbB, Int.add_mul]
    omega
   ·intro s hs
    rcases qbk.1 (show s ∈ a.syms ++ b.syms from hs) with hs | hs
    ·exact a4 s hs
    ·exact b4 s hs
def lout (n : Nat) (f : Nat → Int) : List Int := (List.range n).map f
theorem yds (n : Nat) (f : Nat → Int) : (lout n f).length = n := by simp [lout]
theorem ye2 (n : Nat) (f : Nat → Int) (s : Nat) (h : s < n) : (lout n f)[s]? = some (f s) := by simp [lout, h]
theorem lout_set (n : Nat) (f g : Nat → Int) (s : Nat) (v : Int) (hs : g s = v) (ho : ∀ t, t ≠ s → g t = f t) : (lout n f).set s v = lout n g := by
 apply qc8
 intro t
 by_cases ht : t < n
 ·rw [List.getElem?_set, ye2 n f t ht, ye2 n g t ht, yds]
  by_cases e : s = t
  ·subst e
   rw [qag rfl, qag ht, hs]
  ·rw [qae e, ho t (fun h => e h.symm)]
 ·rw [qbq (by rw [qbJ, yds]; omega), qbq (by rw [yds]; omega)]
theorem ybK (n : Nat) (f g : Nat → Int) (h : ∀ t, t < n → f t = g t) : lout n f = lout n g := by
 unfold lout
 exact qcD fun t ht => h t (qaS.1 ht)
def lfar (R : List LTh) (i k s : Nat) : Int := lsum (lhas s) (R.take i) + ((((R[i]?).map (·.syms)).getD []).take k).count s
theorem yep (R : List LTh) (i s : Nat) : lfar R i 0 s = lsum (lhas s) (R.take i) := by simp [lfar]
theorem lfar_step (R : List LTh) (i k s : Nat) (hi : i < R.length) (hk : k < R[i].syms.length) : lfar R i (k + 1) s = lfar R i k s + if s = R[i].syms[k] then 1 else 0 := by
 unfold lfar
 rw [qah hi]
 simp only [qbR, qbG]
 rw [qat hk, List.count_append, List.count_singleton]
 by_cases e : s = R[i].syms[k]
 ·rw [qag e, qag (by simp [e])]; omega
 ·rw [qae e, qae (by simpa using fun h => e h.symm)]; omega
theorem lfar_end (R : List LTh) (i s : Nat) (hi : i < R.length) : lfar R i R[i].syms.length s = lsum (lhas s) (R.take (i + 1)) := by
 unfold lfar
 rw [qah hi]
 simp only [qbR, qbG, qbT]
 rw [qat hi, ycJ]
 simp [lsum, lhas]
theorem ydQ (counts : List Int) (most : Nat) (h : (yaa counts).length ≠ 1) : yaq counts most = lout counts.length (fun s => lsum (lhas s) (yfE counts most)) := by
 unfold yaq
 rw [qae h]
 rfl
theorem lbestL_one (counts : List Int) (most s : Nat) (h : (yaa counts).length = 1) (hs : ((yaa counts)[0]'(by omega)).syms = [s]) : s < counts.length ∧ (lout counts.length (fun _ => 0)).set s 1 = yaq counts most := by
 obtain ⟨j, hj, hp, e⟩ := (yan counts _).1 (qaq (show 0 < (yaa counts).length by omega))
 have hjs : j = s := by
  rw [e] at hs
  simpa using hs
 subst hjs
 refine ⟨hj, ?_⟩
 rw [lout_set counts.length (fun _ => 0) (fun t => if t = j then 1 else 0) j 1 (by simp) (fun t ht => qae ht)]
 unfold yaq
 rw [qag h]
 apply qaY
 ·simp [lout]
 ·intro t h1 h2
  have ht : t < counts.length := by simpa using h2
  simp only [lout, qaQ, qbd]
  by_cases e2 : t = j
  ·subst e2
   rw [qag rfl, qag hp]
  ·rw [qae e2, qae ?_]
   intro hp2
   obtain ⟨r, hr, e3⟩ := qaJ ((yan counts ⟨counts[t], [t], true⟩).2 ⟨t, ht, hp2, rfl⟩)
   obtain rfl : r = 0 := by omega
   rw [e] at e3
   injection e3 with _ e4 _
   injection e4 with e4 _
   exact e2 e4.symm
def cterm (c l : Int) : Int := if 0 ≤ c ∧ c ≤ 1000000 ∧ 0 ≤ l ∧ l ≤ 15 then c * l else 0
def ccost : List Int → List Int → Int
 | c :: t, l :: u => cterm c l + ccost t u
 | _, _ => 0
def yhr (counts lens : List Int) : Int := ccost (counts.take 257) (lens.take 257)
theorem yex (a b : List Int) (h : a = [] ∨ b = []) : ccost a b = 0 := by
 rcases h with rfl | rfl
 ·cases b <;> rfl
 ·cases a <;> rfl
theorem yd3 (f : Nat → Int) : ∀ (counts l : List Int) (i : Nat), l.length = counts.length → (∀ j (hl : j < l.length), l[j] = f (i + j)) → (∀ j (hl : j < l.length) (hc : j < counts.length), 0 < l[j] ↔ 0 < counts[j]) →
  (yap l : Int) = isum (fun j c => if 0 < c then ((2 ^ (15 - (f j).toNat) : Nat) : Int) else 0) i counts
 | [], [], i, _, _, _ => rfl
 | [], y :: l, i, h, _, _ => by simp at h
 | c :: t, [], i, h, _, _ => by simp at h
 | c :: t, y :: l, i, h, hf, hp => by
  have ih := yd3 f t l (i + 1) (by simpa using h) (fun j hl => by
   have := hf (j + 1) (by simpa using hl)
   rw [show i + (j + 1) = i + 1 + j from by omega] at this
   simpa using this) (fun j hl hc => hp (j + 1) (by simpa using hl) (by simpa using hc))
  have h0 := hf 0 (by simp)
  have p0 := hp 0 (by simp) (by simp)
  simp only [qaE, qbv] at h0 p0
  show (((if 0 < y then 2 ^ (15 - y.toNat) else 0) + yap l : Nat) : Int) = (if 0 < c then ((2 ^ (15 - (f i).toNat) : Nat) : Int) else 0) + isum _ (i + 1) t
  rw [qbB, ih, ← h0]
  by_cases hc : 0 < c
  ·rw [qag hc, qag (p0.2 hc)]
  ·rw [qae hc, qae (fun h => hc (p0.1 h))]
   rfl
theorem usedF_isum : ∀ (counts l : List Int) (i : Nat), l.length = counts.length → (∀ j (hl : j < l.length) (hc : j < counts.length), 0 < l[j] ↔ 0 < counts[j]) →
  (yau l : Int) = isum (fun _ c => if 0 < c then 1 else 0) i counts
 | [], [], i, _, _ => rfl
 | [], y :: l, i, h, _ => by simp at h
 | c :: t, [], i, h, _ => by simp at h
 | c :: t, y :: l, i, h, hp => by
  have ih := usedF_isum t l (i + 1) (by simpa using h) (fun j hl hc => hp (j + 1) (by simpa using hl) (by simpa using hc))
  have p0 := hp 0 (by simp) (by simp)
  simp only [qaE] at p0
  have e : yau (y :: l) = (if 0 < y then 1 else 0) + yau l := by
   unfold yau
   rw [qaG]
   by_cases h : 0 < y
   ·rw [qag (by simpa using h), qag h, qap]; omega
   ·rw [qae (by simpa using h), qae h]; omega
  show (yau (y :: l) : Int) = (if 0 < c then 1 else 0) + isum _ (i + 1) t
  rw [e, qbB, ih]
  by_cases hc : 0 < c
  ·rw [qag hc, qag (p0.2 hc)]; rfl
  ·rw [qae hc, qae (fun h => hc (p0.1 h))]; rfl
theorem ydv (f : Nat → Int) (counts l : List Int) (hn : counts.length ≤ 257) (hl : l.length = counts.length) (hf : ∀ j (h : j < l.length), l[j] = f j) (hc : ∀ j (h : j < counts.length), 0 ≤ counts[j] ∧ counts[j] ≤ 1000000) (hb : ∀ j (h : j < l.length), 0 ≤ l[j] ∧ l[j] ≤ 15) :
  yhr counts l = isum (fun j c => c * f j) 0 counts := by
 unfold yhr
 rw [qar (by omega), qar (by omega)]
 have : ∀ (counts l : List Int) (i : Nat), l.length = counts.length → (∀ j (h : j < l.length), l[j] = f (i + j)) → (∀ j (h : j < counts.length), 0 ≤ counts[j] ∧ counts[j] ≤ 1000000) → (∀ j (h : j < l.length), 0 ≤ l[j] ∧ l[j] ≤ 15) → ccost counts l = isum (fun j c => c * f j) i counts := by
  intro counts
  induction counts with
  | nil => intro l i h _ _ _; cases l <;> rfl
  | cons c t ih =>
   intro l i h h1 h2 h3
   cases l with
   | nil => simp at h
   | cons y l =>
    have e := ih l (i + 1) (by simpa using h) (fun j hj => by
     have := h1 (j + 1) (by simpa using hj)
     rw [show i + (j + 1) = i + 1 + j from by omega] at this
     simpa using this) (fun j hj => h2 (j + 1) (by simpa using hj)) (fun j hj => h3 (j + 1) (by simpa using hj))
    have a1 := h1 0 (by simp)
    have a2 := h2 0 (by simp)
    have a3 := h3 0 (by simp)
    simp only [qaE, qbv] at a1 a2 a3
    show cterm c y + ccost t l = c * f i + isum _ (i + 1) t
    rw [e, ← a1]
    unfold cterm
    rw [qag ⟨a2.1, a2.2, a3.1, a3.2⟩]
 exact this counts l 0 hl (fun j h => by rw [qaz]; exact hf j h) hc hb
theorem isum_le {g h : Nat → Int → Int} : ∀ (l : List Int) (i : Nat), (∀ j (hj : j < l.length), g (i + j) l[j] ≤ h (i + j) l[j]) → isum g i l ≤ isum h i l
 | [], _, _ => Int.le_refl _
 | c :: t, i, e => by
  have h0 := e 0 (by simp)
  have ih : isum g (i + 1) t ≤ isum h (i + 1) t := isum_le t (i + 1) fun j hj => by
   have e2 := e (j + 1) (by simpa using hj)
   rw [show i + (j + 1) = i + 1 + j from by omega] at e2
   simpa using e2
  simp only [qbv, qaE] at h0
  show g i c + isum g (i + 1) t ≤ h i c + isum h (i + 1) t
  omega
theorem yfU (a : Int) (g : Nat → Int → Int) : ∀ (l : List Int) (i : Nat), isum (fun j c => a * g j c) i l = a * isum g i l
 | [], _ => by simp [isum]
 | c :: t, i => by
  have ih := yfU a g t (i + 1)
  simp only [isum, ih, Int.mul_add]
theorem yeK (counts : List Int) (i : Nat) : isum (fun _ c => if 0 < c then 1 else 0) i counts = ((yaa counts).length : Int) := by
 have h := ybO counts (fun _ => 1)
 rw [ydw] at h
 have e : ∀ (l : List Int) (i j : Nat), isum (fun _ c => if 0 < c then (1 : Int) else 0) i l = isum (fun _ c => if 0 < c then 1 else 0) j l := by
  intro l
  induction l with
  | nil => intro i j; rfl
  | cons c t ih => intro i j; simp only [isum]; rw [ih (i + 1) (j + 1)]
 rw [e counts i 0]
 exact h.symm
theorem lpow_split (L : Nat) (hL : L ≤ 15) (x : Nat) (hx : x ≤ L) : (2 ^ (15 - x) : Nat) = 2 ^ (15 - L) * 2 ^ (L - x) := by
 rw [← qbF]
 congr 1
 omega
theorem lpow_all (L : Nat) (hL : L ≤ 15) : (32768 : Nat) = 2 ^ (15 - L) * 2 ^ L := by
 rw [← qbF, show 15 - L + L = 15 from by omega]
section
variable {counts : List Int} {L : Nat}
theorem ybv (h : (yaa counts).length ≠ 1) (j : Nat) (hj : j < (yaq counts L).length) : (yaq counts L)[j] = llen counts L j := by
 have e : yaq counts L = lout counts.length (fun s => llen counts L s) := by rw [ydQ counts L h]; rfl
 have h2 : (yaq counts L)[j]? = some (llen counts L j) := by
  rw [e, ye2 _ _ _ (by rw [ydD] at hj; exact hj)]
 rw [qah hj] at h2
 injection h2
theorem ybu (h : (yaa counts).length = 1) (j : Nat) (hj : j < (yaq counts L).length) : (yaq counts L)[j] = if 0 < counts[j]'(by rw [ydD] at hj; exact hj) then 1 else 0 := by
 have e : yaq counts L = counts.map (fun c => if 0 < c then 1 else 0) := by unfold yaq; rw [qag h]
 simp only [e, qaQ]
structure LGoodB (counts l : List Int) (L : Nat) : Prop where
 len : l.length = counts.length
 pos : ∀ j (hl : j < l.length) (hc : j < counts.length), 0 < l[j] ↔ 0 < counts[j]
 rng : ∀ j (hl : j < l.length), 0 ≤ l[j] ∧ l[j] ≤ L
 falls : ∀ i j (hi : i < l.length) (hj : j < l.length) (hi' : i < counts.length) (hj' : j < counts.length), counts[j] < counts[i] → 0 < counts[j] → l[i] ≤ l[j]
theorem yea (hL : 1 ≤ L ∧ L ≤ 15) (hg : yev counts = true) (hm : (yaa counts).length ≤ 2 ^ L) : LGoodB counts (yaq counts L) L := by
 have hlen := ydD counts L
 obtain ⟨k, rfl⟩ : ∃ k, L = k + 1 := ⟨L - 1, by omega⟩
 by_cases h1 : (yaa counts).length = 1
 ·refine ⟨hlen, fun j hl hc => ?_, fun j hl => ?_, fun i j hi hj hi' hj' hlt h0 => ?_⟩
  ·rw [ybu h1 j hl]
   by_cases h : 0 < counts[j]
   ·rw [qag h]; simp [h]
   ·rw [qae h]; simp [h]
  ·rw [ybu h1 j hl]
   split <;> omega
  ·rw [ybu h1 i hi, ybu h1 j hj, qag (show 0 < counts[i] by omega), qag h0]
   exact Int.le_refl _
 ·by_cases h2 : 2 ≤ (yaa counts).length
  ·refine ⟨hlen, fun j hl hc => ?_, fun j hl => ?_, fun i j hi hj hi' hj' hlt h0 => ?_⟩
   ·rw [ybv h1 j hl]
    constructor
    ·intro h
     rcases Int.lt_or_le 0 counts[j] with e | e
     ·exact e
     ·have := ygX (counts := counts) (k + 1) j fun _ => e
      omega
    ·intro h
     have := (yhd h2 hm j hc h).1
     omega
   ·rw [ybv h1 j hl]
    have hc : j < counts.length := by omega
    rcases Int.lt_or_le 0 counts[j] with e | e
    ·have := yhd h2 hm j hc e
     omega
    ·have := ygX (counts := counts) (k + 1) j fun _ => e
     omega
   ·rw [ybv h1 i hi, ybv h1 j hj]
    exact llen_falls h2 hm i j hi' hj' hlt h0
  ·have hno : ∀ j (hj : j < counts.length), ¬ 0 < counts[j] := fun j hj hp => by
    have := (yan counts ⟨counts[j], [j], true⟩).2 ⟨j, hj, hp, rfl⟩
    have := List.length_pos_of_mem this
    omega
   have hz : ∀ j (hj : j < (yaq counts (k + 1)).length), (yaq counts (k + 1))[j] = 0 := fun j hj => by
    rw [ybv h1 j hj]
    exact ygX (counts := counts) (k + 1) j fun hs => by have := hno j hs; omega
   refine ⟨hlen, fun j hl hc => ?_, fun j hl => ?_, fun i j hi hj hi' hj' hlt h0 => absurd h0 (hno j hj')⟩
   ·rw [hz j hl]
    have := hno j hc
    omega
   ·rw [hz j hl]; omega
theorem lbestL_check (hL : 1 ≤ L ∧ L ≤ 15) (hg : yev counts = true) (hm : (yaa counts).length ≤ 2 ^ L) (hn : counts.length ≤ 257) : ycI (yaq counts L) = 0 := by
 have hG := yea hL hg hm
 have hused := usedF_isum counts (yaq counts L) 0 hG.len hG.pos
 rw [yeK] at hused
 have hu2 := yfm (yaq counts L)
 have hlg : yde (yaq counts L) = true := lgood_of fun i hi => by have := hG.rng i hi; omega
 unfold ycI
 rw [qae (by rw [hG.len]; omega), qag hlg]
 obtain ⟨k, rfl⟩ : ∃ k, L = k + 1 := ⟨L - 1, by omega⟩
 by_cases h1 : (yaa counts).length = 1
 ·have hp := yd3 (fun j => (yaq counts (k + 1))[j]?.getD 0) counts (yaq counts (k + 1)) 0 hG.len (fun j hl => by rw [qaz, qah hl]; rfl) hG.pos
  rw [yaO (h := fun j c => 16384 * (if 0 < c then 1 else 0)) counts 0 fun j hj => ?_, yfU, yeK, h1] at hp
  ·have hfu : yfM (yau (yaq counts (k + 1))) = 16384 := by
    unfold yfM
    rw [qae (by omega), qag (by omega)]
   rw [hfu, qag (by omega)]
  ·have hj2 : j < (yaq counts (k + 1)).length := by rw [hG.len]; exact hj
   rw [qaz]
   by_cases h0 : 0 < counts[j]
   ·rw [qag h0, qag h0, qah hj2, ybu h1 j hj2, qag h0]
    decide
   ·rw [qae h0, qae h0]; decide
 ·by_cases h2 : 2 ≤ (yaa counts).length
  ·have hp := yd3 (fun j => llen counts (k + 1) j) counts (yaq counts (k + 1)) 0 hG.len (fun j hl => by rw [qaz]; exact ybv h1 j hl) hG.pos
   rw [yaO (h := fun j c => ((2 ^ (15 - (k + 1)) : Nat) : Int) * (if 0 < c then ((2 ^ (k + 1 - (llen counts (k + 1) j).toNat) : Nat) : Int) else 0)) counts 0 fun j hj => ?_, yfU, llen_full h2 hm] at hp
   ·have h3 := lpow_all (k + 1) hL.2
    have h4 : (yap (yaq counts (k + 1)) : Int) = 32768 := by rw [hp, ← qcm, ← h3]; rfl
    have hfu : yfM (yau (yaq counts (k + 1))) = 32768 := by
     unfold yfM
     rw [qae (by omega), qae (by omega)]
    rw [hfu, qag h4]
   ·rw [qaz]
    by_cases h0 : 0 < counts[j]
    ·rw [qag h0, qag h0]
     have := yhd h2 hm j hj h0
     rw [lpow_split (k + 1) hL.2 (llen counts (k + 1) j).toNat (by omega), qcm]
    ·rw [qae h0, qae h0, Int.mul_zero]
  ·have hfu : yfM (yau (yaq counts (k + 1))) = 0 := by
    unfold yfM
    rw [qag (by omega)]
   rw [hfu, qag (by omega)]
theorem lbestL_least (hL : 1 ≤ L ∧ L ≤ 15) (hg : yev counts = true) (hm : (yaa counts).length ≤ 2 ^ L) (hn : counts.length ≤ 257) (own : List Int) (hl : own.length = counts.length)
  (hr : ∀ j (h : j < own.length), 0 ≤ own[j] ∧ own[j] ≤ L) (hp : ∀ j (h : j < own.length) (hc : j < counts.length), 0 < own[j] ↔ 0 < counts[j]) (hs : (yap own : Int) ≤ 32768) : yhr counts (yaq counts L) ≤ yhr counts own := by
 have hG := yea hL hg hm
 have hc := fun j hj => ydh hg j hj
 obtain ⟨f, hf⟩ : ∃ f : Nat → Int, f = fun j => own[j]?.getD 0 := ⟨_, rfl⟩
 have hfo : ∀ j (h : j < own.length), own[j] = f j := fun j h => by rw [hf]; simp only [qah h]; rfl
 have co := ydv f counts own hn hl hfo hc (fun j h => by have := hr j h; omega)
 rw [co]
 obtain ⟨k, rfl⟩ : ∃ k, L = k + 1 := ⟨L - 1, by omega⟩
 by_cases h1 : (yaa counts).length = 1
 ·have cb := ydv (fun j => (yaq counts (k + 1))[j]?.getD 0) counts (yaq counts (k + 1)) hn hG.len (fun j h => by simp only [qah h]; rfl) hc (fun j h => by have := hG.rng j h; omega)
  rw [cb]
  refine isum_le counts 0 fun j hj => ?_
  have hj2 : j < (yaq counts (k + 1)).length := by rw [hG.len]; exact hj
  have hj3 : j < own.length := by omega
  rw [qaz, qah hj2, ybu h1 j hj2, ← hfo j hj3]
  have h0 := (hc j hj).1
  by_cases h : 0 < counts[j]
  ·rw [qag h]
   have := (hp j hj3 hj).2 h
   exact Int.mul_le_mul_of_nonneg_left (by show (1 : Int) ≤ own[j]; omega) h0
  ·rw [qae h, show counts[j] = 0 from by omega]
   simp
 ·have cb := ydv (fun j => llen counts (k + 1) j) counts (yaq counts (k + 1)) hn hG.len (fun j h => ybv h1 j h) hc (fun j h => by have := hG.rng j h; omega)
  rw [cb]
  by_cases h2 : 2 ≤ (yaa counts).length
  ·refine llen_least h2 (fun j hj => (hc j hj).1) f (fun j hj h0 => ?_) ?_
   ·rw [← hfo j (by omega)]
    exact hr j (by omega)
   ·have hpo := yd3 f counts own 0 hl (fun j h => by rw [qaz]; exact hfo j h) hp
    rw [yaO (h := fun j c => ((2 ^ (15 - (k + 1)) : Nat) : Int) * (if 0 < c then ((2 ^ (k + 1 - (f j).toNat) : Nat) : Int) else 0)) counts 0 fun j hj => ?_, yfU] at hpo
    ·have h3 := lpow_all (k + 1) hL.2
     have h4 : 0 < (2 ^ (15 - (k + 1)) : Nat) := qaX (by omega)
     have h5 : ((2 ^ (15 - (k + 1)) : Nat) : Int) * isum (fun j c => if 0 < c then ((2 ^ (k + 1 - (f j).toNat) : Nat) : Int) else 0) 0 counts ≤ ((2 ^ (15 - (k + 1)) : Nat) : Int) * ((2 ^ (k + 1) : Nat) : Int) := by
      rw [← hpo, ← qcm, ← h3]
      exact hs
     exact Int.le_of_mul_le_mul_left h5 (by omega)
    ·rw [qaz]
     by_cases h0 : 0 < counts[j]
     ·rw [qag h0, qag h0]
      have := hr j (by omega)
      rw [hfo j (by omega)] at this
      rw [lpow_split (k + 1) hL.2 (f j).toNat (by omega), qcm]
     ·rw [qae h0, qae h0, Int.mul_zero]
  ·refine isum_le counts 0 fun j hj => ?_
   have hno : ¬ 0 < counts[j] := fun hp2 => by
    have := (yan counts ⟨counts[j], [j], true⟩).2 ⟨j, hj, hp2, rfl⟩
    have := List.length_pos_of_mem this
    omega
   rw [show counts[j] = 0 from by have := (hc j hj).1; omega]
   simp
end
theorem ydl {l : List Int} (h : yat l = 0) : l.length ≤ 257 ∧ yde l = true := by
 unfold yat at h
 by_cases h1 : 257 < l.length
 ·rw [qag h1] at h; cases h
 ·rw [qae h1] at h
  refine ⟨by omega, ?_⟩
  cases hg : yde l with
  | true => rfl
  | false =>
   unfold sumF at h
   rw [hg] at h
   rw [qae (by simp)] at h
   cases h
theorem bget_four {L : List Nat} (to : Nat) (x : Int) (T : List Nat) (hx : 0 ≤ x ∧ x ≤ 15) (h : L.drop to = digI x 4 ++ T) : ybq L to 4 = (x, 0) := by
 have hl := qbC List.length h
 have hd : (digI x 4).length = 4 := by unfold digI; rw [yad]; rfl
 rw [qas, qab, hd] at hl
 unfold ybq
 rw [qae (by omega), qae (by omega), qan, h, show (4 : Int).toNat = 4 from rfl, qbh (by omega), qar (by omega)]
 unfold digI
 rw [show (4 : Int).toNat = 4 from rfl, ycL, qcJ (by show _ < 16; omega)]
 congr 1
 omega
theorem tget_back (L : List Nat) (l : List Int) (h15 : ∀ i (h : i < l.length), 0 ≤ l[i] ∧ l[i] ≤ 15) (hl : l.length ≤ 257) (T : List Nat) : ∀ (f i to : Nat) (last : Int), i ≤ l.length → l.length - i < f → (∀ hi : i < l.length, l[i] ≠ last) → L.drop to = yaw (l.drop i) ++ T → ycn L l.length f to last (l.take i) = (l, to + (yaw (l.drop i)).length, 0)
 | 0, i, to, last, hi, hf, _, _ => by omega
 | f + 1, i, to, last, hi, hf, hlast, hL => by
  rw [yc2, qao, qbf hi]
  by_cases hn : l.length ≤ i
  ·rw [qag hn, qaH hn, qar hn]
   rfl
  ·rw [qae hn]
   have hil : i < l.length := by omega
   obtain ⟨k, h1, h2, h3, h4⟩ := trun_end l (l.length - i) i hil (qad _)
   have hb := tbits_at l l[i] i k h1 h2 h3 h4
   have hx := h15 i hil
   obtain ⟨x, hxe⟩ : ∃ x, l[i] = x := ⟨_, rfl⟩
   rw [hxe] at hb hx h3 h4
   have hne := hlast hil
   rw [hxe] at hne
   obtain ⟨d, hd⟩ : ∃ d, k - i = d := ⟨_, rfl⟩
   rw [hd] at hb
   rw [hb] at hL ⊢
   unfold trb at hL ⊢
   rw [qam, qam] at hL
   have g1 := bget_four to x _ hx hL
   have g2 : L.drop (to + 4) = gam d ++ (yaw (l.drop k) ++ T) := by
    rw [← qbt, hL, qaW (by unfold digI; rw [yad]; exact qad _), qaH (by unfold digI; rw [yad]; exact qad _), qbc]
   obtain ⟨g3, g4⟩ := yg6 d (yaw (l.drop k) ++ T) (by omega) (by omega)
   have g5 : l.take i ++ List.replicate d x = l.take k := by
    have := yg5 l x i d (by omega) fun j hj a b => h3 j hj a (by omega)
    rw [show k = i + d from by omega, qcH, this, qcd (by simp)]
   have g6 : L.drop (to + 4 + (gam d).length) = yaw (l.drop k) ++ T := by
    rw [← qbt, g2, qaW (qad _), qaH (qad _), qbc]
   rw [g1, g2, g3]
   dsimp only
   rw [qae (by decide), qae (by decide), qae hne, qae (by omega), qan, g5, ← g4, tget_back L l h15 hl T f k _ x h2 (by omega) (fun hk => h4 hk) g6]
   congr 2
   rw [qab, qab]
   unfold digI
   rw [yad]
   show to + 4 + _ + _ = to + (4 + _ + _)
   omega
theorem bget_facts {L : List Nat} (hb : Bin L) (to : Nat) (x e : Int) (h : ybq L to 4 = (x, e)) : (e = 0 ∧ to + 4 ≤ L.length ∧ 0 ≤ x ∧ x ≤ 15) ∨ (e = 4 ∧ x = 0) := by
 unfold ybq at h
 rw [qae (by omega)] at h
 by_cases a : (to : Int) + 4 > L.length
 ·rw [qag a] at h
  simp only [qb8] at h
  exact qaI ⟨h.2.symm, h.1.symm⟩
 ·rw [qae a] at h
  simp only [qb8] at h
  left
  have h1 := ydN (l := (L.drop ((to : Int)).toNat).take (4 : Int).toNat) fun d hd => hb d (qbg (qaN hd))
  have h2 : (2 : Nat) ^ ((L.drop ((to : Int)).toNat).take (4 : Int).toNat).length ≤ 2 ^ 4 := qa0 (by omega) (by rw [qao]; exact Nat.min_le_left _ _)
  have h3 : (2 : Nat) ^ 4 = 16 := by decide
  obtain ⟨h4, h5⟩ := h
  refine ⟨h5.symm, by omega, by omega, by omega⟩
theorem ungam_facts {R : List Nat} (hb : Bin R) (c e : Int) (s : Nat) (h : ybr R = (c, s, e)) : (e = 0 ∧ 1 ≤ c ∧ c < 4294967296 ∧ s ≤ R.length) ∨ (e = 4 ∨ e = 40) := by
 by_cases he : e = 0
 ·subst he
  obtain ⟨h1, h2, h3, _⟩ := ungam_take hb c s h
  exact qay ⟨rfl, h2, h3, h1⟩
 ·right
  unfold ybr at h
  split at h
  ·simp only [qb8] at h; omega
  ·split at h
   ·simp only [qb8] at h; omega
   ·split at h
    ·simp only [qb8] at h; omega
    ·simp only [qb8] at h; omega
def dg : Nat → Nat → List UInt8
 | 0, _ => []
 | f + 1, n => if n < 128 then [UInt8.ofNat n] else UInt8.ofNat (128 + n % 128) :: dg f (n / 128)
def putB (n : Int) : List UInt8 := if n < 0 then [] else dg 9 n.toNat
def putE (n : Int) : Int := if n < 0 then 2 else 0
def sizeF (n : Int) : Int := (putB n).length
def val : List UInt8 → Nat
 | [] => 0
 | b :: t => b.toNat % 128 + 128 * val t
def lead : List UInt8 → Nat
 | [] => 0
 | b :: t => if 128 ≤ b.toNat then lead t + 1 else 0
def getR (l : List UInt8) : Int × Nat × Int :=
 if 9 ≤ lead l then (0, 0, 5) else if lead l = l.length then (0, 0, 4) else if 0 < lead l ∧ l.getD (lead l) 0 = 0 then (0, 0, 5) else ((val (l.take (lead l + 1)) : Int), lead l + 1, 0)
def getF (l : List UInt8) (p : Int) : Int × Int × Int :=
 if 0 ≤ p ∧ p ≤ l.length then (if (getR (l.drop p.toNat)).2.2 = 0 then ((getR (l.drop p.toNat)).1, p + (getR (l.drop p.toNat)).2.1, 0) else (0, 0, (getR (l.drop p.toNat)).2.2)) else (0, 0, 2)
theorem dg_le : ∀ f n, (dg f n).length ≤ f
 | 0, _ => qad _
 | f + 1, n => by
  unfold dg
  split
  ·simp
  ·have := dg_le f (n / 128); simp; omega
theorem dg_pos (f n : Nat) : 0 < (dg (f + 1) n).length := by
 unfold dg
 split <;> simp
theorem lead_le : ∀ l, lead l ≤ l.length
 | [] => qad _
 | b :: t => by
  have := lead_le t
  unfold lead
  split <;> simp <;> omega
theorem lead_at : ∀ (l : List UInt8) (j : Nat) (h : j < lead l), 128 ≤ (l[j]'(qaZ h (lead_le l))).toNat
 | [], j, h => by simp [lead] at h
 | b :: t, 0, h => by
  unfold lead at h
  split at h
  ·assumption
  ·simp at h
 | b :: t, j + 1, h => by
  unfold lead at h
  split at h
  ·simpa using lead_at t j (by omega)
  ·simp at h
theorem lead_end : ∀ (l : List UInt8) (h : lead l < l.length), (l[lead l]'h).toNat < 128
 | [], h => by simp at h
 | b :: t, h => by
  by_cases hb : 128 ≤ b.toNat
  ·have e : lead (b :: t) = lead t + 1 := by simp [lead, hb]
   have ht : lead t < t.length := by rw [e] at h; simpa using h
   have := lead_end t ht
   simp only [e, qb7]
   exact this
  ·have e : lead (b :: t) = 0 := by simp [lead, hb]
   simp only [e, qaE]
   omega
theorem lead_is (l : List UInt8) (k : Nat) (hk : k ≤ lead l) (h : k < l.length) (hb : (l[k]'h).toNat < 128) : lead l = k := by
 rcases qbe k (lead l) with hlt | hge
 ·have := lead_at l k hlt; omega
 ·omega
theorem lead_more (l : List UInt8) (k : Nat) (hk : k ≤ lead l) (h : k < l.length) (hb : 128 ≤ (l[k]'h).toNat) : k + 1 ≤ lead l := by
 rcases qbe k (lead l) with hlt | hge
 ·omega
 ·have e : lead l = k := by omega
  have hh : lead l < l.length := by omega
  have := lead_end l hh
  simp only [e] at this
  omega
theorem val_lt : ∀ l, val l < 128 ^ l.length
 | [] => by simp [val]
 | b :: t => by
  have := val_lt t
  have hb := Nat.mod_lt b.toNat (by omega : 0 < 128)
  simp only [val, qap, qaR]
  omega
theorem val_snoc : ∀ (l : List UInt8) (b : UInt8), val (l ++ [b]) = val l + 128 ^ l.length * (b.toNat % 128)
 | [], b => by simp [val]
 | a :: t, b => by
  simp only [qb3, val, val_snoc t b, qap, qaR]
  rw [Nat.mul_add, ← qcl, qb6 128 (128 ^ t.length)]
  omega
theorem yfZ (l : List UInt8) (k : Nat) (h : k < l.length) : val (l.take (k + 1)) = val (l.take k) + 128 ^ k * ((l[k]'h).toNat % 128) := by
 rw [qat h, val_snoc]
 simp [qbf (Nat.le_of_lt h)]
theorem dg_val : ∀ (f n : Nat), n < 128 ^ f → val (dg f n) = n
 | 0, n, h => by simp at h; subst h; rfl
 | f + 1, n, h => by
  unfold dg
  split
  ·rename_i h1
   simp only [val, yaz n (by omega)]
   omega
  ·have hd : n / 128 < 128 ^ f := by rw [qbE (by omega)]; rw [qaR] at h; exact h
   simp only [val, yaz (128 + n % 128) (by omega), dg_val f _ hd]
   omega
theorem dg_lead : ∀ (f n : Nat) (rest : List UInt8), n < 128 ^ (f + 1) → lead (dg (f + 1) n ++ rest) = (dg (f + 1) n).length - 1
 | f, n, rest, h => by
  by_cases h1 : n < 128
  ·have e : dg (f + 1) n = [UInt8.ofNat n] := by simp [dg, h1]
   rw [e]
   simp [lead, yaz n (by omega)]
   omega
  ·have e : dg (f + 1) n = UInt8.ofNat (128 + n % 128) :: dg f (n / 128) := by simp [dg, h1]
   cases f with
   | zero => simp at h; omega
   | succ f =>
    have hd : n / 128 < 128 ^ (f + 1) := by rw [qbE (by omega)]; rw [qaR] at h; exact h
    have ih := dg_lead f (n / 128) rest hd
    have hp := dg_pos f (n / 128)
    rw [e, qb3]
    simp only [lead, yaz (128 + n % 128) (by omega), ih, qap]
    rw [qag (by omega)]
    omega
theorem dg_last : ∀ (f n : Nat), n < 128 ^ (f + 1) → 1 < (dg (f + 1) n).length → (dg (f + 1) n).getLast? ≠ some 0
 | f, n, h, hl => by
  by_cases h1 : n < 128
  ·simp [dg, h1] at hl
  ·have e : dg (f + 1) n = UInt8.ofNat (128 + n % 128) :: dg f (n / 128) := by simp [dg, h1]
   cases f with
   | zero => simp at h; omega
   | succ f =>
    have hd : n / 128 < 128 ^ (f + 1) := by rw [qbE (by omega)]; rw [qaR] at h; exact h
    have hp := dg_pos f (n / 128)
    rw [e]
    obtain ⟨a, t, ht⟩ : ∃ a t, dg (f + 1) (n / 128) = a :: t := by
     cases hx : dg (f + 1) (n / 128) with
     | nil => rw [hx] at hp; simp at hp
     | cons a t => exact ⟨a, t, rfl⟩
    rw [ht, List.getLast?_cons_cons, ← ht]
    by_cases h2 : n / 128 < 128
    ·have e2 : dg (f + 1) (n / 128) = [UInt8.ofNat (n / 128)] := by simp [dg, h2]
     rw [e2]
     simp only [List.getLast?_singleton, ne_eq, qch]
     intro hz
     have := qbC UInt8.toNat hz
     rw [yaz _ (by omega)] at this
     simp at this
     omega
    ·refine dg_last f (n / 128) hd ?_
     have e2 : dg (f + 1) (n / 128) = UInt8.ofNat (128 + n / 128 % 128) :: dg f (n / 128 / 128) := by simp [dg, h2]
     cases f with
     | zero => simp at hd; omega
     | succ f => rw [e2]; have := dg_pos f (n / 128 / 128); simp; omega
theorem pow9 : (128 : Nat) ^ 9 = 9223372036854775808 := by decide
theorem getR_put (n : Nat) (rest : List UInt8) (h : n < 9223372036854775808) : getR (dg 9 n ++ rest) = ((n : Int), (dg 9 n).length, 0) := by
 rw [← pow9] at h
 have hl : lead (dg 9 n ++ rest) = (dg 9 n).length - 1 := dg_lead 8 n rest h
 have hp : 0 < (dg 9 n).length := dg_pos 8 n
 have hle := dg_le 9 n
 unfold getR
 rw [hl]
 have hlen : (dg 9 n ++ rest).length = (dg 9 n).length + rest.length := qab
 rw [qae (by omega), qae (by omega)]
 have hx : (dg 9 n ++ rest).getD ((dg 9 n).length - 1) 0 = (dg 9 n).getLast?.getD 0 := by
  rw [List.getLast?_eq_getElem?, qaj, qbN (by omega)]
 have hz : ¬ (0 < (dg 9 n).length - 1 ∧ (dg 9 n ++ rest).getD ((dg 9 n).length - 1) 0 = 0) := by
  rintro ⟨h1, h2⟩
  have hne : (dg 9 n).getLast? ≠ some 0 := dg_last 8 n h (by show 1 < (dg 9 n).length; omega)
  rw [hx] at h2
  cases hg : (dg 9 n).getLast? with
  | none => simp at hg; rw [hg] at hp; simp at hp
  | some b => rw [hg] at h2 hne; simp at h2; exact hne (by rw [h2])
 rw [qae hz, show (dg 9 n).length - 1 + 1 = (dg 9 n).length from by omega, qcd rfl, dg_val 9 n h]
theorem getF_put (pre rest : List UInt8) (n : Nat) (h : n < 9223372036854775808) : getF (pre ++ (dg 9 n ++ rest)) pre.length = ((n : Int), (pre.length : Int) + (dg 9 n).length, 0) := by
 unfold getF
 rw [qag ⟨by omega, by rw [qab]; omega⟩, qan, qbK rfl, getR_put n rest h]
 simp
theorem dg_of_lead : ∀ (f : Nat) (l : List UInt8), lead l < f + 1 → (h : lead l < l.length) → (lead l = 0 ∨ l.getD (lead l) 0 ≠ 0) → dg (f + 1) (val (l.take (lead l + 1))) = l.take (lead l + 1)
 | f, [], _, h, _ => by simp at h
 | f, b :: t, hf, h, hz => by
  have hb256 := u8_lt b
  by_cases hb : 128 ≤ b.toNat
  ·have e : lead (b :: t) = lead t + 1 := by simp [lead, hb]
   have ht : lead t < t.length := by rw [e] at h; simpa using h
   cases f with
   | zero => omega
   | succ f =>
    have hz' : t.getD (lead t) 0 ≠ 0 := by
     rcases hz with h0 | h0
     ·omega
     ·rw [e] at h0; simpa using h0
    have ih := dg_of_lead f t (by omega) ht (qaI hz')
    rw [e, qaM]
    -- the value behind is not 0
    have hend := lead_end t ht
    have hv : val (t.take (lead t + 1)) = val (t.take (lead t)) + 128 ^ lead t * ((t[lead t]'ht).toNat % 128) := yfZ t _ ht
    have hne : (t[lead t]'ht).toNat ≠ 0 := by
     intro h0
     refine hz' ?_
     rw [qaj, qah ht]
     exact u8_eq (by simpa using h0)
    have hpos : 0 < 128 ^ lead t * ((t[lead t]'ht).toNat % 128) := Nat.mul_pos (qaX (by omega)) (by omega)
    have hvpos : 0 < val (t.take (lead t + 1)) := by omega
    simp only [val]
    generalize val (t.take (lead t + 1)) = v at *
    have hn : ¬ b.toNat % 128 + 128 * v < 128 := by omega
    have hdiv : (b.toNat % 128 + 128 * v) / 128 = v := by omega
    have hmod : (b.toNat % 128 + 128 * v) % 128 = b.toNat % 128 := by omega
    rw [dg, qae hn, hdiv, hmod, ih]
    congr 1
    exact u8_eq (by rw [yaz _ (by omega)]; omega)
  ·have e : lead (b :: t) = 0 := by simp [lead, hb]
   rw [e]
   have hv : val (List.take (0 + 1) (b :: t)) = b.toNat := by simp [val]; omega
   rw [hv, dg, qag (by omega)]
   simp
theorem getR_ok (l : List UInt8) (h : (getR l).2.2 = 0) : ∃ m : Nat, m < 9223372036854775808 ∧ (getR l).1 = m ∧ 0 < (getR l).2.1 ∧ (getR l).2.1 ≤ l.length ∧ l.take (getR l).2.1 = dg 9 m := by
 unfold getR at h ⊢
 by_cases h1 : 9 ≤ lead l
 ·rw [qag h1] at h; simp at h
 ·rw [qae h1] at h ⊢
  by_cases h2 : lead l = l.length
  ·rw [qag h2] at h; simp at h
  ·rw [qae h2] at h ⊢
   by_cases h3 : 0 < lead l ∧ l.getD (lead l) 0 = 0
   ·rw [qag h3] at h; simp at h
   ·rw [qae h3]
    have hlt : lead l < l.length := by have := lead_le l; omega
    have hd := dg_of_lead 8 l (by omega) hlt (by
     by_cases h0 : lead l = 0
     ·exact qay h0
     ·exact qaI fun hc => h3 ⟨by omega, hc⟩)
    refine ⟨val (l.take (lead l + 1)), ?_, rfl, by simp, by simp only; omega, hd.symm⟩
    have := val_lt (l.take (lead l + 1))
    rw [← pow9]
    refine qaZ this (qa0 (by omega) ?_)
    simp; omega
def val8 : List UInt8 → Nat
 | [] => 0
 | b :: t => b.toNat + 256 * val8 t
def ya6 (l : List UInt8) (p w : Int) : Int × Int × Int :=
 if 1 ≤ w ∧ w ≤ 8 ∧ 0 ≤ p ∧ p ≤ l.length then
  if l.length < p + w then (0, 0, 4)
  else if 9223372036854775808 ≤ val8 ((l.drop p.toNat).take w.toNat) then (0, 0, 5)
  else ((val8 ((l.drop p.toNat).take w.toNat) : Int), p + w, 0)
 else (0, 0, 2)
theorem val8_lt : ∀ l, val8 l < 256 ^ l.length
 | [] => by simp [val8]
 | b :: t => by
  have := val8_lt t
  have hb := u8_lt b
  simp only [val8, qap, qaR]
  omega
theorem val8_snoc : ∀ (l : List UInt8) (b : UInt8), val8 (l ++ [b]) = val8 l + 256 ^ l.length * b.toNat
 | [], b => by simp [val8]
 | a :: t, b => by
  simp only [qb3, val8, val8_snoc t b, qap, qaR]
  rw [Nat.mul_add, ← qcl, qb6 256 (256 ^ t.length)]
  omega
theorem val8_take (l : List UInt8) (k : Nat) (h : k < l.length) : val8 (l.take (k + 1)) = val8 (l.take k) + 256 ^ k * (l[k]'h).toNat := by
 rw [qat h, val8_snoc]
 simp [qbf (Nat.le_of_lt h)]
theorem yeg {n : Int} (h : 0 ≤ n) : putB n = dg 9 n.toNat := by unfold putB; rw [qae (by omega)]
def trip (r : Int × Int × Int) : Value := .tuple #[.int .i64 r.1, .int .i64 r.2.1, .int .i64 r.2.2]
theorem yc4 (l : List UInt8) (p : Int) (w : World) : Calls prog 178 #[.string ⟨l.toArray⟩, .int .i64 p] w fun e w' => e = .returned (.bool (decide (0 ≤ p) && decide (p ≤ l.length))) ∧ w = w' := by
 go_enter func178, ntmps178
 go_wp2
 ·rename_i h
  go_ret
  exact ⟨by simp [h], rfl⟩
 ·rename_i h
  go_ret
  exact ⟨by simp; omega, rfl⟩
theorem pow128 (k : Nat) : (128 : Nat) ^ k = 2 ^ (7 * k) := by rw [Nat.pow_mul]
theorem pow256 (k : Nat) : (256 : Nat) ^ k = 2 ^ (8 * k) := by rw [Nat.pow_mul]
theorem or_digit (X b k : Nat) (hX : X < 128 ^ k) (hk : k < 9) : bits .or .i64 (X : Int) (wrap64 ((b : Int) % 128 * 2 ^ (7 * k))) = ((X + 128 ^ k * (b % 128) : Nat) : Int) := by
 have hb : b % 128 < 128 := Nat.mod_lt _ (by omega)
 have h1 : X + 128 ^ k * (b % 128) < 128 ^ (k + 1) := by
  rw [qaR]
  have : 128 ^ k * (b % 128) ≤ 128 ^ k * 127 := qci _ (by omega)
  omega
 have h2 : 128 ^ (k + 1) ≤ 128 ^ 9 := qa0 (by omega) (by omega)
 rw [pow9] at h2
 have e : ((X : Int) + (b : Int) % 128 * 2 ^ (7 * k)) = ((X + 128 ^ k * (b % 128) : Nat) : Int) := by
  rw [pow128, qbB, qcm, Int.natCast_pow, Int.natCast_emod, Int.mul_comm]
  rfl
 have hX' : (X : Int) < 2 ^ (7 * k) := by
  have : ((X : Nat) : Int) < ((2 ^ (7 * k) : Nat) : Int) := by rw [← pow128]; exact Int.ofNat_lt.2 hX
  rwa [Int.natCast_pow] at this
 rw [or_i64 (X : Int) ((b : Int) % 128) (7 * k) (by omega) hX' (by omega) (by rw [e]; omega), e]
section
variable {l : List UInt8} {p : Nat} (hp : p ≤ l.length)
include hp
theorem getF_err {e : Int} (he : e ≠ 0) (h : getR (l.drop p) = (0, 0, e)) : getF l p = (0, 0, e) := by
 unfold getF
 rw [qag ⟨by omega, by omega⟩, qan, h, qae he]
theorem getF_form (h : 9 ≤ lead (l.drop p)) : getF l p = (0, 0, 5) := getF_err hp (by decide) (by unfold getR; rw [qag h])
theorem getF_short (h : lead (l.drop p) < 9) (h2 : lead (l.drop p) = l.length - p) : getF l p = (0, 0, 4) := getF_err hp (by decide) (by unfold getR; rw [qae (by omega), qag (by rw [qas]; exact h2)])
theorem getF_zero (h : lead (l.drop p) < 9) (h2 : lead (l.drop p) < l.length - p) (h3 : 0 < lead (l.drop p)) (h4 : l[p + lead (l.drop p)]'(by omega) = 0) : getF l p = (0, 0, 5) := getF_err hp (by decide) (by
 have hz : (l.drop p).getD (lead (l.drop p)) 0 = 0 := by
  rw [qaj, List.getElem?_drop, qah (by omega), h4]
  rfl
 unfold getR
 rw [qae (by omega), qae (by rw [qas]; omega), qag ⟨h3, hz⟩])
theorem getF_ok (h : lead (l.drop p) < 9) (h2 : lead (l.drop p) < l.length - p) (h4 : lead (l.drop p) = 0 ∨ l[p + lead (l.drop p)]'(by omega) ≠ 0) : getF l p = ((val ((l.drop p).take (lead (l.drop p) + 1)) : Int), (p : Int) + ((lead (l.drop p) + 1 : Nat) : Int), 0) := by
 have e : getR (l.drop p) = ((val ((l.drop p).take (lead (l.drop p) + 1)) : Int), lead (l.drop p) + 1, 0) := by
  unfold getR
  rw [qae (by omega), qae (by rw [qas]; omega), qae ?_]
  rintro ⟨h5, h6⟩
  rw [qaj, List.getElem?_drop, qah (by omega)] at h6
  rcases h4 with h4 | h4
  ·omega
  ·exact h4 h6
 unfold getF
 rw [qag ⟨by omega, by omega⟩, qan, e]
 simp
end
theorem get_in (l : List UInt8) (p : Nat) (w : World) (hp : p ≤ l.length) (hl : l.length ≤ 4611686018427387904) : Calls prog 140 #[.string ⟨l.toArray⟩, .int .i64 p] w fun e w' => e = .returned (trip (getF l p)) ∧ w = w' := by
 go_enter func140, ntmps140
 go_wp2
 go_step3
 go_wp2_with (refine (yc4 l p w).mono ?_; rintro e w1 ⟨rfl, rfl⟩; rw [show (decide (0 ≤ (p : Int)) && decide ((p : Int) ≤ l.length)) = true from by simp; omega])
 go_step3
 go_wp2
 go_loop [4, 13] (fun n i => ∃ (k X : Nat), k ≤ 9 ∧ p + k ≤ l.length ∧ i = .int .i64 k ∧ n = .int .i64 X ∧ Hid (k ≤ lead (l.drop p) ∧ X = val ((l.drop p).take k))) (fun _ i => match i with | .int _ m => 9 - m.toNat | _ => 0)
 case atStart => exact ⟨0, 0, by omega, by omega, rfl, rfl, ⟨by omega, by simp [val]⟩⟩
 case round =>
  obtain ⟨k, X, hk, hpk, rfl, rfl, hd⟩ := hrel
  go_wp2
  ·rename_i hx _
   have hx : p + k = l.length := by have := WalkArith.int_eq hx; omega
   have hle := lead_le (l.drop p)
   rw [qas] at hle
   try rw [qcB]
   go_ret3
   refine ⟨?_, rfl⟩
   rw [getF_short hp (by have := hd.out.1; omega) (by have := hd.out.1; omega)]
   rfl
  ·-- a byte that goes on
   rename_i hx hin _ _ hb
   have hlt : p + k < l.length := by omega
   rw [ycP] at hb ⊢
   have hb' : 128 ≤ (l[p + k]).toNat := by omega
   obtain ⟨hd1, hd2⟩ := hd.out
   have hdl : k < (l.drop p).length := by rw [qas]; omega
   have hge : (l.drop p)[k]'hdl = l[p + k] := qbL ..
   have hmore := lead_more (l.drop p) k hd1 hdl (by rw [hge]; exact hb')
   have hXlt : X < 128 ^ k := by
    rw [hd2]
    have := val_lt ((l.drop p).take k)
    rwa [qao, qbf (by omega)] at this
   rw [or_digit X _ k hXlt (by omega)]
   refine ⟨⟨k + 1, X + 128 ^ k * ((l[p + k]).toNat % 128), by omega, by omega, iv (by omega), rfl, hmore, ?_⟩, ?_⟩
   ·rw [yfZ _ k hdl, hge, ← hd2]
   ·show 9 - Int.toNat _ < 9 - Int.toNat _
    omega
  ·-- a last byte of 0 that is not the only one
   rename_i hb0 hk0
   have hlt : p + k < l.length := by omega
   rw [ycP] at hb0
   obtain ⟨hd1, hd2⟩ := hd.out
   have hdl : k < (l.drop p).length := by rw [qas]; omega
   have hge : (l.drop p)[k]'hdl = l[p + k] := qbL ..
   have hlead := lead_is (l.drop p) k hd1 hdl (by rw [hge]; omega)
   rw [qcB]
   go_ret3
   refine ⟨?_, rfl⟩
   rw [getF_zero hp (by omega) (by omega) (by omega) (by simp only [hlead]; exact u8_eq (by simpa using hb0))]
   rfl
  ·-- a 0 that is the only byte
   rename_i hb0 hk0
   have hlt : p + k < l.length := by omega
   rw [ycP] at hb0
   obtain ⟨hd1, hd2⟩ := hd.out
   have hk0' : k = 0 := by omega
   subst hk0'
   have hdl : 0 < (l.drop p).length := by rw [qas]; omega
   have hge : (l.drop p)[0]'hdl = l[p + 0] := qbL ..
   have hlead := lead_is (l.drop p) 0 hd1 hdl (by rw [hge]; omega)
   rw [qcB]
   go_ret3
   refine ⟨?_, rfl⟩
   rw [getF_ok hp (by omega) (by omega) (qay hlead), hlead, yfZ _ 0 hdl, hge, hb0]
   simp at hd2
   subst hd2
   refine tv _ _ _ _ _ _ ?_
   have h00 := or_digit 0 0 0 (by decide) (by decide)
   simp [val] at h00 ⊢
   exact h00
  ·rename_i hb hb0
   have hlt : p + k < l.length := by omega
   rw [ycP] at hb hb0
   rw [ycP]
   obtain ⟨hd1, hd2⟩ := hd.out
   have hdl : k < (l.drop p).length := by rw [qas]; omega
   have hge : (l.drop p)[k]'hdl = l[p + k] := qbL ..
   have hlead := lead_is (l.drop p) k hd1 hdl (by rw [hge]; omega)
   have hXlt : X < 128 ^ k := by
    rw [hd2]
    have := val_lt ((l.drop p).take k)
    rwa [qao, qbf (by omega)] at this
   rw [or_digit X _ k hXlt (by omega)]
   rw [qcB]
   go_ret3
   refine ⟨?_, rfl⟩
   rw [getF_ok hp (by omega) (by omega) (qaI (by simp only [hlead]; exact fun h => hb0 (by rw [h]; rfl))), hlead, yfZ _ k hdl, hge, ← hd2]
   refine tv _ _ _ _ _ _ ?_
   simp only [qb8, true_and, and_true]
   omega
  ·exfalso
   have := WalkArith.int_ne (by assumption : ((p : Int) + (k : Int) == (l.length : Int)) = false)
   omega
  ·rename_i hx
   go_ret3
   refine ⟨?_, rfl⟩
   rw [getF_form hp (by have := hd.out.1; omega)]
   rfl
theorem get_any (l : List UInt8) (p : Int) (w : World) (hl : l.length ≤ 4611686018427387904) : Calls prog 140 #[.string ⟨l.toArray⟩, .int .i64 p] w fun e w' => e = .returned (trip (getF l p)) ∧ w = w' := by
 by_cases hp : 0 ≤ p ∧ p ≤ l.length
 ·obtain ⟨q, rfl⟩ := qaF hp.1
  exact get_in l q w (by omega) hl
 ·have fin : getF l p = (0, 0, 2) := by unfold getF; rw [qae hp]
  rw [fin]
  clear fin
  go_enter func140, ntmps140
  go_wp2
  go_step3
  go_wp2_with (refine (yc4 l p w).mono ?_; rintro e w1 ⟨rfl, rfl⟩; rw [show (decide (0 ≤ p) && decide (p ≤ l.length)) = false from by simp; omega])
  rw [qcB]
  go_ret3
  exact ⟨rfl, rfl⟩
theorem or_byte (X b k : Nat) (hX : X < 256 ^ k) (hk : k < 8) (hb : b < 256) :
  (X + 256 ^ k * b < 9223372036854775808 → bits .or .i64 (X : Int) (wrap64 ((b : Int) * 2 ^ (8 * k))) = ((X + 256 ^ k * b : Nat) : Int)) ∧
  (9223372036854775808 ≤ X + 256 ^ k * b → k = 7 ∧ bits .or .i64 (X : Int) (wrap64 ((b : Int) * 2 ^ (8 * k))) < 0) := by
 constructor
 ·intro h
  have e : ((X : Int) + (b : Int) * 2 ^ (8 * k)) = ((X + 256 ^ k * b : Nat) : Int) := by
   rw [pow256, qbB, qcm, Int.natCast_pow, Int.mul_comm]
   rfl
  have hX' : (X : Int) < 2 ^ (8 * k) := by
   have : ((X : Nat) : Int) < ((2 ^ (8 * k) : Nat) : Int) := by rw [← pow256]; exact Int.ofNat_lt.2 hX
   rwa [Int.natCast_pow] at this
  rw [or_i64 (X : Int) (b : Int) (8 * k) (by omega) hX' (by omega) (by rw [e]; omega), e]
 ·intro h
  have hk7 : k = 7 := by
   rcases qbe k 7 with hlt | hge
   ·exfalso
    have h1 : 256 ^ k * b ≤ 256 ^ k * 255 := qci _ (by omega)
    have h2 : 256 ^ k ≤ 256 ^ 6 := qa0 (by omega) (by omega)
    have e6 : (256 : Nat) ^ 6 = 281474976710656 := by decide
    omega
   ·omega
  subst hk7
  refine ⟨rfl, ?_⟩
  have e7 : (256 : Nat) ^ 7 = 72057594037927936 := by decide
  have e56 : (2 : Int) ^ (8 * 7) = 72057594037927936 := by decide
  rw [e7] at hX h
  rw [e56]
  have hw : wrap64 ((b : Int) * 72057594037927936) = (b : Int) * 72057594037927936 - 18446744073709551616 := by unfold wrap64; omega
  rw [hw]
  exact or_neg _ _ (by omega) (by omega) (by omega) (by omega)
theorem unfix_in (l : List UInt8) (p v : Nat) (w : World) (h1 : 1 ≤ v) (h8 : v ≤ 8) (hp : p + v ≤ l.length) (hl : l.length ≤ 4611686018427387904) :
  Calls prog 191 #[.string ⟨l.toArray⟩, .int .i64 p, .int .i64 v] w fun e w' => e = .returned (trip (ya6 l p v)) ∧ w = w' := by
 have hv8 := val8_lt ((l.drop p).take v)
 rw [qao, qas, qbf (by omega)] at hv8
 have hv8 := qaa hv8
 have fin : ya6 l p v = if 9223372036854775808 ≤ val8 ((l.drop p).take v) then (0, 0, 5) else ((val8 ((l.drop p).take v) : Int), (p : Int) + v, 0) := by
  unfold ya6
  rw [qag ⟨by omega, by omega, by omega, by omega⟩, qae (by omega), qan, qan]
 rw [fin]
 clear fin
 go_enter func191, ntmps191
 go_wp2_with (refine (yc4 l p w).mono ?_; rintro e w1 ⟨rfl, rfl⟩; rw [show (decide (0 ≤ (p : Int)) && decide ((p : Int) ≤ l.length)) = true from by simp; omega])
 go_loop [6, 29] (fun n i => ∃ (k : Nat) (X : Int), k ≤ v ∧ i = .int .i64 k ∧ n = .int .i64 X ∧ Hid (val8 ((l.drop p).take k) < 9223372036854775808 → X = val8 ((l.drop p).take k)) ∧ Hid (9223372036854775808 ≤ val8 ((l.drop p).take k) → k = 8 ∧ X < 0)) (fun _ i => match i with | .int _ m => 9 - m.toNat | _ => 0)
 case atStart => exact ⟨0, 0, by omega, rfl, rfl, (fun _ => rfl), fun h => absurd h (by simp [val8])⟩
 case round =>
  obtain ⟨k, X, hk, rfl, rfl, hd1, hd2⟩ := hrel
  go_wp2
  ·rename_i hkv _
   have hdl : k < (l.drop p).length := by rw [qas]; omega
   have hge : (l.drop p)[k]'hdl = l[p + k] := qbL ..
   rw [ycP]
   have hb := u8_lt l[p + k]
   have hwb : wrap64 ((l[p + k]).toNat : Int) = ((l[p + k]).toNat : Int) := by unfold wrap64; omega
   rw [hwb]
   have hvl := val8_lt ((l.drop p).take k)
   rw [qao, qbf (by omega)] at hvl
   have hX : X = val8 ((l.drop p).take k) := by
    rcases qbe (val8 ((l.drop p).take k)) 9223372036854775808 with h | h
    ·exact hd1.out h
    ·have := (hd2.out h).1; omega
   rw [hX]
   obtain ⟨o1, o2⟩ := or_byte _ (l[p + k]).toNat k hvl (by omega) hb
   refine ⟨⟨k + 1, _, by omega, iv (by omega), rfl, ?_, ?_⟩, ?_⟩
   ·intro h
    rw [val8_take _ k hdl, hge] at h ⊢
    exact o1 h
   ·intro h
    rw [val8_take _ k hdl, hge] at h
    obtain ⟨h7, hneg⟩ := o2 h
    exact ⟨by omega, hneg⟩
   ·show 9 - Int.toNat _ < 9 - Int.toNat _
    omega
  all_goals
   obtain rfl : k = v := by omega
   go_ret3
   refine ⟨?_, rfl⟩
   rcases qbe (val8 ((l.drop p).take k)) 9223372036854775808 with hlt | hge
   ·have hX := hd1.out hlt
    first
    | (exfalso; omega)
    | (refine tv _ _ _ _ _ _ ?_; rw [hX])
   ·have hX := (hd2.out hge).2
    first
    | (exfalso; omega)
    | rfl
theorem unfix_any (l : List UInt8) (p v : Int) (w : World) (hl : l.length ≤ 4611686018427387904) :
  Calls prog 191 #[.string ⟨l.toArray⟩, .int .i64 p, .int .i64 v] w fun e w' => e = .returned (trip (ya6 l p v)) ∧ w = w' := by
 by_cases hv : 1 ≤ v
 ·by_cases hv8 : v ≤ 8
  ·by_cases hp : 0 ≤ p ∧ p ≤ l.length
   ·by_cases hs : l.length < p + v
    ·have fin : ya6 l p v = (0, 0, 4) := by unfold ya6; rw [qag ⟨hv, hv8, hp.1, hp.2⟩, qag hs]
     rw [fin]
     clear fin
     go_enter func191, ntmps191
     go_wp2_with (refine (yc4 l p w).mono ?_; rintro e w1 ⟨rfl, rfl⟩; rw [show (decide (0 ≤ p) && decide (p ≤ l.length)) = true from by simp; omega])
     go_ret3
     exact ⟨rfl, rfl⟩
    ·obtain ⟨q, rfl⟩ := qaF hp.1
     obtain ⟨u, rfl⟩ := qaF (by omega : 0 ≤ v)
     exact unfix_in l q u w (by omega) (by omega) (by omega) hl
   ·have fin : ya6 l p v = (0, 0, 2) := by unfold ya6; rw [qae (by omega)]
    rw [fin]
    clear fin
    go_enter func191, ntmps191
    go_wp2_with (refine (yc4 l p w).mono ?_; rintro e w1 ⟨rfl, rfl⟩; rw [show (decide (0 ≤ p) && decide (p ≤ l.length)) = false from by simp; omega])
    go_ret3
    exact ⟨rfl, rfl⟩
  ·have fin : ya6 l p v = (0, 0, 2) := by unfold ya6; rw [qae (by omega)]
   rw [fin]
   clear fin
   go_enter func191, ntmps191
   go_wp2
   go_ret3
   exact ⟨rfl, rfl⟩
 ·have fin : ya6 l p v = (0, 0, 2) := by unfold ya6; rw [qae (by omega)]
  rw [fin]
  clear fin
  go_enter func191, ntmps191
  go_wp2
  go_ret3
  exact ⟨rfl, rfl⟩
def ydW (l : List UInt8) (p n : Int) : List UInt8 × Int × Int :=
 if n < 0 then ([], 0, 2) else if (l.length : Int) - p < n then ([], 0, 4) else ((l.drop p.toNat).take n.toNat, p + n, 0)
def yb8 (l : List UInt8) (p k n : Int) : (Int × List UInt8) × Int × Int :=
 if k = 1 then (((ya6 l p 1).1, []), (ya6 l p 1).2.1, (ya6 l p 1).2.2)
 else if k = 2 then (((getF l p).1, []), (getF l p).2.1, (getF l p).2.2)
 else if k = 3 then (((ya6 l p n).1, []), (ya6 l p n).2.1, (ya6 l p n).2.2)
 else if k = 4 then ((0, (ydW l p n).1), (ydW l p n).2.1, (ydW l p n).2.2)
 else if k = 5 then ((0, l.drop p.toNat), l.length, 0)
 else if k = 6 then (if p < l.length then ((0, []), 0, 6) else ((0, []), p, 0))
 else ((0, []), 0, 2)
theorem getF_ok' {l : List UInt8} {p : Int} (h : (getF l p).2.2 = 0) : 0 ≤ p ∧ p < (getF l p).2.1 ∧ (getF l p).2.1 ≤ l.length ∧ 0 ≤ (getF l p).1 ∧ (getF l p).1 < 9223372036854775808 := by
 unfold getF at h ⊢
 by_cases hp : 0 ≤ p ∧ p ≤ l.length
 ·rw [qag hp] at h ⊢
  by_cases h2 : (getR (l.drop p.toNat)).2.2 = 0
  ·rw [qag h2]
   obtain ⟨m, hm, e1, e2, e3, _⟩ := getR_ok _ h2
   rw [qas] at e3
   simp only
   omega
  ·rw [qae h2] at h
   exact absurd h h2
 ·rw [qae hp] at h
  simp at h
def csy (l : List Nat) : List Int := l.map (fun s : Nat => (s : Int))
theorem csy_app (a b : List Nat) : csy (a ++ b) = csy a ++ csy b := by simp [csy]
theorem csy_get {l : List Nat} {k s : Nat} (h : l[k]? = some s) : (ints (csy l))[k]? = some (.int .i64 (s : Int)) := by
 simp [ints, csy, h]
def ybt (h n : Nat) (st : List Int) (rows : List Value) (d : Int) : List Value := .bool true :: .slice (some ⟨h, 0, none⟩) n n :: (ints st ++ (rows ++ [.int .i64 d]))
section
variable {h n : Nat} {st : List Int} {rows : List Value} {d : Int}
theorem yf2 (hs : st.length = 16) (j : Nat) (hj : j < 16) : (ybt h n st rows d)[2 + j]? = some (.int .i64 (st[j]'(by omega))) := by
 unfold ybt
 rw [show 2 + j = j + 1 + 1 from by omega, qb4, qb4, qbN (by rw [yab]; omega)]
 exact yai st j (by omega)
theorem yfg (hs : st.length = 16) (hr : rows.length = 16) (j : Nat) (hj : j < 16) : (ybt h n st rows d)[18 + j]? = some (rows[j]'(by omega)) := by
 unfold ybt
 rw [show 18 + j = 16 + j + 1 + 1 from by omega, qb4, qb4, qbj (by rw [yab]; omega), yab, show 16 + j - st.length = j from by omega, qbN (by omega), qah (by omega)]
theorem ygR (hs : st.length = 16) (hr : rows.length = 16) : (ybt h n st rows d)[34]? = some (.int .i64 d) := by
 unfold ybt
 rw [show 34 = 32 + 1 + 1 from rfl, qb4, qb4, qbj (by rw [yab]; omega), yab, qbj (by omega), show 32 - st.length - rows.length = 0 from by omega]
 rfl
theorem yfQ (hs : st.length = 16) (j : Nat) (hj : j < 16) (v : Int) : (ybt h n st rows d).set (2 + j) (.int .i64 v) = ybt h n (st.set j v) rows d := by
 unfold ybt
 rw [show 2 + j = j + 1 + 1 from by omega, qaf, qaf, List.set_append_left _ _ (by rw [yab]; omega)]
 simp [ints, qcu]
theorem ccells_set_row (hs : st.length = 16) (hr : rows.length = 16) (j : Nat) (hj : j < 16) (v : Value) : (ybt h n st rows d).set (18 + j) v = ybt h n st (rows.set j v) d := by
 unfold ybt
 rw [show 18 + j = 16 + j + 1 + 1 from by omega, qaf, qaf, qcc _ _ (by rw [yab]; omega), yab, show 16 + j - st.length = j from by omega, List.set_append_left _ _ (by omega)]
theorem yhB (hs : st.length = 16) (hr : rows.length = 16) (v : Int) : (ybt h n st rows d).set 34 (.int .i64 v) = ybt h n st rows v := by
 unfold ybt
 rw [show 34 = 32 + 1 + 1 from rfl, qaf, qaf, qcc _ _ (by rw [yab]; omega), yab, qcc _ _ (by omega), show 32 - st.length - rows.length = 0 from by omega]
 rfl
end
structure CRows (W : World) (B : Nat) (rows : List Value) (R : Nat → List Nat) : Prop where
 len : rows.length = 16
 own : ∀ j (hj : j < rows.length), W.ownsRow B 3 1 rows[j] (R j).length (ints (csy (R j)))
 sep : ∀ i j (hi : i < rows.length) (hj : j < rows.length), i ≠ j → ∀ k, rows[i].ownBlock = some k → rows[j].ownBlock ≠ some k
section
variable {W W' W2 Wa : World} {B g : Nat} {rows : List Value} {R R' : Nat → List Nat} {cs : Array Value} {t : TypeId} {S : Nat → Prop}
theorem CRows.congr (h : CRows W B rows R) (he : ∀ j, j < 16 → R j = R' j) : CRows W B rows R' := ⟨h.len, fun j hj => by rw [← he j (by have := h.len; omega)]; exact h.own j hj, h.sep⟩
theorem CRows.touch (h : CRows W B rows R) (ht : Touch W W' S) (hS : ∀ j (hj : j < rows.length) k, rows[j].ownBlock = some k → ¬ S k) : CRows W' B rows R := ⟨h.len, fun j hj => yay (h.own j hj) ht (hS j hj), h.sep⟩
theorem CRows.store (h : CRows W B rows R) (hB : Blk W g t cs) (hne : 3 ≠ t) (i : Nat) (u : Value) : CRows (W.setCell ⟨g, i, none⟩ u) B rows R :=
 h.touch ((Touch.refl W (fun k => k = g)).set (p := ⟨g, i, none⟩) (qay rfl) u) fun j hj k hk e => ya5 (h.own j hj) hB hne (by rw [hk, e])
theorem CRows.append (h : CRows W B rows R) (hb : Below W.heap.size W Wa) (j : Nat) (hj : j < 16) (v' : Value) (s : Nat) (hg : Wa.grownBy W2 (rows[j]'(by have := h.len; omega)).ownBlock)
  (ho : W2.ownsRow B 3 1 v' ((R j).length + 1) (ints (csy (R j)) ++ [.int .i64 (s : Int)])) (hs : Sep Wa (rows[j]'(by have := h.len; omega)) v') :
  CRows W2 B (rows.set j v') (fun i => if i = j then R j ++ [s] else R i) := by
 have hl := h.len
 have hsz := hb.size
 refine ⟨by rw [qbJ]; exact hl, fun i hi => ?_, fun i k hi hk hne b hb1 hb2 => ?_⟩
 ·rw [qbJ] at hi
  by_cases e : j = i
  ·subst e
   rw [List.getElem_set_self, qag rfl, csy_app, qab]
   have : ints (csy (R j) ++ csy [s]) = ints (csy (R j)) ++ [.int .i64 (s : Int)] := by simp [ints, csy]
   rw [this]
   exact ho
  ·rw [List.getElem_set_ne e, qae (fun h => e h.symm)]
   have h1 := yah (h.own i hi) hb (qad _)
   refine yay h1 (yaF hg) fun k hk e2 => ?_
   exact h.sep j i (by omega) hi e k e2.symm hk
 ·rw [qbJ] at hi hk
  have hnew : ∀ m (hm : m < rows.length), m ≠ j → ∀ b, v'.ownBlock = some b → rows[m].ownBlock ≠ some b := fun m hm hmj b h1 h2 => by
   rcases hs b h1 with h3 | h3
   ·exact h.sep j m (by omega) hm (fun e => hmj e.symm) b h3 h2
   ·have := ((h.own m hm).lt b h2).2
    omega
  by_cases e1 : j = i
  ·subst e1
   rw [List.getElem_set_self] at hb1
   rw [List.getElem_set_ne hne] at hb2
   exact hnew k hk (fun e => hne e.symm) b hb1 hb2
  ·rw [List.getElem_set_ne e1] at hb1
   by_cases e2 : j = k
   ·subst e2
    rw [List.getElem_set_self] at hb2
    exact hnew i hi hne b hb2 hb1
   ·rw [List.getElem_set_ne e2] at hb2
    exact h.sep i k hi hk hne b hb1 hb2
end
structure CSt (w1 W : World) (n : Nat) (L : List (Int × Int)) (st : List Int) (rows : List Value) (d : Int) (R : Nat → List Nat) : Prop where
 code : Blk W (w1.heap.size + 1) 141 (ybt w1.heap.size n st rows d).toArray
 words : Blk W w1.heap.size 143 (ybg .i64 L).toArray
 rows : CRows W w1.heap.size rows R
 frame : Below w1.heap.size w1 W
 stl : st.length = 16
section
variable {w1 W Wa W2 : World} {n : Nat} {L : List (Int × Int)} {st : List Int} {rows : List Value} {d : Int} {R R' : Nat → List Nat}
theorem CSt.start (h : CSt w1 W n L st rows d R) (j : Nat) (hj : j < 16) : W.cell? ⟨w1.heap.size + 1, 2 + j, none⟩ = some (.int .i64 (st[j]'(by have := h.stl; omega))) := by
 rw [h.code.cell, qaB]
 exact yf2 h.stl j hj
theorem CSt.row (h : CSt w1 W n L st rows d R) (j : Nat) (hj : j < 16) : W.cell? ⟨w1.heap.size + 1, 18 + j, none⟩ = some (rows[j]'(by have := h.rows.len; omega)) := by
 rw [h.code.cell, qaB]
 exact yfg h.stl h.rows.len j hj
theorem CSt.deep (h : CSt w1 W n L st rows d R) : W.cell? ⟨w1.heap.size + 1, 34, none⟩ = some (.int .i64 d) := by
 rw [h.code.cell, qaB]
 exact ygR h.stl h.rows.len
theorem CSt.wslice (h : CSt w1 W n L st rows d R) : W.cell? ⟨w1.heap.size + 1, 1, none⟩ = some (.slice (some ⟨w1.heap.size, 0, none⟩) n n) := by
 rw [h.code.cell, qaB]
 rfl
theorem CSt.put_start (h : CSt w1 W n L st rows d R) (j : Nat) (hj : j < 16) (v : Int) : CSt w1 (W.setCell ⟨w1.heap.size + 1, 2 + j, none⟩ (.int .i64 v)) n L (st.set j v) rows d R := by
 refine ⟨?_, h.words.far (by simp) _, h.rows.store h.code (by decide) _ _, h.frame.setCell (by simp) _, by rw [qbJ]; exact h.stl⟩
 have := h.code.set_ (2 + j) (.int .i64 v)
 rw [qac, yfQ h.stl j hj] at this
 exact this
theorem CSt.put_deep (h : CSt w1 W n L st rows d R) (v : Int) : CSt w1 (W.setCell ⟨w1.heap.size + 1, 34, none⟩ (.int .i64 v)) n L st rows v R := by
 refine ⟨?_, h.words.far (by simp) _, h.rows.store h.code (by decide) _ _, h.frame.setCell (by simp) _, h.stl⟩
 have := h.code.set_ 34 (.int .i64 v)
 rw [qac, yhB h.stl h.rows.len] at this
 exact this
theorem CSt.put_word (h : CSt w1 W n L st rows d R) (s : Nat) (hs : s < L.length) (a b : Int) : CSt w1 ((W.setCell ⟨w1.heap.size, s * 2, none⟩ (.int .i64 a)).setCell ⟨w1.heap.size, s * 2 + 1, none⟩ (.int .i64 b)) n (L.set s (a, b)) st rows d R := by
 have hw := h.words.set_ (s * 2) (.int .i64 a)
 refine ⟨(h.code.far (by simp) _).far (by simp) _, ?_, (h.rows.store h.words (by decide) _ _).store hw (by decide) _ _, (h.frame.setCell (by simp) _).setCell (by simp) _, h.stl⟩
 have := hw.set_ (s * 2 + 1) (.int .i64 b)
 rw [qac, qac, yfq .i64 a b L s hs] at this
 exact this
theorem CSt.put_row (h : CSt w1 W n L st rows d R) (hb : Below W.heap.size W Wa) (j : Nat) (hj : j < 16) (v' : Value) (s : Nat) (hg : Wa.grownBy W2 (rows[j]'(by have := h.rows.len; omega)).ownBlock)
  (ho : W2.ownsRow w1.heap.size 3 1 v' ((R j).length + 1) (ints (csy (R j)) ++ [.int .i64 (s : Int)])) (hs : Sep Wa (rows[j]'(by have := h.rows.len; omega)) v') :
  W2.frozen? ⟨w1.heap.size + 1, 18 + j, none⟩ = false ∧ (∃ u, W2.cell? ⟨w1.heap.size + 1, 18 + j, none⟩ = some u) ∧ CSt w1 (W2.setCell ⟨w1.heap.size + 1, 18 + j, none⟩ v') n L st (rows.set j v') d (fun i => if i = j then R j ++ [s] else R i) := by
 have hoj := h.rows.own j (by have := h.rows.len; omega)
 have hgb : ∀ {b : Nat} {t : TypeId} {cs : Array Value}, Blk W b t cs → 3 ≠ t → Blk W2 b t cs := fun {b t cs} hB hne => (hB.below hb hB.lt).grow' hg (fun e => ya5 hoj hB hne e)
 have hc := hgb h.code (by decide)
 have hw := hgb h.words (by decide)
 have hrow := h.rows.append hb j hj v' s hg ho hs
 refine ⟨hc.frozen _, ⟨rows[j]'(by have := h.rows.len; omega), ?_⟩, ⟨?_, hw.far (by simp) _, hrow.store hc (by decide) _ _, ?_, h.stl⟩⟩
 ·rw [hc.cell, qaB]
  exact yfg h.stl h.rows.len j hj
 ·have := hc.set_ (18 + j) v'
  rw [qac, ccells_set_row h.stl h.rows.len j hj] at this
  exact this
 ·refine Below.setCell ?_ (by simp) _
  have h1 := h.frame.trans (hb.mono h.frame.size)
  exact qbz h1 hg h1.size fun b hb2 => (hoj.lt b hb2).1
theorem CSt.congr (h : CSt w1 W n L st rows d R) (he : ∀ j, j < 16 → R j = R' j) : CSt w1 W n L st rows d R' := ⟨h.code, h.words, h.rows.congr he, h.frame, h.stl⟩
end
structure CHold (W : World) (B g : Nat) (ls : List Nat) (h : Nat) (st : List Int) (rows : List Value) : Prop where
 code : Blk W g 141 (ybt h ls.length st rows (yaA ls ls.length : Nat)).toArray
 words : Blk W h 143 (ybg .i64 (wat ls 16 0)).toArray
 gB : g < B
 hB : h < B
 stl : st.length = 16
 rl : rows.length = 16
 st : ∀ j (hj : j < st.length), 1 ≤ j → j ≤ yaA ls ls.length → st[j] = (cst ls j : Int)
 row : ∀ j (hj : j < rows.length), ∃ A c, rows[j] = .slice A (crow ls ls.length j).length c ∧ Reads W B 1 A (crow ls ls.length j).length (ints (csy (crow ls ls.length j)))
def CCode (W : World) (B g : Nat) (ls : List Nat) : Prop := ∃ h st rows, CHold W B g ls h st rows
section
variable {W W' : World} {B B' g : Nat} {ls : List Nat}
theorem CCode.below (h : CCode W B g ls) (hb : Below B W W') : CCode W' B g ls := by
 obtain ⟨k, st, rows, h⟩ := h
 exact ⟨k, st, rows, h.code.below hb h.gB, h.words.below hb h.hB, h.gB, h.hB, h.stl, h.rl, h.st, fun j hj => by
  obtain ⟨A, c, e, hr⟩ := h.row j hj
  exact ⟨A, c, e, hr.below hb⟩⟩
theorem CCode.more (h : CCode W B g ls) (hB : B ≤ B') : CCode W B' g ls := by
 obtain ⟨k, st, rows, h⟩ := h
 exact ⟨k, st, rows, h.code, h.words, qaZ h.gB hB, qaZ h.hB hB, h.stl, h.rl, h.st, fun j hj => by
  obtain ⟨A, c, e, hr⟩ := h.row j hj
  exact ⟨A, c, e, hr.more hB⟩⟩
theorem CCode.made (h : CCode W B g ls) : W.cell? ⟨g, 0, none⟩ = some (.bool true) := by
 obtain ⟨k, st, rows, h⟩ := h
 rw [h.code.cell, qaB]
 rfl
theorem CCode.deep (h : CCode W B g ls) : W.cell? ⟨g, 34, none⟩ = some (.int .i64 (yaA ls ls.length : Nat)) := by
 obtain ⟨k, st, rows, h⟩ := h
 rw [h.code.cell, qaB]
 exact ygR h.stl h.rl
theorem CCode.start (h : CCode W B g ls) (j : Nat) (h1 : 1 ≤ j) (h2 : j ≤ yaA ls ls.length) (h3 : j < 16) : W.cell? ⟨g, 2 + j, none⟩ = some (.int .i64 (cst ls j : Int)) := by
 obtain ⟨k, st, rows, h⟩ := h
 rw [h.code.cell, qaB, yf2 h.stl j h3, h.st j (by have := h.stl; omega) h1 h2]
theorem CCode.row (h : CCode W B g ls) (j : Nat) (h3 : j < 16) : ∃ A c, W.cell? ⟨g, 18 + j, none⟩ = some (.slice A (crow ls ls.length j).length c) ∧ (0 < (crow ls ls.length j).length → ∃ b off, A = some ⟨b, off, none⟩ ∧ b < B ∧ ∀ k s : Nat, (crow ls ls.length j)[k]? = some s → W.cell? ⟨b, off + k, none⟩ = some (.int .i64 (s : Int))) := by
 obtain ⟨k, st, rows, h⟩ := h
 obtain ⟨A, c, e, hr⟩ := h.row j (by have := h.rl; omega)
 refine ⟨A, c, ?_, fun hp => ?_⟩
 ·rw [h.code.cell, qaB, yfg h.stl h.rl j h3, e]
 ·obtain ⟨b, off, e2, hb, hc⟩ := hr.2 hp
  exact ⟨b, off, e2, hb, fun k s hk => hc k _ (csy_get hk)⟩
theorem CCode.words (h : CCode W B g ls) : ∃ b, b < B ∧ W.cell? ⟨g, 1, none⟩ = some (.slice (some ⟨b, 0, none⟩) ls.length ls.length) ∧ Blk W b 143 (ybg .i64 (wat ls 16 0)).toArray := by
 obtain ⟨k, st, rows, h⟩ := h
 refine ⟨k, h.hB, ?_, h.words⟩
 rw [h.code.cell, qaB]
 rfl
theorem CCode.at (h : CCode W B g ls) : g < B ∧ g < W.heap.size := by
 obtain ⟨k, st, rows, h⟩ := h
 exact ⟨h.gB, h.code.lt⟩
end
def CFar (W : World) (g : Nat) (ls : List Nat) (ok : Nat → Prop) : Prop :=
 ∃ B h st rows, CHold W B g ls h st rows ∧ B ≤ W.heap.size ∧ ok g ∧ ok h ∧ ∀ j (hj : j < rows.length) (A : Option Addr) (n c : Nat), rows[j] = .slice A n c → 0 < n → ∀ a : Addr, A = some a → ok a.block
section
variable {W W' : World} {B g : Nat} {ls : List Nat} {ok ok' S : Nat → Prop}
theorem CFar.code (h : CFar W g ls ok) : ∃ B, B ≤ W.heap.size ∧ CCode W B g ls := by
 obtain ⟨B, k, st, rows, h1, h2, _⟩ := h
 exact ⟨B, h2, k, st, rows, h1⟩
theorem CFar.touch (h : CFar W g ls ok) (ht : Touch W W' S) (hS : ∀ k, ok k → ¬ S k) : CFar W' g ls ok := by
 obtain ⟨B, k, st, rows, h, hB, o1, o2, o3⟩ := h
 refine ⟨B, k, st, rows, ⟨h.code.touch ht (hS _ o1), h.words.touch ht (hS _ o2), h.gB, h.hB, h.stl, h.rl, h.st, fun j hj => ?_⟩, qaA hB ht.size, o1, o2, o3⟩
 obtain ⟨A, c, e, hr⟩ := h.row j hj
 refine ⟨A, c, e, hr.1, fun hn => ?_⟩
 obtain ⟨b, off, e2, hb, hc⟩ := hr.2 hn
 refine ⟨b, off, e2, hb, fun q u hu => ?_⟩
 have := ht.block b (by omega) (hS b (o3 j hj A _ c e hn ⟨b, off, none⟩ e2))
 exact (qbO (w := W) (w' := W') (a := ⟨b, off + q, none⟩) this).trans (hc q u hu)
theorem CFar.mono (h : CFar W g ls ok) (hk : ∀ k, ok k → ok' k) : CFar W g ls ok' := by
 obtain ⟨B, k, st, rows, h, hB, o1, o2, o3⟩ := h
 exact ⟨B, k, st, rows, h, hB, hk _ o1, hk _ o2, fun j hj A n c e hn a ha => hk _ (o3 j hj A n c e hn a ha)⟩
theorem CCode.far (h : CCode W B g ls) (hB : B ≤ W.heap.size) : CFar W g ls (fun k => k < B) := by
 obtain ⟨k, st, rows, h⟩ := h
 refine ⟨B, k, st, rows, h, hB, h.gB, h.hB, fun j hj A n c e hn a ha => ?_⟩
 obtain ⟨A2, c2, e2, hr⟩ := h.row j hj
 rw [e] at e2
 injection e2 with e3 e4 _
 subst e3 e4
 obtain ⟨b, off, e5, hb, _⟩ := hr.2 hn
 rw [ha] at e5
 injection e5 with e5
 rw [e5]
 exact hb
end
theorem ccheck_ref (l : List Int) : ycI l = yat l := by
 have h2 := (yeV l).1
 have h1 := yfk l
 unfold ycI yat
 by_cases h : 257 < l.length
 ·rw [qag h, qag h]
 ·rw [qae h, qae h]
  unfold sumF yfM
  by_cases hg : yde l = true
  ·rw [qag hg, qag hg]
   by_cases u0 : yau l = 0
   ·rw [qag u0, qag (by omega), qag (by omega)]
   ·rw [qae u0]
    by_cases u1 : yau l = 1
    ·rw [qag u1]
     by_cases hp : (yap l : Int) = 16384
     ·rw [qag hp, qag (by omega)]
     ·rw [qae hp, qae (by omega)]
    ·rw [qae u1]
     by_cases hp : (yap l : Int) = 32768
     ·rw [qag hp, qag (by omega)]
     ·rw [qae hp, qae (by omega)]
  ·rw [qae hg, qae hg, qae (by omega)]
theorem tfits4 {x : Int} (hx : 0 ≤ x ∧ x ≤ 15) : fits x 4 := ⟨by omega, by omega, hx.1, by show x < 16; omega⟩
theorem tbox_apart {w : World} {B g pb : Nat} {v : Value} {R : List Nat} (hP : Blk w pb 104 #[.pointer (some ⟨g, 0, none⟩)]) (hH : WHold w B g v R) : ¬ WS g v pb := by
 rintro (e | e)
 ·subst e
  have h1 := hH.1
  unfold Blk at h1 hP
  rw [hP] at h1
  injection h1 with h1
  injection h1 with _ h2
  cases h2
 ·exact ya5 hH.2.1 hP (by decide) e
theorem tput1_any (B g pb : Nat) (v : Value) (R : List Nat) (x : Int) (d : Nat) (w : World) (hx : 0 ≤ x ∧ x ≤ 15) (hd : 1 ≤ d ∧ d ≤ 257) (hP : Blk w pb 104 #[.pointer (some ⟨g, 0, none⟩)]) (hH : WHold w B g v R) (hB : B ≤ w.heap.size) (hR : R.length ≤ 1000100000) :
  Calls prog 106 #[.int .i64 x, .int .i64 (d : Int), .pointer (some ⟨pb, 0, none⟩)] w fun e w' => (∃ r, e = .returned r) ∧ ∃ v', WHold w' B g v' (R ++ trb x d) ∧ Touch w w' (WS g v) ∧ Sep w v v' := by
 have hap := tbox_apart hP hH
 have x1 : w.cell? ⟨pb, 0, none⟩ = some (.pointer (some ⟨g, 0, none⟩)) := hP.cell 0
 have hdl : (digI x 4).length = 4 := by unfold digI; rw [yad]; rfl
 have Hput := qaa (bput_is B g x 4 v R w (tfits4 hx) hH hB (by omega))
 have Hgam := qaa fun W v1 hH hB => wgamma_yes B g (d : Int) v1 (R ++ digI x 4) W ⟨by omega, by omega⟩ hH hB (by rw [qab, hdl]; omega)
 have Hnext := qaa fun (w1 : World) (h : Touch w w1 (WS g v)) => (hP.touch h hap).cell 0
 have HB := qaa hB
 have hass : R ++ trb x d = R ++ digI x 4 ++ gam d := by unfold trb; rw [qam]
 rw [qan] at Hgam
 rw [hass]
 clear hap hdl hass hP hH hB hR hx hd
 generalize R ++ digI x 4 = R1 at *
 generalize R1 ++ gam d = R2 at *
 go_enter func106, ntmps106
 go_wp2_with (first
  | (go_at_call 107; refine Hput.out.mono ?_; rintro e w1 ⟨rfl, v1, hH1, ht1, hs1⟩; have HH1 := qaa hH1; have Ht1 := qaa ht1; have Hs1 := qaa hs1; have x2 := Hnext.out _ ht1; clear hH1 ht1 hs1)
  | (go_at_call 108; refine (Hgam.out _ _ HH1.out (qaA HB.out Ht1.out.size)).mono ?_; rintro e w2 ⟨rfl, v2, hH2, ht2, hs2⟩; have HH2 := qaa hH2; have Ht2 := qaa ht2; have Hs2 := qaa hs2; clear hH2 ht2 hs2))
 go_end0
 exact ⟨⟨_, rfl⟩, v2, HH2.out, touch_ws Ht1.out Ht2.out Hs1.out, Hs1.out.trans Hs2.out Ht1.out.size⟩
theorem tint_info2 : (prog.info? 3).map (fun i => (i.zero, i.size, i.bytes)) = some (some (.int .i64 0), 1, 8) := by kernel_rfl
theorem tints_drop (l : List Int) (k : Nat) : (ints l).drop k = ints (l.drop k) := by simp [ints]
def TEach (w : World) (B g : Nat) (v : Value) (R : List Nat) (l : List Int) (i : Nat) (wr : World) : Prop :=
 ∃ R' v', WHold wr B g v' R' ∧ Touch w wr (WS g v) ∧ Sep w v v' ∧ R' ++ yaw (l.drop i) = R ++ yaw l ∧ R'.length ≤ R.length + 67 * i
section
variable {w wr : World} {B g pb N0 : Nat} {v : Value} {R : List Nat} {l : List Int}
theorem TEach.step (hr : R.length ≤ 1000000000) (hl : l.length ≤ 257) (h15 : ∀ i (h : i < l.length), 0 ≤ l[i] ∧ l[i] ≤ 15) (hB : B ≤ w.heap.size) (hP : Blk w pb 104 #[.pointer (some ⟨g, 0, none⟩)]) (hH : WHold w B g v R)
  (i k : Nat) (h : TEach w B g v R l i wr) (x : Int) (hik : i < k) (hk : k ≤ l.length) (hx : ∀ j (hj : j < l.length), i ≤ j → j < k → l[j] = x) (hs : ∀ hj : k < l.length, l[k] ≠ x) :
  Calls prog 106 #[.int .i64 x, .int .i64 ((k - i : Nat) : Int), .pointer (some ⟨pb, 0, none⟩)] wr fun e w' => (∃ r, e = .returned r) ∧ TEach w B g v R l k w' := by
 obtain ⟨R', v', h1, h2, h3, h4, h5⟩ := h
 have hil : i < l.length := by omega
 have hx15 : 0 ≤ x ∧ x ≤ 15 := by have := h15 i hil; rw [hx i hil (qad _) hik] at this; exact this
 refine (tput1_any B g pb v' R' x (k - i) wr hx15 ⟨by omega, by omega⟩ (hP.touch h2 (tbox_apart hP hH)) h1 (qaA hB h2.size) (by omega)).mono ?_
 rintro e w' ⟨hr', v2, g1, g2, g3⟩
 refine ⟨hr', R' ++ trb x (k - i), v2, g1, touch_ws h2 g2 h3, h3.trans g3 h2.size, ?_, ?_⟩
 ·rw [← h4, tbits_at l x i k hik hk hx hs, qam]
 ·rw [qab]
  have := trb_len x (k - i) (by omega) (by omega)
  omega
end
theorem teach_any (B N0 g pb : Nat) (v : Value) (R : List Nat) (l : List Int) (A : Option Addr) (n c : Nat) (w : World) (hr : Reads w N0 1 A n (ints l)) (hg : N0 ≤ g ∧ N0 ≤ B) (hl : l.length ≤ 257) (h15 : ∀ i (h : i < l.length), 0 ≤ l[i] ∧ l[i] ≤ 15)
  (hP : Blk w pb 104 #[.pointer (some ⟨g, 0, none⟩)]) (hH : WHold w B g v R) (hB : B ≤ w.heap.size) (hR : R.length ≤ 1000000000) (hc : n ≤ c) :
  Calls prog 105 #[.slice A n c, .func (.func 106) #[] #[.pointer (some ⟨pb, 0, none⟩)]] w fun e w' => (∃ r, e = .returned r) ∧ ∃ v', WHold w' B g v' (R ++ yaw l) ∧ Touch w w' (WS g v) ∧ Sep w v v' := by
 obtain ⟨i0, hi, hz0, hz1, hz2⟩ := qb1 tint_info2
 have en : l.length = n := by have := hr.1; rw [yab] at this; omega
 have h0 : TEach w B g v R l 0 w := ⟨R, v, hH, Touch.refl _ _, fun k hk => qay hk, rfl, by omega⟩
 have hN0 : N0 ≤ w.heap.size := by have := hH.1.lt; omega
 have Hbelow : Hid (∀ i wr, TEach w B g v R l i wr → Below N0 w wr) := qaa fun i wr h => by
  obtain ⟨R', v', h1, h2, h3, h4, h5⟩ := h
  refine h2.below (fun k _ e => ?_) hN0
  rcases e with e | e
  ·omega
  ·exact qaA hg.2 (hH.2.1.lt k e).1
 have Hstep := qaa fun wr i k h x => TEach.step (wr := wr) hR hl h15 hB hP hH i k h x
 have Hend : Hid (∀ wr, TEach w B g v R l n wr → ∃ v', WHold wr B g v' (R ++ yaw l) ∧ Touch w wr (WS g v) ∧ Sep w v v') := qaa fun wr h => by
  obtain ⟨R', v', h1, h2, h3, h4, h5⟩ := h
  rw [qaH (by omega)] at h4
  have e : R' = R ++ yaw l := by rw [← h4]; simp [yaw]
  subst e
  exact ⟨v', h1, h2, h3⟩
 have En := qaa en
 have Hn : (n : Int) ≤ 257 := by omega
 have H0 := qaa h0
 have Hr0 := qaa hr
 have Hh15 := qaa h15
 clear hr hg hl h15 hP hH hB hR h0 hN0 en
 go_enter func105, ntmps105
 go_wp2
 go_step3
 go_wp2
 go_step3
 go_wp2
 go_loopw [0] (fun s wr => ∃ (i m ck : Nat) (Ak : Option Addr), i + m = n ∧ s = .slice Ak m ck ∧ m ≤ ck ∧ Hid (Reads w N0 1 Ak m (ints (l.drop i))) ∧ Hid (TEach w B g v R l i wr)) (fun s _ => match s with | .slice _ m _ => m | _ => 0)
 case atStart => exact ⟨0, n, c, A, by omega, rfl, hc, qaa Hr0.out, H0⟩
 case round =>
  obtain ⟨i, m, ck, Ak, hk, rfl, hck, Hr, HI⟩ := hrel
  clear H0 Hr0
  by_cases hlt : 0 < m
  ·have hki : (0 : Int) < (m : Int) := by omega
   have hil : i < l.length := by rw [En.out]; omega
   obtain ⟨x, hx⟩ : ∃ x, l[i] = x := ⟨_, rfl⟩
   obtain ⟨b, off, rfl, hb, hcell⟩ := (Hr.out.below (Hbelow.out i wr HI.out)).2 hlt
   have Hcell : Hid (∀ a (ha : i + a < l.length), a < m → wr.cell? ⟨b, off + a, none⟩ = some (.int .i64 l[i + a])) := qaa fun a ha _ => hcell a _ (by rw [yai _ a (by simp; omega)]; simp)
   have x1 : wr.cell? ⟨b, off, none⟩ = some (.int .i64 x) := by
    have := Hcell.out 0 hil hlt
    rw [qbv] at this
    rw [this]
    show some (Value.int .i64 l[i]) = _
    rw [hx]
   have Hx := qaa hx
   clear hcell hx
   go_wp2
   go_loop [0, 11] (fun s j => ∃ a : Nat, a ≤ m ∧ s = .slice (some ⟨b, off, none⟩) m ck ∧ j = .int .i64 a ∧ Hid (∀ j (hj : j < l.length), i ≤ j → j < i + a → l[j] = x)) (fun _ j => m - (intOf j).toNat)
   case atStart => exact ⟨0, by omega, rfl, rfl, qaa fun j hj h1 h2 => by omega⟩
   case round =>
    obtain ⟨a, ha, rfl, rfl, Hg⟩ := hrel
    by_cases hal : a < m
    ·have hai : (0 : Int) ≤ (a : Int) ∧ (a : Int) < m := by omega
     have hkl : i + a < l.length := by rw [En.out]; omega
     have x2 := Hcell.out a hkl hal
     by_cases hy : l[i + a] = x
     ·rw [hy] at x2
      have hb1 : (x == x) = true := by simp
      have Hg2 : Hid (∀ j (hj : j < l.length), i ≤ j → j < i + (a + 1) → l[j] = x) := qaa fun j hj h1 h2 => by
       by_cases e : j = i + a
       ·subst e; exact hy
       ·exact Hg.out j hj h1 (by omega)
      clear hy
      go_wp2
      go_round
      case rel => exact ⟨a + 1, by omega, rfl, iv (by omega), Hg2⟩
      case measure => simp only [intOf]; omega
     ·have ha0 : 0 < a := by
       rcases qbm a with h | h
       ·subst h
        exact absurd Hx.out hy
       ·exact h
      have hfrom := fun W => yby (P := prog) underlying28 hi hz1 (some ⟨b, off, none⟩) m ck a (by omega) W
      have hst := Hstep.out wr i (i + a) HI.out x (by omega) (by omega) Hg.out (fun _ => hy)
      rw [qbV] at hst
      have Hst := qaa hst
      obtain ⟨y, hye⟩ : ∃ y, l[i + a] = y := ⟨_, rfl⟩
      have hb1 : (y == x) = false := by rw [← hye]; simpa using hy
      rw [hye] at x2
      clear hst hye hy
      go_wp2_with (go_at_call 106; refine Hst.out.mono ?_; rintro e w2 ⟨⟨v2, rfl⟩, hI2⟩; have HI2 := qaa hI2; clear hI2)
      have hcut : Reads w N0 1 (some ⟨b, off + a, none⟩) (m - a) (ints (l.drop (i + a))) := by
       have := Hr.out.cut (k := a) (cap := ck) (by omega) (by omega)
       rw [qae (by omega), qcK, tints_drop, qbt, qbR, ydJ] at this
       exact this
      refine ⟨⟨i + a, m - a, ck - a, _, by omega, rfl, by omega, qaa hcut, HI2⟩, ?_⟩
      show m - a < m
      omega
    ·obtain rfl : a = m := by omega
     have hst := Hstep.out wr i (i + a) HI.out x (by omega) (by rw [En.out]; omega) Hg.out (fun hj => by rw [En.out] at hj; omega)
     rw [qbV, hk] at hst
     have Hst := qaa hst
     clear hst
     go_wp2_with (go_at_call 106; refine Hst.out.mono ?_; rintro e w2 ⟨⟨v2, rfl⟩, hI2⟩; have HI2 := qaa hI2; clear hI2)
     rw [qcB]
     refine qbw (results_none rfl _ _ _) rfl ?_
     exact ⟨⟨_, rfl⟩, Hend.out _ HI2.out⟩
  ·obtain rfl : m = 0 := by omega
   obtain rfl : i = n := by omega
   go_wp2
   rw [Exit.noGoto_normal]
   go_end0
   exact ⟨⟨_, rfl⟩, Hend.out _ HI.out⟩
theorem tmkfunc (fn : Fn) (first cap : Array Value) (w : World) : (Instr.makeFunc fn first cap).run prog w = .ok (.func fn first cap) w := rfl
theorem p_tput_yes (B N0 g : Nat) (v : Value) (R : List Nat) (l : List Int) (A : Option Addr) (n c : Nat) (w : World) (hr : Reads w N0 1 A n (ints l)) (hg : N0 ≤ g ∧ N0 ≤ B) (h0 : yat l = 0) (hH : WHold w B g v R) (hB : B ≤ w.heap.size) (hR : R.length ≤ 1000000000) (hc : n ≤ c) :
  Calls prog 63 #[.pointer (some ⟨g, 0, none⟩), .slice A n c] w fun e w' => e = .returned (.int .i64 0) ∧ ∃ v', WHold w' B g v' (R ++ yaw l) ∧ Touch w w' (WS g v) ∧ Sep w v v' := by
 obtain ⟨hl, hgd⟩ := ydl h0
 have en : l.length = n := by have := hr.1; rw [yab] at this; omega
 have hN0 : N0 ≤ w.heap.size := by have := hH.1.lt; omega
 have Hck := qaa fun (W : World) (hW : Below w.heap.size w W) => ydZ l A n c W (by omega) ((hr.below (hW.mono hN0)).more (qaA hN0 hW.size))
 rw [yfb, h0] at Hck
 have Heach := qaa fun (W : World) (hW : Below w.heap.size w W) hP => teach_any B N0 g w.heap.size v R l A n c W (hr.below (hW.mono hN0)) hg hl (yaJ hgd) hP (hH.below hW (qad _)) (qaA hB hW.size) hR hc
 have Hb1 := qaa fun o => (qak w.heap.size w).alloc (qad _) o
 have Hnew := qaa (Blk.new w 104 #[.pointer (some ⟨g, 0, none⟩)])
 have hmf := tmkfunc
 clear hr hg h0 hH hB hR hc hl hgd en hN0
 generalize R ++ yaw l = R2 at *
 go_enter func63, ntmps63
 go_wp2_with (first
  | (go_at_call 104; refine (Hck.out _ (Hb1.out _)).mono ?_; rintro e w2 ⟨rfl, hb2⟩; have Hb2 := qaa ((Hb1.out _).trans (hb2.mono (by simp))); have HP2 := qaa (Hnew.out.below hb2 (by simp)); clear hb2)
  | (go_at_call 105; refine (Heach.out _ Hb2.out HP2.out).mono ?_; rintro e w3 ⟨⟨v3, rfl⟩, hp3⟩; have Hp3 := qaa hp3; clear hp3))
 go_ret
 obtain ⟨v', g1, g2, g3⟩ := Hp3.out
 refine ⟨rfl, v', g1, (yal Hb2.out (qad _)).trans g2, fun k hk => ?_⟩
 rcases g3 k hk with e | e
 ·exact qay e
 ·exact qaI (qaA Hb2.out.size e)
theorem twriter_new (w : World) : WHold (w.alloc (.cells #[.slice none 0 0, .int .i64 0] 102)) w.heap.size w.heap.size (.slice none 0 0) [] := by
 refine ⟨by simpa [fr] using Blk.new w 102 #[.slice none 0 0, .int .i64 0], ?_, yfi⟩
 simpa [ych, bc] using qbn (w.alloc (.cells #[.slice none 0 0, .int .i64 0] 102)) w.heap.size 5 1
theorem twriter_back {w W w' : World} {o : Obj} {v : Value} (hW : W = w.alloc o) (h : Touch W w' (WS w.heap.size v)) (hv : ∀ k, v.ownBlock = some k → w.heap.size ≤ k) : Below w.heap.size w w' := by
 subst hW
 refine ((qak w.heap.size w).alloc (qad _) o).trans (h.below (fun k _ e => ?_) (by simp))
 rcases e with e | e
 ·omega
 ·exact hv k e
theorem rgamma_no (l : List UInt8) (p g : Nat) (e : Int) (w : World) (hl : l.length ≤ 1099511627776) (hp : p ≤ 8 * l.length) (hB : RHold w g l p) (he : (ybr ((yag l).drop p)).2.2 = e) (hne : e ≠ 0) :
  Calls prog 168 #[.pointer (some ⟨g, 0, none⟩)] w fun r w' => r = .returned (.tuple #[.int .i64 0, .int .i64 e]) ∧ ∃ k, w.drewN k = w' := by
 have hlen : ((yag l).drop p).length = 8 * l.length - p := by rw [qas, yax]
 have hzl := lz_le ((yag l).drop p)
 unfold ybr at he
 rw [hlen] at he hzl
 have Hnou := qaa fun v hB => ycG l p g v hl hp hB
 have Hleft := qaa fun v hB => ybT l p g v (by omega) hp hB
 have hMi : ((8 * l.length - p : Nat) : Int) ≤ 8796093022208 := by omega
 obtain ⟨c1, c2, z1, z2⟩ := Blk.two hB
 have hg := Blk.lt hB
 have HB := qaa hB
 clear hB hl hp hlen
 generalize lz ((yag l).drop p) = z at *
 generalize 8 * l.length - p = M at *
 by_cases a1 : z = M
 ·rw [qag a1] at he
  subst he
  have b1 : (z : Int) = (M : Int) := by omega
  have b2 : ((z : Int) == (M : Int)) = true := by simp; omega
  subst a1
  go_enter func168, ntmps168
  go_wp2_with (first
   | (go_at_call 129; refine (ycp g _).mono ?_; rintro e w1 ⟨rfl, rfl⟩)
   | (go_at_call 131; refine (Hnou.out _ (HB.out.drewN 0)).mono ?_; rintro e w1 ⟨rfl, k0, rfl⟩)
   | (go_at_call 130; refine (Hleft.out _ (HB.out.drewN _)).mono ?_; rintro e w1 ⟨rfl, k1, rfl⟩))
  go_ret2
  exact ⟨rfl, _, rfl⟩
 ·rw [qae a1] at he
  have b1 : ¬ (z : Int) = (M : Int) := by omega
  have b2 : ((z : Int) == (M : Int)) = false := by simp; omega
  by_cases a2 : 32 ≤ z
  ·rw [qag a2] at he
   subst he
   have b3 : (32 : Int) ≤ (z : Int) := by omega
   go_enter func168, ntmps168
   go_wp2_with (first
    | (go_at_call 129; refine (ycp g _).mono ?_; rintro e w1 ⟨rfl, rfl⟩)
    | (go_at_call 131; refine (Hnou.out _ (HB.out.drewN 0)).mono ?_; rintro e w1 ⟨rfl, k0, rfl⟩)
    | (go_at_call 130; refine (Hleft.out _ (HB.out.drewN _)).mono ?_; rintro e w1 ⟨rfl, k1, rfl⟩))
   go_ret2
   exact ⟨rfl, _, rfl⟩
  ·rw [qae a2] at he
   by_cases a3 : M < 2 * z + 1
   ·rw [qag a3] at he
    subst he
    have b3 : ¬ (32 : Int) ≤ (z : Int) := by omega
    have b4 : (M : Int) < 2 * (z : Int) + 1 := by omega
    go_enter func168, ntmps168
    go_wp2_with (first
     | (go_at_call 129; refine (ycp g _).mono ?_; rintro e w1 ⟨rfl, rfl⟩)
     | (go_at_call 131; refine (Hnou.out _ (HB.out.drewN 0)).mono ?_; rintro e w1 ⟨rfl, k0, rfl⟩)
     | (go_at_call 130; refine (Hleft.out _ (HB.out.drewN _)).mono ?_; rintro e w1 ⟨rfl, k1, rfl⟩))
    go_ret2
    exact ⟨rfl, ⟨_, rfl⟩⟩
   ·rw [qae a3] at he
    exact absurd he.symm hne
theorem tcheck1_any (lb nb M ol cv : Nat) (Av : Option Addr) (out : List Int) (x cnt last : Int) (W : World) (hol : out.length = ol) (hle : ol ≤ M) (hM : M ≤ 257) (hlast : (out = [] ∧ last = -1) ∨ out.getLast? = some last) (hx : 0 ≤ x)
  (c1 : W.cell? ⟨lb, 0, none⟩ = some (.slice Av ol cv)) (c2 : W.cell? ⟨nb, 0, none⟩ = some (.int .i64 (M : Int))) (hr : Reads W W.heap.size 1 Av ol (ints out)) :
  Calls prog 167 #[.int .i64 x, .int .i64 cnt, .pointer (some ⟨lb, 0, none⟩), .pointer (some ⟨nb, 0, none⟩)] W fun e w' => e = .returned (.int .i64 (if x = last then 5 else if (M : Int) - ol < cnt then 40 else 0)) ∧ w' = W := by
 have hMi : (0 : Int) ≤ (ol : Int) ∧ (ol : Int) ≤ (M : Int) ∧ (M : Int) ≤ 257 := by omega
 rcases qbm ol with h0 | h0
 ·subst h0
  have ho : out = [] := qa1.1 hol
  have hl : last = -1 := by
   rcases hlast with h | h
   ·exact h.2
   ·rw [ho] at h; cases h
  rw [qae (by omega)]
  clear hlast hl hol ho hr hle hM
  by_cases hc : (M : Int) - ((0 : Nat) : Int) < cnt
  ·rw [qag hc]
   have hc2 : (M : Int) < cnt := by omega
   clear hc
   go_enter func167, ntmps167
   go_wp2
   go_ret
   exact ⟨rfl, rfl⟩
  ·rw [qae hc]
   have hc2 : ¬ (M : Int) < cnt := by omega
   clear hc
   go_enter func167, ntmps167
   go_wp2
   go_ret
   exact ⟨rfl, rfl⟩
 ·obtain ⟨p, hp⟩ : ∃ p, p + 1 = ol := ⟨ol - 1, by omega⟩
  have hpl : p < out.length := by omega
  have hlp : out[p] = last := by
   rcases hlast with h | h
   ·rw [h.1] at hpl; simp at hpl
   ·rw [List.getLast?_eq_getElem?, hol, show ol - 1 = p from by omega, qah hpl] at h
    injection h
  obtain ⟨b, off, rfl, hb, hcell⟩ := hr.2 h0
  have x1 : W.cell? ⟨b, off + p, none⟩ = some (.int .i64 last) := by
   rw [← hlp]
   exact hcell p _ (yai out p hpl)
  have hpos : (0 : Int) < (ol : Int) := by omega
  have hsub : (ol : Int) - 1 = (p : Int) := by omega
  have hw1 : IntKind.i64.wrap ((ol : Int) - 1) = (p : Int) := by rw [qal]; omega
  have hw2 : IntKind.i64.wrap (p : Int) = (p : Int) := by rw [qal]; omega
  have hpi : (0 : Int) ≤ (p : Int) ∧ (p : Int) < (ol : Int) := by omega
  clear hlast hlp hpl hp hr hcell hol hle hM h0
  by_cases hxl : x = last
  ·rw [qag hxl]
   have hb1 : (last == x) = true := by simpa using hxl.symm
   clear hxl
   go_enter func167, ntmps167
   go_wp2
   go_ret
   exact ⟨rfl, rfl⟩
  ·rw [qae hxl]
   have hb1 : (last == x) = false := by simpa using fun h => hxl h.symm
   clear hxl
   by_cases hc : (M : Int) - (ol : Int) < cnt
   ·rw [qag hc]
    go_enter func167, ntmps167
    go_wp2
    go_ret
    exact ⟨rfl, rfl⟩
   ·rw [qae hc]
    go_enter func167, ntmps167
    go_wp2
    go_ret
    exact ⟨rfl, rfl⟩
end Go.Proofs.YtanjhbkbpalnaaaGreat
