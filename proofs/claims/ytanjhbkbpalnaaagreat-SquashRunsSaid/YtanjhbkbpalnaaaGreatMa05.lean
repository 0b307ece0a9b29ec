/-
 What the law of the last of these texts stands on, part 5.
-/
import Derived.Test.YtanjhbkbpalnaaaGreatMa01
set_option maxRecDepth 100000
set_option maxHeartbeats 8000000
open Go.Proofs.Tryz
namespace Go.Proofs.YtanjhbkbpalnaaaGreat
set_option linter.unusedSimpArgs false
set_option linter.unusedVariables false
open Go.ChangeShapes Go.WideShapes Go.ChangeAt Go.RowKit Go.Joins Go.Deep
def ybc : Nat → List Int → List LTh → List LTh
 | _, [], out => out
 | i, c :: t, out => ybc (i + 1) t (if 0 < c then lput out ⟨c, [i], true⟩ else out)
def yaa (counts : List Int) : List LTh := ybc 0 counts []
def isum (g : Nat → Int → Int) : Nat → List Int → Int
 | _, [] => 0
 | i, c :: t => g i c + isum g (i + 1) t
theorem yaO {g h : Nat → Int → Int} : ∀ (l : List Int) (i : Nat), (∀ j (hj : j < l.length), g (i + j) l[j] = h (i + j) l[j]) → isum g i l = isum h i l
 | [], _, _ => rfl
 | c :: t, i, e => by
  have h0 := e 0 (by simp)
  have ih : isum g (i + 1) t = isum h (i + 1) t := yaO t (i + 1) fun j hj => by
   have e2 := e (j + 1) (by simpa using hj)
   rw [show i + (j + 1) = i + 1 + j from by omega] at e2
   exact e2
  simp only [qbv, qaE] at h0
  show g i c + isum g (i + 1) t = h i c + isum h (i + 1) t
  rw [h0, ih]
theorem isum_add (g h : Nat → Int → Int) : ∀ (l : List Int) (i : Nat), isum (fun j c => g j c + h j c) i l = isum g i l + isum h i l
 | [], _ => rfl
 | c :: t, i => by
  have ih := isum_add g h t (i + 1)
  simp only [isum, ih]
  omega
theorem isum_zero (l : List Int) : ∀ i, isum (fun _ _ => 0) i l = 0 := by
 induction l with
 | nil => intro i; rfl
 | cons c t ih => intro i; simp [isum, ih]
theorem lsum_lput (f : LTh → Int) (x : LTh) (R : List LTh) : lsum f (lput R x) = lsum f R + f x := by
 obtain ⟨r1, r2, h1, h2, _, _⟩ := yaY x R
 rw [h2, h1, ycJ, ycJ]
 simp only [lsum]
 omega
theorem ye1 (x y : LTh) (R : List LTh) : y ∈ lput R x ↔ y = x ∨ y ∈ R := by
 obtain ⟨r1, r2, h1, h2, _, _⟩ := yaY x R
 rw [h2, h1]
 simp only [qbk, qaC]
 constructor
 ·rintro (h | h | h)
  ·exact qaI (qay h)
  ·exact qay h
  ·exact qaI (qaI h)
 ·rintro (h | h | h)
  ·exact qaI (qay h)
  ·exact qay h
  ·exact qaI (qaI h)
theorem lput_order (x : LTh) (R : List LTh) (h : R.Pairwise (fun a b => lle a b = true)) : (lput R x).Pairwise (fun a b => lle a b = true) := by
 obtain ⟨r1, r2, h1, h2, h3, h4⟩ := yaY x R
 rw [h1] at h
 obtain ⟨o1, o2, o3⟩ := qa2.1 h
 rw [h2, qa2]
 have hx2 : ∀ z ∈ r2, lle x z = true := by
  intro z hz
  cases hr : r2 with
  | nil => rw [hr] at hz; cases hz
  | cons y t =>
   have hy := lle_total (h4 y t hr)
   rw [hr] at hz o2
   rcases qaC.1 hz with rfl | hz
   ·exact hy
   ·exact ygv hy ((qa9.1 o2).1 z hz)
 refine ⟨o1, qa9.2 ⟨hx2, o2⟩, ?_⟩
 intro a ha b hb
 rcases qaC.1 hb with rfl | hb
 ·exact h3 a ha
 ·exact o3 a ha b hb
theorem lput_dist (x : LTh) (R : List LTh) (h : R.Pairwise (fun a b => a.syms ≠ b.syms)) (hx : ∀ y ∈ R, y.syms ≠ x.syms) : (lput R x).Pairwise (fun a b => a.syms ≠ b.syms) := by
 obtain ⟨r1, r2, h1, h2, h3, h4⟩ := yaY x R
 rw [h1] at h hx
 obtain ⟨o1, o2, o3⟩ := qa2.1 h
 rw [h2, qa2]
 refine ⟨o1, qa9.2 ⟨fun z hz => (hx z (qbp _ hz)).symm, o2⟩, ?_⟩
 intro a ha b hb
 rcases qaC.1 hb with rfl | hb
 ·exact hx a (qby _ ha)
 ·exact o3 a ha b hb
theorem lfirst_sum (f : LTh → Int) : ∀ (l : List Int) (i : Nat) (out : List LTh), lsum f (ybc i l out) = lsum f out + isum (fun j c => if 0 < c then f ⟨c, [j], true⟩ else 0) i l
 | [], i, out => by simp [ybc, isum]
 | c :: t, i, out => by
  have ih := lfirst_sum f t (i + 1) (if 0 < c then lput out ⟨c, [i], true⟩ else out)
  show lsum f (ybc (i + 1) t _) = lsum f out + ((if 0 < c then f ⟨c, [i], true⟩ else 0) + isum _ (i + 1) t)
  rw [ih]
  by_cases h : 0 < c
  ·rw [qag h, qag h, lsum_lput]; omega
  ·rw [qae h, qae h]; omega
theorem yf8 : ∀ (l : List Int) (i : Nat) (out : List LTh), out.Pairwise (fun a b => lle a b = true) → (ybc i l out).Pairwise (fun a b => lle a b = true)
 | [], i, out, h => h
 | c :: t, i, out, h => by
  refine yf8 t (i + 1) _ ?_
  split
  ·exact lput_order _ _ h
  ·exact h
theorem lfirst_mem : ∀ (l : List Int) (i : Nat) (out : List LTh) (x : LTh), x ∈ ybc i l out ↔ x ∈ out ∨ ∃ j, ∃ hj : j < l.length, 0 < l[j] ∧ x = ⟨l[j], [i + j], true⟩
 | [], i, out, x => by simp [ybc]
 | c :: t, i, out, x => by
  have ih := lfirst_mem t (i + 1) (if 0 < c then lput out ⟨c, [i], true⟩ else out) x
  show x ∈ ybc (i + 1) t _ ↔ _
  rw [ih]
  constructor
  ·rintro (h | ⟨j, hj, h1, h2⟩)
   ·by_cases hc : 0 < c
    ·rw [qag hc, ye1] at h
     rcases h with rfl | h
     ·exact qaI ⟨0, by simp, hc, rfl⟩
     ·exact qay h
    ·rw [qae hc] at h
     exact qay h
   ·exact qaI ⟨j + 1, by simpa using hj, h1, by rw [h2, show i + 1 + j = i + (j + 1) from by omega]; rfl⟩
  ·rintro (h | ⟨j, hj, h1, h2⟩)
   ·refine qay ?_
    split
    ·exact (ye1 _ _ _).2 (qaI h)
    ·exact h
   ·cases j with
    | zero =>
     refine qay ?_
     rw [qag (show 0 < c from h1)]
     exact (ye1 _ _ _).2 (qay h2)
    | succ j => exact qaI ⟨j, by simpa using hj, h1, by rw [h2, show i + 1 + j = i + (j + 1) from by omega]; rfl⟩
theorem ygw : ∀ (l : List Int) (i : Nat) (out : List LTh), out.Pairwise (fun a b => a.syms ≠ b.syms) → (∀ x ∈ out, ∃ j, j < i ∧ x.syms = [j]) → (ybc i l out).Pairwise (fun a b => a.syms ≠ b.syms)
 | [], i, out, h, _ => h
 | c :: t, i, out, h, hs => by
  refine ygw t (i + 1) _ ?_ ?_
  ·split
   ·refine lput_dist _ _ h fun y hy => ?_
    obtain ⟨j, hj, e⟩ := hs y hy
    rw [e]
    intro e2
    injection e2 with e2 _
    omega
   ·exact h
  ·intro x hx
   split at hx
   ·rcases (ye1 _ _ _).1 hx with rfl | hx
    ·exact ⟨i, by omega, rfl⟩
    ·obtain ⟨j, hj, e⟩ := hs x hx
     exact ⟨j, by omega, e⟩
   ·obtain ⟨j, hj, e⟩ := hs x hx
    exact ⟨j, by omega, e⟩
section
variable (counts : List Int)
theorem yan (x : LTh) : x ∈ yaa counts ↔ ∃ j, ∃ hj : j < counts.length, 0 < counts[j] ∧ x = ⟨counts[j], [j], true⟩ := by
 unfold yaa
 rw [lfirst_mem]
 simp
theorem yaE : yaP (yaa counts) :=
 ⟨fun x hx => by obtain ⟨j, hj, _, rfl⟩ := (yan counts x).1 hx; rfl, yeM (yf8 counts 0 [] qbA)⟩
theorem ybX : ∀ x ∈ yaa counts, 0 < x.w := fun x hx => by
 obtain ⟨j, hj, h, rfl⟩ := (yan counts x).1 hx
 exact h
theorem lleaves_dist : (yaa counts).Pairwise (fun a b => a.syms ≠ b.syms) := ygw counts 0 [] qbA (by simp)
theorem ybO (f : LTh → Int) : lsum f (yaa counts) = isum (fun j c => if 0 < c then f ⟨c, [j], true⟩ else 0) 0 counts := by
 unfold yaa
 rw [lfirst_sum]
 simp [lsum]
end
def lhas (s : Nat) (x : LTh) : Int := (x.syms.count s : Nat)
theorem yho (s : Nat) : LAdds (lhas s) := fun a b => by
 show ((List.count s (a.syms ++ b.syms) : Nat) : Int) = _
 rw [List.count_append]
 rfl
def lval (counts : List Int) (x : LTh) : Int := isum (fun j c => c * lhas j x) 0 counts
theorem lval_adds (counts : List Int) : LAdds (lval counts) := fun a b => by
 unfold lval
 rw [← isum_add]
 refine yaO counts 0 fun j hj => ?_
 rw [yho, Int.mul_add]
theorem isum_at : ∀ (l : List Int) (i s : Nat) (h : s < l.length), isum (fun j c => if j = i + s then c else 0) i l = l[s]
 | c :: t, i, 0, _ => by
  have : isum (fun j c => if j = i + 0 then c else 0) (i + 1) t = 0 := (yaO (h := fun _ _ => 0) t (i + 1) fun j hj => by rw [qae (by omega)]).trans (isum_zero t (i + 1))
  show (if i = i + 0 then c else 0) + isum _ (i + 1) t = c
  rw [this]
  simp
 | c :: t, i, s + 1, h => by
  have ih := isum_at t (i + 1) s (by simpa using h)
  show (if i = i + (s + 1) then c else 0) + isum _ (i + 1) t = t[s]'(by simpa using h)
  rw [qae (by omega), ← ih, Int.zero_add]
  exact yaO t (i + 1) fun j hj => by rw [show i + 1 + s = i + (s + 1) from by omega]
theorem lval_leaf (counts : List Int) (s : Nat) (h : s < counts.length) : lval counts ⟨counts[s], [s], true⟩ = counts[s] := by
 rw [← isum_at counts 0 s h]
 refine yaO counts 0 fun j hj => ?_
 show counts[j] * (([s].count (0 + j) : Nat) : Int) = if 0 + j = 0 + s then counts[j] else 0
 rw [qaz, qaz, List.count_singleton]
 by_cases e : j = s
 ·subst e; simp
 ·rw [qae e, qae (by simpa using fun h : s = j => e h.symm)]; simp
theorem lpacks_val {f g : LTh → Int} (hf : LAdds f) (hg : LAdds g) : ∀ R : List LTh, (∀ x ∈ R, f x = g x) → ∀ x ∈ yas R, f x = g x
 | [], _, x, h => by cases h
 | [_], _, x, h => by cases h
 | a :: b :: t, e, x, h => by
  rcases qaC.1 h with rfl | h
  ·rw [hf, hg, e a (by simp), e b (by simp)]
  ·exact lpacks_val hf hg t (fun y hy => e y (by simp [hy])) x h
theorem lrow_val {leaves : List LTh} (hl : yaP leaves) {f g : LTh → Int} (hf : LAdds f) (hg : LAdds g) (h0 : ∀ x ∈ leaves, f x = g x) : ∀ k, ∀ x ∈ lrow leaves k, f x = g x
 | 0, x, h => h0 x h
 | k + 1, x, h => by
  have hr := yb1 hl k
  cases hx : x.leaf with
  | true => exact h0 x (by rw [← hr.lv]; exact qaT.2 ⟨h, hx⟩)
  | false => exact lpacks_val hf hg _ (lrow_val hl hf hg h0 k) x (by rw [← hr.pk]; exact qaT.2 ⟨h, by simp [hx]⟩)
theorem yaQ {f g : LTh → Int} : ∀ R : List LTh, (∀ x ∈ R, f x = g x) → lsum f R = lsum g R
 | [], _ => rfl
 | x :: t, e => by
  simp only [lsum]
  rw [e x (qa5 ..), yaQ t fun y hy => e y (qa4 _ hy)]
theorem lval_sum (counts : List Int) : ∀ R : List LTh, lsum (lval counts) R = isum (fun j c => c * lsum (lhas j) R) 0 counts
 | [] => by
  have := yaO (g := fun j c => c * lsum (lhas j) []) (h := fun _ _ => 0) counts 0 fun j hj => by simp [lsum]
  rw [this, isum_zero]
  rfl
 | x :: t => by
  show lval counts x + lsum (lval counts) t = _
  rw [lval_sum counts t]
  unfold lval
  rw [← isum_add]
  exact yaO counts 0 fun j hj => by rw [← Int.mul_add]; rfl
def yfE (counts : List Int) (most : Nat) : List LTh := (lrow (yaa counts) (most - 1)).take (2 * (yaa counts).length - 2)
def llen (counts : List Int) (most s : Nat) : Int := lsum (lhas s) (yfE counts most)
def yaq (counts : List Int) (most : Nat) : List Int :=
 if (yaa counts).length = 1 then counts.map (fun c => if 0 < c then 1 else 0) else (List.range counts.length).map fun s => llen counts most s
theorem ydD (counts : List Int) (most : Nat) : (yaq counts most).length = counts.length := by
 unfold yaq
 split <;> simp
theorem llen_cost (counts : List Int) (most : Nat) : isum (fun j c => c * llen counts most j) 0 counts = lsum (·.w) (yfE counts most) := by
 have h1 : ∀ x ∈ lrow (yaa counts) (most - 1), lval counts x = x.w := by
  refine lrow_val (yaE counts) (lval_adds counts) (g := (·.w)) (fun a b => rfl) (fun x hx => ?_) (most - 1)
  obtain ⟨j, hj, _, rfl⟩ := (yan counts x).1 hx
  exact lval_leaf counts j hj
 rw [← yaQ (f := lval counts) (yfE counts most) fun x hx => h1 x (qaN hx), lval_sum]
 rfl
theorem ygi (f g : LTh → Int) : ∀ R : List LTh, lsum (fun x => f x + g x) R = lsum f R + lsum g R
 | [] => rfl
 | x :: t => by
  simp only [lsum, ygi f g t]
  omega
theorem ydp (c : Int) (f : LTh → Int) : ∀ R : List LTh, lsum (fun x => c * f x) R = c * lsum f R
 | [] => by simp [lsum]
 | x :: t => by
  simp only [lsum, ydp c f t, Int.mul_add]
theorem ydw (R : List LTh) : lsum (fun _ => 1) R = R.length := by
 induction R with
 | nil => rfl
 | cons x t ih => simp only [lsum, ih, qap]; omega
theorem ygE (f : LTh → Int) (p : LTh → Bool) (R : List LTh) : lsum f (R.filter p) = lsum (fun x => if p x = true then f x else 0) R := by
 induction R with
 | nil => rfl
 | cons x t ih =>
  rw [qaG]
  by_cases h : p x = true
  ·rw [qag h]; simp only [lsum, ih, qag h]
  ·rw [qae h]; simp only [lsum, ih, qae h]; omega
theorem lsum_first (p : LTh → Bool) : ∀ l : List LTh, l.Pairwise (fun a b => a.w ≤ b.w) → lsum (·.w) (l.take (l.filter p).length) ≤ lsum (·.w) (l.filter p)
 | [], _ => Int.le_refl _
 | a :: t, h => by
  obtain ⟨h1, h2⟩ := qa9.1 h
  have ih := lsum_first p t h2
  rw [qaG]
  by_cases hp : p a = true
  ·rw [qag hp, qap, qaM]
   simp only [lsum]
   omega
  ·rw [qae hp]
   have hle := qcn p t
   cases hn : (t.filter p).length with
   | zero =>
    have : t.filter p = [] := qa1.1 hn
    rw [this]
    simp [lsum]
   | succ n =>
    rw [hn] at ih hle
    rw [qat (by omega), ycJ] at ih
    have h3 := h1 t[n] (qaq (by omega))
    simp only [qaM, lsum] at ih ⊢
    omega
section
variable (ℓ : LTh → Nat) (leaves : List LTh)
def lcl : Nat → Nat → List Nat
 | _, 0 => []
 | d, k + 1 => (leaves.filter (fun x => decide (d + 1 ≤ ℓ x))).length :: lcl (d + 1) k
theorem lcl_len : ∀ k d, (lcl ℓ leaves d k).length = k
 | 0, _ => rfl
 | k + 1, d => by show (lcl ℓ leaves (d + 1) k).length + 1 = _; rw [lcl_len k]
theorem lcl_le : ∀ k d, ∀ x ∈ lcl ℓ leaves d k, x ≤ leaves.length
 | 0, _, x, h => by cases h
 | k + 1, d, x, h => by
  rcases qaC.1 h with rfl | h
  ·exact qcn _ _
  ·exact lcl_le k (d + 1) x h
theorem lcl_wid : ∀ k d, (lwid (lcl ℓ leaves d k) : Int) + lsum (fun x => ((2 ^ (k - min (ℓ x - d) k) : Nat) : Int)) leaves = ((2 ^ k : Nat) : Int) * leaves.length
 | 0, d => by
  simp only [lcl, lwid]
  have : lsum (fun x => ((2 ^ (0 - min (ℓ x - d) 0) : Nat) : Int)) leaves = leaves.length := by
   rw [← ydw]
   exact yaQ _ fun x _ => by simp
  rw [this]
  simp
 | k + 1, d => by
  have ih := lcl_wid k (d + 1)
  show (((2 ^ (lcl ℓ leaves (d + 1) k).length * (leaves.filter (fun x => decide (d + 1 ≤ ℓ x))).length + lwid (lcl ℓ leaves (d + 1) k) : Nat)) : Int) + _ = _
  rw [lcl_len]
  have e1 : ((leaves.filter (fun x => decide (d + 1 ≤ ℓ x))).length : Int) = lsum (fun x => if decide (d + 1 ≤ ℓ x) = true then 1 else 0) leaves := by rw [← ydw, ygE]
  have e2 : lsum (fun x => ((2 ^ k : Nat) : Int) * (if decide (d + 1 ≤ ℓ x) = true then 1 else 0) + ((2 ^ (k + 1 - min (ℓ x - d) (k + 1)) : Nat) : Int)) leaves = lsum (fun x => ((2 ^ k : Nat) : Int) * 1 + ((2 ^ (k - min (ℓ x - (d + 1)) k) : Nat) : Int)) leaves := by
   refine yaQ _ fun x _ => ?_
   by_cases h : d + 1 ≤ ℓ x
   ·rw [qag (by simpa using h), show k + 1 - min (ℓ x - d) (k + 1) = k - min (ℓ x - (d + 1)) k from by omega]
   ·rw [qae (by simpa using h), show k + 1 - min (ℓ x - d) (k + 1) = k + 1 from by omega, show k - min (ℓ x - (d + 1)) k = k from by omega, qaR]
    omega
  rw [ygi, ygi, ydp, ydp, ydw, ← e1] at e2
  rw [qbB, qcm, qaR]
  have e3 : (((2 ^ k * 2 : Nat)) : Int) * leaves.length = ((2 ^ k : Nat) : Int) * leaves.length + ((2 ^ k : Nat) : Int) * leaves.length := by
   rw [qcm, Int.mul_assoc, Int.mul_comm ((2 : Nat) : Int), ← Int.mul_assoc]
   omega
  rw [e3]
  generalize ((2 ^ k : Nat) : Int) * ((leaves.filter (fun x => decide (d + 1 ≤ ℓ x))).length : Int) = a1 at *
  generalize ((2 ^ k : Nat) : Int) * (leaves.length : Int) = a2 at *
  generalize lsum (fun x => ((2 ^ (k + 1 - min (ℓ x - d) (k + 1)) : Nat) : Int)) leaves = a3 at *
  generalize lsum (fun x => ((2 ^ (k - min (ℓ x - (d + 1)) k) : Nat) : Int)) leaves = a4 at *
  omega
theorem lcl_cost (ho : leaves.Pairwise (fun a b => a.w ≤ b.w)) : ∀ k d, nsum (fun a => lsum (·.w) (leaves.take a)) (lcl ℓ leaves d k) ≤ lsum (fun x => x.w * ((min (ℓ x - d) k : Nat) : Int)) leaves
 | 0, d => by
  have : lsum (fun x => x.w * ((min (ℓ x - d) 0 : Nat) : Int)) leaves = lsum (fun x => 0 * x.w) leaves := yaQ _ fun x _ => by simp
  rw [this, ydp]
  simp [lcl, nsum]
 | k + 1, d => by
  have ih := lcl_cost ho k (d + 1)
  have h1 := lsum_first (fun x => decide (d + 1 ≤ ℓ x)) leaves ho
  rw [ygE] at h1
  have e : lsum (fun x => x.w * ((min (ℓ x - d) (k + 1) : Nat) : Int)) leaves = lsum (fun x => (if decide (d + 1 ≤ ℓ x) = true then x.w else 0) + x.w * ((min (ℓ x - (d + 1)) k : Nat) : Int)) leaves := by
   refine yaQ _ fun x _ => ?_
   by_cases h : d + 1 ≤ ℓ x
   ·rw [qag (by simpa using h), show min (ℓ x - d) (k + 1) = min (ℓ x - (d + 1)) k + 1 from by omega, qbB, Int.mul_add]
    simp
    omega
   ·rw [qae (by simpa using h), show min (ℓ x - d) (k + 1) = 0 from by omega, show min (ℓ x - (d + 1)) k = 0 from by omega]
    simp
  rw [e, ygi]
  show lsum (·.w) (leaves.take _) + nsum _ (lcl ℓ leaves (d + 1) k) ≤ _
  omega
end
theorem lrow_best {leaves : List LTh} (hl : yaP leaves) (hp : ∀ x ∈ leaves, 0 < x.w) (ℓ : LTh → Nat) (k : Nat) (h2 : 2 ≤ leaves.length) (hle : ∀ x ∈ leaves, ℓ x ≤ k + 1)
  (hk : lsum (fun x => ((2 ^ (k + 1 - ℓ x) : Nat) : Int)) leaves ≤ ((2 ^ (k + 1) : Nat) : Int)) : 2 * leaves.length - 2 ≤ (lrow leaves k).length ∧ lsum (·.w) ((lrow leaves k).take (2 * leaves.length - 2)) ≤ lsum (fun x => x.w * (ℓ x : Int)) leaves := by
 have hlen := lcl_len ℓ leaves (k + 1) 0
 have hcl := lcl_le ℓ leaves (k + 1) 0
 have hw := lcl_wid ℓ leaves (k + 1) 0
 have hf := lfloor_wid (lcl ℓ leaves 0 (k + 1)) k hlen
 have e1 : lsum (fun x => ((2 ^ (k + 1 - min (ℓ x - 0) (k + 1)) : Nat) : Int)) leaves = lsum (fun x => ((2 ^ (k + 1 - ℓ x) : Nat) : Int)) leaves := yaQ _ fun x hx => by
  have := hle x hx
  rw [show min (ℓ x - 0) (k + 1) = ℓ x from by omega]
 rw [e1] at hw
 have ht : 2 * leaves.length - 2 ≤ ycc (lcl ℓ leaves 0 (k + 1)) := by
  rcases qbe (ycc (lcl ℓ leaves 0 (k + 1))) (2 * leaves.length - 2) with h | h
  ·exfalso
   have h3 : 2 ^ k * (ycc (lcl ℓ leaves 0 (k + 1)) + 1) ≤ 2 ^ k * (2 * leaves.length - 2) := qci _ (by omega)
   obtain ⟨j, hj⟩ : ∃ j, leaves.length = j + 1 := ⟨leaves.length - 1, by omega⟩
   rw [hj] at h3 hw
   have e2 : 2 ^ k * (2 * (j + 1) - 2) = 2 ^ (k + 1) * j := by rw [show 2 * (j + 1) - 2 = 2 * j from by omega, ← qcl, ← qaR]
   have e3 : ((2 ^ (k + 1) : Nat) : Int) * ((j + 1 : Nat) : Int) = ((2 ^ (k + 1) * j : Nat) : Int) + ((2 ^ (k + 1) : Nat) : Int) := by
    rw [← qcm, Nat.mul_succ, qbB]
   rw [e3] at hw
   rw [e2] at h3
   omega
  ·exact h
 refine ⟨qaA ht (yg8 hl _ k hlen hcl), ?_⟩
 have h4 := lrow_least hl hp _ k _ hlen hcl ht
 have h5 := lcl_cost ℓ leaves hl.order (k + 1) 0
 have e4 : lsum (fun x => x.w * ((min (ℓ x - 0) (k + 1) : Nat) : Int)) leaves = lsum (fun x => x.w * (ℓ x : Int)) leaves := yaQ _ fun x hx => by
  have := hle x hx
  rw [show min (ℓ x - 0) (k + 1) = ℓ x from by omega]
 rw [e4] at h5
 omega
theorem yeC {leaves : List LTh} (hl : yaP leaves) (hp : ∀ x ∈ leaves, 0 < x.w) (k : Nat) (h2 : 2 ≤ leaves.length) (hm : leaves.length ≤ 2 ^ (k + 1)) : 2 * leaves.length - 2 ≤ (lrow leaves k).length := by
 refine (lrow_best hl hp (fun _ => k + 1) k h2 (fun _ _ => qad _) ?_).1
 have : lsum (fun x => ((2 ^ (k + 1 - (k + 1)) : Nat) : Int)) leaves = leaves.length := by
  rw [← ydw]
  exact yaQ _ fun x _ => by simp
 rw [this]
 omega
theorem ycC (s j : Nat) (x : LTh) (h : x.syms = [j]) : lhas s x = if j = s then 1 else 0 := by
 unfold lhas
 rw [h, List.count_singleton]
 by_cases e : j = s
 ·subst e; simp
 ·rw [qae e, qae (by simpa using e)]; rfl
theorem lhas_take (s : Nat) : ∀ (l : List LTh) (r a : Nat) (hr : r < l.length), l.Pairwise (fun a b => a.syms ≠ b.syms) → (∀ x ∈ l, ∃ j, x.syms = [j]) → l[r].syms = [s] → lsum (lhas s) (l.take a) = if r < a then 1 else 0
 | [], r, a, hr, _, _, _ => by simp at hr
 | x :: t, r, 0, _, _, _, _ => by simp [lsum]
 | x :: t, 0, a + 1, _, hd, hs, h => by
  have h' : x.syms = [s] := h
  obtain ⟨h1, h2⟩ := qa9.1 hd
  have h0 : lsum (lhas s) (t.take a) = lsum (fun x => 0 * x.w) (t.take a) := yaQ _ fun y hy => by
   have hyt := qaN hy
   obtain ⟨j, hj⟩ := hs y (qa4 _ hyt)
   have hne := h1 y hyt
   rw [ycC s j y hj, qae (fun e => hne (by rw [h', hj, e]))]
   simp
  rw [ydp] at h0
  rw [qaM]
  simp only [lsum, h0, ycC s s x h']
  simp
 | x :: t, r + 1, a + 1, hr, hd, hs, h => by
  obtain ⟨h1, h2⟩ := qa9.1 hd
  have hrt : r < t.length := by simpa using hr
  have ht : t[r].syms = [s] := by simpa using h
  have ih := lhas_take s t r a hrt h2 (fun y hy => hs y (qa4 _ hy)) ht
  obtain ⟨j, hj⟩ := hs x (qa5 ..)
  have hne := h1 t[r] (qaq hrt)
  rw [qaM]
  simp only [lsum, ih, ycC s j x hj]
  rw [qae (fun e : j = s => hne (by rw [hj, ht, e]))]
  by_cases hra : r < a
  ·rw [qag hra, qag (by omega)]; omega
  ·rw [qae hra, qae (by omega)]; omega
theorem nsum_lof (r : Nat) : ∀ A : List Nat, nsum (fun a => if r < a then 1 else 0) A = (lof A r : Int)
 | [] => rfl
 | a :: t => by
  rw [ygl]
  simp only [nsum, nsum_lof r t]
  by_cases h : r < a
  ·rw [qag h, qag h]; omega
  ·rw [qae h, qae h]; omega
theorem nsum_congr {g h : Nat → Int} : ∀ A : List Nat, (∀ a ∈ A, g a = h a) → nsum g A = nsum h A
 | [], _ => rfl
 | a :: t, e => by
  simp only [nsum]
  rw [e a (qa5 ..), nsum_congr t fun x hx => e x (qa4 _ hx)]
theorem lsum_rank (f : LTh → Int) (g : Nat → Nat) (l : List LTh) (h : ∀ r (hr : r < l.length), f l[r] = (g r : Int)) : ∀ n, n ≤ l.length → lsum f (l.take n) = (rsum g n : Int)
 | 0, _ => by simp [lsum, rsum]
 | n + 1, hn => by
  have ih := lsum_rank f g l h n (by omega)
  rw [qat (by omega), ycJ, ih]
  simp only [lsum, rsum, h n (by omega)]
  omega
section
variable (counts : List Int) (k : Nat)
def ydA : List Nat := yej (yaa counts) k (2 * (yaa counts).length - 2)
variable {counts k}
theorem ye4 (h2 : 2 ≤ (yaa counts).length) (hm : (yaa counts).length ≤ 2 ^ (k + 1)) :
  rsum (fun r => 2 ^ (k + 1 - lof (ydA counts k) r)) (yaa counts).length = 2 ^ (k + 1) := by
 have hl := yaE counts
 have hp := ybX counts
 have ht := yeC hl hp k h2 hm
 exact lof_full _ _ k (yeO _ _ _) (lprof_le hl k _ ht) (ygU hl hp k _ ht) (lprof_wid _ _) h2
theorem ye0 (h2 : 2 ≤ (yaa counts).length) (hm : (yaa counts).length ≤ 2 ^ (k + 1)) (s r : Nat) (hr : r < (yaa counts).length) (hs : (yaa counts)[r].syms = [s]) : llen counts (k + 1) s = (lof (ydA counts k) r : Int) := by
 have hl := yaE counts
 have ht := yeC hl (ybX counts) k h2 hm
 unfold llen yfE
 rw [show k + 1 - 1 = k from rfl, lprof_sum hl (yho s) k _ ht, ← nsum_lof]
 refine nsum_congr _ fun a _ => ?_
 refine lhas_take s (yaa counts) r a hr (lleaves_dist counts) (fun x hx => ?_) hs
 obtain ⟨j, hj, _, rfl⟩ := (yan counts x).1 hx
 exact ⟨j, rfl⟩
theorem lrank_of (j : Nat) (hj : j < counts.length) (h : 0 < counts[j]) : ∃ r, ∃ hr : r < (yaa counts).length, (yaa counts)[r] = ⟨counts[j], [j], true⟩ := by
 obtain ⟨r, hr, e⟩ := qaJ ((yan counts ⟨counts[j], [j], true⟩).2 ⟨j, hj, h, rfl⟩)
 exact ⟨r, hr, e⟩
theorem ygX (most s : Nat) (h : ∀ hs : s < counts.length, counts[s] ≤ 0) : llen counts most s = 0 := by
 have hv := lrow_val (yaE counts) (yho s) (g := fun x => 0 * x.w) (fun a b => by simp) (fun x hx => by
  obtain ⟨j, hj, hp, rfl⟩ := (yan counts x).1 hx
  rw [ycC s j _ rfl, qae (fun e => by subst e; have := h hj; omega)]
  simp) (most - 1)
 have := yaQ (f := lhas s) (g := fun x => 0 * x.w) (yfE counts most) fun x hx => hv x (qaN hx)
 rw [ydp] at this
 simpa [llen] using this
theorem yhd (h2 : 2 ≤ (yaa counts).length) (hm : (yaa counts).length ≤ 2 ^ (k + 1)) (j : Nat) (hj : j < counts.length) (h : 0 < counts[j]) : 1 ≤ llen counts (k + 1) j ∧ llen counts (k + 1) j ≤ ((k + 1 : Nat) : Int) := by
 obtain ⟨r, hr, e⟩ := lrank_of j hj h
 rw [ye0 h2 hm j r hr (by rw [e])]
 have h1 := lof_pos _ _ k (ye4 h2 hm) h2 r hr
 have h3 := lof_le (ydA counts k) r
 have h4 : (ydA counts k).length = k + 1 := yeO _ _ _
 omega
theorem llen_falls (h2 : 2 ≤ (yaa counts).length) (hm : (yaa counts).length ≤ 2 ^ (k + 1)) (i j : Nat) (hi : i < counts.length) (hj : j < counts.length) (h : counts[j] < counts[i]) (h0 : 0 < counts[j]) : llen counts (k + 1) i ≤ llen counts (k + 1) j := by
 obtain ⟨r, hr, e⟩ := lrank_of i hi (by omega)
 obtain ⟨q, hq, e2⟩ := lrank_of j hj h0
 rw [ye0 h2 hm i r hr (by rw [e]), ye0 h2 hm j q hq (by rw [e2])]
 have hqr : q ≤ r := by
  rcases qbe r q with hlt | hge
  ·exfalso
   have := qaV.1 (yaE counts).order r q hr hq hlt
   rw [e, e2] at this
   have h5 : counts[i] ≤ counts[j] := this
   omega
  ·exact hge
 have := lof_mono (ydA counts k) hqr
 omega
theorem llen_full (h2 : 2 ≤ (yaa counts).length) (hm : (yaa counts).length ≤ 2 ^ (k + 1)) : isum (fun j c => if 0 < c then ((2 ^ (k + 1 - (llen counts (k + 1) j).toNat) : Nat) : Int) else 0) 0 counts = ((2 ^ (k + 1) : Nat) : Int) := by
 have h := ybO counts (fun x => ((2 ^ (k + 1 - (llen counts (k + 1) (x.syms.headD 0)).toNat) : Nat) : Int))
 have h3 := lsum_rank (fun x => ((2 ^ (k + 1 - (llen counts (k + 1) (x.syms.headD 0)).toNat) : Nat) : Int)) (fun r => 2 ^ (k + 1 - lof (ydA counts k) r)) (yaa counts) (fun r hr => by
  obtain ⟨j, hj, hp, e⟩ := (yan counts _).1 (qaq hr)
  have := ye0 h2 hm j r hr (by rw [e])
  rw [e]
  show ((2 ^ (k + 1 - (llen counts (k + 1) j).toNat) : Nat) : Int) = _
  rw [this, qan]) _ (qad _)
 rw [qbT, ye4 h2 hm] at h3
 rw [h3] at h
 exact h.symm
theorem llen_least (h2 : 2 ≤ (yaa counts).length) (hc : ∀ j (hj : j < counts.length), 0 ≤ counts[j]) (own : Nat → Int) (ho : ∀ j (hj : j < counts.length), 0 < counts[j] → 0 ≤ own j ∧ own j ≤ ((k + 1 : Nat) : Int))
  (hk : isum (fun j c => if 0 < c then ((2 ^ (k + 1 - (own j).toNat) : Nat) : Int) else 0) 0 counts ≤ ((2 ^ (k + 1) : Nat) : Int)) :
  isum (fun j c => c * llen counts (k + 1) j) 0 counts ≤ isum (fun j c => c * own j) 0 counts := by
 have h := (lrow_best (yaE counts) (ybX counts) (fun x => (own (x.syms.headD 0)).toNat) k h2 (fun x hx => by
  obtain ⟨j, hj, hp, rfl⟩ := (yan counts x).1 hx
  have := (ho j hj hp).2
  show (own j).toNat ≤ k + 1
  omega) (by rw [ybO]; exact hk)).2
 rw [llen_cost]
 unfold yfE
 rw [show k + 1 - 1 = k from rfl]
 refine Int.le_trans h (Int.le_of_eq ?_)
 rw [ybO]
 refine yaO counts 0 fun j hj => ?_
 by_cases hp : 0 < counts[j]
 ·rw [qag hp]
  have := (ho j hj hp).1
  show counts[j] * (((own (0 + j)).toNat : Nat) : Int) = counts[j] * own (0 + j)
  rw [qaz, Int.toNat_of_nonneg this]
 ·rw [qae hp]
  have := hc j hj
  rw [show counts[j] = 0 from by omega, Int.zero_mul]
end
theorem ybz (n : Nat) (h : n ≤ 15) (w : World) : Calls prog 153 #[.int .i64 (n : Int)] w fun e w' => e = .returned (.int .i64 ((2 ^ n : Nat) : Int)) ∧ w' = w := by
 have hn : (n : Int) ≤ 15 := by omega
 have Hpow : Hid (∀ k, k ≤ n → (2 ^ k : Nat) ≤ 32768) := qaa fun k hk => qaA (qa0 (by omega) (show k ≤ 15 by omega)) (by decide)
 obtain ⟨R, hR⟩ : ∃ R : Int, ((2 ^ n : Nat) : Int) = R := ⟨_, rfl⟩
 rw [hR]
 have HR := qaa hR
 clear hR
 go_enter func153, ntmps153
 go_wp2
 go_loop [3, 4] (fun p i => ∃ k P : Nat, k ≤ n ∧ P ≤ 32768 ∧ p = .int .i64 P ∧ i = .int .i64 k ∧ Hid (P = 2 ^ k)) (fun _ i => n - (intOf i).toNat)
 case atStart => exact ⟨0, 1, by omega, by omega, rfl, rfl, rfl⟩
 case round =>
  obtain ⟨k, P, hk, hP, rfl, rfl, Hk⟩ := hrel
  by_cases hlt : k < n
  ·have hki : (k : Int) < n := by omega
   have H2 : Hid (2 * P ≤ 32768 ∧ 2 * P = 2 ^ (k + 1)) := qaa (by
    have h1 := Hpow.out (k + 1) (by omega)
    have h2 := Hk.out
    rw [qaR] at h1 ⊢
    omega)
   go_wp2
   go_round
   case rel => exact ⟨k + 1, 2 * P, by omega, H2.out.1, iv (by omega), iv (by omega), H2.out.2⟩
   case measure => simp only [intOf]; omega
  ·obtain rfl : k = n := by omega
   have Hf : Hid ((P : Int) = R) := qaa (by rw [← HR.out, ← Hk.out])
   go_wp2
   go_ret
   exact ⟨by rw [← Hf.out]; rfl, rfl⟩
def yau (l : List Int) : Nat := (l.filter (fun x => decide (0 < x))).length
theorem usedF_take (l : List Int) (k : Nat) (h : k < l.length) : yau (l.take (k + 1)) = yau (l.take k) + if 0 < l[k] then 1 else 0 := by
 unfold yau
 rw [qat h, qbr, qab]
 congr 1
 by_cases hx : 0 < l[k]
 ·rw [qag hx, qaG, qag (by simpa using hx)]; rfl
 ·rw [qae hx, qaG, qae (by simpa using hx)]; rfl
theorem usedF_le (l : List Int) : yau l ≤ l.length := qcn _ _
def yap : List Int → Nat
 | [] => 0
 | x :: t => (if 0 < x then 2 ^ (15 - x.toNat) else 0) + yap t
theorem partF_app : ∀ a b : List Int, yap (a ++ b) = yap a + yap b
 | [], b => by simp [yap]
 | x :: t, b => by
  show (if 0 < x then 2 ^ (15 - x.toNat) else 0) + yap (t ++ b) = _
  rw [partF_app t b, ← qbU]
  rfl
theorem partF_take (l : List Int) (k : Nat) (h : k < l.length) : yap (l.take (k + 1)) = yap (l.take k) + if 0 < l[k] then 2 ^ (15 - l[k].toNat) else 0 := by
 rw [qat h, partF_app]
 simp [yap]
def yde (l : List Int) : Bool := l.all fun x => decide (0 ≤ x) && decide (x ≤ 15)
def sumF (l : List Int) : Int := if yde l = true then (yap l : Int) else -1
theorem yaJ {l : List Int} (h : yde l = true) (i : Nat) (hi : i < l.length) : 0 ≤ l[i] ∧ l[i] ≤ 15 := by
 unfold yde at h
 rw [qbH] at h
 simpa using h l[i] (qaq hi)
theorem lgood_of {l : List Int} (h : ∀ i (hi : i < l.length), 0 ≤ l[i] ∧ l[i] ≤ 15) : yde l = true := by
 unfold yde
 rw [qbH]
 intro x hx
 obtain ⟨i, hi, rfl⟩ := qaJ hx
 simpa using h i hi
theorem sumF_bad {l : List Int} (i : Nat) (hi : i < l.length) (hb : ¬(0 ≤ l[i] ∧ l[i] ≤ 15)) : sumF l = -1 := by
 unfold sumF
 rw [qae fun h => hb (yaJ h i hi)]
section
variable (l : List Int) (A : Option Addr) (n c : Nat) (w : World)
theorem lcells {l : List Int} {A : Option Addr} {n : Nat} {w : World} {B : Nat} (hr : Reads w B 1 A n (ints l)) : Hid (0 < n → ∃ b off, A = some ⟨b, off, none⟩ ∧ b < B ∧ ∀ k, (hk : k < l.length) → w.cell? ⟨b, off + k, none⟩ = some (.int .i64 l[k])) := qaa fun h => by
 obtain ⟨b, off, e, hb, hc⟩ := hr.2 h
 exact ⟨b, off, e, hb, fun k hk => hc k _ (yai l k hk)⟩
theorem lref_used_any (hm : n ≤ 4611686018427387904) (hr : Reads w w.heap.size 1 A n (ints l)) :
  Calls prog 190 #[.slice A n c] w fun e w' => e = .returned (.int .i64 (yau l : Int)) ∧ w' = w := by
 have en : l.length = n := by have := hr.1; rw [yab] at this; omega
 have Hcell := lcells hr
 have Htake : Hid (∀ k (h : k < l.length), yau (l.take (k + 1)) = yau (l.take k) + if 0 < l[k] then 1 else 0) := qaa (usedF_take l)
 have Hall : Hid (yau (l.take n) = yau l) := qaa (by rw [qar (by omega)])
 have En := qaa en
 obtain ⟨R, hR⟩ : ∃ R : Int, (yau l : Int) = R := ⟨_, rfl⟩
 rw [hR]
 have HR := qaa hR
 clear hr en hR
 go_enter func190, ntmps190
 go_wp2
 go_loop [3, 4] (fun p i => ∃ k P : Nat, k ≤ n ∧ P ≤ k ∧ p = .int .i64 P ∧ i = .int .i64 k ∧ Hid (P = yau (l.take k))) (fun _ i => n - (intOf i).toNat)
 case atStart => exact ⟨0, 0, by omega, by omega, rfl, rfl, rfl⟩
 case round =>
  obtain ⟨k, P, hk, hP, rfl, rfl, Hk⟩ := hrel
  by_cases hlt : k < n
  ·have hki : (0 : Int) ≤ (k : Int) ∧ (k : Int) < n := by omega
   have hkl : k < l.length := by rw [En.out]; exact hlt
   obtain ⟨b, off, rfl, hb, hc⟩ := Hcell.out (by omega)
   have hx := hc k hkl
   have ht := Htake.out k hkl
   rw [← Hk.out] at ht
   have Ht := qaa ht
   clear hc ht
   generalize l[k] = x at *
   by_cases hx0 : 0 < x
   ·have Ht2 : Hid (P + 1 = yau (l.take (k + 1))) := qaa (by rw [Ht.out, qag hx0])
    go_wp2
    go_round
    case rel => exact ⟨k + 1, P + 1, by omega, by omega, iv (by omega), iv (by omega), Ht2.out⟩
    case measure => simp only [intOf]; omega
   ·have Ht2 : Hid (P = yau (l.take (k + 1))) := qaa (by rw [Ht.out, qae hx0]; rfl)
    go_wp2
    go_round
    case rel => exact ⟨k + 1, P, by omega, by omega, rfl, iv (by omega), Ht2.out⟩
    case measure => simp only [intOf]; omega
  ·obtain rfl : k = n := by omega
   have Hf : Hid ((P : Int) = R) := qaa (by rw [← HR.out, ← Hall.out, ← Hk.out])
   go_wp2
   go_ret
   exact ⟨by rw [← Hf.out]; rfl, rfl⟩
theorem lref_sum_any (hm : n ≤ 1000000) (hr : Reads w w.heap.size 1 A n (ints l)) :
  Calls prog 189 #[.slice A n c] w fun e w' => e = .returned (.int .i64 (sumF l)) ∧ w' = w := by
 have en : l.length = n := by have := hr.1; rw [yab] at this; omega
 have Hcell := lcells hr
 have Htake : Hid (∀ k (h : k < l.length), yap (l.take (k + 1)) = yap (l.take k) + if 0 < l[k] then 2 ^ (15 - l[k].toNat) else 0) := qaa (partF_take l)
 have Hall : Hid (yap (l.take n) = yap l) := qaa (by rw [qar (by omega)])
 have Hbad : Hid (∀ i (hi : i < l.length), ¬(0 ≤ l[i] ∧ l[i] ≤ 15) → sumF l = -1) := qaa fun i hi => sumF_bad i hi
 have Hok : Hid ((∀ i (hi : i < l.length), 0 ≤ l[i] ∧ l[i] ≤ 15) → sumF l = yap l) := qaa fun h => by unfold sumF; rw [qag (lgood_of h)]
 have En := qaa en
 generalize sumF l = R at *
 have hnn : (n : Int) ≤ 1000000 := by omega
 clear hr en
 go_enter func189, ntmps189
 go_wp2
 go_loop [3, 4] (fun p i => ∃ k P : Nat, k ≤ n ∧ P ≤ 32768 * k ∧ p = .int .i64 P ∧ i = .int .i64 k ∧ Hid (P = yap (l.take k) ∧ ∀ i (hi : i < l.length), i < k → 0 ≤ l[i] ∧ l[i] ≤ 15)) (fun _ i => n - (intOf i).toNat)
 case atStart => exact ⟨0, 0, by omega, by omega, rfl, rfl, ⟨rfl, fun i _ h => by omega⟩⟩
 case round =>
  obtain ⟨k, P, hk, hP, rfl, rfl, Hk⟩ := hrel
  by_cases hlt : k < n
  ·have hki : (0 : Int) ≤ (k : Int) ∧ (k : Int) < n := by omega
   have hkl : k < l.length := by rw [En.out]; exact hlt
   obtain ⟨b, off, rfl, hb, hc⟩ := Hcell.out (by omega)
   have hx := hc k hkl
   have Hbk := qaa (Hbad.out k hkl)
   have ht := Htake.out k hkl
   rw [← Hk.out.1] at ht
   have Ht := qaa ht
   have Hn : Hid (0 ≤ l[k] ∧ l[k] ≤ 15 → ∀ i (hi : i < l.length), i < k + 1 → 0 ≤ l[i] ∧ l[i] ≤ 15) := qaa fun h i hi h2 => by
    rcases qbe i k with h3 | h3
    ·exact Hk.out.2 i hi h3
    ·obtain rfl : i = k := by omega
     exact h
   clear hc ht Hbad
   generalize l[k] = x at *
   by_cases hneg : x < 0
   ·have Hf : Hid (R = -1) := qaa (Hbk.out (by omega))
    go_wp2
    go_ret
    exact ⟨by rw [Hf.out]; rfl, rfl⟩
   ·by_cases hbig : 15 < x
    ·have Hf : Hid (R = -1) := qaa (Hbk.out (by omega))
     go_wp2
     go_ret
     exact ⟨by rw [Hf.out]; rfl, rfl⟩
    ·have Hn2 := qaa (Hn.out (by omega))
     by_cases hx0 : 0 < x
     ·obtain ⟨m, hm15, hmx⟩ : ∃ m : Nat, m ≤ 15 ∧ 15 - x = (m : Int) := ⟨(15 - x).toNat, by omega, by omega⟩
      have hp15 : (2 ^ m : Nat) ≤ 32768 := qaA (qa0 (by omega) hm15) (by decide)
      have Ht2 : Hid (P + 2 ^ m = yap (l.take (k + 1))) := qaa (by rw [Ht.out, qag hx0, show 15 - x.toNat = m from by omega])
      have hpw := ybz m hm15
      rw [← hmx] at hpw
      have Hpw := qaa hpw
      have hPk : P ≤ 32768000000 := by omega
      clear hpw
      generalize (2 ^ m : Nat) = Q at *
      clear hmx
      go_wp2_with (go_at_call 153; refine (Hpw.out _).mono ?_; rintro e w1 ⟨rfl, rfl⟩)
      go_round
      case rel => exact ⟨k + 1, P + Q, by omega, by omega, iv (by omega), iv (by omega), ⟨Ht2.out, Hn2.out⟩⟩
      case measure => simp only [intOf]; omega
     ·have Ht2 : Hid (P = yap (l.take (k + 1))) := qaa (by rw [Ht.out, qae hx0]; rfl)
      go_wp2
      go_round
      case rel => exact ⟨k + 1, P, by omega, by omega, rfl, iv (by omega), ⟨Ht2.out, Hn2.out⟩⟩
      case measure => simp only [intOf]; omega
  ·obtain rfl : k = n := by omega
   have Hf : Hid (R = (P : Int)) := qaa (by
    rw [Hok.out fun i hi => Hk.out.2 i hi (by have := En.out; omega), ← Hall.out, ← Hk.out.1])
   go_wp2
   go_ret
   exact ⟨by rw [Hf.out]; rfl, rfl⟩
def yat (l : List Int) : Int := if 257 < l.length then 3 else if sumF l = 0 ∨ sumF l = 32768 ∨ ((yau l : Int) = 1 ∧ sumF l = 16384) then 0 else 80
theorem lref_check_any (hm : n ≤ 1000000) (hr : Reads w w.heap.size 1 A n (ints l)) :
  Calls prog 155 #[.slice A n c] w fun e w' => e = .returned (.int .i64 (yat l)) ∧ w' = w := by
 have en : l.length = n := by have := hr.1; rw [yab] at this; omega
 have Hsum := qaa (lref_sum_any l A n c w hm hr)
 have Hused := qaa (lref_used_any l A n c w (by omega) hr)
 have hp15 : ∀ W, Calls prog 153 #[.int .i64 15] W fun e w' => e = .returned (.int .i64 32768) ∧ w' = W := fun W => ybz 15 (by omega) W
 have hp14 : ∀ W, Calls prog 153 #[.int .i64 14] W fun e w' => e = .returned (.int .i64 16384) ∧ w' = W := fun W => ybz 14 (by omega) W
 have Hp15 := qaa hp15
 have Hp14 := qaa hp14
 unfold yat
 rw [en]
 clear hr hp15 hp14 en
 generalize sumF l = S at *
 generalize (yau l : Int) = U at *
 by_cases hn : 257 < n
 ·rw [qag hn]
  have hni : (257 : Int) < n := by omega
  go_enter func155, ntmps155
  go_wp2
  go_ret
  exact ⟨rfl, rfl⟩
 ·rw [qae hn]
  have hni : ¬ (257 : Int) < n := by omega
  by_cases h0 : S = 0
  ·subst h0
   rw [qag (qay rfl)]
   go_enter func155, ntmps155
   go_wp2_with (go_at_call 189; refine Hsum.out.mono ?_; rintro e w1 ⟨rfl, rfl⟩)
   go_ret
   exact ⟨rfl, rfl⟩
  ·have hb0 : (S == 0) = false := by simpa using h0
   by_cases h1 : S = 32768
   ·subst h1
    rw [qag (qaI (qay rfl))]
    go_enter func155, ntmps155
    go_wp2_with (first
     | (go_at_call 189; refine Hsum.out.mono ?_; rintro e w1 ⟨rfl, rfl⟩)
     | (go_at_call 153; (with_reducible refine (Hp15.out _).mono ?_); rintro e w1 ⟨rfl, rfl⟩))
    go_ret
    exact ⟨rfl, rfl⟩
   ·have hb1 : (S == 32768) = false := by simpa using h1
    by_cases h2 : U = 1
    ·subst h2
     by_cases h3 : S = 16384
     ·subst h3
      rw [qag (qaI (qaI ⟨rfl, rfl⟩))]
      go_enter func155, ntmps155
      go_wp2_with (first
       | (go_at_call 189; refine Hsum.out.mono ?_; rintro e w1 ⟨rfl, rfl⟩)
       | (go_at_call 190; refine Hused.out.mono ?_; rintro e w1 ⟨rfl, rfl⟩)
       | (go_at_call 153; (with_reducible refine (Hp15.out _).mono ?_); rintro e w1 ⟨rfl, rfl⟩)
       | (go_at_call 153; (with_reducible refine (Hp14.out _).mono ?_); rintro e w1 ⟨rfl, rfl⟩))
      go_ret
      exact ⟨rfl, rfl⟩
     ·have hb3 : (S == 16384) = false := by simpa using h3
      rw [qae (by simp [h0, h1, h3])]
      go_enter func155, ntmps155
      go_wp2_with (first
       | (go_at_call 189; refine Hsum.out.mono ?_; rintro e w1 ⟨rfl, rfl⟩)
       | (go_at_call 190; refine Hused.out.mono ?_; rintro e w1 ⟨rfl, rfl⟩)
       | (go_at_call 153; (with_reducible refine (Hp15.out _).mono ?_); rintro e w1 ⟨rfl, rfl⟩)
       | (go_at_call 153; (with_reducible refine (Hp14.out _).mono ?_); rintro e w1 ⟨rfl, rfl⟩))
      go_ret
      exact ⟨rfl, rfl⟩
    ·have hb2 : (U == 1) = false := by simpa using h2
     rw [qae (by simp [h0, h1, h2])]
     go_enter func155, ntmps155
     go_wp2_with (first
      | (go_at_call 189; refine Hsum.out.mono ?_; rintro e w1 ⟨rfl, rfl⟩)
      | (go_at_call 190; refine Hused.out.mono ?_; rintro e w1 ⟨rfl, rfl⟩)
      | (go_at_call 153; (with_reducible refine (Hp15.out _).mono ?_); rintro e w1 ⟨rfl, rfl⟩))
     go_ret
     exact ⟨rfl, rfl⟩
end
def lsy (l : List Nat) : List Int := l.map (fun s : Nat => (s : Int))
def LOk (ok : Nat → Prop) (A : Option Addr) (n : Nat) : Prop := 0 < n → ∃ b off, A = some ⟨b, off, none⟩ ∧ ok b
def LMem (W : World) (B : Nat) (ok : Nat → Prop) : List Value → List LTh → Prop
 | xs, [] => xs = []
 | xs, x :: t => ∃ As ns cs rest, xs = .int .i64 x.w :: .slice As ns cs :: .bool x.leaf :: rest ∧ ns = x.syms.length ∧ ns ≤ cs ∧ (Reads W B 1 As ns (ints (lsy x.syms)) ∧ LOk ok As ns) ∧ LMem W B ok rest t
section
variable {ok : Nat → Prop}
theorem LMem.below {W W' : World} {B : Nat} (hb : Below B W W') : ∀ {R : List LTh} {xs : List Value}, LMem W B ok xs R → LMem W' B ok xs R
 | [], _, h => h
 | x :: t, _, ⟨As, ns, cs, rest, e, hn, hc, hr, ht⟩ => ⟨As, ns, cs, rest, e, hn, hc, ⟨hr.1.below hb, hr.2⟩, LMem.below hb ht⟩
theorem LMem.more {W : World} {B B' : Nat} (hB : B ≤ B') : ∀ {R : List LTh} {xs : List Value}, LMem W B ok xs R → LMem W B' ok xs R
 | [], _, h => h
 | x :: t, _, ⟨As, ns, cs, rest, e, hn, hc, hr, ht⟩ => ⟨As, ns, cs, rest, e, hn, hc, ⟨hr.1.more hB, hr.2⟩, LMem.more hB ht⟩
theorem LMem.len {W : World} {B : Nat} : ∀ {R : List LTh} {xs : List Value}, LMem W B ok xs R → xs.length = R.length * 3
 | [], _, h => by rw [show _ = [] from h]; rfl
 | x :: t, _, ⟨As, ns, cs, rest, e, hn, hc, hr, ht⟩ => by rw [e, qap, qap, qap, LMem.len ht, qap]; omega
theorem LMem.one {W : World} {B : Nat} : ∀ {R : List LTh} {xs : List Value}, LMem W B ok xs R → ∀ u ∈ xs, u.oneCell' = true
 | [], _, h, u, hu => by rw [show _ = [] from h] at hu; cases hu
 | x :: t, _, ⟨As, ns, cs, rest, e, hn, hc, hr, ht⟩, u, hu => by
  rw [e] at hu
  simp only [qaC] at hu
  rcases hu with rfl | rfl | rfl | hu
  ·rfl
  ·rfl
  ·rfl
  ·exact LMem.one ht u hu
theorem LMem.app {W : World} {B : Nat} : ∀ {R : List LTh} {xs : List Value} {R2 : List LTh} {ys : List Value}, LMem W B ok xs R → LMem W B ok ys R2 → LMem W B ok (xs ++ ys) (R ++ R2)
 | [], _, R2, ys, h, k => by rw [show _ = [] from h]; exact k
 | x :: t, _, R2, ys, ⟨As, ns, cs, rest, e, hn, hc, hr, ht⟩, k => ⟨As, ns, cs, rest ++ ys, by rw [e]; rfl, hn, hc, hr, LMem.app ht k⟩
theorem LMem.parts {W : World} {B : Nat} : ∀ {R R2 : List LTh} {xs : List Value}, LMem W B ok xs (R ++ R2) → LMem W B ok (xs.take (R.length * 3)) R ∧ LMem W B ok (xs.drop (R.length * 3)) R2
 | [], R2, xs, h => by
  rw [show ([] : List LTh).length * 3 = 0 from rfl]
  exact ⟨by simp [LMem], by simpa using h⟩
 | x :: t, R2, xs, ⟨As, ns, cs, rest, e, hn, hc, hr, ht⟩ => by
  obtain ⟨h1, h2⟩ := LMem.parts ht
  rw [e, show (x :: t).length * 3 = t.length * 3 + 1 + 1 + 1 from by rw [qap]; omega]
  exact ⟨⟨As, ns, cs, rest.take (t.length * 3), rfl, hn, hc, hr, h1⟩, h2⟩
theorem LMem.at {W : World} {B : Nat} : ∀ {R : List LTh} {xs : List Value} (k : Nat) (hk : k < R.length), LMem W B ok xs R → ∃ As cs, xs[k * 3]? = some (.int .i64 R[k].w) ∧ xs[k * 3 + 1]? = some (.slice As R[k].syms.length cs) ∧ xs[k * 3 + 2]? = some (.bool R[k].leaf) ∧ R[k].syms.length ≤ cs ∧ (Reads W B 1 As R[k].syms.length (ints (lsy R[k].syms)) ∧ LOk ok As R[k].syms.length)
 | x :: t, _, 0, _, ⟨As, ns, cs, rest, e, hn, hc, hr, ht⟩ => by
  subst hn
  rw [e]
  exact ⟨As, cs, rfl, rfl, rfl, hc, hr⟩
 | x :: t, _, k + 1, hk, ⟨As, ns, cs, rest, e, hn, hc, hr, ht⟩ => by
  obtain ⟨As2, cs2, h1, h2, h3, h4, h5⟩ := LMem.at k (by simpa using hk) ht
  rw [e, show (k + 1) * 3 = k * 3 + 1 + 1 + 1 from by omega]
  exact ⟨As2, cs2, by simpa using h1, by simpa using h2, by simpa using h3, by simpa using h4, by simpa using h5⟩
end
def LHRow (W : World) (B : Nat) (ok : Nat → Prop) (A : Option Addr) (n : Nat) (R : List LTh) : Prop := R.length = n ∧ LOk ok A n ∧ ∃ xs, Reads W B 3 A n xs ∧ LMem W B ok xs R
section
variable {W W' : World} {B B' n : Nat} {ok : Nat → Prop} {A : Option Addr} {R : List LTh}
theorem LHRow.below (h : LHRow W B ok A n R) (hb : Below B W W') : LHRow W' B ok A n R := by
 obtain ⟨hn, ho, xs, hr, hm⟩ := h
 exact ⟨hn, ho, xs, hr.below hb, hm.below hb⟩
theorem LHRow.more (h : LHRow W B ok A n R) (hB : B ≤ B') : LHRow W B' ok A n R := by
 obtain ⟨hn, ho, xs, hr, hm⟩ := h
 exact ⟨hn, ho, xs, hr.more hB, hm.more hB⟩
theorem ygP {base size c : Nat} {e : TypeId} {xs : List Value} (h : W.ownsRow base e size (.slice A n c) n xs) (hf : ∀ b, base ≤ b → ok b) : LOk ok A n := fun hn => by
 rcases h.2 with ⟨h1, h2⟩ | ⟨g, cap, cur, h1, hb, _⟩
 ·omega
 ·injection h1 with h1 _ _
  exact ⟨g, 0, h1, hf g hb⟩
end
theorem Reads.front3 {w : World} {B size n m : Nat} {A : Option Addr} {xs : List Value} (h : Reads w B size A n xs) (hm : m ≤ n) (hs : 0 < size) : Reads w B size A m (xs.take (m * size)) := by
 refine ⟨by rw [qao, h.1]; exact qbf (qct _ hm), fun hp => ?_⟩
 obtain ⟨b, off, e, hb, hc⟩ := h.2 (by omega)
 refine ⟨b, off, e, hb, fun j u hu => hc j u ?_⟩
 rw [qc2] at hu
 split at hu
 ·exact hu
 ·cases hu
theorem lthing_info : (prog.info? 198).map (fun i => (i.zero, i.size, i.bytes)) = some (some (.agg #[.int .i64 0, .slice none 0 0, .bool false]), 3, 40) := by kernel_rfl
end Go.Proofs.YtanjhbkbpalnaaaGreat
