/-
  Layer 8, plain: the best lengths of counts: a code has them, and no others of that limit cost less (ahead of the code's landing).
-/
import Derived.Test.YtckekhghcelcpaaLenN
namespace Go.Proofs.Ytckekhghcelcpaa
set_option linter.unusedSimpArgs false
set_option linter.unusedVariables false
open Go.ChangeShapes Go.WideShapes Go.ChangeAt Go.RowKit Go.Joins Go.Deep

/-! ### The first row -/
def lfirst : Nat → List Int → List LTh → List LTh
  | _, [], out => out
  | i, c :: t, out => lfirst (i + 1) t (if 0 < c then lput out ⟨c, [i], true⟩ else out)
def lleaves (counts : List Int) : List LTh := lfirst 0 counts []
/-- A sum over a list's places and numbers. -/
def isum (g : Nat → Int → Int) : Nat → List Int → Int
  | _, [] => 0
  | i, c :: t => g i c + isum g (i + 1) t
theorem isum_congr {g h : Nat → Int → Int} : ∀ (l : List Int) (i : Nat), (∀ j (hj : j < l.length), g (i + j) l[j] = h (i + j) l[j]) → isum g i l = isum h i l
  | [], _, _ => rfl
  | c :: t, i, e => by
    have h0 := e 0 (by simp)
    have ih : isum g (i + 1) t = isum h (i + 1) t := isum_congr t (i + 1) fun j hj => by
      have e2 := e (j + 1) (by simpa using hj)
      rw [show i + (j + 1) = i + 1 + j from by omega] at e2
      exact e2
    simp only [Nat.add_zero, List.getElem_cons_zero] at h0
    show g i c + isum g (i + 1) t = h i c + isum h (i + 1) t
    rw [h0, ih]
theorem isum_add (g h : Nat → Int → Int) : ∀ (l : List Int) (i : Nat), isum (fun j c => g j c + h j c) i l = isum g i l + isum h i l
  | [], _ => rfl
  | c :: t, i => by
    have ih := isum_add g h t (i + 1)
    simp only [isum, ih]
    omega
theorem isum_zero (l : List Int) : ∀ i, isum (fun _ _ => 0) i l = 0 := by
  induction l with
  | nil => intro i; rfl
  | cons c t ih => intro i; simp [isum, ih]
theorem lsum_lput (f : LTh → Int) (x : LTh) (R : List LTh) : lsum f (lput R x) = lsum f R + f x := by
  obtain ⟨r1, r2, h1, h2, _, _⟩ := lput_split x R
  rw [h2, h1, lsum_app, lsum_app]
  simp only [lsum]
  omega
theorem lput_mem (x y : LTh) (R : List LTh) : y ∈ lput R x ↔ y = x ∨ y ∈ R := by
  obtain ⟨r1, r2, h1, h2, _, _⟩ := lput_split x R
  rw [h2, h1]
  simp only [List.mem_append, List.mem_cons]
  constructor
  · rintro (h | h | h)
    · exact Or.inr (Or.inl h)
    · exact Or.inl h
    · exact Or.inr (Or.inr h)
  · rintro (h | h | h)
    · exact Or.inr (Or.inl h)
    · exact Or.inl h
    · exact Or.inr (Or.inr h)
theorem lput_order (x : LTh) (R : List LTh) (h : R.Pairwise (fun a b => lle a b = true)) : (lput R x).Pairwise (fun a b => lle a b = true) := by
  obtain ⟨r1, r2, h1, h2, h3, h4⟩ := lput_split x R
  rw [h1] at h
  obtain ⟨o1, o2, o3⟩ := List.pairwise_append.1 h
  rw [h2, List.pairwise_append]
  have hx2 : ∀ z ∈ r2, lle x z = true := by
    intro z hz
    cases hr : r2 with
    | nil => rw [hr] at hz; cases hz
    | cons y t =>
      have hy := lle_total (h4 y t hr)
      rw [hr] at hz o2
      rcases List.mem_cons.1 hz with rfl | hz
      · exact hy
      · exact lle_trans hy ((List.pairwise_cons.1 o2).1 z hz)
  refine ⟨o1, List.pairwise_cons.2 ⟨hx2, o2⟩, ?_⟩
  intro a ha b hb
  rcases List.mem_cons.1 hb with rfl | hb
  · exact h3 a ha
  · exact o3 a ha b hb
theorem lput_dist (x : LTh) (R : List LTh) (h : R.Pairwise (fun a b => a.syms ≠ b.syms)) (hx : ∀ y ∈ R, y.syms ≠ x.syms) : (lput R x).Pairwise (fun a b => a.syms ≠ b.syms) := by
  obtain ⟨r1, r2, h1, h2, h3, h4⟩ := lput_split x R
  rw [h1] at h hx
  obtain ⟨o1, o2, o3⟩ := List.pairwise_append.1 h
  rw [h2, List.pairwise_append]
  refine ⟨o1, List.pairwise_cons.2 ⟨fun z hz => (hx z (List.mem_append_right _ hz)).symm, o2⟩, ?_⟩
  intro a ha b hb
  rcases List.mem_cons.1 hb with rfl | hb
  · exact hx a (List.mem_append_left _ ha)
  · exact o3 a ha b hb
theorem lfirst_sum (f : LTh → Int) : ∀ (l : List Int) (i : Nat) (out : List LTh), lsum f (lfirst i l out) = lsum f out + isum (fun j c => if 0 < c then f ⟨c, [j], true⟩ else 0) i l
  | [], i, out => by simp [lfirst, isum]
  | c :: t, i, out => by
    have ih := lfirst_sum f t (i + 1) (if 0 < c then lput out ⟨c, [i], true⟩ else out)
    show lsum f (lfirst (i + 1) t _) = lsum f out + ((if 0 < c then f ⟨c, [i], true⟩ else 0) + isum _ (i + 1) t)
    rw [ih]
    by_cases h : 0 < c
    · rw [if_pos h, if_pos h, lsum_lput]; omega
    · rw [if_neg h, if_neg h]; omega
theorem lfirst_order : ∀ (l : List Int) (i : Nat) (out : List LTh), out.Pairwise (fun a b => lle a b = true) → (lfirst i l out).Pairwise (fun a b => lle a b = true)
  | [], i, out, h => h
  | c :: t, i, out, h => by
    refine lfirst_order t (i + 1) _ ?_
    split
    · exact lput_order _ _ h
    · exact h
theorem lfirst_mem : ∀ (l : List Int) (i : Nat) (out : List LTh) (x : LTh), x ∈ lfirst i l out ↔ x ∈ out ∨ ∃ j, ∃ hj : j < l.length, 0 < l[j] ∧ x = ⟨l[j], [i + j], true⟩
  | [], i, out, x => by simp [lfirst]
  | c :: t, i, out, x => by
    have ih := lfirst_mem t (i + 1) (if 0 < c then lput out ⟨c, [i], true⟩ else out) x
    show x ∈ lfirst (i + 1) t _ ↔ _
    rw [ih]
    constructor
    · rintro (h | ⟨j, hj, h1, h2⟩)
      · by_cases hc : 0 < c
        · rw [if_pos hc, lput_mem] at h
          rcases h with rfl | h
          · exact Or.inr ⟨0, by simp, hc, rfl⟩
          · exact Or.inl h
        · rw [if_neg hc] at h
          exact Or.inl h
      · exact Or.inr ⟨j + 1, by simpa using hj, h1, by rw [h2, show i + 1 + j = i + (j + 1) from by omega]; rfl⟩
    · rintro (h | ⟨j, hj, h1, h2⟩)
      · refine Or.inl ?_
        split
        · exact (lput_mem _ _ _).2 (Or.inr h)
        · exact h
      · cases j with
        | zero =>
          refine Or.inl ?_
          rw [if_pos (show 0 < c from h1)]
          exact (lput_mem _ _ _).2 (Or.inl h2)
        | succ j => exact Or.inr ⟨j, by simpa using hj, h1, by rw [h2, show i + 1 + j = i + (j + 1) from by omega]; rfl⟩
theorem lfirst_dist : ∀ (l : List Int) (i : Nat) (out : List LTh), out.Pairwise (fun a b => a.syms ≠ b.syms) → (∀ x ∈ out, ∃ j, j < i ∧ x.syms = [j]) → (lfirst i l out).Pairwise (fun a b => a.syms ≠ b.syms)
  | [], i, out, h, _ => h
  | c :: t, i, out, h, hs => by
    refine lfirst_dist t (i + 1) _ ?_ ?_
    · split
      · refine lput_dist _ _ h fun y hy => ?_
        obtain ⟨j, hj, e⟩ := hs y hy
        rw [e]
        intro e2
        injection e2 with e2 _
        omega
      · exact h
    · intro x hx
      split at hx
      · rcases (lput_mem _ _ _).1 hx with rfl | hx
        · exact ⟨i, by omega, rfl⟩
        · obtain ⟨j, hj, e⟩ := hs x hx
          exact ⟨j, by omega, e⟩
      · obtain ⟨j, hj, e⟩ := hs x hx
        exact ⟨j, by omega, e⟩
section
variable (counts : List Int)
theorem lleaves_mem (x : LTh) : x ∈ lleaves counts ↔ ∃ j, ∃ hj : j < counts.length, 0 < counts[j] ∧ x = ⟨counts[j], [j], true⟩ := by
  unfold lleaves
  rw [lfirst_mem]
  simp
theorem lleaves_ok : LLeaves (lleaves counts) :=
  ⟨fun x hx => by obtain ⟨j, hj, _, rfl⟩ := (lleaves_mem counts x).1 hx; rfl, lorder_w (lfirst_order counts 0 [] List.Pairwise.nil)⟩
theorem lleaves_pos : ∀ x ∈ lleaves counts, 0 < x.w := fun x hx => by
  obtain ⟨j, hj, h, rfl⟩ := (lleaves_mem counts x).1 hx
  exact h
theorem lleaves_dist : (lleaves counts).Pairwise (fun a b => a.syms ≠ b.syms) := lfirst_dist counts 0 [] List.Pairwise.nil (by simp)
theorem lleaves_sum (f : LTh → Int) : lsum f (lleaves counts) = isum (fun j c => if 0 < c then f ⟨c, [j], true⟩ else 0) 0 counts := by
  unfold lleaves
  rw [lfirst_sum]
  simp [lsum]
end

/-! ### How often a symbol is in things, and what they weigh -/
def lhas (s : Nat) (x : LTh) : Int := (x.syms.count s : Nat)
theorem lhas_adds (s : Nat) : LAdds (lhas s) := fun a b => by
  show ((List.count s (a.syms ++ b.syms) : Nat) : Int) = _
  rw [List.count_append]
  rfl
/-- What a thing's symbols weigh together. -/
def lval (counts : List Int) (x : LTh) : Int := isum (fun j c => c * lhas j x) 0 counts
theorem lval_adds (counts : List Int) : LAdds (lval counts) := fun a b => by
  unfold lval
  rw [← isum_add]
  refine isum_congr counts 0 fun j hj => ?_
  rw [lhas_adds, Int.mul_add]
theorem isum_at : ∀ (l : List Int) (i s : Nat) (h : s < l.length), isum (fun j c => if j = i + s then c else 0) i l = l[s]
  | c :: t, i, 0, _ => by
    have : isum (fun j c => if j = i + 0 then c else 0) (i + 1) t = 0 := (isum_congr (h := fun _ _ => 0) t (i + 1) fun j hj => by rw [if_neg (by omega)]).trans (isum_zero t (i + 1))
    show (if i = i + 0 then c else 0) + isum _ (i + 1) t = c
    rw [this]
    simp
  | c :: t, i, s + 1, h => by
    have ih := isum_at t (i + 1) s (by simpa using h)
    show (if i = i + (s + 1) then c else 0) + isum _ (i + 1) t = t[s]'(by simpa using h)
    rw [if_neg (by omega), ← ih, Int.zero_add]
    exact isum_congr t (i + 1) fun j hj => by rw [show i + 1 + s = i + (s + 1) from by omega]
theorem lval_leaf (counts : List Int) (s : Nat) (h : s < counts.length) : lval counts ⟨counts[s], [s], true⟩ = counts[s] := by
  rw [← isum_at counts 0 s h]
  refine isum_congr counts 0 fun j hj => ?_
  show counts[j] * (([s].count (0 + j) : Nat) : Int) = if 0 + j = 0 + s then counts[j] else 0
  rw [Nat.zero_add, Nat.zero_add, List.count_singleton]
  by_cases e : j = s
  · subst e; simp
  · rw [if_neg e, if_neg (by simpa using fun h : s = j => e h.symm)]; simp
theorem lpacks_val {f g : LTh → Int} (hf : LAdds f) (hg : LAdds g) : ∀ R : List LTh, (∀ x ∈ R, f x = g x) → ∀ x ∈ lpacks R, f x = g x
  | [], _, x, h => by cases h
  | [_], _, x, h => by cases h
  | a :: b :: t, e, x, h => by
    rcases List.mem_cons.1 h with rfl | h
    · rw [hf, hg, e a (by simp), e b (by simp)]
    · exact lpacks_val hf hg t (fun y hy => e y (by simp [hy])) x h
theorem lrow_val {leaves : List LTh} (hl : LLeaves leaves) {f g : LTh → Int} (hf : LAdds f) (hg : LAdds g) (h0 : ∀ x ∈ leaves, f x = g x) : ∀ k, ∀ x ∈ lrow leaves k, f x = g x
  | 0, x, h => h0 x h
  | k + 1, x, h => by
    have hr := lrow_row hl k
    cases hx : x.leaf with
    | true => exact h0 x (by rw [← hr.lv]; exact List.mem_filter.2 ⟨h, hx⟩)
    | false => exact lpacks_val hf hg _ (lrow_val hl hf hg h0 k) x (by rw [← hr.pk]; exact List.mem_filter.2 ⟨h, by simp [hx]⟩)
theorem lsum_congr {f g : LTh → Int} : ∀ R : List LTh, (∀ x ∈ R, f x = g x) → lsum f R = lsum g R
  | [], _ => rfl
  | x :: t, e => by
    simp only [lsum]
    rw [e x (List.mem_cons_self ..), lsum_congr t fun y hy => e y (List.mem_cons_of_mem _ hy)]
theorem lval_sum (counts : List Int) : ∀ R : List LTh, lsum (lval counts) R = isum (fun j c => c * lsum (lhas j) R) 0 counts
  | [] => by
    have := isum_congr (g := fun j c => c * lsum (lhas j) []) (h := fun _ _ => 0) counts 0 fun j hj => by simp [lsum]
    rw [this, isum_zero]
    rfl
  | x :: t => by
    show lval counts x + lsum (lval counts) t = _
    rw [lval_sum counts t]
    unfold lval
    rw [← isum_add]
    exact isum_congr counts 0 fun j hj => by rw [← Int.mul_add]; rfl

/-! ### The best lengths -/
/-- The things that are taken of the last row. -/
def ltaken (counts : List Int) (most : Nat) : List LTh := (lrow (lleaves counts) (most - 1)).take (2 * (lleaves counts).length - 2)
/-- A symbol's best length, where two symbols come, or more. -/
def llen (counts : List Int) (most s : Nat) : Int := lsum (lhas s) (ltaken counts most)
def lbestL (counts : List Int) (most : Nat) : List Int :=
  if (lleaves counts).length = 1 then counts.map (fun c => if 0 < c then 1 else 0) else (List.range counts.length).map fun s => llen counts most s
theorem lbestL_len (counts : List Int) (most : Nat) : (lbestL counts most).length = counts.length := by
  unfold lbestL
  split <;> simp
theorem llen_cost (counts : List Int) (most : Nat) : isum (fun j c => c * llen counts most j) 0 counts = lsum (·.w) (ltaken counts most) := by
  have h1 : ∀ x ∈ lrow (lleaves counts) (most - 1), lval counts x = x.w := by
    refine lrow_val (lleaves_ok counts) (lval_adds counts) (g := (·.w)) (fun a b => rfl) (fun x hx => ?_) (most - 1)
    obtain ⟨j, hj, _, rfl⟩ := (lleaves_mem counts x).1 hx
    exact lval_leaf counts j hj
  rw [← lsum_congr (f := lval counts) (ltaken counts most) fun x hx => h1 x (List.mem_of_mem_take hx), lval_sum]
  rfl
end Go.Proofs.Ytckekhghcelcpaa
