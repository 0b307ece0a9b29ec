/-
  Layer 15, plain: records as bytes, rows of records; back (P15.5) and rows (P15.6) (ahead of the code's landing).
-/
import Derived.Test.YtckengcphaaohaaVarM
namespace Go.Proofs.Ytckengcphaaohaa
set_option linter.unusedSimpArgs false
set_option linter.unusedVariables false
open Go.ChangeShapes Go.WideShapes Go.ChangeAt Go.RowKit Go.Joins Go.Deep
abbrev Rc := Int × Int × List UInt8
def rmay (r : Rc) : Bool := decide (1 ≤ r.1 ∧ r.1 ≤ 1000000000 ∧ 0 ≤ r.2.1 ∧ r.2.1 ≤ 1000000000 ∧ r.2.2.length ≤ 2000)
theorem rmay_iff (r : Rc) : rmay r = true ↔ (1 ≤ r.1 ∧ r.1 ≤ 1000000000 ∧ 0 ≤ r.2.1 ∧ r.2.1 ≤ 1000000000 ∧ r.2.2.length ≤ 2000) := decide_eq_true_iff
def rchk (r : Rc) : Int := if rmay r = true then 0 else 150
def rB (r : Rc) : List UInt8 := putB r.1 ++ (putB r.2.1 ++ (putB r.2.2.length ++ r.2.2))
def rputF (r : Rc) : List UInt8 × Int := if rmay r = true then (rB r, 0) else ([], 150)
def rsizeF (r : Rc) : Nat := (rputF r).1.length
def rnone : Rc := (0, 0, [])
def rg3 (s : List UInt8) (x y n c : Int) : Rc × Int × Int :=
  if 1 ≤ x ∧ x ≤ 1000000000 ∧ y ≤ 1000000000 ∧ n ≤ 2000 then (if (s.length : Int) < c + n then (rnone, 0, 4) else ((x, y, (s.drop c.toNat).take n.toNat), c + n, 0)) else (rnone, 0, 150)
def rg2 (s : List UInt8) (x y b : Int) : Rc × Int × Int := if (getF s b).2.2 ≠ 0 then (rnone, 0, (getF s b).2.2) else rg3 s x y (getF s b).1 (getF s b).2.1
def rg1 (s : List UInt8) (x a : Int) : Rc × Int × Int := if (getF s a).2.2 ≠ 0 then (rnone, 0, (getF s a).2.2) else rg2 s x (getF s a).1 (getF s a).2.1
def rgetF (s : List UInt8) (p : Int) : Rc × Int × Int := if (getF s p).2.2 ≠ 0 then (rnone, 0, (getF s p).2.2) else rg1 s (getF s p).1 (getF s p).2.1
theorem rnum_put (pre rest : List UInt8) (n : Int) (h0 : 0 ≤ n) (h : n < 9223372036854775808) (p : Int) (hp : p = (pre.length : Int)) : getF (pre ++ (putB n ++ rest)) p = (n, (pre.length : Int) + (putB n).length, 0) := by
  subst hp
  have := getF_put pre rest n.toNat (by omega)
  rw [putB_of h0, this, Int.toNat_of_nonneg h0]
theorem rnum_ok {s : List UInt8} {p : Int} (h : (getF s p).2.2 = 0) : 0 ≤ p ∧ p ≤ s.length ∧ 0 ≤ (getF s p).1 ∧ (getF s p).1 < 9223372036854775808 ∧ p < (getF s p).2.1 ∧ (getF s p).2.1 ≤ s.length ∧ (s.drop p.toNat).take ((getF s p).2.1 - p).toNat = putB (getF s p).1 := by
  unfold getF at h ⊢
  by_cases hp : 0 ≤ p ∧ p ≤ s.length
  · rw [if_pos hp] at h ⊢
    by_cases h2 : (getR (s.drop p.toNat)).2.2 = 0
    · rw [if_pos h2]
      obtain ⟨m, hm, e1, e2, e3, e4⟩ := getR_ok _ h2
      rw [List.length_drop] at e3
      simp only
      refine ⟨hp.1, hp.2, by omega, by omega, by omega, by omega, ?_⟩
      rw [e1, putB_of (by omega), Int.toNat_natCast, show (p + ((getR (s.drop p.toNat)).2.1 : Nat) - p : Int).toNat = (getR (s.drop p.toNat)).2.1 from by omega]
      exact e4
    · rw [if_neg h2] at h
      exact absurd h h2
  · rw [if_neg hp] at h
    simp at h
theorem rput_pos {n : Int} (h : 0 ≤ n) : 0 < (putB n).length := by
  rw [putB_of h]
  exact dg_pos 8 _
theorem rput_len (n : Int) : (putB n).length ≤ 9 := by
  unfold putB
  split
  · exact Nat.zero_le _
  · exact dg_le 9 _
theorem rget_put (pre rest : List UInt8) (r : Rc) (h : rmay r = true) (p : Int) (hp : p = (pre.length : Int)) : rgetF (pre ++ (rB r ++ rest)) p = (r, (pre.length : Int) + (rB r).length, 0) := by
  rw [rmay_iff] at h
  obtain ⟨x, y, d⟩ := r
  dsimp only at h
  obtain ⟨h1, h2, h3, h4, h5⟩ := h
  have g1 := rnum_put pre (putB y ++ (putB d.length ++ (d ++ rest))) x (by omega) (by omega) p hp
  have g2 := rnum_put (pre ++ putB x) (putB d.length ++ (d ++ rest)) y (by omega) (by omega) ((pre.length : Int) + (putB x).length) (by rw [List.length_append]; omega)
  have g3 := rnum_put ((pre ++ putB x) ++ putB y) (d ++ rest) d.length (by omega) (by omega) (((pre ++ putB x).length : Int) + (putB y).length) (by simp only [List.length_append]; omega)
  have e : pre ++ (rB (x, y, d) ++ rest) = pre ++ (putB x ++ (putB y ++ (putB d.length ++ (d ++ rest)))) := by unfold rB; simp only [List.append_assoc]
  have e2 : (pre ++ putB x) ++ (putB y ++ (putB d.length ++ (d ++ rest))) = pre ++ (putB x ++ (putB y ++ (putB d.length ++ (d ++ rest)))) := by simp only [List.append_assoc]
  have e3 : ((pre ++ putB x) ++ putB y) ++ (putB d.length ++ (d ++ rest)) = pre ++ (putB x ++ (putB y ++ (putB d.length ++ (d ++ rest)))) := by simp only [List.append_assoc]
  rw [e2] at g2
  rw [e3] at g3
  rw [e]
  have e4 : (pre ++ (putB x ++ (putB y ++ (putB d.length ++ (d ++ rest))))).drop (pre.length + (putB x).length + (putB y).length + (putB d.length).length) = d ++ rest := by
    have : pre ++ (putB x ++ (putB y ++ (putB d.length ++ (d ++ rest)))) = (((pre ++ putB x) ++ putB y) ++ putB d.length) ++ (d ++ rest) := by simp only [List.append_assoc]
    rw [this]
    exact List.drop_left' (by simp only [List.length_append])
  have e5 : (pre ++ (putB x ++ (putB y ++ (putB d.length ++ (d ++ rest))))).length = pre.length + (putB x).length + (putB y).length + (putB d.length).length + d.length + rest.length := by simp only [List.length_append]; omega
  have e6 : ((rB (x, y, d)).length : Int) = (putB x).length + (putB y).length + (putB d.length).length + d.length := by unfold rB; simp only [List.length_append]; omega
  generalize pre ++ (putB x ++ (putB y ++ (putB d.length ++ (d ++ rest)))) = S at *
  unfold rgetF
  rw [g1]
  dsimp only
  rw [if_neg (by simp)]
  unfold rg1
  rw [g2]
  dsimp only
  rw [if_neg (by simp)]
  unfold rg2
  rw [g3]
  dsimp only
  rw [if_neg (by simp)]
  unfold rg3
  rw [if_pos (by omega), if_neg (by simp only [List.length_append]; omega)]
  simp only [List.length_append]
  refine Prod.ext ?_ (Prod.ext ?_ rfl)
  · refine Prod.ext rfl (Prod.ext rfl ?_)
    dsimp only
    rw [show (((pre.length + (putB x).length + (putB y).length : Nat) : Int) + (putB (d.length : Int)).length).toNat = pre.length + (putB x).length + (putB y).length + (putB d.length).length from by omega, e4, Int.toNat_natCast, List.take_left' rfl]
  · dsimp only
    omega
theorem rget_ok {s : List UInt8} {p : Int} (h : (rgetF s p).2.2 = 0) : 0 ≤ p ∧ p < (rgetF s p).2.1 ∧ (rgetF s p).2.1 ≤ s.length ∧ rmay (rgetF s p).1 = true ∧ (s.drop p.toNat).take ((rgetF s p).2.1 - p).toNat = rB (rgetF s p).1 := by
  unfold rgetF at h ⊢
  by_cases h1 : (getF s p).2.2 ≠ 0
  · rw [if_pos h1] at h
    exact absurd h h1
  rw [if_neg h1] at h ⊢
  obtain ⟨a1, a2, a3, a4, a5, a6, a7⟩ := rnum_ok (s := s) (p := p) (by omega)
  generalize getF s p = u at *
  obtain ⟨x, a, ea⟩ := u
  dsimp only at *
  unfold rg1 at h ⊢
  by_cases h2 : (getF s a).2.2 ≠ 0
  · rw [if_pos h2] at h
    exact absurd h h2
  rw [if_neg h2] at h ⊢
  obtain ⟨b1, b2, b3, b4, b5, b6, b7⟩ := rnum_ok (s := s) (p := a) (by omega)
  generalize getF s a = u at *
  obtain ⟨y, b, eb⟩ := u
  dsimp only at *
  unfold rg2 at h ⊢
  by_cases h3 : (getF s b).2.2 ≠ 0
  · rw [if_pos h3] at h
    exact absurd h h3
  rw [if_neg h3] at h ⊢
  obtain ⟨c1, c2, c3, c4, c5, c6, c7⟩ := rnum_ok (s := s) (p := b) (by omega)
  generalize getF s b = u at *
  obtain ⟨n, c, ec⟩ := u
  dsimp only at *
  unfold rg3 at h ⊢
  by_cases h4 : 1 ≤ x ∧ x ≤ 1000000000 ∧ y ≤ 1000000000 ∧ n ≤ 2000
  · rw [if_pos h4] at h ⊢
    by_cases h5 : (s.length : Int) < c + n
    · rw [if_pos h5] at h
      cases h
    · rw [if_neg h5]
      dsimp only
      have hd : ((s.drop c.toNat).take n.toNat).length = n.toNat := by rw [List.length_take, List.length_drop]; omega
      refine ⟨a1, by omega, by omega, (rmay_iff _).2 ⟨h4.1, h4.2.1, by dsimp only; omega, h4.2.2.1, by dsimp only; rw [hd]; omega⟩, ?_⟩
      unfold rB
      dsimp only
      rw [hd, Int.toNat_of_nonneg c3, ← a7, ← b7, ← c7]
      have k1 : (c + n - p).toNat = (a - p).toNat + ((b - a).toNat + ((c - b).toNat + n.toNat)) := by omega
      rw [k1, List.take_add, List.take_add, List.take_add, List.drop_drop, List.drop_drop, List.drop_drop, show p.toNat + (a - p).toNat = a.toNat from by omega, show a.toNat + (b - a).toNat = b.toNat from by omega, show b.toNat + (c - b).toNat = c.toNat from by omega]
  · rw [if_neg h4] at h
    cases h
def rgo (a b : Rc) : Bool := decide (b.1 = a.1 + 1 ∧ a.2.1 ≤ b.2.1)
theorem rgo_iff (a b : Rc) : rgo a b = true ↔ (b.1 = a.1 + 1 ∧ a.2.1 ≤ b.2.1) := decide_eq_true_iff
def rrow1 (a : Rc) : List Rc → Int
  | [] => 0
  | b :: t => if rmay b = true then (if rgo a b = true then rrow1 b t else 151) else 150
def rrowF : List Rc → Int
  | [] => 0
  | a :: t => if rmay a = true then rrow1 a t else 150
theorem rrow1_cons {a b : Rc} {t : List Rc} (h : rrow1 a (b :: t) = 0) : rmay b = true ∧ rgo a b = true ∧ rrow1 b t = 0 := by
  unfold rrow1 at h
  by_cases h1 : rmay b = true
  · rw [if_pos h1] at h
    by_cases h2 : rgo a b = true
    · rw [if_pos h2] at h
      exact ⟨h1, h2, h⟩
    · rw [if_neg h2] at h
      cases h
  · rw [if_neg h1] at h
    cases h
theorem rrow1_may : ∀ (t : List Rc) (a : Rc), rrow1 a t = 0 → ∀ r ∈ t, rmay r = true
  | [], a, _, r, hr => by cases hr
  | b :: t, a, h, r, hr => by
    obtain ⟨h1, _, h3⟩ := rrow1_cons h
    rcases List.mem_cons.1 hr with rfl | hr
    · exact h1
    · exact rrow1_may t b h3 r hr
theorem rrow_may {l : List Rc} (h : rrowF l = 0) : ∀ r ∈ l, rmay r = true := by
  cases l with
  | nil => intro r hr; cases hr
  | cons a t =>
    change (if rmay a = true then rrow1 a t else 150) = 0 at h
    by_cases h1 : rmay a = true
    · rw [if_pos h1] at h
      intro r hr
      rcases List.mem_cons.1 hr with rfl | hr
      · exact h1
      · exact rrow1_may t a h r hr
    · rw [if_neg h1] at h
      cases h
theorem rrow1_app (b : Rc) (u : List Rc) : ∀ (t : List Rc) (a : Rc), rrow1 a t = 0 → rrow1 a (t ++ b :: u) = rrow1 ((a :: t).getLast (by simp)) (b :: u)
  | [], a, _ => rfl
  | c :: t, a, h => by
    obtain ⟨h1, h2, h3⟩ := rrow1_cons h
    have ih := rrow1_app b u t c h3
    rw [List.cons_append]
    show (if rmay c = true then (if rgo a c = true then rrow1 c (t ++ b :: u) else 151) else 150) = _
    rw [if_pos h1, if_pos h2, ih]
    rfl
theorem rrow_app {a b : List Rc} (ha : a ≠ []) (hb : b ≠ []) (h1 : rrowF a = 0) (h2 : rrowF b = 0) : rrowF (a ++ b) = 0 ↔ rgo (a.getLast ha) (b.head hb) = true := by
  cases a with
  | nil => exact absurd rfl ha
  | cons x t =>
    cases b with
    | nil => exact absurd rfl hb
    | cons y u =>
      change (if rmay x = true then rrow1 x t else 150) = 0 at h1
      change (if rmay y = true then rrow1 y u else 150) = 0 at h2
      by_cases m1 : rmay x = true
      · rw [if_pos m1] at h1
        by_cases m2 : rmay y = true
        · rw [if_pos m2] at h2
          have e := rrow1_app y u t x h1
          rw [List.cons_append]
          show (if rmay x = true then rrow1 x (t ++ y :: u) else 150) = 0 ↔ _
          rw [if_pos m1, e]
          show (if rmay y = true then (if rgo _ y = true then rrow1 y u else 151) else 150) = 0 ↔ _
          rw [if_pos m2, h2]
          by_cases g : rgo ((x :: t).getLast (by simp)) y = true
          · rw [if_pos g]
            exact ⟨fun _ => g, fun _ => rfl⟩
          · rw [if_neg g]
            exact ⟨fun h => (by cases h), fun h => absurd h g⟩
        · rw [if_neg m2] at h2
          cases h2
      · rw [if_neg m1] at h1
        cases h1
theorem rrow1_part : ∀ (t : List Rc) (a b : Rc) (u : List Rc), rrow1 a (t ++ b :: u) = 0 → rrow1 a t = 0 ∧ rmay b = true ∧ rrow1 b u = 0
  | [], a, b, u, h => by
    obtain ⟨h1, _, h3⟩ := rrow1_cons h
    exact ⟨rfl, h1, h3⟩
  | c :: t, a, b, u, h => by
    rw [List.cons_append] at h
    obtain ⟨h1, h2, h3⟩ := rrow1_cons h
    obtain ⟨k1, k2, k3⟩ := rrow1_part t c b u h3
    refine ⟨?_, k2, k3⟩
    show (if rmay c = true then (if rgo a c = true then rrow1 c t else 151) else 150) = 0
    rw [if_pos h1, if_pos h2, k1]
theorem rrow_part {a b : List Rc} (h : rrowF (a ++ b) = 0) : rrowF a = 0 ∧ rrowF b = 0 := by
  cases a with
  | nil => exact ⟨rfl, h⟩
  | cons x t =>
    cases b with
    | nil =>
      rw [List.append_nil] at h
      exact ⟨h, rfl⟩
    | cons y u =>
      rw [List.cons_append] at h
      change (if rmay x = true then rrow1 x (t ++ y :: u) else 150) = 0 at h
      show (if rmay x = true then rrow1 x t else 150) = 0 ∧ (if rmay y = true then rrow1 y u else 150) = 0
      by_cases m1 : rmay x = true
      · rw [if_pos m1] at h ⊢
        obtain ⟨k1, k2, k3⟩ := rrow1_part t x y u h
        refine ⟨k1, ?_⟩
        rw [if_pos k2]
        exact k3
      · rw [if_neg m1] at h
        cases h
def rjB (l : List Rc) : List UInt8 := l.flatMap rB
theorem rjB_cons (a : Rc) (l : List Rc) : rjB (a :: l) = rB a ++ rjB l := rfl
theorem rjB_app (a b : List Rc) : rjB (a ++ b) = rjB a ++ rjB b := by unfold rjB; rw [List.flatMap_append]
def rjoinF (l : List Rc) : List UInt8 × Int := if rrowF l ≠ 0 then ([], rrowF l) else if 20000 < (rjB l).length then ([], 3) else (rjB l, 0)
def rsp (s : List UInt8) : Nat → Int → List Rc → List Rc × Int
  | 0, _, acc => (acc, 0)
  | f + 1, p, acc => if p < s.length then (if (rgetF s p).2.2 ≠ 0 then ([], (rgetF s p).2.2) else rsp s f (rgetF s p).2.1 (acc ++ [(rgetF s p).1])) else (acc, 0)
def rsplitF (s : List UInt8) : List Rc × Int :=
  if 20000 < s.length then ([], 3) else if (rsp s s.length 0 []).2 ≠ 0 then ([], (rsp s s.length 0 []).2) else if rrowF (rsp s s.length 0 []).1 ≠ 0 then ([], rrowF (rsp s s.length 0 []).1) else ((rsp s s.length 0 []).1, 0)
theorem rB_pos {r : Rc} (h : rmay r = true) : 0 < (rB r).length := by
  have := rput_pos (n := r.1) (by have := (rmay_iff r).1 h; omega)
  unfold rB
  rw [List.length_append]
  omega
theorem rjB_count : ∀ {l : List Rc}, (∀ r ∈ l, rmay r = true) → l.length ≤ (rjB l).length
  | [], _ => Nat.zero_le _
  | a :: l, h => by
    have h1 := rB_pos (h a (List.mem_cons_self ..))
    have ih := rjB_count (l := l) fun r hr => h r (List.mem_cons_of_mem _ hr)
    rw [rjB_cons, List.length_append, List.length_cons]
    omega
theorem rsp_back : ∀ (l : List Rc) (f : Nat) (pre : List UInt8) (acc : List Rc), (∀ r ∈ l, rmay r = true) → (rjB l).length ≤ f → rsp (pre ++ rjB l) f pre.length acc = (acc ++ l, 0)
  | [], f, pre, acc, _, _ => by
    have e : pre ++ rjB [] = pre := List.append_nil pre
    rw [e, List.append_nil]
    cases f with
    | zero => rfl
    | succ f =>
      unfold rsp
      rw [if_neg (by omega)]
  | a :: l, f, pre, acc, h, hf => by
    have h1 := h a (List.mem_cons_self ..)
    have h2 := rB_pos h1
    rw [rjB_cons, List.length_append] at hf
    cases f with
    | zero => omega
    | succ f =>
      have g := rget_put pre (rjB l) a h1 pre.length rfl
      have ih := rsp_back l f (pre ++ rB a) (acc ++ [a]) (fun r hr => h r (List.mem_cons_of_mem _ hr)) (by omega)
      rw [rjB_cons]
      unfold rsp
      rw [if_pos (by rw [List.length_append, List.length_append]; omega), g]
      dsimp only
      rw [if_neg (by simp)]
      rw [List.append_assoc] at ih
      rw [show ((pre.length : Int) + (rB a).length) = ((pre ++ rB a).length : Int) from by rw [List.length_append]; omega, ih, List.append_assoc]
      rfl
theorem rback {l : List Rc} (h : (rjoinF l).2 = 0) : rsplitF (rjoinF l).1 = (l, 0) ∧ rjoinF l = (rjB l, 0) ∧ (rjB l).length ≤ 20000 := by
  unfold rjoinF at h ⊢
  by_cases h1 : rrowF l ≠ 0
  · rw [if_pos h1] at h
    exact absurd h h1
  rw [if_neg h1] at h ⊢
  by_cases h2 : 20000 < (rjB l).length
  · rw [if_pos h2] at h
    cases h
  rw [if_neg h2]
  have e := rsp_back l (rjB l).length [] [] (rrow_may (by omega)) (Nat.le_refl _)
  rw [List.nil_append, List.nil_append] at e
  refine ⟨?_, rfl, by omega⟩
  unfold rsplitF
  dsimp only
  rw [if_neg h2]
  have e0 : (([] : List UInt8).length : Int) = 0 := rfl
  rw [e0] at e
  rw [e, if_neg (by simp)]
  dsimp only
  rw [if_neg h1]
theorem rsp_ok (s : List UInt8) : ∀ (f : Nat) (p : Int) (acc : List Rc), 0 ≤ p → p ≤ s.length → (s.length : Int) - p ≤ f → (rsp s f p acc).2 = 0 → ∃ l, (rsp s f p acc).1 = acc ++ l ∧ rjB l = s.drop p.toNat
  | 0, p, acc, h0, h1, hf, _ => ⟨[], (List.append_nil _).symm, by rw [List.drop_of_length_le (by omega)]; rfl⟩
  | f + 1, p, acc, h0, h1, hf, h => by
    unfold rsp at h ⊢
    by_cases hp : p < s.length
    · rw [if_pos hp] at h ⊢
      by_cases he : (rgetF s p).2.2 ≠ 0
      · rw [if_pos he] at h
        exact absurd h he
      · rw [if_neg he] at h ⊢
        obtain ⟨a1, a2, a3, _, a5⟩ := rget_ok (s := s) (p := p) (by omega)
        obtain ⟨l, e1, e2⟩ := rsp_ok s f (rgetF s p).2.1 (acc ++ [(rgetF s p).1]) (by omega) a3 (by omega) h
        refine ⟨(rgetF s p).1 :: l, by rw [e1, List.append_assoc]; rfl, ?_⟩
        rw [rjB_cons, e2, ← a5]
        have := List.take_append_drop ((rgetF s p).2.1 - p).toNat (s.drop p.toNat)
        rw [List.drop_drop, show p.toNat + ((rgetF s p).2.1 - p).toNat = (rgetF s p).2.1.toNat from by omega] at this
        exact this
    · rw [if_neg hp]
      exact ⟨[], (List.append_nil _).symm, by rw [List.drop_of_length_le (by omega)]; rfl⟩
theorem rforth {s : List UInt8} (h : (rsplitF s).2 = 0) : rjoinF (rsplitF s).1 = (s, 0) := by
  unfold rsplitF at h ⊢
  by_cases h1 : 20000 < s.length
  · rw [if_pos h1] at h
    cases h
  rw [if_neg h1] at h ⊢
  by_cases h2 : (rsp s s.length 0 []).2 ≠ 0
  · rw [if_pos h2] at h
    exact absurd h h2
  rw [if_neg h2] at h ⊢
  by_cases h3 : rrowF (rsp s s.length 0 []).1 ≠ 0
  · rw [if_pos h3] at h
    exact absurd h h3
  rw [if_neg h3]
  obtain ⟨l, e1, e2⟩ := rsp_ok s s.length 0 [] (by omega) (by omega) (by omega) (by omega)
  have e3 : rjB (rsp s s.length 0 []).1 = s := by rw [e1, List.nil_append, e2]; rfl
  dsimp only
  unfold rjoinF
  rw [if_neg h3, e3, if_neg h1]
theorem rsplit_no {s : List UInt8} (h : (rsplitF s).2 ≠ 0) : (rsplitF s).1 = [] := by
  unfold rsplitF at h ⊢
  by_cases h1 : 20000 < s.length
  · rw [if_pos h1]
  rw [if_neg h1] at h ⊢
  by_cases h2 : (rsp s s.length 0 []).2 ≠ 0
  · rw [if_pos h2]
  rw [if_neg h2] at h ⊢
  by_cases h3 : rrowF (rsp s s.length 0 []).1 ≠ 0
  · rw [if_pos h3]
  · rw [if_neg h3] at h
    exact absurd rfl h
theorem rjoin_no {l : List Rc} (h : (rjoinF l).2 ≠ 0) : (rjoinF l).1 = [] := by
  unfold rjoinF at h ⊢
  by_cases h1 : rrowF l ≠ 0
  · rw [if_pos h1]
  rw [if_neg h1] at h ⊢
  by_cases h2 : 20000 < (rjB l).length
  · rw [if_pos h2]
  · rw [if_neg h2] at h
    exact absurd rfl h
theorem rjoin_app {a b : List Rc} (h : (rjoinF (a ++ b)).2 = 0) : (rjoinF a).2 = 0 ∧ (rjoinF b).2 = 0 ∧ (rjoinF (a ++ b)).1 = (rjoinF a).1 ++ (rjoinF b).1 := by
  unfold rjoinF at h ⊢
  by_cases h1 : rrowF (a ++ b) ≠ 0
  · rw [if_pos h1] at h
    exact absurd h h1
  rw [if_neg h1] at h ⊢
  by_cases h2 : 20000 < (rjB (a ++ b)).length
  · rw [if_pos h2] at h
    cases h
  obtain ⟨k1, k2⟩ := rrow_part (a := a) (b := b) (by omega)
  rw [rjB_app, List.length_append] at h2 ⊢
  rw [if_neg (by omega), if_neg (by omega), if_neg (by omega), if_neg (by omega), if_neg (by omega)]
  exact ⟨rfl, rfl, rfl⟩
end Go.Proofs.Ytckengcphaaohaa
