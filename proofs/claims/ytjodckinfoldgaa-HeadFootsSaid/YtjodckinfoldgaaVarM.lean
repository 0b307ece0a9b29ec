/-
  Layer 2, plain: the bytes of a number, what is taken of bytes, fixed numbers, lists: and that each number has just one form.
-/
import Derived.Test.YtjodckinfoldgaaMore
namespace Go.Proofs.Ytjodckinfoldgaa
set_option linter.unusedSimpArgs false
set_option linter.unusedVariables false
open Go.ChangeShapes Go.WideShapes Go.ChangeAt Go.RowKit Go.Joins Go.Deep
def dg : Nat → Nat → List UInt8
  | 0, _ => []
  | f + 1, n => if n < 128 then [UInt8.ofNat n] else UInt8.ofNat (128 + n % 128) :: dg f (n / 128)
def putB (n : Int) : List UInt8 := if n < 0 then [] else dg 9 n.toNat
def putE (n : Int) : Int := if n < 0 then 2 else 0
def sizeF (n : Int) : Int := (putB n).length
def val : List UInt8 → Nat
  | [] => 0
  | b :: t => b.toNat % 128 + 128 * val t
def lead : List UInt8 → Nat
  | [] => 0
  | b :: t => if 128 ≤ b.toNat then lead t + 1 else 0
def getR (l : List UInt8) : Int × Nat × Int :=
  if 9 ≤ lead l then (0, 0, 5) else if lead l = l.length then (0, 0, 4) else if 0 < lead l ∧ l.getD (lead l) 0 = 0 then (0, 0, 5) else ((val (l.take (lead l + 1)) : Int), lead l + 1, 0)
def getF (l : List UInt8) (p : Int) : Int × Int × Int :=
  if 0 ≤ p ∧ p ≤ l.length then (if (getR (l.drop p.toNat)).2.2 = 0 then ((getR (l.drop p.toNat)).1, p + (getR (l.drop p.toNat)).2.1, 0) else (0, 0, (getR (l.drop p.toNat)).2.2)) else (0, 0, 2)
theorem dg_le : ∀ f n, (dg f n).length ≤ f
  | 0, _ => Nat.le_refl _
  | f + 1, n => by
    unfold dg
    split
    · simp
    · have := dg_le f (n / 128); simp; omega
theorem dg_pos (f n : Nat) : 0 < (dg (f + 1) n).length := by
  unfold dg
  split <;> simp
theorem lead_le : ∀ l, lead l ≤ l.length
  | [] => Nat.le_refl _
  | b :: t => by
    have := lead_le t
    unfold lead
    split <;> simp <;> omega
theorem lead_at : ∀ (l : List UInt8) (j : Nat) (h : j < lead l), 128 ≤ (l[j]'(Nat.lt_of_lt_of_le h (lead_le l))).toNat
  | [], j, h => by simp [lead] at h
  | b :: t, 0, h => by
    unfold lead at h
    split at h
    · assumption
    · simp at h
  | b :: t, j + 1, h => by
    unfold lead at h
    split at h
    · simpa using lead_at t j (by omega)
    · simp at h
theorem lead_end : ∀ (l : List UInt8) (h : lead l < l.length), (l[lead l]'h).toNat < 128
  | [], h => by simp at h
  | b :: t, h => by
    by_cases hb : 128 ≤ b.toNat
    · have e : lead (b :: t) = lead t + 1 := by simp [lead, hb]
      have ht : lead t < t.length := by rw [e] at h; simpa using h
      have := lead_end t ht
      simp only [e, List.getElem_cons_succ]
      exact this
    · have e : lead (b :: t) = 0 := by simp [lead, hb]
      simp only [e, List.getElem_cons_zero]
      omega
theorem lead_is (l : List UInt8) (k : Nat) (hk : k ≤ lead l) (h : k < l.length) (hb : (l[k]'h).toNat < 128) : lead l = k := by
  rcases Nat.lt_or_ge k (lead l) with hlt | hge
  · have := lead_at l k hlt; omega
  · omega
theorem lead_more (l : List UInt8) (k : Nat) (hk : k ≤ lead l) (h : k < l.length) (hb : 128 ≤ (l[k]'h).toNat) : k + 1 ≤ lead l := by
  rcases Nat.lt_or_ge k (lead l) with hlt | hge
  · omega
  · have e : lead l = k := by omega
    have hh : lead l < l.length := by omega
    have := lead_end l hh
    simp only [e] at this
    omega
theorem val_lt : ∀ l, val l < 128 ^ l.length
  | [] => by simp [val]
  | b :: t => by
    have := val_lt t
    have hb := Nat.mod_lt b.toNat (by omega : 0 < 128)
    simp only [val, List.length_cons, Nat.pow_succ]
    omega
theorem val_snoc : ∀ (l : List UInt8) (b : UInt8), val (l ++ [b]) = val l + 128 ^ l.length * (b.toNat % 128)
  | [], b => by simp [val]
  | a :: t, b => by
    simp only [List.cons_append, val, val_snoc t b, List.length_cons, Nat.pow_succ]
    rw [Nat.mul_add, ← Nat.mul_assoc, Nat.mul_comm 128 (128 ^ t.length)]
    omega
theorem val_take (l : List UInt8) (k : Nat) (h : k < l.length) : val (l.take (k + 1)) = val (l.take k) + 128 ^ k * ((l[k]'h).toNat % 128) := by
  rw [List.take_succ_eq_append_getElem h, val_snoc]
  simp [Nat.min_eq_left (Nat.le_of_lt h)]
theorem dg_val : ∀ (f n : Nat), n < 128 ^ f → val (dg f n) = n
  | 0, n, h => by simp at h; subst h; rfl
  | f + 1, n, h => by
    unfold dg
    split
    · rename_i h1
      simp only [val, u8_ofNat n (by omega)]
      omega
    · have hd : n / 128 < 128 ^ f := by rw [Nat.div_lt_iff_lt_mul (by omega)]; rw [Nat.pow_succ] at h; exact h
      simp only [val, u8_ofNat (128 + n % 128) (by omega), dg_val f _ hd]
      omega
theorem dg_lead : ∀ (f n : Nat) (rest : List UInt8), n < 128 ^ (f + 1) → lead (dg (f + 1) n ++ rest) = (dg (f + 1) n).length - 1
  | f, n, rest, h => by
    by_cases h1 : n < 128
    · have e : dg (f + 1) n = [UInt8.ofNat n] := by simp [dg, h1]
      rw [e]
      simp [lead, u8_ofNat n (by omega)]
      omega
    · have e : dg (f + 1) n = UInt8.ofNat (128 + n % 128) :: dg f (n / 128) := by simp [dg, h1]
      cases f with
      | zero => simp at h; omega
      | succ f =>
        have hd : n / 128 < 128 ^ (f + 1) := by rw [Nat.div_lt_iff_lt_mul (by omega)]; rw [Nat.pow_succ] at h; exact h
        have ih := dg_lead f (n / 128) rest hd
        have hp := dg_pos f (n / 128)
        rw [e, List.cons_append]
        simp only [lead, u8_ofNat (128 + n % 128) (by omega), ih, List.length_cons]
        rw [if_pos (by omega)]
        omega
theorem dg_last : ∀ (f n : Nat), n < 128 ^ (f + 1) → 1 < (dg (f + 1) n).length → (dg (f + 1) n).getLast? ≠ some 0
  | f, n, h, hl => by
    by_cases h1 : n < 128
    · simp [dg, h1] at hl
    · have e : dg (f + 1) n = UInt8.ofNat (128 + n % 128) :: dg f (n / 128) := by simp [dg, h1]
      cases f with
      | zero => simp at h; omega
      | succ f =>
        have hd : n / 128 < 128 ^ (f + 1) := by rw [Nat.div_lt_iff_lt_mul (by omega)]; rw [Nat.pow_succ] at h; exact h
        have hp := dg_pos f (n / 128)
        rw [e]
        obtain ⟨a, t, ht⟩ : ∃ a t, dg (f + 1) (n / 128) = a :: t := by
          cases hx : dg (f + 1) (n / 128) with
          | nil => rw [hx] at hp; simp at hp
          | cons a t => exact ⟨a, t, rfl⟩
        rw [ht, List.getLast?_cons_cons, ← ht]
        by_cases h2 : n / 128 < 128
        · have e2 : dg (f + 1) (n / 128) = [UInt8.ofNat (n / 128)] := by simp [dg, h2]
          rw [e2]
          simp only [List.getLast?_singleton, ne_eq, Option.some.injEq]
          intro hz
          have := congrArg UInt8.toNat hz
          rw [u8_ofNat _ (by omega)] at this
          simp at this
          omega
        · refine dg_last f (n / 128) hd ?_
          have e2 : dg (f + 1) (n / 128) = UInt8.ofNat (128 + n / 128 % 128) :: dg f (n / 128 / 128) := by simp [dg, h2]
          cases f with
          | zero => simp at hd; omega
          | succ f => rw [e2]; have := dg_pos f (n / 128 / 128); simp; omega
theorem pow9 : (128 : Nat) ^ 9 = 9223372036854775808 := by decide
theorem getR_put (n : Nat) (rest : List UInt8) (h : n < 9223372036854775808) : getR (dg 9 n ++ rest) = ((n : Int), (dg 9 n).length, 0) := by
  rw [← pow9] at h
  have hl : lead (dg 9 n ++ rest) = (dg 9 n).length - 1 := dg_lead 8 n rest h
  have hp : 0 < (dg 9 n).length := dg_pos 8 n
  have hle := dg_le 9 n
  unfold getR
  rw [hl]
  have hlen : (dg 9 n ++ rest).length = (dg 9 n).length + rest.length := List.length_append
  rw [if_neg (by omega), if_neg (by omega)]
  have hx : (dg 9 n ++ rest).getD ((dg 9 n).length - 1) 0 = (dg 9 n).getLast?.getD 0 := by
    rw [List.getLast?_eq_getElem?, List.getD_eq_getElem?_getD, List.getElem?_append_left (by omega)]
  have hz : ¬ (0 < (dg 9 n).length - 1 ∧ (dg 9 n ++ rest).getD ((dg 9 n).length - 1) 0 = 0) := by
    rintro ⟨h1, h2⟩
    have hne : (dg 9 n).getLast? ≠ some 0 := dg_last 8 n h (by show 1 < (dg 9 n).length; omega)
    rw [hx] at h2
    cases hg : (dg 9 n).getLast? with
    | none => simp at hg; rw [hg] at hp; simp at hp
    | some b => rw [hg] at h2 hne; simp at h2; exact hne (by rw [h2])
  rw [if_neg hz, show (dg 9 n).length - 1 + 1 = (dg 9 n).length from by omega, List.take_left' rfl, dg_val 9 n h]
theorem getF_put (pre rest : List UInt8) (n : Nat) (h : n < 9223372036854775808) : getF (pre ++ (dg 9 n ++ rest)) pre.length = ((n : Int), (pre.length : Int) + (dg 9 n).length, 0) := by
  unfold getF
  rw [if_pos ⟨by omega, by rw [List.length_append]; omega⟩, Int.toNat_natCast, List.drop_left' rfl, getR_put n rest h]
  simp
theorem dg_of_lead : ∀ (f : Nat) (l : List UInt8), lead l < f + 1 → (h : lead l < l.length) → (lead l = 0 ∨ l.getD (lead l) 0 ≠ 0) → dg (f + 1) (val (l.take (lead l + 1))) = l.take (lead l + 1)
  | f, [], _, h, _ => by simp at h
  | f, b :: t, hf, h, hz => by
    have hb256 := u8_lt b
    by_cases hb : 128 ≤ b.toNat
    · have e : lead (b :: t) = lead t + 1 := by simp [lead, hb]
      have ht : lead t < t.length := by rw [e] at h; simpa using h
      cases f with
      | zero => omega
      | succ f =>
        have hz' : t.getD (lead t) 0 ≠ 0 := by
          rcases hz with h0 | h0
          · omega
          · rw [e] at h0; simpa using h0
        have ih := dg_of_lead f t (by omega) ht (Or.inr hz')
        rw [e, List.take_succ_cons]
        -- the value behind is not 0
        have hend := lead_end t ht
        have hv : val (t.take (lead t + 1)) = val (t.take (lead t)) + 128 ^ lead t * ((t[lead t]'ht).toNat % 128) := val_take t _ ht
        have hne : (t[lead t]'ht).toNat ≠ 0 := by
          intro h0
          refine hz' ?_
          rw [List.getD_eq_getElem?_getD, List.getElem?_eq_getElem ht]
          exact u8_eq (by simpa using h0)
        have hpos : 0 < 128 ^ lead t * ((t[lead t]'ht).toNat % 128) := Nat.mul_pos (Nat.pow_pos (by omega)) (by omega)
        have hvpos : 0 < val (t.take (lead t + 1)) := by omega
        simp only [val]
        generalize val (t.take (lead t + 1)) = v at *
        have hn : ¬ b.toNat % 128 + 128 * v < 128 := by omega
        have hdiv : (b.toNat % 128 + 128 * v) / 128 = v := by omega
        have hmod : (b.toNat % 128 + 128 * v) % 128 = b.toNat % 128 := by omega
        rw [dg, if_neg hn, hdiv, hmod, ih]
        congr 1
        exact u8_eq (by rw [u8_ofNat _ (by omega)]; omega)
    · have e : lead (b :: t) = 0 := by simp [lead, hb]
      rw [e]
      have hv : val (List.take (0 + 1) (b :: t)) = b.toNat := by simp [val]; omega
      rw [hv, dg, if_pos (by omega)]
      simp
theorem getR_ok (l : List UInt8) (h : (getR l).2.2 = 0) : ∃ m : Nat, m < 9223372036854775808 ∧ (getR l).1 = m ∧ 0 < (getR l).2.1 ∧ (getR l).2.1 ≤ l.length ∧ l.take (getR l).2.1 = dg 9 m := by
  unfold getR at h ⊢
  by_cases h1 : 9 ≤ lead l
  · rw [if_pos h1] at h; simp at h
  · rw [if_neg h1] at h ⊢
    by_cases h2 : lead l = l.length
    · rw [if_pos h2] at h; simp at h
    · rw [if_neg h2] at h ⊢
      by_cases h3 : 0 < lead l ∧ l.getD (lead l) 0 = 0
      · rw [if_pos h3] at h; simp at h
      · rw [if_neg h3]
        have hlt : lead l < l.length := by have := lead_le l; omega
        have hd := dg_of_lead 8 l (by omega) hlt (by
          by_cases h0 : lead l = 0
          · exact Or.inl h0
          · exact Or.inr fun hc => h3 ⟨by omega, hc⟩)
        refine ⟨val (l.take (lead l + 1)), ?_, rfl, by simp, by simp only; omega, hd.symm⟩
        have := val_lt (l.take (lead l + 1))
        rw [← pow9]
        refine Nat.lt_of_lt_of_le this (Nat.pow_le_pow_right (by omega) ?_)
        simp; omega
def val8 : List UInt8 → Nat
  | [] => 0
  | b :: t => b.toNat + 256 * val8 t
def unfixF (l : List UInt8) (p w : Int) : Int × Int × Int :=
  if 1 ≤ w ∧ w ≤ 8 ∧ 0 ≤ p ∧ p ≤ l.length then
    if l.length < p + w then (0, 0, 4)
    else if 9223372036854775808 ≤ val8 ((l.drop p.toNat).take w.toNat) then (0, 0, 5)
    else ((val8 ((l.drop p.toNat).take w.toNat) : Int), p + w, 0)
  else (0, 0, 2)
theorem val8_lt : ∀ l, val8 l < 256 ^ l.length
  | [] => by simp [val8]
  | b :: t => by
    have := val8_lt t
    have hb := u8_lt b
    simp only [val8, List.length_cons, Nat.pow_succ]
    omega
theorem val8_snoc : ∀ (l : List UInt8) (b : UInt8), val8 (l ++ [b]) = val8 l + 256 ^ l.length * b.toNat
  | [], b => by simp [val8]
  | a :: t, b => by
    simp only [List.cons_append, val8, val8_snoc t b, List.length_cons, Nat.pow_succ]
    rw [Nat.mul_add, ← Nat.mul_assoc, Nat.mul_comm 256 (256 ^ t.length)]
    omega
theorem val8_take (l : List UInt8) (k : Nat) (h : k < l.length) : val8 (l.take (k + 1)) = val8 (l.take k) + 256 ^ k * (l[k]'h).toNat := by
  rw [List.take_succ_eq_append_getElem h, val8_snoc]
  simp [Nat.min_eq_left (Nat.le_of_lt h)]
def gets (s : List UInt8) : Nat → Int → List Int → List Int × Int × Int
  | 0, p, acc => (acc, p, 0)
  | k + 1, p, acc => if (getF s p).2.2 = 0 then gets s k (getF s p).2.1 (acc ++ [(getF s p).1]) else ([], 0, (getF s p).2.2)
theorem putB_of {n : Int} (h : 0 ≤ n) : putB n = dg 9 n.toNat := by unfold putB; rw [if_neg (by omega)]
theorem gets_put : ∀ (l : List Int) (pre rest : List UInt8) (acc : List Int), (∀ n ∈ l, 0 ≤ n ∧ n < 9223372036854775808) →
    gets (pre ++ (l.flatMap putB ++ rest)) l.length pre.length acc = (acc ++ l, ((pre.length + (l.flatMap putB).length : Nat) : Int), 0)
  | [], pre, rest, acc, _ => by simp [gets]
  | n :: t, pre, rest, acc, h => by
    obtain ⟨h0, h1⟩ := h n (by simp)
    have hp : putB n = dg 9 n.toNat := putB_of h0
    have hg := getF_put pre (t.flatMap putB ++ rest) n.toNat (by omega)
    rw [Int.toNat_of_nonneg h0, ← hp] at hg
    have e : pre ++ ((n :: t).flatMap putB ++ rest) = pre ++ (putB n ++ (t.flatMap putB ++ rest)) := by simp
    rw [e, List.length_cons, gets, hg]
    simp only [if_true]
    have ih := gets_put t (pre ++ putB n) rest (acc ++ [n]) (fun m hm => h m (by simp [hm]))
    have e2 : pre ++ (putB n ++ (t.flatMap putB ++ rest)) = (pre ++ putB n) ++ (t.flatMap putB ++ rest) := by simp
    rw [e2]
    have e3 : ((pre.length : Int) + (putB n).length) = ((pre ++ putB n).length : Nat) := by simp
    rw [e3, ih]
    simp
    omega
end Go.Proofs.Ytjodckinfoldgaa
