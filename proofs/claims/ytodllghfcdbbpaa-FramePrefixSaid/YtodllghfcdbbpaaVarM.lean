/-
  Layer 2, plain: the bytes of a number, what is taken of bytes, fixed numbers, lists: and that each number has just one form.
-/
import Derived.Test.YtodllghfcdbbpaaMore
namespace Go.Proofs.Ytodllghfcdbbpaa
set_option linter.unusedSimpArgs false
set_option linter.unusedVariables false
open Go.ChangeShapes Go.WideShapes Go.ChangeAt Go.RowKit Go.Joins Go.Deep
def fx : Nat → Nat → List UInt8
  | 0, _ => []
  | w + 1, n => UInt8.ofNat (n % 256) :: fx w (n / 256)
def fixB (n w : Int) : List UInt8 := if 1 ≤ w ∧ w ≤ 8 ∧ 0 ≤ n ∧ n < 256 ^ w.toNat then fx w.toNat n.toNat else []
def fixE (n w : Int) : Int := if 1 ≤ w ∧ w ≤ 8 ∧ 0 ≤ n ∧ n < 256 ^ w.toNat then 0 else 2
def val8 : List UInt8 → Nat
  | [] => 0
  | b :: t => b.toNat + 256 * val8 t
def unfixF (l : List UInt8) (p w : Int) : Int × Int × Int :=
  if 1 ≤ w ∧ w ≤ 8 ∧ 0 ≤ p ∧ p ≤ l.length then
    if l.length < p + w then (0, 0, 4)
    else if 9223372036854775808 ≤ val8 ((l.drop p.toNat).take w.toNat) then (0, 0, 5)
    else ((val8 ((l.drop p.toNat).take w.toNat) : Int), p + w, 0)
  else (0, 0, 2)
theorem fx_length : ∀ w n, (fx w n).length = w
  | 0, _ => rfl
  | w + 1, n => by simp [fx, fx_length w]
theorem fx_val : ∀ w n, n < 256 ^ w → val8 (fx w n) = n
  | 0, n, h => by simp at h; subst h; rfl
  | w + 1, n, h => by
    have hd : n / 256 < 256 ^ w := by rw [Nat.div_lt_iff_lt_mul (by omega)]; rw [Nat.pow_succ] at h; exact h
    simp only [fx, val8, u8_ofNat (n % 256) (by omega), fx_val w _ hd]
    omega
theorem fx_get : ∀ (w n i : Nat), i < w → (fx w n)[i]? = some (UInt8.ofNat (n / 256 ^ i % 256))
  | 0, _, _, h => by omega
  | w + 1, n, 0, _ => by simp [fx]
  | w + 1, n, i + 1, h => by
    simp only [fx, List.getElem?_cons_succ]
    rw [fx_get w (n / 256) i (by omega), Nat.div_div_eq_div_mul, Nat.pow_succ, Nat.mul_comm]
theorem val8_lt : ∀ l, val8 l < 256 ^ l.length
  | [] => by simp [val8]
  | b :: t => by
    have := val8_lt t
    have hb := u8_lt b
    simp only [val8, List.length_cons, Nat.pow_succ]
    omega
theorem val8_snoc : ∀ (l : List UInt8) (b : UInt8), val8 (l ++ [b]) = val8 l + 256 ^ l.length * b.toNat
  | [], b => by simp [val8]
  | a :: t, b => by
    simp only [List.cons_append, val8, val8_snoc t b, List.length_cons, Nat.pow_succ]
    rw [Nat.mul_add, ← Nat.mul_assoc, Nat.mul_comm 256 (256 ^ t.length)]
    omega
theorem val8_take (l : List UInt8) (k : Nat) (h : k < l.length) : val8 (l.take (k + 1)) = val8 (l.take k) + 256 ^ k * (l[k]'h).toNat := by
  rw [List.take_succ_eq_append_getElem h, val8_snoc]
  simp [Nat.min_eq_left (Nat.le_of_lt h)]
end Go.Proofs.Ytodllghfcdbbpaa
