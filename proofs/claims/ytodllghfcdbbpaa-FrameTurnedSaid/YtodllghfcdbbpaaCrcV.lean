/-
  Layer 5: the document's sum without a table, bytes 00 as a text, Noughts and Turned.
-/
import Derived.Test.YtodllghfcdbbpaaCrcU
import Derived.Test.YtodllghfcdbbpaaMake
namespace Go.Proofs.Ytodllghfcdbbpaa
set_option linter.unusedSimpArgs false
set_option linter.unusedVariables false
open Go.ChangeShapes Go.WideShapes Go.ChangeAt Go.RowKit Go.Joins Go.Deep
theorem T0_get (i : Nat) (h : i < 256) : tg T0 i = entry (BitVec.ofNat 32 i) := by
  unfold tg T0
  rw [List.getD_eq_getElem?_getD, ents_get _ _ h, if_pos h]
  rfl
theorem ix_bv (c : BitVec 32) (b : UInt8) : BitVec.ofNat 32 (ix c b) = (c &&& 255#32) ^^^ bb b := by
  apply BitVec.eq_of_toNat_eq
  have h := ix_lt c b
  rw [BitVec.toNat_ofNat, Nat.mod_eq_of_lt (by omega), BitVec.toNat_xor, BitVec.toNat_and]
  unfold ix bb
  have hb := u8_lt b
  have e : (BitVec.ofNat 32 b.toNat).toNat = b.toNat := by rw [BitVec.toNat_ofNat, Nat.mod_eq_of_lt (show b.toNat < 2 ^ 32 by omega)]
  rw [e, show (255#32).toNat = 2 ^ 8 - 1 from rfl, Nat.and_two_pow_sub_one_eq_mod]
theorem bb_high (b : UInt8) : ∀ i, 8 ≤ i → (bb b).getLsbD i = false := fun i hi => by
  unfold bb
  rw [BitVec.getLsbD_ofNat, Nat.testBit_lt_two_pow (Nat.lt_of_lt_of_le (u8_lt b) (by
    have : 2 ^ 8 ≤ 2 ^ i := Nat.pow_le_pow_right (by omega) hi
    simpa using this))]
  simp
theorem step_T0 (c : BitVec 32) (b : UInt8) : stepT T0 c b = sn 8 (c ^^^ bb b) := by
  unfold stepT
  rw [T0_get _ (ix_lt c b), ix_bv, by_table c (bb b) (bb_high b)]
theorem rest_T0 : ∀ (l : List UInt8) (c : BitVec 32), restT T0 c l = rest c l
  | [], _ => rfl
  | b :: t, c => by
    show restT T0 (stepT T0 c b) t = rest (sn 8 (c ^^^ bb b)) t
    rw [step_T0, rest_T0 t]
end Go.Proofs.Ytodllghfcdbbpaa
