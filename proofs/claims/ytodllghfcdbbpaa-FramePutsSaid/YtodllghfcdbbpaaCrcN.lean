/-
  Layer 5, plain: a table as a list of numbers of 32 bits, the remainder by any table, and the links from a program's numbers to them.
-/
import Derived.Test.YtodllghfcdbbpaaCrcM
import Derived.Laws.BitsLemmas
namespace Go.Proofs.Ytodllghfcdbbpaa
set_option linter.unusedSimpArgs false
set_option linter.unusedVariables false
open Go.ChangeShapes Go.WideShapes Go.ChangeAt Go.RowKit Go.Joins Go.Deep
def tab (T : List (BitVec 32)) : List Value := T.map fun c => Value.int .u32 (c.toNat : Int)
theorem tab_length (T : List (BitVec 32)) : (tab T).length = T.length := by simp [tab]
def tg (T : List (BitVec 32)) (i : Nat) : BitVec 32 := T.getD i 0#32
theorem tab_get (T : List (BitVec 32)) (i : Nat) (h : i < T.length) : (tab T)[i]? = some (.int .u32 ((tg T i).toNat : Int)) := by
  simp [tab, tg, h]
def ix (c : BitVec 32) (b : UInt8) : Nat := (c.toNat % 256) ^^^ b.toNat
theorem ix_lt (c : BitVec 32) (b : UInt8) : ix c b < 256 := by
  unfold ix
  exact Nat.xor_lt_two_pow (n := 8) (by omega) (u8_lt b)
def stepT (T : List (BitVec 32)) (c : BitVec 32) (b : UInt8) : BitVec 32 := (c >>> 8) ^^^ tg T (ix c b)
def restT (T : List (BitVec 32)) (c : BitVec 32) (l : List UInt8) : BitVec 32 := l.foldl (stepT T) c
theorem restT_append (T : List (BitVec 32)) (c : BitVec 32) (a b : List UInt8) : restT T c (a ++ b) = restT T (restT T c a) b := by simp [restT]
theorem restT_take (T : List (BitVec 32)) (c : BitVec 32) (l : List UInt8) (k : Nat) (h : k < l.length) : restT T c (l.take (k + 1)) = stepT T (restT T c (l.take k)) l[k] := by
  rw [List.take_succ_eq_append_getElem h, restT_append]
  rfl
def no (n : Nat) : List UInt8 := List.replicate n 0
theorem no_succ (T : List (BitVec 32)) (c : BitVec 32) (k : Nat) : restT T c (no (k + 1)) = stepT T (restT T c (no k)) 0 := by
  unfold no
  rw [List.replicate_succ', restT_append]
  rfl
def cnt (n : Int) : Nat := (min n 100000).toNat
theorem w_lt (c : BitVec 32) : (c.toNat : Int) < 4294967296 := by have := c.isLt; omega
theorem xor_u8 (a b : Nat) (ha : a < 256) (hb : b < 256) : bits .xor .u8 (a : Int) (b : Int) = ((a ^^^ b : Nat) : Int) := by
  have h := Nat.xor_lt_two_pow (n := 8) ha hb
  show IntKind.u8.wrap ((BitVec.ofInt 8 (a : Int) ^^^ BitVec.ofInt 8 (b : Int)).toNat : Int) = _
  rw [BitVec.ofInt_natCast, BitVec.ofInt_natCast, BitVec.toNat_xor, BitVec.toNat_ofNat, BitVec.toNat_ofNat, Nat.mod_eq_of_lt ha, Nat.mod_eq_of_lt hb, IntKind.wrap_u8]
  omega
theorem xor_u32 (a b : Nat) (ha : a < 4294967296) (hb : b < 4294967296) : bits .xor .u32 (a : Int) (b : Int) = ((a ^^^ b : Nat) : Int) := by
  have h := Nat.xor_lt_two_pow (n := 32) ha hb
  show IntKind.u32.wrap ((BitVec.ofInt 32 (a : Int) ^^^ BitVec.ofInt 32 (b : Int)).toNat : Int) = _
  rw [BitVec.ofInt_natCast, BitVec.ofInt_natCast, BitVec.toNat_xor, BitVec.toNat_ofNat, BitVec.toNat_ofNat, Nat.mod_eq_of_lt ha, Nat.mod_eq_of_lt hb, IntKind.wrap_u32]
  omega
theorem xor_w (a b : BitVec 32) : bits .xor .u32 (a.toNat : Int) (b.toNat : Int) = ((a ^^^ b).toNat : Int) := by
  rw [xor_u32 _ _ a.isLt b.isLt, BitVec.toNat_xor]
theorem shr8 (c : BitVec 32) : ((c >>> 8).toNat : Int) = (c.toNat : Int) / 256 := by
  rw [BitVec.toNat_ushiftRight, Nat.shiftRight_eq_div_pow]
  omega
theorem ix_u8 (c : BitVec 32) (b : UInt8) : bits .xor .u8 ((c.toNat : Int) % 256) (b.toNat : Int) = (ix c b : Int) := by
  have := xor_u8 (c.toNat % 256) b.toNat (by omega) (u8_lt b)
  rw [Int.natCast_emod] at this
  exact this
theorem ix_u32 (c : BitVec 32) (b : UInt8) : bits .xor .u32 ((c.toNat : Int) % 256) (b.toNat : Int) = (ix c b : Int) := by
  have := xor_u32 (c.toNat % 256) b.toNat (by omega) (by have := u8_lt b; omega)
  rw [Int.natCast_emod] at this
  exact this
theorem step_w (T : List (BitVec 32)) (c : BitVec 32) (b : UInt8) : bits .xor .u32 ((c.toNat : Int) / 256) ((tg T (ix c b)).toNat : Int) = ((stepT T c b).toNat : Int) := by
  rw [← shr8, xor_w]
  rfl
theorem not_w (c : BitVec 32) : bits .xor .u32 4294967295 (c.toNat : Int) = ((~~~c).toNat : Int) := by
  have := xor_w (4294967295#32) c
  rw [show ((4294967295#32).toNat : Int) = 4294967295 from rfl] at this
  rw [this, BitVec.xor_comm, show (4294967295#32) = BitVec.allOnes 32 from rfl, BitVec.xor_allOnes]
theorem not_u (c : BitVec 32) : bits .xor .u32 (if IntKind.u32.signed = true then -1 else IntKind.u32.max) (c.toNat : Int) = ((~~~c).toNat : Int) := by
  have e : (if IntKind.u32.signed = true then -1 else IntKind.u32.max) = 4294967295 := by decide
  rw [e, not_w]
theorem sub_w (c : BitVec 32) : (4294967295 : Int) - (c.toNat : Int) = ((~~~c).toNat : Int) := by
  rw [BitVec.toNat_not]
  have := c.isLt
  omega
end Go.Proofs.Ytodllghfcdbbpaa
