/-
  Layer 5: the document's sum without a table, bytes 00 as a text, Noughts and Turned.
-/
import Derived.Test.YtajhenjjhbecoaaCrcU
import Derived.Test.YtajhenjjhbecoaaMake
namespace Go.Proofs.Ytajhenjjhbecoaa
set_option linter.unusedSimpArgs false
set_option linter.unusedVariables false
open Go.ChangeShapes Go.WideShapes Go.ChangeAt Go.RowKit Go.Joins Go.Deep

theorem T0_get (i : Nat) (h : i < 256) : tg T0 i = entry (BitVec.ofNat 32 i) := by
  unfold tg T0
  rw [List.getD_eq_getElem?_getD, ents_get _ _ h, if_pos h]
  rfl
theorem ix_bv (c : BitVec 32) (b : UInt8) : BitVec.ofNat 32 (ix c b) = (c &&& 255#32) ^^^ bb b := by
  apply BitVec.eq_of_toNat_eq
  have h := ix_lt c b
  rw [BitVec.toNat_ofNat, Nat.mod_eq_of_lt (by omega), BitVec.toNat_xor, BitVec.toNat_and]
  unfold ix bb
  have hb := u8_lt b
  have e : (BitVec.ofNat 32 b.toNat).toNat = b.toNat := by rw [BitVec.toNat_ofNat, Nat.mod_eq_of_lt (show b.toNat < 2 ^ 32 by omega)]
  rw [e, show (255#32).toNat = 2 ^ 8 - 1 from rfl, Nat.and_two_pow_sub_one_eq_mod]
theorem bb_high (b : UInt8) : ∀ i, 8 ≤ i → (bb b).getLsbD i = false := fun i hi => by
  unfold bb
  rw [BitVec.getLsbD_ofNat, Nat.testBit_lt_two_pow (Nat.lt_of_lt_of_le (u8_lt b) (by
    have : 2 ^ 8 ≤ 2 ^ i := Nat.pow_le_pow_right (by omega) hi
    simpa using this))]
  simp
/-- A step by the table is eight bits' steps. -/
theorem step_T0 (c : BitVec 32) (b : UInt8) : stepT T0 c b = sn 8 (c ^^^ bb b) := by
  unfold stepT
  rw [T0_get _ (ix_lt c b), ix_bv, by_table c (bb b) (bb_high b)]
theorem rest_T0 : ∀ (l : List UInt8) (c : BitVec 32), restT T0 c l = rest c l
  | [], _ => rfl
  | b :: t, c => by
    show restT T0 (stepT T0 c b) t = rest (sn 8 (c ^^^ bb b)) t
    rw [step_T0, rest_T0 t]

/-- An entry's step, as the document's sum has it. -/
theorem entry_w (c : BitVec 32) (b : UInt8) : bits .xor .u32 ((c.toNat : Int) / 256) ((entry (BitVec.ofNat 32 (ix c b))).toNat : Int) = ((stepT T0 c b).toNat : Int) := by
  rw [← T0_get _ (ix_lt c b)]
  exact step_w T0 c b

set_option maxRecDepth 100000 in
set_option maxHeartbeats 4000000 in
theorem refSum_any (l : List UInt8) (hl : l.length ≤ 4611686018427387904) (w : World) :
    Calls Try.prog 12 #[.string ⟨l.toArray⟩] w fun e w' => e = .returned (.int .u32 ((ofT T0 l).toNat : Int)) ∧ w = w' := by
  have hs2 : (4294967295 : Int) - ((restT T0 4294967295#32 l).toNat : Int) = ((ofT T0 l).toNat : Int) := sub_w _
  have hb2 := w_lt (restT T0 4294967295#32 l)
  generalize hres : ofT T0 l = res at *
  have Hs2 := Lib.hid hs2
  have Hb2 := Lib.hid hb2
  clear hs2 hb2 hres
  go_enter Try.func12, Try.ntmps12
  go_wp2
  go_loop [3, 4] (fun c' i => ∃ k : Nat, k ≤ l.length ∧ i = .int .i64 k ∧ c' = .int .u32 ((restT T0 4294967295#32 (l.take k)).toNat : Int)) (fun _ i => l.length - (intOf i).toNat)
  case atStart => exact ⟨0, Nat.zero_le _, rfl, rfl⟩
  case round =>
    obtain ⟨k, hk, rfl, rfl⟩ := hrel
    by_cases hlt : k < l.length
    · have hki : (0 : Int) ≤ (k : Int) ∧ (k : Int) < l.length := by omega
      have Hn := Lib.hid (restT_take T0 4294967295#32 l k hlt)
      have hz0 := w_lt (restT T0 4294967295#32 (l.take k))
      generalize restT T0 4294967295#32 (l.take k) = d at *
      have hks : k < (ByteArray.mk l.toArray).size := by rw [ByteArray.size_mk']; simpa using hlt
      have hx : bits .xor .u32 ((d.toNat : Int) % 256) ((((ByteArray.mk l.toArray)[k]'hks).toNat : Int) % 4294967296) = (ix d l[k] : Int) := ix_u32' d l[k]
      have hst := entry_w d l[k]
      have hen := fun w => refEntry_any (BitVec.ofNat 32 (ix d l[k])) w
      have hixl : (ix d l[k] : Int) < 256 := by have := ix_lt d l[k]; omega
      have hz1 : (0 : Int) ≤ (d.toNat : Int) := by omega
      have ek : ((BitVec.ofNat 32 (ix d l[k])).toNat : Int) = (ix d l[k] : Int) := by rw [BitVec.toNat_ofNat]; omega
      rw [ek] at hen
      generalize hj : ix d l[k] = j at *
      generalize hd' : stepT T0 d l[k] = d' at *
      generalize entry (BitVec.ofNat 32 j) = ev at *
      generalize (d.toNat : Int) = z at *
      have Hst := Lib.hid hst
      have Hen := Lib.hid hen
      clear hst hj hd' hen ek
      go_wp2_with (go_at_call 21; refine (Hen.out _).mono ?_; rintro e w1 ⟨rfl, rfl⟩)
      go_round
      case rel => exact ⟨k + 1, by omega, by go_num, by rw [Hst.out, Hn.out]⟩
      case measure => simp only [intOf]; omega
    · obtain rfl : k = l.length := by omega
      rw [List.take_length]
      have hs2 := Hs2.out
      have hb2 := Hb2.out
      generalize restT T0 4294967295#32 l = d at *
      go_wp2
      go_ret
      exact ⟨rfl, rfl⟩

theorem no_length (k : Nat) : (no k).length = k := by simp [no]
set_option maxRecDepth 100000 in
set_option maxHeartbeats 2000000 in
theorem refNoughts_str (n : Int) (w : World) :
    Calls Try.prog 24 #[.int .i64 n] w fun e w' => e = .returned (.string ⟨(no (cnt n)).toArray⟩) ∧ Below w.heap.size w w' := by
  have hc : ∀ m : Int, (cnt n : Int) = m → ∀ W, (Instr.makeSlice 34 (.int .i64 m) (.int .i64 m)).run Try.prog W = .ok (.slice (some ⟨W.heap.size, 0, none⟩) (cnt n) (cnt n)) (W.alloc (.cells (bc (no (cnt n))) 5)) := fun m hm W => mk_bytes m (cnt n) hm (by unfold cnt; omega) W
  have hcv := str_blk (w.alloc (.cells (bc (no (cnt n))) 5)) w.heap.size (cnt n) (cnt n) 5 (no (cnt n)) (no_length _) (Blk.new _ _ _)
  rcases Int.lt_or_le n 1 with h1 | h1
  · have e : no (cnt n) = [] := by
      have : cnt n = 0 := by unfold cnt; omega
      rw [this]; rfl
    rw [e]
    clear e hc hcv
    go_enter Try.func24, Try.ntmps24
    go_wp2
    go_ret
    exact ⟨rfl, by go_grown⟩
  · rcases Int.lt_or_le 100000 n with h2 | h2
    · have hm := hc 100000 (by unfold cnt; omega)
      clear hc
      generalize no (cnt n) = D at *
      generalize cnt n = N at *
      go_enter Try.func24, Try.ntmps24
      go_wp2
      go_ret
      exact ⟨rfl, by go_grown⟩
    · have hm := hc n (by unfold cnt; omega)
      clear hc
      generalize no (cnt n) = D at *
      generalize cnt n = N at *
      go_enter Try.func24, Try.ntmps24
      go_wp2
      go_ret
      exact ⟨rfl, by go_grown⟩
end Go.Proofs.Ytajhenjjhbecoaa
