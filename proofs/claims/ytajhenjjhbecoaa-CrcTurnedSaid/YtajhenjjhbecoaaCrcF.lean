/-
  Layer 5: the statement's own 'flipped': a text, bits of which are turned by those of a number.
-/
import Derived.Test.YtajhenjjhbecoaaCrcX
import Derived.Test.YtajhenjjhbecoaaRow
namespace Go.Proofs.Ytajhenjjhbecoaa
set_option linter.unusedSimpArgs false
set_option linter.unusedVariables false
open Go.ChangeShapes Go.WideShapes Go.ChangeAt Go.RowKit Go.Joins Go.Deep

theorem flip1_set : ∀ (s : List UInt8) (i : Nat) (h : i / 8 < s.length), flip1 s i = s.set (i / 8) (s[i / 8] ^^^ one8 (i % 8))
  | [], i, h => by simp at h
  | b :: t, i, h => by
    unfold flip1
    by_cases h8 : i < 8
    · rw [if_pos h8]
      have e1 : i / 8 = 0 := by omega
      have e2 : i % 8 = i := by omega
      simp only [e1, e2]
      rfl
    · rw [if_neg h8]
      obtain ⟨j, rfl⟩ : ∃ j, i = j + 8 := ⟨i - 8, by omega⟩
      have e1 : (j + 8) / 8 = j / 8 + 1 := by omega
      have e2 : (j + 8) % 8 = j % 8 := by omega
      have ih := flip1_set t j (by rw [e1] at h; simpa using h)
      simp only [e1, e2, Nat.add_sub_cancel, ih]
      rfl

theorem wraps_u32 (n : Int) (h₀ : 0 ≤ n) (h₁ : n < 2 ^ 32) : IntKind.u32.wrap n = n := by rw [IntKind.wrap_u32]; omega
theorem and_one (x : Nat) (h : x < 4294967296) : bits .and .u32 (x : Int) 1 = (x : Int) % 2 := by
  have h1 := bits_mask .u32 32 (by decide) wraps_u32 1 (by decide) (x : Int) (by omega) (by omega)
  rw [show (2 : Int) ^ 1 - 1 = 1 from rfl] at h1
  exact h1
theorem bit_w (v : BitVec 32) (k : Nat) : bits .and .u32 ((v.toNat : Int) / 2 ^ k) 1 = if v.getLsbD k = true then 1 else 0 := by
  have h0 : ((v.toNat : Int) / 2 ^ k) = ((v.toNat / 2 ^ k : Nat) : Int) := by rw [Int.natCast_ediv]; simp
  have hle : v.toNat / 2 ^ k ≤ v.toNat := Nat.div_le_self _ _
  have hv := v.isLt
  rw [h0, BitVec.getLsbD, Nat.testBit_eq_decide_div_mod_eq]
  generalize v.toNat / 2 ^ k = x at *
  rw [and_one x (by omega)]
  by_cases hx : x % 2 = 1
  · rw [if_pos (by simpa using hx)]
    omega
  · rw [if_neg (by simpa using hx)]
    omega
theorem xor_one8 (b : UInt8) (r : Nat) : bits .xor .u8 (b.toNat : Int) ((2 : Int) ^ r % 256) = ((b ^^^ one8 r).toNat : Int) := by
  have h0 : (2 : Int) ^ r % 256 = ((2 ^ r % 256 : Nat) : Int) := by rw [Int.natCast_emod]; simp
  have h1 : (one8 r).toNat = 2 ^ r % 256 := by unfold one8; rw [UInt8.toNat_ofNat']
  rw [h0, xor_u8 _ _ (u8_lt b) (by omega), UInt8.toNat_xor, h1]

set_option maxRecDepth 100000 in
set_option maxHeartbeats 4000000 in
theorem flipped_any (l : List UInt8) (p : Nat) (v : BitVec 32) (hl : l.length ≤ 5000) (hp : p + 32 ≤ 8 * l.length) (w : World) :
    Calls Try.prog 19 #[.string ⟨l.toArray⟩, .int .i64 (p : Int), .int .u32 (v.toNat : Int)] w fun e w' => e = .returned (.string ⟨(flips l p v 32).toArray⟩) ∧ Below w.heap.size w w' := by
  obtain ⟨cap, W1, hcv, hR, hB, hcap⟩ := run_bytes_row (P := Try.prog) w 9 34 5 l Try.underlying9 Try.underlying34 Try.underlying5
  have Hlen : Hid (∀ k, (flips l p v k).length = l.length) := Lib.hid fun k => flips_length l p v k
  have HR := Lib.hid hR
  have HB := Lib.hid hB
  have Hcap := Lib.hid hcap
  have Hp := Lib.hid hp
  have Hl := Lib.hid hl
  have hz := w_lt v
  have hz0 : (0 : Int) ≤ (v.toNat : Int) := by omega
  generalize hzv : (v.toNat : Int) = z at *
  have Hz := Lib.hid hzv
  clear hR hB hcap hp hl hzv
  go_enter Try.func19, Try.ntmps19
  go_wp2
  go_loopw [8] (fun i wr => ∃ k : Nat, Hid (k ≤ 32) ∧ i = .int .i64 k ∧ Hid (BRow wr w.heap.size (flips l p v k)) ∧ Hid (Below w.heap.size w wr)) (fun i _ => 32 - (intOf i).toNat)
  case atStart => exact ⟨0, Lib.hid (by omega), rfl, HR, HB⟩
  case round =>
    obtain ⟨k, Hk, rfl, HRk, HBk⟩ := hrel
    have hk32 := Hk.out
    by_cases hlt : k < 32
    · have hki : (0 : Int) ≤ (k : Int) ∧ (k : Int) < 32 := by omega
      have hq : ((p : Int) + k) / 8 = (((p + k) / 8 : Nat) : Int) := by omega
      have hr : ((p : Int) + k) % 8 = (((p + k) % 8 : Nat) : Int) := by omega
      have hql : (p + k) / 8 < (flips l p v k).length := by rw [Hlen.out]; have := Hp.out; omega
      have Hqn : Hid ((p + k) / 8 < l.length) := Lib.hid (by have := Hp.out; omega)
      have Hf1 := Lib.hid (flip1_set (flips l p v k) (p + k) hql)
      have hr8 : (((p + k) % 8 : Nat) : Int) < 8 := by omega
      have hcell := HRk.out.cell ((p + k) / 8) _ (List.getElem?_eq_getElem hql)
      have hfree := HRk.out.free ((p + k) / 8) hql
      have Hset := Lib.hid (HRk.out.set ((p + k) / 8) ((flips l p v k)[(p + k) / 8] ^^^ one8 ((p + k) % 8)) hql)
      have hpk : (0 : Int) ≤ (p : Int) + k ∧ (p : Int) + k < 40000 := by have := Hp.out; have := Hl.out; omega
      generalize (p + k) % 8 = r at *
      generalize (p + k) / 8 = q at *
      generalize (flips l p v k)[q] = b at *
      have hqi : (q : Int) < l.length := by have := Hqn.out; omega
      by_cases hbit : v.getLsbD k = true
      · have hb1 : bits .and .u32 (z / 2 ^ k) 1 = 1 := by rw [← Hz.out, bit_w, if_pos hbit]
        have Hn : Hid ((flips l p v k).set q (b ^^^ one8 r) = flips l p v (k + 1)) := Lib.hid (by rw [← Hf1.out]; exact (if_pos hbit).symm)
        have Hx := Lib.hid (xor_one8 b r)
        clear hlt hql hbit
        go_wp2
        go_roundw
        case rel => exact ⟨k + 1, Lib.hid (by omega), iv (by omega), Lib.hid (by rw [Hx.out, ← Hn.out]; exact Hset.out), Lib.hid (HBk.out.setCell (Nat.le_refl _) _)⟩
        case measure => simp only [intOf]; omega
      · have hb1 : bits .and .u32 (z / 2 ^ k) 1 = 0 := by rw [← Hz.out, bit_w, if_neg hbit]
        have Hn : Hid (flips l p v k = flips l p v (k + 1)) := Lib.hid (if_neg hbit).symm
        clear hlt hql hbit
        go_wp2
        go_roundw
        case rel => exact ⟨k + 1, Lib.hid (by omega), iv (by omega), Lib.hid (by rw [← Hn.out]; exact HRk.out), HBk⟩
        case measure => simp only [intOf]; omega
    · obtain rfl : k = 32 := by omega
      have hst := HRk.out.str Try.underlying34 Try.underlying5 Try.underlying9 l.length cap (Hlen.out 32)
      go_wp2
      go_ret
      exact ⟨rfl, HBk.out⟩
end Go.Proofs.Ytajhenjjhbecoaa
