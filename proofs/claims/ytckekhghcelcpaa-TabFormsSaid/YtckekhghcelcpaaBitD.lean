/-
  Layer 4: what a reader's methods do, for every text and place.
-/
import Derived.Test.YtckekhghcelcpaaBitA0
namespace Go.Proofs.Ytckekhghcelcpaa
set_option linter.unusedSimpArgs false
set_option linter.unusedVariables false
open Go.ChangeShapes Go.WideShapes Go.ChangeAt Go.RowKit Go.Joins Go.Deep

theorem nread (x M t : Nat) (m : Int) (hm : m = M) (hM : M < 256) (ht : t ≤ 8) (hfit : x * 2 ^ t < 4294967296) :
    bits .or .i64 (wrap64 ((x : Int) * 2 ^ min t 64)) (bits .and .i64 m (wrap64 (wrap64 (2 ^ min t 64) - 1))) = ((x * 2 ^ t + M % 2 ^ t : Nat) : Int) := by
  subst hm
  rw [show min t 64 = t from by omega]
  have hp : 0 < 2 ^ t := Nat.pow_pos (by omega)
  have h8 : 2 ^ t ≤ 2 ^ 8 := Nat.pow_le_pow_right (by omega) ht
  rw [show (2 : Nat) ^ 8 = 256 from by decide] at h8
  have e1 : (2 : Int) ^ t = ((2 ^ t : Nat) : Int) := by norm_cast
  have e2 : wrap64 (wrap64 ((2 : Int) ^ t) - 1) = 2 ^ t - 1 := by rw [e1]; unfold wrap64; omega
  have e3 : wrap64 ((x : Int) * 2 ^ t) = ((x * 2 ^ t : Nat) : Int) := by
    have : (x : Int) * 2 ^ t = ((x * 2 ^ t : Nat) : Int) := by norm_cast
    rw [this]
    unfold wrap64
    omega
  have e63 : (2 : Int) ^ 63 = 9223372036854775808 := by decide
  have hwr : ∀ n : Int, 0 ≤ n → n < 2 ^ 63 → IntKind.i64.wrap n = n := fun n h0 h1 => by
    rw [e63] at h1
    rw [IntKind.wrap_i64]
    omega
  rw [e2, bits_mask .i64 63 (by decide) hwr t (by omega) (M : Int) (by omega) (by rw [e63]; omega), e3]
  have e4 : (M : Int) % 2 ^ t = ((M % 2 ^ t : Nat) : Int) := by rw [e1]; exact (Int.natCast_emod _ _).symm
  have hlt : M % 2 ^ t < 2 ^ t := Nat.mod_lt _ hp
  rw [e4, bits_join .i64 63 (by decide) hwr t ((x * 2 ^ t : Nat) : Int) ((M % 2 ^ t : Nat) : Int) (by omega) (by rw [e1, ← Int.natCast_emod, Nat.mul_mod_left]; rfl) (by rw [e63]; omega) (by omega) (by rw [e1]; exact_mod_cast hlt) (by rw [e63]; omega)]
  omega

theorem row_next (l : List UInt8) (p k t : Nat) (hp : p ≤ k) (hq : k / 8 < l.length) (ht : k % 8 + t ≤ 8) :
    num (((rowOf l).drop p).take (k + t - p)) = num (((rowOf l).drop p).take (k - p)) * 2 ^ t + l[k / 8].toNat / 2 ^ (8 - k % 8 - t) % 2 ^ t := by
  have h1 := row_mid l (k / 8) (k % 8) t hq ht
  rw [Nat.div_add_mod] at h1
  rw [show k + t - p = (k - p) + t from by omega, List.take_add, List.drop_drop, show p + (k - p) = k from by omega, h1, num_append, dig_length, num_dig]
theorem row_bound (l : List UInt8) (p k t : Nat) (h : k - p + t ≤ 32) : num (((rowOf l).drop p).take (k - p)) * 2 ^ t < 4294967296 := by
  have h1 := num_lt (l := ((rowOf l).drop p).take (k - p)) (fun d hd => row_bin l d (List.mem_of_mem_drop (List.mem_of_mem_take hd)))
  have h2 : 2 ^ (((rowOf l).drop p).take (k - p)).length ≤ 2 ^ (k - p) := Nat.pow_le_pow_right (by omega) (by simp; omega)
  have h3 : num (((rowOf l).drop p).take (k - p)) * 2 ^ t < 2 ^ (k - p) * 2 ^ t := Nat.mul_lt_mul_of_pos_right (by omega) (Nat.pow_pos (by omega))
  rw [← Nat.pow_add] at h3
  have h4 : 2 ^ (k - p + t) ≤ 2 ^ 32 := Nat.pow_le_pow_right (by omega) h
  rw [show (2 : Nat) ^ 32 = 4294967296 from by decide] at h4
  omega

set_option maxRecDepth 100000 in
set_option maxHeartbeats 2000000 in
theorem number_any (l : List UInt8) (p W g : Nat) (at0 : Int) (w : World) (hl : l.length ≤ 1099511627776) (hp : p + W ≤ 8 * l.length) (hW : W ≤ 32) (hB : Blk w g 59 #[.string ⟨l.toArray⟩, .int .i64 at0]) :
    Calls Try.prog 48 #[.pointer (some ⟨g, 0, none⟩), .int .i64 p, .int .i64 W] w fun e w' => e = .returned (.int .i64 (num (((rowOf l).drop p).take W))) ∧ ∃ k, w.drewN k = w' := by
  have hll : (l.length : Int) ≤ 1099511627776 := by omega
  have hpl : (p : Int) ≤ 8796093022208 := by omega
  have hWi : (W : Int) ≤ 32 := by omega
  go_enter Try.func48, Try.ntmps48
  go_wp2
  go_loopw [1, 7] (fun a n wr => ∃ k x : Nat, p ≤ k ∧ k ≤ p + W ∧ a = .int .i64 k ∧ n = .int .i64 x ∧ Hid (x = num (((rowOf l).drop p).take (k - p))) ∧ Hid (∃ d, w.drewN d = wr)) (fun a _ _ => (p + W) - (intOf a).toNat)
  case atStart => exact ⟨p, 0, by omega, by omega, rfl, rfl, by rw [Nat.sub_self]; rfl, 0, rfl⟩
  case round =>
    obtain ⟨k, x, hk0, hk, rfl, rfl, Hx, d, rfl⟩ := hrel
    obtain ⟨c1, c2, _, _⟩ := hB.two
    by_cases hlt : k < p + W
    · have h1 : (k : Int) < p + W := by omega
      have hq : k / 8 < l.length := by omega
      have hqi : 0 ≤ (k : Int) / 8 ∧ (k : Int) / 8 < l.length := by omega
      have hki : (k : Int) ≤ 8796093022208 := by omega
      have hby := u8_lt l[k / 8]
      by_cases hpart : 8 - (k : Int) % 8 ≤ p + W - k
      · have hn := row_next l p k (8 - k % 8) hk0 hq (by omega)
        have hbd := row_bound l p k (8 - k % 8) (by omega)
        have ht8 : 8 - k % 8 ≤ 8 ∧ k + (8 - k % 8) ≤ p + W ∧ 0 < 8 - k % 8 := by omega
        rw [← Hx.out] at hn hbd
        rw [show 8 - k % 8 - (8 - k % 8) = 0 from by omega, Nat.pow_zero, Nat.div_one] at hn
        have Hn := Lib.hid hn
        have Hbd := Lib.hid hbd
        have Ht8 := Lib.hid ht8
        have Hby := Lib.hid hby
        clear hn hbd ht8 hby
        go_wp2
        rw [show (8 - (k : Int) % 8) = ((8 - k % 8 : Nat) : Int) from by omega]
        generalize 8 - k % 8 = t at *
        go_quiet (fail)
        have ht9 : (t : Int) ≤ 8 := by have := Ht8.out; omega
        go_wp2
        go_roundw
        case rel =>
          have h8 := Ht8.out
          have hby := Hby.out
          refine ⟨k + t, _, by omega, by omega, iv (by omega), iv (nread x l[k / 8].toNat t _ ?_ hby h8.1 Hbd.out), Hn.out.symm, d + _, rfl⟩
          rw [ba_get]
          unfold wrap64
          omega
        case measure =>
          have h8 := Ht8.out
          simp only [intOf]
          omega
      · have hn := row_next l p k (p + W - k) hk0 hq (by omega)
        have hbd := row_bound l p k (p + W - k) (by omega)
        rw [← Hx.out] at hn hbd
        have ht8 : p + W - k ≤ 8 ∧ p + W - k ≤ 8 - k % 8 ∧ k + (p + W - k) = p + W ∧ 0 < p + W - k := by omega
        have Hn := Lib.hid hn
        have Hbd := Lib.hid hbd
        have Ht8 := Lib.hid ht8
        have Hby := Lib.hid hby
        clear hn hbd ht8 hby
        go_wp2
        rw [show (8 - (k : Int) % 8) = ((8 - k % 8 : Nat) : Int) from by omega, show ((p : Int) + W - k) = ((p + W - k : Nat) : Int) from by omega]
        have hle : (p + W - k ≤ 8 - k % 8) ∧ 8 - k % 8 ≤ 8 := by omega
        generalize 8 - k % 8 = bh at *
        generalize p + W - k = t at *
        have hws : IntKind.i64.wrap ((bh : Int) - t) = ((bh - t : Nat) : Int) := by rw [IntKind.wrap_i64]; omega
        have Hle := Lib.hid hle
        clear hle
        go_quiet (fail)
        have ht9 : (t : Int) ≤ 8 := by have := Ht8.out; omega
        go_wp2
        go_roundw
        case rel =>
          have h8 := Ht8.out
          have hby := Hby.out
          have hle := Hle.out
          have hdv : l[k / 8].toNat / 2 ^ (bh - t) ≤ l[k / 8].toNat := Nat.div_le_self _ _
          refine ⟨k + t, _, by omega, by omega, iv (by omega), iv (nread x (l[k / 8].toNat / 2 ^ (bh - t)) t _ ?_ (by omega) h8.1 Hbd.out), Hn.out.symm, d + _, rfl⟩
          rw [ba_get, show min (bh - t) 64 = bh - t from by omega, show wrap64 (l[k / 8].toNat : Int) = (l[k / 8].toNat : Int) from by unfold wrap64; omega]
          norm_cast
        case measure =>
          have h8 := Ht8.out
          simp only [intOf]
          omega
    · obtain rfl : k = p + W := by omega
      go_wp2
      go_ret
      refine ⟨congrArg Ending.returned (iv ?_), d, rfl⟩
      rw [Hx.out, show p + W - p = W from by omega]
end Go.Proofs.Ytckekhghcelcpaa
