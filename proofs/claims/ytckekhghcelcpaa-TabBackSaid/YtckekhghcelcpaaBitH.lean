/-
  Layer 4: a reader's noughts and Gamma.
-/
import Derived.Test.YtckekhghcelcpaaBitH0
import Derived.Test.YtckekhghcelcpaaBitG
import Derived.Test.YtckekhghcelcpaaBitA
namespace Go.Proofs.Ytckekhghcelcpaa
set_option linter.unusedSimpArgs false
set_option linter.unusedVariables false
open Go.ChangeShapes Go.WideShapes Go.ChangeAt Go.RowKit Go.Joins Go.Deep

theorem bl_mul (m r : Nat) (h0 : m ≠ 0) (h : m * 2 ^ r < 4294967296) : bl (m * 2 ^ r) = bl m + r := by
  have hp : 0 < 2 ^ r := Nat.pow_pos (by omega)
  have hm : m ≤ m * 2 ^ r := Nat.le_mul_of_pos_right m hp
  obtain ⟨a, b, c⟩ := bl_spec 32 m h0 (by rw [show (2 : Nat) ^ 32 = 4294967296 from by decide]; omega) (by omega)
  have := bl_of (n := m * 2 ^ r) (k := bl m - 1 + r) (by rw [Nat.pow_add]; exact Nat.mul_le_mul_right _ b)
    (by rw [show bl m - 1 + r + 1 = bl m + r from by omega, Nat.pow_add]; exact Nat.mul_lt_mul_of_pos_right c hp) h
  omega
theorem lz_dig (m s : Nat) (l : List Nat) (h0 : m ≠ 0) (h : m < 2 ^ s) (hs : s ≤ 32) : lz (dig s m ++ l) = s - bl m ∧ bl m ≤ s := by
  have h32 : m < 2 ^ 32 := Nat.lt_of_lt_of_le h (Nat.pow_le_pow_right (by omega) hs)
  obtain ⟨a, b, c⟩ := bl_spec 32 m h0 h32 (by omega)
  obtain ⟨k, hk⟩ : ∃ k, bl m = k + 1 := ⟨bl m - 1, by omega⟩
  rw [hk] at b c ⊢
  rw [Nat.add_sub_cancel] at b
  have hks : k + 1 ≤ s := Nat.le_of_not_lt fun hgt => by
    have := Nat.pow_le_pow_right (n := 2) (by omega) (show s ≤ k by omega)
    omega
  refine ⟨?_, hks⟩
  have h1 := dig_add (s - (k + 1)) (k + 1) m
  rw [show s - (k + 1) + (k + 1) = s from by omega, Nat.div_eq_of_lt c, dig_zero, bin_dig_top b c] at h1
  rw [h1, List.append_assoc, lz_zeros, List.cons_append, lz_one]
  rfl
/-- What is left of a row, from a place in a byte on. -/
theorem row_left (l : List UInt8) (k : Nat) (hq : k / 8 < l.length) : (rowOf l).drop k = dig (8 - k % 8) (l[k / 8].toNat % 2 ^ (8 - k % 8)) ++ rowOf (l.drop (k / 8 + 1)) := by
  have h1 : k = 8 * (k / 8) + k % 8 := (Nat.div_add_mod k 8).symm
  rw [show (rowOf l).drop k = ((rowOf l).drop (8 * (k / 8))).drop (k % 8) from by rw [List.drop_drop, ← h1], row_drop, List.drop_eq_getElem_cons hq, row_cons, List.drop_append_of_le_length (by rw [dig_length]; omega)]
  congr 1
  have h2 := dig_add (k % 8) (8 - k % 8) l[k / 8].toNat
  rw [show k % 8 + (8 - k % 8) = 8 from by omega] at h2
  rw [h2, List.drop_left' (dig_length _ _)]
  have h3 := dig_num (dig_bin (8 - k % 8) l[k / 8].toNat)
  rw [dig_length, num_dig] at h3
  exact h3.symm
theorem shl_byte (b r : Nat) (hr : r < 8) : b * 2 ^ r % 256 = b % 2 ^ (8 - r) * 2 ^ r := by
  rw [show 256 = 2 ^ (8 - r) * 2 ^ r from by rw [← Nat.pow_add, show 8 - r + r = 8 from by omega], Nat.mul_mod_mul_right]
theorem left_zero (l : List UInt8) (p k : Nat) (hp : p ≤ k) (hq : k / 8 < l.length) (hz : ((rowOf l).drop p).take (k - p) = List.replicate (k - p) 0) (hb : l[k / 8].toNat * 2 ^ (k % 8) % 256 = 0) :
    ((rowOf l).drop p).take (8 * (k / 8 + 1) - p) = List.replicate (8 * (k / 8 + 1) - p) 0 := by
  have h1 := row_left l k hq
  rw [shl_byte _ _ (by omega)] at hb
  have hp' : 0 < 2 ^ (k % 8) := Nat.pow_pos (by omega)
  have hm : l[k / 8].toNat % 2 ^ (8 - k % 8) = 0 := by
    rcases Nat.mul_eq_zero.1 hb with h | h
    · exact h
    · omega
  rw [hm, dig_zero] at h1
  rw [show 8 * (k / 8 + 1) - p = (k - p) + (8 - k % 8) from by omega, List.take_add, List.drop_drop, show p + (k - p) = k from by omega, hz, h1, List.take_left' (by simp), List.replicate_append_replicate]
theorem left_some (l : List UInt8) (p k : Nat) (hp : p ≤ k) (hq : k / 8 < l.length) (hz : ((rowOf l).drop p).take (k - p) = List.replicate (k - p) 0) (hb : l[k / 8].toNat * 2 ^ (k % 8) % 256 ≠ 0) :
    lz ((rowOf l).drop p) + p = k + (8 - bl (l[k / 8].toNat * 2 ^ (k % 8) % 256)) ∧ bl (l[k / 8].toNat * 2 ^ (k % 8) % 256) ≤ 8 := by
  have h1 := row_left l k hq
  rw [shl_byte _ _ (by omega)] at hb ⊢
  have hm : l[k / 8].toNat % 2 ^ (8 - k % 8) ≠ 0 := fun e => hb (by rw [e, Nat.zero_mul])
  have hlt : l[k / 8].toNat % 2 ^ (8 - k % 8) < 2 ^ (8 - k % 8) := Nat.mod_lt _ (Nat.pow_pos (by omega))
  have hsm : l[k / 8].toNat % 2 ^ (8 - k % 8) * 2 ^ (k % 8) < 256 := by
    have h2 := Nat.mul_lt_mul_of_pos_right hlt (show 0 < 2 ^ (k % 8) from Nat.pow_pos (by omega))
    rw [← Nat.pow_add, show 8 - k % 8 + k % 8 = 8 from by omega] at h2
    exact h2
  have hc := lz_cut ((rowOf l).drop p) (k - p) (by rw [List.length_drop, row_length]; omega) hz
  rw [List.drop_drop, show p + (k - p) = k from by omega, h1] at hc
  have hd := lz_dig _ (8 - k % 8) (rowOf (l.drop (k / 8 + 1))) hm hlt (by omega)
  rw [bl_mul _ _ hm (by omega), hc, hd.1]
  have := hd.2
  omega

set_option maxRecDepth 100000 in
set_option maxHeartbeats 2000000 in
theorem noughts_any (l : List UInt8) (p g : Nat) (w : World) (hl : l.length ≤ 1099511627776) (hp : p ≤ 8 * l.length) (hB : Blk w g 59 #[.string ⟨l.toArray⟩, .int .i64 p]) :
    Calls Try.prog 49 #[.pointer (some ⟨g, 0, none⟩)] w fun e w' => e = .returned (.int .i64 (lz ((rowOf l).drop p))) ∧ ∃ k, w.drewN k = w' := by
  obtain ⟨c1, c2, _, _⟩ := hB.two
  have hll : (l.length : Int) ≤ 1099511627776 := by omega
  have hpl : (p : Int) ≤ 8 * l.length := by omega
  have Hlz : Hid (((rowOf l).drop p).length = 8 * l.length - p) := Lib.hid (by rw [List.length_drop, row_length])
  have hp0 : (0 : Int) ≤ p := by omega
  clear hB hl
  go_enter Try.func49, Try.ntmps49
  go_wp2
  go_loop [4] (fun a => ∃ k : Nat, p ≤ k ∧ k ≤ 8 * l.length ∧ a = .int .i64 k ∧ Hid (((rowOf l).drop p).take (k - p) = List.replicate (k - p) 0)) (fun a => 8 * l.length - (intOf a).toNat)
  case atStart => exact ⟨p, Nat.le_refl _, hp, rfl, Lib.hid (by rw [Nat.sub_self]; rfl)⟩
  case round =>
    obtain ⟨k, hk0, hk, rfl, Hz⟩ := hrel
    by_cases hlt : k < 8 * l.length
    · have hq : k / 8 < l.length := by omega
      have hqi : 0 ≤ (k : Int) / 8 ∧ (k : Int) / 8 < l.length := by omega
      have hki : (k : Int) < 8 * l.length := by omega
      have hkb : (k : Int) ≤ 8796093022208 := by omega
      have Hq := Lib.hid (left_zero l p k hk0 hq Hz.out)
      have Hs := Lib.hid (left_some l p k hk0 hq Hz.out)
      go_wp2
      · have hb : (((ByteArray.mk l.toArray)[k / 8]'(by rw [ByteArray.size_mk', List.size_toArray]; exact hq)).toNat * 2 ^ (k % 8) % 256 != (0 : Int)) = true := by assumption
        rw [ba_get] at hb ⊢
        have eB : ((l[k / 8].toNat : Int) * 2 ^ (k % 8) % 256) = ((l[k / 8].toNat * 2 ^ (k % 8) % 256 : Nat) : Int) := by norm_cast
        have hs := Hs.out
        have hB8 : l[k / 8].toNat * 2 ^ (k % 8) % 256 < 256 := Nat.mod_lt _ (by omega)
        rw [eB] at hb ⊢
        generalize l[k / 8].toNat * 2 ^ (k % 8) % 256 = B at hs hb hB8 ⊢
        have hb0 : B ≠ 0 := by
          rintro rfl
          exact absurd hb (by decide)
        obtain ⟨hs1, hs2⟩ := hs hb0
        have hlz := fun w => lz8_any (B : Int) w (by omega) (by omega)
        have e8 : Lib.bitLen ((B : Int)).toNat = bl B := rfl
        rw [e8] at hlz
        have hw1 : IntKind.i64.wrap ((k : Int) + (8 - (bl B : Int))) = ((k + (8 - bl B) : Nat) : Int) := by rw [IntKind.wrap_i64]; omega
        have hw2 : IntKind.i64.wrap (((k + (8 - bl B) : Nat) : Int) - p) = (lz ((rowOf l).drop p) : Int) := by rw [IntKind.wrap_i64]; omega
        clear hb hB8 hs hs1 hs2 eB e8
        generalize k + (8 - bl B) = K at *
        generalize hZ : lz ((rowOf l).drop p) = Z at *
        have HZ := Lib.hid hZ
        clear hZ
        go_quiet ((go_at_call 52; exact (hlz _).mono fun _ _ ⟨he, hm⟩ => ⟨he, _, hm.symm⟩))
        go_wp2
        go_ret
        exact ⟨by rw [HZ.out]; rfl, _, rfl⟩
      · have hb : (((ByteArray.mk l.toArray)[k / 8]'(by rw [ByteArray.size_mk', List.size_toArray]; exact hq)).toNat * 2 ^ (k % 8) % 256 != (0 : Int)) = false := by assumption
        rw [ba_get] at hb
        have eB : ((l[k / 8].toNat : Int) * 2 ^ (k % 8) % 256) = ((l[k / 8].toNat * 2 ^ (k % 8) % 256 : Nat) : Int) := by norm_cast
        rw [eB] at hb
        have hb0 : l[k / 8].toNat * 2 ^ (k % 8) % 256 = 0 := by
          have := bne_eq_false_iff_eq.1 hb
          omega
        go_round
        case rel => exact ⟨8 * (k / 8 + 1), by omega, by omega, iv (by omega), Lib.hid (Hq.out hb0)⟩
        case measure => simp only [intOf]; omega
    · obtain rfl : k = 8 * l.length := by omega
      have hlz : lz ((rowOf l).drop p) = 8 * l.length - p := by
        have h1 := Hz.out
        rw [List.take_of_length_le (by rw [Hlz.out]; omega)] at h1
        rw [h1]
        have := lz_zeros (8 * l.length - p) []
        rw [List.append_nil] at this
        rw [this]
        rfl
      have Hl2 := Lib.hid hlz
      clear hlz
      go_wp2
      go_ret
      refine ⟨congrArg Ending.returned (iv ?_), 0, rfl⟩
      rw [Hl2.out]
      omega

set_option maxRecDepth 100000 in
set_option maxHeartbeats 1000000 in
theorem rgamma_yes (l : List UInt8) (p g n : Nat) (w : World) (hl : l.length ≤ 1099511627776) (hp : p ≤ 8 * l.length) (hB : RHold w g l p) (k : Nat) (h : ungam ((rowOf l).drop p) = ((n : Int), k, 0)) :
    Calls Try.prog 41 #[.pointer (some ⟨g, 0, none⟩)] w fun e w' => e = .returned (.tuple #[.int .i64 n, .int .i64 0]) ∧ RHold w' g l (p + k) ∧ Touch w w' (fun k => k = g) := by
  have hlen : ((rowOf l).drop p).length = 8 * l.length - p := by rw [List.length_drop, row_length]
  unfold ungam at h
  by_cases a1 : lz ((rowOf l).drop p) = ((rowOf l).drop p).length
  · rw [if_pos a1] at h
    simp at h
  · rw [if_neg a1] at h
    by_cases a2 : 32 ≤ lz ((rowOf l).drop p)
    · rw [if_pos a2] at h
      simp at h
    · rw [if_neg a2] at h
      by_cases a3 : ((rowOf l).drop p).length < 2 * lz ((rowOf l).drop p) + 1
      · rw [if_pos a3] at h
        simp at h
      · rw [if_neg a3] at h
        simp only [Prod.mk.injEq, and_true] at h
        obtain ⟨hn, hk⟩ := h
        rw [List.drop_drop] at hn
        rw [hlen] at a1 a3
        have hnou := fun v hB => noughts_any l p g v hl hp hB
        have hleft := fun v hB => bleft_any l p g v (by omega) hp hB
        generalize lz ((rowOf l).drop p) = z at *
        have hnum := fun v hB => number_any l (p + z) (z + 1) g p v hl (by omega) (by omega) hB
        rw [Int.natCast_inj.1 hn] at hnum
        have b1 : ¬ (z : Int) = ((8 * l.length - p : Nat) : Int) := by omega
        have b2 : (z : Int) < 32 := by omega
        have b3 : ¬ ((8 * l.length - p : Nat) : Int) < 2 * z + 1 := by omega
        have hpl : (p : Int) ≤ 8796093022208 := by omega
        have hM : ((8 * l.length - p : Nat) : Int) ≤ 8796093022208 := by omega
        have e1 : (p : Int) + z = ((p + z : Nat) : Int) := by omega
        have e2 : (z : Int) + 1 = ((z + 1 : Nat) : Int) := by omega
        have Hk := Lib.hid hk
        obtain ⟨c1, c2, z1, z2⟩ := Blk.two hB
        have hg := Blk.lt hB
        have HB := Lib.hid hB
        have Hnum := Lib.hid hnum
        have E := Lib.hid (And.intro e1 e2)
        clear hB hp hl hn hk a1 a2 a3 hlen hnum e1 e2
        generalize 8 * l.length - p = M at *
        go_enter Try.func41, Try.ntmps41
        go_wp2_with (first
          | (go_at_call 29; refine (some_is g _).mono ?_; rintro e w1 ⟨rfl, rfl⟩)
          | (go_at_call 49; refine (hnou _ (HB.out.drewN 0)).mono ?_; rintro e w1 ⟨rfl, k0, rfl⟩)
          | (go_at_call 18; refine (hleft _ (HB.out.drewN _)).mono ?_; rintro e w1 ⟨rfl, k1, rfl⟩)
          | (go_at_call 48; rw [E.out.1, E.out.2]; refine (Hnum.out _ (HB.out.drewN _)).mono ?_; rintro e w1 ⟨rfl, k2, rfl⟩))
        go_ret2
        refine ⟨rfl, ?_, ((Touch.refl w (fun k => k = g)).drewN _).set (p := ⟨g, 1, none⟩) (Or.inl rfl) _⟩
        rw [← Hk.out]
        exact RHold.go (HB.out.drewN _) (2 * z + 1) _ (by omega)

end Go.Proofs.Ytckekhghcelcpaa
