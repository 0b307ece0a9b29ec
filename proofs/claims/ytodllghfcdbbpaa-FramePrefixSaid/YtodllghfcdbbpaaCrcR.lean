/-
  Layer 5: the document's entry, remainder and sum.
-/
import Derived.Test.YtodllghfcdbbpaaCrcB
namespace Go.Proofs.Ytodllghfcdbbpaa
set_option linter.unusedSimpArgs false
set_option linter.unusedVariables false
open Go.ChangeShapes Go.WideShapes Go.ChangeAt Go.RowKit Go.Joins Go.Deep
theorem sn_succ (n : Nat) (c : BitVec 32) : sn (n + 1) c = st (sn n c) := sn_add n 1 c
theorem shr1 (c : BitVec 32) : ((c >>> 1).toNat : Int) = (c.toNat : Int) / 2 := by
  rw [BitVec.toNat_ushiftRight, Nat.shiftRight_eq_div_pow]
  omega
theorem low_is (c : BitVec 32) : c.getLsbD 0 = decide (c.toNat % 2 = 1) := by
  rw [BitVec.getLsbD, Nat.testBit_zero]
theorem st_is_odd (c : BitVec 32) (h : (c.toNat : Int) % 2 = 1) : bits .xor .u32 ((c.toNat : Int) / 2) 3988292384 = ((st c).toNat : Int) := by
  rw [st_odd (by rw [low_is]; exact decide_eq_true (by omega)), ← shr1]
  exact xor_w (c >>> 1) poly
theorem st_is_even (c : BitVec 32) (h : (c.toNat : Int) % 2 = 0) : (c.toNat : Int) / 2 = ((st c).toNat : Int) := by
  rw [st_even (by rw [low_is]; exact decide_eq_false (by omega)), ← shr1]
set_option maxRecDepth 100000 in
set_option maxHeartbeats 2000000 in
theorem refEntry_any (b : BitVec 32) (w : World) :
    Calls Try.prog 31 #[.int .u32 (b.toNat : Int)] w fun e w' => e = .returned (.int .u32 ((entry b).toNat : Int)) ∧ w = w' := by
  unfold entry
  generalize hres : sn 8 b = res
  have Hres := Lib.hid hres
  clear hres
  go_enter Try.func31, Try.ntmps31
  go_wp2
  go_loop [0, 3] (fun c' i => ∃ k : Nat, Hid (k ≤ 8) ∧ i = .int .i64 k ∧ c' = .int .u32 ((sn k b).toNat : Int)) (fun _ i => 8 - (intOf i).toNat)
  case atStart => exact ⟨0, Lib.hid (by omega), rfl, rfl⟩
  case round =>
    obtain ⟨k, Hk, rfl, rfl⟩ := hrel
    have hk8 := Hk.out
    by_cases hlt : k < 8
    · have hki : (0 : Int) ≤ (k : Int) ∧ (k : Int) < 8 := by omega
      have Hn := Lib.hid (sn_succ k b)
      have hz0 := w_lt (sn k b)
      generalize sn k b = d at *
      have hz1 : (0 : Int) ≤ (d.toNat : Int) := by omega
      rcases (by omega : (d.toNat : Int) % 2 = 0 ∨ (d.toNat : Int) % 2 = 1) with hp | hp
      · have Hst := Lib.hid (st_is_even d hp)
        generalize (d.toNat : Int) = z at *
        go_wp2
        go_round
        case rel => exact ⟨k + 1, Lib.hid (by omega), by go_num, by rw [Hst.out, Hn.out]⟩
        case measure => simp only [intOf]; omega
      · have Hst := Lib.hid (st_is_odd d hp)
        generalize (d.toNat : Int) = z at *
        go_wp2
        go_round
        case rel => exact ⟨k + 1, Lib.hid (by omega), by go_num, by rw [Hst.out, Hn.out]⟩
        case measure => simp only [intOf]; omega
    · obtain rfl : k = 8 := by omega
      rw [Hres.out]
      go_wp2
      go_ret
      exact ⟨rfl, rfl⟩
theorem ix_u32' (c : BitVec 32) (b : UInt8) : bits .xor .u32 ((c.toNat : Int) % 256) ((b.toNat : Int) % 4294967296) = (ix c b : Int) := by
  have h : (b.toNat : Int) % 4294967296 = b.toNat := by have := u8_lt b; omega
  rw [← ix_u32 c b, h]
set_option maxRecDepth 100000 in
set_option maxHeartbeats 4000000 in
theorem refRest_any (T : List (BitVec 32)) (hT : T.length = 256) (c : BitVec 32) (l : List UInt8) (hl : l.length ≤ 4611686018427387904) (w : World) :
    Calls Try.prog 37 #[.agg (tab T).toArray, .int .u32 (c.toNat : Int), .string ⟨l.toArray⟩] w fun e w' =>
      e = .returned (.int .u32 ((restT T c l).toNat : Int)) ∧ Below w.heap.size w w' := by
  have Hc : Hid (∀ i, i < 256 → (tab T)[i]? = some (.int .u32 ((tg T i).toNat : Int))) := Lib.hid fun i hi => tab_get T i (by omega)
  generalize hC : tab T = C at *
  clear hC
  generalize hres : restT T c l = res
  have Hres := Lib.hid hres
  clear hres
  go_enter Try.func37, Try.ntmps37
  go_wp2
  go_loop [1, 7] (fun c' i => ∃ k : Nat, k ≤ l.length ∧ i = .int .i64 k ∧ c' = .int .u32 ((restT T c (l.take k)).toNat : Int)) (fun _ i => l.length - (intOf i).toNat)
  case atStart => exact ⟨0, Nat.zero_le _, rfl, rfl⟩
  case round =>
    obtain ⟨k, hk, rfl, rfl⟩ := hrel
    by_cases hlt : k < l.length
    · have hki : (0 : Int) ≤ (k : Int) ∧ (k : Int) < l.length := by omega
      have Hn := Lib.hid (restT_take T c l k hlt)
      have hz0 := w_lt (restT T c (l.take k))
      generalize restT T c (l.take k) = d at *
      have hks : k < (ByteArray.mk l.toArray).size := by rw [ByteArray.size_mk']; simpa using hlt
      have hx : bits .xor .u32 ((d.toNat : Int) % 256) ((((ByteArray.mk l.toArray)[k]'hks).toNat : Int) % 4294967296) = (ix d l[k] : Int) := ix_u32' d l[k]
      have hst := step_w T d l[k]
      have hcell := Hc.out (ix d l[k]) (ix_lt d l[k])
      have hixl : (ix d l[k] : Int) < 256 := by have := ix_lt d l[k]; omega
      have hz1 : (0 : Int) ≤ (d.toNat : Int) := by omega
      generalize hj : ix d l[k] = j at *
      generalize hd' : stepT T d l[k] = d' at *
      generalize (tg T j).toNat = tv at *
      generalize (d.toNat : Int) = z at *
      have Hst := Lib.hid hst
      clear hst hj hd'
      go_wp2
      go_round
      case rel => exact ⟨k + 1, by omega, by go_num, by rw [Hst.out, Hn.out]⟩
      case measure => simp only [intOf]; omega
    · obtain rfl : k = l.length := by omega
      rw [List.take_length, Hres.out]
      go_wp2
      go_ret
      exact ⟨rfl, by go_grown⟩
set_option maxRecDepth 100000 in
set_option maxHeartbeats 2000000 in
theorem refMore_any (T : List (BitVec 32)) (hT : T.length = 256) (c : BitVec 32) (l : List UInt8) (hl : l.length ≤ 4611686018427387904) (w : World) :
    Calls Try.prog 30 #[.agg (tab T).toArray, .int .u32 (c.toNat : Int), .string ⟨l.toArray⟩] w fun e w' =>
      e = .returned (.int .u32 ((moreT T c l).toNat : Int)) ∧ Below w.heap.size w w' := by
  have hrem := fun w => refRest_any T hT (~~~c) l hl w
  have Hi := Lib.hid (hi_tab (tab_256 hT))
  have hs1 := sub_w c
  have hs2 : (4294967295 : Int) - ((restT T (~~~c) l).toNat : Int) = ((moreT T c l).toNat : Int) := sub_w _
  have hb1 := w_lt c
  have hb2 := w_lt (restT T (~~~c) l)
  generalize moreT T c l = res at *
  generalize restT T (~~~c) l = d at *
  generalize (~~~c : BitVec 32) = c' at *
  have Hrem := Lib.hid hrem
  generalize tab T = C at *
  clear hrem
  go_enter Try.func30, Try.ntmps30
  go_wp2_with (first
    | (refine wpList_load_mid rfl 49 _ rfl _ 0 rfl C _ (range_new _ _ _) Try.underlying49 rfl Hi.out ?_)
    | (go_at_call 37; refine (Hrem.out _).mono ?_; rintro e w1 ⟨rfl, hb1⟩))
  go_ret
  exact ⟨rfl, below_box hb1⟩
end Go.Proofs.Ytodllghfcdbbpaa
