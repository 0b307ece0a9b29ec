/-
  Layer 5: the remainder of bytes by any table, and bytes 00 behind them, as the program tells it.
-/
import Derived.Test.YtodllghfcdbbpaaCrcN
import Derived.Test.YtodllghfcdbbpaaRows
import Derived.Deep.MidRow
namespace Go.Proofs.Ytodllghfcdbbpaa
set_option linter.unusedSimpArgs false
set_option linter.unusedVariables false
open Go.ChangeShapes Go.WideShapes Go.ChangeAt Go.RowKit Go.Joins Go.Deep
set_option maxRecDepth 100000 in
set_option maxHeartbeats 4000000 in
theorem remainder_any (T : List (BitVec 32)) (hT : T.length = 256) (c : BitVec 32) (l : List UInt8) (n : Int) (hl : l.length ≤ 4611686018427387904) (w : World) :
    Calls Try.prog 36 #[.agg (tab T).toArray, .int .u32 (c.toNat : Int), .string ⟨l.toArray⟩, .int .i64 n] w fun e w' =>
      e = .returned (.int .u32 ((restT T (restT T c l) (no (cnt n))).toNat : Int)) ∧ Below w.heap.size w w' := by
  have Hc : Hid (∀ i, i < 256 → (tab T)[i]? = some (.int .u32 ((tg T i).toNat : Int))) := Lib.hid fun i hi => tab_get T i (by omega)
  generalize hC : tab T = C at *
  clear hC
  generalize hd0 : restT T c l = d0
  generalize hres : restT T d0 (no (cnt n)) = res
  have Hd0 := Lib.hid hd0
  have Hres := Lib.hid hres
  clear hd0 hres
  go_enter Try.func36, Try.ntmps36
  go_wp2
  go_loop [1, 12] (fun c' i => ∃ k : Nat, k ≤ l.length ∧ i = .int .i64 k ∧ c' = .int .u32 ((restT T c (l.take k)).toNat : Int)) (fun _ i => l.length - (intOf i).toNat)
  case atStart => exact ⟨0, Nat.zero_le _, rfl, rfl⟩
  case round =>
    obtain ⟨k, hk, rfl, rfl⟩ := hrel
    by_cases hlt : k < l.length
    · have hki : (0 : Int) ≤ (k : Int) ∧ (k : Int) < l.length := by omega
      have Hn := Lib.hid (restT_take T c l k hlt)
      have hz0 := w_lt (restT T c (l.take k))
      generalize restT T c (l.take k) = d at *
      have hks : k < (ByteArray.mk l.toArray).size := by rw [ByteArray.size_mk']; simpa using hlt
      have hx : bits .xor .u8 ((d.toNat : Int) % 256) (((ByteArray.mk l.toArray)[k]'hks).toNat : Int) = (ix d l[k] : Int) := ix_u8 d l[k]
      have hst := step_w T d l[k]
      have hcell := Hc.out (ix d l[k]) (ix_lt d l[k])
      have hixl : (ix d l[k] : Int) < 256 := by have := ix_lt d l[k]; omega
      have hz1 : (0 : Int) ≤ (d.toNat : Int) := by omega
      generalize hj : ix d l[k] = j at *
      generalize hd' : stepT T d l[k] = d' at *
      generalize (tg T j).toNat = tv at *
      generalize (d.toNat : Int) = z at *
      have Hst := Lib.hid hst
      clear hst hj hd'
      go_wp2
      go_round
      case rel => exact ⟨k + 1, by omega, by go_num, by rw [Hst.out, Hn.out]⟩
      case measure => simp only [intOf]; omega
    · obtain rfl : k = l.length := by omega
      rw [List.take_length, Hd0.out]
      by_cases h1 : n ≤ 100000
      · have hcn : cnt n = n.toNat := by unfold cnt; omega
        go_wp2
        go_loop [1, 29] (fun c' i => ∃ k : Nat, Hid (k ≤ cnt n) ∧ i = .int .i64 k ∧ c' = .int .u32 ((restT T d0 (no k)).toNat : Int)) (fun _ i => cnt n - (intOf i).toNat)
        case atStart => exact ⟨0, Lib.hid (Nat.zero_le _), rfl, rfl⟩
        case round =>
          obtain ⟨k, Hk, rfl, rfl⟩ := hrel
          have hkN := Hk.out
          by_cases hlt : k < cnt n
          · have hki : (0 : Int) ≤ (k : Int) ∧ (k : Int) < n := by omega
            have hk5 : (k : Int) < 100000 := by omega
            have Hn := Lib.hid (no_succ T d0 k)
            have hz0 := w_lt (restT T d0 (no k))
            generalize restT T d0 (no k) = d at *
            have hx : (d.toNat : Int) % 256 = (ix d 0 : Int) := by unfold ix; rw [show (0 : UInt8).toNat = 0 from rfl, Nat.xor_zero]; omega
            have hst := step_w T d 0
            have hcell := Hc.out (ix d 0) (ix_lt d 0)
            have hixl : (ix d 0 : Int) < 256 := by have := ix_lt d 0; omega
            have hz1 : (0 : Int) ≤ (d.toNat : Int) := by omega
            generalize hj : ix d 0 = j at *
            generalize hd' : stepT T d 0 = d' at *
            generalize (tg T j).toNat = tv at *
            generalize (d.toNat : Int) = z at *
            have Hst := Lib.hid hst
            have Hc0 := Lib.hid hcn
            clear hst hj hd' hcn hkN hlt
            go_wp2
            go_round
            case rel => exact ⟨k + 1, Lib.hid (by have := Hk.out; have := Hc0.out; omega), by go_num, by rw [Hst.out, Hn.out]⟩
            case measure => simp only [intOf]; have := Hc0.out; omega
          · obtain rfl : k = cnt n := by omega
            have hkn : ¬ (cnt n : Int) < n := by omega
            have Hc0 := Lib.hid hcn
            clear hcn hlt hkN
            rw [Hres.out]
            go_wp2
            go_ret
            exact ⟨rfl, by go_grown⟩
      · have hcn : cnt n = 100000 := by unfold cnt; omega
        go_wp2
        go_loop [1, 29] (fun c' i => ∃ k : Nat, Hid (k ≤ cnt n) ∧ i = .int .i64 k ∧ c' = .int .u32 ((restT T d0 (no k)).toNat : Int)) (fun _ i => cnt n - (intOf i).toNat)
        case atStart => exact ⟨0, Lib.hid (Nat.zero_le _), rfl, rfl⟩
        case round =>
          obtain ⟨k, Hk, rfl, rfl⟩ := hrel
          have hkN := Hk.out
          by_cases hlt : k < cnt n
          · have hki : (0 : Int) ≤ (k : Int) ∧ (k : Int) < 100000 := by omega
            have hk5 : (k : Int) < 100000 := by omega
            have Hn := Lib.hid (no_succ T d0 k)
            have hz0 := w_lt (restT T d0 (no k))
            generalize restT T d0 (no k) = d at *
            have hx : (d.toNat : Int) % 256 = (ix d 0 : Int) := by unfold ix; rw [show (0 : UInt8).toNat = 0 from rfl, Nat.xor_zero]; omega
            have hst := step_w T d 0
            have hcell := Hc.out (ix d 0) (ix_lt d 0)
            have hixl : (ix d 0 : Int) < 256 := by have := ix_lt d 0; omega
            have hz1 : (0 : Int) ≤ (d.toNat : Int) := by omega
            generalize hj : ix d 0 = j at *
            generalize hd' : stepT T d 0 = d' at *
            generalize (tg T j).toNat = tv at *
            generalize (d.toNat : Int) = z at *
            have Hst := Lib.hid hst
            have Hc0 := Lib.hid hcn
            clear hst hj hd' hcn hkN hlt
            go_wp2
            go_round
            case rel => exact ⟨k + 1, Lib.hid (by have := Hk.out; have := Hc0.out; omega), by go_num, by rw [Hst.out, Hn.out]⟩
            case measure => simp only [intOf]; have := Hc0.out; omega
          · obtain rfl : k = cnt n := by omega
            have hkn : ¬ (cnt n : Int) < 100000 := by omega
            have Hc0 := Lib.hid hcn
            clear hcn hlt hkN
            rw [Hres.out]
            go_wp2
            go_ret
            exact ⟨rfl, by go_grown⟩
end Go.Proofs.Ytodllghfcdbbpaa
