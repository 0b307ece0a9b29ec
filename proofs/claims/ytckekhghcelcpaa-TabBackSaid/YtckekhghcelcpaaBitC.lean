/-
  Layer 4: a writer's Gamma.
-/
import Derived.Test.YtckekhghcelcpaaBitC0
import Derived.Test.YtckekhghcelcpaaBitG
import Derived.Test.YtckekhghcelcpaaBitA
namespace Go.Proofs.Ytckekhghcelcpaa
set_option linter.unusedSimpArgs false
set_option linter.unusedVariables false
open Go.ChangeShapes Go.WideShapes Go.ChangeAt Go.RowKit Go.Joins Go.Deep

theorem wgamma_no (g : Nat) (n : Int) (w : World) (h : ¬ hasG n) (hn : n < 9223372036854775808) :
    Calls Try.prog 27 #[.pointer (some ⟨g, 0, none⟩), .int .i64 n] w fun e w' => e = .returned (.int .i64 2) ∧ w = w' := by
  have e32 : (2 : Int) ^ (32 : Int).toNat = 4294967296 := by decide
  by_cases h1 : n < 1
  · clear h hn
    go_enter Try.func27, Try.ntmps27
    go_wp2
    go_ret
    exact ⟨rfl, rfl⟩
  · have hs := fun w => bfits_no n 32 w (fun hf => h ⟨by omega, by have := hf.2.2.2; rw [e32] at this; omega⟩)
    clear h hn e32
    go_enter Try.func27, Try.ntmps27
    go_wp2_with (go_at_call 23; refine (hs _).mono ?_; rintro e w1 ⟨rfl, rfl⟩)
    go_ret
    exact ⟨rfl, rfl⟩

set_option maxRecDepth 100000 in
set_option maxHeartbeats 1000000 in
theorem wgamma_yes (B g : Nat) (n : Int) (v : Value) (R : List Nat) (w : World) (h : hasG n) (hH : WHold w B g v R) (hB : B ≤ w.heap.size) (hR : R.length ≤ 1099511627700) :
    Calls Try.prog 27 #[.pointer (some ⟨g, 0, none⟩), .int .i64 n] w fun e w' => e = .returned (.int .i64 0) ∧ ∃ v', WHold w' B g v' (R ++ gam n.toNat) ∧ Touch w w' (WS g v) ∧ Sep w v v' := by
  obtain ⟨h1, h2⟩ := h
  have e32 : (2 : Int) ^ (32 : Int).toNat = 4294967296 := by decide
  have hs := fun w => bfits_yes n 32 w ⟨by omega, by omega, by omega, by rw [e32]; omega⟩
  have hlen := fun w => len_any n w (by omega) (by omega)
  obtain ⟨b1, b2, b3⟩ := bl_spec 32 n.toNat (by omega) (by rw [show (2 : Nat) ^ 32 = 4294967296 from by decide]; omega) (by omega)
  have ble := bl_le (n := n.toNat) (by omega) (by omega)
  have hgam : gam n.toNat = List.replicate (bl n.toNat - 1) 0 ++ dig (bl n.toNat) n.toNat := rfl
  have hbl : Lib.bitLen n.toNat = bl n.toNat := rfl
  simp only [hbl] at hlen
  generalize bl n.toNat = k at *
  have f1 : fits 0 ((k : Int) - 1) := ⟨by omega, by omega, by omega, Int.pow_pos (by decide)⟩
  have f2 : fits n k := ⟨by omega, by omega, by omega, by have : (n.toNat : Int) < 2 ^ k := by exact_mod_cast b3
                                                          simp only [Int.toNat_natCast]; omega⟩
  have d1 : digI 0 ((k : Int) - 1) = List.replicate (k - 1) 0 := by unfold digI; rw [show ((k : Int) - 1).toNat = k - 1 from by omega]; exact dig_zero _
  have d2 : digI n k = dig k n.toNat := by unfold digI; rw [Int.toNat_natCast]
  have hput1 := fun w hH hB => bput_is B g 0 ((k : Int) - 1) v R w f1 hH hB (by omega)
  have hput2 := fun w v1 hH hB => bput_is B g n k v1 (R ++ List.replicate (k - 1) 0) w f2 hH hB (by simp; omega)
  rw [d1] at hput1
  rw [d2] at hput2
  have hk1 : (1 : Int) ≤ k := by omega
  have hk2 : (k : Int) ≤ 32 := by omega
  have Hgam := Lib.hid hgam
  have HH := Lib.hid hH
  have HB := Lib.hid hB
  have h0 : 0 ≤ n := by omega
  have Hput1 := Lib.hid hput1
  have Hput2 := Lib.hid hput2
  clear hgam hH hB hput1 hput2 d1 d2 f1 f2 b1 b2 b3 ble hbl e32 hR
  go_enter Try.func27, Try.ntmps27
  go_wp2_with (first
    | (go_at_call 23; refine (hs _).mono ?_; rintro e w1 ⟨rfl, rfl⟩)
    | (go_at_call 38; refine (hlen _).mono ?_; rintro e w1 ⟨rfl, rfl⟩)
    | (go_at_call 11; (with_reducible refine (Hput1.out _ HH.out HB.out).mono ?_); rintro e w1 ⟨rfl, v1, hH1, ht1, hs1⟩; have HH1 := Lib.hid hH1; have Ht1 := Lib.hid ht1; have Hs1 := Lib.hid hs1; clear hH1 ht1 hs1)
    | (go_at_call 11; (with_reducible refine (Hput2.out _ _ HH1.out (Nat.le_trans HB.out Ht1.out.size)).mono ?_); rintro e w2 ⟨rfl, v2, hH2, ht2, hs2⟩; have HH2 := Lib.hid hH2; have Ht2 := Lib.hid ht2; have Hs2 := Lib.hid hs2; clear hH2 ht2 hs2))
  go_ret
  refine ⟨rfl, v2, ?_, touch_ws Ht1.out Ht2.out Hs1.out, Hs1.out.trans Hs2.out Ht1.out.size⟩
  have := HH2.out
  rw [Hgam.out, ← List.append_assoc]
  exact this
end Go.Proofs.Ytckekhghcelcpaa
