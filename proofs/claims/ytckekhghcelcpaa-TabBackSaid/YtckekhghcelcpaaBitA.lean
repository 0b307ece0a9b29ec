/-
  Layer 4: math/bits' Len and LeadingZeros8; a writer's Len, and a nil writer.
-/
import Derived.Test.YtckekhghcelcpaaBitA0
import Derived.Lib.BitFns
namespace Go.Proofs.Ytckekhghcelcpaa
set_option linter.unusedSimpArgs false
set_option linter.unusedVariables false
open Go.ChangeShapes Go.WideShapes Go.ChangeAt Go.RowKit Go.Joins Go.Deep

set_option maxRecDepth 100000 in
set_option maxHeartbeats 1000000 in
theorem len64_any (x : Int) (w : World) (h0 : 0 ≤ x) (h1 : x ≤ 4294967295) : Calls Try.prog 47 #[.int .u64 x] w fun e w' => e = .returned (.int .i64 (Lib.bitLen x.toNat)) ∧ w = w' := by
  by_cases a1 : x ≤ 255
  · have a2 : x < 256 := by omega
    have a3 : x < 65536 := by omega
    have a4 : x < 4294967296 := by omega
    go_enter Try.func47, Try.ntmps47
    go_wp2
    go_ret
    refine ⟨congrArg Ending.returned (iv ?_), rfl⟩
    have l := Lib.bitLen_le8' x h0 a1
    rw [Lib.len8_of x h0 a1]
    unfold wrap64
    omega
  · by_cases b1 : x ≤ 65535
    · have a2 : ¬ x < 256 := by omega
      have a3 : x < 65536 := by omega
      have a4 : x < 4294967296 := by omega
      have a5 : 0 ≤ x / 256 := by omega
      have a6 : x / 256 ≤ 255 := by omega
      clear a1
      go_enter Try.func47, Try.ntmps47
      go_wp2
      go_ret
      refine ⟨congrArg Ending.returned (iv ?_), rfl⟩
      have l := Lib.bitLen_le8' (x / 256) a5 a6
      have s := Lib.bitLen_shift8 x.toNat (by omega) (by omega)
      rw [Lib.len8_of (x / 256) a5 a6, s]
      rw [show (x / 256).toNat = x.toNat / 256 from by omega] at l ⊢
      unfold wrap64
      omega
    · by_cases c1 : x ≤ 16777215
      · have a2 : ¬ x < 65536 := by omega
        have a4 : x < 4294967296 := by omega
        have a5 : 0 ≤ x / 65536 := by omega
        have a6 : x / 65536 ≤ 255 := by omega
        have a7 : x / 65536 < 256 := by omega
        clear a1 b1
        go_enter Try.func47, Try.ntmps47
        go_wp2
        go_ret
        refine ⟨congrArg Ending.returned (iv ?_), rfl⟩
        have l := Lib.bitLen_le8' (x / 65536) a5 a6
        have s := Lib.bitLen_shift16 x.toNat (by omega) (by omega)
        rw [Lib.len8_of (x / 65536) a5 a6, s]
        rw [show (x / 65536).toNat = x.toNat / 65536 from by omega] at l ⊢
        unfold wrap64
        omega
      · have a2 : ¬ x < 65536 := by omega
        have a4 : x < 4294967296 := by omega
        have a5 : 0 ≤ x / 65536 / 256 := by omega
        have a6 : x / 65536 / 256 ≤ 255 := by omega
        have a7 : ¬ x / 65536 < 256 := by omega
        clear a1 b1 c1
        go_enter Try.func47, Try.ntmps47
        go_wp2
        go_ret
        refine ⟨congrArg Ending.returned (iv ?_), rfl⟩
        have l := Lib.bitLen_le8' (x / 65536 / 256) a5 a6
        have s := Lib.bitLen_shift24 x.toNat (by omega) (by omega)
        rw [Lib.len8_of (x / 65536 / 256) a5 a6, s]
        rw [show (x / 65536 / 256).toNat = x.toNat / 16777216 from by omega] at l ⊢
        unfold wrap64
        omega
theorem lz8_any (x : Int) (w : World) (h0 : 0 ≤ x) (h1 : x ≤ 255) : Calls Try.prog 52 #[.int .u8 x] w fun e w' => e = .returned (.int .i64 (8 - Lib.bitLen x.toNat)) ∧ w = w' := by
  have hl := Lib.bitLen_le8' x h0 h1
  have he := Lib.len8_of x h0 h1
  have HH : Hid (wrap64 (8 - wrap64 (Lib.len8 x)) = 8 - Lib.bitLen x.toNat) := Lib.hid (by rw [he]; unfold wrap64; omega)
  clear hl he
  go_enter Try.func52, Try.ntmps52
  go_wp2
  go_ret
  exact ⟨congrArg Ending.returned (iv HH.out), rfl⟩
theorem len_any (x : Int) (w : World) (h0 : 0 ≤ x) (h1 : x ≤ 4294967295) : Calls Try.prog 38 #[.int .u64 x] w fun e w' => e = .returned (.int .i64 (Lib.bitLen x.toNat)) ∧ w = w' := by
  go_enter Try.func38, Try.ntmps38
  go_wp2_with (go_at_call 47; refine (len64_any x _ h0 h1).mono ?_; rintro e w1 ⟨rfl, rfl⟩)
  go_ret
  exact ⟨rfl, rfl⟩

theorem wlen_any (B g : Nat) (v : Value) (R : List Nat) (w : World) (hH : WHold w B g v R) (hR : R.length ≤ 1099511627776) :
    Calls Try.prog 12 #[.pointer (some ⟨g, 0, none⟩)] w fun e w' => e = .returned (.int .i64 R.length) ∧ ∃ k, w.drewN k = w' := by
  obtain ⟨A, c, rfl, hc, hr⟩ := owns_cells hH.2.1
  obtain ⟨c1, c2, _, _⟩ := hH.1.two
  have hfr : 8 * ((text R).length : Int) - fr R = R.length := by rw [text_length]; unfold fr; omega
  have htl : ((text R).length : Int) ≤ 1099511627776 := by rw [text_length]; omega
  have h0 : 0 ≤ ((text R).length : Int) := by omega
  have hf0 : 0 ≤ (fr R : Int) := by omega
  have hf8 : (fr R : Int) < 8 := by have := fr_lt R; omega
  have Hfr := Lib.hid hfr
  have hg := hH.1.lt
  clear hfr hH hr hc hR
  generalize (fr R : Int) = f at *
  generalize (text R).length = n at *
  go_enter Try.func12, Try.ntmps12
  go_wp2
  go_quiet (fail)
  go_wp2
  go_ret
  exact ⟨congrArg Ending.returned (iv Hfr.out), _, rfl⟩
theorem wnil_any (w : World) :
    (Calls Try.prog 19 #[.pointer none] w fun e w' => e = .returned (.string ⟨#[]⟩) ∧ w = w') ∧
    (Calls Try.prog 12 #[.pointer none] w fun e w' => e = .returned (.int .i64 0) ∧ w = w') ∧
    (∀ n, Calls Try.prog 27 #[.pointer none, .int .i64 n] w fun e w' => e = .returned (.int .i64 1) ∧ w = w') ∧
    (∀ n m, Calls Try.prog 11 #[.pointer none, .int .i64 n, .int .i64 m] w fun e w' => e = .returned (.int .i64 1) ∧ w = w') := by
  refine ⟨?_, ?_, fun n => ?_, fun n m => ?_⟩
  · go_enter Try.func19, Try.ntmps19
    go_wp2
    go_ret
    exact ⟨rfl, rfl⟩
  · go_enter Try.func12, Try.ntmps12
    go_wp2
    go_ret
    exact ⟨rfl, rfl⟩
  · go_enter Try.func27, Try.ntmps27
    go_wp2
    go_ret
    exact ⟨rfl, rfl⟩
  · go_enter Try.func11, Try.ntmps11
    go_wp2
    go_ret
    exact ⟨rfl, rfl⟩
end Go.Proofs.Ytckekhghcelcpaa
