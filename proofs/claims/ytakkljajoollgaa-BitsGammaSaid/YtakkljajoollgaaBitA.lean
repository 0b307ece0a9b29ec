/-
  Layer 4: the small functions of package bits: does a width fit, a reader's and a writer's plain methods, and math/bits' Len and LeadingZeros8.
-/
import Derived.Test.YtakkljajoollgaaBitM
import Derived.Test.YtakkljajoollgaaRows
import Derived.Lib.BitFns
namespace Go.Proofs.Ytakkljajoollgaa
set_option linter.unusedSimpArgs false
set_option linter.unusedVariables false
open Go.ChangeShapes Go.WideShapes Go.ChangeAt Go.RowKit Go.Joins Go.Deep

theorem bfits_no (n width : Int) (w : World) (h : ¬ fits n width) : Calls Try.prog 31 #[.int .i64 n, .int .i64 width] w fun e w' => e = .returned (.bool false) ∧ w = w' := by
  by_cases h1 : 0 ≤ width
  · by_cases h2 : width ≤ 32
    · by_cases h3 : 0 ≤ n
      · obtain ⟨W, rfl⟩ := Int.eq_ofNat_of_zero_le h1
        obtain ⟨N, rfl⟩ := Int.eq_ofNat_of_zero_le h3
        have hd : ¬ (N : Int) / 2 ^ W = 0 := fun e => h ⟨h1, h2, h3, by
          have := Int.lt_mul_of_ediv_lt (Int.pow_pos (by decide : (0 : Int) < 2) : (0 : Int) < 2 ^ W) (by omega : (N : Int) / 2 ^ W < 1)
          simpa using this⟩
        have Hd := Lib.hid hd
        clear hd h
        go_enter Try.func31, Try.ntmps31
        go_wp2
        go_ret
        refine ⟨?_, rfl⟩
        show Ending.returned (.bool ((N : Int) / 2 ^ W == 0)) = _
        rw [beq_eq_false_iff_ne.2 Hd.out]
      · clear h
        go_enter Try.func31, Try.ntmps31
        go_wp2
        go_ret
        exact ⟨rfl, rfl⟩
    · clear h
      go_enter Try.func31, Try.ntmps31
      go_wp2
      go_ret
      exact ⟨rfl, rfl⟩
  · clear h
    go_enter Try.func31, Try.ntmps31
    go_wp2
    go_ret
    exact ⟨rfl, rfl⟩
theorem bfits_yes (n width : Int) (w : World) (h : fits n width) : Calls Try.prog 31 #[.int .i64 n, .int .i64 width] w fun e w' => e = .returned (.bool true) ∧ w = w' := by
  obtain ⟨h1, h2, h3, h4⟩ := h
  obtain ⟨W, rfl⟩ := Int.eq_ofNat_of_zero_le h1
  obtain ⟨N, rfl⟩ := Int.eq_ofNat_of_zero_le h3
  go_enter Try.func31, Try.ntmps31
  go_wp2
  go_ret
  refine ⟨?_, rfl⟩
  have hd : (N : Int) / 2 ^ W = 0 := Int.ediv_eq_zero_of_lt h3 (by simpa using h4)
  show Ending.returned (.bool ((N : Int) / 2 ^ W == 0)) = _
  rw [hd]
  rfl

theorem some_is (g : Nat) (w : World) : Calls Try.prog 33 #[.pointer (some ⟨g, 0, none⟩)] w fun e w' => e = .returned (.pointer (some ⟨g, 0, none⟩)) ∧ w = w' := by
  go_enter Try.func33, Try.ntmps33
  go_wp2
  go_ret
  exact ⟨rfl, rfl⟩
theorem newreader_any (s : ByteArray) (w : World) : Calls Try.prog 20 #[.string s] w fun e w' => e = .returned (.pointer (some ⟨w.heap.size, 0, none⟩)) ∧ w.alloc (.cells #[.string s, .int .i64 0] 61) = w' := by
  go_enter Try.func20, Try.ntmps20
  go_wp2
  go_ret
  exact ⟨rfl, rfl⟩
theorem left_any (l : List UInt8) (p : Nat) (g : Nat) (w : World) (hl : l.length ≤ 4611686018427387) (hp : p ≤ 8 * l.length) (hB : Blk w g 61 #[.string ⟨l.toArray⟩, .int .i64 p]) :
    Calls Try.prog 24 #[.pointer (some ⟨g, 0, none⟩)] w fun e w' => e = .returned (.int .i64 ((8 * l.length - p : Nat) : Int)) ∧ ∃ k, w.drewN k = w' := by
  obtain ⟨c1, c2, _, _⟩ := hB.two
  go_enter Try.func24, Try.ntmps24
  go_wp2_with (go_at_call 33; refine (some_is g _).mono ?_; rintro e w1 ⟨rfl, rfl⟩)
  go_quiet (fail)
  go_wp2
  go_ret
  exact ⟨congrArg Ending.returned (iv (by omega)), _, rfl⟩

set_option maxRecDepth 100000 in
set_option maxHeartbeats 1000000 in
theorem len64_any (x : Int) (w : World) (h0 : 0 ≤ x) (h1 : x ≤ 4294967295) : Calls Try.prog 37 #[.int .u64 x] w fun e w' => e = .returned (.int .i64 (Lib.bitLen x.toNat)) ∧ w = w' := by
  by_cases a1 : x ≤ 255
  · have a2 : x < 256 := by omega
    have a3 : x < 65536 := by omega
    have a4 : x < 4294967296 := by omega
    go_enter Try.func37, Try.ntmps37
    go_wp2
    go_ret
    refine ⟨congrArg Ending.returned (iv ?_), rfl⟩
    have l := Lib.bitLen_le8' x h0 a1
    rw [Lib.len8_of x h0 a1]
    unfold wrap64
    omega
  · by_cases b1 : x ≤ 65535
    · have a2 : ¬ x < 256 := by omega
      have a3 : x < 65536 := by omega
      have a4 : x < 4294967296 := by omega
      have a5 : 0 ≤ x / 256 := by omega
      have a6 : x / 256 ≤ 255 := by omega
      clear a1
      go_enter Try.func37, Try.ntmps37
      go_wp2
      go_ret
      refine ⟨congrArg Ending.returned (iv ?_), rfl⟩
      have l := Lib.bitLen_le8' (x / 256) a5 a6
      have s := Lib.bitLen_shift8 x.toNat (by omega) (by omega)
      rw [Lib.len8_of (x / 256) a5 a6, s]
      rw [show (x / 256).toNat = x.toNat / 256 from by omega] at l ⊢
      unfold wrap64
      omega
    · by_cases c1 : x ≤ 16777215
      · have a2 : ¬ x < 65536 := by omega
        have a4 : x < 4294967296 := by omega
        have a5 : 0 ≤ x / 65536 := by omega
        have a6 : x / 65536 ≤ 255 := by omega
        have a7 : x / 65536 < 256 := by omega
        clear a1 b1
        go_enter Try.func37, Try.ntmps37
        go_wp2
        go_ret
        refine ⟨congrArg Ending.returned (iv ?_), rfl⟩
        have l := Lib.bitLen_le8' (x / 65536) a5 a6
        have s := Lib.bitLen_shift16 x.toNat (by omega) (by omega)
        rw [Lib.len8_of (x / 65536) a5 a6, s]
        rw [show (x / 65536).toNat = x.toNat / 65536 from by omega] at l ⊢
        unfold wrap64
        omega
      · have a2 : ¬ x < 65536 := by omega
        have a4 : x < 4294967296 := by omega
        have a5 : 0 ≤ x / 65536 / 256 := by omega
        have a6 : x / 65536 / 256 ≤ 255 := by omega
        have a7 : ¬ x / 65536 < 256 := by omega
        clear a1 b1 c1
        go_enter Try.func37, Try.ntmps37
        go_wp2
        go_ret
        refine ⟨congrArg Ending.returned (iv ?_), rfl⟩
        have l := Lib.bitLen_le8' (x / 65536 / 256) a5 a6
        have s := Lib.bitLen_shift24 x.toNat (by omega) (by omega)
        rw [Lib.len8_of (x / 65536 / 256) a5 a6, s]
        rw [show (x / 65536 / 256).toNat = x.toNat / 16777216 from by omega] at l ⊢
        unfold wrap64
        omega
theorem lz8_any (x : Int) (w : World) (h0 : 0 ≤ x) (h1 : x ≤ 255) : Calls Try.prog 38 #[.int .u8 x] w fun e w' => e = .returned (.int .i64 (8 - Lib.bitLen x.toNat)) ∧ w = w' := by
  have hl := Lib.bitLen_le8' x h0 h1
  have he := Lib.len8_of x h0 h1
  have HH : Hid (wrap64 (8 - wrap64 (Lib.len8 x)) = 8 - Lib.bitLen x.toNat) := Lib.hid (by rw [he]; unfold wrap64; omega)
  clear hl he
  go_enter Try.func38, Try.ntmps38
  go_wp2
  go_ret
  exact ⟨congrArg Ending.returned (iv HH.out), rfl⟩
theorem len_any (x : Int) (w : World) (h0 : 0 ≤ x) (h1 : x ≤ 4294967295) : Calls Try.prog 32 #[.int .u64 x] w fun e w' => e = .returned (.int .i64 (Lib.bitLen x.toNat)) ∧ w = w' := by
  go_enter Try.func32, Try.ntmps32
  go_wp2_with (go_at_call 37; refine (len64_any x _ h0 h1).mono ?_; rintro e w1 ⟨rfl, rfl⟩)
  go_ret
  exact ⟨rfl, rfl⟩

/-! ### A writer -/
/-- A writer at block g has the bits R; v is its slice of bytes. -/
def WHold (w : World) (B g : Nat) (v : Value) (R : List Nat) : Prop :=
  Blk w g 39 #[v, .int .i64 (fr R)] ∧ w.ownsRow B 5 1 v (text R).length (bc (text R)).toList ∧ Bin R
section
variable {w w' : World} {B g : Nat} {v : Value} {R : List Nat} {S : Nat → Prop}
theorem WHold.touch (h : WHold w B g v R) (ht : Touch w w' S) (hg : ¬ S g) (hv : ∀ k, v.ownBlock = some k → ¬ S k) : WHold w' B g v R := ⟨h.1.touch ht hg, owns_touch h.2.1 ht hv, h.2.2⟩
theorem WHold.below (h : WHold w B g v R) {C : Nat} (hb : Below C w w') (hC : w.heap.size ≤ C) : WHold w' B g v R := h.touch (touch_below (S := fun _ => False) hb hC) (fun h => h) (fun _ _ h => h)
end
theorem wlen_any (B g : Nat) (v : Value) (R : List Nat) (w : World) (hH : WHold w B g v R) (hR : R.length ≤ 1099511627776) :
    Calls Try.prog 17 #[.pointer (some ⟨g, 0, none⟩)] w fun e w' => e = .returned (.int .i64 R.length) ∧ ∃ k, w.drewN k = w' := by
  obtain ⟨A, c, rfl, hc, hr⟩ := owns_cells hH.2.1
  obtain ⟨c1, c2, _, _⟩ := hH.1.two
  have hfr : 8 * ((text R).length : Int) - fr R = R.length := by rw [text_length]; unfold fr; omega
  have htl : ((text R).length : Int) ≤ 1099511627776 := by rw [text_length]; omega
  have h0 : 0 ≤ ((text R).length : Int) := by omega
  have hf0 : 0 ≤ (fr R : Int) := by omega
  have hf8 : (fr R : Int) < 8 := by have := fr_lt R; omega
  have Hfr := Lib.hid hfr
  have hg := hH.1.lt
  clear hfr hH hr hc hR
  generalize (fr R : Int) = f at *
  generalize (text R).length = n at *
  go_enter Try.func17, Try.ntmps17
  go_wp2
  go_quiet (fail)
  go_wp2
  go_ret
  exact ⟨congrArg Ending.returned (iv Hfr.out), _, rfl⟩
theorem wtext_any (B g : Nat) (v : Value) (R : List Nat) (w : World) (hH : WHold w B g v R) :
    Calls Try.prog 18 #[.pointer (some ⟨g, 0, none⟩)] w fun e w' => e = .returned (.string ⟨(text R).toArray⟩) ∧ w = w' := by
  obtain ⟨A, c, rfl, hc, hr⟩ := owns_cells hH.2.1
  obtain ⟨c1, c2, _, _⟩ := hH.1.two
  have hcv : (convert 37 9 (.slice A (text R).length c)).run Try.prog w = .ok (.string ⟨(text R).toArray⟩) w := run_str_any Try.underlying37 Try.underlying5 Try.underlying9 w A c _ hr
  have hg := hH.1.lt
  clear hH hr hc
  generalize (text R).length = n at *
  generalize (text R).toArray = a at *
  go_enter Try.func18, Try.ntmps18
  go_wp2
  go_ret
  exact ⟨rfl, rfl⟩
theorem wnil_any (w : World) :
    (Calls Try.prog 18 #[.pointer none] w fun e w' => e = .returned (.string ⟨#[]⟩) ∧ w = w') ∧
    (Calls Try.prog 17 #[.pointer none] w fun e w' => e = .returned (.int .i64 0) ∧ w = w') ∧
    (∀ n, Calls Try.prog 14 #[.pointer none, .int .i64 n] w fun e w' => e = .returned (.int .i64 1) ∧ w = w') ∧
    (∀ n m, Calls Try.prog 16 #[.pointer none, .int .i64 n, .int .i64 m] w fun e w' => e = .returned (.int .i64 1) ∧ w = w') := by
  refine ⟨?_, ?_, fun n => ?_, fun n m => ?_⟩
  · go_enter Try.func18, Try.ntmps18
    go_wp2
    go_ret
    exact ⟨rfl, rfl⟩
  · go_enter Try.func17, Try.ntmps17
    go_wp2
    go_ret
    exact ⟨rfl, rfl⟩
  · go_enter Try.func14, Try.ntmps14
    go_wp2
    go_ret
    exact ⟨rfl, rfl⟩
  · go_enter Try.func16, Try.ntmps16
    go_wp2
    go_ret
    exact ⟨rfl, rfl⟩
end Go.Proofs.Ytakkljajoollgaa
