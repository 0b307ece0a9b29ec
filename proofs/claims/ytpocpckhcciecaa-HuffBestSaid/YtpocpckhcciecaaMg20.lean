/-
  What the law of the last of these texts stands on, part 20.
-/
import Derived.Test.YtpocpckhcciecaaRows
import Derived.Test.YtpocpckhcciecaaMg01
import Derived.Test.YtpocpckhcciecaaMg02
import Derived.Test.YtpocpckhcciecaaMg03
import Derived.Test.YtpocpckhcciecaaMg04
import Derived.Test.YtpocpckhcciecaaMg05
import Derived.Test.YtpocpckhcciecaaMg06
import Derived.Test.YtpocpckhcciecaaMg07
import Derived.Test.YtpocpckhcciecaaMg08
import Derived.Test.YtpocpckhcciecaaMg09
import Derived.Test.YtpocpckhcciecaaMg10
import Derived.Test.YtpocpckhcciecaaMg11
import Derived.Test.YtpocpckhcciecaaMg12
import Derived.Test.YtpocpckhcciecaaMg13
import Derived.Test.YtpocpckhcciecaaMg14
import Derived.Test.YtpocpckhcciecaaMg15
import Derived.Test.YtpocpckhcciecaaMg16
import Derived.Test.YtpocpckhcciecaaMg17
import Derived.Test.YtpocpckhcciecaaMg18
import Derived.Test.YtpocpckhcciecaaMg19
import Derived.Laws.EntriesVeiled
import Derived.WalkKit
import Derived.WalkSpells
import Derived.WalkLawsBesides
import Derived.ProofKit
import Derived.OpenShut
import Derived.Handy
import Derived.SizedLaws
import Derived.JoinedOf
import Derived.KernelRfl
import Derived.Lib.Hide
import Derived.Lib.SmallJoins
import Derived.Deep.Slices
import Derived.Deep.Fields
import Derived.Deep.SlicePairs
import Derived.Deep.Draws
import Derived.Deep.AppendLies
import Derived.Deep.QuietTactic
import Derived.BigQuiet
import Derived.Deep.RegionHeld3
import Derived.StillTailTactics
import Derived.Laws.OwnMore
import Derived.Laws.Rows
import Derived.Below
import Derived.Carry
import Derived.Lib.BitFns
import Derived.Deep.OwnRows
import Derived.WalkMore
import Derived.Laws.BytesString
import Derived.Laws.BitsLemmas
import Derived.Laws.Concat
import Derived.OwnWalk
import Derived.Deep.Upon
import Derived.Deep.RegionWith
import Derived.Deep.RegionLaw
namespace Go.Proofs.Ytpocpckhcciecaa
set_option linter.unusedSimpArgs false
set_option linter.unusedVariables false
open Go.ChangeShapes Go.WideShapes Go.ChangeAt Go.RowKit Go.Joins Go.Deep
theorem c_none_no (g : Nat) (w : World) (x : w.cell? ⟨g, 0, none⟩ = some (.bool true)) : Calls Try.prog 52 #[.pointer (some ⟨g, 0, none⟩)] w fun e w' => e = .returned (.bool false) ∧ w = w' := by
  have hg := cell_lt x
  go_enter Try.func52, Try.ntmps52
  go_wp2
  go_ret
  exact ⟨rfl, rfl⟩
/-- A symbol's field, and the error. -/
def pwordF (ws : List (Int × Int)) (s : Int) : (Int × Int) × Int := if 0 ≤ s ∧ s < ws.length ∧ (ws.getD s.toNat (0, 0)).2 ≠ 0 then (ws.getD s.toNat (0, 0), 0) else ((0, 0), 70)
theorem pword_ref (ws : List (Int × Int)) (s : Int) : (pwordF ws s).2 = (cwordF ws s).2 ∧ ((pwordF ws s).2 = 0 → (cwordF ws s).1 = digI (pwordF ws s).1.1 (pwordF ws s).1.2 ∧ (pwordF ws s).1 ∈ ws) := by
  unfold pwordF cwordF
  by_cases h : 0 ≤ s ∧ s < ws.length ∧ (ws.getD s.toNat (0, 0)).2 ≠ 0
  · rw [if_pos h, if_pos h]
    refine ⟨rfl, fun _ => ⟨rfl, ?_⟩⟩
    have hl : s.toNat < ws.length := by omega
    show ws.getD s.toNat (0, 0) ∈ ws
    rw [List.getD_eq_getElem?_getD, List.getElem?_eq_getElem hl]
    exact List.getElem_mem hl
  · rw [if_neg h, if_neg h]
    exact ⟨rfl, fun h => absurd h (by decide)⟩
/-- What Word answers. -/
def wordV (F : (Int × Int) × Int) : Value := .tuple #[.agg #[.int .i64 F.1.1, .int .i64 F.1.2], .int .i64 F.2]
set_option maxRecDepth 100000 in
set_option maxHeartbeats 1000000 in
theorem c_word_any (ls : List Nat) (B g : Nat) (s : Int) (w : World) (h : CCode w B g ls) (hl : ls.length ≤ 1000000) : Calls Try.prog 67 #[.pointer (some ⟨g, 0, none⟩), .int .i64 s] w fun e w' => e = .returned (wordV (pwordF (wat ls 16 0) s)) ∧ Below w.heap.size w w' := by
  have Hn : Hid (∀ W, Below w.heap.size w W → Calls Try.prog 52 #[.pointer (some ⟨g, 0, none⟩)] W fun e w' => e = .returned (.bool false) ∧ W = w') := Lib.hid fun W hW => c_none_no g W ((hW.cell (p := ⟨g, 0, none⟩) h.at.2).trans h.made)
  obtain ⟨b, hb, x1, hB⟩ := h.words
  have hg := h.at.2
  have hbl := hB.lt
  have hwl := wat_len ls 16 0
  obtain ⟨F, hF⟩ : ∃ F, pwordF (wat ls 16 0) s = F := ⟨_, rfl⟩
  rw [hF]
  unfold pwordF at hF
  rw [hwl] at hF
  obtain ⟨n, hn⟩ : ∃ n, ls.length = n := ⟨_, rfl⟩
  rw [hn] at hF x1 hl hwl
  have hni : (n : Int) ≤ 1000000 := by omega
  clear h
  by_cases h0 : s < 0
  · rw [if_neg (by omega)] at hF
    subst hF
    clear hB
    go_enter Try.func67, Try.ntmps67
    go_wp2_with (go_at_call 52; refine (Hn.out _ ((Below.refl _ _).alloc (Nat.le_refl _) _)).mono ?_; rintro e w1 ⟨rfl, rfl⟩)
    refine bodyPost_ret (v := .tuple #[.agg #[.int .i64 0, .int .i64 0], .int .i64 70]) (by simp [results, Try.results67, go_sem]) rfl ⟨rfl, by go_grown⟩
  · by_cases h1 : (n : Int) ≤ s
    · rw [if_neg (by omega)] at hF
      subst hF
      clear hB
      go_enter Try.func67, Try.ntmps67
      go_wp2_with (go_at_call 52; refine (Hn.out _ ((Below.refl _ _).alloc (Nat.le_refl _) _)).mono ?_; rintro e w1 ⟨rfl, rfl⟩)
      refine bodyPost_ret (v := .tuple #[.agg #[.int .i64 0, .int .i64 0], .int .i64 70]) (by simp [results, Try.results67, go_sem]) rfl ⟨rfl, by go_grown⟩
    · obtain ⟨k, rfl⟩ := Int.eq_ofNat_of_zero_le (by omega : 0 ≤ s)
      have hk : k < n := by omega
      have hki : (0 : Int) ≤ (k : Int) ∧ (k : Int) < (n : Int) := by omega
      have hkw : k < (wat ls 16 0).length := by rw [hwl]; exact hk
      rw [Int.toNat_natCast, List.getD_eq_getElem?_getD, List.getElem?_eq_getElem hkw, Option.getD_some] at hF
      have y1 := hB.cell (k * 2)
      rw [List.getElem?_toArray, pairs_fst .i64 _ k hkw] at y1
      have y2 := hB.cell (k * 2 + 1)
      rw [List.getElem?_toArray, pairs_snd .i64 _ k hkw] at y2
      clear hB
      generalize (wat ls 16 0)[k] = f at *
      obtain ⟨fn, fw⟩ := f
      dsimp only at y1 y2 hF
      by_cases hz : fw = 0
      · rw [if_neg (fun h => h.2.2 hz)] at hF
        subst hF
        subst hz
        clear hkw hwl h0 h1
        go_enter Try.func67, Try.ntmps67
        go_wp2_with (go_at_call 52; refine (Hn.out _ ((Below.refl _ _).alloc (Nat.le_refl _) _)).mono ?_; rintro e w1 ⟨rfl, rfl⟩)
        refine bodyPost_ret (v := .tuple #[.agg #[.int .i64 0, .int .i64 0], .int .i64 70]) (by simp [results, Try.results67, go_sem]) rfl ⟨rfl, by go_grown⟩
      · rw [if_pos ⟨by omega, by omega, hz⟩] at hF
        subst hF
        have hz2 : (fw == (0 : Int)) = false := by simpa using hz
        clear hkw hwl h0 h1
        go_enter Try.func67, Try.ntmps67
        go_wp2_with (go_at_call 52; refine (Hn.out _ ((Below.refl _ _).alloc (Nat.le_refl _) _)).mono ?_; rintro e w1 ⟨rfl, rfl⟩)
        refine bodyPost_ret (v := .tuple #[.agg #[.int .i64 fn, .int .i64 fw], .int .i64 0]) (by simp [results, Try.results67, go_sem]) rfl ⟨rfl, by go_grown⟩
end Go.Proofs.Ytpocpckhcciecaa
namespace Go.Proofs.Ytpocpckhcciecaa
set_option linter.unusedSimpArgs false
set_option linter.unusedVariables false
open Go.ChangeShapes Go.WideShapes Go.ChangeAt Go.RowKit Go.Joins Go.Deep
/-- The method value 'w.Put'. -/
def cputV (g : Nat) : Value := .func (.func 44) #[.pointer (some ⟨g, 0, none⟩)] #[]
set_option maxRecDepth 100000 in
set_option maxHeartbeats 1000000 in
theorem c_hand_yes (ls : List Nat) (B Bw g gw : Nat) (v : Value) (R : List Nat) (s : Int) (w : World) (h : CCode w B g ls) (hl : ls.length ≤ 1000000) (hE : (pwordF (wat ls 16 0) s).2 = 0) (hf : ∀ f ∈ wat ls 16 0, fits f.1 f.2) (hH : WHold w Bw gw v R) (hB : Bw ≤ w.heap.size) (hR : R.length ≤ 1099511627776) :
    Calls Try.prog 46 #[.pointer (some ⟨g, 0, none⟩), cputV gw, .int .i64 s] w fun e w' => e = .returned (.int .i64 0) ∧ ∃ v', WHold w' Bw gw v' (R ++ (cwordF (wat ls 16 0) s).1) ∧ Touch w w' (WS gw v) ∧ Sep w v v' := by
  have Hw := Lib.hid (c_word_any ls B g s w h hl)
  obtain ⟨h1, h2⟩ := pword_ref (wat ls 16 0) s
  obtain ⟨h3, h4⟩ := h2 hE
  unfold wordV at Hw
  rw [hE] at Hw
  rw [h3]
  have hfit := hf _ h4
  have Hput := Lib.hid fun w hH hB => bput_is Bw gw _ _ v R w hfit hH hB hR
  clear h hE h1 h2 h3 h4 hf hfit
  generalize (pwordF (wat ls 16 0) s).1.1 = x at *
  generalize (pwordF (wat ls 16 0) s).1.2 = y at *
  have HW := Lib.hid fun (w1 : World) (hb : Below w.heap.size w w1) (o : Obj) => (hH.below hb (Nat.le_refl _)).below (C := w1.heap.size) ((Below.refl w1.heap.size w1).alloc (Nat.le_refl _) o) (Nat.le_refl _)
  have HB2 := Lib.hid fun (w1 : World) (hb : Below w.heap.size w w1) (o : Obj) => show Bw ≤ (w1.alloc o).heap.size from Nat.le_trans hB (Nat.le_trans hb.size (by simp))
  clear hH hB hR
  unfold cputV
  go_enter Try.func46, Try.ntmps46
  go_wp2_with (first
    | (go_at_call 67; refine Hw.out.mono ?_; rintro e w1 ⟨rfl, hb1⟩; have Hb1 := Lib.hid hb1; clear hb1)
    | (go_at_call 44; refine (Hput.out _ (HW.out w1 Hb1.out _) (HB2.out w1 Hb1.out _)).mono ?_; rintro e w2 ⟨rfl, v2, hH2, ht2, hs2⟩; have HH2 := Lib.hid hH2; have Ht2 := Lib.hid ht2; have Hs2 := Lib.hid hs2; clear hH2 ht2 hs2))
  go_ret
  refine ⟨rfl, v2, HH2.out, ?_, fun k hk => ?_⟩
  · exact ((touch_below (S := WS gw v) Hb1.out (Nat.le_refl _)).alloc _).trans Ht2.out
  · rcases Hs2.out k hk with e | e
    · exact Or.inl e
    · have := Hb1.out.size
      rw [World.size_alloc] at e
      exact Or.inr (by omega)
end Go.Proofs.Ytpocpckhcciecaa
namespace Go.Proofs.Ytpocpckhcciecaa
set_option linter.unusedSimpArgs false
set_option linter.unusedVariables false
open Go.ChangeShapes Go.WideShapes Go.ChangeAt Go.RowKit Go.Joins Go.Deep
set_option maxRecDepth 100000 in
set_option maxHeartbeats 1000000 in
theorem len64_any (x : Int) (w : World) (h0 : 0 ≤ x) (h1 : x ≤ 4294967295) : Calls Try.prog 83 #[.int .u64 x] w fun e w' => e = .returned (.int .i64 (Lib.bitLen x.toNat)) ∧ w = w' := by
  by_cases a1 : x ≤ 255
  · have a2 : x < 256 := by omega
    have a3 : x < 65536 := by omega
    have a4 : x < 4294967296 := by omega
    go_enter Try.func83, Try.ntmps83
    go_wp2
    go_ret
    refine ⟨congrArg Ending.returned (iv ?_), rfl⟩
    have l := Lib.bitLen_le8' x h0 a1
    rw [Lib.len8_of x h0 a1]
    unfold wrap64
    omega
  · by_cases b1 : x ≤ 65535
    · have a2 : ¬ x < 256 := by omega
      have a3 : x < 65536 := by omega
      have a4 : x < 4294967296 := by omega
      have a5 : 0 ≤ x / 256 := by omega
      have a6 : x / 256 ≤ 255 := by omega
      clear a1
      go_enter Try.func83, Try.ntmps83
      go_wp2
      go_ret
      refine ⟨congrArg Ending.returned (iv ?_), rfl⟩
      have l := Lib.bitLen_le8' (x / 256) a5 a6
      have s := Lib.bitLen_shift8 x.toNat (by omega) (by omega)
      rw [Lib.len8_of (x / 256) a5 a6, s]
      rw [show (x / 256).toNat = x.toNat / 256 from by omega] at l ⊢
      unfold wrap64
      omega
    · by_cases c1 : x ≤ 16777215
      · have a2 : ¬ x < 65536 := by omega
        have a4 : x < 4294967296 := by omega
        have a5 : 0 ≤ x / 65536 := by omega
        have a6 : x / 65536 ≤ 255 := by omega
        have a7 : x / 65536 < 256 := by omega
        clear a1 b1
        go_enter Try.func83, Try.ntmps83
        go_wp2
        go_ret
        refine ⟨congrArg Ending.returned (iv ?_), rfl⟩
        have l := Lib.bitLen_le8' (x / 65536) a5 a6
        have s := Lib.bitLen_shift16 x.toNat (by omega) (by omega)
        rw [Lib.len8_of (x / 65536) a5 a6, s]
        rw [show (x / 65536).toNat = x.toNat / 65536 from by omega] at l ⊢
        unfold wrap64
        omega
      · have a2 : ¬ x < 65536 := by omega
        have a4 : x < 4294967296 := by omega
        have a5 : 0 ≤ x / 65536 / 256 := by omega
        have a6 : x / 65536 / 256 ≤ 255 := by omega
        have a7 : ¬ x / 65536 < 256 := by omega
        clear a1 b1 c1
        go_enter Try.func83, Try.ntmps83
        go_wp2
        go_ret
        refine ⟨congrArg Ending.returned (iv ?_), rfl⟩
        have l := Lib.bitLen_le8' (x / 65536 / 256) a5 a6
        have s := Lib.bitLen_shift24 x.toNat (by omega) (by omega)
        rw [Lib.len8_of (x / 65536 / 256) a5 a6, s]
        rw [show (x / 65536 / 256).toNat = x.toNat / 16777216 from by omega] at l ⊢
        unfold wrap64
        omega
theorem lz8_any (x : Int) (w : World) (h0 : 0 ≤ x) (h1 : x ≤ 255) : Calls Try.prog 76 #[.int .u8 x] w fun e w' => e = .returned (.int .i64 (8 - Lib.bitLen x.toNat)) ∧ w = w' := by
  have hl := Lib.bitLen_le8' x h0 h1
  have he := Lib.len8_of x h0 h1
  have HH : Hid (wrap64 (8 - wrap64 (Lib.len8 x)) = 8 - Lib.bitLen x.toNat) := Lib.hid (by rw [he]; unfold wrap64; omega)
  clear hl he
  go_enter Try.func76, Try.ntmps76
  go_wp2
  go_ret
  exact ⟨congrArg Ending.returned (iv HH.out), rfl⟩
theorem len_any (x : Int) (w : World) (h0 : 0 ≤ x) (h1 : x ≤ 4294967295) : Calls Try.prog 66 #[.int .u64 x] w fun e w' => e = .returned (.int .i64 (Lib.bitLen x.toNat)) ∧ w = w' := by
  go_enter Try.func66, Try.ntmps66
  go_wp2_with (go_at_call 83; refine (len64_any x _ h0 h1).mono ?_; rintro e w1 ⟨rfl, rfl⟩)
  go_ret
  exact ⟨rfl, rfl⟩
theorem wlen_any (B g : Nat) (v : Value) (R : List Nat) (w : World) (hH : WHold w B g v R) (hR : R.length ≤ 1099511627776) :
    Calls Try.prog 39 #[.pointer (some ⟨g, 0, none⟩)] w fun e w' => e = .returned (.int .i64 R.length) ∧ ∃ k, w.drewN k = w' := by
  obtain ⟨A, c, rfl, hc, hr⟩ := owns_cells hH.2.1
  obtain ⟨c1, c2, _, _⟩ := hH.1.two
  have hfr : 8 * ((text R).length : Int) - fr R = R.length := by rw [text_length]; unfold fr; omega
  have htl : ((text R).length : Int) ≤ 1099511627776 := by rw [text_length]; omega
  have h0 : 0 ≤ ((text R).length : Int) := by omega
  have hf0 : 0 ≤ (fr R : Int) := by omega
  have hf8 : (fr R : Int) < 8 := by have := fr_lt R; omega
  have Hfr := Lib.hid hfr
  have hg := hH.1.lt
  clear hfr hH hr hc hR
  generalize (fr R : Int) = f at *
  generalize (text R).length = n at *
  go_enter Try.func39, Try.ntmps39
  go_wp2
  go_quiet (fail)
  go_wp2
  go_ret
  exact ⟨congrArg Ending.returned (iv Hfr.out), _, rfl⟩
end Go.Proofs.Ytpocpckhcciecaa
namespace Go.Proofs.Ytpocpckhcciecaa
set_option linter.unusedSimpArgs false
set_option linter.unusedVariables false
open Go.ChangeShapes Go.WideShapes Go.ChangeAt Go.RowKit Go.Joins Go.Deep
theorem bl_mul (m r : Nat) (h0 : m ≠ 0) (h : m * 2 ^ r < 4294967296) : bl (m * 2 ^ r) = bl m + r := by
  have hp : 0 < 2 ^ r := Nat.pow_pos (by omega)
  have hm : m ≤ m * 2 ^ r := Nat.le_mul_of_pos_right m hp
  obtain ⟨a, b, c⟩ := bl_spec 32 m h0 (by rw [show (2 : Nat) ^ 32 = 4294967296 from by decide]; omega) (by omega)
  have := bl_of (n := m * 2 ^ r) (k := bl m - 1 + r) (by rw [Nat.pow_add]; exact Nat.mul_le_mul_right _ b)
    (by rw [show bl m - 1 + r + 1 = bl m + r from by omega, Nat.pow_add]; exact Nat.mul_lt_mul_of_pos_right c hp) h
  omega
theorem lz_dig (m s : Nat) (l : List Nat) (h0 : m ≠ 0) (h : m < 2 ^ s) (hs : s ≤ 32) : lz (dig s m ++ l) = s - bl m ∧ bl m ≤ s := by
  have h32 : m < 2 ^ 32 := Nat.lt_of_lt_of_le h (Nat.pow_le_pow_right (by omega) hs)
  obtain ⟨a, b, c⟩ := bl_spec 32 m h0 h32 (by omega)
  obtain ⟨k, hk⟩ : ∃ k, bl m = k + 1 := ⟨bl m - 1, by omega⟩
  rw [hk] at b c ⊢
  rw [Nat.add_sub_cancel] at b
  have hks : k + 1 ≤ s := Nat.le_of_not_lt fun hgt => by
    have := Nat.pow_le_pow_right (n := 2) (by omega) (show s ≤ k by omega)
    omega
  refine ⟨?_, hks⟩
  have h1 := dig_add (s - (k + 1)) (k + 1) m
  rw [show s - (k + 1) + (k + 1) = s from by omega, Nat.div_eq_of_lt c, dig_zero, bin_dig_top b c] at h1
  rw [h1, List.append_assoc, lz_zeros, List.cons_append, lz_one]
  rfl
/-- What is left of a row, from a place in a byte on. -/
theorem row_left (l : List UInt8) (k : Nat) (hq : k / 8 < l.length) : (rowOf l).drop k = dig (8 - k % 8) (l[k / 8].toNat % 2 ^ (8 - k % 8)) ++ rowOf (l.drop (k / 8 + 1)) := by
  have h1 : k = 8 * (k / 8) + k % 8 := (Nat.div_add_mod k 8).symm
  rw [show (rowOf l).drop k = ((rowOf l).drop (8 * (k / 8))).drop (k % 8) from by rw [List.drop_drop, ← h1], row_drop, List.drop_eq_getElem_cons hq, row_cons, List.drop_append_of_le_length (by rw [dig_length]; omega)]
  congr 1
  have h2 := dig_add (k % 8) (8 - k % 8) l[k / 8].toNat
  rw [show k % 8 + (8 - k % 8) = 8 from by omega] at h2
  rw [h2, List.drop_left' (dig_length _ _)]
  have h3 := dig_num (dig_bin (8 - k % 8) l[k / 8].toNat)
  rw [dig_length, num_dig] at h3
  exact h3.symm
theorem shl_byte (b r : Nat) (hr : r < 8) : b * 2 ^ r % 256 = b % 2 ^ (8 - r) * 2 ^ r := by
  rw [show 256 = 2 ^ (8 - r) * 2 ^ r from by rw [← Nat.pow_add, show 8 - r + r = 8 from by omega], Nat.mul_mod_mul_right]
theorem left_zero (l : List UInt8) (p k : Nat) (hp : p ≤ k) (hq : k / 8 < l.length) (hz : ((rowOf l).drop p).take (k - p) = List.replicate (k - p) 0) (hb : l[k / 8].toNat * 2 ^ (k % 8) % 256 = 0) :
    ((rowOf l).drop p).take (8 * (k / 8 + 1) - p) = List.replicate (8 * (k / 8 + 1) - p) 0 := by
  have h1 := row_left l k hq
  rw [shl_byte _ _ (by omega)] at hb
  have hp' : 0 < 2 ^ (k % 8) := Nat.pow_pos (by omega)
  have hm : l[k / 8].toNat % 2 ^ (8 - k % 8) = 0 := by
    rcases Nat.mul_eq_zero.1 hb with h | h
    · exact h
    · omega
  rw [hm, dig_zero] at h1
  rw [show 8 * (k / 8 + 1) - p = (k - p) + (8 - k % 8) from by omega, List.take_add, List.drop_drop, show p + (k - p) = k from by omega, hz, h1, List.take_left' (by simp), List.replicate_append_replicate]
theorem left_some (l : List UInt8) (p k : Nat) (hp : p ≤ k) (hq : k / 8 < l.length) (hz : ((rowOf l).drop p).take (k - p) = List.replicate (k - p) 0) (hb : l[k / 8].toNat * 2 ^ (k % 8) % 256 ≠ 0) :
    lz ((rowOf l).drop p) + p = k + (8 - bl (l[k / 8].toNat * 2 ^ (k % 8) % 256)) ∧ bl (l[k / 8].toNat * 2 ^ (k % 8) % 256) ≤ 8 := by
  have h1 := row_left l k hq
  rw [shl_byte _ _ (by omega)] at hb ⊢
  have hm : l[k / 8].toNat % 2 ^ (8 - k % 8) ≠ 0 := fun e => hb (by rw [e, Nat.zero_mul])
  have hlt : l[k / 8].toNat % 2 ^ (8 - k % 8) < 2 ^ (8 - k % 8) := Nat.mod_lt _ (Nat.pow_pos (by omega))
  have hsm : l[k / 8].toNat % 2 ^ (8 - k % 8) * 2 ^ (k % 8) < 256 := by
    have h2 := Nat.mul_lt_mul_of_pos_right hlt (show 0 < 2 ^ (k % 8) from Nat.pow_pos (by omega))
    rw [← Nat.pow_add, show 8 - k % 8 + k % 8 = 8 from by omega] at h2
    exact h2
  have hc := lz_cut ((rowOf l).drop p) (k - p) (by rw [List.length_drop, row_length]; omega) hz
  rw [List.drop_drop, show p + (k - p) = k from by omega, h1] at hc
  have hd := lz_dig _ (8 - k % 8) (rowOf (l.drop (k / 8 + 1))) hm hlt (by omega)
  rw [bl_mul _ _ hm (by omega), hc, hd.1]
  have := hd.2
  omega
set_option maxRecDepth 100000 in
set_option maxHeartbeats 2000000 in
theorem noughts_any (l : List UInt8) (p g : Nat) (w : World) (hl : l.length ≤ 1099511627776) (hp : p ≤ 8 * l.length) (hB : Blk w g 87 #[.string ⟨l.toArray⟩, .int .i64 p]) :
    Calls Try.prog 56 #[.pointer (some ⟨g, 0, none⟩)] w fun e w' => e = .returned (.int .i64 (lz ((rowOf l).drop p))) ∧ ∃ k, w.drewN k = w' := by
  obtain ⟨c1, c2, _, _⟩ := hB.two
  have hll : (l.length : Int) ≤ 1099511627776 := by omega
  have hpl : (p : Int) ≤ 8 * l.length := by omega
  have Hlz : Hid (((rowOf l).drop p).length = 8 * l.length - p) := Lib.hid (by rw [List.length_drop, row_length])
  have hp0 : (0 : Int) ≤ p := by omega
  clear hB hl
  go_enter Try.func56, Try.ntmps56
  go_wp2
  go_loop [4] (fun a => ∃ k : Nat, p ≤ k ∧ k ≤ 8 * l.length ∧ a = .int .i64 k ∧ Hid (((rowOf l).drop p).take (k - p) = List.replicate (k - p) 0)) (fun a => 8 * l.length - (intOf a).toNat)
  case atStart => exact ⟨p, Nat.le_refl _, hp, rfl, Lib.hid (by rw [Nat.sub_self]; rfl)⟩
  case round =>
    obtain ⟨k, hk0, hk, rfl, Hz⟩ := hrel
    by_cases hlt : k < 8 * l.length
    · have hq : k / 8 < l.length := by omega
      have hqi : 0 ≤ (k : Int) / 8 ∧ (k : Int) / 8 < l.length := by omega
      have hki : (k : Int) < 8 * l.length := by omega
      have hkb : (k : Int) ≤ 8796093022208 := by omega
      have Hq := Lib.hid (left_zero l p k hk0 hq Hz.out)
      have Hs := Lib.hid (left_some l p k hk0 hq Hz.out)
      go_wp2
      · have hb : (((ByteArray.mk l.toArray)[k / 8]'(by rw [ByteArray.size_mk', List.size_toArray]; exact hq)).toNat * 2 ^ (k % 8) % 256 != (0 : Int)) = true := by assumption
        rw [ba_get] at hb ⊢
        have eB : ((l[k / 8].toNat : Int) * 2 ^ (k % 8) % 256) = ((l[k / 8].toNat * 2 ^ (k % 8) % 256 : Nat) : Int) := by norm_cast
        have hs := Hs.out
        have hB8 : l[k / 8].toNat * 2 ^ (k % 8) % 256 < 256 := Nat.mod_lt _ (by omega)
        rw [eB] at hb ⊢
        generalize l[k / 8].toNat * 2 ^ (k % 8) % 256 = B at hs hb hB8 ⊢
        have hb0 : B ≠ 0 := by
          rintro rfl
          exact absurd hb (by decide)
        obtain ⟨hs1, hs2⟩ := hs hb0
        have hlz := fun w => lz8_any (B : Int) w (by omega) (by omega)
        have e8 : Lib.bitLen ((B : Int)).toNat = bl B := rfl
        rw [e8] at hlz
        have hw1 : IntKind.i64.wrap ((k : Int) + (8 - (bl B : Int))) = ((k + (8 - bl B) : Nat) : Int) := by rw [IntKind.wrap_i64]; omega
        have hw2 : IntKind.i64.wrap (((k + (8 - bl B) : Nat) : Int) - p) = (lz ((rowOf l).drop p) : Int) := by rw [IntKind.wrap_i64]; omega
        clear hb hB8 hs hs1 hs2 eB e8
        generalize k + (8 - bl B) = K at *
        generalize hZ : lz ((rowOf l).drop p) = Z at *
        have HZ := Lib.hid hZ
        clear hZ
        go_quiet ((go_at_call 76; exact (hlz _).mono fun _ _ ⟨he, hm⟩ => ⟨he, _, hm.symm⟩))
        go_wp2
        go_ret
        exact ⟨by rw [HZ.out]; rfl, _, rfl⟩
      · have hb : (((ByteArray.mk l.toArray)[k / 8]'(by rw [ByteArray.size_mk', List.size_toArray]; exact hq)).toNat * 2 ^ (k % 8) % 256 != (0 : Int)) = false := by assumption
        rw [ba_get] at hb
        have eB : ((l[k / 8].toNat : Int) * 2 ^ (k % 8) % 256) = ((l[k / 8].toNat * 2 ^ (k % 8) % 256 : Nat) : Int) := by norm_cast
        rw [eB] at hb
        have hb0 : l[k / 8].toNat * 2 ^ (k % 8) % 256 = 0 := by
          have := bne_eq_false_iff_eq.1 hb
          omega
        go_round
        case rel => exact ⟨8 * (k / 8 + 1), by omega, by omega, iv (by omega), Lib.hid (Hq.out hb0)⟩
        case measure => simp only [intOf]; omega
    · obtain rfl : k = 8 * l.length := by omega
      have hlz : lz ((rowOf l).drop p) = 8 * l.length - p := by
        have h1 := Hz.out
        rw [List.take_of_length_le (by rw [Hlz.out]; omega)] at h1
        rw [h1]
        have := lz_zeros (8 * l.length - p) []
        rw [List.append_nil] at this
        rw [this]
        rfl
      have Hl2 := Lib.hid hlz
      clear hlz
      go_wp2
      go_ret
      refine ⟨congrArg Ending.returned (iv ?_), 0, rfl⟩
      rw [Hl2.out]
      omega
set_option maxRecDepth 100000 in
set_option maxHeartbeats 1000000 in
theorem rgamma_yes (l : List UInt8) (p g n : Nat) (w : World) (hl : l.length ≤ 1099511627776) (hp : p ≤ 8 * l.length) (hB : RHold w g l p) (k : Nat) (h : ungam ((rowOf l).drop p) = ((n : Int), k, 0)) :
    Calls Try.prog 73 #[.pointer (some ⟨g, 0, none⟩)] w fun e w' => e = .returned (.tuple #[.int .i64 n, .int .i64 0]) ∧ RHold w' g l (p + k) ∧ Touch w w' (fun k => k = g) := by
  have hlen : ((rowOf l).drop p).length = 8 * l.length - p := by rw [List.length_drop, row_length]
  unfold ungam at h
  by_cases a1 : lz ((rowOf l).drop p) = ((rowOf l).drop p).length
  · rw [if_pos a1] at h
    simp at h
  · rw [if_neg a1] at h
    by_cases a2 : 32 ≤ lz ((rowOf l).drop p)
    · rw [if_pos a2] at h
      simp at h
    · rw [if_neg a2] at h
      by_cases a3 : ((rowOf l).drop p).length < 2 * lz ((rowOf l).drop p) + 1
      · rw [if_pos a3] at h
        simp at h
      · rw [if_neg a3] at h
        simp only [Prod.mk.injEq, and_true] at h
        obtain ⟨hn, hk⟩ := h
        rw [List.drop_drop] at hn
        rw [hlen] at a1 a3
        have hnou := fun v hB => noughts_any l p g v hl hp hB
        have hleft := fun v hB => bleft_any l p g v (by omega) hp hB
        generalize lz ((rowOf l).drop p) = z at *
        have hnum := fun v hB => number_any l (p + z) (z + 1) g p v hl (by omega) (by omega) hB
        rw [Int.natCast_inj.1 hn] at hnum
        have b1 : ¬ (z : Int) = ((8 * l.length - p : Nat) : Int) := by omega
        have b2 : (z : Int) < 32 := by omega
        have b3 : ¬ ((8 * l.length - p : Nat) : Int) < 2 * z + 1 := by omega
        have hpl : (p : Int) ≤ 8796093022208 := by omega
        have hM : ((8 * l.length - p : Nat) : Int) ≤ 8796093022208 := by omega
        have e1 : (p : Int) + z = ((p + z : Nat) : Int) := by omega
        have e2 : (z : Int) + 1 = ((z + 1 : Nat) : Int) := by omega
        have Hk := Lib.hid hk
        obtain ⟨c1, c2, z1, z2⟩ := Blk.two hB
        have hg := Blk.lt hB
        have HB := Lib.hid hB
        have Hnum := Lib.hid hnum
        have E := Lib.hid (And.intro e1 e2)
        clear hB hp hl hn hk a1 a2 a3 hlen hnum e1 e2
        generalize 8 * l.length - p = M at *
        go_enter Try.func73, Try.ntmps73
        go_wp2_with (first
          | (go_at_call 54; refine (some_is g _).mono ?_; rintro e w1 ⟨rfl, rfl⟩)
          | (go_at_call 56; refine (hnou _ (HB.out.drewN 0)).mono ?_; rintro e w1 ⟨rfl, k0, rfl⟩)
          | (go_at_call 55; refine (hleft _ (HB.out.drewN _)).mono ?_; rintro e w1 ⟨rfl, k1, rfl⟩)
          | (go_at_call 75; rw [E.out.1, E.out.2]; refine (Hnum.out _ (HB.out.drewN _)).mono ?_; rintro e w1 ⟨rfl, k2, rfl⟩))
        go_ret2
        refine ⟨rfl, ?_, ((Touch.refl w (fun k => k = g)).drewN _).set (p := ⟨g, 1, none⟩) (Or.inl rfl) _⟩
        rw [← Hk.out]
        exact RHold.go (HB.out.drewN _) (2 * z + 1) _ (by omega)
end Go.Proofs.Ytpocpckhcciecaa
namespace Go.Proofs.Ytpocpckhcciecaa
set_option linter.unusedSimpArgs false
set_option linter.unusedVariables false
open Go.ChangeShapes Go.WideShapes Go.ChangeAt Go.RowKit Go.Joins Go.Deep
set_option maxRecDepth 100000 in
set_option maxHeartbeats 1000000 in
theorem done_yes (l : List UInt8) (p g : Nat) (w : World) (hl : l.length ≤ 1099511627776) (hp : p ≤ 8 * l.length) (hB : RHold w g l p) (h8 : 8 * l.length - p < 8) (hz : lz ((rowOf l).drop p) = 8 * l.length - p) :
    Calls Try.prog 31 #[.pointer (some ⟨g, 0, none⟩)] w fun e w' => e = .returned (.bool true) ∧ ∃ k, w.drewN k = w' := by
  have hnou := fun v hB => noughts_any l p g v hl hp hB
  have hleft := fun v hB => bleft_any l p g v (by omega) hp hB
  rw [hz] at hnou
  have h8i : ((8 * l.length - p : Nat) : Int) < 8 := by omega
  have HB := Lib.hid hB
  clear hB hz hp hl h8
  generalize 8 * l.length - p = M at *
  go_enter Try.func31, Try.ntmps31
  go_wp2_with (first
    | (go_at_call 54; refine (some_is g _).mono ?_; rintro e w1 ⟨rfl, rfl⟩)
    | (go_at_call 56; refine (hnou _ (HB.out.drewN _)).mono ?_; rintro e w1 ⟨rfl, k0, rfl⟩)
    | (go_at_call 55; (first | (refine (hleft _ HB.out).mono ?_) | (refine (hleft _ (HB.out.drewN _)).mono ?_)); rintro e w1 ⟨rfl, k1, rfl⟩))
  go_ret
  exact ⟨by simp, _, rfl⟩
end Go.Proofs.Ytpocpckhcciecaa
namespace Go.Proofs.Ytpocpckhcciecaa
set_option linter.unusedSimpArgs false
set_option linter.unusedVariables false
open Go.ChangeShapes Go.WideShapes Go.ChangeAt Go.RowKit Go.Joins Go.Deep
set_option maxRecDepth 100000 in
set_option maxHeartbeats 1000000 in
theorem c_put_yes (ls : List Nat) (B Bw g gw : Nat) (v : Value) (R : List Nat) (s : Int) (w : World) (h : CCode w B g ls) (hl : ls.length ≤ 1000000) (hE : (cwordF (wat ls 16 0) s).2 = 0) (hf : ∀ f ∈ wat ls 16 0, fits f.1 f.2) (hH : WHold w Bw gw v R) (hB : Bw ≤ w.heap.size) (hR : R.length ≤ 1099511627776) :
    Calls Try.prog 22 #[.pointer (some ⟨g, 0, none⟩), .pointer (some ⟨gw, 0, none⟩), .int .i64 s] w fun e w' => e = .returned (.int .i64 0) ∧ ∃ v', WHold w' Bw gw v' (R ++ (cwordF (wat ls 16 0) s).1) ∧ Touch w w' (WS gw v) ∧ Sep w v v' := by
  have hmf : ∀ (fn : Fn) (first cap : Array Value) (w : World), (Instr.makeFunc fn first cap).run Try.prog w = .ok (.func fn first cap) w := fun _ _ _ _ => rfl
  have hy := c_hand_yes ls B Bw g gw v R s w h hl ((pword_ref (wat ls 16 0) s).1.trans hE) hf hH hB hR
  unfold cputV at hy
  have Hy := Lib.hid hy
  clear h hE hf hH hB hR hy
  generalize R ++ (cwordF (wat ls 16 0) s).1 = R2 at *
  go_enter Try.func22, Try.ntmps22
  go_wp2_with (go_at_call 46; refine Hy.out.mono ?_; rintro e w1 ⟨rfl, hp⟩; have Hp := Lib.hid hp; clear hp)
  go_ret
  exact ⟨rfl, Hp.out⟩
set_option maxRecDepth 100000 in
set_option maxHeartbeats 1000000 in
theorem done_any (l : List UInt8) (p g : Nat) (w : World) (hl : l.length ≤ 1099511627776) (hp : p ≤ 8 * l.length) (hB : RHold w g l p) :
    Calls Try.prog 31 #[.pointer (some ⟨g, 0, none⟩)] w fun e w' => e = .returned (.bool (hdone (rowOf l) p)) ∧ ∃ k, w.drewN k = w' := by
  by_cases h8 : 8 * l.length - p < 8
  · by_cases hz : lz ((rowOf l).drop p) = 8 * l.length - p
    · have e : hdone (rowOf l) p = true := by unfold hdone; rw [row_length]; simp [h8, hz]
      rw [e]
      exact done_yes l p g w hl hp hB h8 hz
    · have e : hdone (rowOf l) p = false := by unfold hdone; rw [row_length]; simp [hz]
      rw [e]
      have hnou := fun v hB => noughts_any l p g v hl hp hB
      have hleft := fun v hB => bleft_any l p g v (by omega) hp hB
      have h8i : ((8 * l.length - p : Nat) : Int) < 8 := by omega
      have HB := Lib.hid hB
      clear hB hp hl h8 e
      generalize 8 * l.length - p = M at *
      generalize lz ((rowOf l).drop p) = z at *
      have hb1 : ((z : Int) == (M : Int)) = false := by simp; omega
      have hb2 : ¬ (z : Int) = (M : Int) := by omega
      go_enter Try.func31, Try.ntmps31
      go_wp2_with (first
        | (go_at_call 54; refine (some_is g _).mono ?_; rintro e w1 ⟨rfl, rfl⟩)
        | (go_at_call 56; refine (hnou _ (HB.out.drewN _)).mono ?_; rintro e w1 ⟨rfl, k0, rfl⟩)
        | (go_at_call 55; (first | (refine (hleft _ HB.out).mono ?_) | (refine (hleft _ (HB.out.drewN _)).mono ?_)); rintro e w1 ⟨rfl, k1, rfl⟩))
      go_ret
      exact ⟨by simp [hb2], _, rfl⟩
  · have e : hdone (rowOf l) p = false := by unfold hdone; rw [row_length]; simp; omega
    rw [e]
    have hleft := fun v hB => bleft_any l p g v (by omega) hp hB
    have h8i : ¬ ((8 * l.length - p : Nat) : Int) < 8 := by omega
    have HB := Lib.hid hB
    clear hB hp hl h8 e
    generalize 8 * l.length - p = M at *
    go_enter Try.func31, Try.ntmps31
    go_wp2_with (first
      | (go_at_call 54; refine (some_is g _).mono ?_; rintro e w1 ⟨rfl, rfl⟩)
      | (go_at_call 55; (first | (refine (hleft _ HB.out).mono ?_) | (refine (hleft _ (HB.out.drewN _)).mono ?_)); rintro e w1 ⟨rfl, k1, rfl⟩))
    go_ret
    exact ⟨rfl, _, rfl⟩
end Go.Proofs.Ytpocpckhcciecaa
