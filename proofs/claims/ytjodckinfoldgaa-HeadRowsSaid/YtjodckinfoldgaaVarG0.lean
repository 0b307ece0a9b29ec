/-
  Layer 2: what Get and Unfix of package varint return, for every argument: they leave the world as it was.
-/
import Derived.Test.YtjodckinfoldgaaVarM
import Derived.Test.YtjodckinfoldgaaRows
namespace Go.Proofs.Ytjodckinfoldgaa
set_option linter.unusedSimpArgs false
set_option linter.unusedVariables false
open Go.ChangeShapes Go.WideShapes Go.ChangeAt Go.RowKit Go.Joins Go.Deep
def trip (r : Int × Int × Int) : Value := .tuple #[.int .i64 r.1, .int .i64 r.2.1, .int .i64 r.2.2]
theorem stands_any (l : List UInt8) (p : Int) (w : World) : Calls Try.prog 52 #[.string ⟨l.toArray⟩, .int .i64 p] w fun e w' => e = .returned (.bool (decide (0 ≤ p) && decide (p ≤ l.length))) ∧ w = w' := by
  go_enter Try.func52, Try.ntmps52
  go_wp2
  · rename_i h
    go_ret
    exact ⟨by simp [h], rfl⟩
  · rename_i h
    go_ret
    exact ⟨by simp; omega, rfl⟩
theorem pow128 (k : Nat) : (128 : Nat) ^ k = 2 ^ (7 * k) := by rw [Nat.pow_mul]
theorem pow256 (k : Nat) : (256 : Nat) ^ k = 2 ^ (8 * k) := by rw [Nat.pow_mul]
theorem or_digit (X b k : Nat) (hX : X < 128 ^ k) (hk : k < 9) : bits .or .i64 (X : Int) (wrap64 ((b : Int) % 128 * 2 ^ (7 * k))) = ((X + 128 ^ k * (b % 128) : Nat) : Int) := by
  have hb : b % 128 < 128 := Nat.mod_lt _ (by omega)
  have h1 : X + 128 ^ k * (b % 128) < 128 ^ (k + 1) := by
    rw [Nat.pow_succ]
    have : 128 ^ k * (b % 128) ≤ 128 ^ k * 127 := Nat.mul_le_mul_left _ (by omega)
    omega
  have h2 : 128 ^ (k + 1) ≤ 128 ^ 9 := Nat.pow_le_pow_right (by omega) (by omega)
  rw [pow9] at h2
  have e : ((X : Int) + (b : Int) % 128 * 2 ^ (7 * k)) = ((X + 128 ^ k * (b % 128) : Nat) : Int) := by
    rw [pow128, Int.natCast_add, Int.natCast_mul, Int.natCast_pow, Int.natCast_emod, Int.mul_comm]
    rfl
  have hX' : (X : Int) < 2 ^ (7 * k) := by
    have : ((X : Nat) : Int) < ((2 ^ (7 * k) : Nat) : Int) := by rw [← pow128]; exact Int.ofNat_lt.2 hX
    rwa [Int.natCast_pow] at this
  rw [or_i64 (X : Int) ((b : Int) % 128) (7 * k) (by omega) hX' (by omega) (by rw [e]; omega), e]
section
variable {l : List UInt8} {p : Nat} (hp : p ≤ l.length)
include hp
theorem getF_err {e : Int} (he : e ≠ 0) (h : getR (l.drop p) = (0, 0, e)) : getF l p = (0, 0, e) := by
  unfold getF
  rw [if_pos ⟨by omega, by omega⟩, Int.toNat_natCast, h, if_neg he]
theorem getF_form (h : 9 ≤ lead (l.drop p)) : getF l p = (0, 0, 5) := getF_err hp (by decide) (by unfold getR; rw [if_pos h])
theorem getF_short (h : lead (l.drop p) < 9) (h2 : lead (l.drop p) = l.length - p) : getF l p = (0, 0, 4) := getF_err hp (by decide) (by unfold getR; rw [if_neg (by omega), if_pos (by rw [List.length_drop]; exact h2)])
theorem getF_zero (h : lead (l.drop p) < 9) (h2 : lead (l.drop p) < l.length - p) (h3 : 0 < lead (l.drop p)) (h4 : l[p + lead (l.drop p)]'(by omega) = 0) : getF l p = (0, 0, 5) := getF_err hp (by decide) (by
  have hz : (l.drop p).getD (lead (l.drop p)) 0 = 0 := by
    rw [List.getD_eq_getElem?_getD, List.getElem?_drop, List.getElem?_eq_getElem (by omega), h4]
    rfl
  unfold getR
  rw [if_neg (by omega), if_neg (by rw [List.length_drop]; omega), if_pos ⟨h3, hz⟩])
theorem getF_ok (h : lead (l.drop p) < 9) (h2 : lead (l.drop p) < l.length - p) (h4 : lead (l.drop p) = 0 ∨ l[p + lead (l.drop p)]'(by omega) ≠ 0) : getF l p = ((val ((l.drop p).take (lead (l.drop p) + 1)) : Int), (p : Int) + ((lead (l.drop p) + 1 : Nat) : Int), 0) := by
  have e : getR (l.drop p) = ((val ((l.drop p).take (lead (l.drop p) + 1)) : Int), lead (l.drop p) + 1, 0) := by
    unfold getR
    rw [if_neg (by omega), if_neg (by rw [List.length_drop]; omega), if_neg ?_]
    rintro ⟨h5, h6⟩
    rw [List.getD_eq_getElem?_getD, List.getElem?_drop, List.getElem?_eq_getElem (by omega)] at h6
    rcases h4 with h4 | h4
    · omega
    · exact h4 h6
  unfold getF
  rw [if_pos ⟨by omega, by omega⟩, Int.toNat_natCast, e]
  simp
end
set_option maxRecDepth 100000 in
theorem get_in (l : List UInt8) (p : Nat) (w : World) (hp : p ≤ l.length) (hl : l.length ≤ 4611686018427387904) : Calls Try.prog 49 #[.string ⟨l.toArray⟩, .int .i64 p] w fun e w' => e = .returned (trip (getF l p)) ∧ w = w' := by
  go_enter Try.func49, Try.ntmps49
  go_wp2
  go_step3
  go_wp2_with (refine (stands_any l p w).mono ?_; rintro e w1 ⟨rfl, rfl⟩; rw [show (decide (0 ≤ (p : Int)) && decide ((p : Int) ≤ l.length)) = true from by simp; omega])
  go_step3
  go_wp2
  go_loop [4, 13] (fun n i => ∃ (k X : Nat), k ≤ 9 ∧ p + k ≤ l.length ∧ i = .int .i64 k ∧ n = .int .i64 X ∧ Hid (k ≤ lead (l.drop p) ∧ X = val ((l.drop p).take k))) (fun _ i => match i with | .int _ m => 9 - m.toNat | _ => 0)
  case atStart => exact ⟨0, 0, by omega, by omega, rfl, rfl, ⟨by omega, by simp [val]⟩⟩
  case round =>
    obtain ⟨k, X, hk, hpk, rfl, rfl, hd⟩ := hrel
    go_wp2
    · rename_i hx _
      have hx : p + k = l.length := by have := WalkArith.int_eq hx; omega
      have hle := lead_le (l.drop p)
      rw [List.length_drop] at hle
      try rw [Exit.noGoto_ret]
      go_ret3
      refine ⟨?_, rfl⟩
      rw [getF_short hp (by have := hd.out.1; omega) (by have := hd.out.1; omega)]
      rfl
    · -- a byte that goes on
      rename_i hx hin _ _ hb
      have hlt : p + k < l.length := by omega
      rw [ba_get] at hb ⊢
      have hb' : 128 ≤ (l[p + k]).toNat := by omega
      obtain ⟨hd1, hd2⟩ := hd.out
      have hdl : k < (l.drop p).length := by rw [List.length_drop]; omega
      have hge : (l.drop p)[k]'hdl = l[p + k] := List.getElem_drop ..
      have hmore := lead_more (l.drop p) k hd1 hdl (by rw [hge]; exact hb')
      have hXlt : X < 128 ^ k := by
        rw [hd2]
        have := val_lt ((l.drop p).take k)
        rwa [List.length_take, Nat.min_eq_left (by omega)] at this
      rw [or_digit X _ k hXlt (by omega)]
      refine ⟨⟨k + 1, X + 128 ^ k * ((l[p + k]).toNat % 128), by omega, by omega, iv (by omega), rfl, hmore, ?_⟩, ?_⟩
      · rw [val_take _ k hdl, hge, ← hd2]
      · show 9 - Int.toNat _ < 9 - Int.toNat _
        omega
    · -- a last byte of 0 that is not the only one
      rename_i hb0 hk0
      have hlt : p + k < l.length := by omega
      rw [ba_get] at hb0
      obtain ⟨hd1, hd2⟩ := hd.out
      have hdl : k < (l.drop p).length := by rw [List.length_drop]; omega
      have hge : (l.drop p)[k]'hdl = l[p + k] := List.getElem_drop ..
      have hlead := lead_is (l.drop p) k hd1 hdl (by rw [hge]; omega)
      rw [Exit.noGoto_ret]
      go_ret3
      refine ⟨?_, rfl⟩
      rw [getF_zero hp (by omega) (by omega) (by omega) (by simp only [hlead]; exact u8_eq (by simpa using hb0))]
      rfl
    · -- a 0 that is the only byte
      rename_i hb0 hk0
      have hlt : p + k < l.length := by omega
      rw [ba_get] at hb0
      obtain ⟨hd1, hd2⟩ := hd.out
      have hk0' : k = 0 := by omega
      subst hk0'
      have hdl : 0 < (l.drop p).length := by rw [List.length_drop]; omega
      have hge : (l.drop p)[0]'hdl = l[p + 0] := List.getElem_drop ..
      have hlead := lead_is (l.drop p) 0 hd1 hdl (by rw [hge]; omega)
      rw [Exit.noGoto_ret]
      go_ret3
      refine ⟨?_, rfl⟩
      rw [getF_ok hp (by omega) (by omega) (Or.inl hlead), hlead, val_take _ 0 hdl, hge, hb0]
      simp at hd2
      subst hd2
      refine tv _ _ _ _ _ _ ?_
      have h00 := or_digit 0 0 0 (by decide) (by decide)
      simp [val] at h00 ⊢
      exact h00
    · rename_i hb hb0
      have hlt : p + k < l.length := by omega
      rw [ba_get] at hb hb0
      rw [ba_get]
      obtain ⟨hd1, hd2⟩ := hd.out
      have hdl : k < (l.drop p).length := by rw [List.length_drop]; omega
      have hge : (l.drop p)[k]'hdl = l[p + k] := List.getElem_drop ..
      have hlead := lead_is (l.drop p) k hd1 hdl (by rw [hge]; omega)
      have hXlt : X < 128 ^ k := by
        rw [hd2]
        have := val_lt ((l.drop p).take k)
        rwa [List.length_take, Nat.min_eq_left (by omega)] at this
      rw [or_digit X _ k hXlt (by omega)]
      rw [Exit.noGoto_ret]
      go_ret3
      refine ⟨?_, rfl⟩
      rw [getF_ok hp (by omega) (by omega) (Or.inr (by simp only [hlead]; exact fun h => hb0 (by rw [h]; rfl))), hlead, val_take _ k hdl, hge, ← hd2]
      refine tv _ _ _ _ _ _ ?_
      simp only [Prod.mk.injEq, true_and, and_true]
      omega
    · exfalso
      have := WalkArith.int_ne (by assumption : ((p : Int) + (k : Int) == (l.length : Int)) = false)
      omega
    · rename_i hx
      go_ret3
      refine ⟨?_, rfl⟩
      rw [getF_form hp (by have := hd.out.1; omega)]
      rfl
theorem get_any (l : List UInt8) (p : Int) (w : World) (hl : l.length ≤ 4611686018427387904) : Calls Try.prog 49 #[.string ⟨l.toArray⟩, .int .i64 p] w fun e w' => e = .returned (trip (getF l p)) ∧ w = w' := by
  by_cases hp : 0 ≤ p ∧ p ≤ l.length
  · obtain ⟨q, rfl⟩ := Int.eq_ofNat_of_zero_le hp.1
    exact get_in l q w (by omega) hl
  · have fin : getF l p = (0, 0, 2) := by unfold getF; rw [if_neg hp]
    rw [fin]
    clear fin
    go_enter Try.func49, Try.ntmps49
    go_wp2
    go_step3
    go_wp2_with (refine (stands_any l p w).mono ?_; rintro e w1 ⟨rfl, rfl⟩; rw [show (decide (0 ≤ p) && decide (p ≤ l.length)) = false from by simp; omega])
    rw [Exit.noGoto_ret]
    go_ret3
    exact ⟨rfl, rfl⟩
theorem or_byte (X b k : Nat) (hX : X < 256 ^ k) (hk : k < 8) (hb : b < 256) :
    (X + 256 ^ k * b < 9223372036854775808 → bits .or .i64 (X : Int) (wrap64 ((b : Int) * 2 ^ (8 * k))) = ((X + 256 ^ k * b : Nat) : Int)) ∧
    (9223372036854775808 ≤ X + 256 ^ k * b → k = 7 ∧ bits .or .i64 (X : Int) (wrap64 ((b : Int) * 2 ^ (8 * k))) < 0) := by
  constructor
  · intro h
    have e : ((X : Int) + (b : Int) * 2 ^ (8 * k)) = ((X + 256 ^ k * b : Nat) : Int) := by
      rw [pow256, Int.natCast_add, Int.natCast_mul, Int.natCast_pow, Int.mul_comm]
      rfl
    have hX' : (X : Int) < 2 ^ (8 * k) := by
      have : ((X : Nat) : Int) < ((2 ^ (8 * k) : Nat) : Int) := by rw [← pow256]; exact Int.ofNat_lt.2 hX
      rwa [Int.natCast_pow] at this
    rw [or_i64 (X : Int) (b : Int) (8 * k) (by omega) hX' (by omega) (by rw [e]; omega), e]
  · intro h
    have hk7 : k = 7 := by
      rcases Nat.lt_or_ge k 7 with hlt | hge
      · exfalso
        have h1 : 256 ^ k * b ≤ 256 ^ k * 255 := Nat.mul_le_mul_left _ (by omega)
        have h2 : 256 ^ k ≤ 256 ^ 6 := Nat.pow_le_pow_right (by omega) (by omega)
        have e6 : (256 : Nat) ^ 6 = 281474976710656 := by decide
        omega
      · omega
    subst hk7
    refine ⟨rfl, ?_⟩
    have e7 : (256 : Nat) ^ 7 = 72057594037927936 := by decide
    have e56 : (2 : Int) ^ (8 * 7) = 72057594037927936 := by decide
    rw [e7] at hX h
    rw [e56]
    have hw : wrap64 ((b : Int) * 72057594037927936) = (b : Int) * 72057594037927936 - 18446744073709551616 := by unfold wrap64; omega
    rw [hw]
    exact or_neg _ _ (by omega) (by omega) (by omega) (by omega)
set_option maxRecDepth 100000 in
theorem unfix_in (l : List UInt8) (p v : Nat) (w : World) (h1 : 1 ≤ v) (h8 : v ≤ 8) (hp : p + v ≤ l.length) (hl : l.length ≤ 4611686018427387904) :
    Calls Try.prog 48 #[.string ⟨l.toArray⟩, .int .i64 p, .int .i64 v] w fun e w' => e = .returned (trip (unfixF l p v)) ∧ w = w' := by
  have hv8 := val8_lt ((l.drop p).take v)
  rw [List.length_take, List.length_drop, Nat.min_eq_left (by omega)] at hv8
  have hv8 := Lib.hid hv8
  have fin : unfixF l p v = if 9223372036854775808 ≤ val8 ((l.drop p).take v) then (0, 0, 5) else ((val8 ((l.drop p).take v) : Int), (p : Int) + v, 0) := by
    unfold unfixF
    rw [if_pos ⟨by omega, by omega, by omega, by omega⟩, if_neg (by omega), Int.toNat_natCast, Int.toNat_natCast]
  rw [fin]
  clear fin
  go_enter Try.func48, Try.ntmps48
  go_wp2_with (refine (stands_any l p w).mono ?_; rintro e w1 ⟨rfl, rfl⟩; rw [show (decide (0 ≤ (p : Int)) && decide ((p : Int) ≤ l.length)) = true from by simp; omega])
  go_loop [6, 29] (fun n i => ∃ (k : Nat) (X : Int), k ≤ v ∧ i = .int .i64 k ∧ n = .int .i64 X ∧ Hid (val8 ((l.drop p).take k) < 9223372036854775808 → X = val8 ((l.drop p).take k)) ∧ Hid (9223372036854775808 ≤ val8 ((l.drop p).take k) → k = 8 ∧ X < 0)) (fun _ i => match i with | .int _ m => 9 - m.toNat | _ => 0)
  case atStart => exact ⟨0, 0, by omega, rfl, rfl, (fun _ => rfl), fun h => absurd h (by simp [val8])⟩
  case round =>
    obtain ⟨k, X, hk, rfl, rfl, hd1, hd2⟩ := hrel
    go_wp2
    · rename_i hkv _
      have hdl : k < (l.drop p).length := by rw [List.length_drop]; omega
      have hge : (l.drop p)[k]'hdl = l[p + k] := List.getElem_drop ..
      rw [ba_get]
      have hb := u8_lt l[p + k]
      have hwb : wrap64 ((l[p + k]).toNat : Int) = ((l[p + k]).toNat : Int) := by unfold wrap64; omega
      rw [hwb]
      have hvl := val8_lt ((l.drop p).take k)
      rw [List.length_take, Nat.min_eq_left (by omega)] at hvl
      have hX : X = val8 ((l.drop p).take k) := by
        rcases Nat.lt_or_ge (val8 ((l.drop p).take k)) 9223372036854775808 with h | h
        · exact hd1.out h
        · have := (hd2.out h).1; omega
      rw [hX]
      obtain ⟨o1, o2⟩ := or_byte _ (l[p + k]).toNat k hvl (by omega) hb
      refine ⟨⟨k + 1, _, by omega, iv (by omega), rfl, ?_, ?_⟩, ?_⟩
      · intro h
        rw [val8_take _ k hdl, hge] at h ⊢
        exact o1 h
      · intro h
        rw [val8_take _ k hdl, hge] at h
        obtain ⟨h7, hneg⟩ := o2 h
        exact ⟨by omega, hneg⟩
      · show 9 - Int.toNat _ < 9 - Int.toNat _
        omega
    all_goals
      obtain rfl : k = v := by omega
      go_ret3
      refine ⟨?_, rfl⟩
      rcases Nat.lt_or_ge (val8 ((l.drop p).take k)) 9223372036854775808 with hlt | hge
      · have hX := hd1.out hlt
        first
        | (exfalso; omega)
        | (refine tv _ _ _ _ _ _ ?_; rw [hX])
      · have hX := (hd2.out hge).2
        first
        | (exfalso; omega)
        | rfl
theorem unfix_any (l : List UInt8) (p v : Int) (w : World) (hl : l.length ≤ 4611686018427387904) :
    Calls Try.prog 48 #[.string ⟨l.toArray⟩, .int .i64 p, .int .i64 v] w fun e w' => e = .returned (trip (unfixF l p v)) ∧ w = w' := by
  by_cases hv : 1 ≤ v
  · by_cases hv8 : v ≤ 8
    · by_cases hp : 0 ≤ p ∧ p ≤ l.length
      · by_cases hs : l.length < p + v
        · have fin : unfixF l p v = (0, 0, 4) := by unfold unfixF; rw [if_pos ⟨hv, hv8, hp.1, hp.2⟩, if_pos hs]
          rw [fin]
          clear fin
          go_enter Try.func48, Try.ntmps48
          go_wp2_with (refine (stands_any l p w).mono ?_; rintro e w1 ⟨rfl, rfl⟩; rw [show (decide (0 ≤ p) && decide (p ≤ l.length)) = true from by simp; omega])
          go_ret3
          exact ⟨rfl, rfl⟩
        · obtain ⟨q, rfl⟩ := Int.eq_ofNat_of_zero_le hp.1
          obtain ⟨u, rfl⟩ := Int.eq_ofNat_of_zero_le (by omega : 0 ≤ v)
          exact unfix_in l q u w (by omega) (by omega) (by omega) hl
      · have fin : unfixF l p v = (0, 0, 2) := by unfold unfixF; rw [if_neg (by omega)]
        rw [fin]
        clear fin
        go_enter Try.func48, Try.ntmps48
        go_wp2_with (refine (stands_any l p w).mono ?_; rintro e w1 ⟨rfl, rfl⟩; rw [show (decide (0 ≤ p) && decide (p ≤ l.length)) = false from by simp; omega])
        go_ret3
        exact ⟨rfl, rfl⟩
    · have fin : unfixF l p v = (0, 0, 2) := by unfold unfixF; rw [if_neg (by omega)]
      rw [fin]
      clear fin
      go_enter Try.func48, Try.ntmps48
      go_wp2
      go_ret3
      exact ⟨rfl, rfl⟩
  · have fin : unfixF l p v = (0, 0, 2) := by unfold unfixF; rw [if_neg (by omega)]
    rw [fin]
    clear fin
    go_enter Try.func48, Try.ntmps48
    go_wp2
    go_ret3
    exact ⟨rfl, rfl⟩
end Go.Proofs.Ytjodckinfoldgaa
