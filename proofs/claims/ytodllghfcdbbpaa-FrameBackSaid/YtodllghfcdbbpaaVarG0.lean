/-
  Layer 2: what Get and Unfix of package varint return, for every argument: they leave the world as it was.
-/
import Derived.Test.YtodllghfcdbbpaaVarM
import Derived.Test.YtodllghfcdbbpaaRows
namespace Go.Proofs.Ytodllghfcdbbpaa
set_option linter.unusedSimpArgs false
set_option linter.unusedVariables false
open Go.ChangeShapes Go.WideShapes Go.ChangeAt Go.RowKit Go.Joins Go.Deep
def trip (r : Int × Int × Int) : Value := .tuple #[.int .i64 r.1, .int .i64 r.2.1, .int .i64 r.2.2]
theorem stands_any (l : List UInt8) (p : Int) (w : World) : Calls Try.prog 38 #[.string ⟨l.toArray⟩, .int .i64 p] w fun e w' => e = .returned (.bool (decide (0 ≤ p) && decide (p ≤ l.length))) ∧ w = w' := by
  go_enter Try.func38, Try.ntmps38
  go_wp2
  · rename_i h
    go_ret
    exact ⟨by simp [h], rfl⟩
  · rename_i h
    go_ret
    exact ⟨by simp; omega, rfl⟩
theorem pow256 (k : Nat) : (256 : Nat) ^ k = 2 ^ (8 * k) := by rw [Nat.pow_mul]
theorem or_byte (X b k : Nat) (hX : X < 256 ^ k) (hk : k < 8) (hb : b < 256) :
    (X + 256 ^ k * b < 9223372036854775808 → bits .or .i64 (X : Int) (wrap64 ((b : Int) * 2 ^ (8 * k))) = ((X + 256 ^ k * b : Nat) : Int)) ∧
    (9223372036854775808 ≤ X + 256 ^ k * b → k = 7 ∧ bits .or .i64 (X : Int) (wrap64 ((b : Int) * 2 ^ (8 * k))) < 0) := by
  constructor
  · intro h
    have e : ((X : Int) + (b : Int) * 2 ^ (8 * k)) = ((X + 256 ^ k * b : Nat) : Int) := by
      rw [pow256, Int.natCast_add, Int.natCast_mul, Int.natCast_pow, Int.mul_comm]
      rfl
    have hX' : (X : Int) < 2 ^ (8 * k) := by
      have : ((X : Nat) : Int) < ((2 ^ (8 * k) : Nat) : Int) := by rw [← pow256]; exact Int.ofNat_lt.2 hX
      rwa [Int.natCast_pow] at this
    rw [or_i64 (X : Int) (b : Int) (8 * k) (by omega) hX' (by omega) (by rw [e]; omega), e]
  · intro h
    have hk7 : k = 7 := by
      rcases Nat.lt_or_ge k 7 with hlt | hge
      · exfalso
        have h1 : 256 ^ k * b ≤ 256 ^ k * 255 := Nat.mul_le_mul_left _ (by omega)
        have h2 : 256 ^ k ≤ 256 ^ 6 := Nat.pow_le_pow_right (by omega) (by omega)
        have e6 : (256 : Nat) ^ 6 = 281474976710656 := by decide
        omega
      · omega
    subst hk7
    refine ⟨rfl, ?_⟩
    have e7 : (256 : Nat) ^ 7 = 72057594037927936 := by decide
    have e56 : (2 : Int) ^ (8 * 7) = 72057594037927936 := by decide
    rw [e7] at hX h
    rw [e56]
    have hw : wrap64 ((b : Int) * 72057594037927936) = (b : Int) * 72057594037927936 - 18446744073709551616 := by unfold wrap64; omega
    rw [hw]
    exact or_neg _ _ (by omega) (by omega) (by omega) (by omega)
set_option maxRecDepth 100000 in
theorem unfix_in (l : List UInt8) (p v : Nat) (w : World) (h1 : 1 ≤ v) (h8 : v ≤ 8) (hp : p + v ≤ l.length) (hl : l.length ≤ 4611686018427387904) :
    Calls Try.prog 32 #[.string ⟨l.toArray⟩, .int .i64 p, .int .i64 v] w fun e w' => e = .returned (trip (unfixF l p v)) ∧ w = w' := by
  have hv8 := val8_lt ((l.drop p).take v)
  rw [List.length_take, List.length_drop, Nat.min_eq_left (by omega)] at hv8
  have hv8 := Lib.hid hv8
  have fin : unfixF l p v = if 9223372036854775808 ≤ val8 ((l.drop p).take v) then (0, 0, 5) else ((val8 ((l.drop p).take v) : Int), (p : Int) + v, 0) := by
    unfold unfixF
    rw [if_pos ⟨by omega, by omega, by omega, by omega⟩, if_neg (by omega), Int.toNat_natCast, Int.toNat_natCast]
  rw [fin]
  clear fin
  go_enter Try.func32, Try.ntmps32
  go_wp2_with (refine (stands_any l p w).mono ?_; rintro e w1 ⟨rfl, rfl⟩; rw [show (decide (0 ≤ (p : Int)) && decide ((p : Int) ≤ l.length)) = true from by simp; omega])
  go_loop [6, 29] (fun n i => ∃ (k : Nat) (X : Int), k ≤ v ∧ i = .int .i64 k ∧ n = .int .i64 X ∧ Hid (val8 ((l.drop p).take k) < 9223372036854775808 → X = val8 ((l.drop p).take k)) ∧ Hid (9223372036854775808 ≤ val8 ((l.drop p).take k) → k = 8 ∧ X < 0)) (fun _ i => match i with | .int _ m => 9 - m.toNat | _ => 0)
  case atStart => exact ⟨0, 0, by omega, rfl, rfl, (fun _ => rfl), fun h => absurd h (by simp [val8])⟩
  case round =>
    obtain ⟨k, X, hk, rfl, rfl, hd1, hd2⟩ := hrel
    go_wp2
    · rename_i hkv _
      have hdl : k < (l.drop p).length := by rw [List.length_drop]; omega
      have hge : (l.drop p)[k]'hdl = l[p + k] := List.getElem_drop ..
      rw [ba_get]
      have hb := u8_lt l[p + k]
      have hwb : wrap64 ((l[p + k]).toNat : Int) = ((l[p + k]).toNat : Int) := by unfold wrap64; omega
      rw [hwb]
      have hvl := val8_lt ((l.drop p).take k)
      rw [List.length_take, Nat.min_eq_left (by omega)] at hvl
      have hX : X = val8 ((l.drop p).take k) := by
        rcases Nat.lt_or_ge (val8 ((l.drop p).take k)) 9223372036854775808 with h | h
        · exact hd1.out h
        · have := (hd2.out h).1; omega
      rw [hX]
      obtain ⟨o1, o2⟩ := or_byte _ (l[p + k]).toNat k hvl (by omega) hb
      refine ⟨⟨k + 1, _, by omega, iv (by omega), rfl, ?_, ?_⟩, ?_⟩
      · intro h
        rw [val8_take _ k hdl, hge] at h ⊢
        exact o1 h
      · intro h
        rw [val8_take _ k hdl, hge] at h
        obtain ⟨h7, hneg⟩ := o2 h
        exact ⟨by omega, hneg⟩
      · show 9 - Int.toNat _ < 9 - Int.toNat _
        omega
    all_goals
      obtain rfl : k = v := by omega
      go_ret3
      refine ⟨?_, rfl⟩
      rcases Nat.lt_or_ge (val8 ((l.drop p).take k)) 9223372036854775808 with hlt | hge
      · have hX := hd1.out hlt
        first
        | (exfalso; omega)
        | (refine tv _ _ _ _ _ _ ?_; rw [hX])
      · have hX := (hd2.out hge).2
        first
        | (exfalso; omega)
        | rfl
theorem unfix_any (l : List UInt8) (p v : Int) (w : World) (hl : l.length ≤ 4611686018427387904) :
    Calls Try.prog 32 #[.string ⟨l.toArray⟩, .int .i64 p, .int .i64 v] w fun e w' => e = .returned (trip (unfixF l p v)) ∧ w = w' := by
  by_cases hv : 1 ≤ v
  · by_cases hv8 : v ≤ 8
    · by_cases hp : 0 ≤ p ∧ p ≤ l.length
      · by_cases hs : l.length < p + v
        · have fin : unfixF l p v = (0, 0, 4) := by unfold unfixF; rw [if_pos ⟨hv, hv8, hp.1, hp.2⟩, if_pos hs]
          rw [fin]
          clear fin
          go_enter Try.func32, Try.ntmps32
          go_wp2_with (refine (stands_any l p w).mono ?_; rintro e w1 ⟨rfl, rfl⟩; rw [show (decide (0 ≤ p) && decide (p ≤ l.length)) = true from by simp; omega])
          go_ret3
          exact ⟨rfl, rfl⟩
        · obtain ⟨q, rfl⟩ := Int.eq_ofNat_of_zero_le hp.1
          obtain ⟨u, rfl⟩ := Int.eq_ofNat_of_zero_le (by omega : 0 ≤ v)
          exact unfix_in l q u w (by omega) (by omega) (by omega) hl
      · have fin : unfixF l p v = (0, 0, 2) := by unfold unfixF; rw [if_neg (by omega)]
        rw [fin]
        clear fin
        go_enter Try.func32, Try.ntmps32
        go_wp2_with (refine (stands_any l p w).mono ?_; rintro e w1 ⟨rfl, rfl⟩; rw [show (decide (0 ≤ p) && decide (p ≤ l.length)) = false from by simp; omega])
        go_ret3
        exact ⟨rfl, rfl⟩
    · have fin : unfixF l p v = (0, 0, 2) := by unfold unfixF; rw [if_neg (by omega)]
      rw [fin]
      clear fin
      go_enter Try.func32, Try.ntmps32
      go_wp2
      go_ret3
      exact ⟨rfl, rfl⟩
  · have fin : unfixF l p v = (0, 0, 2) := by unfold unfixF; rw [if_neg (by omega)]
    rw [fin]
    clear fin
    go_enter Try.func32, Try.ntmps32
    go_wp2
    go_ret3
    exact ⟨rfl, rfl⟩
end Go.Proofs.Ytodllghfcdbbpaa
