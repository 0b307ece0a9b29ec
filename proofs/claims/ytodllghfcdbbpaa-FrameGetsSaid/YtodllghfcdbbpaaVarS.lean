/-
  Layer 2: what the document's own Get and Unfix return, for every argument.
-/
import Derived.Test.YtodllghfcdbbpaaVarG0
namespace Go.Proofs.Ytodllghfcdbbpaa
set_option linter.unusedSimpArgs false
set_option linter.unusedVariables false
open Go.ChangeShapes Go.WideShapes Go.ChangeAt Go.RowKit Go.Joins Go.Deep
theorem refUnfix_bad (l : List UInt8) (p v : Int) (w : World) (h : ¬ (1 ≤ v ∧ v ≤ 8 ∧ 0 ≤ p ∧ p ≤ l.length)) : Calls Try.prog 34 #[.string ⟨l.toArray⟩, .int .i64 p, .int .i64 v] w fun e w' => e = .returned (trip (0, 0, 2)) ∧ w = w' := by
  by_cases h1 : 1 ≤ v
  · by_cases h8 : v ≤ 8
    · by_cases h0 : 0 ≤ p
      · have hp : l.length < p := by omega
        clear h
        go_enter Try.func34, Try.ntmps34
        go_wp2
        go_ret3
        exact ⟨rfl, rfl⟩
      · have hp : p < 0 := by omega
        clear h h0
        go_enter Try.func34, Try.ntmps34
        go_wp2
        go_ret3
        exact ⟨rfl, rfl⟩
    · have h8' : 8 < v := by omega
      clear h h8
      go_enter Try.func34, Try.ntmps34
      go_wp2
      go_ret3
      exact ⟨rfl, rfl⟩
  · have h1' : v < 1 := by omega
    clear h h1
    go_enter Try.func34, Try.ntmps34
    go_wp2
    go_ret3
    exact ⟨rfl, rfl⟩
theorem refUnfix_short (l : List UInt8) (p v : Nat) (w : World) (h1 : 1 ≤ (v : Int)) (h8 : (v : Int) ≤ 8) (hp : (p : Int) ≤ l.length) (hs : (l.length : Int) < p + v) (hl : (l.length : Int) ≤ 4611686018427387904) : Calls Try.prog 34 #[.string ⟨l.toArray⟩, .int .i64 p, .int .i64 v] w fun e w' => e = .returned (trip (0, 0, 4)) ∧ w = w' := by
  go_enter Try.func34, Try.ntmps34
  go_wp2
  go_ret3
  exact ⟨rfl, rfl⟩
theorem val8_top (t : List UInt8) (v : Nat) (hv : t.length = v) (h8 : v ≤ 8) (h1 : 1 ≤ v) : 9223372036854775808 ≤ val8 t ↔ v = 8 ∧ 128 ≤ (t[v - 1]'(by omega)).toNat := by
  have e : t = t.take (v - 1 + 1) := by rw [List.take_of_length_le (by omega)]
  have e2 := val8_take t (v - 1) (by omega)
  rw [← e] at e2
  have hlt := val8_lt (t.take (v - 1))
  rw [List.length_take, Nat.min_eq_left (by omega)] at hlt
  have hb := u8_lt (t[v - 1]'(by omega))
  generalize (t[v - 1]'(by omega)).toNat = b at *
  rcases Nat.lt_or_ge v 8 with h | h
  · constructor
    · intro hx
      exfalso
      have hall := val8_lt t
      rw [hv] at hall
      have : 256 ^ v ≤ 256 ^ 7 := Nat.pow_le_pow_right (by omega) (by omega)
      rw [show (256 : Nat) ^ 7 = 72057594037927936 from by decide] at this
      omega
    · rintro ⟨hx, _⟩
      omega
  · obtain rfl : v = 8 := by omega
    rw [show (256 : Nat) ^ (8 - 1) = 72057594037927936 from by decide] at e2 hlt
    constructor
    · intro hx
      exact ⟨rfl, by omega⟩
    · rintro ⟨_, hx⟩
      omega
theorem val8_drop_le : ∀ (t : List UInt8) (j : Nat), val8 (t.drop j) ≤ val8 t
  | t, 0 => by simp
  | [], j + 1 => by simp
  | b :: t, j + 1 => by
    have := val8_drop_le t j
    simp only [List.drop_succ_cons, val8]
    omega
set_option maxRecDepth 100000 in
set_option maxHeartbeats 1000000 in
theorem refUnfix_in (l : List UInt8) (p v : Nat) (w : World) (h1 : 1 ≤ (v : Int)) (h8 : (v : Int) ≤ 8) (hp : p + v ≤ l.length) (hl : l.length ≤ 4611686018427387904) (r : Int × Int × Int) (hr : (if 9223372036854775808 ≤ val8 ((l.drop p).take v) then ((0, 0, 5) : Int × Int × Int) else ((val8 ((l.drop p).take v) : Int), (p : Int) + v, 0)) = r) :
    Calls Try.prog 34 #[.string ⟨l.toArray⟩, .int .i64 p, .int .i64 v] w fun e w' => e = .returned (trip r) ∧ w = w' := by
  generalize ht : (l.drop p).take v = t at *
  have htl : t.length = v := by rw [← ht, List.length_take, List.length_drop]; omega
  have htg : ∀ j (hj : j < v), t[j]'(by omega) = l[p + j]'(by omega) := by
    intro j hj
    subst ht
    rw [List.getElem_take, List.getElem_drop]
  have htop := val8_top t v htl (by omega) (by omega)
  have hp' : (p : Int) ≤ l.length := by omega
  have hpv : ¬ (l.length : Int) < p + v := by omega
  have Htl := Lib.hid htl
  have Htg := Lib.hid htg
  have Htop := Lib.hid htop
  have Hr := Lib.hid hr
  clear hr htop htg ht
  by_cases hv8 : v = 8
  · subst hv8
    have hi : 0 ≤ (p : Int) + 7 ∧ (p : Int) + 7 < l.length := by omega
    have hi7 : p + 7 < l.length := by omega
    go_enter Try.func34, Try.ntmps34
    go_wp2
    · have hb : 128 ≤ (l[p + 7]).toNat := by
        have h : 128 ≤ (((ByteArray.mk l.toArray)[p + 7]'(by rw [ByteArray.size_mk', List.size_toArray]; exact hi7)).toNat : Int) := by assumption
        rw [ba_get] at h
        omega
      have hbig : 9223372036854775808 ≤ val8 t := by
        have := Htg.out 7 (by omega)
        exact Htop.out.2 ⟨by first | trivial | omega, by rw [← this] at hb; exact hb⟩
      have fin : r = (0, 0, 5) := by rw [← Hr.out, if_pos hbig]
      have Fin := Lib.hid fin
      clear fin hbig
      go_ret3
      exact ⟨by rw [Fin.out]; rfl, rfl⟩
    have hb : (l[p + 7]).toNat < 128 := by
      have h : (((ByteArray.mk l.toArray)[p + 7]'(by rw [ByteArray.size_mk', List.size_toArray]; exact hi7)).toNat : Int) < 128 := by assumption
      rw [ba_get] at h
      omega
    have hsm : val8 t < 9223372036854775808 := by
      rcases Nat.lt_or_ge (val8 t) 9223372036854775808 with h | h
      · exact h
      · exfalso
        have h2 := (Htop.out.1 h).2
        have h3 := Htg.out 7 (by omega)
        rw [← h3] at hb
        have h4 : 128 ≤ (t[7]'(by omega)).toNat := h2
        omega
    clear hb
    have Hsm := Lib.hid hsm
    have fin : r = ((val8 t : Int), (p : Int) + 8, 0) := by first | (rw [← Hr.out, if_neg (by omega)]; done) | (rw [← Hr.out, if_neg (by omega)]; rfl)
    have Fin := Lib.hid fin
    clear fin hsm
    go_loop [9, 10] (fun x i => ∃ X : Nat, x = .int .i64 X ∧ ((∃ j : Nat, j < 8 ∧ i = .int .i64 j ∧ Hid (X = val8 (t.drop (j + 1)))) ∨ (i = .int .i64 (-1) ∧ Hid (X = val8 t)))) (fun _ i => (intOf i + 1).toNat)
    case atStart => exact ⟨0, rfl, Or.inl ⟨8 - 1, by omega, iv (by omega), by show 0 = _; rw [List.drop_eq_nil_of_le (by omega)]; rfl⟩⟩
    case round =>
      obtain ⟨X, rfl, ⟨j, hj, rfl, HX⟩ | ⟨rfl, HX⟩⟩ := hrel
      · have hi2 : 0 ≤ (p : Int) + j ∧ (p : Int) + j < l.length := by omega
        have hjl : p + j < l.length := by omega
        have hjt : j < t.length := by omega
        have hge2 : Hid (t[j]'hjt = l[p + j]) := Lib.hid (Htg.out j hj)
        have hnext : Hid (val8 (t.drop j) = (l[p + j]).toNat + 256 * X) := Lib.hid (by
          rw [List.drop_eq_getElem_cons hjt, val8, ← HX.out, hge2.out])
        have hle := val8_drop_le t j
        rw [hnext.out] at hle
        have hbig : Hid ((l[p + j]).toNat + 256 * X < 9223372036854775808) := Lib.hid (by have := Hsm.out; omega)
        have hXb : (X : Int) ≤ 36028797018963967 := by have := hbig.out; omega
        clear hle
        go_wp2
        rw [ba_get]
        have hb := u8_lt l[p + j]
        have hbig' := hbig.out
        rw [show wrap64 ((l[p + j]).toNat : Int) = ((l[p + j]).toNat : Int) from by unfold wrap64; omega]
        go_round
        case rel =>
          refine ⟨X * 256 + (l[p + j]).toNat, iv (by unfold wrap64; omega), ?_⟩
          cases j with
          | zero => exact Or.inr ⟨iv (by omega), by have h := hnext.out; rw [List.drop_zero] at h; show _ = _; rw [h]; omega⟩
          | succ j => exact Or.inl ⟨j, by omega, iv (by omega), by have h := hnext.out; show _ = _; rw [h]; omega⟩
        case measure => simp [intOf]
      · go_wp2
        go_ret3
        refine ⟨?_, rfl⟩
        rw [Fin.out]
        refine tv _ _ _ _ _ _ ?_
        rw [HX.out]
  · have hv8' : ¬ (v : Int) = 8 := by omega
    have hsm : val8 t < 9223372036854775808 := by
      rcases Nat.lt_or_ge (val8 t) 9223372036854775808 with h | h
      · exact h
      · exact absurd (Htop.out.1 h).1 hv8
    go_enter Try.func34, Try.ntmps34
    go_wp2
    have Hsm := Lib.hid hsm
    have fin : r = ((val8 t : Int), (p : Int) + (v : Int), 0) := by first | (rw [← Hr.out, if_neg (by omega)]; done) | (rw [← Hr.out, if_neg (by omega)]; rfl)
    have Fin := Lib.hid fin
    clear fin hsm
    go_loop [9, 10] (fun x i => ∃ X : Nat, x = .int .i64 X ∧ ((∃ j : Nat, j < v ∧ i = .int .i64 j ∧ Hid (X = val8 (t.drop (j + 1)))) ∨ (i = .int .i64 (-1) ∧ Hid (X = val8 t)))) (fun _ i => (intOf i + 1).toNat)
    case atStart => exact ⟨0, rfl, Or.inl ⟨v - 1, by omega, iv (by omega), by show 0 = _; rw [List.drop_eq_nil_of_le (by omega)]; rfl⟩⟩
    case round =>
      obtain ⟨X, rfl, ⟨j, hj, rfl, HX⟩ | ⟨rfl, HX⟩⟩ := hrel
      · have hi2 : 0 ≤ (p : Int) + j ∧ (p : Int) + j < l.length := by omega
        have hjl : p + j < l.length := by omega
        have hjt : j < t.length := by omega
        have hge2 : Hid (t[j]'hjt = l[p + j]) := Lib.hid (Htg.out j hj)
        have hnext : Hid (val8 (t.drop j) = (l[p + j]).toNat + 256 * X) := Lib.hid (by
          rw [List.drop_eq_getElem_cons hjt, val8, ← HX.out, hge2.out])
        have hle := val8_drop_le t j
        rw [hnext.out] at hle
        have hbig : Hid ((l[p + j]).toNat + 256 * X < 9223372036854775808) := Lib.hid (by have := Hsm.out; omega)
        have hXb : (X : Int) ≤ 36028797018963967 := by have := hbig.out; omega
        clear hle
        go_wp2
        rw [ba_get]
        have hb := u8_lt l[p + j]
        have hbig' := hbig.out
        rw [show wrap64 ((l[p + j]).toNat : Int) = ((l[p + j]).toNat : Int) from by unfold wrap64; omega]
        go_round
        case rel =>
          refine ⟨X * 256 + (l[p + j]).toNat, iv (by unfold wrap64; omega), ?_⟩
          cases j with
          | zero => exact Or.inr ⟨iv (by omega), by have h := hnext.out; rw [List.drop_zero] at h; show _ = _; rw [h]; omega⟩
          | succ j => exact Or.inl ⟨j, by omega, iv (by omega), by have h := hnext.out; show _ = _; rw [h]; omega⟩
        case measure => simp [intOf]
      · go_wp2
        go_ret3
        refine ⟨?_, rfl⟩
        rw [Fin.out]
        refine tv _ _ _ _ _ _ ?_
        rw [HX.out]
theorem refUnfix_any (l : List UInt8) (p v : Int) (w : World) (hl : l.length ≤ 4611686018427387904) :
    Calls Try.prog 34 #[.string ⟨l.toArray⟩, .int .i64 p, .int .i64 v] w fun e w' => e = .returned (trip (unfixF l p v)) ∧ w = w' := by
  by_cases h : 1 ≤ v ∧ v ≤ 8 ∧ 0 ≤ p ∧ p ≤ l.length
  · obtain ⟨q, rfl⟩ := Int.eq_ofNat_of_zero_le h.2.2.1
    obtain ⟨u, rfl⟩ := Int.eq_ofNat_of_zero_le (by omega : 0 ≤ v)
    by_cases hs : (l.length : Int) < q + u
    · have fin : unfixF l q u = (0, 0, 4) := by unfold unfixF; rw [if_pos h, if_pos hs]
      rw [fin]
      exact refUnfix_short l q u w h.1 h.2.1 h.2.2.2 hs (by omega)
    · refine refUnfix_in l q u w h.1 h.2.1 (by omega) hl _ ?_
      unfold unfixF
      rw [if_pos h, if_neg hs, Int.toNat_natCast, Int.toNat_natCast]
  · have fin : unfixF l p v = (0, 0, 2) := by unfold unfixF; rw [if_neg h]
    rw [fin]
    exact refUnfix_bad l p v w h
end Go.Proofs.Ytodllghfcdbbpaa
