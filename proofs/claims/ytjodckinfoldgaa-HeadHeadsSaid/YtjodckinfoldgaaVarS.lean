/-
  Layer 2: what the document's own Get and Unfix return, for every argument.
-/
import Derived.Test.YtjodckinfoldgaaVarG0
namespace Go.Proofs.Ytjodckinfoldgaa
set_option linter.unusedSimpArgs false
set_option linter.unusedVariables false
open Go.ChangeShapes Go.WideShapes Go.ChangeAt Go.RowKit Go.Joins Go.Deep
set_option maxRecDepth 100000 in
set_option maxHeartbeats 1000000 in
theorem refGet_in (l : List UInt8) (p : Nat) (w : World) (hp : p ≤ l.length) (hl : l.length ≤ 4611686018427387904) : Calls Try.prog 44 #[.string ⟨l.toArray⟩, .int .i64 p] w fun e w' => e = .returned (trip (getF l p)) ∧ w = w' := by
  generalize hd : l.drop p = d
  have hdlen : d.length = l.length - p := by rw [← hd, List.length_drop]
  have Hd := Lib.hid hd
  have Hdlen := Lib.hid hdlen
  clear hd hdlen
  go_enter Try.func44, Try.ntmps44
  go_wp2
  go_loop [7] (fun i => ∃ k : Nat, k ≤ 9 ∧ p + k ≤ l.length ∧ i = .int .i64 k ∧ Hid (k ≤ lead d)) (fun i => 9 - (intOf i).toNat)
  case atStart => exact ⟨0, by omega, by omega, rfl, Nat.zero_le _⟩
  case round =>
    obtain ⟨k, hk, hpk, rfl, Hk⟩ := hrel
    by_cases h9 : k < 9
    · by_cases hlt : p + k < l.length
      · have hi : 0 ≤ (p : Int) + k ∧ (p : Int) + k < l.length := by omega
        have hdl : k < d.length := by have := Hdlen.out; omega
        have hge : Hid (d[k]'hdl = l[p + k]) := Lib.hid (by
          have := Hd.out
          subst this
          exact List.getElem_drop ..)
        go_wp2
        · have hb : 128 ≤ (l[p + k]).toNat := by
            have h : 128 ≤ (((ByteArray.mk l.toArray)[p + k]'(by rw [ByteArray.size_mk', List.size_toArray]; exact hlt)).toNat : Int) := by assumption
            rw [ba_get] at h
            omega
          have hmore := lead_more d k Hk.out hdl (by rw [hge.out]; omega)
          go_round
          case rel => exact ⟨k + 1, by omega, by omega, by first | exact iv (by omega) | omega, hmore⟩
          case measure => simp [intOf]; omega
        · have hb : (l[p + k]).toNat < 128 := by
            have h : (((ByteArray.mk l.toArray)[p + k]'(by rw [ByteArray.size_mk', List.size_toArray]; exact hlt)).toNat : Int) < 128 := by assumption
            rw [ba_get] at h
            omega
          have h0 : ((((ByteArray.mk l.toArray)[p + k]'(by rw [ByteArray.size_mk', List.size_toArray]; exact hlt)).toNat : Int) == 0) = true := by assumption
          rw [ba_get] at h0
          have hk0 : 0 < k := by assumption
          have hlead := lead_is d k Hk.out hdl (by rw [hge.out]; omega)
          have h00 : (l[p + k]).toNat = 0 := by have := WalkArith.int_eq h0; omega
          go_ret3
          refine ⟨?_, rfl⟩
          have hd := Hd.out
          have hdlen := Hdlen.out
          subst hd
          rw [getF_zero hp (by omega) (by omega) (by omega) (by simp only [hlead]; exact u8_eq (by simpa using h00))]
          rfl
        all_goals
          have hb : (l[p + k]).toNat < 128 := by
            have h : (((ByteArray.mk l.toArray)[p + k]'(by rw [ByteArray.size_mk', List.size_toArray]; exact hlt)).toNat : Int) < 128 := by assumption
            rw [ba_get] at h
            omega
          have hlead := lead_is d k Hk.out hdl (by rw [hge.out]; exact hb)
          have hdec : lead d = 0 ∨ l[p + k] ≠ 0 := by
            first
            | (left; omega)
            | (right
               have h : ((((ByteArray.mk l.toArray)[p + k]'(by rw [ByteArray.size_mk', List.size_toArray]; exact hlt)).toNat : Int) == 0) = false := by assumption
               rw [ba_get] at h
               have := WalkArith.int_ne h
               intro hz
               rw [hz] at this
               exact this rfl)
          have fin : getF l p = ((val (d.take (k + 1)) : Int), (p : Int) + ((k + 1 : Nat) : Int), 0) := by
            have hd := Hd.out
            have hdlen := Hdlen.out
            subst hd
            rw [getF_ok hp (by omega) (by omega) (by simpa only [hlead] using hdec), hlead]
          have Fin := Lib.hid fin
          clear fin hdec hlead hb
          go_loop [8, 9] (fun x i => ∃ X : Nat, x = .int .i64 X ∧ ((∃ j : Nat, j ≤ k ∧ i = .int .i64 j ∧ Hid (X = val ((d.take (k + 1)).drop (j + 1)))) ∨ (i = .int .i64 (-1) ∧ Hid (X = val (d.take (k + 1)))))) (fun _ i => (intOf i + 1).toNat)
          case atStart => exact ⟨0, rfl, Or.inl ⟨k, by omega, rfl, by rw [List.drop_eq_nil_of_le (by simp; omega)]; rfl⟩⟩
          case round =>
            obtain ⟨X, rfl, ⟨j, hj, rfl, HX⟩ | ⟨rfl, HX⟩⟩ := hrel
            · have hXb : (X : Int) ≤ 72057594037927935 := by
                have h1 := val_lt ((d.take (k + 1)).drop (j + 1))
                rw [← HX.out, List.length_drop, List.length_take] at h1
                have h2 : 128 ^ (min (k + 1) d.length - (j + 1)) ≤ 128 ^ 8 := Nat.pow_le_pow_right (by omega) (by omega)
                rw [show (128 : Nat) ^ 8 = 72057594037927936 from by decide] at h2
                omega
              have hi2 : 0 ≤ (p : Int) + j ∧ (p : Int) + j < l.length := by omega
              have hjl : p + j < l.length := by omega
              have hjd : j < d.length := by omega
              have hge2 : Hid (d[j]'hjd = l[p + j]) := Lib.hid (by
                have := Hd.out
                subst this
                exact List.getElem_drop ..)
              have hnext : Hid (val ((d.take (k + 1)).drop j) = (l[p + j]).toNat % 128 + 128 * X) := Lib.hid (by
                rw [List.drop_eq_getElem_cons (by rw [List.length_take]; omega), val, ← HX.out]
                congr 2
                rw [List.getElem_take, hge2.out])
              go_wp2
              rw [ba_get]
              have hb := u8_lt l[p + j]
              rw [show wrap64 ((l[p + j]).toNat : Int) = ((l[p + j]).toNat : Int) from by unfold wrap64; omega, Int.tmod_eq_emod_of_nonneg (by omega)]
              go_round
              case rel =>
                refine ⟨X * 128 + (l[p + j]).toNat % 128, iv (by unfold wrap64; omega), ?_⟩
                cases j with
                | zero => exact Or.inr ⟨iv (by omega), by have h := hnext.out; rw [List.drop_zero] at h; show _ = _; rw [h]; omega⟩
                | succ j => exact Or.inl ⟨j, by omega, iv (by omega), by have h := hnext.out; show _ = _; rw [h]; omega⟩
              case measure => simp [intOf]
            · go_wp2
              go_ret3
              refine ⟨?_, rfl⟩
              rw [Fin.out]
              refine tv _ _ _ _ _ _ ?_
              rw [HX.out]
              simp only [Prod.mk.injEq, true_and, and_true]
              omega
      · have hshort : lead d = l.length - p := by
          have h1 := lead_le d
          have := Hk.out
          have := Hdlen.out
          omega
        have fin : getF l p = (0, 0, 4) := by
          have hd := Hd.out
          subst hd
          exact getF_short hp (by omega) hshort
        have Fin := Lib.hid fin
        clear fin hshort
        go_wp2
        all_goals
          go_ret3
          refine ⟨?_, rfl⟩
          rw [Fin.out]
          rfl
    · obtain rfl : k = 9 := by omega
      have fin : getF l p = (0, 0, 5) := by
        have hd := Hd.out
        subst hd
        exact getF_form hp Hk.out
      have Fin := Lib.hid fin
      clear fin
      go_wp2
      go_ret3
      refine ⟨?_, rfl⟩
      rw [Fin.out]
      rfl
theorem refGet_any (l : List UInt8) (p : Int) (w : World) (hl : l.length ≤ 4611686018427387904) : Calls Try.prog 44 #[.string ⟨l.toArray⟩, .int .i64 p] w fun e w' => e = .returned (trip (getF l p)) ∧ w = w' := by
  by_cases h0 : 0 ≤ p
  · by_cases hp : p ≤ l.length
    · obtain ⟨q, rfl⟩ := Int.eq_ofNat_of_zero_le h0
      exact refGet_in l q w (by omega) hl
    · have fin : getF l p = (0, 0, 2) := by unfold getF; rw [if_neg (by omega)]
      rw [fin]
      clear fin
      have hp' : l.length < p := by omega
      go_enter Try.func44, Try.ntmps44
      go_wp2
      go_ret3
      exact ⟨rfl, rfl⟩
  · have fin : getF l p = (0, 0, 2) := by unfold getF; rw [if_neg (by omega)]
    rw [fin]
    clear fin
    have hp' : p < 0 := by omega
    clear h0
    go_enter Try.func44, Try.ntmps44
    go_wp2
    go_ret3
    exact ⟨rfl, rfl⟩
end Go.Proofs.Ytjodckinfoldgaa
