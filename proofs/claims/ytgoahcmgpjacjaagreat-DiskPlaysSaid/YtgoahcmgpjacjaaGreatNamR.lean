/-
  Layer 18, the document's: Check, six, Segment, unsix (ahead of the code's landing).
-/
import Derived.Test.YtgoahcmgpjacjaaGreatGb
import Derived.Test.YtgoahcmgpjacjaaGreatVarP
import Derived.Outline
namespace Go.Proofs.YtgoahcmgpjacjaaGreat
set_option linter.unusedSimpArgs false
set_option linter.unusedVariables false
open Go.ChangeShapes Go.WideShapes Go.ChangeAt Go.RowKit Go.Joins Go.Deep
theorem nbyte_at (l : List UInt8) (k : Nat) (h : k < l.length) (w : World) : (Instr.index 9 (.string ⟨l.toArray⟩) (.int .i64 (k : Int))).run Tryz.prog w = .ok (.int .u8 (l[k].toNat : Int)) w := by
  simp [Instr.index, run_underlying Tryz.underlying9, asIntOf, go_sem, h]
  rfl
theorem nchk_yes {s : List UInt8} (h1 : 1 ≤ s.length) (h2 : s.length ≤ 64) (h : ∀ j (hj : j < s.length), nchr s[j] = true) : nchkF s = 0 := by
  refine if_pos ⟨h1, h2, List.all_eq_true.2 fun c hc => ?_⟩
  obtain ⟨j, hj, rfl⟩ := List.getElem_of_mem hc
  exact h j hj
theorem nchk_no {s : List UInt8} {j : Nat} (hj : j < s.length) (h : nchr s[j] = false) : nchkF s = 180 := by
  refine if_neg fun hc => ?_
  have := List.all_eq_true.1 hc.2.2 _ (List.getElem_mem hj)
  rw [h] at this
  cases this
set_option maxRecDepth 100000 in
set_option maxHeartbeats 4000000 in
theorem nref_check_any (s : List UInt8) (w : World) (hs : s.length ≤ 1000000) :
    Calls Tryz.prog 54 #[.string ⟨s.toArray⟩] w fun e w' => e = .returned (.int .i64 (nchkF s)) ∧ w' = w := by
  by_cases h0 : s.length = 0
  · rw [show nchkF s = 180 from if_neg (by omega)]
    have h0i : (s.length : Int) = 0 := by omega
    go_enter Tryz.func54, Tryz.ntmps54
    go_wp2
    go_ret
    exact ⟨rfl, rfl⟩
  have h0i : ¬ (s.length : Int) = 0 := by omega
  have h0b : ((s.length : Int) == 0) = false := by simpa using h0
  by_cases h6 : 64 < s.length
  · rw [show nchkF s = 180 from if_neg (by omega)]
    have h6i : (64 : Int) < (s.length : Int) := by omega
    go_enter Tryz.func54, Tryz.ntmps54
    go_wp2
    go_ret
    exact ⟨rfl, rfl⟩
  have h6i : ¬ (64 : Int) < (s.length : Int) := by omega
  have HY := Lib.hid fun h => nchk_yes (s := s) (by omega) (by omega) h
  have HN := Lib.hid fun j hj h => nchk_no (s := s) (j := j) hj h
  have hL : s.length ≤ 64 := by omega
  generalize nchkF s = R at *
  have HB := Lib.hid fun k (h : k < s.length) W => nbyte_at s k h W
  go_enter Tryz.func54, Tryz.ntmps54
  go_wp2
  go_loopw [3] (fun i wr => ∃ k : Nat, k ≤ s.length ∧ i = .int .i64 (k : Int) ∧ Hid (∀ j (hj : j < s.length), j < k → nchr s[j] = true) ∧ wr = w) (fun i _ => s.length - (intOf i).toNat)
  case atStart => exact ⟨0, by omega, rfl, Lib.hid fun j _ h => absurd h (Nat.not_lt_zero _), rfl⟩
  case round =>
    obtain ⟨k, hk, rfl, HK, hw⟩ := hrel
    subst hw
    by_cases hlt : k < s.length
    · have hkl : k < s.length := hlt
      have hby := fun W => HB.out k hkl W
      have hki : (0 : Int) ≤ (k : Int) ∧ (k : Int) < (s.length : Int) := by omega
      have hx := u8_lt s[k]
      have HX : Hid (nchr s[k] = decide ((97 ≤ s[k].toNat ∧ s[k].toNat ≤ 122) ∨ (48 ≤ s[k].toNat ∧ s[k].toNat ≤ 57) ∨ s[k].toNat = 46 ∨ s[k].toNat = 45)) := Lib.hid rfl
      have HK2 : Hid (nchr s[k] = true → ∀ j (hj : j < s.length), j < k + 1 → nchr s[j] = true) := Lib.hid fun h j hj hj2 => by
        by_cases e : j = k
        · subst e
          exact h
        · exact HK.out j hj (by omega)
      have HN2 := Lib.hid fun h => HN.out k hkl h
      clear HN HB
      generalize nchr s[k] = g at *
      obtain ⟨x, hxx⟩ : ∃ x : Int, (s[k].toNat : Int) = x := ⟨_, rfl⟩
      have hcs : (97 ≤ x ∧ x ≤ 122) ∨ (48 ≤ x ∧ x ≤ 57) ∨ x = 46 ∨ x = 45 ∨ (x < 48 ∧ x ≠ 46 ∧ x ≠ 45) ∨ (57 < x ∧ x < 97) ∨ 122 < x := by omega
      generalize s[k].toNat = z at *
      rw [hxx] at hby
      rcases hcs with h | h | h | h | h | h | h
      · have hg : Hid (g = true) := Lib.hid (by rw [HX.out]; exact decide_eq_true (by omega))
        have HK3 := Lib.hid (HK2.out hg.out)
        have f0 : ¬ x < 97 := by omega
        have f1 : ¬ 122 < x := by omega
        clear HX hg HK2 HN2 h
        go_wp2
        go_roundw
        case rel => exact ⟨k + 1, by omega, iv (by omega), HK3, by first | rfl | trivial⟩
        case measure => simp only [intOf]; omega
      · have hg : Hid (g = true) := Lib.hid (by rw [HX.out]; exact decide_eq_true (by omega))
        have HK3 := Lib.hid (HK2.out hg.out)
        have f0 : x < 97 := by omega
        have f1 : ¬ x < 48 := by omega
        have f2 : ¬ 57 < x := by omega
        clear HX hg HK2 HN2 h
        go_wp2
        go_roundw
        case rel => exact ⟨k + 1, by omega, iv (by omega), HK3, by first | rfl | trivial⟩
        case measure => simp only [intOf]; omega
      · have hg : Hid (g = true) := Lib.hid (by rw [HX.out]; exact decide_eq_true (by omega))
        have HK3 := Lib.hid (HK2.out hg.out)
        have f0 : x < 97 := by omega
        have f1 : x < 48 := by omega
        have f2 : x = 46 := by omega
        have e2 : (x != 46) = false := by simpa using f2
        clear HX hg HK2 HN2 h
        go_wp2
        go_roundw
        case rel => exact ⟨k + 1, by omega, iv (by omega), HK3, by first | rfl | trivial⟩
        case measure => simp only [intOf]; omega
      · have hg : Hid (g = true) := Lib.hid (by rw [HX.out]; exact decide_eq_true (by omega))
        have HK3 := Lib.hid (HK2.out hg.out)
        have f0 : x < 97 := by omega
        have f1 : x < 48 := by omega
        have f2 : ¬ x = 46 := by omega
        have f3 : x = 45 := by omega
        have e2 : (x != 46) = true := by simpa using f2
        have e3 : (x != 45) = false := by simpa using f3
        clear HX hg HK2 HN2 h
        go_wp2
        go_roundw
        case rel => exact ⟨k + 1, by omega, iv (by omega), HK3, by first | rfl | trivial⟩
        case measure => simp only [intOf]; omega
      · have hg : Hid (g = false) := Lib.hid (by rw [HX.out]; exact decide_eq_false (by omega))
        have HF := Lib.hid (HN2.out hg.out)
        have f0 : x < 97 := by omega
        have f1 : x < 48 := by omega
        have f2 : ¬ x = 46 := by omega
        have f3 : ¬ x = 45 := by omega
        have e2 : (x != 46) = true := by simpa using f2
        have e3 : (x != 45) = true := by simpa using f3
        clear HX hg HK2 HN2 h
        go_wp2
        go_ret
        exact ⟨by rw [HF.out]; rfl, rfl⟩
      · have hg : Hid (g = false) := Lib.hid (by rw [HX.out]; exact decide_eq_false (by omega))
        have HF := Lib.hid (HN2.out hg.out)
        have f0 : x < 97 := by omega
        have f1 : ¬ x < 48 := by omega
        have f2 : 57 < x := by omega
        have f3 : ¬ x = 46 := by omega
        have f4 : ¬ x = 45 := by omega
        have e3 : (x != 46) = true := by simpa using f3
        have e4 : (x != 45) = true := by simpa using f4
        clear HX hg HK2 HN2 h
        go_wp2
        go_ret
        exact ⟨by rw [HF.out]; rfl, rfl⟩
      · have hg : Hid (g = false) := Lib.hid (by rw [HX.out]; exact decide_eq_false (by omega))
        have HF := Lib.hid (HN2.out hg.out)
        have f0 : ¬ x < 97 := by omega
        have f1 : 122 < x := by omega
        have f2 : ¬ x < 48 := by omega
        have f3 : 57 < x := by omega
        have f4 : ¬ x = 46 := by omega
        have f5 : ¬ x = 45 := by omega
        have e4 : (x != 46) = true := by simpa using f4
        have e5 : (x != 45) = true := by simpa using f5
        clear HX hg HK2 HN2 h
        go_wp2
        go_ret
        exact ⟨by rw [HF.out]; rfl, rfl⟩
    · have hkn : k = s.length := by omega
      subst hkn
      have HF := Lib.hid (HY.out fun j hj => HK.out j hj hj)
      clear HY HN HB HK
      go_wp2
      go_ret
      exact ⟨by rw [HF.out]; rfl, rfl⟩
end Go.Proofs.YtgoahcmgpjacjaaGreat
