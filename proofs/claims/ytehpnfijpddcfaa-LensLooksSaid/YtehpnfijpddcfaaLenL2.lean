/-
  Any numbers are lengths that a code has, or not, and cost, by any counts, what the document says; the layer's probe holds (LensLooks). No condition.
-/
import Derived.Test.YtehpnfijpddcfaaLenAw
import Derived.Test.YtehpnfijpddcfaaFrame
namespace Go.Proofs.Ytehpnfijpddcfaa
set_option linter.unusedSimpArgs false
set_option linter.unusedVariables false
open Go.ChangeShapes Go.WideShapes Go.ChangeAt Go.RowKit Go.Joins Go.Deep
set_option maxHeartbeats 2000000 in
/-- Beyond the sizes that the statement looks at: the probe alone. -/
theorem lensLooks_far0 (A : Option Addr) (n c : Nat) (A2 : Option Addr) (n2 c2 : Nat) (w : World) (h : 300 < n) :
    Calls Try.prog 4 #[.slice A n c, .slice A2 n2 c2] w fun e w' => e = .returned (.bool true) ∧ Below w.heap.size w w' := by
  have h1 : (300 : Int) < n := by omega
  go_enter Try.func4, Try.ntmps4
  go_wp2_with (go_at_call 7; refine (awake8_any _).mono ?_; rintro e w9 ⟨rfl, hb9⟩)
  go_ret
  exact ⟨rfl, hb9⟩
set_option maxHeartbeats 2000000 in
/-- Beyond the sizes that the statement looks at: the probe alone. -/
theorem lensLooks_far1 (A : Option Addr) (n c : Nat) (A2 : Option Addr) (n2 c2 : Nat) (w : World) (h : n ≤ 300) (k : 300 < n2) :
    Calls Try.prog 4 #[.slice A n c, .slice A2 n2 c2] w fun e w' => e = .returned (.bool true) ∧ Below w.heap.size w w' := by
  have h1 : ¬ (300 : Int) < n := by omega
  have h2 : (300 : Int) < n2 := by omega
  go_enter Try.func4, Try.ntmps4
  go_wp2_with (go_at_call 7; refine (awake8_any _).mono ?_; rintro e w9 ⟨rfl, hb9⟩)
  go_ret
  exact ⟨rfl, hb9⟩

theorem partF_used : ∀ l : List Int, usedF l ≤ partF l ∧ partF l ≤ 16384 * usedF l
  | [] => by simp [usedF, partF]
  | x :: t => by
    obtain ⟨h1, h2⟩ := partF_used t
    have e : usedF (x :: t) = (if 0 < x then 1 else 0) + usedF t := by
      unfold usedF
      rw [List.filter_cons]
      by_cases h : 0 < x
      · rw [if_pos (by simpa using h), if_pos h, List.length_cons]; omega
      · rw [if_neg (by simpa using h), if_neg h]; omega
    rw [e]
    show _ ≤ (if 0 < x then 2 ^ (15 - x.toNat) else 0) + partF t ∧ _
    by_cases h : 0 < x
    · rw [if_pos h, if_pos h]
      have h3 : (2 : Nat) ^ (15 - x.toNat) ≤ 2 ^ 14 := Nat.pow_le_pow_right (by omega) (by omega)
      have h4 : 0 < (2 : Nat) ^ (15 - x.toNat) := Nat.pow_pos (by omega)
      constructor
      · omega
      · show (if 0 < x then 2 ^ (15 - x.toNat) else 0) + partF t ≤ _
        rw [if_pos h]
        omega
    · rw [if_neg h, if_neg h]
      constructor
      · omega
      · show (if 0 < x then 2 ^ (15 - x.toNat) else 0) + partF t ≤ _
        rw [if_neg h]
        omega
/-- The program's answer is the document's. -/
theorem pcheck_ref (l : List Int) : pcheckF l = checkF l := by
  unfold pcheckF checkF
  by_cases h : 257 < l.length
  · rw [if_pos h, if_pos h]
  · rw [if_neg h, if_neg h]
    obtain ⟨h1, h2⟩ := partF_used l
    unfold sumF fullF
    by_cases hg : lgood l = true
    · rw [if_pos hg, if_pos hg]
      by_cases u0 : usedF l = 0
      · rw [if_pos u0, if_pos (by omega), if_pos (by omega)]
      · rw [if_neg u0]
        by_cases u1 : usedF l = 1
        · rw [if_pos u1]
          by_cases hp : (partF l : Int) = 16384
          · rw [if_pos hp, if_pos (by omega)]
          · rw [if_neg hp, if_neg (by omega)]
        · rw [if_neg u1]
          by_cases hp : (partF l : Int) = 32768
          · rw [if_pos hp, if_pos (by omega)]
          · rw [if_neg hp, if_neg (by omega)]
    · rw [if_neg hg, if_neg hg, if_neg (by omega)]
set_option maxRecDepth 100000 in
set_option maxHeartbeats 8000000 in
theorem lensLooks_near (A : Option Addr) (n c : Nat) (l : List Int) (A2 : Option Addr) (n2 c2 : Nat) (k : List Int) (w : World) (hr : Reads w w.heap.size 1 A n (ints l)) (hr2 : Reads w w.heap.size 1 A2 n2 (ints k)) (h : n ≤ 300) (h' : n2 ≤ 300) :
    Calls Try.prog 4 #[.slice A n c, .slice A2 n2 c2] w fun e w' => e = .returned (.bool true) ∧ Below w.heap.size w w' := by
  have h1 : ¬ (300 : Int) < n := by omega
  have h2 : ¬ (300 : Int) < n2 := by omega
  have Hc := Lib.hid fun W hr => p_check_any l A n c W (by omega) hr
  have Hrc := Lib.hid fun W hr => lref_check_any l A n c W (by omega) hr
  have Hu := Lib.hid fun W hr => p_used_any l A n c W (by omega) hr
  have Hru := Lib.hid fun W hr => lref_used_any l A n c W (by omega) hr
  have Hk := Lib.hid fun W hr hr2 => p_cost_any k l A2 A n2 n c2 c W (by omega) (by omega) hr2 hr
  have Hrk := Lib.hid fun W hr hr2 => lref_cost_any k l A2 A n2 n c2 c W (by omega) (by omega) hr2 hr
  rw [pcheck_ref] at Hc
  have Hr := Lib.hid hr
  have Hr2 := Lib.hid hr2
  clear hr hr2 h h'
  generalize checkF l = C at *
  generalize (usedF l : Int) = U at *
  generalize costF k l = K at *
  have e1 : (C == C) = true := by simp
  have e2 : (U == U) = true := by simp
  have e3 : (K == K) = true := by simp
  go_enter Try.func4, Try.ntmps4
  go_wp2_with (first
    | (go_at_call 11; refine (Hc.out _ Hr.out).mono ?_; rintro e w1 ⟨rfl, hb1⟩; have Hb := Lib.hid hb1; clear hb1)
    | (go_at_call 12; refine (Hrc.out _ ((Hr.out.below Hb.out).more Hb.out.size)).mono ?_; rintro e w2 ⟨rfl, rfl⟩)
    | (go_at_call 13; refine (Hu.out _ ((Hr.out.below Hb.out).more Hb.out.size)).mono ?_; rintro e w3 ⟨rfl, rfl⟩)
    | (go_at_call 14; refine (Hru.out _ ((Hr.out.below Hb.out).more Hb.out.size)).mono ?_; rintro e w4 ⟨rfl, rfl⟩)
    | (go_at_call 15; refine (Hk.out _ ((Hr.out.below Hb.out).more Hb.out.size) ((Hr2.out.below Hb.out).more Hb.out.size)).mono ?_; rintro e w5 ⟨rfl, hb5⟩; replace Hb := Lib.hid (Hb.out.trans (hb5.mono Hb.out.size)); clear hb5)
    | (go_at_call 16; refine (Hrk.out _ ((Hr.out.below Hb.out).more Hb.out.size) ((Hr2.out.below Hb.out).more Hb.out.size)).mono ?_; rintro e w6 ⟨rfl, hb6⟩; replace Hb := Lib.hid (Hb.out.trans (hb6.mono Hb.out.size)); clear hb6)
    | (go_at_call 7; refine (awake8_any _).mono ?_; rintro e w9 ⟨rfl, hb9⟩; replace Hb := Lib.hid (Hb.out.trans (hb9.mono Hb.out.size)); clear hb9))
  go_ret
  exact ⟨rfl, Hb.out⟩
theorem lensLooks_walk (A : Option Addr) (n c : Nat) (l : List Int) (A2 : Option Addr) (n2 c2 : Nat) (k : List Int) (w : World) (hr : Reads w w.heap.size 1 A n (ints l)) (hr2 : Reads w w.heap.size 1 A2 n2 (ints k)) :
    Calls Try.prog 4 #[.slice A n c, .slice A2 n2 c2] w fun e w' => e = .returned (.bool true) ∧ Below w.heap.size w w' := by
  by_cases h : n ≤ 300
  · by_cases h2 : n2 ≤ 300
    · exact lensLooks_near A n c l A2 n2 c2 k w hr hr2 h h2
    · exact lensLooks_far1 A n c A2 n2 c2 w h (by omega)
  · exact lensLooks_far0 A n c A2 n2 c2 w (by omega)

namespace LensLooks
set_option maxRecDepth 100000 in
theorem lifted (os : Os) (started : os.Started) (H : Type) (enc : TypeId × Value → H) :
    ReturnsInHanded {} Try.checked os 4 .any (Rows.lensLooksSpec.pre6 enc Try.prog Try.f4 Rows.lensLooksRow.domain false) (Rows.lensLooksSpec.post enc Try.prog Try.f4 false true false false) := by
  refine law_sized (C := Try.checked) (tb := 4) ownP started (by kernel_rfl) Try.func4
    (ChangeSpec.witness6 (enc := enc) (C := Try.checked) false ⟨#[], #[.slice none 0 0, .slice none 0 0], []⟩ 8 (by kernel_rfl) (by kernel_rfl) (by kernel_rfl) (by kernel_rfl))
    laidP (by kernel_rfl) rfl (by kernel_rfl) Try.underlying4 (by intro ds h; match ds, h with | [_, _], _ => rfl) ?_
  intro W base args ds p hval0 hA0 hlt _
  have hval : ∀ (j : Nat) t v, Try.f4.params[j]? = some t → args[j]? = some v → Value.okWide Try.prog W .any base t v := hval0
  have hA : DataW.TrodAll enc Try.prog W 0 (fun _ => true) true Try.f4.params.toList args.toList ds p := hA0
  rw [Try.params4] at hA hval
  obtain ⟨v0, v1, d0, d1, p0, p1, rfl, rfl, rfl, h0, h1⟩ := trodAll_two hA
  obtain ⟨Aks, nks, cks, ks, rfl, eks, hnks, hmks, hrks, hbks⟩ := open_nums rfl Try.underlying22 Try.underlying3 (by kernel_rfl) (hval 0 22 v0 rfl rfl) h0
  obtain ⟨Ass, nss, css, ss, rfl, ess, hnss, hmss, hrss, hbss⟩ := open_nums rfl Try.underlying22 Try.underlying3 (by kernel_rfl) (hval 1 22 v1 rfl rfl) h1
  exact lensLooks_walk Aks nks cks ks Ass nss css ss W hrks hrss

theorem holds : Rows.LensLooksSaid :=
  OpenClaim.holds_of_wide 4 Try.f4 rfl rfl rfl rfl rfl rfl rfl ⟨rfl, rfl, rfl, rfl, rfl⟩ rfl rfl rfl rfl rfl (by kernel_rfl) Try.func4 (by kernel_rfl)
    (of_decide_eq_true (by kernel_rfl)) (by unfold Func.isWrapper; first | (rw [if_pos (by decide +kernel)]; kernel_rfl) | (rw [if_neg (by decide +kernel)]; exact ⟨rfl, rfl⟩))
    (fun os started H enc _ => lifted os started H enc)
end LensLooks
end Go.Proofs.Ytehpnfijpddcfaa
