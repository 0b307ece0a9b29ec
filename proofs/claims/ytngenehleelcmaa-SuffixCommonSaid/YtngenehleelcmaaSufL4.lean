/-
  What an end has in common with the one ahead, it has, and no more; the layer's probe holds (SuffixCommon). No condition.
-/
import Derived.Test.YtngenehleelcmaaSufAw
import Derived.Test.YtngenehleelcmaaSufO
import Derived.Test.YtngenehleelcmaaFrame
namespace Go.Proofs.Ytngenehleelcmaa
set_option linter.unusedSimpArgs false
set_option linter.unusedVariables false
open Go.ChangeShapes Go.WideShapes Go.ChangeAt Go.RowKit Go.Joins Go.Deep
set_option maxHeartbeats 2000000 in
/-- Beyond the sizes that the statement looks at: the probe alone. -/
theorem suffixCommon_far0 (s : List UInt8) (w : World) (h : 2000 < s.length) :
    Calls Try.prog 6 #[.string ⟨s.toArray⟩] w fun e w' => e = .returned (.bool true) ∧ Below w.heap.size w w' := by
  have h1 : (2000 : Int) < s.length := by omega
  go_enter Try.func6, Try.ntmps6
  go_wp2_with (go_at_call 8; refine (awake12_any _).mono ?_; rintro e w9 ⟨rfl, hb9⟩)
  go_ret
  exact ⟨rfl, hb9⟩
theorem scomm_head (l : List UInt8) (p : Nat) (hp : p ≤ l.length) (w : World) :
    (Instr.slice 9 (.string ⟨l.toArray⟩) none (some (.int .i64 (p : Int))) none).run Try.prog w = .ok (.string ⟨(l.take p).toArray⟩) w := by
  rw [run_slice_string_h w 9 ⟨l.toArray⟩ Try.underlying9 .i64 (p : Int) (by omega) (by rw [ByteArray.size_mk', List.size_toArray]; omega), ByteArray.extract_mk, List.drop_zero, Nat.sub_zero, Int.toNat_natCast]
theorem scmL_get (s : List UInt8) (a : List Int) (n k : Nat) (h : k < (scmL s a n).length) : (scmL s a n)[k] = scm s a k := by simp [scmL]
/-- What the walk of a round asks of the two ends and of what they have in common. -/
theorem scomm_at (s : List UInt8) (h : s.length ≤ 2000) (j : Nat) (hj : j + 1 < s.length + 1) :
    ∃ (p q m : Nat) (X Y T : List UInt8) (h1 : j < (splc (sarr s)).length) (h2 : j + 1 < (splc (sarr s)).length) (h3 : j + 1 < (scmL s (splc (sarr s)) (s.length + 1)).length),
      (splc (sarr s))[j] = (q : Int) ∧ (splc (sarr s))[j + 1] = (p : Int) ∧ (scmL s (splc (sarr s)) (s.length + 1))[j + 1] = (m : Int) ∧ q ≤ s.length ∧ p ≤ s.length ∧
      (∀ w, (Instr.slice 9 (.string ⟨s.toArray⟩) (some (.int .i64 (q : Int))) none none).run Try.prog w = .ok (.string ⟨X.toArray⟩) w) ∧
      (∀ w, (Instr.slice 9 (.string ⟨s.toArray⟩) (some (.int .i64 (p : Int))) none none).run Try.prog w = .ok (.string ⟨Y.toArray⟩) w) ∧
      m ≤ X.length ∧ m ≤ Y.length ∧
      (∀ w, (Instr.slice 9 (.string ⟨X.toArray⟩) none (some (.int .i64 (m : Int))) none).run Try.prog w = .ok (.string ⟨T.toArray⟩) w) ∧
      (∀ w, (Instr.slice 9 (.string ⟨Y.toArray⟩) none (some (.int .i64 (m : Int))) none).run Try.prog w = .ok (.string ⟨T.toArray⟩) w) ∧
      (∀ (h4 : m < X.length) (h5 : m < Y.length), X[m] ≠ Y[m]) ∧ X.length ≤ 2000 ∧ Y.length ≤ 2000 := by
  have hl : (sarr s).length = s.length + 1 := sarr_len s
  have hn : (splc (sarr s)).length = s.length + 1 := by rw [splc_len, hl]
  have e1 : (splc (sarr s))[j]'(by omega) = (((sarr s)[j]'(by omega) : Nat) : Int) := splc_get _ _ _
  have e2 : (splc (sarr s))[j + 1]'(by omega) = (((sarr s)[j + 1]'(by omega) : Nat) : Int) := splc_get _ _ _
  have l1 := sarr_le s j (by omega)
  have l2 := sarr_le s (j + 1) (by omega)
  have e3 := scm_at (s := s) j _ _ (by omega) e2 e1
  obtain ⟨X, hX⟩ : ∃ X, X = s.drop ((sarr s)[j]'(by omega)) := ⟨_, rfl⟩
  obtain ⟨Y, hY⟩ : ∃ Y, Y = s.drop ((sarr s)[j + 1]'(by omega)) := ⟨_, rfl⟩
  rw [← hX, ← hY, alike_comm] at e3
  have a1 := alike_le X Y
  have a2 := alike_take X Y
  refine ⟨(sarr s)[j + 1]'(by omega), (sarr s)[j]'(by omega), alike X Y, X, Y, X.take (alike X Y), by omega, by omega, by rw [scmL_len]; omega, e1, e2, ?_, l1, l2, fun w => ?_, fun w => ?_, a1.1, a1.2, scomm_head _ _ a1.1, fun w => ?_, alike_end X Y, ?_, ?_⟩
  · rw [scmL_get]
    exact e3
  · rw [hX]
    exact str_from s _ l1 w
  · rw [hY]
    exact str_from s _ l2 w
  · rw [a2]
    exact scomm_head _ _ a1.2 w
  · rw [hX, List.length_drop]
    omega
  · rw [hY, List.length_drop]
    omega

set_option maxRecDepth 100000 in
set_option maxHeartbeats 16000000 in
theorem suffixCommon_near (s : List UInt8) (w : World) (h : s.length ≤ 2000) :
    Calls Try.prog 6 #[.string ⟨s.toArray⟩] w fun e w' => e = .returned (.bool true) ∧ Below w.heap.size w w' := by
  have h1 : ¬ (2000 : Int) < s.length := by omega
  have hp := p_sarray_any s w (by omega)
  rw [saF_yes (by omega)] at hp
  unfold LPost at hp
  dsimp only at hp
  have hn : (splc (sarr s)).length = s.length + 1 := by rw [splc_len, sarr_len]
  rw [hn] at hp
  have hk : ∀ A c W, Reads W W.heap.size 1 A (s.length + 1) (ints (splc (sarr s))) → Calls Try.prog 16 #[.string ⟨s.toArray⟩, .slice A (s.length + 1) c] W fun e w' => ∃ A' c', e = .returned (.tuple #[.slice A' (s.length + 1) c', .int .i64 0]) ∧ s.length + 1 ≤ c' ∧ Reads w' w'.heap.size 1 A' (s.length + 1) (ints (scmL s (splc (sarr s)) (s.length + 1))) ∧ Below W.heap.size W w' := fun A c W hr => by
    have := p_scommon_any s (splc (sarr s)) A (s.length + 1) c W (by omega) (by omega) hr
    rw [sc_yes ⟨sarr_sord s, hn⟩, hn] at this
    unfold LPost at this
    dsimp only at this
    rw [scmL_len] at this
    exact this
  have Hp := Lib.hid hp
  have Hk := Lib.hid hk
  have hn0 : 0 < s.length + 1 := by omega
  have Hat := Lib.hid (scomm_at s h)
  have hc0 : ∃ h0 : 0 < (scmL s (splc (sarr s)) (s.length + 1)).length, (scmL s (splc (sarr s)) (s.length + 1))[0] = 0 := ⟨by rw [scmL_len]; omega, by rw [scmL_get]; rfl⟩
  have Hc0 := Lib.hid hc0
  have hsi : (s.length : Int) ≤ 2000 := by omega
  clear hp hk hn hc0
  generalize hAL : splc (sarr s) = AL at *
  generalize hCL : scmL s AL (s.length + 1) = CL at *
  clear hAL hCL
  go_enter Try.func6, Try.ntmps6
  go_wp2_with (first
    | (go_at_call 9; refine Hp.out.mono ?_; rintro e w1 ⟨A1, c1, rfl, _, hr1, hb1⟩; obtain ⟨bA, oA, rfl, hbA, hcA⟩ := gcells_at hr1 hn0; have HcA := Lib.hid hcA; have H1 := Lib.hid hr1; have Hb := Lib.hid hb1; clear hb1 hr1 hbA hcA Hp)
    | (go_at_call 16; refine (Hk.out _ _ _ H1.out).mono ?_; rintro e w2 ⟨A2, c2, rfl, _, hr2, hb2⟩; obtain ⟨bC, oC, rfl, hbC, hcC⟩ := gcells_at hr2 hn0; obtain ⟨h00, h01⟩ := Hc0.out; have x0 := hcC w2 (Below.refl _ _) 0 h00; rw [h01, Nat.add_zero] at x0; replace HcA : Hid (∀ W, Below w2.heap.size w2 W → ∀ k (hk : k < AL.length), W.cell? ⟨bA, oA + k, none⟩ = some (.int .i64 AL[k])) := Lib.hid fun W hW k hk => HcA.out W (hb2.trans (hW.mono hb2.size)) k hk; have HcC := Lib.hid hcC; replace Hb := Lib.hid (Hb.out.trans (hb2.mono Hb.out.size)); clear hr2 hbC hcC hb2 Hk H1 Hc0))
  have HB0 : Hid (Below w2.heap.size w2 w2) := Lib.hid (Below.refl _ _)
  clear x0 h01 h00
  go_loopw [7, 8, 9, 10] (fun iv _ _ _ wr => ∃ k : Nat, 1 ≤ k ∧ k ≤ s.length + 1 ∧ iv = .int .i64 (k : Int) ∧ Hid (Below w2.heap.size w2 wr)) (fun iv _ _ _ _ => s.length + 1 - (intOf iv).toNat)
  case atStart => exact ⟨1, by omega, by omega, rfl, HB0⟩
  case round =>
    obtain ⟨k, hk1, hk, rfl, HB⟩ := hrel
    clear HB0
    have hki0 : (1 : Int) ≤ (k : Int) ∧ (k : Int) ≤ 2001 := by omega
    by_cases hlt : k < s.length + 1
    · have hki : (k : Int) < (s.length : Int) + 1 := by omega
      obtain ⟨j, hj⟩ : ∃ j, k = j + 1 := ⟨k - 1, by omega⟩
      obtain ⟨p, q, m, X, Y, T, i1, i2, i3, e1, e2, e3, hql, hpl, hsq, hsp, hmX, hmY, hhX, hhY, hne, hX2, hY2⟩ := Hat.out j (by omega)
      have x2 := HcA.out wr HB.out j i1
      rw [e1] at x2
      have x1 := HcA.out wr HB.out (j + 1) i2
      rw [e2, ← hj] at x1
      have x3 := HcC.out wr HB.out (j + 1) i3
      rw [e3, ← hj] at x3
      have hpi : (0 : Int) ≤ (p : Int) ∧ (p : Int) ≤ (s.length : Int) := by omega
      have hqi : (0 : Int) ≤ (q : Int) ∧ (q : Int) ≤ (s.length : Int) := by omega
      have hp0 : decide ((p : Int) < 0) = false := by rw [decide_eq_false_iff_not]; omega
      have hp1 : decide ((s.length : Int) < (p : Int)) = false := by rw [decide_eq_false_iff_not]; omega
      have hp2 : decide (s.length < p) = false := by rw [decide_eq_false_iff_not]; omega
      have hq0 : decide ((q : Int) < 0) = false := by rw [decide_eq_false_iff_not]; omega
      have hq1 : decide ((s.length : Int) < (q : Int)) = false := by rw [decide_eq_false_iff_not]; omega
      have hq2 : decide (s.length < q) = false := by rw [decide_eq_false_iff_not]; omega
      have hmi : (0 : Int) ≤ (j : Int) ∧ (j : Int) < (s.length : Int) + 1 := by omega
      have hsub : (k : Int) - 1 = (j : Int) := by omega
      have hw1 : IntKind.i64.wrap ((k : Int) - 1) = (j : Int) := by rw [IntKind.wrap_i64]; omega
      have hw2 : IntKind.i64.wrap (j : Int) = (j : Int) := by rw [IntKind.wrap_i64]; omega
      have hm0 : decide ((m : Int) < 0) = false := by rw [decide_eq_false_iff_not]; omega
      have hm1 : decide ((X.length : Int) < (m : Int)) = false := by rw [decide_eq_false_iff_not]; omega
      have hm2 : decide (X.length < m) = false := by rw [decide_eq_false_iff_not]; omega
      have hm3 : decide ((Y.length : Int) < (m : Int)) = false := by rw [decide_eq_false_iff_not]; omega
      have hm4 : decide (Y.length < m) = false := by rw [decide_eq_false_iff_not]; omega
      have hTT : (T != T) = false := by simp
      clear e1 e2 e3 hj
      by_cases c1 : m < X.length
      · have d1 : decide ((m : Int) < (X.length : Int)) = true := by rw [decide_eq_true_iff]; omega
        have d2 : decide (m < X.length) = true := decide_eq_true c1
        by_cases c2 : m < Y.length
        · have d3 : decide ((m : Int) < (Y.length : Int)) = true := by rw [decide_eq_true_iff]; omega
          have d4 : decide (m < Y.length) = true := decide_eq_true c2
          have b1 : ∀ h, ((⟨X.toArray⟩ : ByteArray)[m]'h) = X[m] := fun h => rfl
          have b2 : ∀ h, ((⟨Y.toArray⟩ : ByteArray)[m]'h) = Y[m] := fun h => rfl
          have hmm : (0 : Int) ≤ (m : Int) ∧ (m : Int) < (X.length : Int) ∧ (m : Int) < (Y.length : Int) := by omega
          have b3 : ((X[m].toNat : Int) == (Y[m].toNat : Int)) = false := by
            rw [beq_eq_false_iff_ne]
            intro e
            exact hne c1 c2 (UInt8.toNat_inj.1 (by omega))
          clear hne
          go_wp2
          go_quiet (fail)
          go_wp2
          go_quiet (fail)
          go_wp2
          go_roundw
          case rel => exact ⟨k + 1, by omega, by omega, iv (by omega), Lib.hid (below_drewN HB.out _)⟩
          case measure => simp only [intOf]; omega
        · have d3 : decide ((m : Int) < (Y.length : Int)) = false := by rw [decide_eq_false_iff_not]; omega
          have d4 : decide (m < Y.length) = false := decide_eq_false c2
          clear hne
          go_wp2
          go_quiet (fail)
          go_wp2
          go_quiet (fail)
          go_wp2
          go_roundw
          case rel => exact ⟨k + 1, by omega, by omega, iv (by omega), Lib.hid (below_drewN HB.out _)⟩
          case measure => simp only [intOf]; omega
      · have d1 : decide ((m : Int) < (X.length : Int)) = false := by rw [decide_eq_false_iff_not]; omega
        have d2 : decide (m < X.length) = false := decide_eq_false c1
        clear hne
        go_wp2
        go_quiet (fail)
        go_wp2
        go_quiet (fail)
        go_wp2
        go_roundw
        case rel => exact ⟨k + 1, by omega, by omega, iv (by omega), Lib.hid (below_drewN HB.out _)⟩
        case measure => simp only [intOf]; omega
    · have hki : ¬ (k : Int) < (s.length : Int) + 1 := by omega
      go_wp2_with (go_at_call 8; refine (awake12_any _).mono ?_; rintro e w9 ⟨rfl, hb9⟩)
      go_ret
      exact ⟨rfl, (Hb.out.trans (HB.out.mono Hb.out.size)).trans (hb9.mono (Nat.le_trans Hb.out.size HB.out.size))⟩
theorem suffixCommon_walk (s : List UInt8) (w : World) :
    Calls Try.prog 6 #[.string ⟨s.toArray⟩] w fun e w' => e = .returned (.bool true) ∧ Below w.heap.size w w' := by
  by_cases h : s.length ≤ 2000
  · exact suffixCommon_near s w h
  · exact suffixCommon_far0 s w (by omega)

namespace SuffixCommon
set_option maxRecDepth 100000 in
theorem lifted (os : Os) (started : os.Started) (H : Type) (enc : TypeId × Value → H) :
    ReturnsInHanded {} Try.checked os 6 .any (Rows.suffixCommonSpec.pre6 enc Try.prog Try.f6 Rows.suffixCommonRow.domain false) (Rows.suffixCommonSpec.post enc Try.prog Try.f6 false true false false) := by
  refine law_sized (C := Try.checked) (tb := 4) ownP started (by kernel_rfl) Try.func6
    (ChangeSpec.witness6 (enc := enc) (C := Try.checked) false ⟨#[], #[.string ⟨#[]⟩], []⟩ 8 (by kernel_rfl) (by kernel_rfl) (by kernel_rfl) (by kernel_rfl))
    laidP (by kernel_rfl) rfl (by kernel_rfl) Try.underlying4 (by intro ds h; match ds, h with | [_], _ => rfl) ?_
  intro W base args ds p hval0 hA0 hlt _
  have hval : ∀ (j : Nat) t v, Try.f6.params[j]? = some t → args[j]? = some v → Value.okWide Try.prog W .any base t v := hval0
  have hA : DataW.TrodAll enc Try.prog W 0 (fun _ => true) true Try.f6.params.toList args.toList ds p := hA0
  rw [Try.params6] at hA hval
  obtain ⟨v0, d0, rfl, rfl, h0⟩ := trodAll_one hA
  obtain ⟨s, rfl, rfl⟩ := open_bytes Try.underlying9 (hval 0 9 v0 rfl rfl) h0
  exact suffixCommon_walk s W

theorem holds : Rows.SuffixCommonSaid :=
  OpenClaim.holds_of_wide 6 Try.f6 rfl rfl rfl rfl rfl rfl rfl ⟨rfl, rfl, rfl, rfl, rfl⟩ rfl rfl rfl rfl rfl (by kernel_rfl) Try.func6 (by kernel_rfl)
    (of_decide_eq_true (by kernel_rfl)) (by unfold Func.isWrapper; first | (rw [if_pos (by decide +kernel)]; kernel_rfl) | (rw [if_neg (by decide +kernel)]; exact ⟨rfl, rfl⟩))
    (fun os started H enc _ => lifted os started H enc)
end SuffixCommon
end Go.Proofs.Ytngenehleelcmaa
