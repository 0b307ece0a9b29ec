/-
  Each row but row 0 is stepped to from just one row that is not the primary; rows with one last byte step to rows that rise; the layer's probe holds (BwtSteps). No condition.
-/
import Derived.Test.YtjdpogaaookoeaaBwtAw
import Derived.Test.YtjdpogaaookoeaaBwtW
import Derived.Test.YtjdpogaaookoeaaBwtV
import Derived.Test.YtjdpogaaookoeaaBools
import Derived.Test.YtjdpogaaookoeaaFrame
namespace Go.Proofs.Ytjdpogaaookoeaa
set_option linter.unusedSimpArgs false
set_option linter.unusedVariables false
open Go.ChangeShapes Go.WideShapes Go.ChangeAt Go.RowKit Go.Joins Go.Deep
set_option maxHeartbeats 2000000 in
/-- Beyond the sizes that the statement looks at: the probe alone. -/
theorem bwtSteps_far0 (s : List UInt8) (r : Int) (w : World) (h : 2000 < s.length) :
    Calls Try.prog 7 #[.string ⟨s.toArray⟩, .int .i64 r] w fun e w' => e = .returned (.bool true) ∧ Below w.heap.size w w' := by
  have h1 : (2000 : Int) < s.length := by omega
  go_enter Try.func7, Try.ntmps7
  go_wp2_with (go_at_call 8; refine (awake13_any _).mono ?_; rintro e w9 ⟨rfl, hb9⟩)
  go_ret
  exact ⟨rfl, hb9⟩

set_option maxRecDepth 100000 in
set_option maxHeartbeats 4000000 in
theorem bwtSteps_no (s : List UInt8) (r : Int) (w : World) (h : s.length ≤ 2000) (hb : bbad s r) :
    Calls Try.prog 7 #[.string ⟨s.toArray⟩, .int .i64 r] w fun e w' => e = .returned (.bool true) ∧ Below w.heap.size w w' := by
  have h1 : ¬ (2000 : Int) < s.length := by omega
  have hp := p_bsteps_any s r w (by omega)
  rw [bsF_bad (by omega) hb] at hp
  unfold LPost at hp
  dsimp only at hp
  have Hp := Lib.hid hp
  clear hp h hb
  go_enter Try.func7, Try.ntmps7
  go_wp2_with (first
    | (go_at_call 13; refine Hp.out.mono ?_; rintro e w1 ⟨A1, c1, rfl, _, _, hb1⟩; have Hb := Lib.hid hb1; clear hb1)
    | (go_at_call 8; refine (awake13_any _).mono ?_; rintro e w9 ⟨rfl, hb9⟩; replace Hb := Lib.hid (Hb.out.trans (hb9.mono Hb.out.size)); clear hb9))
  go_ret
  exact ⟨rfl, Hb.out⟩
set_option maxRecDepth 100000 in
set_option maxHeartbeats 16000000 in
theorem bwtSteps_yes (s : List UInt8) (r : Nat) (w : World) (h : s.length ≤ 2000) (hg : ¬ bbad s (r : Int)) :
    Calls Try.prog 7 #[.string ⟨s.toArray⟩, .int .i64 (r : Int)] w fun e w' => e = .returned (.bool true) ∧ Below w.heap.size w w' := by
  have h1 : ¬ (2000 : Int) < s.length := by omega
  have hp := p_bsteps_any s (r : Int) w (by omega)
  rw [bsF_yes (by omega) hg] at hp
  unfold LPost at hp
  dsimp only at hp
  obtain ⟨r2, e2, hr, _⟩ := bgood hg
  have e3 : r2 = r := by omega
  subst e3
  clear e2 hg
  have hn : (splc ((List.range (s.length + 1)).map (brk (bcol s r2)))).length = s.length + 1 := by rw [splc_len, List.length_map, List.length_range]
  rw [hn] at hp
  have Hat := Lib.hid fun k => wst_at s r2 k hr
  have Hes : Hid (wse (bcol s r2) r2 (s.length + 1) (r2 + 1) = wse (bcol s r2) r2 (s.length + 1) r2) := Lib.hid (wse_skip _ _ _)
  have Hts : Hid (wtp (bcol s r2) r2 (r2 + 1) = wtp (bcol s r2) r2 r2) := Lib.hid (wtp_skip _ _)
  have Hez : Hid (wse (bcol s r2) r2 (s.length + 1) 0 = List.replicate (s.length + 1) false) := Lib.hid (wse_zero _ _ _)
  have Htz : Hid (wtp (bcol s r2) r2 0 = List.replicate 256 0) := Lib.hid rfl
  have hn0 : 0 < s.length + 1 := by omega
  have hsi : (s.length : Int) ≤ 2000 ∧ (0 : Int) ≤ (r2 : Int) ∧ (r2 : Int) ≤ (s.length : Int) := by omega
  have hz := zero_ints256.1
  obtain ⟨Z, hZ⟩ : ∃ Z, ints (List.replicate 256 0) = Z := ⟨_, rfl⟩
  rw [hZ] at hz
  have HZ := Lib.hid hZ
  clear hZ
  have hmk := fun w => gmk_bools ((s.length : Int) + 1) (s.length + 1) (by omega) (by omega) w
  have Hp := Lib.hid hp
  clear hp hn hr h
  generalize splc ((List.range (s.length + 1)).map (brk (bcol s r2))) = S at *
  generalize bcol s r2 = C at *
  go_enter Try.func7, Try.ntmps7
  go_wp2_with (go_at_call 13; refine Hp.out.mono ?_; rintro e w1 ⟨A1, c1, rfl, _, hr1, hb1⟩; obtain ⟨bA, oA, rfl, hbA, hcA⟩ := gcells_at hr1 hn0; have HcA := Lib.hid hcA; have Hb := Lib.hid hb1; clear hb1 hr1 hbA hcA Hp)
  have HE0 : Hid (Blk ((w1.alloc (.cells (gbools (List.replicate (s.length + 1) false)).toArray 4)).alloc (.cells Z.toArray 40)) w1.heap.size 4 (gbools (wse C r2 (s.length + 1) 0)).toArray) := Lib.hid (by rw [Hez.out]; exact (Blk.new _ _ _).alloc _)
  have HT0 : Hid (Blk ((w1.alloc (.cells (gbools (List.replicate (s.length + 1) false)).toArray 4)).alloc (.cells Z.toArray 40)) (w1.heap.size + 1) 40 (ints (wtp C r2 0)).toArray) := Lib.hid (by
    rw [Htz.out, HZ.out]
    have := Blk.new (w1.alloc (.cells (gbools (List.replicate (s.length + 1) false)).toArray 4)) 40 Z.toArray
    rwa [show (w1.alloc (.cells (gbools (List.replicate (s.length + 1) false)).toArray 4)).heap.size = w1.heap.size + 1 from by simp] at this)
  have HO0 : Hid (Below w1.heap.size w1 ((w1.alloc (.cells (gbools (List.replicate (s.length + 1) false)).toArray 4)).alloc (.cells Z.toArray 40))) := Lib.hid (((Below.refl _ _).alloc (Nat.le_refl _) _).alloc (by simp) _)
  clear hmk hz
  generalize (w1.alloc (.cells (gbools (List.replicate (s.length + 1) false)).toArray 4)).alloc (.cells Z.toArray 40) = wz at *
  obtain ⟨g, hgg⟩ : ∃ g, w1.heap.size = g := ⟨_, rfl⟩
  have Hgg := Lib.hid hgg
  rw [hgg] at HE0 HT0 HO0 HcA ⊢
  clear hgg
  go_loopw [9, 10, 11] (fun iv _ _ wr => ∃ k : Nat, k ≤ s.length + 1 ∧ iv = .int .i64 (k : Int) ∧ Hid (Blk wr g 4 (gbools (wse C r2 (s.length + 1) k)).toArray) ∧ Hid (Blk wr (g + 1) 40 (ints (wtp C r2 k)).toArray) ∧ Hid (Below g w1 wr)) (fun iv _ _ _ => s.length + 1 - (intOf iv).toNat)
  case atStart => exact ⟨0, by omega, rfl, HE0, HT0, HO0⟩
  case round =>
    obtain ⟨k, hk, rfl, HE, HT, HO⟩ := hrel
    clear HE0 HT0 HO0
    have hki0 : (0 : Int) ≤ (k : Int) ∧ (k : Int) ≤ 2001 := by omega
    by_cases hlt : k < s.length + 1
    · have hki : (k : Int) < (s.length : Int) + 1 := by omega
      by_cases hkr : k = r2
      · subst hkr
        have HE2 : Hid (Blk wr g 4 (gbools (wse C k (s.length + 1) (k + 1))).toArray) := Lib.hid (by rw [Hes.out]; exact HE.out)
        have HT2 : Hid (Blk wr (g + 1) 40 (ints (wtp C k (k + 1))).toArray) := Lib.hid (by rw [Hts.out]; exact HT.out)
        go_wp2
        go_roundw
        case rel => exact ⟨k + 1, by omega, iv (by omega), HE2, HT2, HO⟩
        case measure => simp only [intOf]; omega
      · have d1 : ((k : Int) == (r2 : Int)) = false := by rw [beq_eq_false_iff_ne]; omega
        have d2 : (k == r2) = false := by rw [beq_eq_false_iff_ne]; omega
        obtain ⟨x, i, T, Y, b, hS, hi, e1, hi1, hi2, e3, e4, hY, hx1, hx2, ⟨hq, e5⟩, e6, ⟨hbb, e7⟩, hTx, e8⟩ := Hat.out k hlt hkr
        have x1 := HcA.out wr HO.out k hS
        rw [e1] at x1
        have x2 := gblk_bool HE.out x hq
        rw [e5] at x2
        have x3 := HE.out.frozen x
        have x4 := gblk_cell HT.out Y hbb
        rw [e7] at x4
        have x5 := HT.out.frozen Y
        have hgl := HE.out.lt
        have hgl2 := HT.out.lt
        have b1 : ∀ h, ((⟨s.toArray⟩ : ByteArray)[i]'h) = b := fun _ => e3
        have b2 : (b.toNat : Int) = (Y : Int) := by omega
        have hYi : (0 : Int) ≤ (Y : Int) ∧ (Y : Int) < 256 ∧ (0 : Int) ≤ (i : Int) ∧ (i : Int) < (s.length : Int) ∧ (1 : Int) ≤ (x : Int) ∧ (x : Int) < (s.length : Int) + 1 := by omega
        have f1 : decide ((x : Int) < 1) = false := by rw [decide_eq_false_iff_not]; omega
        have f2 : decide (x < 1) = false := by rw [decide_eq_false_iff_not]; omega
        have f3 : decide ((s.length : Int) + 1 ≤ (x : Int)) = false := by rw [decide_eq_false_iff_not]; omega
        have f4 : decide (s.length + 1 ≤ x) = false := by rw [decide_eq_false_iff_not]; omega
        have f5 : decide ((x : Int) ≤ (T : Int)) = false := by rw [decide_eq_false_iff_not]; omega
        have f6 : decide (x ≤ T) = false := by rw [decide_eq_false_iff_not]; omega
        have He6 := Lib.hid e6
        have He8 := Lib.hid e8
        have HE2 : Hid (Blk ((wr.setCell ⟨g, x, none⟩ (.bool true)).setCell ⟨g + 1, Y, none⟩ (.int .i64 (x : Int))) g 4 (gbools (wse C r2 (s.length + 1) (k + 1))).toArray) := Lib.hid (by rw [← He6.out, ← gbools_set]; exact (HE.out.set_ x _).far (p := ⟨g + 1, Y, none⟩) (by show g ≠ g + 1; omega) _)
        have HT2 : Hid (Blk ((wr.setCell ⟨g, x, none⟩ (.bool true)).setCell ⟨g + 1, Y, none⟩ (.int .i64 (x : Int))) (g + 1) 40 (ints (wtp C r2 (k + 1))).toArray) := Lib.hid (by rw [← He8.out, ← gints_set]; exact (HT.out.far (p := ⟨g, x, none⟩) (by show g + 1 ≠ g; omega) _).set_ Y _)
        have HO2 : Hid (Below g w1 ((wr.setCell ⟨g, x, none⟩ (.bool true)).setCell ⟨g + 1, Y, none⟩ (.int .i64 (x : Int)))) := Lib.hid ((HO.out.setCell (p := ⟨g, x, none⟩) (Nat.le_refl _) _).setCell (p := ⟨g + 1, Y, none⟩) (Nat.le_succ _) _)
        clear e1 e3 e4 e5 e6 e7 e8 hS hi hY hx1 hx2 hq hbb hTx HE HT
        by_cases hkl : k < r2
        · have hik : i = k := hi2 hkl
          subst hik
          have c1 : decide ((r2 : Int) < (i : Int)) = false := by rw [decide_eq_false_iff_not]; omega
          have c2 : decide (r2 < i) = false := by rw [decide_eq_false_iff_not]; omega
          have c3 : ¬ (r2 : Int) < (i : Int) := by omega
          clear hi1 hi2 hkr hkl
          go_wp2
          go_roundw
          case rel => exact ⟨i + 1, by omega, iv (by omega), HE2, HT2, HO2⟩
          case measure => simp only [intOf]; omega
        · have hik : i + 1 = k := hi1 (by omega)
          have c1 : decide ((r2 : Int) < (k : Int)) = true := by rw [decide_eq_true_iff]; omega
          have c2 : decide (r2 < k) = true := by rw [decide_eq_true_iff]; omega
          have c3 : (r2 : Int) < (k : Int) := by omega
          have hsub : (k : Int) - 1 = (i : Int) := by omega
          have hw1 : IntKind.i64.wrap ((k : Int) - 1) = (i : Int) := by rw [IntKind.wrap_i64]; omega
          have hw2 : IntKind.i64.wrap (i : Int) = (i : Int) := by rw [IntKind.wrap_i64]; omega
          clear hi1 hi2 hkr hkl hik
          go_wp2
          go_roundw
          case rel => exact ⟨k + 1, by omega, iv (by omega), HE2, HT2, HO2⟩
          case measure => simp only [intOf]; omega
    · have hki : ¬ (k : Int) < (s.length : Int) + 1 := by omega
      have Hfin : Hid (Below w.heap.size w wr) := Lib.hid (Hb.out.trans (HO.out.mono (by rw [← Hgg.out]; exact Hb.out.size)))
      go_wp2_with (go_at_call 8; refine (awake13_any _).mono ?_; rintro e w9 ⟨rfl, hb9⟩)
      go_ret
      exact ⟨rfl, Hfin.out.trans (hb9.mono Hfin.out.size)⟩
theorem bwtSteps_walk (s : List UInt8) (r : Int) (w : World) :
    Calls Try.prog 7 #[.string ⟨s.toArray⟩, .int .i64 r] w fun e w' => e = .returned (.bool true) ∧ Below w.heap.size w w' := by
  by_cases h : s.length ≤ 2000
  · by_cases hb : bbad s r
    · exact bwtSteps_no s r w h hb
    · obtain ⟨k, rfl, _⟩ := bgood hb
      exact bwtSteps_yes s k w h hb
  · exact bwtSteps_far0 s r w (by omega)

namespace BwtSteps
set_option maxRecDepth 100000 in
theorem lifted (os : Os) (started : os.Started) (H : Type) (enc : TypeId × Value → H) :
    ReturnsInHanded {} Try.checked os 7 .any (Rows.bwtStepsSpec.pre6 enc Try.prog Try.f7 Rows.bwtStepsRow.domain false) (Rows.bwtStepsSpec.post enc Try.prog Try.f7 false true false false) := by
  refine law_sized (C := Try.checked) (tb := 4) ownP started (by kernel_rfl) Try.func7
    (ChangeSpec.witness6 (enc := enc) (C := Try.checked) false ⟨#[], #[.string ⟨#[]⟩, .int .i64 0], []⟩ 8 (by kernel_rfl) (by kernel_rfl) (by kernel_rfl) (by kernel_rfl))
    laidP (by kernel_rfl) rfl (by kernel_rfl) Try.underlying4 (by intro ds h; match ds, h with | [_, _], _ => rfl) ?_
  intro W base args ds p hval0 hA0 hlt _
  have hval : ∀ (j : Nat) t v, Try.f7.params[j]? = some t → args[j]? = some v → Value.okWide Try.prog W .any base t v := hval0
  have hA : DataW.TrodAll enc Try.prog W 0 (fun _ => true) true Try.f7.params.toList args.toList ds p := hA0
  rw [Try.params7] at hA hval
  obtain ⟨v0, v1, d0, d1, p0, p1, rfl, rfl, rfl, h0, h1⟩ := trodAll_two hA
  obtain ⟨s, rfl, rfl⟩ := open_bytes Try.underlying9 (hval 0 9 v0 rfl rfl) h0
  obtain ⟨r, rfl, rfl, rfl, wr⟩ := open_int Try.underlying3 (hval 1 3 v1 rfl rfl) h1
  exact bwtSteps_walk s r W

theorem holds : Rows.BwtStepsSaid :=
  OpenClaim.holds_of_wide 7 Try.f7 rfl rfl rfl rfl rfl rfl rfl ⟨rfl, rfl, rfl, rfl, rfl⟩ rfl rfl rfl rfl rfl (by kernel_rfl) Try.func7 (by kernel_rfl)
    (of_decide_eq_true (by kernel_rfl)) (by unfold Func.isWrapper; first | (rw [if_pos (by decide +kernel)]; kernel_rfl) | (rw [if_neg (by decide +kernel)]; exact ⟨rfl, rfl⟩))
    (fun os started H enc _ => lifted os started H enc)
end BwtSteps
end Go.Proofs.Ytjdpogaaookoeaa
