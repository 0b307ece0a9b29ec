/-
  The document's array has each place once, and each end is less than the next one's; the layer's probe holds (SuffixOrder). No condition.
-/
import Derived.Test.YtngenehleelcmaaSufAw
import Derived.Test.YtngenehleelcmaaSufO
import Derived.Test.YtngenehleelcmaaFrame
namespace Go.Proofs.Ytngenehleelcmaa
set_option linter.unusedSimpArgs false
set_option linter.unusedVariables false
open Go.ChangeShapes Go.WideShapes Go.ChangeAt Go.RowKit Go.Joins Go.Deep
set_option maxHeartbeats 2000000 in
/-- Beyond the sizes that the statement looks at: the probe alone. -/
theorem suffixOrder_far0 (s : List UInt8) (w : World) (h : 2000 < s.length) :
    Calls Try.prog 5 #[.string ⟨s.toArray⟩] w fun e w' => e = .returned (.bool true) ∧ Below w.heap.size w w' := by
  have h1 : (2000 : Int) < s.length := by omega
  go_enter Try.func5, Try.ntmps5
  go_wp2_with (go_at_call 8; refine (awake12_any _).mono ?_; rintro e w9 ⟨rfl, hb9⟩)
  go_ret
  exact ⟨rfl, hb9⟩

/-! ### A row of truth values -/
def sbools (l : List Bool) : List Value := l.map Value.bool
theorem sbool_info : (Try.prog.info? 4).map (fun i => (i.zero, i.size, i.bytes)) = some (some (.bool false), 1, 1) := by kernel_rfl
theorem sbools_zero (n : Nat) : madeCells #[.bool false] n = (sbools (List.replicate n false)).toArray := by
  unfold sbools
  apply Array.ext'
  simp [madeCells, Nat.mod_one]
  rw [List.map_const', List.length_range]
theorem smk_bools (n : Int) (N : Nat) (hN : (N : Int) = n) (h : N ≤ 17592186044416) (w : World) :
    (Instr.makeSlice 44 (.int .i64 n) (.int .i64 n)).run Try.prog w = .ok (.slice (some ⟨w.heap.size, 0, none⟩) N N) (w.alloc (.cells (sbools (List.replicate N false)).toArray 4)) := by
  subst hN
  rw [← sbools_zero]
  exact run_make_row' (P := Try.prog) 44 4 (.bool false) 1 Try.underlying44 sbool_info rfl .i64 .i64 N (by omega) (by omega) w
theorem sbools_set (l : List Bool) (k : Nat) (v : Bool) : (sbools l).toArray.setIfInBounds k (.bool v) = (sbools (l.set k v)).toArray := by
  rw [List.setIfInBounds_toArray]
  simp [sbools, List.map_set]
theorem sblk_bool {w : World} {g : Nat} {t : TypeId} {l : List Bool} (h : Blk w g t (sbools l).toArray) (k : Nat) (hk : k < l.length) : w.cell? ⟨g, k, none⟩ = some (.bool l[k]) := by
  rw [h.cell, List.getElem?_toArray]
  simp [sbools, hk]

set_option maxRecDepth 100000 in
set_option maxHeartbeats 16000000 in
theorem suffixOrder_near (s : List UInt8) (w : World) (h : s.length ≤ 2000) :
    Calls Try.prog 5 #[.string ⟨s.toArray⟩] w fun e w' => e = .returned (.bool true) ∧ Below w.heap.size w w' := by
  have h1 : ¬ (2000 : Int) < s.length := by omega
  have hp := p_sarray_any s w (by omega)
  rw [saF_yes (by omega)] at hp
  unfold LPost at hp
  dsimp only at hp
  have hn : (splc (sarr s)).length = s.length + 1 := by rw [splc_len, sarr_len]
  have hn2 := sarr_len s
  rw [hn] at hp
  have Hp := Lib.hid hp
  have hn0 : 0 < s.length + 1 := by omega
  have Hst : Hid (∀ p, p ≤ s.length → ∀ w, (Instr.slice 9 (.string ⟨s.toArray⟩) (some (.int .i64 (p : Int))) none none).run Try.prog w = .ok (.string ⟨(s.drop p).toArray⟩) w) := Lib.hid fun p hp w => str_from s p hp w
  have Hat : Hid (∀ k, k < s.length + 1 → ∃ p : Nat, ∃ hk : k < (splc (sarr s)).length, (splc (sarr s))[k] = (p : Int) ∧ p ≤ s.length ∧ (∃ hq : p < (sseen s k).length, (sseen s k)[p] = false) ∧ (sseen s k).set p true = sseen s (k + 1)) := Lib.hid fun k hk => by
    have hk2 : k < (sarr s).length := by omega
    exact ⟨(sarr s)[k], by rw [hn]; exact hk, splc_get _ _ _, sarr_le s k hk2, ⟨by rw [sseen_len]; have := sarr_le s k hk2; omega, sseen_fresh s k hk2⟩, sseen_step s k hk2⟩
  have Hlt : Hid (∀ k p q, k + 1 < s.length + 1 → ∀ (h1 : k < (splc (sarr s)).length) (h2 : k + 1 < (splc (sarr s)).length), (splc (sarr s))[k] = ((q : Nat) : Int) → (splc (sarr s))[k + 1] = ((p : Nat) : Int) → Op.bytesLess (s.drop q) (s.drop p) = true) := Lib.hid fun k p q hk h1 h2 e1 e2 => by
    rw [splc_get] at e1 e2
    have := sarr_next s k (by omega)
    rw [show (sarr s)[k] = q from by omega, show (sarr s)[k + 1] = p from by omega] at this
    exact this
  have Hz := Lib.hid (sseen_zero s)
  have hmk := fun w => smk_bools ((s.length : Int) + 1) (s.length + 1) (by omega) (by omega) w
  have hsi : (s.length : Int) ≤ 2000 := by omega
  clear hp hn hn2
  go_enter Try.func5, Try.ntmps5
  go_wp2_with (go_at_call 9; refine Hp.out.mono ?_; rintro e w1 ⟨A1, c1, rfl, _, hr1, hb1⟩; obtain ⟨bA, oA, rfl, hbA, hcA⟩ := gcells_at hr1 hn0; have HcA := Lib.hid hcA; have Hb := Lib.hid hb1; clear hb1 hr1 hbA hcA Hp)
  have HB0 : Hid (Blk (w1.alloc (.cells (sbools (List.replicate (s.length + 1) false)).toArray 4)) w1.heap.size 4 (sbools (sseen s 0)).toArray) := Lib.hid (by rw [Hz.out]; exact Blk.new _ _ _)
  have HO0 : Hid (Below w1.heap.size w1 (w1.alloc (.cells (sbools (List.replicate (s.length + 1) false)).toArray 4))) := Lib.hid ((Below.refl _ _).alloc (Nat.le_refl _) _)
  clear hmk
  generalize w1.alloc (.cells (sbools (List.replicate (s.length + 1) false)).toArray 4) = wz at *
  have Hgg : Hid (w1.heap.size ≤ w1.heap.size) := Lib.hid (Nat.le_refl _)
  obtain ⟨g, hg⟩ : ∃ g, w1.heap.size = g := ⟨_, rfl⟩
  rw [hg] at Hgg HO0 HB0 HcA ⊢
  have Hw1 : Hid (w.heap.size ≤ g) := Lib.hid (by rw [← hg]; exact Hb.out.size)
  clear hg
  go_loopw [6] (fun iv wr => ∃ k : Nat, k ≤ s.length + 1 ∧ iv = .int .i64 (k : Int) ∧ Hid (Blk wr g 4 (sbools (sseen s k)).toArray) ∧ Hid (Below g w1 wr)) (fun iv _ => s.length + 1 - (intOf iv).toNat)
  case atStart => exact ⟨0, by omega, rfl, HB0, HO0⟩
  case round =>
    obtain ⟨k, hk, rfl, HB, HO⟩ := hrel
    clear HB0 HO0
    have hki0 : (0 : Int) ≤ (k : Int) ∧ (k : Int) ≤ 2001 := by omega
    by_cases hlt : k < s.length + 1
    · have hki : (k : Int) < (s.length : Int) + 1 := by omega
      obtain ⟨p, hkl, hp, hpl, ⟨hql, hq⟩, hst⟩ := Hat.out k hlt
      have x1 := HcA.out wr HO.out k hkl
      rw [hp] at x1
      have x2 := sblk_bool HB.out p hql
      rw [hq] at x2
      have x3 := HB.out.frozen p
      have hgl := HB.out.lt
      have Hst2 := Lib.hid hst
      have hpi : (0 : Int) ≤ (p : Int) ∧ (p : Int) ≤ (s.length : Int) ∧ (p : Int) < (s.length : Int) + 1 := by omega
      have hp0 : decide ((p : Int) < 0) = false := by rw [decide_eq_false_iff_not]; omega
      have hp1 : decide ((s.length : Int) < (p : Int)) = false := by rw [decide_eq_false_iff_not]; omega
      have hp2 : decide (s.length < p) = false := by rw [decide_eq_false_iff_not]; omega
      have hsp := Hst.out p hpl
      have HS2 : Hid (∀ q, Blk ((wr.drewN q).setCell ⟨g, p, none⟩ (.bool true)) g 4 (sbools (sseen s (k + 1))).toArray) := Lib.hid fun q => by rw [← Hst2.out, ← sbools_set]; exact (HB.out.drewN q).set_ p _
      have HO2 : Hid (∀ q, Below g w1 ((wr.drewN q).setCell ⟨g, p, none⟩ (.bool true))) := Lib.hid fun q => (below_drewN HO.out q).setCell (p := ⟨g, p, none⟩) (Nat.le_refl _) _
      by_cases hk0 : 0 < k
      · obtain ⟨j, hj⟩ : ∃ j, k = j + 1 := ⟨k - 1, by omega⟩
        have hkl2 : j < (splc (sarr s)).length := by omega
        obtain ⟨q, _, hq2, hql2, _, _⟩ := Hat.out j (by omega)
        have x4 := HcA.out wr HO.out j hkl2
        rw [hq2] at x4
        have hb0 : Op.bytesLess (s.drop q) (s.drop p) = true := by
          subst hj
          exact Hlt.out j p q hlt hkl2 hkl hq2 hp
        have hsq := Hst.out q hql2
        have hmi : (0 : Int) ≤ (j : Int) ∧ (j : Int) < (s.length : Int) + 1 := by omega
        have hd0 : decide ((0 : Int) < (k : Int)) = true := by rw [decide_eq_true_iff]; omega
        have hd1 : decide (0 < k) = true := decide_eq_true hk0
        have hsub : (k : Int) - 1 = (j : Int) := by omega
        have hw1 : IntKind.i64.wrap ((k : Int) - 1) = (j : Int) := by rw [IntKind.wrap_i64]; omega
        have hw2 : IntKind.i64.wrap (j : Int) = (j : Int) := by rw [IntKind.wrap_i64]; omega
        clear hql hq hst hpl hp hkl hkl2 hq2 hql2 HB HO hj hk0
        go_wp2
        go_quiet (fail)
        go_wp2
        go_roundw
        case rel => exact ⟨k + 1, by omega, iv (by omega), Lib.hid (HS2.out _), Lib.hid (HO2.out _)⟩
        case measure => simp only [intOf]; omega
      · have hd0 : decide ((0 : Int) < (k : Int)) = false := by rw [decide_eq_false_iff_not]; omega
        have hd1 : decide (0 < k) = false := decide_eq_false hk0
        clear hql hq hst hpl hp hkl HB HO hk0
        go_wp2
        go_quiet (fail)
        go_wp2
        go_roundw
        case rel => exact ⟨k + 1, by omega, iv (by omega), Lib.hid (HS2.out _), Lib.hid (HO2.out _)⟩
        case measure => simp only [intOf]; omega
    · have hki : ¬ (k : Int) < (s.length : Int) + 1 := by omega
      go_wp2_with (go_at_call 8; refine (awake12_any _).mono ?_; rintro e w9 ⟨rfl, hb9⟩)
      go_ret
      exact ⟨rfl, ((Hb.out.trans (HO.out.mono Hw1.out))).trans (hb9.mono (Nat.le_trans Hw1.out (Nat.le_of_lt HB.out.lt)))⟩
theorem suffixOrder_walk (s : List UInt8) (w : World) :
    Calls Try.prog 5 #[.string ⟨s.toArray⟩] w fun e w' => e = .returned (.bool true) ∧ Below w.heap.size w w' := by
  by_cases h : s.length ≤ 2000
  · exact suffixOrder_near s w h
  · exact suffixOrder_far0 s w (by omega)

namespace SuffixOrder
set_option maxRecDepth 100000 in
theorem lifted (os : Os) (started : os.Started) (H : Type) (enc : TypeId × Value → H) :
    ReturnsInHanded {} Try.checked os 5 .any (Rows.suffixOrderSpec.pre6 enc Try.prog Try.f5 Rows.suffixOrderRow.domain false) (Rows.suffixOrderSpec.post enc Try.prog Try.f5 false true false false) := by
  refine law_sized (C := Try.checked) (tb := 4) ownP started (by kernel_rfl) Try.func5
    (ChangeSpec.witness6 (enc := enc) (C := Try.checked) false ⟨#[], #[.string ⟨#[]⟩], []⟩ 8 (by kernel_rfl) (by kernel_rfl) (by kernel_rfl) (by kernel_rfl))
    laidP (by kernel_rfl) rfl (by kernel_rfl) Try.underlying4 (by intro ds h; match ds, h with | [_], _ => rfl) ?_
  intro W base args ds p hval0 hA0 hlt _
  have hval : ∀ (j : Nat) t v, Try.f5.params[j]? = some t → args[j]? = some v → Value.okWide Try.prog W .any base t v := hval0
  have hA : DataW.TrodAll enc Try.prog W 0 (fun _ => true) true Try.f5.params.toList args.toList ds p := hA0
  rw [Try.params5] at hA hval
  obtain ⟨v0, d0, rfl, rfl, h0⟩ := trodAll_one hA
  obtain ⟨s, rfl, rfl⟩ := open_bytes Try.underlying9 (hval 0 9 v0 rfl rfl) h0
  exact suffixOrder_walk s W

theorem holds : Rows.SuffixOrderSaid :=
  OpenClaim.holds_of_wide 5 Try.f5 rfl rfl rfl rfl rfl rfl rfl ⟨rfl, rfl, rfl, rfl, rfl⟩ rfl rfl rfl rfl rfl (by kernel_rfl) Try.func5 (by kernel_rfl)
    (of_decide_eq_true (by kernel_rfl)) (by unfold Func.isWrapper; first | (rw [if_pos (by decide +kernel)]; kernel_rfl) | (rw [if_neg (by decide +kernel)]; exact ⟨rfl, rfl⟩))
    (fun os started H enc _ => lifted os started H enc)
end SuffixOrder
end Go.Proofs.Ytngenehleelcmaa
