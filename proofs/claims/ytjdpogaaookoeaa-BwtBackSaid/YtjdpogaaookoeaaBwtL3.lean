/-
  A text comes back of its transform; the last bytes are its bytes, in another order; the layer's probe holds (BwtBack). No condition.
-/
import Derived.Test.YtjdpogaaookoeaaBwtAw
import Derived.Test.YtjdpogaaookoeaaBwtV
import Derived.Test.YtjdpogaaookoeaaFrame
namespace Go.Proofs.Ytjdpogaaookoeaa
set_option linter.unusedSimpArgs false
set_option linter.unusedVariables false
open Go.ChangeShapes Go.WideShapes Go.ChangeAt Go.RowKit Go.Joins Go.Deep
set_option maxHeartbeats 2000000 in
/-- Beyond the sizes that the statement looks at: the probe alone. -/
theorem bwtBack_far0 (s : List UInt8) (w : World) (h : 2000 < s.length) :
    Calls Try.prog 5 #[.string ⟨s.toArray⟩] w fun e w' => e = .returned (.bool true) ∧ Below w.heap.size w w' := by
  have h1 : (2000 : Int) < s.length := by omega
  go_enter Try.func5, Try.ntmps5
  go_wp2_with (go_at_call 8; refine (awake13_any _).mono ?_; rintro e w9 ⟨rfl, hb9⟩)
  go_ret
  exact ⟨rfl, hb9⟩

theorem size_int13 : ∀ w, (sizeOf 3).run Try.prog w = .ok 1 w := fun w => by kernel_rfl
theorem guard_ints13 : Try.prog.eqGuardType Try.prog.depth 40 = false := by kernel_rfl
set_option maxRecDepth 100000 in
set_option maxHeartbeats 8000000 in
theorem bwtBack_near (s : List UInt8) (w : World) (h : s.length ≤ 2000) :
    Calls Try.prog 5 #[.string ⟨s.toArray⟩] w fun e w' => e = .returned (.bool true) ∧ Below w.heap.size w w' := by
  have h1 : ¬ (2000 : Int) < s.length := by omega
  have hp := p_bforward_any s w (by omega)
  rw [btF_yes (by omega)] at hp
  have hq := fun W => p_binverse_any (blast s) (bpr s) W (by rw [blast_len]; omega)
  rw [bback s (by omega)] at hq
  have hk := fun W => counts13_any (blast s) W (by rw [blast_len]; omega)
  have hj := fun W => counts13_any s W (by omega)
  rw [bcv_perm (blast_perm s)] at hk
  unfold BPost at hp
  unfold TPost at hq
  dsimp only at hp hq
  have hln : (blast s).length = s.length := blast_len s
  have hb := bpr_le s
  have hb2 := bpr_pos s
  obtain ⟨C, hC⟩ : ∃ C, ints (bcv s s.length) = C := ⟨_, rfl⟩
  have hCi : ∀ i, i < 256 → ∃ x, C[i]? = some (.int .i64 x) := fun i hi => ⟨_, by rw [← hC]; exact ints_get _ _ (by rw [bcv_len]; exact hi)⟩
  have heq := fun w => run_equalIn_ints (P := Try.prog) w 9998 40 3 256 Try.underlying40 Try.underlying3 size_int13 C hCi
  have hgu := guard_ints13
  rw [hC] at hk hj
  generalize blast s = L at *
  obtain ⟨r, hr⟩ : ∃ r, bpr s = r := ⟨_, rfl⟩
  rw [hr] at hp hq hb hb2
  have g1 : ((L.length : Int) != (s.length : Int)) = false := by simp; omega
  have g2 : (L.length != s.length) = false := by simp; omega
  have g3 : decide ((r : Int) < 0) = false := by rw [decide_eq_false_iff_not]; omega
  have g4 : decide ((s.length : Int) < (r : Int)) = false := by rw [decide_eq_false_iff_not]; omega
  have g5 : decide (s.length < r) = false := by rw [decide_eq_false_iff_not]; omega
  have Hd : Hid (((r : Int) == 0) = true ∧ (r == 0) = true ∧ decide ((0 : Int) < (s.length : Int)) = false ∧ decide (0 < s.length) = false ∨ ((r : Int) == 0) = false ∧ (r == 0) = false) := Lib.hid (by
    by_cases h0 : s.length = 0
    · by_cases h2 : r = 0
      · exact Or.inl ⟨by rw [beq_iff_eq]; omega, by rw [beq_iff_eq]; omega, by rw [decide_eq_false_iff_not]; omega, by rw [decide_eq_false_iff_not]; omega⟩
      · exact Or.inr ⟨by rw [beq_eq_false_iff_ne]; omega, by rw [beq_eq_false_iff_ne]; omega⟩
    · have := hb2 (by omega)
      exact Or.inr ⟨by rw [beq_eq_false_iff_ne]; omega, by rw [beq_eq_false_iff_ne]; omega⟩)
  have Hp := Lib.hid hp
  have Hq := Lib.hid hq
  have Hk := Lib.hid hk
  have Hj := Lib.hid hj
  have hss : (s == s) = true := by simp
  clear hp hq hk hj h hC hCi hr hb hb2 hln
  rcases Hd.out with ⟨d1, d2, d3, d4⟩ | ⟨d1, d2⟩
  · clear Hd
    go_enter Try.func5, Try.ntmps5
    go_wp2_with (first
      | (go_at_call 9; refine Hp.out.mono ?_; rintro e w1 ⟨rfl, hb1⟩; have Hb := Lib.hid hb1; clear hb1)
      | (go_at_call 16; (with_reducible refine (Hk.out _).mono ?_); rintro e w2 ⟨rfl, hb2⟩; replace Hb := Lib.hid (Hb.out.trans (hb2.mono Hb.out.size)); clear hb2; clear Hk)
      | (go_at_call 16; (with_reducible refine (Hj.out _).mono ?_); rintro e w3 ⟨rfl, hb3⟩; replace Hb := Lib.hid (Hb.out.trans (hb3.mono Hb.out.size)); clear hb3; clear Hj)
      | (go_at_call 11; refine (Hq.out _).mono ?_; rintro e w4 ⟨rfl, hb4⟩; replace Hb := Lib.hid (Hb.out.trans (hb4.mono Hb.out.size)); clear hb4)
      | (go_at_call 8; refine (awake13_any _).mono ?_; rintro e w9 ⟨rfl, hb9⟩; replace Hb := Lib.hid (Hb.out.trans (hb9.mono Hb.out.size)); clear hb9))
    go_ret
    exact ⟨rfl, Hb.out⟩
  · clear Hd
    go_enter Try.func5, Try.ntmps5
    go_wp2_with (first
      | (go_at_call 9; refine Hp.out.mono ?_; rintro e w1 ⟨rfl, hb1⟩; have Hb := Lib.hid hb1; clear hb1)
      | (go_at_call 16; (with_reducible refine (Hk.out _).mono ?_); rintro e w2 ⟨rfl, hb2⟩; replace Hb := Lib.hid (Hb.out.trans (hb2.mono Hb.out.size)); clear hb2; clear Hk)
      | (go_at_call 16; (with_reducible refine (Hj.out _).mono ?_); rintro e w3 ⟨rfl, hb3⟩; replace Hb := Lib.hid (Hb.out.trans (hb3.mono Hb.out.size)); clear hb3; clear Hj)
      | (go_at_call 11; refine (Hq.out _).mono ?_; rintro e w4 ⟨rfl, hb4⟩; replace Hb := Lib.hid (Hb.out.trans (hb4.mono Hb.out.size)); clear hb4)
      | (go_at_call 8; refine (awake13_any _).mono ?_; rintro e w9 ⟨rfl, hb9⟩; replace Hb := Lib.hid (Hb.out.trans (hb9.mono Hb.out.size)); clear hb9))
    go_ret
    exact ⟨rfl, Hb.out⟩
theorem bwtBack_walk (s : List UInt8) (w : World) :
    Calls Try.prog 5 #[.string ⟨s.toArray⟩] w fun e w' => e = .returned (.bool true) ∧ Below w.heap.size w w' := by
  by_cases h : s.length ≤ 2000
  · exact bwtBack_near s w h
  · exact bwtBack_far0 s w (by omega)

namespace BwtBack
set_option maxRecDepth 100000 in
theorem lifted (os : Os) (started : os.Started) (H : Type) (enc : TypeId × Value → H) :
    ReturnsInHanded {} Try.checked os 5 .any (Rows.bwtBackSpec.pre6 enc Try.prog Try.f5 Rows.bwtBackRow.domain false) (Rows.bwtBackSpec.post enc Try.prog Try.f5 false true false false) := by
  refine law_sized (C := Try.checked) (tb := 4) ownP started (by kernel_rfl) Try.func5
    (ChangeSpec.witness6 (enc := enc) (C := Try.checked) false ⟨#[], #[.string ⟨#[]⟩], []⟩ 8 (by kernel_rfl) (by kernel_rfl) (by kernel_rfl) (by kernel_rfl))
    laidP (by kernel_rfl) rfl (by kernel_rfl) Try.underlying4 (by intro ds h; match ds, h with | [_], _ => rfl) ?_
  intro W base args ds p hval0 hA0 hlt _
  have hval : ∀ (j : Nat) t v, Try.f5.params[j]? = some t → args[j]? = some v → Value.okWide Try.prog W .any base t v := hval0
  have hA : DataW.TrodAll enc Try.prog W 0 (fun _ => true) true Try.f5.params.toList args.toList ds p := hA0
  rw [Try.params5] at hA hval
  obtain ⟨v0, d0, rfl, rfl, h0⟩ := trodAll_one hA
  obtain ⟨s, rfl, rfl⟩ := open_bytes Try.underlying9 (hval 0 9 v0 rfl rfl) h0
  exact bwtBack_walk s W

theorem holds : Rows.BwtBackSaid :=
  OpenClaim.holds_of_wide 5 Try.f5 rfl rfl rfl rfl rfl rfl rfl ⟨rfl, rfl, rfl, rfl, rfl⟩ rfl rfl rfl rfl rfl (by kernel_rfl) Try.func5 (by kernel_rfl)
    (of_decide_eq_true (by kernel_rfl)) (by unfold Func.isWrapper; first | (rw [if_pos (by decide +kernel)]; kernel_rfl) | (rw [if_neg (by decide +kernel)]; exact ⟨rfl, rfl⟩))
    (fun os started H enc _ => lifted os started H enc)
end BwtBack
end Go.Proofs.Ytjdpogaaookoeaa
