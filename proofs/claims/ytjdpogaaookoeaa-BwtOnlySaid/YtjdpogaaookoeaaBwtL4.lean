/-
  What is taken as a transform is that of the text that is told; the layer's probe holds (BwtOnly). No condition.
-/
import Derived.Test.YtjdpogaaookoeaaBwtAw
import Derived.Test.YtjdpogaaookoeaaFrame
namespace Go.Proofs.Ytjdpogaaookoeaa
set_option linter.unusedSimpArgs false
set_option linter.unusedVariables false
open Go.ChangeShapes Go.WideShapes Go.ChangeAt Go.RowKit Go.Joins Go.Deep
set_option maxHeartbeats 2000000 in
/-- Beyond the sizes that the statement looks at: the probe alone. -/
theorem bwtOnly_far0 (s : List UInt8) (r : Int) (w : World) (h : 2000 < s.length) :
    Calls Try.prog 6 #[.string ⟨s.toArray⟩, .int .i64 r] w fun e w' => e = .returned (.bool true) ∧ Below w.heap.size w w' := by
  have h1 : (2000 : Int) < s.length := by omega
  go_enter Try.func6, Try.ntmps6
  go_wp2_with (go_at_call 8; refine (awake13_any _).mono ?_; rintro e w9 ⟨rfl, hb9⟩)
  go_ret
  exact ⟨rfl, hb9⟩

set_option maxRecDepth 100000 in
set_option maxHeartbeats 4000000 in
theorem bwtOnly_no (s : List UInt8) (r : Int) (w : World) (h : s.length ≤ 2000) (E : Int) (hE : (E != 0) = true) (hF : biF s r = ([], E)) :
    Calls Try.prog 6 #[.string ⟨s.toArray⟩, .int .i64 r] w fun e w' => e = .returned (.bool true) ∧ Below w.heap.size w w' := by
  have h1 : ¬ (2000 : Int) < s.length := by omega
  have hp := p_binverse_any s r w (by omega)
  rw [hF] at hp
  unfold TPost at hp
  dsimp only at hp
  have Hp := Lib.hid hp
  clear hp h hF
  go_enter Try.func6, Try.ntmps6
  go_wp2_with (first
    | (go_at_call 11; refine Hp.out.mono ?_; rintro e w1 ⟨rfl, hb1⟩; have Hb := Lib.hid hb1; clear hb1)
    | (go_at_call 8; refine (awake13_any _).mono ?_; rintro e w9 ⟨rfl, hb9⟩; replace Hb := Lib.hid (Hb.out.trans (hb9.mono Hb.out.size)); clear hb9))
  go_ret
  exact ⟨rfl, Hb.out⟩
set_option maxRecDepth 100000 in
set_option maxHeartbeats 4000000 in
theorem bwtOnly_yes (s : List UInt8) (r : Int) (w : World) (h : s.length ≤ 2000) (T : List UInt8) (hF : biF s r = (T, 0)) (hT : btF T = (s, r, 0)) (hl : T.length = s.length) :
    Calls Try.prog 6 #[.string ⟨s.toArray⟩, .int .i64 r] w fun e w' => e = .returned (.bool true) ∧ Below w.heap.size w w' := by
  have h1 : ¬ (2000 : Int) < s.length := by omega
  have hp := p_binverse_any s r w (by omega)
  have hq := fun W => p_bforward_any T W (by omega)
  rw [hF] at hp
  rw [hT] at hq
  unfold TPost at hp
  unfold BPost at hq
  dsimp only at hp hq
  have Hp := Lib.hid hp
  have Hq := Lib.hid hq
  have hL : (s == s) = true := by simp
  have hR : (r == r) = true := by simp
  clear hp hq h hF hT hl
  go_enter Try.func6, Try.ntmps6
  go_wp2_with (first
    | (go_at_call 11; refine Hp.out.mono ?_; rintro e w1 ⟨rfl, hb1⟩; have Hb := Lib.hid hb1; clear hb1)
    | (go_at_call 9; refine (Hq.out _).mono ?_; rintro e w2 ⟨rfl, hb2⟩; replace Hb := Lib.hid (Hb.out.trans (hb2.mono Hb.out.size)); clear hb2)
    | (go_at_call 8; refine (awake13_any _).mono ?_; rintro e w9 ⟨rfl, hb9⟩; replace Hb := Lib.hid (Hb.out.trans (hb9.mono Hb.out.size)); clear hb9))
  go_ret
  exact ⟨rfl, Hb.out⟩
theorem bwtOnly_walk (s : List UInt8) (r : Int) (w : World) :
    Calls Try.prog 6 #[.string ⟨s.toArray⟩, .int .i64 r] w fun e w' => e = .returned (.bool true) ∧ Below w.heap.size w w' := by
  by_cases h : s.length ≤ 2000
  · by_cases h2 : (biF s r).2 = 0
    · obtain ⟨a1, a2⟩ := bi_only s r h2
      exact bwtOnly_yes s r w h (biF s r).1 (Prod.ext rfl h2) a1 a2
    · exact bwtOnly_no s r w h (biF s r).2 (by simpa using h2) (Prod.ext (bi_none s r h2) rfl)
  · exact bwtOnly_far0 s r w (by omega)

namespace BwtOnly
set_option maxRecDepth 100000 in
theorem lifted (os : Os) (started : os.Started) (H : Type) (enc : TypeId × Value → H) :
    ReturnsInHanded {} Try.checked os 6 .any (Rows.bwtOnlySpec.pre6 enc Try.prog Try.f6 Rows.bwtOnlyRow.domain false) (Rows.bwtOnlySpec.post enc Try.prog Try.f6 false true false false) := by
  refine law_sized (C := Try.checked) (tb := 4) ownP started (by kernel_rfl) Try.func6
    (ChangeSpec.witness6 (enc := enc) (C := Try.checked) false ⟨#[], #[.string ⟨#[]⟩, .int .i64 0], []⟩ 8 (by kernel_rfl) (by kernel_rfl) (by kernel_rfl) (by kernel_rfl))
    laidP (by kernel_rfl) rfl (by kernel_rfl) Try.underlying4 (by intro ds h; match ds, h with | [_, _], _ => rfl) ?_
  intro W base args ds p hval0 hA0 hlt _
  have hval : ∀ (j : Nat) t v, Try.f6.params[j]? = some t → args[j]? = some v → Value.okWide Try.prog W .any base t v := hval0
  have hA : DataW.TrodAll enc Try.prog W 0 (fun _ => true) true Try.f6.params.toList args.toList ds p := hA0
  rw [Try.params6] at hA hval
  obtain ⟨v0, v1, d0, d1, p0, p1, rfl, rfl, rfl, h0, h1⟩ := trodAll_two hA
  obtain ⟨s, rfl, rfl⟩ := open_bytes Try.underlying9 (hval 0 9 v0 rfl rfl) h0
  obtain ⟨r, rfl, rfl, rfl, wr⟩ := open_int Try.underlying3 (hval 1 3 v1 rfl rfl) h1
  exact bwtOnly_walk s r W

theorem holds : Rows.BwtOnlySaid :=
  OpenClaim.holds_of_wide 6 Try.f6 rfl rfl rfl rfl rfl rfl rfl ⟨rfl, rfl, rfl, rfl, rfl⟩ rfl rfl rfl rfl rfl (by kernel_rfl) Try.func6 (by kernel_rfl)
    (of_decide_eq_true (by kernel_rfl)) (by unfold Func.isWrapper; first | (rw [if_pos (by decide +kernel)]; kernel_rfl) | (rw [if_neg (by decide +kernel)]; exact ⟨rfl, rfl⟩))
    (fun os started H enc _ => lifted os started H enc)
end BwtOnly
end Go.Proofs.Ytjdpogaaookoeaa
