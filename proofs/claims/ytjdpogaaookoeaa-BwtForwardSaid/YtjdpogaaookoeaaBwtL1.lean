/-
  Any text has the document's transform; the layer's probe holds (BwtForward). No condition.
-/
import Derived.Test.YtjdpogaaookoeaaBwtAw
import Derived.Test.YtjdpogaaookoeaaFrame
namespace Go.Proofs.Ytjdpogaaookoeaa
set_option linter.unusedSimpArgs false
set_option linter.unusedVariables false
open Go.ChangeShapes Go.WideShapes Go.ChangeAt Go.RowKit Go.Joins Go.Deep
set_option maxHeartbeats 2000000 in
/-- Beyond the sizes that the statement looks at: the probe alone. -/
theorem bwtForward_far0 (s : List UInt8) (w : World) (h : 600 < s.length) :
    Calls Try.prog 3 #[.string ⟨s.toArray⟩] w fun e w' => e = .returned (.bool true) ∧ Below w.heap.size w w' := by
  have h1 : (600 : Int) < s.length := by omega
  go_enter Try.func3, Try.ntmps3
  go_wp2_with (go_at_call 8; refine (awake13_any _).mono ?_; rintro e w9 ⟨rfl, hb9⟩)
  go_ret
  exact ⟨rfl, hb9⟩

set_option maxRecDepth 100000 in
set_option maxHeartbeats 4000000 in
theorem bwtForward_near (s : List UInt8) (w : World) (h : s.length ≤ 600) :
    Calls Try.prog 3 #[.string ⟨s.toArray⟩] w fun e w' => e = .returned (.bool true) ∧ Below w.heap.size w w' := by
  have h1 : ¬ (600 : Int) < s.length := by omega
  have hp := p_bforward_any s w (by omega)
  have hq := fun W => bref_forward_any s W (by omega)
  unfold BPost at hp hq
  generalize btF s = F at *
  obtain ⟨L, Q, E⟩ := F
  dsimp only at hp hq
  have Hp := Lib.hid hp
  have Hq := Lib.hid hq
  have hL : (L == L) = true := by simp
  have hQ : (Q == Q) = true := by simp
  have hE : (E == E) = true := by simp
  clear hp hq h
  go_enter Try.func3, Try.ntmps3
  go_wp2_with (first
    | (go_at_call 9; refine Hp.out.mono ?_; rintro e w1 ⟨rfl, hb1⟩; have Hb := Lib.hid hb1; clear hb1)
    | (go_at_call 10; refine (Hq.out _).mono ?_; rintro e w2 ⟨rfl, hb2⟩; replace Hb := Lib.hid (Hb.out.trans (hb2.mono Hb.out.size)); clear hb2)
    | (go_at_call 8; refine (awake13_any _).mono ?_; rintro e w9 ⟨rfl, hb9⟩; replace Hb := Lib.hid (Hb.out.trans (hb9.mono Hb.out.size)); clear hb9))
  go_ret
  exact ⟨rfl, Hb.out⟩
theorem bwtForward_walk (s : List UInt8) (w : World) :
    Calls Try.prog 3 #[.string ⟨s.toArray⟩] w fun e w' => e = .returned (.bool true) ∧ Below w.heap.size w w' := by
  by_cases h : s.length ≤ 600
  · exact bwtForward_near s w h
  · exact bwtForward_far0 s w (by omega)

namespace BwtForward
set_option maxRecDepth 100000 in
theorem lifted (os : Os) (started : os.Started) (H : Type) (enc : TypeId × Value → H) :
    ReturnsInHanded {} Try.checked os 3 .any (Rows.bwtForwardSpec.pre6 enc Try.prog Try.f3 Rows.bwtForwardRow.domain false) (Rows.bwtForwardSpec.post enc Try.prog Try.f3 false true false false) := by
  refine law_sized (C := Try.checked) (tb := 4) ownP started (by kernel_rfl) Try.func3
    (ChangeSpec.witness6 (enc := enc) (C := Try.checked) false ⟨#[], #[.string ⟨#[]⟩], []⟩ 8 (by kernel_rfl) (by kernel_rfl) (by kernel_rfl) (by kernel_rfl))
    laidP (by kernel_rfl) rfl (by kernel_rfl) Try.underlying4 (by intro ds h; match ds, h with | [_], _ => rfl) ?_
  intro W base args ds p hval0 hA0 hlt _
  have hval : ∀ (j : Nat) t v, Try.f3.params[j]? = some t → args[j]? = some v → Value.okWide Try.prog W .any base t v := hval0
  have hA : DataW.TrodAll enc Try.prog W 0 (fun _ => true) true Try.f3.params.toList args.toList ds p := hA0
  rw [Try.params3] at hA hval
  obtain ⟨v0, d0, rfl, rfl, h0⟩ := trodAll_one hA
  obtain ⟨s, rfl, rfl⟩ := open_bytes Try.underlying9 (hval 0 9 v0 rfl rfl) h0
  exact bwtForward_walk s W

theorem holds : Rows.BwtForwardSaid :=
  OpenClaim.holds_of_wide 3 Try.f3 rfl rfl rfl rfl rfl rfl rfl ⟨rfl, rfl, rfl, rfl, rfl⟩ rfl rfl rfl rfl rfl (by kernel_rfl) Try.func3 (by kernel_rfl)
    (of_decide_eq_true (by kernel_rfl)) (by unfold Func.isWrapper; first | (rw [if_pos (by decide +kernel)]; kernel_rfl) | (rw [if_neg (by decide +kernel)]; exact ⟨rfl, rfl⟩))
    (fun os started H enc _ => lifted os started H enc)
end BwtForward
end Go.Proofs.Ytjdpogaaookoeaa
