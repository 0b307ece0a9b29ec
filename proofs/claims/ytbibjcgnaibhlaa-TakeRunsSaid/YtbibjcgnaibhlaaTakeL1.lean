/-
  For any bytes and any wants: the program's Run answers as the document's own does, and the layer's probe holds (TakeRuns). No condition.
-/
import Derived.Test.YtbibjcgnaibhlaaTakeT
import Derived.Test.YtbibjcgnaibhlaaTakeU
import Derived.Test.YtbibjcgnaibhlaaTakeAw
namespace Go.Proofs.Ytbibjcgnaibhlaa
set_option linter.unusedSimpArgs false
set_option linter.unusedVariables false
open Go.ChangeShapes Go.WideShapes Go.ChangeAt Go.RowKit Go.Joins Go.Deep
theorem few_any (A : Option Addr) (n c : Nat) (w : World) : Calls Try.prog 7 #[.slice A n c] w fun e w' => e = .returned (.bool (decide (n ≤ 200))) ∧ w = w' := by
  by_cases h : n ≤ 200
  · rw [decide_eq_true h]
    have h' : (n : Int) ≤ 200 := by omega
    go_enter Try.func7, Try.ntmps7
    go_wp2
    go_ret
    exact ⟨rfl, rfl⟩
  · rw [decide_eq_false h]
    have h' : ¬ (n : Int) ≤ 200 := by omega
    go_enter Try.func7, Try.ntmps7
    go_wp2
    go_ret
    exact ⟨rfl, rfl⟩
theorem few_yes {n : Nat} (A : Option Addr) (c : Nat) (h : n ≤ 200) (w : World) : Calls Try.prog 7 #[.slice A n c] w fun e w' => e = .returned (.bool true) ∧ w = w' := by
  have := few_any A n c w
  rwa [decide_eq_true h] at this
theorem few_no {n : Nat} (A : Option Addr) (c : Nat) (h : ¬ n ≤ 200) (w : World) : Calls Try.prog 7 #[.slice A n c] w fun e w' => e = .returned (.bool false) ∧ w = w' := by
  have := few_any A n c w
  rwa [decide_eq_false h] at this

set_option maxHeartbeats 2000000 in
/-- Beyond the sizes that the statement looks at: the probe alone. -/
theorem takeRuns_far (l : List UInt8) (A : Option Addr) (n c : Nat) (w : World) (h : ¬ n ≤ 200 ∨ 10000 < l.length) :
    Calls Try.prog 3 #[.string ⟨l.toArray⟩, .slice A n c] w fun e w' => e = .returned (.bool true) ∧ Below w.heap.size w w' := by
  by_cases h1 : n ≤ 200
  · have h2 : 10000 < l.length := by omega
    have hf := few_yes A c h1
    clear h
    go_enter Try.func3, Try.ntmps3
    go_wp2_with (first | (go_at_call 7; refine (hf _).mono ?_; rintro e w0 ⟨rfl, rfl⟩) | (go_at_call 8; refine (awake_any _).mono ?_; rintro e w9 ⟨rfl, hb9⟩))
    go_ret
    exact ⟨rfl, hb9⟩
  · have hf := few_no A c h1
    clear h
    go_enter Try.func3, Try.ntmps3
    go_wp2_with (first | (go_at_call 7; refine (hf _).mono ?_; rintro e w0 ⟨rfl, rfl⟩) | (go_at_call 8; refine (awake_any _).mono ?_; rintro e w9 ⟨rfl, hb9⟩))
    go_ret
    exact ⟨rfl, hb9⟩


set_option maxHeartbeats 4000000 in
theorem takeRuns_near (l : List UInt8) (A : Option Addr) (n c : Nat) (ws : List (Int × Int)) (w : World) (hn : ws.length = n) (h1 : n ≤ 200) (h2 : l.length ≤ 10000) (hr : Reads w w.heap.size 2 A n (pairs .i64 ws)) :
    Calls Try.prog 3 #[.string ⟨l.toArray⟩, .slice A n c] w fun e w' => e = .returned (.bool true) ∧ Below w.heap.size w w' := by
  obtain ⟨gs, q, e, hR⟩ : ∃ gs q e, runF l 0 ws = (gs, q, e) := ⟨_, _, _, rfl⟩
  have hgl := (runF_len (l := l) ws 0).1
  rw [hR] at hgl
  have Hgl : Hid (gs.length ≤ 4611686018427387904) := Lib.hid (by simp only at hgl; omega)
  have hf := few_yes A c h1
  have hrun := fun w0 hr0 => run_any l A n c ws w0 (by omega) hn (by omega) hr0 _ hR
  have href := fun w0 hr0 => refRun_any l A n c ws w0 (by omega) hn (by omega) hr0 _ hR
  have Hr := Lib.hid hr
  clear hn hr hR hgl
  go_enter Try.func3, Try.ntmps3
  go_wp2_with (first
    | (go_at_call 7; refine (hf _).mono ?_; rintro e w0 ⟨rfl, rfl⟩)
    | (go_at_call 9; refine (hrun _ Hr.out).mono ?_; rintro e w1 ⟨A1, c1, rfl, hr1, hb1⟩; have Hb1 := Lib.hid hb1; have Hr1 := Lib.hid hr1; clear hr1 hb1)
    | (go_at_call 10; refine (href _ ((Hr.out.below Hb1.out).more Hb1.out.size)).mono ?_; rintro e w2 ⟨A2, c2, rfl, hr2, hb2⟩; have Hb2 := Lib.hid hb2; have Hr2 := Lib.hid hr2; clear hr2 hb2)
    | (go_at_call 11; refine (sameGot_any A1 A2 _ _ c1 c2 gs gs _ ((Hr1.out.below Hb2.out).more Hb2.out.size) Hr2.out Hgl.out Hgl.out).mono ?_; rintro e w3 ⟨rfl, hb3⟩)
    | (go_at_call 8; refine (awake_any _).mono ?_; rintro e w9 ⟨rfl, hb9⟩))
  go_ret
  exact ⟨rfl, Hb1.out.trans ((Hb2.out.trans ((hb3.trans (hb9.mono hb3.size)).mono Hb2.out.size)).mono Hb1.out.size)⟩

theorem takeRuns_walk (l : List UInt8) (A : Option Addr) (n c : Nat) (ws : List (Int × Int)) (w : World) (hn : ws.length = n) (hr : Reads w w.heap.size 2 A n (pairs .i64 ws)) :
    Calls Try.prog 3 #[.string ⟨l.toArray⟩, .slice A n c] w fun e w' => e = .returned (.bool true) ∧ Below w.heap.size w w' := by
  by_cases h : ¬ n ≤ 200 ∨ 10000 < l.length
  · exact takeRuns_far l A n c w h
  · exact takeRuns_near l A n c ws w hn (by omega) (by omega) hr

namespace TakeRuns
set_option maxRecDepth 100000 in
theorem lifted (os : Os) (started : os.Started) (H : Type) (enc : TypeId × Value → H) :
    ReturnsInHanded {} Try.checked os 3 .any (Rows.takeRunsSpec.pre6 enc Try.prog Try.f3 Rows.takeRunsRow.domain false) (Rows.takeRunsSpec.post enc Try.prog Try.f3 false true false false) := by
  refine law_sized (C := Try.checked) (tb := 4) ownP started (by kernel_rfl) Try.func3
    (ChangeSpec.witness6 (enc := enc) (C := Try.checked) false ⟨#[], #[.string ⟨#[]⟩, .slice none 0 0], []⟩ 8 (by kernel_rfl) (by kernel_rfl) (by kernel_rfl) (by kernel_rfl))
    laidP (by kernel_rfl) rfl (by kernel_rfl) Try.underlying4 (by intro ds h; match ds, h with | [_, _], _ => rfl) ?_
  intro W base args ds p hval0 hA0 hlt _
  have hval : ∀ (j : Nat) t v, Try.f3.params[j]? = some t → args[j]? = some v → Value.okWide Try.prog W .any base t v := hval0
  have hA : DataW.TrodAll enc Try.prog W 0 (fun _ => true) true Try.f3.params.toList args.toList ds p := hA0
  rw [Try.params3] at hA hval
  obtain ⟨v0, v1, d0, d1, p0, p1, rfl, rfl, rfl, h0, h1⟩ := trodAll_two hA
  obtain ⟨l, rfl, rfl⟩ := open_bytes Try.underlying9 (hval 0 9 v0 rfl rfl) h0
  obtain ⟨Aws, nws, cws, ws, rfl, ews, hnws, hmws, hrws, hbws⟩ := open_pair_slice Try.underlying22 Try.underlying36 (by kernel_rfl) rfl rfl (by kernel_rfl) (by kernel_rfl) Try.underlying3 Try.underlying3 (hval 1 22 v1 rfl rfl) h1
  exact takeRuns_walk l Aws nws cws ws W ews hrws

theorem holds : Rows.TakeRunsSaid :=
  OpenClaim.holds_of_wide 3 Try.f3 rfl rfl rfl rfl rfl rfl rfl ⟨rfl, rfl, rfl, rfl, rfl⟩ rfl rfl rfl rfl rfl (by kernel_rfl) Try.func3 (by kernel_rfl)
    (of_decide_eq_true (by kernel_rfl)) (by unfold Func.isWrapper; first | (rw [if_pos (by decide +kernel)]; kernel_rfl) | (rw [if_neg (by decide +kernel)]; exact ⟨rfl, rfl⟩))
    (fun os started H enc _ => lifted os started H enc)
end TakeRuns
end Go.Proofs.Ytbibjcgnaibhlaa
