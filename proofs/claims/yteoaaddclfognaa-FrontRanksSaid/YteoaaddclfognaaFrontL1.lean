/-
  Any bytes have the document's ranks and leave its row; any ranks are its bytes, or none's; the layer's probe holds (FrontRanks). No condition.
-/
import Derived.Test.YteoaaddclfognaaFrontAw
import Derived.Test.YteoaaddclfognaaSame
import Derived.Test.YteoaaddclfognaaFrame
namespace Go.Proofs.Yteoaaddclfognaa
set_option linter.unusedSimpArgs false
set_option linter.unusedVariables false
open Go.ChangeShapes Go.WideShapes Go.ChangeAt Go.RowKit Go.Joins Go.Deep
set_option maxHeartbeats 2000000 in
/-- Beyond the sizes that the statement looks at: the probe alone. -/
theorem frontRanks_far0 (l : List UInt8) (A : Option Addr) (n c : Nat) (w : World) (h : 2000 < l.length) :
    Calls Try.prog 3 #[.string ⟨l.toArray⟩, .slice A n c] w fun e w' => e = .returned (.bool true) ∧ Below w.heap.size w w' := by
  have h1 : (2000 : Int) < l.length := by omega
  go_enter Try.func3, Try.ntmps3
  go_wp2_with (go_at_call 7; refine (awake6_any _).mono ?_; rintro e w9 ⟨rfl, hb9⟩)
  go_ret
  exact ⟨rfl, hb9⟩
set_option maxHeartbeats 2000000 in
/-- Beyond the sizes that the statement looks at: the probe alone. -/
theorem frontRanks_far1 (l : List UInt8) (A : Option Addr) (n c : Nat) (w : World) (h : l.length ≤ 2000) (k : 2000 < n) :
    Calls Try.prog 3 #[.string ⟨l.toArray⟩, .slice A n c] w fun e w' => e = .returned (.bool true) ∧ Below w.heap.size w w' := by
  have h1 : ¬ (2000 : Int) < l.length := by omega
  have h2 : (2000 : Int) < n := by omega
  go_enter Try.func3, Try.ntmps3
  go_wp2_with (go_at_call 7; refine (awake6_any _).mono ?_; rintro e w9 ⟨rfl, hb9⟩)
  go_ret
  exact ⟨rfl, hb9⟩

set_option maxRecDepth 100000 in
set_option maxHeartbeats 8000000 in
theorem frontRanks_near (l : List UInt8) (A : Option Addr) (n c : Nat) (ks : List Int) (w : World) (hr : Reads w w.heap.size 1 A n (ints ks)) (h : l.length ≤ 2000) (k : n ≤ 2000) :
    Calls Try.prog 3 #[.string ⟨l.toArray⟩, .slice A n c] w fun e w' => e = .returned (.bool true) ∧ Below w.heap.size w w' := by
  have h1 : ¬ (2000 : Int) < l.length := by omega
  have h2 : ¬ (2000 : Int) < n := by omega
  have Htext := Lib.hid fun W hr => fr_text_any A n c ks W (by omega) hr
  have Hrtext := Lib.hid fun W hr => ref_text_any A n c ks W (by omega) hr
  have Hrk := Lib.hid fun W => fr_ranks_any l (by omega) W
  have Hrrk := Lib.hid fun W => ref_ranks_any l (by omega) W
  have Hrow := Lib.hid fun W => fr_row_any l (by omega) W
  have Hrrow := Lib.hid fun W => ref_row_any l (by omega) W
  have Hh := Lib.hid h
  have Hsame : Hid (∀ (xs : List Int) (A1 A2 : Option Addr) (n1 c1 c2 : Nat) (W : World), n1 ≤ 2000 → Reads W W.heap.size 1 A1 n1 (ints xs) → Reads W W.heap.size 1 A2 n1 (ints xs) → Calls Try.prog 10 #[.slice A1 n1 c1, .slice A2 n1 c2] W fun e w' => e = .returned (.bool true) ∧ Below W.heap.size W w') := Lib.hid fun xs A1 A2 n1 c1 c2 W hn h1 h2 => by
    have := same_any A1 A2 n1 n1 c1 c2 xs xs W h1 h2 (by omega) (by omega)
    rwa [show decide (xs = xs) = true from by simp] at this
  have Hr := Lib.hid hr
  clear hr h k
  generalize rtextF ks = F at *
  generalize rowS row0 l = R at *
  generalize rks row0 l = xs at *
  go_enter Try.func3, Try.ntmps3
  go_wp2_with (first
    | (go_at_call 8; refine (Htext.out _ Hr.out).mono ?_; rintro e w1 ⟨rfl, hb1⟩; have Hb1 := Lib.hid hb1; clear hb1)
    | (go_at_call 9; refine (Hrtext.out _ ((Hr.out.below Hb1.out).more Hb1.out.size)).mono ?_; rintro e w2 ⟨rfl, hb2⟩; have Hb2 := Lib.hid (Hb1.out.trans (hb2.mono Hb1.out.size)); clear hb2)
    | (go_at_call 11; refine (Hrk.out _).mono ?_; rintro e w3 ⟨A1, c1, rfl, _, hr1, hb3⟩; have Hr1 := Lib.hid hr1; have Hb3 := Lib.hid (Hb2.out.trans (hb3.mono Hb2.out.size)); clear hb3 hr1)
    | (go_at_call 12; refine (Hrrk.out _).mono ?_; rintro e w4 ⟨A2, c2, rfl, _, hr2, hb4⟩; have Hr2 := Lib.hid hr2; have Hr1 := Lib.hid ((Hr1.out.below hb4).more hb4.size); have Hb4 := Lib.hid (Hb3.out.trans (hb4.mono Hb3.out.size)); clear hb4 hr2)
    | (go_at_call 10; refine (Hsame.out _ _ _ _ _ _ _ Hh.out Hr1.out Hr2.out).mono ?_; rintro e w5 ⟨rfl, hb5⟩; have Hb5 := Lib.hid (Hb4.out.trans (hb5.mono Hb4.out.size)); clear hb5)
    | (go_at_call 13; refine (Hrow.out _).mono ?_; rintro e w6 ⟨rfl, hb6⟩; have Hb6 := Lib.hid (Hb5.out.trans (hb6.mono Hb5.out.size)); clear hb6)
    | (go_at_call 14; refine (Hrrow.out _).mono ?_; rintro e w7 ⟨rfl, hb7⟩; have Hb7 := Lib.hid (Hb6.out.trans (hb7.mono Hb6.out.size)); clear hb7)
    | (go_at_call 7; refine (awake6_any _).mono ?_; rintro e w9 ⟨rfl, hb9⟩; have Hb9 := Lib.hid (Hb7.out.trans (hb9.mono Hb7.out.size)); clear hb9))
  go_ret
  exact ⟨rfl, Hb9.out⟩
theorem frontRanks_walk (l : List UInt8) (A : Option Addr) (n c : Nat) (ks : List Int) (w : World) (hr : Reads w w.heap.size 1 A n (ints ks)) :
    Calls Try.prog 3 #[.string ⟨l.toArray⟩, .slice A n c] w fun e w' => e = .returned (.bool true) ∧ Below w.heap.size w w' := by
  by_cases h : l.length ≤ 2000
  · by_cases k : n ≤ 2000
    · exact frontRanks_near l A n c ks w hr h k
    · exact frontRanks_far1 l A n c w h (by omega)
  · exact frontRanks_far0 l A n c w (by omega)

namespace FrontRanks
set_option maxRecDepth 100000 in
theorem lifted (os : Os) (started : os.Started) (H : Type) (enc : TypeId × Value → H) :
    ReturnsInHanded {} Try.checked os 3 .any (Rows.frontRanksSpec.pre6 enc Try.prog Try.f3 Rows.frontRanksRow.domain false) (Rows.frontRanksSpec.post enc Try.prog Try.f3 false true false false) := by
  refine law_sized (C := Try.checked) (tb := 4) ownP started (by kernel_rfl) Try.func3
    (ChangeSpec.witness6 (enc := enc) (C := Try.checked) false ⟨#[], #[.string ⟨#[]⟩, .slice none 0 0], []⟩ 8 (by kernel_rfl) (by kernel_rfl) (by kernel_rfl) (by kernel_rfl))
    laidP (by kernel_rfl) rfl (by kernel_rfl) Try.underlying4 (by intro ds h; match ds, h with | [_, _], _ => rfl) ?_
  intro W base args ds p hval0 hA0 hlt _
  have hval : ∀ (j : Nat) t v, Try.f3.params[j]? = some t → args[j]? = some v → Value.okWide Try.prog W .any base t v := hval0
  have hA : DataW.TrodAll enc Try.prog W 0 (fun _ => true) true Try.f3.params.toList args.toList ds p := hA0
  rw [Try.params3] at hA hval
  obtain ⟨v0, v1, d0, d1, p0, p1, rfl, rfl, rfl, h0, h1⟩ := trodAll_two hA
  obtain ⟨l, rfl, rfl⟩ := open_bytes Try.underlying9 (hval 0 9 v0 rfl rfl) h0
  obtain ⟨Aks, nks, cks, ks, rfl, eks, hnks, hmks, hrks, hbks⟩ := open_nums rfl Try.underlying22 Try.underlying3 (by kernel_rfl) (hval 1 22 v1 rfl rfl) h1
  exact frontRanks_walk l Aks nks cks ks W hrks

theorem holds : Rows.FrontRanksSaid :=
  OpenClaim.holds_of_wide 3 Try.f3 rfl rfl rfl rfl rfl rfl rfl ⟨rfl, rfl, rfl, rfl, rfl⟩ rfl rfl rfl rfl rfl (by kernel_rfl) Try.func3 (by kernel_rfl)
    (of_decide_eq_true (by kernel_rfl)) (by unfold Func.isWrapper; first | (rw [if_pos (by decide +kernel)]; kernel_rfl) | (rw [if_neg (by decide +kernel)]; exact ⟨rfl, rfl⟩))
    (fun os started H enc _ => lifted os started H enc)
end FrontRanks
end Go.Proofs.Yteoaaddclfognaa
