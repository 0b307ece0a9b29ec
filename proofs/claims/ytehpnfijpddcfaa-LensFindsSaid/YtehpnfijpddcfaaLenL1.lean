/-
  Of any counts, with any limit, the best lengths are the document's, or none; the layer's probe holds (LensFinds). No condition.
-/
import Derived.Test.YtehpnfijpddcfaaLenAw
import Derived.Test.YtehpnfijpddcfaaLenD
import Derived.Test.YtehpnfijpddcfaaFrame
namespace Go.Proofs.Ytehpnfijpddcfaa
set_option linter.unusedSimpArgs false
set_option linter.unusedVariables false
open Go.ChangeShapes Go.WideShapes Go.ChangeAt Go.RowKit Go.Joins Go.Deep
set_option maxHeartbeats 2000000 in
/-- Beyond the sizes that the statement looks at: the probe alone. -/
theorem lensFinds_far (A : Option Addr) (n c : Nat) (m : Int) (w : World) (h : 300 < n) :
    Calls Try.prog 3 #[.slice A n c, .int .i64 m] w fun e w' => e = .returned (.bool true) ∧ Below w.heap.size w w' := by
  have h1 : (300 : Int) < n := by omega
  go_enter Try.func3, Try.ntmps3
  go_wp2_with (go_at_call 7; refine (awake8_any _).mono ?_; rintro e w9 ⟨rfl, hb9⟩)
  go_ret
  exact ⟨rfl, hb9⟩

theorem lbestF_len (l : List Int) (m : Int) : (lbestF l m).1.length ≤ l.length := by
  unfold lbestF
  split
  · simp
  · split
    · simp
    · split
      · split
        · simp
        · show (lbestL l m.toNat).length ≤ _
          rw [lbestL_len]
          exact Nat.le_refl _
      · simp
set_option maxRecDepth 100000 in
set_option maxHeartbeats 8000000 in
theorem lensFinds_near (A : Option Addr) (n c : Nat) (m : Int) (l : List Int) (w : World) (hr : Reads w w.heap.size 1 A n (ints l)) (h : n ≤ 300) :
    Calls Try.prog 3 #[.slice A n c, .int .i64 m] w fun e w' => e = .returned (.bool true) ∧ Below w.heap.size w w' := by
  have h1 : ¬ (300 : Int) < n := by omega
  have el : l.length = n := by have := hr.1; rw [ints_length] at this; omega
  have Hp := Lib.hid fun W hr => p_best_any l m A n c W (by omega) hr
  have Hq := Lib.hid fun W hr => lref_best_any l m A n c W (by omega) hr
  have HFl : Hid ((lbestF l m).1.length ≤ 1000000) := Lib.hid (by have := lbestF_len l m; omega)
  have Hsame : Hid (∀ (xs : List Int) (N : Nat) (A1 A2 : Option Addr) (c1 c2 : Nat) (W : World), N ≤ 1000000 → Reads W W.heap.size 1 A1 N (ints xs) → Reads W W.heap.size 1 A2 N (ints xs) → Calls Try.prog 10 #[.slice A1 N c1, .slice A2 N c2] W fun e w' => e = .returned (.bool true) ∧ Below W.heap.size W w') := Lib.hid fun xs N A1 A2 c1 c2 W hn h1 h2 => by
    have := same_any A1 A2 N N c1 c2 xs xs W h1 h2 (by omega) (by omega)
    rwa [show decide (xs = xs) = true from by simp] at this
  have Hr := Lib.hid hr
  clear hr el h
  generalize lbestF l m = F at *
  have hEE : (F.2 == F.2) = true := by simp
  go_enter Try.func3, Try.ntmps3
  go_wp2_with (first
    | (go_at_call 8; refine (Hp.out _ Hr.out).mono ?_; rintro e w1 ⟨A1, c1, rfl, _, hr1, hb1⟩; have Hr1 := Lib.hid hr1; have Hb := Lib.hid hb1; clear hb1 hr1)
    | (go_at_call 9; refine (Hq.out _ ((Hr.out.below Hb.out).more Hb.out.size)).mono ?_; rintro e w2 ⟨A2, c2, rfl, _, hr2, hb2⟩; have Hr2 := Lib.hid hr2; replace Hr1 := Lib.hid ((Hr1.out.below hb2).more hb2.size); replace Hb := Lib.hid (Hb.out.trans (hb2.mono Hb.out.size)); clear hb2 hr2)
    | (go_at_call 10; (with_reducible refine (Hsame.out F.1 _ _ _ _ _ _ HFl.out Hr1.out Hr2.out).mono ?_); rintro e w3 ⟨rfl, hb3⟩; replace Hb := Lib.hid (Hb.out.trans (hb3.mono Hb.out.size)); clear hb3 Hr1)
    | (go_at_call 7; refine (awake8_any _).mono ?_; rintro e w9 ⟨rfl, hb9⟩; replace Hb := Lib.hid (Hb.out.trans (hb9.mono Hb.out.size)); clear hb9))
  go_ret
  exact ⟨rfl, Hb.out⟩
theorem lensFinds_walk (A : Option Addr) (n c : Nat) (m : Int) (l : List Int) (w : World) (hr : Reads w w.heap.size 1 A n (ints l)) :
    Calls Try.prog 3 #[.slice A n c, .int .i64 m] w fun e w' => e = .returned (.bool true) ∧ Below w.heap.size w w' := by
  by_cases h : n ≤ 300
  · exact lensFinds_near A n c m l w hr h
  · exact lensFinds_far A n c m w (by omega)

namespace LensFinds
set_option maxRecDepth 100000 in
theorem lifted (os : Os) (started : os.Started) (H : Type) (enc : TypeId × Value → H) :
    ReturnsInHanded {} Try.checked os 3 .any (Rows.lensFindsSpec.pre6 enc Try.prog Try.f3 Rows.lensFindsRow.domain false) (Rows.lensFindsSpec.post enc Try.prog Try.f3 false true false false) := by
  refine law_sized (C := Try.checked) (tb := 4) ownP started (by kernel_rfl) Try.func3
    (ChangeSpec.witness6 (enc := enc) (C := Try.checked) false ⟨#[], #[.slice none 0 0, .int .i64 0], []⟩ 8 (by kernel_rfl) (by kernel_rfl) (by kernel_rfl) (by kernel_rfl))
    laidP (by kernel_rfl) rfl (by kernel_rfl) Try.underlying4 (by intro ds h; match ds, h with | [_, _], _ => rfl) ?_
  intro W base args ds p hval0 hA0 hlt _
  have hval : ∀ (j : Nat) t v, Try.f3.params[j]? = some t → args[j]? = some v → Value.okWide Try.prog W .any base t v := hval0
  have hA : DataW.TrodAll enc Try.prog W 0 (fun _ => true) true Try.f3.params.toList args.toList ds p := hA0
  rw [Try.params3] at hA hval
  obtain ⟨v0, v1, d0, d1, p0, p1, rfl, rfl, rfl, h0, h1⟩ := trodAll_two hA
  obtain ⟨Aks, nks, cks, ks, rfl, eks, hnks, hmks, hrks, hbks⟩ := open_nums rfl Try.underlying22 Try.underlying3 (by kernel_rfl) (hval 0 22 v0 rfl rfl) h0
  obtain ⟨m, rfl, rfl, rfl, wm⟩ := open_int Try.underlying3 (hval 1 3 v1 rfl rfl) h1
  exact lensFinds_walk Aks nks cks m ks W hrks

theorem holds : Rows.LensFindsSaid :=
  OpenClaim.holds_of_wide 3 Try.f3 rfl rfl rfl rfl rfl rfl rfl ⟨rfl, rfl, rfl, rfl, rfl⟩ rfl rfl rfl rfl rfl (by kernel_rfl) Try.func3 (by kernel_rfl)
    (of_decide_eq_true (by kernel_rfl)) (by unfold Func.isWrapper; first | (rw [if_pos (by decide +kernel)]; kernel_rfl) | (rw [if_neg (by decide +kernel)]; exact ⟨rfl, rfl⟩))
    (fun os started H enc _ => lifted os started H enc)
end LensFinds
end Go.Proofs.Ytehpnfijpddcfaa
