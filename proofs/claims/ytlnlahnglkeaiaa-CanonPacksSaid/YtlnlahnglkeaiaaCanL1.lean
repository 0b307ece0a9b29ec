/-
  Any lengths have the document's code words, or none; any symbols its bytes; the layer's probe holds (CanonPacks). No condition.
-/
import Derived.Test.YtlnlahnglkeaiaaCanAw
import Derived.Test.YtlnlahnglkeaiaaCanS
import Derived.Test.YtlnlahnglkeaiaaFrame
namespace Go.Proofs.Ytlnlahnglkeaiaa
set_option linter.unusedSimpArgs false
set_option linter.unusedVariables false
open Go.ChangeShapes Go.WideShapes Go.ChangeAt Go.RowKit Go.Joins Go.Deep
set_option maxHeartbeats 2000000 in
/-- Beyond the sizes that the statement looks at: the probe alone. -/
theorem canonPacks_far0 (A : Option Addr) (n c : Nat) (A2 : Option Addr) (n2 c2 : Nat) (w : World) (h : 300 < n) :
    Calls Try.prog 3 #[.slice A n c, .slice A2 n2 c2] w fun e w' => e = .returned (.bool true) ∧ Below w.heap.size w w' := by
  have h1 : (300 : Int) < n := by omega
  go_enter Try.func3, Try.ntmps3
  go_wp2_with (go_at_call 9; refine (awake9_any _).mono ?_; rintro e w9 ⟨rfl, hb9⟩)
  go_ret
  exact ⟨rfl, hb9⟩
set_option maxHeartbeats 2000000 in
/-- Beyond the sizes that the statement looks at: the probe alone. -/
theorem canonPacks_far1 (A : Option Addr) (n c : Nat) (A2 : Option Addr) (n2 c2 : Nat) (w : World) (h : n ≤ 300) (k : 500 < n2) :
    Calls Try.prog 3 #[.slice A n c, .slice A2 n2 c2] w fun e w' => e = .returned (.bool true) ∧ Below w.heap.size w w' := by
  have h1 : ¬ (300 : Int) < n := by omega
  have h2 : (500 : Int) < n2 := by omega
  go_enter Try.func3, Try.ntmps3
  go_wp2_with (go_at_call 9; refine (awake9_any _).mono ?_; rintro e w9 ⟨rfl, hb9⟩)
  go_ret
  exact ⟨rfl, hb9⟩

set_option maxRecDepth 100000 in
set_option maxHeartbeats 8000000 in
theorem canonPacks_near (A : Option Addr) (n c : Nat) (l : List Int) (A2 : Option Addr) (n2 c2 : Nat) (sy : List Int) (w : World) (hr : Reads w w.heap.size 1 A n (ints l)) (hr2 : Reads w w.heap.size 1 A2 n2 (ints sy)) (h : n ≤ 300) (h' : n2 ≤ 500) :
    Calls Try.prog 3 #[.slice A n c, .slice A2 n2 c2] w fun e w' => e = .returned (.bool true) ∧ Below w.heap.size w w' := by
  have h1 : ¬ (300 : Int) < n := by omega
  have h2 : ¬ (500 : Int) < n2 := by omega
  have Hp := Lib.hid fun W hr => p_cwords_any l A n c W (by omega) hr
  have Hq := Lib.hid fun W hr => cref_words_any l A n c W (by omega) hr
  have Hp2 := Lib.hid fun W hr hr2 => p_cpack_any l sy A A2 n c n2 c2 W (by omega) (by omega) hr hr2
  have Hq2 := Lib.hid fun W hr hr2 => cref_pack_any l sy A A2 n c n2 c2 W (by omega) (by omega) hr hr2
  have HFl : Hid ((cwordsF l).1.length ≤ 1000000) := Lib.hid (by have := cwords_len l; omega)
  have Hsame : Hid (∀ (xs : List (Int × Int)) (N : Nat) (A1 A2 : Option Addr) (c1 c2 : Nat) (W : World), xs.length = N → N ≤ 1000000 → Reads W W.heap.size 2 A1 N (pairs .i64 xs) → Reads W W.heap.size 2 A2 N (pairs .i64 xs) → Calls Try.prog 14 #[.slice A1 N c1, .slice A2 N c2] W fun e w' => e = .returned (.bool true) ∧ Below W.heap.size W w') := Lib.hid fun xs N A1 A2 c1 c2 W hl hn h1 h2 => by
    have := cref_same_any A1 A2 N N c1 c2 xs xs W hl hl h1 h2 (by omega) (by omega)
    rwa [show decide (xs = xs) = true from by simp] at this
  have Hr := Lib.hid hr
  have Hr2 := Lib.hid hr2
  clear hr hr2 h h'
  generalize cwordsF l = F at *
  generalize cpackF l sy = G at *
  have hE1 : (F.2 == F.2) = true := by simp
  have hE2 : (G.2 == G.2) = true := by simp
  go_enter Try.func3, Try.ntmps3
  go_wp2_with (first
    | (go_at_call 10; refine (Hp.out _ Hr.out).mono ?_; rintro e w1 ⟨A1, c1, rfl, _, hr1, hb1⟩; have Hr1 := Lib.hid hr1; have Hb := Lib.hid hb1; clear hb1 hr1)
    | (go_at_call 11; refine (Hq.out _ (Hr.out.on Hb.out)).mono ?_; rintro e w2 ⟨A3, c3, rfl, _, hr3, hb2⟩; have Hr3 := Lib.hid hr3; replace Hr1 := Lib.hid (Hr1.out.on hb2); replace Hb := Lib.hid (Hb.out.trans (hb2.mono Hb.out.size)); clear hb2; clear hr3)
    | (go_at_call 12; refine (Hp2.out _ (Hr.out.on Hb.out) (Hr2.out.on Hb.out)).mono ?_; rintro e w3 ⟨rfl, hb3⟩; replace Hr1 := Lib.hid (Hr1.out.on hb3); replace Hr3 := Lib.hid (Hr3.out.on hb3); replace Hb := Lib.hid (Hb.out.trans (hb3.mono Hb.out.size)); clear hb3)
    | (go_at_call 13; refine (Hq2.out _ (Hr.out.on Hb.out) (Hr2.out.on Hb.out)).mono ?_; rintro e w4 ⟨rfl, hb4⟩; replace Hr1 := Lib.hid (Hr1.out.on hb4); replace Hr3 := Lib.hid (Hr3.out.on hb4); replace Hb := Lib.hid (Hb.out.trans (hb4.mono Hb.out.size)); clear hb4)
    | (go_at_call 14; (with_reducible refine (Hsame.out F.1 _ _ _ _ _ _ rfl HFl.out Hr1.out Hr3.out).mono ?_); rintro e w5 ⟨rfl, hb5⟩; replace Hb := Lib.hid (Hb.out.trans (hb5.mono Hb.out.size)); clear hb5; clear Hr1 Hr3)
    | (go_at_call 9; refine (awake9_any _).mono ?_; rintro e w9 ⟨rfl, hb9⟩; replace Hb := Lib.hid (Hb.out.trans (hb9.mono Hb.out.size)); clear hb9))
  go_ret
  exact ⟨rfl, Hb.out⟩
theorem canonPacks_walk (A : Option Addr) (n c : Nat) (l : List Int) (A2 : Option Addr) (n2 c2 : Nat) (sy : List Int) (w : World) (hr : Reads w w.heap.size 1 A n (ints l)) (hr2 : Reads w w.heap.size 1 A2 n2 (ints sy)) :
    Calls Try.prog 3 #[.slice A n c, .slice A2 n2 c2] w fun e w' => e = .returned (.bool true) ∧ Below w.heap.size w w' := by
  by_cases h : n ≤ 300
  · by_cases h2 : n2 ≤ 500
    · exact canonPacks_near A n c l A2 n2 c2 sy w hr hr2 h h2
    · exact canonPacks_far1 A n c A2 n2 c2 w h (by omega)
  · exact canonPacks_far0 A n c A2 n2 c2 w (by omega)

namespace CanonPacks
set_option maxRecDepth 100000 in
theorem lifted (os : Os) (started : os.Started) (H : Type) (enc : TypeId × Value → H) :
    ReturnsInHanded {} Try.checked os 3 .any (Rows.canonPacksSpec.pre6 enc Try.prog Try.f3 Rows.canonPacksRow.domain false) (Rows.canonPacksSpec.post enc Try.prog Try.f3 false true false false) := by
  refine law_sized (C := Try.checked) (tb := 4) ownP started (by kernel_rfl) Try.func3
    (ChangeSpec.witness6 (enc := enc) (C := Try.checked) false ⟨#[], #[.slice none 0 0, .slice none 0 0], []⟩ 8 (by kernel_rfl) (by kernel_rfl) (by kernel_rfl) (by kernel_rfl))
    laidP (by kernel_rfl) rfl (by kernel_rfl) Try.underlying4 (by intro ds h; match ds, h with | [_, _], _ => rfl) ?_
  intro W base args ds p hval0 hA0 hlt _
  have hval : ∀ (j : Nat) t v, Try.f3.params[j]? = some t → args[j]? = some v → Value.okWide Try.prog W .any base t v := hval0
  have hA : DataW.TrodAll enc Try.prog W 0 (fun _ => true) true Try.f3.params.toList args.toList ds p := hA0
  rw [Try.params3] at hA hval
  obtain ⟨v0, v1, d0, d1, p0, p1, rfl, rfl, rfl, h0, h1⟩ := trodAll_two hA
  obtain ⟨Aks, nks, cks, ks, rfl, eks, hnks, hmks, hrks, hbks⟩ := open_nums rfl Try.underlying22 Try.underlying3 (by kernel_rfl) (hval 0 22 v0 rfl rfl) h0
  obtain ⟨Ass, nss, css, ss, rfl, ess, hnss, hmss, hrss, hbss⟩ := open_nums rfl Try.underlying22 Try.underlying3 (by kernel_rfl) (hval 1 22 v1 rfl rfl) h1
  exact canonPacks_walk Aks nks cks ks Ass nss css ss W hrks hrss

theorem holds : Rows.CanonPacksSaid :=
  OpenClaim.holds_of_wide 3 Try.f3 rfl rfl rfl rfl rfl rfl rfl ⟨rfl, rfl, rfl, rfl, rfl⟩ rfl rfl rfl rfl rfl (by kernel_rfl) Try.func3 (by kernel_rfl)
    (of_decide_eq_true (by kernel_rfl)) (by unfold Func.isWrapper; first | (rw [if_pos (by decide +kernel)]; kernel_rfl) | (rw [if_neg (by decide +kernel)]; exact ⟨rfl, rfl⟩))
    (fun os started H enc _ => lifted os started H enc)
end CanonPacks
end Go.Proofs.Ytlnlahnglkeaiaa
