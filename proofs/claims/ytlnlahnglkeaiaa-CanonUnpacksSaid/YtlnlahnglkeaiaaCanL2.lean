/-
  Of any bytes, by any lengths, the document's symbols are told, up to its error; the layer's probe holds (CanonUnpacks). No condition.
-/
import Derived.Test.YtlnlahnglkeaiaaCanAw
import Derived.Test.YtlnlahnglkeaiaaFrame
namespace Go.Proofs.Ytlnlahnglkeaiaa
set_option linter.unusedSimpArgs false
set_option linter.unusedVariables false
open Go.ChangeShapes Go.WideShapes Go.ChangeAt Go.RowKit Go.Joins Go.Deep
set_option maxHeartbeats 2000000 in
/-- Beyond the sizes that the statement looks at: the probe alone. -/
theorem canonUnpacks_far0 (A : Option Addr) (n c : Nat) (s : List UInt8) (N : Int) (w : World) (h : 40 < n) :
    Calls Try.prog 4 #[.slice A n c, .string ⟨s.toArray⟩, .int .i64 N] w fun e w' => e = .returned (.bool true) ∧ Below w.heap.size w w' := by
  have h1 : (40 : Int) < n := by omega
  go_enter Try.func4, Try.ntmps4
  go_wp2_with (go_at_call 9; refine (awake9_any _).mono ?_; rintro e w9 ⟨rfl, hb9⟩)
  go_ret
  exact ⟨rfl, hb9⟩
set_option maxHeartbeats 2000000 in
/-- Beyond the sizes that the statement looks at: the probe alone. -/
theorem canonUnpacks_far1 (A : Option Addr) (n c : Nat) (s : List UInt8) (N : Int) (w : World) (h : n ≤ 40) (k : 60 < s.length) :
    Calls Try.prog 4 #[.slice A n c, .string ⟨s.toArray⟩, .int .i64 N] w fun e w' => e = .returned (.bool true) ∧ Below w.heap.size w w' := by
  have h1 : ¬ (40 : Int) < n := by omega
  have h2 : (60 : Int) < s.length := by omega
  go_enter Try.func4, Try.ntmps4
  go_wp2_with (go_at_call 9; refine (awake9_any _).mono ?_; rintro e w9 ⟨rfl, hb9⟩)
  go_ret
  exact ⟨rfl, hb9⟩
set_option maxHeartbeats 2000000 in
/-- Beyond the sizes that the statement looks at: the probe alone. -/
theorem canonUnpacks_far2 (A : Option Addr) (n c : Nat) (s : List UInt8) (N : Int) (w : World) (h : n ≤ 40) (k : s.length ≤ 60) (k2 : 500 < N) (k3 : N ≤ 100000) :
    Calls Try.prog 4 #[.slice A n c, .string ⟨s.toArray⟩, .int .i64 N] w fun e w' => e = .returned (.bool true) ∧ Below w.heap.size w w' := by
  have h1 : ¬ (40 : Int) < n := by omega
  have h2 : ¬ (60 : Int) < s.length := by omega
  go_enter Try.func4, Try.ntmps4
  go_wp2_with (go_at_call 9; refine (awake9_any _).mono ?_; rintro e w9 ⟨rfl, hb9⟩)
  go_ret
  exact ⟨rfl, hb9⟩


set_option maxRecDepth 100000 in
set_option maxHeartbeats 8000000 in
theorem canonUnpacks_near0 (A : Option Addr) (n c : Nat) (s : List UInt8) (N : Int) (l : List Int) (w : World) (hr : Reads w w.heap.size 1 A n (ints l)) (h : n ≤ 40) (h' : s.length ≤ 60) (k : N ≤ 500) :
    Calls Try.prog 4 #[.slice A n c, .string ⟨s.toArray⟩, .int .i64 N] w fun e w' => e = .returned (.bool true) ∧ Below w.heap.size w w' := by
  have h1 : ¬ (40 : Int) < n := by omega
  have h2 : ¬ (60 : Int) < s.length := by omega
  have h3 : ¬ (500 : Int) < N := by omega
  have Hp := Lib.hid fun W hr => p_cunpack_any l s N A n c W (by omega) (by omega) hr
  have Hq := Lib.hid fun W hr => cref_unpack_any l s N A n c W (by omega) (by omega) hr
  have HFl : Hid ((cunpackF l s N).1.length ≤ 1000000) := Lib.hid (by have := cunpack_len l s N; omega)
  have Hsame : Hid (∀ (xs : List Int) (N : Nat) (A1 A2 : Option Addr) (c1 c2 : Nat) (W : World), N ≤ 1000000 → Reads W W.heap.size 1 A1 N (ints xs) → Reads W W.heap.size 1 A2 N (ints xs) → Calls Try.prog 17 #[.slice A1 N c1, .slice A2 N c2] W fun e w' => e = .returned (.bool true) ∧ Below W.heap.size W w') := Lib.hid fun xs N A1 A2 c1 c2 W hn h1 h2 => by
    have := same_any A1 A2 N N c1 c2 xs xs W h1 h2 (by omega) (by omega)
    rwa [show decide (xs = xs) = true from by simp] at this
  have Hr := Lib.hid hr
  clear hr h h' k
  generalize cunpackF l s N = F at *
  unfold CUnpPost at Hp Hq
  have hE1 : (F.2.2 == F.2.2) = true := by simp
  have hE2 : ((F.2.1 : Int) == (F.2.1 : Int)) = true := by simp
  go_enter Try.func4, Try.ntmps4
  go_wp2_with (first
    | (go_at_call 15; refine (Hp.out _ Hr.out).mono ?_; rintro e w1 ⟨A1, c1, rfl, _, hr1, hb1⟩; have Hr1 := Lib.hid hr1; have Hb := Lib.hid hb1; clear hb1 hr1)
    | (go_at_call 16; refine (Hq.out _ (Hr.out.on Hb.out)).mono ?_; rintro e w2 ⟨A3, c3, rfl, _, hr3, hb2⟩; have Hr3 := Lib.hid hr3; replace Hr1 := Lib.hid (Hr1.out.on hb2); replace Hb := Lib.hid (Hb.out.trans (hb2.mono Hb.out.size)); clear hb2; clear hr3)
    | (go_at_call 17; (with_reducible refine (Hsame.out F.1 _ _ _ _ _ _ HFl.out Hr1.out Hr3.out).mono ?_); rintro e w5 ⟨rfl, hb5⟩; replace Hb := Lib.hid (Hb.out.trans (hb5.mono Hb.out.size)); clear hb5; clear Hr1 Hr3)
    | (go_at_call 9; refine (awake9_any _).mono ?_; rintro e w9 ⟨rfl, hb9⟩; replace Hb := Lib.hid (Hb.out.trans (hb9.mono Hb.out.size)); clear hb9))
  go_ret
  exact ⟨rfl, Hb.out⟩

set_option maxRecDepth 100000 in
set_option maxHeartbeats 8000000 in
theorem canonUnpacks_near1 (A : Option Addr) (n c : Nat) (s : List UInt8) (N : Int) (l : List Int) (w : World) (hr : Reads w w.heap.size 1 A n (ints l)) (h : n ≤ 40) (h' : s.length ≤ 60) (k : 100000 < N) :
    Calls Try.prog 4 #[.slice A n c, .string ⟨s.toArray⟩, .int .i64 N] w fun e w' => e = .returned (.bool true) ∧ Below w.heap.size w w' := by
  have h1 : ¬ (40 : Int) < n := by omega
  have h2 : ¬ (60 : Int) < s.length := by omega
  have h3 : (500 : Int) < N := by omega
  have h4 : ¬ N ≤ (100000 : Int) := by omega
  have Hp := Lib.hid fun W hr => p_cunpack_any l s N A n c W (by omega) (by omega) hr
  have Hq := Lib.hid fun W hr => cref_unpack_any l s N A n c W (by omega) (by omega) hr
  have HFl : Hid ((cunpackF l s N).1.length ≤ 1000000) := Lib.hid (by have := cunpack_len l s N; omega)
  have Hsame : Hid (∀ (xs : List Int) (N : Nat) (A1 A2 : Option Addr) (c1 c2 : Nat) (W : World), N ≤ 1000000 → Reads W W.heap.size 1 A1 N (ints xs) → Reads W W.heap.size 1 A2 N (ints xs) → Calls Try.prog 17 #[.slice A1 N c1, .slice A2 N c2] W fun e w' => e = .returned (.bool true) ∧ Below W.heap.size W w') := Lib.hid fun xs N A1 A2 c1 c2 W hn h1 h2 => by
    have := same_any A1 A2 N N c1 c2 xs xs W h1 h2 (by omega) (by omega)
    rwa [show decide (xs = xs) = true from by simp] at this
  have Hr := Lib.hid hr
  clear hr h h' k
  generalize cunpackF l s N = F at *
  unfold CUnpPost at Hp Hq
  have hE1 : (F.2.2 == F.2.2) = true := by simp
  have hE2 : ((F.2.1 : Int) == (F.2.1 : Int)) = true := by simp
  go_enter Try.func4, Try.ntmps4
  go_wp2_with (first
    | (go_at_call 15; refine (Hp.out _ Hr.out).mono ?_; rintro e w1 ⟨A1, c1, rfl, _, hr1, hb1⟩; have Hr1 := Lib.hid hr1; have Hb := Lib.hid hb1; clear hb1 hr1)
    | (go_at_call 16; refine (Hq.out _ (Hr.out.on Hb.out)).mono ?_; rintro e w2 ⟨A3, c3, rfl, _, hr3, hb2⟩; have Hr3 := Lib.hid hr3; replace Hr1 := Lib.hid (Hr1.out.on hb2); replace Hb := Lib.hid (Hb.out.trans (hb2.mono Hb.out.size)); clear hb2; clear hr3)
    | (go_at_call 17; (with_reducible refine (Hsame.out F.1 _ _ _ _ _ _ HFl.out Hr1.out Hr3.out).mono ?_); rintro e w5 ⟨rfl, hb5⟩; replace Hb := Lib.hid (Hb.out.trans (hb5.mono Hb.out.size)); clear hb5; clear Hr1 Hr3)
    | (go_at_call 9; refine (awake9_any _).mono ?_; rintro e w9 ⟨rfl, hb9⟩; replace Hb := Lib.hid (Hb.out.trans (hb9.mono Hb.out.size)); clear hb9))
  go_ret
  exact ⟨rfl, Hb.out⟩
theorem canonUnpacks_walk (A : Option Addr) (n c : Nat) (s : List UInt8) (N : Int) (l : List Int) (w : World) (hr : Reads w w.heap.size 1 A n (ints l)) :
    Calls Try.prog 4 #[.slice A n c, .string ⟨s.toArray⟩, .int .i64 N] w fun e w' => e = .returned (.bool true) ∧ Below w.heap.size w w' := by
  by_cases h : n ≤ 40
  · by_cases h2 : s.length ≤ 60
    · by_cases h3 : N ≤ 500
      · exact canonUnpacks_near0 A n c s N l w hr h h2 h3
      · by_cases h4 : N ≤ 100000
        · exact canonUnpacks_far2 A n c s N w h h2 (by omega) h4
        · exact canonUnpacks_near1 A n c s N l w hr h h2 (by omega)
    · exact canonUnpacks_far1 A n c s N w h (by omega)
  · exact canonUnpacks_far0 A n c s N w (by omega)

namespace CanonUnpacks
set_option maxRecDepth 100000 in
theorem lifted (os : Os) (started : os.Started) (H : Type) (enc : TypeId × Value → H) :
    ReturnsInHanded {} Try.checked os 4 .any (Rows.canonUnpacksSpec.pre6 enc Try.prog Try.f4 Rows.canonUnpacksRow.domain false) (Rows.canonUnpacksSpec.post enc Try.prog Try.f4 false true false false) := by
  refine law_sized (C := Try.checked) (tb := 4) ownP started (by kernel_rfl) Try.func4
    (ChangeSpec.witness6 (enc := enc) (C := Try.checked) false ⟨#[], #[.slice none 0 0, .string ⟨#[]⟩, .int .i64 0], []⟩ 8 (by kernel_rfl) (by kernel_rfl) (by kernel_rfl) (by kernel_rfl))
    laidP (by kernel_rfl) rfl (by kernel_rfl) Try.underlying4 (by intro ds h; match ds, h with | [_, _, _], _ => rfl) ?_
  intro W base args ds p hval0 hA0 hlt _
  have hval : ∀ (j : Nat) t v, Try.f4.params[j]? = some t → args[j]? = some v → Value.okWide Try.prog W .any base t v := hval0
  have hA : DataW.TrodAll enc Try.prog W 0 (fun _ => true) true Try.f4.params.toList args.toList ds p := hA0
  rw [Try.params4] at hA hval
  obtain ⟨v0, v1, v2, d0, d1, d2, p0, p1, p2, rfl, rfl, rfl, h0, h1, h2⟩ := trodAll_three hA
  obtain ⟨Aks, nks, cks, ks, rfl, eks, hnks, hmks, hrks, hbks⟩ := open_nums rfl Try.underlying22 Try.underlying3 (by kernel_rfl) (hval 0 22 v0 rfl rfl) h0
  obtain ⟨s, rfl, rfl⟩ := open_bytes Try.underlying9 (hval 1 9 v1 rfl rfl) h1
  obtain ⟨m, rfl, rfl, rfl, wm⟩ := open_int Try.underlying3 (hval 2 3 v2 rfl rfl) h2
  exact canonUnpacks_walk Aks nks cks s m ks W hrks

theorem holds : Rows.CanonUnpacksSaid :=
  OpenClaim.holds_of_wide 4 Try.f4 rfl rfl rfl rfl rfl rfl rfl ⟨rfl, rfl, rfl, rfl, rfl⟩ rfl rfl rfl rfl rfl (by kernel_rfl) Try.func4 (by kernel_rfl)
    (of_decide_eq_true (by kernel_rfl)) (by unfold Func.isWrapper; first | (rw [if_pos (by decide +kernel)]; kernel_rfl) | (rw [if_neg (by decide +kernel)]; exact ⟨rfl, rfl⟩))
    (fun os started H enc _ => lifted os started H enc)
end CanonUnpacks
end Go.Proofs.Ytlnlahnglkeaiaa
