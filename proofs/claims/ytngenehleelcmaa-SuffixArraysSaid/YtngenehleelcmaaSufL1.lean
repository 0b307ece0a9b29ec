/-
  Any text has the document's array, and any keys are sorted as it says; the layer's probe holds (SuffixArrays). No condition.
-/
import Derived.Test.YtngenehleelcmaaSufAw
import Derived.Test.YtngenehleelcmaaFrame
namespace Go.Proofs.Ytngenehleelcmaa
set_option linter.unusedSimpArgs false
set_option linter.unusedVariables false
open Go.ChangeShapes Go.WideShapes Go.ChangeAt Go.RowKit Go.Joins Go.Deep
set_option maxHeartbeats 2000000 in
/-- Beyond the sizes that the statement looks at: the probe alone. -/
theorem suffixArrays_far0 (A : Option Addr) (n c : Nat) (m : Int) (s : List UInt8) (w : World) (h : 600 < s.length) :
    Calls Try.prog 3 #[.string ⟨s.toArray⟩, .slice A n c, .int .i64 m] w fun e w' => e = .returned (.bool true) ∧ Below w.heap.size w w' := by
  have h1 : (600 : Int) < s.length := by omega
  go_enter Try.func3, Try.ntmps3
  go_wp2_with (go_at_call 8; refine (awake12_any _).mono ?_; rintro e w9 ⟨rfl, hb9⟩)
  go_ret
  exact ⟨rfl, hb9⟩
set_option maxHeartbeats 2000000 in
/-- Beyond the sizes that the statement looks at: the probe alone. -/
theorem suffixArrays_far1 (A : Option Addr) (n c : Nat) (m : Int) (s : List UInt8) (w : World) (h : s.length ≤ 600) (k : 500 < n) :
    Calls Try.prog 3 #[.string ⟨s.toArray⟩, .slice A n c, .int .i64 m] w fun e w' => e = .returned (.bool true) ∧ Below w.heap.size w w' := by
  have h1 : ¬ (600 : Int) < s.length := by omega
  have h2 : (500 : Int) < n := by omega
  go_enter Try.func3, Try.ntmps3
  go_wp2_with (go_at_call 8; refine (awake12_any _).mono ?_; rintro e w9 ⟨rfl, hb9⟩)
  go_ret
  exact ⟨rfl, hb9⟩

set_option maxRecDepth 100000 in
set_option maxHeartbeats 8000000 in
theorem suffixArrays_near (A : Option Addr) (n c : Nat) (m : Int) (s : List UInt8) (l : List Int) (w : World) (hr : Reads w w.heap.size 1 A n (ints l)) (h : s.length ≤ 600) (k : n ≤ 500) :
    Calls Try.prog 3 #[.string ⟨s.toArray⟩, .slice A n c, .int .i64 m] w fun e w' => e = .returned (.bool true) ∧ Below w.heap.size w w' := by
  have h1 : ¬ (600 : Int) < s.length := by omega
  have h2 : ¬ (500 : Int) < n := by omega
  have hp := p_sarray_any s w (by omega)
  have hq := fun W => sref_array_any s W (by omega)
  have hk := fun W (hW : Below w.heap.size w W) => p_ssort_any l m A n c W (by omega) (hr.upto hW)
  have hj := fun W (hW : Below w.heap.size w W) => sref_sort_any l m A n c W (by omega) (hr.upto hW)
  have en : l.length = n := by have := hr.1; rw [ints_length] at this; omega
  have hlen1 : (saF s).1.length ≤ 1000001 := by
    unfold saF
    split
    · exact Nat.zero_le _
    · show (splc (sarr s)).length ≤ _
      rw [splc_len]
      unfold sarr
      rw [slay_len]
      omega
  have hlen2 : (ksF l m).1.length ≤ 1000001 := by
    unfold ksF
    split
    · exact Nat.zero_le _
    · split
      · show (splc (slay (klt l) l.length)).length ≤ _
        rw [splc_len, slay_len]
        omega
      · exact Nat.zero_le _
  have Hsame : Hid (∀ (xs : List Int) (N : Nat) (A1 A2 : Option Addr) (c1 c2 : Nat) (W : World), N ≤ 1000001 → Reads W W.heap.size 1 A1 N (ints xs) → Reads W W.heap.size 1 A2 N (ints xs) → Calls Try.prog 13 #[.slice A1 N c1, .slice A2 N c2] W fun e w' => e = .returned (.bool true) ∧ Below W.heap.size W w') := Lib.hid fun xs N A1 A2 c1 c2 W hn h1 h2 => by
    have := same_any A1 A2 N N c1 c2 xs xs W h1 h2 (by omega) (by omega)
    rwa [show decide (xs = xs) = true from by simp] at this
  unfold LPost at hp hq hk hj
  generalize saF s = F at *
  generalize ksF l m = G at *
  obtain ⟨L, E⟩ := F
  obtain ⟨M, E2⟩ := G
  dsimp only at hp hq hk hj hlen1 hlen2
  have Hs1 := Lib.hid fun A1 A2 c1 c2 W h1 h2 => Hsame.out L L.length A1 A2 c1 c2 W hlen1 h1 h2
  have Hs2 := Lib.hid fun A1 A2 c1 c2 W h1 h2 => Hsame.out M M.length A1 A2 c1 c2 W hlen2 h1 h2
  have Hp := Lib.hid hp
  have Hq := Lib.hid hq
  have Hk := Lib.hid hk
  have Hj := Lib.hid hj
  have hE : (E == E) = true := by simp
  have hE2 : (E2 == E2) = true := by simp
  clear hp hq hk hj hr h k Hsame hlen1 hlen2 en
  go_enter Try.func3, Try.ntmps3
  go_wp2_with (first
    | (go_at_call 9; refine Hp.out.mono ?_; rintro e w1 ⟨A1, c1, rfl, _, hr1, hb1⟩; have H1 := Lib.hid hr1; have Hb := Lib.hid hb1; clear hb1 hr1)
    | (go_at_call 10; refine (Hq.out _).mono ?_; rintro e w2 ⟨A2, c2, rfl, _, hr2, hb2⟩; have H2 := Lib.hid hr2; replace H1 := Lib.hid (H1.out.upto hb2); replace Hb := Lib.hid (Hb.out.trans (hb2.mono Hb.out.size)); clear hb2; clear hr2)
    | (go_at_call 11; refine (Hk.out _ Hb.out).mono ?_; rintro e w3 ⟨A3, c3, rfl, _, hr3, hb3⟩; have H3 := Lib.hid hr3; replace H1 := Lib.hid (H1.out.upto hb3); replace H2 := Lib.hid (H2.out.upto hb3); replace Hb := Lib.hid (Hb.out.trans (hb3.mono Hb.out.size)); clear hb3; clear hr3)
    | (go_at_call 12; refine (Hj.out _ Hb.out).mono ?_; rintro e w4 ⟨A4, c4, rfl, _, hr4, hb4⟩; have H4 := Lib.hid hr4; replace H1 := Lib.hid (H1.out.upto hb4); replace H2 := Lib.hid (H2.out.upto hb4); replace H3 := Lib.hid (H3.out.upto hb4); replace Hb := Lib.hid (Hb.out.trans (hb4.mono Hb.out.size)); clear hb4; clear hr4)
    | (go_at_call 13; (with_reducible refine (Hs1.out _ _ _ _ _ H1.out H2.out).mono ?_); rintro e w5 ⟨rfl, hb5⟩; replace H3 := Lib.hid (H3.out.upto hb5); replace H4 := Lib.hid (H4.out.upto hb5); replace Hb := Lib.hid (Hb.out.trans (hb5.mono Hb.out.size)); clear hb5; clear H1 H2)
    | (go_at_call 13; (with_reducible refine (Hs2.out _ _ _ _ _ H3.out H4.out).mono ?_); rintro e w6 ⟨rfl, hb6⟩; replace Hb := Lib.hid (Hb.out.trans (hb6.mono Hb.out.size)); clear hb6; clear H3 H4)
    | (go_at_call 8; refine (awake12_any _).mono ?_; rintro e w9 ⟨rfl, hb9⟩; replace Hb := Lib.hid (Hb.out.trans (hb9.mono Hb.out.size)); clear hb9))
  go_ret
  exact ⟨rfl, Hb.out⟩
theorem suffixArrays_walk (A : Option Addr) (n c : Nat) (m : Int) (s : List UInt8) (l : List Int) (w : World) (hr : Reads w w.heap.size 1 A n (ints l)) :
    Calls Try.prog 3 #[.string ⟨s.toArray⟩, .slice A n c, .int .i64 m] w fun e w' => e = .returned (.bool true) ∧ Below w.heap.size w w' := by
  by_cases h : s.length ≤ 600
  · by_cases k : n ≤ 500
    · exact suffixArrays_near A n c m s l w hr h k
    · exact suffixArrays_far1 A n c m s w h (by omega)
  · exact suffixArrays_far0 A n c m s w (by omega)

namespace SuffixArrays
set_option maxRecDepth 100000 in
theorem lifted (os : Os) (started : os.Started) (H : Type) (enc : TypeId × Value → H) :
    ReturnsInHanded {} Try.checked os 3 .any (Rows.suffixArraysSpec.pre6 enc Try.prog Try.f3 Rows.suffixArraysRow.domain false) (Rows.suffixArraysSpec.post enc Try.prog Try.f3 false true false false) := by
  refine law_sized (C := Try.checked) (tb := 4) ownP started (by kernel_rfl) Try.func3
    (ChangeSpec.witness6 (enc := enc) (C := Try.checked) false ⟨#[], #[.string ⟨#[]⟩, .slice none 0 0, .int .i64 0], []⟩ 8 (by kernel_rfl) (by kernel_rfl) (by kernel_rfl) (by kernel_rfl))
    laidP (by kernel_rfl) rfl (by kernel_rfl) Try.underlying4 (by intro ds h; match ds, h with | [_, _, _], _ => rfl) ?_
  intro W base args ds p hval0 hA0 hlt _
  have hval : ∀ (j : Nat) t v, Try.f3.params[j]? = some t → args[j]? = some v → Value.okWide Try.prog W .any base t v := hval0
  have hA : DataW.TrodAll enc Try.prog W 0 (fun _ => true) true Try.f3.params.toList args.toList ds p := hA0
  rw [Try.params3] at hA hval
  obtain ⟨v0, v1, v2, d0, d1, d2, p0, p1, p2, rfl, rfl, rfl, h0, h1, h2⟩ := trodAll_three hA
  obtain ⟨s, rfl, rfl⟩ := open_bytes Try.underlying9 (hval 0 9 v0 rfl rfl) h0
  obtain ⟨Aks, nks, cks, ks, rfl, eks, hnks, hmks, hrks, hbks⟩ := open_nums rfl Try.underlying22 Try.underlying3 (by kernel_rfl) (hval 1 22 v1 rfl rfl) h1
  obtain ⟨m, rfl, rfl, rfl, wm⟩ := open_int Try.underlying3 (hval 2 3 v2 rfl rfl) h2
  exact suffixArrays_walk Aks nks cks m s ks W hrks

theorem holds : Rows.SuffixArraysSaid :=
  OpenClaim.holds_of_wide 3 Try.f3 rfl rfl rfl rfl rfl rfl rfl ⟨rfl, rfl, rfl, rfl, rfl⟩ rfl rfl rfl rfl rfl (by kernel_rfl) Try.func3 (by kernel_rfl)
    (of_decide_eq_true (by kernel_rfl)) (by unfold Func.isWrapper; first | (rw [if_pos (by decide +kernel)]; kernel_rfl) | (rw [if_neg (by decide +kernel)]; exact ⟨rfl, rfl⟩))
    (fun os started H enc _ => lifted os started H enc)
end SuffixArrays
end Go.Proofs.Ytngenehleelcmaa
