/-
  Of any row the document's ranks, and what its ends have in common, and begin with, are told, or refused; the layer's probe holds (SuffixLooks). No condition.
-/
import Derived.Test.YtngenehleelcmaaSufAw
import Derived.Test.YtngenehleelcmaaFrame
namespace Go.Proofs.Ytngenehleelcmaa
set_option linter.unusedSimpArgs false
set_option linter.unusedVariables false
open Go.ChangeShapes Go.WideShapes Go.ChangeAt Go.RowKit Go.Joins Go.Deep
set_option maxHeartbeats 2000000 in
/-- Beyond the sizes that the statement looks at: the probe alone. -/
theorem suffixLooks_far0 (A : Option Addr) (n c : Nat) (s x : List UInt8) (w : World) (h : 600 < s.length) :
    Calls Try.prog 4 #[.string ⟨s.toArray⟩, .slice A n c, .string ⟨x.toArray⟩] w fun e w' => e = .returned (.bool true) ∧ Below w.heap.size w w' := by
  have h1 : (600 : Int) < s.length := by omega
  go_enter Try.func4, Try.ntmps4
  go_wp2_with (go_at_call 8; refine (awake12_any _).mono ?_; rintro e w9 ⟨rfl, hb9⟩)
  go_ret
  exact ⟨rfl, hb9⟩
set_option maxHeartbeats 2000000 in
/-- Beyond the sizes that the statement looks at: the probe alone. -/
theorem suffixLooks_far1 (A : Option Addr) (n c : Nat) (s x : List UInt8) (w : World) (h : s.length ≤ 600) (k : 700 < n) :
    Calls Try.prog 4 #[.string ⟨s.toArray⟩, .slice A n c, .string ⟨x.toArray⟩] w fun e w' => e = .returned (.bool true) ∧ Below w.heap.size w w' := by
  have h1 : ¬ (600 : Int) < s.length := by omega
  have h2 : (700 : Int) < n := by omega
  go_enter Try.func4, Try.ntmps4
  go_wp2_with (go_at_call 8; refine (awake12_any _).mono ?_; rintro e w9 ⟨rfl, hb9⟩)
  go_ret
  exact ⟨rfl, hb9⟩
set_option maxHeartbeats 2000000 in
/-- Beyond the sizes that the statement looks at: the probe alone. -/
theorem suffixLooks_far2 (A : Option Addr) (n c : Nat) (s x : List UInt8) (w : World) (h : s.length ≤ 600) (k : n ≤ 700) (j : 600 < x.length) :
    Calls Try.prog 4 #[.string ⟨s.toArray⟩, .slice A n c, .string ⟨x.toArray⟩] w fun e w' => e = .returned (.bool true) ∧ Below w.heap.size w w' := by
  have h1 : ¬ (600 : Int) < s.length := by omega
  have h2 : ¬ (700 : Int) < n := by omega
  have h3 : (600 : Int) < x.length := by omega
  go_enter Try.func4, Try.ntmps4
  go_wp2_with (go_at_call 8; refine (awake12_any _).mono ?_; rintro e w9 ⟨rfl, hb9⟩)
  go_ret
  exact ⟨rfl, hb9⟩

set_option maxRecDepth 100000 in
set_option maxHeartbeats 8000000 in
theorem suffixLooks_near (A : Option Addr) (n c : Nat) (s x : List UInt8) (l : List Int) (w : World) (hr : Reads w w.heap.size 1 A n (ints l)) (h : s.length ≤ 600) (k : n ≤ 700) (j : x.length ≤ 600) :
    Calls Try.prog 4 #[.string ⟨s.toArray⟩, .slice A n c, .string ⟨x.toArray⟩] w fun e w' => e = .returned (.bool true) ∧ Below w.heap.size w w' := by
  have h1 : ¬ (600 : Int) < s.length := by omega
  have h2 : ¬ (700 : Int) < n := by omega
  have h3 : ¬ (600 : Int) < x.length := by omega
  have hp := p_sranks_any l A n c w (by omega) hr
  have hq := fun W (hW : Below w.heap.size w W) => sref_ranks_any l A n c W (by omega) (hr.upto hW)
  have hk := fun W (hW : Below w.heap.size w W) => p_scommon_any s l A n c W (by omega) (by omega) (hr.upto hW)
  have hj := fun W (hW : Below w.heap.size w W) => sref_common_any s l A n c W (by omega) (by omega) (hr.upto hW)
  have hf := fun W (hW : Below w.heap.size w W) => p_sfind_any s l x A n c W (by omega) (by omega) (by omega) (hr.upto hW)
  have hg := fun W (hW : Below w.heap.size w W) => sref_find_any s l x A n c W (by omega) (by omega) (by omega) (hr.upto hW)
  have en : l.length = n := by have := hr.1; rw [ints_length] at this; omega
  have hlen1 : (skF l).1.length ≤ 1000001 := by
    unfold skF
    split
    · show (srk l l.length).length ≤ _
      rw [srk_len]
      omega
    · exact Nat.zero_le _
  have hlen2 : (scF s l).1.length ≤ 1000001 := by
    unfold scF
    split
    · show (scmL s l l.length).length ≤ _
      rw [scmL_len]
      omega
    · exact Nat.zero_le _
  have Hsame : Hid (∀ (xs : List Int) (N : Nat) (A1 A2 : Option Addr) (c1 c2 : Nat) (W : World), N ≤ 1000001 → Reads W W.heap.size 1 A1 N (ints xs) → Reads W W.heap.size 1 A2 N (ints xs) → Calls Try.prog 13 #[.slice A1 N c1, .slice A2 N c2] W fun e w' => e = .returned (.bool true) ∧ Below W.heap.size W w') := Lib.hid fun xs N A1 A2 c1 c2 W hn h1 h2 => by
    have := same_any A1 A2 N N c1 c2 xs xs W h1 h2 (by omega) (by omega)
    rwa [show decide (xs = xs) = true from by simp] at this
  unfold LPost at hp hq hk hj
  unfold SFPost at hf hg
  generalize skF l = F at *
  generalize scF s l = G at *
  generalize sfF s l x = R at *
  obtain ⟨L, E⟩ := F
  obtain ⟨M, E2⟩ := G
  obtain ⟨⟨F1, F2⟩, E3⟩ := R
  dsimp only at hp hq hk hj hf hg hlen1 hlen2
  have Hs1 := Lib.hid fun A1 A2 c1 c2 W h1 h2 => Hsame.out L L.length A1 A2 c1 c2 W hlen1 h1 h2
  have Hs2 := Lib.hid fun A1 A2 c1 c2 W h1 h2 => Hsame.out M M.length A1 A2 c1 c2 W hlen2 h1 h2
  have Hp := Lib.hid hp
  have Hq := Lib.hid hq
  have Hk := Lib.hid hk
  have Hj := Lib.hid hj
  have Hf := Lib.hid hf
  have Hg := Lib.hid hg
  have hE : (E == E) = true := by simp
  have hE2 : (E2 == E2) = true := by simp
  have hE3 : (E3 == E3) = true := by simp
  have hF1 : (F1 == F1) = true := by simp
  have hF2 : (F2 == F2) = true := by simp
  clear hp hq hk hj hf hg hr h k j Hsame hlen1 hlen2 en
  go_enter Try.func4, Try.ntmps4
  go_wp2_with (first
    | (go_at_call 14; refine Hp.out.mono ?_; rintro e w1 ⟨A1, c1, rfl, _, hr1, hb1⟩; have H1 := Lib.hid hr1; have Hb := Lib.hid hb1; clear hb1 hr1)
    | (go_at_call 15; refine (Hq.out _ Hb.out).mono ?_; rintro e w2 ⟨A2, c2, rfl, _, hr2, hb2⟩; have H2 := Lib.hid hr2; replace H1 := Lib.hid (H1.out.upto hb2); replace Hb := Lib.hid (Hb.out.trans (hb2.mono Hb.out.size)); clear hb2; clear hr2)
    | (go_at_call 16; refine (Hk.out _ Hb.out).mono ?_; rintro e w3 ⟨A3, c3, rfl, _, hr3, hb3⟩; have H3 := Lib.hid hr3; replace H1 := Lib.hid (H1.out.upto hb3); replace H2 := Lib.hid (H2.out.upto hb3); replace Hb := Lib.hid (Hb.out.trans (hb3.mono Hb.out.size)); clear hb3; clear hr3)
    | (go_at_call 17; refine (Hj.out _ Hb.out).mono ?_; rintro e w4 ⟨A4, c4, rfl, _, hr4, hb4⟩; have H4 := Lib.hid hr4; replace H1 := Lib.hid (H1.out.upto hb4); replace H2 := Lib.hid (H2.out.upto hb4); replace H3 := Lib.hid (H3.out.upto hb4); replace Hb := Lib.hid (Hb.out.trans (hb4.mono Hb.out.size)); clear hb4; clear hr4)
    | (go_at_call 18; refine (Hf.out _ Hb.out).mono ?_; rintro e w5 ⟨rfl, hb5⟩; have hx5 := hb5.alloc hb5.size (.cells #[.int .i64 F1, .int .i64 F2] 38); have HR := Lib.hid (Blk.new w5 38 #[.int .i64 F1, .int .i64 F2]); replace H1 := Lib.hid (H1.out.upto hx5); replace H2 := Lib.hid (H2.out.upto hx5); replace H3 := Lib.hid (H3.out.upto hx5); replace H4 := Lib.hid (H4.out.upto hx5); replace Hb := Lib.hid (Hb.out.trans (hx5.mono Hb.out.size)); clear hx5 hb5)
    | (go_at_call 19; refine (Hg.out _ Hb.out).mono ?_; rintro e w6 ⟨rfl, hb6⟩; have hx6 := hb6.alloc hb6.size (.cells #[.int .i64 F1, .int .i64 F2] 38); replace HR := Lib.hid (HR.out.below hx6 HR.out.lt); have HQ := Lib.hid (Blk.new w6 38 #[.int .i64 F1, .int .i64 F2]); replace H1 := Lib.hid (H1.out.upto hx6); replace H2 := Lib.hid (H2.out.upto hx6); replace H3 := Lib.hid (H3.out.upto hx6); replace H4 := Lib.hid (H4.out.upto hx6); replace Hb := Lib.hid (Hb.out.trans (hx6.mono Hb.out.size)); clear hx6 hb6)
    | (go_at_call 13; (with_reducible refine (Hs1.out _ _ _ _ _ H1.out H2.out).mono ?_); rintro e w7 ⟨rfl, hb7⟩; replace H3 := Lib.hid (H3.out.upto hb7); replace H4 := Lib.hid (H4.out.upto hb7); replace HR := Lib.hid (HR.out.below hb7 HR.out.lt); replace HQ := Lib.hid (HQ.out.below hb7 HQ.out.lt); replace Hb := Lib.hid (Hb.out.trans (hb7.mono Hb.out.size)); clear hb7; clear H1 H2)
    | (go_at_call 13; (with_reducible refine (Hs2.out _ _ _ _ _ H3.out H4.out).mono ?_); rintro e w8 ⟨rfl, hb8⟩; obtain ⟨d1, d2, d3, d4⟩ := Blk.two (HR.out.below hb8 HR.out.lt); obtain ⟨e1, e2, e3, e4⟩ := Blk.two (HQ.out.below hb8 HQ.out.lt); replace Hb := Lib.hid (Hb.out.trans (hb8.mono Hb.out.size)); clear hb8; clear H3 H4 HR HQ)
    | (go_at_call 8; refine (awake12_any _).mono ?_; rintro e w9 ⟨rfl, hb9⟩; replace Hb := Lib.hid (Hb.out.trans (hb9.mono Hb.out.size)); clear hb9))
  go_ret
  exact ⟨rfl, Hb.out⟩
theorem suffixLooks_walk (A : Option Addr) (n c : Nat) (s x : List UInt8) (l : List Int) (w : World) (hr : Reads w w.heap.size 1 A n (ints l)) :
    Calls Try.prog 4 #[.string ⟨s.toArray⟩, .slice A n c, .string ⟨x.toArray⟩] w fun e w' => e = .returned (.bool true) ∧ Below w.heap.size w w' := by
  by_cases h : s.length ≤ 600
  · by_cases k : n ≤ 700
    · by_cases j : x.length ≤ 600
      · exact suffixLooks_near A n c s x l w hr h k j
      · exact suffixLooks_far2 A n c s x w h k (by omega)
    · exact suffixLooks_far1 A n c s x w h (by omega)
  · exact suffixLooks_far0 A n c s x w (by omega)

namespace SuffixLooks
set_option maxRecDepth 100000 in
theorem lifted (os : Os) (started : os.Started) (H : Type) (enc : TypeId × Value → H) :
    ReturnsInHanded {} Try.checked os 4 .any (Rows.suffixLooksSpec.pre6 enc Try.prog Try.f4 Rows.suffixLooksRow.domain false) (Rows.suffixLooksSpec.post enc Try.prog Try.f4 false true false false) := by
  refine law_sized (C := Try.checked) (tb := 4) ownP started (by kernel_rfl) Try.func4
    (ChangeSpec.witness6 (enc := enc) (C := Try.checked) false ⟨#[], #[.string ⟨#[]⟩, .slice none 0 0, .string ⟨#[]⟩], []⟩ 8 (by kernel_rfl) (by kernel_rfl) (by kernel_rfl) (by kernel_rfl))
    laidP (by kernel_rfl) rfl (by kernel_rfl) Try.underlying4 (by intro ds h; match ds, h with | [_, _, _], _ => rfl) ?_
  intro W base args ds p hval0 hA0 hlt _
  have hval : ∀ (j : Nat) t v, Try.f4.params[j]? = some t → args[j]? = some v → Value.okWide Try.prog W .any base t v := hval0
  have hA : DataW.TrodAll enc Try.prog W 0 (fun _ => true) true Try.f4.params.toList args.toList ds p := hA0
  rw [Try.params4] at hA hval
  obtain ⟨v0, v1, v2, d0, d1, d2, p0, p1, p2, rfl, rfl, rfl, h0, h1, h2⟩ := trodAll_three hA
  obtain ⟨s, rfl, rfl⟩ := open_bytes Try.underlying9 (hval 0 9 v0 rfl rfl) h0
  obtain ⟨Aks, nks, cks, ks, rfl, eks, hnks, hmks, hrks, hbks⟩ := open_nums rfl Try.underlying22 Try.underlying3 (by kernel_rfl) (hval 1 22 v1 rfl rfl) h1
  obtain ⟨x, rfl, rfl⟩ := open_bytes Try.underlying9 (hval 2 9 v2 rfl rfl) h2
  exact suffixLooks_walk Aks nks cks s x ks W hrks

theorem holds : Rows.SuffixLooksSaid :=
  OpenClaim.holds_of_wide 4 Try.f4 rfl rfl rfl rfl rfl rfl rfl ⟨rfl, rfl, rfl, rfl, rfl⟩ rfl rfl rfl rfl rfl (by kernel_rfl) Try.func4 (by kernel_rfl)
    (of_decide_eq_true (by kernel_rfl)) (by unfold Func.isWrapper; first | (rw [if_pos (by decide +kernel)]; kernel_rfl) | (rw [if_neg (by decide +kernel)]; exact ⟨rfl, rfl⟩))
    (fun os started H enc _ => lifted os started H enc)
end SuffixLooks
end Go.Proofs.Ytngenehleelcmaa
