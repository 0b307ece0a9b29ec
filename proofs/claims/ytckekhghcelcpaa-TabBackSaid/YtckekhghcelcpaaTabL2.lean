/-
  Lengths come back of their bits, whatever stands behind them; the layer's probe holds (TabBack). No condition.
-/
import Derived.Test.YtckekhghcelcpaaTabAw
import Derived.Test.YtckekhghcelcpaaFrame
namespace Go.Proofs.Ytckekhghcelcpaa
set_option linter.unusedSimpArgs false
set_option linter.unusedVariables false
open Go.ChangeShapes Go.WideShapes Go.ChangeAt Go.RowKit Go.Joins Go.Deep
set_option maxHeartbeats 2000000 in
/-- Beyond the sizes that the statement looks at: the probe alone. -/
theorem tabBack_far0 (A : Option Addr) (n c : Nat) (B : List UInt8) (w : World) (h : 300 < n) :
    Calls Try.prog 4 #[.slice A n c, .string ⟨B.toArray⟩] w fun e w' => e = .returned (.bool true) ∧ Below w.heap.size w w' := by
  have h1 : (300 : Int) < n := by omega
  go_enter Try.func4, Try.ntmps4
  go_wp2_with (go_at_call 6; refine (awake10_any _).mono ?_; rintro e w9 ⟨rfl, hb9⟩)
  go_ret
  exact ⟨rfl, hb9⟩
set_option maxHeartbeats 2000000 in
/-- Beyond the sizes that the statement looks at: the probe alone. -/
theorem tabBack_far1 (A : Option Addr) (n c : Nat) (B : List UInt8) (w : World) (h : n ≤ 300) (k : 100 < B.length) :
    Calls Try.prog 4 #[.slice A n c, .string ⟨B.toArray⟩] w fun e w' => e = .returned (.bool true) ∧ Below w.heap.size w w' := by
  have h1 : ¬ (300 : Int) < n := by omega
  have h2 : (100 : Int) < B.length := by omega
  go_enter Try.func4, Try.ntmps4
  go_wp2_with (go_at_call 6; refine (awake10_any _).mono ?_; rintro e w9 ⟨rfl, hb9⟩)
  go_ret
  exact ⟨rfl, hb9⟩

set_option maxRecDepth 100000 in
set_option maxHeartbeats 4000000 in
theorem tabBack_none (A : Option Addr) (n c : Nat) (B : List UInt8) (l : List Int) (w : World) (hr : Reads w w.heap.size 1 A n (ints l)) (h : n ≤ 300) (h' : B.length ≤ 100) (hc : checkF l ≠ 0) (hnc : n ≤ c) :
    Calls Try.prog 4 #[.slice A n c, .string ⟨B.toArray⟩] w fun e w' => e = .returned (.bool true) ∧ Below w.heap.size w w' := by
  have h1 : ¬ (300 : Int) < n := by omega
  have h2 : ¬ (100 : Int) < B.length := by omega
  have hp := p_tpack_any l A n c w (by omega) hr
  rw [show tpackF l = ([], checkF l) from if_neg hc] at hp
  have Hp : Hid (Calls Try.prog 7 #[.slice A n c] w fun e w' => e = .returned (.tuple #[.string ⟨#[]⟩, .int .i64 (checkF l)]) ∧ Below w.heap.size w w') := Lib.hid hp
  have Hs : Hid (∀ W, Below w.heap.size w W → Calls Try.prog 9 #[.slice A n c] W fun e w' => e = .returned (.int .i64 0) ∧ Below W.heap.size W w') := Lib.hid fun W hW => by
    have := p_tsize_any l A n c W (by omega) (hr.on hW)
    rwa [show tsizeF l = 0 from if_neg hc] at this
  have hE : (checkF l == 0) = false := by simpa using hc
  have hE2 : (checkF l != 0) = true := by simpa using hc
  clear hr h h' hc hp hnc
  generalize checkF l = E at *
  go_enter Try.func4, Try.ntmps4
  go_wp2_with (first
    | (go_at_call 7; refine Hp.out.mono ?_; rintro e w1 ⟨rfl, hb1⟩; have Hb := Lib.hid hb1; clear hb1)
    | (go_at_call 9; refine (Hs.out _ Hb.out).mono ?_; rintro e w2 ⟨rfl, hb2⟩; replace Hb := Lib.hid (Hb.out.trans (hb2.mono Hb.out.size)); clear hb2)
    | (go_at_call 6; refine (awake10_any _).mono ?_; rintro e w9 ⟨rfl, hb9⟩; replace Hb := Lib.hid (Hb.out.trans (hb9.mono Hb.out.size)); clear hb9))
  go_ret
  exact ⟨rfl, Hb.out⟩
theorem tstr_add (a b : List UInt8) (h : a.length + b.length ≤ 9223372036854775807) (w : World) : (Op.stringOp .add ⟨a.toArray⟩ ⟨b.toArray⟩).run Try.prog w = .ok (.string ⟨(a ++ b).toArray⟩) w := by
  rw [run_string_add_sum w _ _ (by rw [ByteArray.size_mk', ByteArray.size_mk', List.size_toArray, List.size_toArray]; exact h), ByteArray.mk_append_mk]
set_option maxRecDepth 100000 in
set_option maxHeartbeats 4000000 in
theorem tabBack_near (A : Option Addr) (n c : Nat) (B : List UInt8) (l : List Int) (w : World) (hr : Reads w w.heap.size 1 A n (ints l)) (h : n ≤ 300) (h' : B.length ≤ 100) (hc : checkF l = 0) (hnc : n ≤ c) :
    Calls Try.prog 4 #[.slice A n c, .string ⟨B.toArray⟩] w fun e w' => e = .returned (.bool true) ∧ Below w.heap.size w w' := by
  have h1 : ¬ (300 : Int) < n := by omega
  have h2 : ¬ (100 : Int) < B.length := by omega
  have el : l.length = n := by have := hr.1; rw [ints_length] at this; omega
  have hl := (tcheck_ok hc).1
  have hp := p_tpack_any l A n c w (by omega) hr
  rw [show tpackF l = (text (tbits l), 0) from if_pos hc] at hp
  dsimp only at hp
  have Hp := Lib.hid hp
  have htl := tbits_len l (by omega)
  have hxl : (text (tbits l)).length = ((tbits l).length + 7) / 8 := text_length _
  have Hs : Hid (∀ W, Below w.heap.size w W → Calls Try.prog 9 #[.slice A n c] W fun e w' => e = .returned (.int .i64 ((tbits l).length : Int)) ∧ Below W.heap.size W w') := Lib.hid fun W hW => by
    have := p_tsize_any l A n c W (by omega) (hr.on hW)
    rwa [show tsizeF l = (tbits l).length from if_pos hc] at this
  have hu := fun W => p_tunpack_any (text (tbits l) ++ B) (l.length : Int) W (by rw [List.length_append]; omega)
  rw [tback hc B, el] at hu
  unfold TGetPost at hu
  dsimp only at hu
  rw [el] at hu
  have Hu := Lib.hid hu
  have hadd := fun w => tstr_add (text (tbits l)) B (by omega) w
  have Hsame : Hid (∀ (xs : List Int) (N : Nat) (A1 A2 : Option Addr) (c1 c2 : Nat) (W : World), N ≤ 1000000 → Reads W W.heap.size 1 A1 N (ints xs) → Reads W W.heap.size 1 A2 N (ints xs) → Calls Try.prog 15 #[.slice A1 N c1, .slice A2 N c2] W fun e w' => e = .returned (.bool true) ∧ Below W.heap.size W w') := Lib.hid fun xs N A1 A2 c1 c2 W hn h1 h2 => by
    have := same_any A1 A2 N N c1 c2 xs xs W h1 h2 (by omega) (by omega)
    rwa [show decide (xs = xs) = true from by simp] at this
  have Hr := Lib.hid hr
  generalize text (tbits l) = X at *
  obtain ⟨m, hm⟩ : ∃ m, (tbits l).length = m := ⟨_, rfl⟩
  rw [hm] at hxl Hs Hu htl
  have hmi : (m : Int) ≤ 100000 := by omega
  have hm7 : ((m : Int) + 7) / 8 = (X.length : Int) := by omega
  have hE1 : ((X.length : Int) == (X.length : Int)) = true := by simp
  have hE2 : ((m : Int) == (m : Int)) = true := by simp
  have hni : (n : Int) ≤ 300 := by omega
  clear hr h h' hc hp hu el hl htl hxl hm hnc
  go_enter Try.func4, Try.ntmps4
  go_wp2_with (first
    | (go_at_call 7; refine Hp.out.mono ?_; rintro e w1 ⟨rfl, hb1⟩; have Hb := Lib.hid hb1; clear hb1)
    | (go_at_call 14; refine (Hu.out _).mono ?_; rintro e w2 ⟨A3, c3, rfl, _, hr3, hb2⟩; have Hr3 := Lib.hid hr3; replace Hb := Lib.hid (Hb.out.trans (hb2.mono Hb.out.size)); clear hb2; clear hr3)
    | (go_at_call 15; (with_reducible refine (Hsame.out l _ _ _ _ _ _ (by omega) Hr3.out (Hr.out.on Hb.out)).mono ?_); rintro e w3 ⟨rfl, hb3⟩; replace Hb := Lib.hid (Hb.out.trans (hb3.mono Hb.out.size)); clear hb3; clear Hr3)
    | (go_at_call 9; refine (Hs.out _ Hb.out).mono ?_; rintro e w4 ⟨rfl, hb4⟩; replace Hb := Lib.hid (Hb.out.trans (hb4.mono Hb.out.size)); clear hb4)
    | (go_at_call 6; refine (awake10_any _).mono ?_; rintro e w9 ⟨rfl, hb9⟩; replace Hb := Lib.hid (Hb.out.trans (hb9.mono Hb.out.size)); clear hb9))
  go_ret
  exact ⟨rfl, Hb.out⟩
theorem tabBack_walk (A : Option Addr) (n c : Nat) (B : List UInt8) (l : List Int) (w : World) (hr : Reads w w.heap.size 1 A n (ints l)) (hnc : n ≤ c) :
    Calls Try.prog 4 #[.slice A n c, .string ⟨B.toArray⟩] w fun e w' => e = .returned (.bool true) ∧ Below w.heap.size w w' := by
  by_cases h : n ≤ 300
  · by_cases h2 : B.length ≤ 100
    · by_cases hc : checkF l = 0
      · exact tabBack_near A n c B l w hr h h2 hc hnc
      · exact tabBack_none A n c B l w hr h h2 hc hnc
    · exact tabBack_far1 A n c B w h (by omega)
  · exact tabBack_far0 A n c B w (by omega)

namespace TabBack
set_option maxRecDepth 100000 in
theorem lifted (os : Os) (started : os.Started) (H : Type) (enc : TypeId × Value → H) :
    ReturnsInHanded {} Try.checked os 4 .any (Rows.tabBackSpec.pre6 enc Try.prog Try.f4 Rows.tabBackRow.domain false) (Rows.tabBackSpec.post enc Try.prog Try.f4 false true false false) := by
  refine law_sized (C := Try.checked) (tb := 4) ownP started (by kernel_rfl) Try.func4
    (ChangeSpec.witness6 (enc := enc) (C := Try.checked) false ⟨#[], #[.slice none 0 0, .string ⟨#[]⟩], []⟩ 8 (by kernel_rfl) (by kernel_rfl) (by kernel_rfl) (by kernel_rfl))
    laidP (by kernel_rfl) rfl (by kernel_rfl) Try.underlying4 (by intro ds h; match ds, h with | [_, _], _ => rfl) ?_
  intro W base args ds p hval0 hA0 hlt _
  have hval : ∀ (j : Nat) t v, Try.f4.params[j]? = some t → args[j]? = some v → Value.okWide Try.prog W .any base t v := hval0
  have hA : DataW.TrodAll enc Try.prog W 0 (fun _ => true) true Try.f4.params.toList args.toList ds p := hA0
  rw [Try.params4] at hA hval
  obtain ⟨v0, v1, d0, d1, p0, p1, rfl, rfl, rfl, h0, h1⟩ := trodAll_two hA
  obtain ⟨Aks, nks, cks, ks, rfl, eks, hnks, hmks, hrks, hbks⟩ := open_nums rfl Try.underlying22 Try.underlying3 (by kernel_rfl) (hval 0 22 v0 rfl rfl) h0
  obtain ⟨s, rfl, rfl⟩ := open_bytes Try.underlying9 (hval 1 9 v1 rfl rfl) h1
  exact tabBack_walk Aks nks cks s ks W hrks hnks

theorem holds : Rows.TabBackSaid :=
  OpenClaim.holds_of_wide 4 Try.f4 rfl rfl rfl rfl rfl rfl rfl ⟨rfl, rfl, rfl, rfl, rfl⟩ rfl rfl rfl rfl rfl (by kernel_rfl) Try.func4 (by kernel_rfl)
    (of_decide_eq_true (by kernel_rfl)) (by unfold Func.isWrapper; first | (rw [if_pos (by decide +kernel)]; kernel_rfl) | (rw [if_neg (by decide +kernel)]; exact ⟨rfl, rfl⟩))
    (fun os started H enc _ => lifted os started H enc)
end TabBack
end Go.Proofs.Ytckekhghcelcpaa
