/-
  Any symbols have the document's ranks, as many as it says, or none; the layer's probe holds (ZrunUnpacks). No condition.
-/
import Derived.Test.YtaabmpmoioipaaaZrAw
import Derived.Test.YtaabmpmoioipaaaZrX
import Derived.Test.YtaabmpmoioipaaaFrame
namespace Go.Proofs.Ytaabmpmoioipaaa
set_option linter.unusedSimpArgs false
set_option linter.unusedVariables false
open Go.ChangeShapes Go.WideShapes Go.ChangeAt Go.RowKit Go.Joins Go.Deep
open Go.Shelf
set_option maxHeartbeats 2000000 in
/-- Beyond the sizes that the statement looks at: the probe alone. -/
theorem zrunUnpacks_far0 (A : Option Addr) (n c : Nat) (m : Int) (w : World) (h : 5000 < n) :
    Calls Try.prog 4 #[.slice A n c, .int .i64 m] w fun e w' => e = .returned (.bool true) ∧ Below w.heap.size w w' := by
  have h1 : (5000 : Int) < n := by omega
  go_enter Try.func4, Try.ntmps4
  go_wp2_with (go_at_call 7; refine (awake7_any _).mono ?_; rintro e w9 ⟨rfl, hb9⟩)
  go_ret
  exact ⟨rfl, hb9⟩

theorem zunF_len (l : List Int) (m : Int) : (zunF l m).1.length ≤ 1000000 := by
  unfold zunF
  by_cases hg : zgood 256 l = true
  · rw [if_pos hg]
    by_cases hb : (zcountF l : Int) > m ∨ (zcountF l : Int) > 100000
    · rw [if_pos hb]; simp
    · rw [if_neg hb, show ((zun [] l, (0 : Int)).1) = zun [] l from rfl, zun_len l [] hg]
      unfold zcountF at hb
      omega
  · rw [if_neg hg]; simp
set_option maxRecDepth 100000 in
set_option maxHeartbeats 8000000 in
theorem zrunUnpacks_near (A : Option Addr) (n c : Nat) (m : Int) (l : List Int) (w : World) (hc : n ≤ c) (hr : Reads w w.heap.size 1 A n (ints l)) (h : n ≤ 5000) :
    Calls Try.prog 4 #[.slice A n c, .int .i64 m] w fun e w' => e = .returned (.bool true) ∧ Below w.heap.size w w' := by
  have h1 : ¬ (5000 : Int) < n := by omega
  have Hun := Lib.hid fun W hr => zr_unpack_any l m A n c W (by omega) hc hr
  have Hrun := Lib.hid fun W hr => zref_unpack_any l m A n c W (by omega) hr
  have Hct := Lib.hid fun W hr => zr_count_any l A n c W (by omega) hc hr
  have Hrct := Lib.hid fun W hr => zref_count_any l A n c W (by omega) hr
  have HFl := Lib.hid (zunF_len l m)
  have Hsame : Hid (∀ (xs : List Int) (N : Nat) (A1 A2 : Option Addr) (c1 c2 : Nat) (W : World), N ≤ 1000000 → Reads W W.heap.size 1 A1 N (ints xs) → Reads W W.heap.size 1 A2 N (ints xs) → Calls Try.prog 10 #[.slice A1 N c1, .slice A2 N c2] W fun e w' => e = .returned (.bool true) ∧ Below W.heap.size W w') := Lib.hid fun xs N A1 A2 c1 c2 W hn h1 h2 => by
    have := same_any A1 A2 N N c1 c2 xs xs W h1 h2 (by omega) (by omega)
    rwa [show decide (xs = xs) = true from by simp] at this
  have Hr := Lib.hid hr
  clear hr hc h
  generalize zunF l m = F at *
  generalize (zcountF l : Int) = C at *
  go_enter Try.func4, Try.ntmps4
  go_wp2_with (first
    | (go_at_call 13; refine (Hun.out _ Hr.out).mono ?_; rintro e w1 ⟨A1, c1, rfl, _, hr1, hb1⟩; have Hr1 := Lib.hid hr1; have Hb := Lib.hid hb1; clear hb1 hr1)
    | (go_at_call 14; refine (Hrun.out _ ((Hr.out.below Hb.out).more Hb.out.size)).mono ?_; rintro e w2 ⟨A2, c2, rfl, _, hr2, hb2⟩; have Hr2 := Lib.hid hr2; replace Hr1 := Lib.hid ((Hr1.out.below hb2).more hb2.size); replace Hb := Lib.hid (Hb.out.trans (hb2.mono Hb.out.size)); clear hb2 hr2)
    | (go_at_call 10; refine (Hsame.out F.1 _ _ _ _ _ _ HFl.out Hr1.out Hr2.out).mono ?_; rintro e w3 ⟨rfl, hb3⟩; replace Hb := Lib.hid (Hb.out.trans (hb3.mono Hb.out.size)); clear hb3)
    | (go_at_call 15; refine (Hct.out _ ((Hr.out.below Hb.out).more Hb.out.size)).mono ?_; rintro e w4 ⟨rfl, hb4⟩; replace Hb := Lib.hid (Hb.out.trans (hb4.mono Hb.out.size)); clear hb4)
    | (go_at_call 16; refine (Hrct.out _ ((Hr.out.below Hb.out).more Hb.out.size)).mono ?_; rintro e w5 ⟨rfl, hb5⟩; replace Hb := Lib.hid (Hb.out.trans (hb5.mono Hb.out.size)); clear hb5)
    | (go_at_call 7; refine (awake7_any _).mono ?_; rintro e w9 ⟨rfl, hb9⟩; replace Hb := Lib.hid (Hb.out.trans (hb9.mono Hb.out.size)); clear hb9))
  go_ret
  exact ⟨rfl, Hb.out⟩
theorem zrunUnpacks_walk (A : Option Addr) (n c : Nat) (m : Int) (l : List Int) (w : World) (hc : n ≤ c) (hr : Reads w w.heap.size 1 A n (ints l)) :
    Calls Try.prog 4 #[.slice A n c, .int .i64 m] w fun e w' => e = .returned (.bool true) ∧ Below w.heap.size w w' := by
  by_cases h : n ≤ 5000
  · exact zrunUnpacks_near A n c m l w hc hr h
  · exact zrunUnpacks_far0 A n c m w (by omega)

namespace ZrunUnpacks
set_option maxRecDepth 100000 in
theorem lifted (os : Os) (started : os.Started) (H : Type) (enc : TypeId × Value → H) :
    ReturnsInHanded {} Try.checked os 4 .any (Rows.zrunUnpacksSpec.pre6 enc Try.prog Try.f4 Rows.zrunUnpacksRow.domain false) (Rows.zrunUnpacksSpec.post enc Try.prog Try.f4 false true false false) := by
  refine law_sized (C := Try.checked) (tb := 4) ownP started (by kernel_rfl) Try.func4
    (ChangeSpec.witness6 (enc := enc) (C := Try.checked) false ⟨#[], #[.slice none 0 0, .int .i64 0], []⟩ 8 (by kernel_rfl) (by kernel_rfl) (by kernel_rfl) (by kernel_rfl))
    laidP (by kernel_rfl) rfl (by kernel_rfl) Try.underlying4 (by intro ds h; match ds, h with | [_, _], _ => rfl) ?_
  intro W base args ds p hval0 hA0 hlt _
  have hval : ∀ (j : Nat) t v, Try.f4.params[j]? = some t → args[j]? = some v → Value.okWide Try.prog W .any base t v := hval0
  have hA : DataW.TrodAll enc Try.prog W 0 (fun _ => true) true Try.f4.params.toList args.toList ds p := hA0
  rw [Try.params4] at hA hval
  obtain ⟨v0, v1, d0, d1, p0, p1, rfl, rfl, rfl, h0, h1⟩ := trodAll_two hA
  obtain ⟨Aks, nks, cks, ks, rfl, eks, hnks, hmks, hrks, hbks⟩ := open_nums rfl Try.underlying22 Try.underlying3 (by kernel_rfl) (hval 0 22 v0 rfl rfl) h0
  obtain ⟨m, rfl, rfl, rfl, wm⟩ := open_int Try.underlying3 (hval 1 3 v1 rfl rfl) h1
  exact zrunUnpacks_walk Aks nks cks m ks W hnks hrks

theorem holds : Rows.ZrunUnpacksSaid :=
  OpenClaim.holds_of_wide 4 Try.f4 rfl rfl rfl rfl rfl rfl rfl ⟨rfl, rfl, rfl, rfl, rfl⟩ rfl rfl rfl rfl rfl (by kernel_rfl) Try.func4 (by kernel_rfl)
    (of_decide_eq_true (by kernel_rfl)) (by unfold Func.isWrapper; first | (rw [if_pos (by decide +kernel)]; kernel_rfl) | (rw [if_neg (by decide +kernel)]; exact ⟨rfl, rfl⟩))
    (fun os started H enc _ => lifted os started H enc)
end ZrunUnpacks
end Go.Proofs.Ytaabmpmoioipaaa
