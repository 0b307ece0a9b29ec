/-
  Any last bytes, with any primary, have the document's steps, and are its text's, or none's; the layer's probe holds (BwtInverse). No condition.
-/
import Derived.Test.YtjdpogaaookoeaaBwtAw
import Derived.Test.YtjdpogaaookoeaaSame
import Derived.Test.YtjdpogaaookoeaaFrame
namespace Go.Proofs.Ytjdpogaaookoeaa
set_option linter.unusedSimpArgs false
set_option linter.unusedVariables false
open Go.ChangeShapes Go.WideShapes Go.ChangeAt Go.RowKit Go.Joins Go.Deep
set_option maxHeartbeats 2000000 in
/-- Beyond the sizes that the statement looks at: the probe alone. -/
theorem bwtInverse_far0 (s : List UInt8) (r : Int) (w : World) (h : 600 < s.length) :
    Calls Try.prog 4 #[.string ⟨s.toArray⟩, .int .i64 r] w fun e w' => e = .returned (.bool true) ∧ Below w.heap.size w w' := by
  have h1 : (600 : Int) < s.length := by omega
  go_enter Try.func4, Try.ntmps4
  go_wp2_with (go_at_call 8; refine (awake13_any _).mono ?_; rintro e w9 ⟨rfl, hb9⟩)
  go_ret
  exact ⟨rfl, hb9⟩

set_option maxRecDepth 100000 in
set_option maxHeartbeats 8000000 in
theorem bwtInverse_near (s : List UInt8) (r : Int) (w : World) (h : s.length ≤ 600) :
    Calls Try.prog 4 #[.string ⟨s.toArray⟩, .int .i64 r] w fun e w' => e = .returned (.bool true) ∧ Below w.heap.size w w' := by
  have h1 : ¬ (600 : Int) < s.length := by omega
  have hp := p_binverse_any s r w (by omega)
  have hq := fun W => bref_inverse_any s r W (by omega)
  have hk := fun W => p_bsteps_any s r W (by omega)
  have hj := fun W => bref_steps_any s r W (by omega)
  have hlen : (bsF s r).1.length ≤ 1000001 := by
    unfold bsF
    split
    · exact Nat.zero_le _
    · split
      · exact Nat.zero_le _
      · show (splc _).length ≤ _
        rw [splc_len, List.length_map, List.length_range]
        omega
  have Hsame : Hid (∀ (xs : List Int) (N : Nat) (A1 A2 : Option Addr) (c1 c2 : Nat) (W : World), N ≤ 1000001 → Reads W W.heap.size 1 A1 N (ints xs) → Reads W W.heap.size 1 A2 N (ints xs) → Calls Try.prog 15 #[.slice A1 N c1, .slice A2 N c2] W fun e w' => e = .returned (.bool true) ∧ Below W.heap.size W w') := Lib.hid fun xs N A1 A2 c1 c2 W hN h1 h2 => by
    have := same_any A1 A2 N N c1 c2 xs xs W h1 h2 (by omega) (by omega)
    rwa [show decide (xs = xs) = true from by simp] at this
  unfold TPost at hp hq
  unfold LPost at hk hj
  generalize biF s r = F at *
  generalize bsF s r = G at *
  obtain ⟨L, E⟩ := F
  obtain ⟨M, E2⟩ := G
  dsimp only at hp hq hk hj hlen
  have Hs := Lib.hid fun A1 A2 c1 c2 W h1 h2 => Hsame.out M M.length A1 A2 c1 c2 W hlen h1 h2
  have Hp := Lib.hid hp
  have Hq := Lib.hid hq
  have Hk := Lib.hid hk
  have Hj := Lib.hid hj
  have hL : (L == L) = true := by simp
  have hE : (E == E) = true := by simp
  have hE2 : (E2 == E2) = true := by simp
  clear hp hq hk hj h Hsame hlen
  go_enter Try.func4, Try.ntmps4
  go_wp2_with (first
    | (go_at_call 11; refine Hp.out.mono ?_; rintro e w1 ⟨rfl, hb1⟩; have Hb := Lib.hid hb1; clear hb1)
    | (go_at_call 12; refine (Hq.out _).mono ?_; rintro e w2 ⟨rfl, hb2⟩; replace Hb := Lib.hid (Hb.out.trans (hb2.mono Hb.out.size)); clear hb2)
    | (go_at_call 13; refine (Hk.out _).mono ?_; rintro e w3 ⟨A3, c3, rfl, _, hr3, hb3⟩; have H3 := Lib.hid hr3; replace Hb := Lib.hid (Hb.out.trans (hb3.mono Hb.out.size)); clear hb3; clear hr3)
    | (go_at_call 14; refine (Hj.out _).mono ?_; rintro e w4 ⟨A4, c4, rfl, _, hr4, hb4⟩; have H4 := Lib.hid hr4; replace H3 := Lib.hid (H3.out.upto hb4); replace Hb := Lib.hid (Hb.out.trans (hb4.mono Hb.out.size)); clear hb4; clear hr4)
    | (go_at_call 15; (with_reducible refine (Hs.out _ _ _ _ _ H3.out H4.out).mono ?_); rintro e w5 ⟨rfl, hb5⟩; replace Hb := Lib.hid (Hb.out.trans (hb5.mono Hb.out.size)); clear hb5; clear H3 H4)
    | (go_at_call 8; refine (awake13_any _).mono ?_; rintro e w9 ⟨rfl, hb9⟩; replace Hb := Lib.hid (Hb.out.trans (hb9.mono Hb.out.size)); clear hb9))
  go_ret
  exact ⟨rfl, Hb.out⟩
theorem bwtInverse_walk (s : List UInt8) (r : Int) (w : World) :
    Calls Try.prog 4 #[.string ⟨s.toArray⟩, .int .i64 r] w fun e w' => e = .returned (.bool true) ∧ Below w.heap.size w w' := by
  by_cases h : s.length ≤ 600
  · exact bwtInverse_near s r w h
  · exact bwtInverse_far0 s r w (by omega)

namespace BwtInverse
set_option maxRecDepth 100000 in
theorem lifted (os : Os) (started : os.Started) (H : Type) (enc : TypeId × Value → H) :
    ReturnsInHanded {} Try.checked os 4 .any (Rows.bwtInverseSpec.pre6 enc Try.prog Try.f4 Rows.bwtInverseRow.domain false) (Rows.bwtInverseSpec.post enc Try.prog Try.f4 false true false false) := by
  refine law_sized (C := Try.checked) (tb := 4) ownP started (by kernel_rfl) Try.func4
    (ChangeSpec.witness6 (enc := enc) (C := Try.checked) false ⟨#[], #[.string ⟨#[]⟩, .int .i64 0], []⟩ 8 (by kernel_rfl) (by kernel_rfl) (by kernel_rfl) (by kernel_rfl))
    laidP (by kernel_rfl) rfl (by kernel_rfl) Try.underlying4 (by intro ds h; match ds, h with | [_, _], _ => rfl) ?_
  intro W base args ds p hval0 hA0 hlt _
  have hval : ∀ (j : Nat) t v, Try.f4.params[j]? = some t → args[j]? = some v → Value.okWide Try.prog W .any base t v := hval0
  have hA : DataW.TrodAll enc Try.prog W 0 (fun _ => true) true Try.f4.params.toList args.toList ds p := hA0
  rw [Try.params4] at hA hval
  obtain ⟨v0, v1, d0, d1, p0, p1, rfl, rfl, rfl, h0, h1⟩ := trodAll_two hA
  obtain ⟨s, rfl, rfl⟩ := open_bytes Try.underlying9 (hval 0 9 v0 rfl rfl) h0
  obtain ⟨r, rfl, rfl, rfl, wr⟩ := open_int Try.underlying3 (hval 1 3 v1 rfl rfl) h1
  exact bwtInverse_walk s r W

theorem holds : Rows.BwtInverseSaid :=
  OpenClaim.holds_of_wide 4 Try.f4 rfl rfl rfl rfl rfl rfl rfl ⟨rfl, rfl, rfl, rfl, rfl⟩ rfl rfl rfl rfl rfl (by kernel_rfl) Try.func4 (by kernel_rfl)
    (of_decide_eq_true (by kernel_rfl)) (by unfold Func.isWrapper; first | (rw [if_pos (by decide +kernel)]; kernel_rfl) | (rw [if_neg (by decide +kernel)]; exact ⟨rfl, rfl⟩))
    (fun os started H enc _ => lifted os started H enc)
end BwtInverse
end Go.Proofs.Ytjdpogaaookoeaa
