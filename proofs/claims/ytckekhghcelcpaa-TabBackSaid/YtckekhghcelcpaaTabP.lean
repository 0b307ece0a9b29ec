/-
  Layer 10: the document's own Pack and Size of lengths (ahead of the code's landing).
-/
import Derived.Test.YtckekhghcelcpaaTabS
import Derived.Test.YtckekhghcelcpaaBitT0
namespace Go.Proofs.Ytckekhghcelcpaa
set_option linter.unusedSimpArgs false
set_option linter.unusedVariables false
open Go.ChangeShapes Go.WideShapes Go.ChangeAt Go.RowKit Go.Joins Go.Deep

set_option maxRecDepth 100000 in
set_option maxHeartbeats 2000000 in
theorem tref_pack_any (l : List Int) (A : Option Addr) (n c : Nat) (w : World) (hm : n ≤ 1000000) (hr : Reads w w.heap.size 1 A n (ints l)) :
    Calls Try.prog 8 #[.slice A n c] w fun e w' => e = .returned (.tuple #[.string ⟨(tpackF l).1.toArray⟩, .int .i64 (tpackF l).2]) ∧ Below w.heap.size w w' := by
  have Hck := Lib.hid (lref_check_any l A n c w hm hr)
  obtain ⟨F, hF⟩ : ∃ F, tpackF l = F := ⟨_, rfl⟩
  rw [hF]
  unfold tpackF at hF
  by_cases h0 : checkF l = 0
  · rw [if_pos h0] at hF
    rw [h0] at Hck
    obtain ⟨hl, hg⟩ := tcheck_ok h0
    have el : l.length = n := by have := hr.1; rw [ints_length] at this; omega
    have Hb := Lib.hid (tref_bits_any l A n c w (by omega) hg hr)
    have htl := tbits_len l (by omega)
    have Ht := Lib.hid fun (A : Option Addr) (c : Nat) (W : World) hr => refText_any (tbits l) A (tbits l).length c W rfl (by omega) hr (tbits_bin l)
    have Hf := Lib.hid hF
    clear hr hF h0 hl hg el htl
    go_enter Try.func8, Try.ntmps8
    go_wp2_with (first
      | (go_at_call 20; refine Hck.out.mono ?_; rintro e w2 ⟨rfl, hw2⟩; obtain rfl := hw2.symm; clear hw2)
      | (go_at_call 22; refine Hb.out.mono ?_; rintro e w3 ⟨A3, c3, rfl, hr3, hb3⟩; have Hr3 := Lib.hid hr3; have Hb3 := Lib.hid hb3; clear hr3 hb3)
      | (go_at_call 21; refine (Ht.out _ _ _ Hr3.out).mono ?_; rintro e w4 ⟨rfl, hb4⟩; have Hb4 := Lib.hid hb4; clear hb4))
    go_ret2
    refine ⟨?_, Hb3.out.trans (Hb4.out.mono Hb3.out.size)⟩
    rw [← Hf.out]
    rfl
  · rw [if_neg h0] at hF
    have hb : (checkF l == (0 : Int)) = false := by simpa using h0
    have Hf := Lib.hid hF
    clear hr hF
    generalize checkF l = E at *
    go_enter Try.func8, Try.ntmps8
    go_wp2_with (go_at_call 20; refine Hck.out.mono ?_; rintro e w2 ⟨rfl, hw2⟩; obtain rfl := hw2.symm; clear hw2)
    go_ret2
    rw [← Hf.out]
    exact ⟨rfl, Below.refl _ _⟩
set_option maxRecDepth 100000 in
set_option maxHeartbeats 2000000 in
theorem tref_size_any (l : List Int) (A : Option Addr) (n c : Nat) (w : World) (hm : n ≤ 1000000) (hr : Reads w w.heap.size 1 A n (ints l)) :
    Calls Try.prog 10 #[.slice A n c] w fun e w' => e = .returned (.int .i64 (tsizeF l : Int)) ∧ Below w.heap.size w w' := by
  have Hck := Lib.hid (lref_check_any l A n c w hm hr)
  obtain ⟨F, hF⟩ : ∃ F, tsizeF l = F := ⟨_, rfl⟩
  rw [hF]
  unfold tsizeF at hF
  by_cases h0 : checkF l = 0
  · rw [if_pos h0] at hF
    rw [h0] at Hck
    obtain ⟨hl, hg⟩ := tcheck_ok h0
    have el : l.length = n := by have := hr.1; rw [ints_length] at this; omega
    have hb := tref_bits_any l A n c w (by omega) hg hr
    rw [hF] at hb
    have Hb := Lib.hid hb
    clear hr hF h0 hl hg el hb
    go_enter Try.func10, Try.ntmps10
    go_wp2_with (first
      | (go_at_call 20; refine Hck.out.mono ?_; rintro e w2 ⟨rfl, hw2⟩; obtain rfl := hw2.symm; clear hw2)
      | (go_at_call 22; refine Hb.out.mono ?_; rintro e w3 ⟨A3, c3, rfl, hr3, hb3⟩; have Hb3 := Lib.hid hb3; clear hr3 hb3))
    go_ret
    exact ⟨rfl, Hb3.out⟩
  · rw [if_neg h0] at hF
    subst hF
    have hb : (checkF l == (0 : Int)) = false := by simpa using h0
    clear hr
    generalize checkF l = E at *
    go_enter Try.func10, Try.ntmps10
    go_wp2_with (go_at_call 20; refine Hck.out.mono ?_; rintro e w2 ⟨rfl, hw2⟩; obtain rfl := hw2.symm; clear hw2)
    go_ret
    exact ⟨rfl, Below.refl _ _⟩
end Go.Proofs.Ytckekhghcelcpaa
