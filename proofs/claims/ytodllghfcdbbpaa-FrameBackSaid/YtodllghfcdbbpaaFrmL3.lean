/-
  What was framed is taken again, wherever it stands, whatever is behind; the layer's probe holds (FrameBack). No condition.
-/
import Derived.Test.YtodllghfcdbbpaaFrmAw
import Derived.Test.YtodllghfcdbbpaaFrame
namespace Go.Proofs.Ytodllghfcdbbpaa
set_option linter.unusedSimpArgs false
set_option linter.unusedVariables false
open Go.ChangeShapes Go.WideShapes Go.ChangeAt Go.RowKit Go.Joins Go.Deep
set_option maxHeartbeats 2000000 in
theorem frameBack_far0 (k : Int) (b u : List UInt8) (w : World) (h : 61000 < b.length) :
    Calls Try.prog 5 #[.int .i64 k, .string ⟨b.toArray⟩, .string ⟨u.toArray⟩] w fun e w' => e = .returned (.bool true) ∧ Below w.heap.size w w' := by
  have h1 : (61000 : Int) < b.length := by omega
  go_enter Try.func5, Try.ntmps5
  go_wp2_with (go_at_call 8; refine (awake16_any _).mono ?_; rintro e w9 ⟨rfl, hb9⟩)
  go_ret
  exact ⟨rfl, hb9⟩
set_option maxHeartbeats 2000000 in
theorem frameBack_far1 (k : Int) (b u : List UInt8) (w : World) (h : b.length ≤ 61000) (h2 : 1000 < u.length) :
    Calls Try.prog 5 #[.int .i64 k, .string ⟨b.toArray⟩, .string ⟨u.toArray⟩] w fun e w' => e = .returned (.bool true) ∧ Below w.heap.size w w' := by
  have h1 : ¬ (61000 : Int) < b.length := by omega
  have h3 : (1000 : Int) < u.length := by omega
  go_enter Try.func5, Try.ntmps5
  go_wp2_with (go_at_call 8; refine (awake16_any _).mono ?_; rintro e w9 ⟨rfl, hb9⟩)
  go_ret
  exact ⟨rfl, hb9⟩
theorem fput_no {k : Int} {b : List UInt8} (h : (fputF k b).2 ≠ 0) : (fputF k b).1 = [] := by
  unfold fputF at h ⊢
  split
  · rfl
  · split
    · rfl
    · rename_i h1 h2
      rw [if_neg h1, if_neg h2] at h
      exact absurd rfl h
theorem fput_ok {k : Int} {b : List UInt8} (h : (fputF k b).2 = 0) : ∃ m : Nat, k = (m : Int) ∧ 1 ≤ m ∧ m ≤ 4 ∧ b.length ≤ 60000 ∧ fputF k b = (fB m b, 0) := by
  unfold fputF at h ⊢
  by_cases h1 : k < 1 ∨ 4 < k
  · rw [if_pos h1] at h
    cases h
  · rw [if_neg h1] at h ⊢
    by_cases h2 : 60000 < b.length
    · rw [if_pos h2] at h
      cases h
    · rw [if_neg h2]
      exact ⟨k.toNat, by omega, by omega, by omega, by omega, rfl⟩
set_option maxRecDepth 100000 in
set_option maxHeartbeats 8000000 in
theorem frameBack_no (k : Int) (b u : List UInt8) (w : World) (h : b.length ≤ 61000) (h2 : u.length ≤ 1000) (hE : (fputF k b).2 ≠ 0) :
    Calls Try.prog 5 #[.int .i64 k, .string ⟨b.toArray⟩, .string ⟨u.toArray⟩] w fun e w' => e = .returned (.bool true) ∧ Below w.heap.size w w' := by
  have h1 : ¬ (61000 : Int) < b.length := by omega
  have h3 : ¬ (1000 : Int) < u.length := by omega
  have P1 := fun W => p_fput_any k b W (by omega)
  rw [fput_no hE] at P1
  have hne : ((fputF k b).2 != 0) = true := by simpa using hE
  replace P1 := Lib.hid P1
  clear h h2 hE
  generalize (fputF k b).2 = E at *
  go_enter Try.func5, Try.ntmps5
  go_wp2_with (first
    | (go_at_call 9; (with_reducible refine (P1.out _).mono ?_); rintro e w1 ⟨rfl, hb1⟩; have Hb := Lib.hid hb1; clear hb1 P1)
    | (go_at_call 8; refine (awake16_any _).mono ?_; rintro e w9 ⟨rfl, hb9⟩; replace Hb := Lib.hid (Hb.out.trans (hb9.mono Hb.out.size)); clear hb9))
  go_ret
  exact ⟨rfl, Hb.out⟩
set_option maxRecDepth 100000 in
set_option maxHeartbeats 8000000 in
theorem frameBack_yes (k : Int) (b u : List UInt8) (w : World) (h : b.length ≤ 61000) (h2 : u.length ≤ 1000) (hE : (fputF k b).2 = 0) :
    Calls Try.prog 5 #[.int .i64 k, .string ⟨b.toArray⟩, .string ⟨u.toArray⟩] w fun e w' => e = .returned (.bool true) ∧ Below w.heap.size w w' := by
  have h1 : ¬ (61000 : Int) < b.length := by omega
  have h3 : ¬ (1000 : Int) < u.length := by omega
  obtain ⟨m, rfl, m1, m4, hb, e1⟩ := fput_ok hE
  have P1 := fun W => p_fput_any (m : Int) b W (by omega)
  rw [e1] at P1
  have hl := fB_len m b
  have g1 := fun W => fadd [98, 101, 102, 111, 114, 101] (fB m b) (by rw [hl]; simp only [List.length_cons, List.length_nil]; omega) W
  have g2 := fun W => fadd ([98, 101, 102, 111, 114, 101] ++ fB m b) u (by rw [List.length_append, hl]; simp only [List.length_cons, List.length_nil]; omega) W
  have P2 := fun W => p_fget_any ([98, 101, 102, 111, 114, 101] ++ (fB m b ++ u)) 6 W (by rw [List.length_append, List.length_append, hl]; simp only [List.length_cons, List.length_nil]; omega)
  rw [fgetF_put [98, 101, 102, 111, 114, 101] u b m m1 m4 hb 6 rfl, ← List.append_assoc, ← hl] at P2
  unfold FGPost at P2
  have P3 := fun W => p_fsize_any b W (by omega)
  have e3 : (b.length : Int) + 9 = ((fB m b).length : Int) := by omega
  rw [e3] at P3
  have hNi : (9 : Int) ≤ ((fB m b).length : Int) ∧ ((fB m b).length : Int) ≤ 60009 := by omega
  have heq := fun W => frec_same (m : Int) 6 (6 + ((fB m b).length : Int)) b W
  have hgu := frec_guard
  dsimp only at P1 P2
  replace P1 := Lib.hid P1
  replace P2 := Lib.hid P2
  replace P3 := Lib.hid P3
  clear h h2 hE e1 e3 hl
  generalize [98, 101, 102, 111, 114, 101] ++ fB m b ++ u = T2 at *
  generalize [98, 101, 102, 111, 114, 101] ++ fB m b = T1 at *
  generalize fB m b = T at *
  go_enter Try.func5, Try.ntmps5
  go_wp2_with (first
    | (go_at_call 9; (with_reducible refine (P1.out _).mono ?_); rintro e w1 ⟨rfl, hb1⟩; have Hb := Lib.hid hb1; clear hb1 P1)
    | (go_at_call 12; (with_reducible refine (P2.out _).mono ?_); rintro e w2 ⟨rfl, hb2⟩; replace Hb := Lib.hid (Hb.out.trans (hb2.mono Hb.out.size)); clear hb2; replace Hb := Lib.hid (Hb.out.alloc Hb.out.size (.cells #[.int .i64 (m : Int), .string ⟨b.toArray⟩, .int .i64 6, .int .i64 (6 + (T.length : Int))] 31)); clear P2)
    | (go_at_call 11; (with_reducible refine (P3.out _).mono ?_); rintro e w3 ⟨rfl, hb3⟩; replace Hb := Lib.hid (Hb.out.trans (hb3.mono Hb.out.size)); clear hb3; clear P3)
    | (go_at_call 8; refine (awake16_any _).mono ?_; rintro e w9 ⟨rfl, hb9⟩; replace Hb := Lib.hid (Hb.out.trans (hb9.mono Hb.out.size)); clear hb9))
  go_ret
  exact ⟨rfl, Hb.out⟩
theorem frameBack_walk (k : Int) (b u : List UInt8) (w : World) :
    Calls Try.prog 5 #[.int .i64 k, .string ⟨b.toArray⟩, .string ⟨u.toArray⟩] w fun e w' => e = .returned (.bool true) ∧ Below w.heap.size w w' := by
  by_cases h : b.length ≤ 61000
  · by_cases h2 : u.length ≤ 1000
    · by_cases hE : (fputF k b).2 = 0
      · exact frameBack_yes k b u w h h2 hE
      · exact frameBack_no k b u w h h2 hE
    · exact frameBack_far1 k b u w h (by omega)
  · exact frameBack_far0 k b u w (by omega)
namespace FrameBack
set_option maxRecDepth 100000 in
theorem lifted (os : Os) (started : os.Started) (H : Type) (enc : TypeId × Value → H) :
    ReturnsInHanded {} Try.checked os 5 .any (Rows.frameBackSpec.pre6 enc Try.prog Try.f5 Rows.frameBackRow.domain false) (Rows.frameBackSpec.post enc Try.prog Try.f5 false true false false) := by
  refine law_sized (C := Try.checked) (tb := 4) ownP started (by kernel_rfl) Try.func5
    (ChangeSpec.witness6 (enc := enc) (C := Try.checked) false ⟨#[], #[.int .i64 0, .string ⟨#[]⟩, .string ⟨#[]⟩], []⟩ 8 (by kernel_rfl) (by kernel_rfl) (by kernel_rfl) (by kernel_rfl))
    laidP (by kernel_rfl) rfl (by kernel_rfl) Try.underlying4 (by intro ds h; match ds, h with | [_, _, _], _ => rfl) ?_
  intro W base args ds p hval0 hA0 hlt _
  have hval : ∀ (j : Nat) t v, Try.f5.params[j]? = some t → args[j]? = some v → Value.okWide Try.prog W .any base t v := hval0
  have hA : DataW.TrodAll enc Try.prog W 0 (fun _ => true) true Try.f5.params.toList args.toList ds p := hA0
  rw [Try.params5] at hA hval
  obtain ⟨v0, v1, v2, d0, d1, d2, p0, p1, p2, rfl, rfl, rfl, h0, h1, h2⟩ := trodAll_three hA
  obtain ⟨k, rfl, rfl, rfl, wk⟩ := open_int Try.underlying3 (hval 0 3 v0 rfl rfl) h0
  obtain ⟨b, rfl, rfl⟩ := open_bytes Try.underlying9 (hval 1 9 v1 rfl rfl) h1
  obtain ⟨u, rfl, rfl⟩ := open_bytes Try.underlying9 (hval 2 9 v2 rfl rfl) h2
  exact frameBack_walk k b u W
theorem holds : Rows.FrameBackSaid :=
  OpenClaim.holds_of_wide 5 Try.f5 rfl rfl rfl rfl rfl rfl rfl ⟨rfl, rfl, rfl, rfl, rfl⟩ rfl rfl rfl rfl rfl (by kernel_rfl) Try.func5 (by kernel_rfl)
    (of_decide_eq_true (by kernel_rfl)) (by unfold Func.isWrapper; first | (rw [if_pos (by decide +kernel)]; kernel_rfl) | (rw [if_neg (by decide +kernel)]; exact ⟨rfl, rfl⟩))
    (fun os started H enc _ => lifted os started H enc)
end FrameBack
end Go.Proofs.Ytodllghfcdbbpaa
