/-
  A frame, one byte of which is another one behind its kind and its number, is told by its sum; the layer's probe holds (FrameTurned). No condition.
-/
import Derived.Test.YtodllghfcdbbpaaFrmAw
import Derived.Test.YtodllghfcdbbpaaFrame
import Derived.Test.YtodllghfcdbbpaaRow
namespace Go.Proofs.Ytodllghfcdbbpaa
set_option linter.unusedSimpArgs false
set_option linter.unusedVariables false
open Go.ChangeShapes Go.WideShapes Go.ChangeAt Go.RowKit Go.Joins Go.Deep
set_option maxHeartbeats 2000000 in
theorem frameTurned_far0 (b : List UInt8) (p x : Int) (w : World) (h : 5000 < b.length) :
    Calls Try.prog 7 #[.string ⟨b.toArray⟩, .int .i64 p, .int .u8 x] w fun e w' => e = .returned (.bool true) ∧ Below w.heap.size w w' := by
  have h1 : (5000 : Int) < b.length := by omega
  go_enter Try.func7, Try.ntmps7
  go_wp2_with (go_at_call 8; refine (awake16_any _).mono ?_; rintro e w9 ⟨rfl, hb9⟩)
  go_ret
  exact ⟨rfl, hb9⟩
set_option maxHeartbeats 2000000 in
theorem frameTurned_far1 (b : List UInt8) (p x : Int) (w : World) (h : b.length ≤ 5000) (h2 : p < 0) :
    Calls Try.prog 7 #[.string ⟨b.toArray⟩, .int .i64 p, .int .u8 x] w fun e w' => e = .returned (.bool true) ∧ Below w.heap.size w w' := by
  have h1 : ¬ (5000 : Int) < b.length := by omega
  go_enter Try.func7, Try.ntmps7
  go_wp2_with (go_at_call 8; refine (awake16_any _).mono ?_; rintro e w9 ⟨rfl, hb9⟩)
  go_ret
  exact ⟨rfl, hb9⟩
set_option maxHeartbeats 2000000 in
theorem frameTurned_far2 (b : List UInt8) (p x : Int) (w : World) (h : b.length ≤ 5000) (h2 : 0 ≤ p) (h3 : (b.length : Int) + 3 < p) :
    Calls Try.prog 7 #[.string ⟨b.toArray⟩, .int .i64 p, .int .u8 x] w fun e w' => e = .returned (.bool true) ∧ Below w.heap.size w w' := by
  have h1 : ¬ (5000 : Int) < b.length := by omega
  have h4 : ¬ p < 0 := by omega
  go_enter Try.func7, Try.ntmps7
  go_wp2_with (go_at_call 8; refine (awake16_any _).mono ?_; rintro e w9 ⟨rfl, hb9⟩)
  go_ret
  exact ⟨rfl, hb9⟩
set_option maxHeartbeats 2000000 in
theorem frameTurned_far3 (b : List UInt8) (p x : Int) (w : World) (h : b.length ≤ 5000) (h2 : 0 ≤ p) (h3 : p ≤ (b.length : Int) + 3) (h4 : x = 0) :
    Calls Try.prog 7 #[.string ⟨b.toArray⟩, .int .i64 p, .int .u8 x] w fun e w' => e = .returned (.bool true) ∧ Below w.heap.size w w' := by
  have h1 : ¬ (5000 : Int) < b.length := by omega
  have h5 : ¬ p < 0 := by omega
  have h6 : ¬ (b.length : Int) + 3 < p := by omega
  subst h4
  go_enter Try.func7, Try.ntmps7
  go_wp2_with (go_at_call 8; refine (awake16_any _).mono ?_; rintro e w9 ⟨rfl, hb9⟩)
  go_ret
  exact ⟨rfl, hb9⟩
theorem fxor_ne {x y : UInt8} (h : y ≠ 0) : x ^^^ y ≠ x := fun e => h (by
  have := congrArg (fun z => x ^^^ z) e
  simpa [← UInt8.xor_assoc] using this)
theorem fset_split (l : List UInt8) (i : Nat) (h : i < l.length) (v : UInt8) : l.set i v = l.take i ++ (v :: l.drop (i + 1)) := by
  rw [List.set_eq_take_append_cons_drop, if_pos h]
theorem fget_turned (k : Nat) (b : List UInt8) (h1 : 1 ≤ k) (h4 : k ≤ 4) (hb : b.length ≤ 60000) (i : Nat) (h5 : 5 ≤ i) (hi : i < (fB k b).length) (y : UInt8) (hy : y ≠ 0) : fgetF ((fB k b).set i ((fB k b)[i] ^^^ y)) 0 = (fnone, 7) := by
  have hl := fB_len k b
  have hg : (fgR ((fB k b).set i ((fB k b)[i] ^^^ y))).2.2.2 = 7 := by
    have hh := fhd_len k b
    have e1 : fB k b = UInt8.ofNat k :: (fx 4 b.length ++ (b ++ fsum (fhd k b))) := by
      unfold fB
      rw [show fhd k b ++ fsum (fhd k b) = UInt8.ofNat k :: (fx 4 b.length ++ b ++ fsum (fhd k b)) from rfl, List.append_assoc]
    have x1 : (fB k b).getD 0 0 = UInt8.ofNat k := by rw [e1]; rfl
    have x2 : ((fB k b).drop 1).take 4 = fx 4 b.length := by rw [e1, List.drop_succ_cons, List.drop_zero]; exact List.take_left' (fx_length 4 _)
    have x3 : (fB k b).take (5 + b.length) = fhd k b := List.take_left' hh
    have x4 : ((fB k b).drop (5 + b.length)).take 4 = fsum (fhd k b) := by
      unfold fB
      rw [List.drop_left' hh]
      exact List.take_of_length_le (by rw [fsum_len]; omega)
    have x5 : (fB k b).drop (5 + b.length) = fsum (fhd k b) := List.drop_left' hh
    have y1 : ((fB k b).set i ((fB k b)[i] ^^^ y)).getD 0 0 = UInt8.ofNat k := by
      rw [← x1, List.getD_eq_getElem?_getD, List.getD_eq_getElem?_getD, List.getElem?_set, if_neg (by omega)]
    have y2 : (((fB k b).set i ((fB k b)[i] ^^^ y)).drop 1).take 4 = fx 4 b.length := by
      rw [List.drop_set, if_neg (by omega), List.take_set, x2, List.set_eq_of_length_le (by rw [fx_length]; omega)]
    have y3 : ((fB k b).set i ((fB k b)[i] ^^^ y)).length = 9 + b.length := by rw [List.length_set, hl]
    have hv : val8 (fx 4 b.length) = b.length := fx_val 4 _ (by omega)
    have hk : (UInt8.ofNat k).toNat = k := u8_ofNat k (by omega)
    unfold fgR
    rw [y1, y2, y3, hv, hk, if_neg (by omega), if_neg (by omega), if_neg (by omega), if_neg (by omega), if_pos]
    rw [List.take_set, x3, List.drop_set, x5]
    by_cases hlt : i < 5 + b.length
    · rw [if_pos hlt, List.take_of_length_le (by rw [fsum_len]; omega)]
      have e2 : (fB k b)[i] = (fhd k b)[i]'(by omega) := List.getElem_append_left (by omega)
      have e3 : (fhd k b).take i ++ ((fhd k b)[i]'(by omega) :: (fhd k b).drop (i + 1)) = fhd k b := by
        rw [← List.drop_eq_getElem_cons (by omega), List.take_append_drop]
      rw [e2, fset_split _ i (by omega)]
      have := fsum_turned ((fhd k b).take i) ((fhd k b).drop (i + 1)) ((fhd k b)[i]'(by omega)) y hy
      rwa [e3] at this
    · rw [if_neg hlt, List.set_eq_of_length_le (by omega), List.take_of_length_le (by rw [List.length_set, fsum_len]; omega)]
      intro e
      obtain ⟨j, hj⟩ : ∃ j, i = (fhd k b).length + j := ⟨i - (fhd k b).length, by omega⟩
      have hj4 : j < (fsum (fhd k b)).length := by rw [fsum_len]; omega
      have e2 : (fB k b)[i] = (fsum (fhd k b))[j] := by
        have : (fhd k b ++ fsum (fhd k b))[i]'(by unfold fB at hi; exact hi) = (fsum (fhd k b))[i - (fhd k b).length]'(by omega) := List.getElem_append_right (by omega)
        rw [show (fB k b)[i] = (fhd k b ++ fsum (fhd k b))[i]'(by unfold fB at hi; exact hi) from rfl, this]
        congr 1
        omega
      have e3 : (fsum (fhd k b))[j]? = ((fsum (fhd k b)).set (i - (5 + b.length)) ((fB k b)[i] ^^^ y))[j]? := congrArg (fun l => l[j]?) e
      rw [List.getElem?_set, if_pos (by omega), if_pos (by omega), List.getElem?_eq_getElem hj4, e2] at e3
      injection e3 with e3
      exact fxor_ne hy e3.symm
  have h0 := fgetF_no (s := (fB k b).set i ((fB k b)[i] ^^^ y)) (q := 0) (Nat.zero_le _) (by rw [List.drop_zero, hg]; decide)
  rw [List.drop_zero, hg] at h0
  exact h0
set_option maxRecDepth 100000 in
set_option maxHeartbeats 8000000 in
theorem frameTurned_near (b : List UInt8) (m : Nat) (y : UInt8) (w : World) (h : b.length ≤ 5000) (hm : m ≤ b.length + 3) (hy : y ≠ 0) :
    Calls Try.prog 7 #[.string ⟨b.toArray⟩, .int .i64 (m : Int), .int .u8 (y.toNat : Int)] w fun e w' => e = .returned (.bool true) ∧ Below w.heap.size w w' := by
  have h1 : ¬ (5000 : Int) < b.length := by omega
  have h2 : ¬ (b.length : Int) + 3 < (m : Int) := by omega
  have h3 : ((y.toNat : Int) == 0) = false := by
    refine beq_eq_false_iff_ne.2 fun e => hy (u8_eq ?_)
    show y.toNat = 0
    omega
  have hl := fB_len 3 b
  obtain ⟨i, hi⟩ : ∃ i, i = 5 + m := ⟨_, rfl⟩
  have hiB : i < (fB 3 b).length := by omega
  have P1 := fun W => p_fput_any 3 b W (by omega)
  rw [show fputF 3 b = (fB 3 b, 0) from by unfold fputF; rw [if_neg (by omega), if_neg (by omega)]; rfl] at P1
  have P2 := fun W => p_fget_any ((fB 3 b).set i ((fB 3 b)[i] ^^^ y)) 0 W (by rw [List.length_set]; omega)
  rw [fget_turned 3 b (by omega) (by omega) (by omega) i (by omega) hiB y hy] at P2
  unfold FGPost at P2
  have hi5 : (5 : Int) + (m : Int) = (i : Int) := by omega
  have hiw : IntKind.i64.wrap ((5 : Int) + (m : Int)) = (i : Int) := by rw [IntKind.wrap_i64]; omega
  have hiw2 : IntKind.i64.wrap (i : Int) = (i : Int) := by rw [IntKind.wrap_i64]; omega
  have hib : (0 : Int) ≤ (i : Int) ∧ (i : Int) < ((fB 3 b).length : Int) := by omega
  have hln : ((fB 3 b).length : Int) = (b.length : Int) + 9 := by omega
  have hxr : bits .xor .u8 ((fB 3 b)[i].toNat : Int) (y.toNat : Int) = (((fB 3 b)[i] ^^^ y).toNat : Int) := by
    rw [xor_u8 _ _ (u8_lt _) (u8_lt _), UInt8.toNat_xor]
  have Hget : Hid ((fB 3 b)[i]? = some (fB 3 b)[i]) := Lib.hid (List.getElem?_eq_getElem hiB)
  have HiB := Lib.hid hiB
  dsimp only [fnone] at P1 P2
  have hbl : (0 : Int) ≤ (b.length : Int) ∧ (b.length : Int) ≤ 5000 := by omega
  replace P1 := Lib.hid P1
  replace P2 := Lib.hid P2
  have Hz : Hid (∀ W g, BRow W g (fB 3 b) → W.cell? ⟨g, i, none⟩ = some (.int .u8 ((fB 3 b)[i].toNat : Int)) ∧ W.frozen? ⟨g, i, none⟩ = false ∧ BRow (W.setCell ⟨g, i, none⟩ (.int .u8 (((fB 3 b)[i] ^^^ y).toNat : Int))) g ((fB 3 b).set i ((fB 3 b)[i] ^^^ y))) := Lib.hid fun W g hB => ⟨hB.cell i _ Hget.out, hB.free i hiB, hB.set i _ hiB⟩
  have Hln2 : Hid (((fB 3 b).set i ((fB 3 b)[i] ^^^ y)).length = (fB 3 b).length) := Lib.hid List.length_set
  generalize (fB 3 b)[i] = bv at *
  clear h hm hy hl hi hiB Hget HiB
  generalize (fB 3 b).set i (bv ^^^ y) = T2 at *
  generalize ((bv ^^^ y).toNat : Int) = z2 at *
  generalize (bv.toNat : Int) = z1 at *
  generalize fB 3 b = T at *
  generalize (y.toNat : Int) = z3 at *
  go_enter Try.func7, Try.ntmps7
  go_wp2_with (first
    | (go_at_call 9; (with_reducible refine (P1.out _).mono ?_); rintro e w1 ⟨rfl, hb1⟩; have Hb := Lib.hid hb1; obtain ⟨cap, W1, hcv, hR, hB, hcap⟩ := run_bytes_row (P := Try.prog) w1 9 43 5 T Try.underlying9 Try.underlying43 Try.underlying5; have hz := Hz.out W1 _ hR; have x0 := hz.1; have x1 := hz.2.1; have hstr := BRow.str Try.underlying43 Try.underlying5 Try.underlying9 hz.2.2 T.length cap Hln2.out; replace Hb := Lib.hid ((Hb.out.trans (hB.mono Hb.out.size)).setCell (p := ⟨w1.heap.size, i, none⟩) hb1.size (.int .u8 z2)); clear hz hR hB hb1 P1)
    | (go_at_call 12; (with_reducible refine (P2.out _).mono ?_); rintro e w2 ⟨rfl, hb2⟩; replace Hb := Lib.hid (Hb.out.trans (hb2.mono Hb.out.size)); clear hb2; replace Hb := Lib.hid (Hb.out.alloc Hb.out.size (.cells #[.int .i64 0, .string ⟨#[]⟩, .int .i64 0, .int .i64 0] 31)); clear P2)
    | (go_at_call 8; refine (awake16_any _).mono ?_; rintro e w9 ⟨rfl, hb9⟩; replace Hb := Lib.hid (Hb.out.trans (hb9.mono Hb.out.size)); clear hb9))
  go_ret
  exact ⟨rfl, Hb.out⟩
theorem fu8 {x : Int} (h : (Lit.int .u8 x).wf = true) : 0 ≤ x ∧ x < 256 := by
  unfold Lit.wf at h
  rw [Bool.and_eq_true, decide_eq_true_iff, decide_eq_true_iff, show IntKind.min .u8 = 0 from by decide, show IntKind.max .u8 = 255 from by decide] at h
  omega
theorem frameTurned_walk (b : List UInt8) (p x : Int) (w : World) (hx : 0 ≤ x ∧ x < 256) :
    Calls Try.prog 7 #[.string ⟨b.toArray⟩, .int .i64 p, .int .u8 x] w fun e w' => e = .returned (.bool true) ∧ Below w.heap.size w w' := by
  by_cases h : b.length ≤ 5000
  · by_cases h2 : 0 ≤ p
    · by_cases h3 : p ≤ (b.length : Int) + 3
      · by_cases h4 : x = 0
        · exact frameTurned_far3 b p x w h h2 h3 h4
        · have hn := u8_ofNat x.toNat (by omega)
          have := frameTurned_near b p.toNat (UInt8.ofNat x.toNat) w h (by omega) (fun e => by rw [e] at hn; have : (0 : UInt8).toNat = 0 := rfl; omega)
          rwa [hn, show ((x.toNat : Nat) : Int) = x from by omega, show ((p.toNat : Nat) : Int) = p from by omega] at this
      · exact frameTurned_far2 b p x w h h2 (by omega)
    · exact frameTurned_far1 b p x w h (by omega)
  · exact frameTurned_far0 b p x w (by omega)
namespace FrameTurned
set_option maxRecDepth 100000 in
theorem lifted (os : Os) (started : os.Started) (H : Type) (enc : TypeId × Value → H) :
    ReturnsInHanded {} Try.checked os 7 .any (Rows.frameTurnedSpec.pre6 enc Try.prog Try.f7 Rows.frameTurnedRow.domain false) (Rows.frameTurnedSpec.post enc Try.prog Try.f7 false true false false) := by
  refine law_sized (C := Try.checked) (tb := 4) ownP started (by kernel_rfl) Try.func7
    (ChangeSpec.witness6 (enc := enc) (C := Try.checked) false ⟨#[], #[.string ⟨#[]⟩, .int .i64 0, .int .u8 0], []⟩ 8 (by kernel_rfl) (by kernel_rfl) (by kernel_rfl) (by kernel_rfl))
    laidP (by kernel_rfl) rfl (by kernel_rfl) Try.underlying4 (by intro ds h; match ds, h with | [_, _, _], _ => rfl) ?_
  intro W base args ds p hval0 hA0 hlt _
  have hval : ∀ (j : Nat) t v, Try.f7.params[j]? = some t → args[j]? = some v → Value.okWide Try.prog W .any base t v := hval0
  have hA : DataW.TrodAll enc Try.prog W 0 (fun _ => true) true Try.f7.params.toList args.toList ds p := hA0
  rw [Try.params7] at hA hval
  obtain ⟨v0, v1, v2, d0, d1, d2, p0, p1, p2, rfl, rfl, rfl, h0, h1, h2⟩ := trodAll_three hA
  obtain ⟨b, rfl, rfl⟩ := open_bytes Try.underlying9 (hval 0 9 v0 rfl rfl) h0
  obtain ⟨p, rfl, rfl, rfl, wp⟩ := open_int Try.underlying3 (hval 1 3 v1 rfl rfl) h1
  obtain ⟨x, rfl, rfl, rfl, wx⟩ := open_int Try.underlying5 (hval 2 5 v2 rfl rfl) h2
  exact frameTurned_walk b p x W (fu8 wx)
theorem holds : Rows.FrameTurnedSaid :=
  OpenClaim.holds_of_wide 7 Try.f7 rfl rfl rfl rfl rfl rfl rfl ⟨rfl, rfl, rfl, rfl, rfl⟩ rfl rfl rfl rfl rfl (by kernel_rfl) Try.func7 (by kernel_rfl)
    (of_decide_eq_true (by kernel_rfl)) (by unfold Func.isWrapper; first | (rw [if_pos (by decide +kernel)]; kernel_rfl) | (rw [if_neg (by decide +kernel)]; exact ⟨rfl, rfl⟩))
    (fun os started H enc _ => lifted os started H enc)
end FrameTurned
end Go.Proofs.Ytodllghfcdbbpaa
