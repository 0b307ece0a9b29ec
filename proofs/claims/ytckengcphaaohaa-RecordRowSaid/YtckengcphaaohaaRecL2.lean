/-
  Any records are a row, or not, with the document's bytes; any bytes are its records', or none's; the layer's probe holds (RecordRow). No condition.
-/
import Derived.Test.YtckengcphaaohaaRecAw
import Derived.Test.YtckengcphaaohaaFrame
namespace Go.Proofs.Ytckengcphaaohaa
set_option linter.unusedSimpArgs false
set_option linter.unusedVariables false
open Go.ChangeShapes Go.WideShapes Go.ChangeAt Go.RowKit Go.Joins Go.Deep
set_option maxHeartbeats 2000000 in
theorem recordRow_far0 (l : List Rc) (A : Option Addr) (n c : Nat) (hl : l.length = n) (s : List UInt8) (w : World) (h : fewF l = false) (hr : Reads w w.heap.size 3 A n (rcs l)) :
    Calls Try.prog 4 #[.slice A n c, .string ⟨s.toArray⟩] w fun e w' => e = .returned (.bool true) ∧ Below w.heap.size w w' := by
  have Hb := Lib.hid (Below.refl w.heap.size w)
  have hf := few_any l A n c w hl hr
  rw [h] at hf
  go_enter Try.func4, Try.ntmps4
  go_wp2_with (first
    | (go_at_call 7; (with_reducible refine hf.mono ?_); rintro e w0 ⟨rfl, rfl⟩; clear hf)
    | (go_at_call 8; refine (awake15_any _).mono ?_; rintro e w9 ⟨rfl, hb9⟩; replace Hb := Lib.hid (Hb.out.trans (hb9.mono Hb.out.size)); clear hb9))
  go_ret
  exact ⟨rfl, Hb.out⟩
set_option maxHeartbeats 2000000 in
theorem recordRow_far1 (l : List Rc) (A : Option Addr) (n c : Nat) (hl : l.length = n) (s : List UInt8) (w : World) (h : fewF l = true) (h2 : 25000 < s.length) (hr : Reads w w.heap.size 3 A n (rcs l)) :
    Calls Try.prog 4 #[.slice A n c, .string ⟨s.toArray⟩] w fun e w' => e = .returned (.bool true) ∧ Below w.heap.size w w' := by
  have Hb := Lib.hid (Below.refl w.heap.size w)
  have hf := few_any l A n c w hl hr
  rw [h] at hf
  have h1 : (25000 : Int) < s.length := by omega
  go_enter Try.func4, Try.ntmps4
  go_wp2_with (first
    | (go_at_call 7; (with_reducible refine hf.mono ?_); rintro e w0 ⟨rfl, rfl⟩; clear hf)
    | (go_at_call 8; refine (awake15_any _).mono ?_; rintro e w9 ⟨rfl, hb9⟩; replace Hb := Lib.hid (Hb.out.trans (hb9.mono Hb.out.size)); clear hb9))
  go_ret
  exact ⟨rfl, Hb.out⟩
theorem rsplit_count (s : List UInt8) : (rsplitF s).1.length ≤ s.length := by
  by_cases h : (rsplitF s).2 = 0
  · have h1 := rforth h
    have h2 := rjB_count (l := (rsplitF s).1) (rrow_may (by
      unfold rjoinF at h1
      by_cases h3 : rrowF (rsplitF s).1 ≠ 0
      · rw [if_pos h3] at h1
        exact absurd (congrArg Prod.snd h1) h3
      · omega))
    unfold rjoinF at h1
    split at h1
    · have h4 := congrArg Prod.snd h1
      dsimp only at h4
      contradiction
    · split at h1
      · have h4 := congrArg Prod.snd h1
        cases h4
      · have h4 := congrArg Prod.fst h1
        dsimp only at h4
        rw [h4] at h2
        exact h2
  · rw [rsplit_no h]
    exact Nat.zero_le _
set_option maxRecDepth 100000 in
set_option maxHeartbeats 8000000 in
theorem recordRow_near (l : List Rc) (A : Option Addr) (n c : Nat) (hl : l.length = n) (s : List UInt8) (w : World) (h : fewF l = true) (h2 : s.length ≤ 25000) (hr : Reads w w.heap.size 3 A n (rcs l)) :
    Calls Try.prog 4 #[.slice A n c, .string ⟨s.toArray⟩] w fun e w' => e = .returned (.bool true) ∧ Below w.heap.size w w' := by
  have Hb := Lib.hid (Below.refl w.heap.size w)
  have hf := few_any l A n c w hl hr
  rw [h] at hf
  have h1 : ¬ (25000 : Int) < s.length := by omega
  have hn : n ≤ 1000000 := by have := few_len h; omega
  have J1 := Lib.hid fun W (hb : Below w.heap.size w W) => p_rjoin_any l A n c W hl hn ((hr.below hb).more hb.size)
  have J2 := Lib.hid fun W (hb : Below w.heap.size w W) => rref_join_any l A n c W hl hn ((hr.below hb).more hb.size)
  have R1 := Lib.hid fun W (hb : Below w.heap.size w W) => p_rrow_any l A n c W hl hn ((hr.below hb).more hb.size)
  have R2 := Lib.hid fun W (hb : Below w.heap.size w W) => rref_row_any l A n c W hl hn ((hr.below hb).more hb.size)
  have S1 := fun W => p_rsplit_any s W (by omega)
  have S2 := fun W => rref_split_any s W (by omega)
  have hcn := rsplit_count s
  unfold RSPost at S1 S2
  have hs := fun A1 A2 c1 c2 W h1 h2 => rref_same_any (rsplitF s).1 (rsplitF s).1 A1 A2 (rsplitF s).1.length (rsplitF s).1.length c1 c2 W rfl rfl (by omega) (by omega) h1 h2
  have e9 : decide ((rsplitF s).1 = (rsplitF s).1) = true := decide_eq_true rfl
  simp only [e9] at hs
  replace S1 := Lib.hid S1
  replace S2 := Lib.hid S2
  replace hs := Lib.hid hs
  clear hr h h2 e9 hcn hn
  generalize (rsplitF s).1.length = q at *
  generalize rcs (rsplitF s).1 = Q at *
  generalize (rsplitF s).2 = E5 at *
  generalize (rjoinF l).1 = X at *
  generalize (rjoinF l).2 = E6 at *
  generalize rrowF l = E7 at *
  go_enter Try.func4, Try.ntmps4
  go_wp2_with (first
    | (go_at_call 7; (with_reducible refine hf.mono ?_); rintro e w0 ⟨rfl, rfl⟩; clear hf)
    | (go_at_call 17; (with_reducible refine (J1.out _ Hb.out).mono ?_); rintro e w1 ⟨rfl, hb1⟩; replace Hb := Lib.hid (Hb.out.trans (hb1.mono Hb.out.size)); clear hb1; clear J1)
    | (go_at_call 18; (with_reducible refine (J2.out _ Hb.out).mono ?_); rintro e w2 ⟨rfl, hb2⟩; replace Hb := Lib.hid (Hb.out.trans (hb2.mono Hb.out.size)); clear hb2; clear J2)
    | (go_at_call 19; (with_reducible refine (S1.out _).mono ?_); rintro e w3 ⟨A3, c3, rfl, _, hr3, hb3⟩; replace Hb := Lib.hid (Hb.out.trans (hb3.mono Hb.out.size)); clear hb3; have Hr3 := Lib.hid hr3; clear hr3 S1)
    | (go_at_call 20; (with_reducible refine (S2.out _).mono ?_); rintro e w4 ⟨A4, c4, rfl, _, hr4, hb4⟩; replace Hr3 := Lib.hid (Hr3.out.on15 hb4); replace Hb := Lib.hid (Hb.out.trans (hb4.mono Hb.out.size)); clear hb4; have Hr4 := Lib.hid hr4; clear hr4 S2)
    | (go_at_call 21; (with_reducible refine (R1.out _ Hb.out).mono ?_); rintro e w5 ⟨rfl, hb5⟩; replace Hr3 := Lib.hid (Hr3.out.on15 hb5); replace Hr4 := Lib.hid (Hr4.out.on15 hb5); replace Hb := Lib.hid (Hb.out.trans (hb5.mono Hb.out.size)); clear hb5; clear R1)
    | (go_at_call 22; (with_reducible refine (R2.out _ Hb.out).mono ?_); rintro e w6 ⟨rfl, hb6⟩; replace Hr3 := Lib.hid (Hr3.out.on15 hb6); replace Hr4 := Lib.hid (Hr4.out.on15 hb6); replace Hb := Lib.hid (Hb.out.trans (hb6.mono Hb.out.size)); clear hb6; clear R2)
    | (go_at_call 23; (with_reducible refine (hs.out _ _ _ _ _ Hr3.out Hr4.out).mono ?_); rintro e w7 ⟨rfl, hb7⟩; replace Hb := Lib.hid (Hb.out.trans (hb7.mono Hb.out.size)); clear hb7; clear hs)
    | (go_at_call 8; refine (awake15_any _).mono ?_; rintro e w9 ⟨rfl, hb9⟩; replace Hb := Lib.hid (Hb.out.trans (hb9.mono Hb.out.size)); clear hb9))
  go_ret
  exact ⟨rfl, Hb.out⟩
theorem recordRow_walk (l : List Rc) (A : Option Addr) (n c : Nat) (hl : l.length = n) (s : List UInt8) (w : World) (hr : Reads w w.heap.size 3 A n (rcs l)) :
    Calls Try.prog 4 #[.slice A n c, .string ⟨s.toArray⟩] w fun e w' => e = .returned (.bool true) ∧ Below w.heap.size w w' := by
  cases h : fewF l with
  | false => exact recordRow_far0 l A n c hl s w h hr
  | true =>
    by_cases h2 : s.length ≤ 25000
    · exact recordRow_near l A n c hl s w h h2 hr
    · exact recordRow_far1 l A n c hl s w h (by omega) hr
namespace RecordRow
set_option maxRecDepth 100000 in
theorem lifted (os : Os) (started : os.Started) (H : Type) (enc : TypeId × Value → H) :
    ReturnsInHanded {} Try.checked os 4 .any (Rows.recordRowSpec.pre6 enc Try.prog Try.f4 Rows.recordRowRow.domain false) (Rows.recordRowSpec.post enc Try.prog Try.f4 false true false false) := by
  refine law_sized (C := Try.checked) (tb := 4) ownP started (by kernel_rfl) Try.func4
    (ChangeSpec.witness6 (enc := enc) (C := Try.checked) false ⟨#[], #[.slice none 0 0, .string ⟨#[]⟩], []⟩ 8 (by kernel_rfl) (by kernel_rfl) (by kernel_rfl) (by kernel_rfl))
    laidP (by kernel_rfl) rfl (by kernel_rfl) Try.underlying4 (by intro ds h; match ds, h with | [_, _], _ => rfl) ?_
  intro W base args ds p hval0 hA0 hlt _
  have hval : ∀ (j : Nat) t v, Try.f4.params[j]? = some t → args[j]? = some v → Value.okWide Try.prog W .any base t v := hval0
  have hA : DataW.TrodAll enc Try.prog W 0 (fun _ => true) true Try.f4.params.toList args.toList ds p := hA0
  rw [Try.params4] at hA hval
  obtain ⟨v0, v1, d0, d1, p0, p1, rfl, rfl, rfl, h0, h1⟩ := trodAll_two hA
  obtain ⟨Al, nl, cl, l, rfl, el, hnl, hml, hrl, hbl⟩ := open_recs Try.underlying25 Try.underlying23 (by kernel_rfl) (by kernel_rfl) Try.underlying3 Try.underlying3 Try.underlying9 (hval 0 25 v0 rfl rfl) h0
  obtain ⟨s, rfl, rfl⟩ := open_bytes Try.underlying9 (hval 1 9 v1 rfl rfl) h1
  exact recordRow_walk l Al nl cl el s W hrl
theorem holds : Rows.RecordRowSaid :=
  OpenClaim.holds_of_wide 4 Try.f4 rfl rfl rfl rfl rfl rfl rfl ⟨rfl, rfl, rfl, rfl, rfl⟩ rfl rfl rfl rfl rfl (by kernel_rfl) Try.func4 (by kernel_rfl)
    (of_decide_eq_true (by kernel_rfl)) (by unfold Func.isWrapper; first | (rw [if_pos (by decide +kernel)]; kernel_rfl) | (rw [if_neg (by decide +kernel)]; exact ⟨rfl, rfl⟩))
    (fun os started H enc _ => lifted os started H enc)
end RecordRow
end Go.Proofs.Ytckengcphaaohaa
