/-
  For any number n and any width: the program's Put, Fix and Size answer as the document's own do, and the layer's probe holds (VarintPuts). No condition.
-/
import Derived.Test.YtpkjlgjnnfmnfaaVarAw
import Derived.Test.YtpkjlgjnnfmnfaaFrame
namespace Go.Proofs.Ytpkjlgjnnfmnfaa
set_option linter.unusedSimpArgs false
set_option linter.unusedVariables false
open Go.ChangeShapes Go.WideShapes Go.ChangeAt Go.RowKit Go.Joins Go.Deep

section
variable (n v : Int) (w : World)
theorem put_is (h : n < 9223372036854775808) : Calls Try.prog 8 #[.int .i64 n] w fun e w' => e = .returned (.tuple #[.string ⟨(putB n).toArray⟩, .int .i64 (putE n)]) ∧ Below w.heap.size w w' := put_any n w h
theorem refPut_is (h : n < 9223372036854775808) : Calls Try.prog 9 #[.int .i64 n] w fun e w' => e = .returned (.tuple #[.string ⟨(putB n).toArray⟩, .int .i64 (putE n)]) ∧ Below w.heap.size w w' := refPut_any n w h
theorem fix_is : Calls Try.prog 10 #[.int .i64 n, .int .i64 v] w fun e w' => e = .returned (.tuple #[.string ⟨(fixB n v).toArray⟩, .int .i64 (fixE n v)]) ∧ Below w.heap.size w w' := fix_any n v w
theorem refFix_is (h : n < 9223372036854775808) : Calls Try.prog 11 #[.int .i64 n, .int .i64 v] w fun e w' => e = .returned (.tuple #[.string ⟨(fixB n v).toArray⟩, .int .i64 (fixE n v)]) ∧ Below w.heap.size w w' := refFix_any n v w h
end

set_option maxHeartbeats 2000000 in
theorem puts_walk (n v : Int) (w : World) (hn : n < 9223372036854775808) :
    Calls Try.prog 3 #[.int .i64 n, .int .i64 v] w fun e w' => e = .returned (.bool true) ∧ Below w.heap.size w w' := by
  have Hn := Lib.hid hn
  clear hn
  go_enter Try.func3, Try.ntmps3
  go_wp2_with (first
      | (go_at_call 8; refine (put_is _ _ Hn.out).mono ?_; rintro e w1 ⟨rfl, hb1⟩)
      | (go_at_call 9; refine (refPut_is _ _ Hn.out).mono ?_; rintro e w2 ⟨rfl, hb2⟩)
      | (go_at_call 10; refine (fix_is _ _ _).mono ?_; rintro e w3 ⟨rfl, hb3⟩)
      | (go_at_call 11; refine (refFix_is _ _ _ Hn.out).mono ?_; rintro e w4 ⟨rfl, hb4⟩)
      | (go_at_call 12; refine (size_any _ _ Hn.out).mono ?_; rintro e w' ⟨rfl, rfl⟩)
      | (go_at_call 13; refine (refSize_any _ _ Hn.out).mono ?_; rintro e w' ⟨rfl, rfl⟩)
      | (go_at_call 14; refine (awake_any _).mono ?_; rintro e w5 ⟨rfl, hb5⟩))
  go_ret
  have s1 := hb1.size
  have s2 := hb2.size
  have s3 := hb3.size
  have s4 := hb4.size
  exact ⟨rfl, (((hb1.trans (hb2.mono (by omega))).trans (hb3.mono (by omega))).trans (hb4.mono (by omega))).trans (hb5.mono (by omega))⟩

namespace VarintPuts
set_option maxRecDepth 100000 in
theorem lifted (os : Os) (started : os.Started) (H : Type) (enc : TypeId × Value → H) :
    ReturnsInHanded {} Try.checked os 3 .any (Rows.varintPutsSpec.pre6 enc Try.prog Try.f3 Rows.varintPutsRow.domain false) (Rows.varintPutsSpec.post enc Try.prog Try.f3 false true false false) := by
  refine law_sized (C := Try.checked) (tb := 4) ownP started (by kernel_rfl) Try.func3
    (ChangeSpec.witness6 (enc := enc) (C := Try.checked) false ⟨#[], #[.int .i64 0, .int .i64 0], []⟩ 8 (by kernel_rfl) (by kernel_rfl) (by kernel_rfl) (by kernel_rfl))
    laidP (by kernel_rfl) rfl (by kernel_rfl) Try.underlying4 (by intro ds h; match ds, h with | [_, _], _ => rfl) ?_
  intro W base args ds p hval0 hA0 hlt _
  have hval : ∀ (j : Nat) t v, Try.f3.params[j]? = some t → args[j]? = some v → Value.okWide Try.prog W .any base t v := hval0
  have hA : DataW.TrodAll enc Try.prog W 0 (fun _ => true) true Try.f3.params.toList args.toList ds p := hA0
  rw [Try.params3] at hA hval
  obtain ⟨v0, v1, d0, d1, p0, p1, rfl, rfl, rfl, h0, h1⟩ := trodAll_two hA
  obtain ⟨n, rfl, rfl, rfl, wn⟩ := open_int Try.underlying3 (hval 0 3 v0 rfl rfl) h0
  obtain ⟨v, rfl, rfl, rfl, wv⟩ := open_int Try.underlying3 (hval 1 3 v1 rfl rfl) h1
  exact puts_walk n v W (by have := (bounds_i64 wn).2; omega)

theorem holds : Rows.VarintPutsSaid :=
  OpenClaim.holds_of_wide 3 Try.f3 rfl rfl rfl rfl rfl rfl rfl ⟨rfl, rfl, rfl, rfl, rfl⟩ rfl rfl rfl rfl rfl (by kernel_rfl) Try.func3 (by kernel_rfl)
    (of_decide_eq_true (by kernel_rfl)) (by unfold Func.isWrapper; first | (rw [if_pos (by decide +kernel)]; kernel_rfl) | (rw [if_neg (by decide +kernel)]; exact ⟨rfl, rfl⟩))
    (fun os started H enc _ => lifted os started H enc)
end VarintPuts
end Go.Proofs.Ytpkjlgjnnfmnfaa
