/-
  At any place of any bytes, and for any width: the program's Get and Unfix answer as the document's own do, and the layer's probe holds (VarintGets). No condition.
-/
import Derived.Test.YtpkjlgjnnfmnfaaVarAw
import Derived.Test.YtpkjlgjnnfmnfaaFrame
namespace Go.Proofs.Ytpkjlgjnnfmnfaa
set_option linter.unusedSimpArgs false
set_option linter.unusedVariables false
open Go.ChangeShapes Go.WideShapes Go.ChangeAt Go.RowKit Go.Joins Go.Deep

theorem get_tuple (l : List UInt8) (p : Int) (w : World) (hl : l.length ≤ 4611686018427387904) : Calls Try.prog 15 #[.string ⟨l.toArray⟩, .int .i64 p] w fun e w' => e = .returned (.tuple #[.int .i64 (getF l p).1, .int .i64 (getF l p).2.1, .int .i64 (getF l p).2.2]) ∧ w = w' := get_any l p w hl
theorem refGet_tuple (l : List UInt8) (p : Int) (w : World) (hl : l.length ≤ 4611686018427387904) : Calls Try.prog 16 #[.string ⟨l.toArray⟩, .int .i64 p] w fun e w' => e = .returned (.tuple #[.int .i64 (getF l p).1, .int .i64 (getF l p).2.1, .int .i64 (getF l p).2.2]) ∧ w = w' := refGet_any l p w hl
theorem unfix_tuple (l : List UInt8) (p v : Int) (w : World) (hl : l.length ≤ 4611686018427387904) : Calls Try.prog 17 #[.string ⟨l.toArray⟩, .int .i64 p, .int .i64 v] w fun e w' => e = .returned (.tuple #[.int .i64 (unfixF l p v).1, .int .i64 (unfixF l p v).2.1, .int .i64 (unfixF l p v).2.2]) ∧ w = w' := unfix_any l p v w hl
theorem refUnfix_tuple (l : List UInt8) (p v : Int) (w : World) (hl : l.length ≤ 4611686018427387904) : Calls Try.prog 18 #[.string ⟨l.toArray⟩, .int .i64 p, .int .i64 v] w fun e w' => e = .returned (.tuple #[.int .i64 (unfixF l p v).1, .int .i64 (unfixF l p v).2.1, .int .i64 (unfixF l p v).2.2]) ∧ w = w' := refUnfix_any l p v w hl

set_option maxHeartbeats 2000000 in
theorem gets_walk (l : List UInt8) (p v : Int) (w : World) (hl : l.length ≤ 140737488351232) :
    Calls Try.prog 4 #[.string ⟨l.toArray⟩, .int .i64 p, .int .i64 v] w fun e w' => e = .returned (.bool true) ∧ Below w.heap.size w w' := by
  have Hl : Hid (l.length ≤ 4611686018427387904) := Lib.hid (by omega)
  clear hl
  go_enter Try.func4, Try.ntmps4
  go_wp2_with (first
      | (go_at_call 15; refine (get_tuple _ _ _ Hl.out).mono ?_; rintro e w' ⟨rfl, rfl⟩)
      | (go_at_call 16; refine (refGet_tuple _ _ _ Hl.out).mono ?_; rintro e w' ⟨rfl, rfl⟩)
      | (go_at_call 17; refine (unfix_tuple _ _ _ _ Hl.out).mono ?_; rintro e w' ⟨rfl, rfl⟩)
      | (go_at_call 18; refine (refUnfix_tuple _ _ _ _ Hl.out).mono ?_; rintro e w' ⟨rfl, rfl⟩)
      | (go_at_call 14; refine (awake_any _).mono ?_; rintro e w5 ⟨rfl, hb5⟩))
  go_ret
  exact ⟨rfl, hb5⟩

namespace VarintGets
set_option maxRecDepth 100000 in
theorem lifted (os : Os) (started : os.Started) (H : Type) (enc : TypeId × Value → H) :
    ReturnsInHanded {} Try.checked os 4 .any (Rows.varintGetsSpec.pre6 enc Try.prog Try.f4 Rows.varintGetsRow.domain false) (Rows.varintGetsSpec.post enc Try.prog Try.f4 false true false false) := by
  refine law_sized (C := Try.checked) (tb := 4) ownP started (by kernel_rfl) Try.func4
    (ChangeSpec.witness6 (enc := enc) (C := Try.checked) false ⟨#[], #[.string ⟨#[]⟩, .int .i64 0, .int .i64 0], []⟩ 8 (by kernel_rfl) (by kernel_rfl) (by kernel_rfl) (by kernel_rfl))
    laidP (by kernel_rfl) rfl (by kernel_rfl) Try.underlying4 (by intro ds h; match ds, h with | [_, _, _], _ => rfl) ?_
  intro W base args ds p hval0 hA0 hlt hsz0
  have hval : ∀ (j : Nat) t v, Try.f4.params[j]? = some t → args[j]? = some v → Value.okWide Try.prog W .any base t v := hval0
  have hA : DataW.TrodAll enc Try.prog W 0 (fun _ => true) true Try.f4.params.toList args.toList ds p := hA0
  have hsz : (DataW.weightsEach Try.prog Try.f4.params.toList ds).all (· ≤ reachBytes) = true := hsz0
  rw [Try.params4] at hA hval hsz
  obtain ⟨v0, v1, v2, d0, d1, d2, p0, p1, p2, rfl, rfl, rfl, h0, h1, h2⟩ := trodAll_three hA
  obtain ⟨l, rfl, rfl⟩ := open_bytes Try.underlying9 (hval 0 9 v0 rfl rfl) h0
  obtain ⟨p, rfl, rfl, rfl, wp⟩ := open_int Try.underlying3 (hval 1 3 v1 rfl rfl) h1
  obtain ⟨v, rfl, rfl, rfl, wv⟩ := open_int Try.underlying3 (hval 2 3 v2 rfl rfl) h2
  exact gets_walk l p v W (reach_bytes hsz 0 rfl rfl)

theorem holds : Rows.VarintGetsSaid :=
  OpenClaim.holds_of_wide 4 Try.f4 rfl rfl rfl rfl rfl rfl rfl ⟨rfl, rfl, rfl, rfl, rfl⟩ rfl rfl rfl rfl rfl (by kernel_rfl) Try.func4 (by kernel_rfl)
    (of_decide_eq_true (by kernel_rfl)) (by unfold Func.isWrapper; first | (rw [if_pos (by decide +kernel)]; kernel_rfl) | (rw [if_neg (by decide +kernel)]; exact ⟨rfl, rfl⟩))
    (fun os started H enc _ => lifted os started H enc)
end VarintGets
end Go.Proofs.Ytpkjlgjnnfmnfaa
