/-
  Layer 15, the document's: Check, Put and Size of a record, for every record (ahead of the code's landing).
-/
import Derived.Test.YtckengcphaaohaaRecA
import Derived.Test.YtckengcphaaohaaVarR
namespace Go.Proofs.Ytckengcphaaohaa
set_option linter.unusedSimpArgs false
set_option linter.unusedVariables false
open Go.ChangeShapes Go.WideShapes Go.ChangeAt Go.RowKit Go.Joins Go.Deep
theorem rchk_no {r : Rc} (h : ¬ rmay r = true) : rchk r = 150 ∧ rputF r = ([], 150) := ⟨if_neg h, if_neg h⟩
theorem rchk_yes {r : Rc} (h : rmay r = true) : rchk r = 0 ∧ rputF r = (rB r, 0) := ⟨if_pos h, if_pos h⟩
set_option maxRecDepth 100000 in
set_option maxHeartbeats 2000000 in
theorem rref_check_any (x y : Int) (d : List UInt8) (w : World) :
    Calls Try.prog 14 #[.agg #[.int .i64 x, .int .i64 y, .string ⟨d.toArray⟩]] w fun e w' => e = .returned (.int .i64 (rchk (x, y, d))) ∧ Below w.heap.size w w' := by
  by_cases h0 : x < 1
  · rw [(rchk_no (r := (x, y, d)) (fun h => by have := (rmay_iff _).1 h; dsimp only at this; omega)).1]
    go_enter Try.func14, Try.ntmps14
    go_wp2
    go_ret
    exact ⟨rfl, by go_grown⟩
  by_cases h1 : 1000000000 < x
  · rw [(rchk_no (r := (x, y, d)) (fun h => by have := (rmay_iff _).1 h; dsimp only at this; omega)).1]
    go_enter Try.func14, Try.ntmps14
    go_wp2
    go_ret
    exact ⟨rfl, by go_grown⟩
  by_cases h2 : y < 0
  · rw [(rchk_no (r := (x, y, d)) (fun h => by have := (rmay_iff _).1 h; dsimp only at this; omega)).1]
    go_enter Try.func14, Try.ntmps14
    go_wp2
    go_ret
    exact ⟨rfl, by go_grown⟩
  by_cases h3 : 1000000000 < y
  · rw [(rchk_no (r := (x, y, d)) (fun h => by have := (rmay_iff _).1 h; dsimp only at this; omega)).1]
    go_enter Try.func14, Try.ntmps14
    go_wp2
    go_ret
    exact ⟨rfl, by go_grown⟩
  by_cases h4 : (2000 : Int) < (d.length : Int)
  · rw [(rchk_no (r := (x, y, d)) (fun h => by have := (rmay_iff _).1 h; dsimp only at this; omega)).1]
    go_enter Try.func14, Try.ntmps14
    go_wp2
    go_ret
    exact ⟨rfl, by go_grown⟩
  rw [(rchk_yes (r := (x, y, d)) ((rmay_iff _).2 (by dsimp only; omega))).1]
  go_enter Try.func14, Try.ntmps14
  go_wp2
  go_ret
  exact ⟨rfl, by go_grown⟩
theorem rstr_add (a b : List UInt8) (h : a.length + b.length ≤ 9223372036854775807) (w : World) : (Op.stringOp .add ⟨a.toArray⟩ ⟨b.toArray⟩).run Try.prog w = .ok (.string ⟨(a ++ b).toArray⟩) w := by
  rw [run_string_add_sum w _ _ (by rw [ByteArray.size_mk', ByteArray.size_mk', List.size_toArray, List.size_toArray]; exact h), ByteArray.mk_append_mk]
theorem rbelow_tr {w w1 w2 : World} (h1 : Below w.heap.size w w1) (h2 : Below w1.heap.size w1 w2) : Below w.heap.size w w2 := h1.trans (h2.mono h1.size)
set_option maxRecDepth 100000 in
set_option maxHeartbeats 2000000 in
theorem rref_put_any (x y : Int) (d : List UInt8) (w : World) :
    Calls Try.prog 10 #[.agg #[.int .i64 x, .int .i64 y, .string ⟨d.toArray⟩]] w fun e w' => e = .returned (.tuple #[.string ⟨(rputF (x, y, d)).1.toArray⟩, .int .i64 (rputF (x, y, d)).2]) ∧ Below w.heap.size w w' := by
  have hc := Lib.hid fun W => rref_check_any x y d W
  by_cases hm : rmay (x, y, d) = true
  · rw [(rchk_yes hm).1] at hc
    rw [(rchk_yes hm).2]
    have hm2 := (rmay_iff _).1 hm
    dsimp only at hm2 ⊢
    have p1 := Lib.hid fun W => refPut_any x W (by omega)
    have p2 := Lib.hid fun W => refPut_any y W (by omega)
    have p3 := Lib.hid fun W => refPut_any (d.length : Int) W (by omega)
    unfold strInt at p1 p2 p3
    have l1 := rput_len x
    have l2 := rput_len y
    have l3 := rput_len d.length
    have e : rB (x, y, d) = putB x ++ putB y ++ putB d.length ++ d := by unfold rB; simp only [List.append_assoc]
    rw [e]
    have hB0 : Below w.heap.size w (w.alloc (.cells #[.int .i64 x, .int .i64 y, .string ⟨d.toArray⟩] 23)) := (Below.refl _ _).alloc (Nat.le_refl _) _
    have HX := Lib.hid (Blk.new w 23 #[.int .i64 x, .int .i64 y, .string ⟨d.toArray⟩])
    have HB0 := Lib.hid hB0
    have hdl : d.length ≤ 2000 := hm2.2.2.2.2
    clear e hm hm2 hB0
    generalize putB x = X1 at *
    generalize putB y = X2 at *
    generalize putB (d.length : Int) = X3 at *
    generalize putE x = E1 at *
    generalize putE y = E2 at *
    generalize putE (d.length : Int) = E3 at *
    have a1 := fun W => rstr_add X1 X2 (by omega) W
    have a2 := fun W => rstr_add (X1 ++ X2) X3 (by rw [List.length_append]; omega) W
    have a3 := fun W => rstr_add (X1 ++ X2 ++ X3) d (by rw [List.length_append, List.length_append]; omega) W
    generalize X1 ++ X2 ++ X3 ++ d = Y3 at *
    generalize X1 ++ X2 ++ X3 = Y2 at *
    generalize X1 ++ X2 = Y1 at *
    go_enter Try.func10, Try.ntmps10
    go_wp2_with (first
      | (go_at_call 14; (with_reducible refine (hc.out _).mono ?_); rintro e w1 ⟨rfl, hb1⟩; have H1 := Lib.hid (HX.out.below hb1 HX.out.lt); have Hb1 := Lib.hid (HB0.out.trans (hb1.mono HB0.out.size)); have c10 : w1.cell? ⟨w.heap.size, 0, none⟩ = some (.int .i64 x) := H1.out.cell 0; clear hb1 hc)
      | (go_at_call 25; (with_reducible refine (p1.out _).mono ?_); rintro e w2 ⟨rfl, hb2⟩; have H2 := Lib.hid (H1.out.below hb2 H1.out.lt); have Hb2 := Lib.hid (rbelow_tr Hb1.out hb2); have c21 : w2.cell? ⟨w.heap.size, 1, none⟩ = some (.int .i64 y) := H2.out.cell 1; clear hb2 p1)
      | (go_at_call 25; (with_reducible refine (p2.out _).mono ?_); rintro e w3 ⟨rfl, hb3⟩; have H3 := Lib.hid (H2.out.below hb3 H2.out.lt); have Hb3 := Lib.hid (rbelow_tr Hb2.out hb3); have c32 : w3.cell? ⟨w.heap.size, 2, none⟩ = some (.string ⟨d.toArray⟩) := H3.out.cell 2; clear hb3 p2)
      | (go_at_call 25; (with_reducible refine (p3.out _).mono ?_); rintro e w4 ⟨rfl, hb4⟩; have H4 := Lib.hid (H3.out.below hb4 H3.out.lt); have Hb4 := Lib.hid (rbelow_tr Hb3.out hb4); have c42 : w4.cell? ⟨w.heap.size, 2, none⟩ = some (.string ⟨d.toArray⟩) := H4.out.cell 2; clear hb4 p3))
    go_ret2
    exact ⟨rfl, Hb4.out⟩
  · rw [(rchk_no hm).1] at hc
    rw [(rchk_no hm).2]
    have HB0 := Lib.hid ((Below.refl w.heap.size w).alloc (Nat.le_refl _) (.cells #[.int .i64 x, .int .i64 y, .string ⟨d.toArray⟩] 23))
    clear hm
    go_enter Try.func10, Try.ntmps10
    go_wp2_with (go_at_call 14; (with_reducible refine (hc.out _).mono ?_); rintro e w1 ⟨rfl, hb1⟩; have Hb1 := Lib.hid (HB0.out.trans (hb1.mono HB0.out.size)); clear hb1 hc)
    go_ret2
    exact ⟨rfl, Hb1.out⟩
set_option maxRecDepth 100000 in
theorem rref_size_any (x y : Int) (d : List UInt8) (w : World) :
    Calls Try.prog 16 #[.agg #[.int .i64 x, .int .i64 y, .string ⟨d.toArray⟩]] w fun e w' => e = .returned (.int .i64 (rsizeF (x, y, d) : Int)) ∧ Below w.heap.size w w' := by
  have HB0 := Lib.hid ((Below.refl w.heap.size w).alloc (Nat.le_refl _) (.cells #[.int .i64 x, .int .i64 y, .string ⟨d.toArray⟩] 23))
  have hp := Lib.hid fun W => rref_put_any x y d W
  have e : rsizeF (x, y, d) = (rputF (x, y, d)).1.length := rfl
  rw [e]
  clear e
  generalize (rputF (x, y, d)).1 = X at *
  generalize (rputF (x, y, d)).2 = E at *
  go_enter Try.func16, Try.ntmps16
  go_wp2_with (go_at_call 10; (with_reducible refine (hp.out _).mono ?_); rintro e w1 ⟨rfl, hb1⟩; have Hb1 := Lib.hid (HB0.out.trans (hb1.mono HB0.out.size)); clear hb1 hp)
  go_ret
  exact ⟨rfl, Hb1.out⟩
end Go.Proofs.Ytckengcphaaohaa
