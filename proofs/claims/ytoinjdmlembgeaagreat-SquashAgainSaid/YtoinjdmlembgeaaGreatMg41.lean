/-
 What the law of the last of these texts stands on, part 41.
-/
import Derived.Test.YtoinjdmlembgeaaGreatMg28
namespace Go.Proofs.YtoinjdmlembgeaaGreat
set_option linter.unusedSimpArgs false
set_option linter.unusedVariables false
open Go.ChangeShapes Go.WideShapes Go.ChangeAt Go.RowKit Go.Joins Go.Deep
theorem QHold.alloc {W : World} {n hb tb rb g : Nat} {x0 x1 x2 : Int} {v : ByteArray} (h : QHold W n hb tb rb g x0 x1 x2 v) (o : Obj) : QHold (W.alloc o) n hb tb rb g x0 x1 x2 v := ⟨h.1.alloc o, h.2.1.alloc o, h.2.2.1.alloc o, h.2.2.2.alloc o⟩
theorem yeV {W w' : World} {S : Nat → Prop} {o : Obj} (h : Touch (W.alloc o) w' S) : Touch W w' S := ((Touch.refl W S).alloc o).trans h
section
variable (W : World) (n hb tb rb g : Nat)
set_option maxRecDepth 100000 in
set_option maxHeartbeats 1000000 in
theorem q_caught_yes (a b c : Int) (R : ByteArray) (hg : g < W.heap.size) (hh : hb < W.heap.size) (hr : rb < W.heap.size)
  (hc : Calls Tryz.prog 52 #[.pointer (some ⟨n, 0, none⟩), .pointer (some ⟨hb, 0, none⟩), .pointer (some ⟨tb, 0, none⟩), .pointer (some ⟨rb, 0, none⟩)] (W.alloc (.cells #[.int .i64 0] 23)) fun r w' =>
   (∃ u, r = .returned u) ∧ Blk w' hb 40 #[.int .i64 a, .int .i64 b, .int .i64 c] ∧ Blk w' rb 9 #[.string R] ∧ Touch (W.alloc (.cells #[.int .i64 0] 23)) w' (fun k => k = g ∨ k = hb ∨ k = rb)) :
  Calls Tryz.prog 51 #[.func (.func 52) #[] #[.pointer (some ⟨n, 0, none⟩), .pointer (some ⟨hb, 0, none⟩), .pointer (some ⟨tb, 0, none⟩), .pointer (some ⟨rb, 0, none⟩)]] W fun r w' =>
   r = .returned (.int .i64 0) ∧ Blk w' hb 40 #[.int .i64 a, .int .i64 b, .int .i64 c] ∧ Blk w' rb 9 #[.string R] ∧ Touch W w' (fun k => k = g ∨ k = hb ∨ k = rb) := by
 have hmf : ∀ (fn : Fn) (first cap : Array Value) (w : World), (Instr.makeFunc fn first cap).run Tryz.prog w = .ok (.func fn first cap) w := fun _ _ _ _ => rfl
 have Hc := Lib.hid hc
 clear hc
 go_enter_defers Tryz.func51, Tryz.ntmps51
 go_wp2_with (go_at_call 52; (with_reducible refine Hc.out.mono ?_); rintro e w1 ⟨⟨u, rfl⟩, h1, h2, h3⟩; have hN := (Blk.new W 23 #[.int .i64 0]).touch h3 (by rintro (h | h | h) <;> omega); have y1 := hN.cell 0; have z1 := hN.frozen 0; have H3 := Lib.hid h3; clear h3)
 refine leaves_cons (f := 86) (args := #[.pointer (some ⟨W.heap.size, 0, none⟩)]) (by simp) (by simp [go_sem]) ?_
 refine (q_idle _ _).mono ?_
 rintro e' u' w3 ⟨rfl, rfl, rfl⟩
 refine ⟨.int .i64 0, ?_, rfl, h1.far (by show hb ≠ W.heap.size; omega) _, h2.far (by show rb ≠ W.heap.size; omega) _, (yeV H3.out).set (Or.inr (Nat.le_refl _)) _⟩
 have hN2 := (hN.set_ 0 (.int .i64 0)).cell 0
 simp only [List.setIfInBounds_toArray, List.set_cons_zero, List.getElem?_toArray, List.getElem?_cons_zero] at hN2
 simp [results, Tryz.results51, go_sem, hN2]
set_option maxRecDepth 100000 in
set_option maxHeartbeats 1000000 in
theorem q_caught_no (E : Int) (hg : g < W.heap.size)
  (hc : Calls Tryz.prog 52 #[.pointer (some ⟨n, 0, none⟩), .pointer (some ⟨hb, 0, none⟩), .pointer (some ⟨tb, 0, none⟩), .pointer (some ⟨rb, 0, none⟩)] (W.alloc (.cells #[.int .i64 0] 23)) fun r w' =>
   (∃ p : Int, r = .panicked [{ v := .iface 132 (.agg #[.int .i64 E, .int .i64 p]), recovered := false }]) ∧ Touch (W.alloc (.cells #[.int .i64 0] 23)) w' (fun k => k = g)) :
  Calls Tryz.prog 51 #[.func (.func 52) #[] #[.pointer (some ⟨n, 0, none⟩), .pointer (some ⟨hb, 0, none⟩), .pointer (some ⟨tb, 0, none⟩), .pointer (some ⟨rb, 0, none⟩)]] W fun r w' =>
   r = .returned (.int .i64 E) ∧ Touch W w' (fun k => k = g) := by
 have hmf : ∀ (fn : Fn) (first cap : Array Value) (w : World), (Instr.makeFunc fn first cap).run Tryz.prog w = .ok (.func fn first cap) w := fun _ _ _ _ => rfl
 have Hc := Lib.hid hc
 clear hc
 go_enter_defers Tryz.func51, Tryz.ntmps51
 go_wp2_with (go_at_call 52; (with_reducible refine Hc.out.mono ?_); rintro e w1 ⟨⟨p, rfl⟩, h3⟩; have hN := (Blk.new W 23 #[.int .i64 0]).touch h3 (by intro h; omega); have H3 := Lib.hid h3; clear h3)
 refine leaves_cons (f := 86) (args := #[.pointer (some ⟨W.heap.size, 0, none⟩)]) (by simp) (by simp [go_sem]) ?_
 refine (q_fault W.heap.size 0 E p [] _ hN).mono ?_
 rintro e' u' w3 ⟨rfl, rfl, rfl⟩
 refine ⟨.int .i64 E, ?_, rfl, (yeV H3.out).set (Or.inr (Nat.le_refl _)) _⟩
 have hN2 := (hN.set_ 0 (.int .i64 E)).cell 0
 simp only [List.setIfInBounds_toArray, List.set_cons_zero, List.getElem?_toArray, List.getElem?_cons_zero] at hN2
 simp [results, Tryz.results51, go_sem, hN2]
end
end Go.Proofs.YtoinjdmlembgeaaGreat
