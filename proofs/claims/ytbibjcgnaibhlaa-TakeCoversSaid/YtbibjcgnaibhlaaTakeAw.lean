/-
  Layer 3: the probe that each statement of the layer asks beside itself returns true.
-/
import Derived.Test.YtbibjcgnaibhlaaTakeR
namespace Go.Proofs.Ytbibjcgnaibhlaa
set_option linter.unusedSimpArgs false
set_option linter.unusedVariables false
open Go.ChangeShapes Go.WideShapes Go.ChangeAt Go.RowKit Go.Joins Go.Deep

theorem reads_lit (W : World) (ws : List (Int × Int)) (n : Nat) (hn : ws.length = n) (cs : Array Value) (hcs : (pairs .i64 ws).toArray = cs) (t : TypeId) : Reads (W.alloc (.cells cs t)) (W.alloc (.cells cs t)).heap.size 2 (some ⟨W.heap.size, 0, none⟩) n (pairs .i64 ws) := by
  subst hcs hn
  have h := Reads.new W t (pairs .i64 ws) 2 ws.length (pairs_length _ _)
  exact h.more (by simp)

theorem aw_run1 (W : World) : Calls Try.prog 9 #[.string ⟨#[2, 97, 98, 99]⟩, .slice (some ⟨W.heap.size, 0, none⟩) 4 4] (W.alloc (.cells #[.int .i64 1, .int .i64 0, .int .i64 4, .int .i64 2, .int .i64 5, .int .i64 0, .int .i64 6, .int .i64 0] 36)) fun e w' =>
    ∃ b off c, e = .returned (.tuple #[.slice (some ⟨b, off, none⟩) 4 c, .int .i64 4, .int .i64 0]) ∧ b < w'.heap.size ∧ w'.cell? ⟨b, off, none⟩ = some (.int .i64 2) ∧ w'.cell? ⟨b, off + 2 + 1, none⟩ = some (.string ⟨#[97, 98]⟩) ∧ w'.cell? ⟨b, off + 4 + 1, none⟩ = some (.string ⟨#[99]⟩) ∧ Below W.heap.size W w' := by
  refine (run_any [2, 97, 98, 99] _ 4 4 [(1, 0), (4, 2), (5, 0), (6, 0)] _ (by decide) rfl (by decide) (reads_lit W _ 4 rfl _ rfl _) ([(2, []), (0, [97, 98]), (0, [99]), (0, [])], 4, 0) (by decide)).mono ?_
  rintro e w' ⟨A', c', rfl, hR, hb⟩
  obtain ⟨b, off, rfl, hlt, hc⟩ := hR.2 (by decide)
  refine ⟨b, off, c', rfl, hlt, hc 0 _ rfl, hc 3 _ rfl, hc 5 _ rfl, ?_⟩
  exact ((Below.refl _ _).alloc (Nat.le_refl _) _).trans (hb.mono (by simp))
theorem aw_run2 (W : World) : Calls Try.prog 9 #[.string ⟨#[97, 98]⟩, .slice (some ⟨W.heap.size, 0, none⟩) 2 2] (W.alloc (.cells #[.int .i64 1, .int .i64 0, .int .i64 4, .int .i64 2] 36)) fun e w' =>
    ∃ A c, e = .returned (.tuple #[.slice A 1 c, .int .i64 1, .int .i64 4]) ∧ Below W.heap.size W w' := by
  refine (run_any [97, 98] _ 2 2 [(1, 0), (4, 2)] _ (by decide) rfl (by decide) (reads_lit W _ 2 rfl _ rfl _) ([(97, [])], 1, 4) (by decide)).mono ?_
  rintro e w' ⟨A', c', rfl, hR, hb⟩
  exact ⟨A', c', rfl, ((Below.refl _ _).alloc (Nat.le_refl _) _).trans (hb.mono (by simp))⟩
theorem aw_run3 (W : World) : Calls Try.prog 9 #[.string ⟨#[97, 98]⟩, .slice (some ⟨W.heap.size, 0, none⟩) 1 1] (W.alloc (.cells #[.int .i64 6, .int .i64 0] 36)) fun e w' =>
    ∃ A c, e = .returned (.tuple #[.slice A 0 c, .int .i64 0, .int .i64 6]) ∧ Below W.heap.size W w' := by
  refine (run_any [97, 98] _ 1 1 [(6, 0)] _ (by decide) rfl (by decide) (reads_lit W _ 1 rfl _ rfl _) ([], 0, 6) (by decide)).mono ?_
  rintro e w' ⟨A', c', rfl, hR, hb⟩
  exact ⟨A', c', rfl, ((Below.refl _ _).alloc (Nat.le_refl _) _).trans (hb.mono (by simp))⟩

theorem aw_keep {w1 w2 w3 : World} {b off : Nat} {x y z : Value} (h : w1.cell? ⟨b, off, none⟩ = some x ∧ w1.cell? ⟨b, off + 2 + 1, none⟩ = some y ∧ w1.cell? ⟨b, off + 4 + 1, none⟩ = some z) (hlt : b < w1.heap.size) (h2 : Below w1.heap.size w1 w2) (h3 : Below w2.heap.size w2 w3) :
    w3.cell? ⟨b, off, none⟩ = some x ∧ w3.cell? ⟨b, off + 2 + 1, none⟩ = some y ∧ w3.cell? ⟨b, off + 4 + 1, none⟩ = some z := by
  have hk := h2.trans (h3.mono h2.size)
  exact ⟨(hk.cell hlt).trans h.1, (hk.cell hlt).trans h.2.1, (hk.cell hlt).trans h.2.2⟩

set_option maxRecDepth 100000 in
set_option maxHeartbeats 2000000 in
theorem awake_any (w : World) : Calls Try.prog 8 #[] w fun e w' => e = .returned (.bool true) ∧ Below w.heap.size w w' := by
  go_enter Try.func8, Try.ntmps8
  go_wp2_with (go_at_call 9; (with_reducible refine (aw_run1 _).mono ?_); rintro e w1 ⟨b, off, c, rfl, hlt, h1, h2, h3, hb1⟩)
  have H1 := Lib.hid hb1
  have H2 : Hid (w1.cell? ⟨b, off, none⟩ = some (.int .i64 2) ∧ w1.cell? ⟨b, off + 2 + 1, none⟩ = some (.string ⟨#[97, 98]⟩) ∧ w1.cell? ⟨b, off + 4 + 1, none⟩ = some (.string ⟨#[99]⟩)) := Lib.hid ⟨h1, h2, h3⟩
  have Hlt := Lib.hid hlt
  clear hb1 h1 h2 h3 hlt
  go_wp2_with (go_at_call 9; (with_reducible refine (aw_run2 _).mono ?_); rintro e w2 ⟨A2, c2, rfl, hb2⟩)
  have H3 := Lib.hid hb2
  clear hb2
  go_wp2_with (go_at_call 9; (with_reducible refine (aw_run3 _).mono ?_); rintro e w3 ⟨A3, c3, rfl, hb3⟩; have k := aw_keep H2.out Hlt.out H3.out hb3)
  trace_state
  go_ret
  exact ⟨rfl, H1.out.trans ((H3.out.mono H1.out.size).trans (hb3.mono (Nat.le_trans H1.out.size H3.out.size)))⟩
end Go.Proofs.Ytbibjcgnaibhlaa
