/-
  Layer 1: the probe that each statement of the layer asks beside itself returns true.
-/
import Derived.Test.YtcdanilepikdeaaRefB
namespace Go.Proofs.Ytcdanilepikdeaa
set_option linter.unusedSimpArgs false
set_option linter.unusedVariables false
open Go.ChangeShapes Go.WideShapes Go.ChangeAt Go.RowKit Go.Joins Go.Deep

/-- Two blocks of the call's own stay, and what was there before it too. -/
def Held (w wi : World) (g1 g2 : Nat) (t : TypeId) (x1 x2 y1 y2 : Value) : Prop := w.heap.size ≤ g1 ∧ w.heap.size ≤ g2 ∧ Below w.heap.size w wi ∧ Blk wi g1 t #[x1, x2] ∧ Blk wi g2 t #[y1, y2]
section
variable {w wi w' : World} {g1 g2 : Nat} {t : TypeId} {x1 x2 y1 y2 : Value}
theorem Held.step (h : Held w wi g1 g2 t x1 x2 y1 y2) (hb : Below wi.heap.size wi w') : Held w w' g1 g2 t x1 x2 y1 y2 :=
  ⟨h.1, h.2.1, h.2.2.1.trans (hb.mono h.2.2.1.size), h.2.2.2.1.below hb h.2.2.2.1.lt, h.2.2.2.2.below hb h.2.2.2.2.lt⟩
theorem Held.alloc (h : Held w wi g1 g2 t x1 x2 y1 y2) (o : Obj) : Held w (wi.alloc o) g1 g2 t x1 x2 y1 y2 :=
  ⟨h.1, h.2.1, h.2.2.1.alloc h.2.2.1.size o, h.2.2.2.1.alloc o, h.2.2.2.2.alloc o⟩
theorem Held.step_alloc {o : Obj} (h : Held w wi g1 g2 t x1 x2 y1 y2) (hb : Below (wi.alloc o).heap.size (wi.alloc o) w') : Held w w' g1 g2 t x1 x2 y1 y2 := (h.alloc o).step hb
theorem Held.facts (h : Held w wi g1 g2 t x1 x2 y1 y2) : wi.cell? ⟨g1, 0, none⟩ = some x1 ∧ wi.cell? ⟨g1, 1, none⟩ = some x2 ∧ wi.cell? ⟨g2, 0, none⟩ = some y1 ∧ wi.cell? ⟨g2, 1, none⟩ = some y2 ∧ (g1 < wi.heap.size ∧ g2 < wi.heap.size) :=
  ⟨h.2.2.2.1.two.1, h.2.2.2.1.two.2.1, h.2.2.2.2.two.1, h.2.2.2.2.two.2.1, h.2.2.2.1.lt, h.2.2.2.2.lt⟩
/-- What a region of a law holds on to: the cells of its two boxed arguments, and that all else stays. -/
theorem Held.conds (h : Held w wi g1 g2 t x1 x2 y1 y2) : wi.cell? ⟨g1, 0, none⟩ = some x1 ∧ wi.cell? ⟨g1, 1, none⟩ = some x2 ∧ wi.cell? ⟨g2, 0, none⟩ = some y1 ∧ wi.cell? ⟨g2, 1, none⟩ = some y2 ∧ Held w wi g1 g2 t x1 x2 y1 y2 :=
  ⟨h.2.2.2.1.two.1, h.2.2.2.1.two.2.1, h.2.2.2.2.two.1, h.2.2.2.2.two.2.1, h⟩
theorem Held.drew (h : Held w wi g1 g2 t x1 x2 y1 y2) : Held w wi.drew g1 g2 t x1 x2 y1 y2 := ⟨h.1, h.2.1, h.2.2.1.drew, h.2.2.2.1, h.2.2.2.2⟩
theorem Held.next {A B C D : Prop} (h : A ∧ B ∧ C ∧ D ∧ Held w wi g1 g2 t x1 x2 y1 y2) (hb : Below wi.heap.size wi w') :
    w'.cell? ⟨g1, 0, none⟩ = some x1 ∧ w'.cell? ⟨g1, 1, none⟩ = some x2 ∧ w'.cell? ⟨g2, 0, none⟩ = some y1 ∧ w'.cell? ⟨g2, 1, none⟩ = some y2 ∧ Held w w' g1 g2 t x1 x2 y1 y2 := (h.2.2.2.2.step hb).conds
theorem Held.grow {A B C D : Prop} {o : Obj} (h : A ∧ B ∧ C ∧ D ∧ Held w wi g1 g2 t x1 x2 y1 y2) :
    (wi.alloc o).cell? ⟨g1, 0, none⟩ = some x1 ∧ (wi.alloc o).cell? ⟨g1, 1, none⟩ = some x2 ∧ (wi.alloc o).cell? ⟨g2, 0, none⟩ = some y1 ∧ (wi.alloc o).cell? ⟨g2, 1, none⟩ = some y2 ∧ Held w (wi.alloc o) g1 g2 t x1 x2 y1 y2 := (h.2.2.2.2.alloc o).conds
end

set_option maxHeartbeats 1000000 in
theorem awake_any (w : World) : Calls Try.prog 15 #[] w fun e w' => e = .returned (.bool true) ∧ Below w.heap.size w w' := by
  go_enter Try.func15, Try.ntmps15
  go_wp2_with fail
  have H0 : Held w ((w.alloc (.cells #[.int .i64 1, .int .i64 5] 23)).alloc (.cells #[.int .i64 4, .int .i64 9] 23)) w.heap.size (w.heap.size + 1) 23 (.int .i64 1) (.int .i64 5) (.int .i64 4) (.int .i64 9) :=
    ⟨by omega, by omega, by go_grown, (Blk.new _ _ _).alloc _, by simpa using Blk.new (w.alloc _) _ _⟩
  have H0 := Lib.hid H0
  refine (has_any 1 5 5 _).mono ?_
  rintro e w1 ⟨rfl, hb⟩
  have H1 := H0.out.step hb
  clear hb
  obtain ⟨a1, a1', b1, b1', s1⟩ := H1.facts
  have H1 := Lib.hid H1
  go_wp2_with fail
  refine (has_any 1 5 6 _).mono ?_
  rintro e w2 ⟨rfl, hb⟩
  have H2 := H1.out.step hb
  clear hb
  obtain ⟨a2, a2', b2, b2', s2⟩ := H2.facts
  have H2 := Lib.hid H2
  go_wp2_with fail
  refine (empty_any 1 0 _).mono ?_
  rintro e w3 ⟨rfl, hb⟩
  have H3 := H2.out.step hb
  clear hb
  obtain ⟨a3, a3', b3, b3', s3⟩ := H3.facts
  have H3 := Lib.hid H3
  go_wp2_with fail
  refine (size_any 1 5 _ (by decide) (by decide) (by decide) (by decide)).mono ?_
  rintro e w4 ⟨rfl, hb⟩
  have H4 := H3.out.step hb
  clear hb
  obtain ⟨a4, a4', b4, b4', s4⟩ := H4.facts
  have H4 := Lib.hid H4
  go_wp2_with fail
  refine (both_any _ _ _ [(1, 5), (4, 9)] _ rfl ?_ ?_ (reads_two _ _ ?_ _ (1, 5) (4, 9))).mono ?_
  · exact Nat.le_refl 2
  · decide
  · rfl
  rintro e w5 ⟨rfl, hb⟩
  have H5 := H4.out.step_alloc hb
  clear hb
  obtain ⟨a5, a5', b5, b5', s5⟩ := H5.facts
  have H5 := Lib.hid H5
  go_wp2_with fail
  refine (cover_any _ _ _ [(1, 5), (4, 9)] _ rfl ?_ ?_ (reads_two _ _ ?_ _ (1, 5) (4, 9))).mono ?_
  · exact Nat.le_refl 2
  · decide
  · rfl
  rintro e w6 ⟨rfl, hb⟩
  have H6 := H5.out.step_alloc hb
  clear hb
  obtain ⟨a6, a6', b6, b6', s6⟩ := H6.facts
  have H6 := Lib.hid H6
  go_wp2_with fail
  refine (meets_any (1, 5) (4, 9) _).mono ?_
  rintro e w7 ⟨rfl, hb⟩
  have H7 := H6.out.step hb
  clear hb
  obtain ⟨a7, a7', b7, b7', s7⟩ := H7.facts
  have H7 := Lib.hid H7
  go_wp2_with fail
  refine (within_any (1, 5) (4, 9) _).mono ?_
  rintro e w8 ⟨rfl, hb⟩
  have H8 := H7.out.step hb
  clear hb
  obtain ⟨a8, a8', b8, b8', s8⟩ := H8.facts
  have H8 := Lib.hid H8
  go_wp2_with fail
  refine (trim_any (4, 9) 6 _).mono ?_
  rintro e w9 ⟨rfl, hb⟩
  have H9 := H8.out.step hb
  clear hb
  obtain ⟨a9, a9', b9, b9', s9⟩ := H9.facts
  have H9 := Lib.hid H9
  go_wp2_with fail
  refine (both_any none 0 0 [] _ rfl (Nat.le_refl 0) (by decide) Reads.none_).mono ?_
  rintro e w10 ⟨rfl, hb⟩
  have H10 := H9.out.step hb
  clear hb
  obtain ⟨a10, a10', b10, b10', s10⟩ := H10.facts
  have H10 := Lib.hid H10
  go_wp2
  go_ret
  exact ⟨rfl, H10.out.2.2.1⟩
end Go.Proofs.Ytcdanilepikdeaa
