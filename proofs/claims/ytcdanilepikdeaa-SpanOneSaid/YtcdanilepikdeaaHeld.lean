/-
  Layer 1: what a region of a law holds on to while its calls make memory: the cells of up to three blocks of the law's own; and the plain facts on ranges that the laws ask.
-/
import Derived.Test.YtcdanilepikdeaaAwake1
namespace Go.Proofs.Ytcdanilepikdeaa
set_option linter.unusedSimpArgs false
set_option linter.unusedVariables false
open Go.ChangeShapes Go.WideShapes Go.ChangeAt Go.RowKit Go.Joins Go.Deep

def Held3 (w wi : World) (g1 g2 g3 : Nat) (t : TypeId) (x1 x2 y1 y2 z1 z2 : Value) : Prop := Held w wi g1 g2 t x1 x2 y1 y2 ∧ w.heap.size ≤ g3 ∧ Blk wi g3 t #[z1, z2]
section
variable {w wi w' : World} {g1 g2 g3 : Nat} {t : TypeId} {x1 x2 y1 y2 z1 z2 : Value}
theorem Held3.step (h : Held3 w wi g1 g2 g3 t x1 x2 y1 y2 z1 z2) (hb : Below wi.heap.size wi w') : Held3 w w' g1 g2 g3 t x1 x2 y1 y2 z1 z2 := ⟨h.1.step hb, h.2.1, h.2.2.below hb h.2.2.lt⟩
theorem Held3.alloc (h : Held3 w wi g1 g2 g3 t x1 x2 y1 y2 z1 z2) (o : Obj) : Held3 w (wi.alloc o) g1 g2 g3 t x1 x2 y1 y2 z1 z2 := ⟨h.1.alloc o, h.2.1, h.2.2.alloc o⟩
theorem Held3.drew (h : Held3 w wi g1 g2 g3 t x1 x2 y1 y2 z1 z2) : Held3 w wi.drew g1 g2 g3 t x1 x2 y1 y2 z1 z2 := ⟨h.1.drew, h.2.1, h.2.2⟩
theorem Held3.conds (h : Held3 w wi g1 g2 g3 t x1 x2 y1 y2 z1 z2) : wi.cell? ⟨g1, 0, none⟩ = some x1 ∧ wi.cell? ⟨g1, 1, none⟩ = some x2 ∧ wi.cell? ⟨g2, 0, none⟩ = some y1 ∧ wi.cell? ⟨g2, 1, none⟩ = some y2 ∧ wi.cell? ⟨g3, 0, none⟩ = some z1 ∧ wi.cell? ⟨g3, 1, none⟩ = some z2 ∧ Held3 w wi g1 g2 g3 t x1 x2 y1 y2 z1 z2 :=
  ⟨h.1.2.2.2.1.two.1, h.1.2.2.2.1.two.2.1, h.1.2.2.2.2.two.1, h.1.2.2.2.2.two.2.1, h.2.2.two.1, h.2.2.two.2.1, h⟩
theorem Held3.next {A B C D E F : Prop} (h : A ∧ B ∧ C ∧ D ∧ E ∧ F ∧ Held3 w wi g1 g2 g3 t x1 x2 y1 y2 z1 z2) (hb : Below wi.heap.size wi w') :
    w'.cell? ⟨g1, 0, none⟩ = some x1 ∧ w'.cell? ⟨g1, 1, none⟩ = some x2 ∧ w'.cell? ⟨g2, 0, none⟩ = some y1 ∧ w'.cell? ⟨g2, 1, none⟩ = some y2 ∧ w'.cell? ⟨g3, 0, none⟩ = some z1 ∧ w'.cell? ⟨g3, 1, none⟩ = some z2 ∧ Held3 w w' g1 g2 g3 t x1 x2 y1 y2 z1 z2 := (h.2.2.2.2.2.2.step hb).conds
theorem Held3.grow {A B C D E F : Prop} {o : Obj} (h : A ∧ B ∧ C ∧ D ∧ E ∧ F ∧ Held3 w wi g1 g2 g3 t x1 x2 y1 y2 z1 z2) :
    (wi.alloc o).cell? ⟨g1, 0, none⟩ = some x1 ∧ (wi.alloc o).cell? ⟨g1, 1, none⟩ = some x2 ∧ (wi.alloc o).cell? ⟨g2, 0, none⟩ = some y1 ∧ (wi.alloc o).cell? ⟨g2, 1, none⟩ = some y2 ∧ (wi.alloc o).cell? ⟨g3, 0, none⟩ = some z1 ∧ (wi.alloc o).cell? ⟨g3, 1, none⟩ = some z2 ∧ Held3 w (wi.alloc o) g1 g2 g3 t x1 x2 y1 y2 z1 z2 := (h.2.2.2.2.2.2.alloc o).conds
theorem Held3.last {A B C D E F : Prop} (h : A ∧ B ∧ C ∧ D ∧ E ∧ F ∧ Held3 w wi g1 g2 g3 t x1 x2 y1 y2 z1 z2) : Below w.heap.size w wi := h.2.2.2.2.2.2.1.2.2.1
theorem Held.last {A B C D : Prop} (h : A ∧ B ∧ C ∧ D ∧ Held w wi g1 g2 t x1 x2 y1 y2) : Below w.heap.size w wi := h.2.2.2.2.2.2.1
theorem Held.reads {A B C D : Prop} {Ad : Option Addr} {n size : Nat} {xs : List Value} (hr : Reads w w.heap.size size Ad n xs) (h : A ∧ B ∧ C ∧ D ∧ Held w wi g1 g2 t x1 x2 y1 y2) : Reads wi wi.heap.size size Ad n xs :=
  (hr.below (Held.last h)).more (Held.last h).size
end

/-! ### Closed facts on the translation -/
theorem own : ownKnob Try.prog.godebug = none := by kernel_rfl
theorem laid : laidOutB Try.prog = true := by kernel_rfl
theorem rangeCells : Try.prog.cellsOf 23 = 2 := by kernel_rfl
theorem intCells : Try.prog.cellsOf 3 = 1 := by kernel_rfl

/-! ### The functions of ranges, each under one name -/
def withinF (a b : Int × Int) : Bool := emptyF a || (hasF b a.1 && hasF b a.2)

theorem has_r (r : Int × Int) (n : Int) (w : World) :
    Calls Try.prog 7 #[.agg #[.int .i64 r.1, .int .i64 r.2], .int .i64 n] w fun e w' => e = .returned (.bool (hasF r n)) ∧ Below w.heap.size w w' := has_any r.1 r.2 n w
theorem empty_r (r : Int × Int) (w : World) :
    Calls Try.prog 9 #[.agg #[.int .i64 r.1, .int .i64 r.2]] w fun e w' => e = .returned (.bool (emptyF r)) ∧ Below w.heap.size w w' := empty_any r.1 r.2 w
theorem within_r (a b : Int × Int) (w : World) :
    Calls Try.prog 22 #[.agg #[.int .i64 a.1, .int .i64 a.2], .agg #[.int .i64 b.1, .int .i64 b.2]] w fun e w' => e = .returned (.bool (withinF a b)) ∧ Below w.heap.size w w' := within_any a b w

def In64 (r : Int × Int) : Prop := (-9223372036854775808 ≤ r.1 ∧ r.1 ≤ 9223372036854775807) ∧ -9223372036854775808 ≤ r.2 ∧ r.2 ≤ 9223372036854775807
theorem size_r (r : Int × Int) (h : In64 r) (w : World) :
    Calls Try.prog 11 #[.agg #[.int .i64 r.1, .int .i64 r.2]] w fun e w' => e = .returned (.int .i64 (sizeF r)) ∧ Below w.heap.size w w' := size_any r.1 r.2 w h.1.1 h.1.2 h.2.1 h.2.2

/-! ### Plain facts on two ranges -/
theorem bothF_two (a b : Int × Int) : bothF [a, b] = shut (if a.1 < b.1 then b.1 else a.1, if b.2 < a.2 then b.2 else a.2) := rfl
theorem coverF_two (a b : Int × Int) : coverF [a, b] = coverStep (coverStep (1, 0) a) b := rfl

/-- The two ends of what two ranges have in common. -/
theorem both_cases (a b : Int × Int) : ∃ p q : Int, p = max a.1 b.1 ∧ q = min a.2 b.2 ∧ ((q < p ∧ bothF [a, b] = (1, 0)) ∨ (¬ q < p ∧ bothF [a, b] = (p, q))) := by
  refine ⟨_, _, rfl, rfl, ?_⟩
  rw [bothF_two]
  have h1 : (if a.1 < b.1 then b.1 else a.1) = max a.1 b.1 := by split <;> omega
  have h2 : (if b.2 < a.2 then b.2 else a.2) = min a.2 b.2 := by split <;> omega
  rw [h1, h2]
  unfold shut
  by_cases h : min a.2 b.2 < max a.1 b.1
  · exact .inl ⟨h, by simp only [if_pos h]⟩
  · exact .inr ⟨h, by simp only [if_neg h]⟩

theorem both_has (a b : Int × Int) (n : Int) : hasF (bothF [a, b]) n = (hasF a n && hasF b n) := by
  obtain ⟨p, q, rfl, rfl, ⟨h, e⟩ | ⟨h, e⟩⟩ := both_cases a b <;> rw [e, Bool.eq_iff_iff] <;> simp only [hasF, Bool.and_eq_true, decide_eq_true_eq] <;> omega
theorem both_within_l (a b : Int × Int) : withinF (bothF [a, b]) a = true := by
  obtain ⟨p, q, rfl, rfl, ⟨h, e⟩ | ⟨h, e⟩⟩ := both_cases a b <;> rw [e] <;> simp only [withinF, emptyF, hasF, Bool.or_eq_true, Bool.and_eq_true, decide_eq_true_eq] <;> omega
theorem both_within_r (a b : Int × Int) : withinF (bothF [a, b]) b = true := by
  obtain ⟨p, q, rfl, rfl, ⟨h, e⟩ | ⟨h, e⟩⟩ := both_cases a b <;> rw [e] <;> simp only [withinF, emptyF, hasF, Bool.or_eq_true, Bool.and_eq_true, decide_eq_true_eq] <;> omega
theorem both_size (a b : Int × Int) : sizeF (bothF [a, b]) ≤ sizeF a := by
  obtain ⟨p, q, rfl, rfl, ⟨h, e⟩ | ⟨h, e⟩⟩ := both_cases a b <;> rw [e] <;> simp only [sizeF] <;> (repeat' split) <;> omega
theorem both_swap (a b : Int × Int) : bothF [b, a] = bothF [a, b] := by
  obtain ⟨p, q, rfl, rfl, h⟩ := both_cases a b
  obtain ⟨p', q', hp', hq', h'⟩ := both_cases b a
  have e1 : p' = max a.1 b.1 := by omega
  have e2 : q' = min a.2 b.2 := by omega
  subst e1 e2
  rcases h with ⟨h, e⟩ | ⟨h, e⟩ <;> rcases h' with ⟨h', e'⟩ | ⟨h', e'⟩
  · rw [e, e']
  · exact absurd h h'
  · exact absurd h' h
  · rw [e, e']
theorem both_in64 {a b : Int × Int} (ha : In64 a) (hb : In64 b) : In64 (bothF [a, b]) := by
  unfold In64 at *
  obtain ⟨p, q, rfl, rfl, ⟨h, e⟩ | ⟨h, e⟩⟩ := both_cases a b <;> rw [e] <;> simp only <;> omega

/-- What covers two ranges, by which of them is empty. -/
theorem cover_cases (a b : Int × Int) : (emptyF a = true ∧ emptyF b = true ∧ coverF [a, b] = (1, 0)) ∨ (emptyF a = true ∧ emptyF b = false ∧ coverF [a, b] = b) ∨ (emptyF a = false ∧ emptyF b = true ∧ coverF [a, b] = a) ∨
    (emptyF a = false ∧ emptyF b = false ∧ coverF [a, b] = (min a.1 b.1, max a.2 b.2)) := by
  have g : ∀ q x : Int × Int, coverGo q x = (min q.1 x.1, max q.2 x.2) := by
    intro q x
    unfold coverGo
    ext <;> simp only <;> split <;> omega
  have gs : ∀ x : Int × Int, coverGo x x = x := by
    intro x
    rw [g]
    ext <;> simp only <;> omega
  rw [coverF_two]
  by_cases ha : a.2 < a.1 <;> by_cases hb : b.2 < b.1 <;> simp only [emptyF, coverStep, ha, hb, if_true, if_false, decide_true, decide_false, gs, true_and, false_and, or_false, false_or, Bool.true_eq_false, Bool.false_eq_true] <;> first | (simp [gs, g]; done) | (simp [gs, g, ha]; done)
theorem cover_swap (a b : Int × Int) : coverF [b, a] = coverF [a, b] := by
  rcases cover_cases a b with ⟨h1, h2, e⟩ | ⟨h1, h2, e⟩ | ⟨h1, h2, e⟩ | ⟨h1, h2, e⟩ <;> rcases cover_cases b a with ⟨k1, k2, f⟩ | ⟨k1, k2, f⟩ | ⟨k1, k2, f⟩ | ⟨k1, k2, f⟩ <;> first | (rw [e, f]; done) | (exact absurd (h1.symm.trans k2) (by decide)) | (exact absurd (h2.symm.trans k1) (by decide)) | (rw [e, f]; ext <;> simp only <;> omega)
theorem cover_within_l (a b : Int × Int) : withinF a (coverF [a, b]) = true := by
  rcases cover_cases a b with ⟨h1, h2, e⟩ | ⟨h1, h2, e⟩ | ⟨h1, h2, e⟩ | ⟨h1, h2, e⟩ <;> rw [e] <;> simp only [withinF, emptyF, hasF, Bool.or_eq_true, Bool.and_eq_true, decide_eq_true_eq, decide_eq_false_iff_not] at * <;> omega
theorem cover_within_r (a b : Int × Int) : withinF b (coverF [a, b]) = true := by
  rcases cover_cases a b with ⟨h1, h2, e⟩ | ⟨h1, h2, e⟩ | ⟨h1, h2, e⟩ | ⟨h1, h2, e⟩ <;> rw [e] <;> simp only [withinF, emptyF, hasF, Bool.or_eq_true, Bool.and_eq_true, decide_eq_true_eq, decide_eq_false_iff_not] at * <;> omega
theorem cover_has (a b : Int × Int) (n : Int) (h : hasF a n = true ∨ hasF b n = true) : hasF (coverF [a, b]) n = true := by
  rcases cover_cases a b with ⟨h1, h2, e⟩ | ⟨h1, h2, e⟩ | ⟨h1, h2, e⟩ | ⟨h1, h2, e⟩ <;> rw [e] <;> simp only [withinF, emptyF, hasF, Bool.or_eq_true, Bool.and_eq_true, decide_eq_true_eq, decide_eq_false_iff_not] at * <;> omega
theorem cover_empty (a b : Int × Int) (ha : emptyF a = true) (hb : emptyF b = true) : emptyF (coverF [a, b]) = true := by
  rcases cover_cases a b with ⟨h1, h2, e⟩ | ⟨h1, h2, e⟩ | ⟨h1, h2, e⟩ | ⟨h1, h2, e⟩ <;> first | (rw [e]; rfl) | (exact absurd (ha.symm.trans h1) (by decide)) | (exact absurd (hb.symm.trans h2) (by decide))
/-- Each end of what covers two ranges is an end of one of them that is not empty. -/
theorem cover_ends (a b : Int × Int) (h : emptyF a = false ∨ emptyF b = false) :
    (((coverF [a, b]).1 = a.1 ∧ emptyF a = false) ∨ ((coverF [a, b]).1 = b.1 ∧ emptyF b = false)) ∧ (((coverF [a, b]).2 = a.2 ∧ emptyF a = false) ∨ ((coverF [a, b]).2 = b.2 ∧ emptyF b = false)) := by
  rcases cover_cases a b with ⟨h1, h2, e⟩ | ⟨h1, h2, e⟩ | ⟨h1, h2, e⟩ | ⟨h1, h2, e⟩
  · rw [h1, h2] at h; simp at h
  · rw [e]; exact ⟨.inr ⟨rfl, h2⟩, .inr ⟨rfl, h2⟩⟩
  · rw [e]; exact ⟨.inl ⟨rfl, h1⟩, .inl ⟨rfl, h1⟩⟩
  · rw [e]
    simp only [h1, h2, and_true]
    omega
end Go.Proofs.Ytcdanilepikdeaa
