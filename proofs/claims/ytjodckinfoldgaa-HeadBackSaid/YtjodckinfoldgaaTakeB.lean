/-
  Layer 3: what a taker does, for every text and place: New, take, and its methods.
-/
import Derived.Test.YtjodckinfoldgaaTakeA
import Derived.Test.YtjodckinfoldgaaGrow
namespace Go.Proofs.Ytjodckinfoldgaa
set_option linter.unusedSimpArgs false
set_option linter.unusedVariables false
open Go.ChangeShapes Go.WideShapes Go.ChangeAt Go.RowKit Go.Joins Go.Deep
theorem new_any (s : ByteArray) (w : World) : Calls Try.prog 42 #[.string s] w fun e w' => e = .returned (.pointer (some ⟨w.heap.size, 0, none⟩)) ∧ w.alloc (.cells #[.string s, .int .i64 0] 88) = w' := by
  go_enter Try.func42, Try.ntmps42
  go_wp2
  go_ret
  exact ⟨rfl, rfl⟩
def THeld (w wi : World) (g : Nat) (l : List UInt8) (p k n : Int) : Prop :=
  Below w.heap.size w wi ∧ w.heap.size + 2 ≤ wi.heap.size ∧ g < w.heap.size ∧ Blk wi g 88 #[.string ⟨l.toArray⟩, .int .i64 p] ∧ Blk wi w.heap.size 82 #[.int .i64 k, .int .i64 n] ∧ Blk wi (w.heap.size + 1) 79 #[.int .i64 0, .string ⟨#[]⟩]
section
variable {w wi w' : World} {g : Nat} {l : List UInt8} {p k n : Int}
theorem THeld.step (h : THeld w wi g l p k n) (hb : Below wi.heap.size wi w') : THeld w w' g l p k n :=
  ⟨h.1.trans (hb.mono h.1.size), Nat.le_trans h.2.1 hb.size, h.2.2.1, h.2.2.2.1.below hb h.2.2.2.1.lt, h.2.2.2.2.1.below hb h.2.2.2.2.1.lt, h.2.2.2.2.2.below hb h.2.2.2.2.2.lt⟩
theorem THeld.drew (h : THeld w wi g l p k n) : THeld w wi.drew g l p k n := ⟨h.1.drew, h.2.1, h.2.2.1, h.2.2.2.1, h.2.2.2.2.1, h.2.2.2.2.2⟩
theorem THeld.conds (h : THeld w wi g l p k n) : wi.cell? ⟨g, 0, none⟩ = some (.string ⟨l.toArray⟩) ∧ wi.cell? ⟨g, 1, none⟩ = some (.int .i64 p) ∧ wi.cell? ⟨w.heap.size, 0, none⟩ = some (.int .i64 k) ∧ wi.cell? ⟨w.heap.size, 1, none⟩ = some (.int .i64 n) ∧ THeld w wi g l p k n :=
  ⟨h.2.2.2.1.two.1, h.2.2.2.1.two.2.1, h.2.2.2.2.1.two.1, h.2.2.2.2.1.two.2.1, h⟩
theorem THeld.next {A B C D : Prop} (h : A ∧ B ∧ C ∧ D ∧ THeld w wi g l p k n) (hb : Below wi.heap.size wi w') : w'.cell? ⟨g, 0, none⟩ = some (.string ⟨l.toArray⟩) ∧ w'.cell? ⟨g, 1, none⟩ = some (.int .i64 p) ∧ w'.cell? ⟨w.heap.size, 0, none⟩ = some (.int .i64 k) ∧ w'.cell? ⟨w.heap.size, 1, none⟩ = some (.int .i64 n) ∧ THeld w w' g l p k n := (h.2.2.2.2.step hb).conds
theorem THeld.grow {A B C D : Prop} {o : Obj} (h : A ∧ B ∧ C ∧ D ∧ THeld w wi g l p k n) : (wi.alloc o).cell? ⟨g, 0, none⟩ = some (.string ⟨l.toArray⟩) ∧ (wi.alloc o).cell? ⟨g, 1, none⟩ = some (.int .i64 p) ∧ (wi.alloc o).cell? ⟨w.heap.size, 0, none⟩ = some (.int .i64 k) ∧ (wi.alloc o).cell? ⟨w.heap.size, 1, none⟩ = some (.int .i64 n) ∧ THeld w (wi.alloc o) g l p k n := (h.2.2.2.2.step ((Below.refl _ _).alloc (Nat.le_refl _) o)).conds
theorem THeld.sett {A B C D : Prop} (h : A ∧ B ∧ C ∧ D ∧ THeld w wi g l p k n) {q : Addr} (hq : w.heap.size + 2 ≤ q.block) (u : Value) : (wi.setCell q u).cell? ⟨g, 0, none⟩ = some (.string ⟨l.toArray⟩) ∧ (wi.setCell q u).cell? ⟨g, 1, none⟩ = some (.int .i64 p) ∧ (wi.setCell q u).cell? ⟨w.heap.size, 0, none⟩ = some (.int .i64 k) ∧ (wi.setCell q u).cell? ⟨w.heap.size, 1, none⟩ = some (.int .i64 n) ∧ THeld w (wi.setCell q u) g l p k n := by
  obtain ⟨h1, h2, h3, h4, h5, h6⟩ := h.2.2.2.2
  exact THeld.conds ⟨h1.setCell (by omega) u, by simpa [World.setCell] using h2, h3, h4.far (by omega) u, h5.far (by omega) u, h6.far (by omega) u⟩
theorem size_two (w : World) (a b : Obj) : ((w.alloc a).alloc b).heap.size = w.heap.size + 1 + 1 := by simp
theorem box_drew {W w1 : World} {N : Nat} {t : TypeId} {a b : Value} (hN : W.heap.size = N) (hb : Below (W.alloc (.cells #[a, b] t)).drew.heap.size (W.alloc (.cells #[a, b] t)).drew w1) : w1.cell? ⟨N, 0, none⟩ = some a ∧ w1.cell? ⟨N, 1, none⟩ = some b ∧ w1.frozen? ⟨N, 0, none⟩ = false ∧ w1.frozen? ⟨N, 1, none⟩ = false := by
  subst hN
  have h : Blk (W.alloc (.cells #[a, b] t)).drew W.heap.size t #[a, b] := (Blk.new W t #[a, b]).drew
  exact (h.below hb h.lt).two
theorem piece_box (l : List UInt8) (p k n : Int) (v : World) (a b : Obj) (hl : l.length ≤ 4611686018427387904) (h0 : 0 ≤ p) (hp : p ≤ l.length) (r : (Int × List UInt8) × Int × Int) (hr : pieceF l p k n = r) :
    Calls Try.prog 47 #[.string ⟨l.toArray⟩, .int .i64 p, .agg #[.int .i64 k, .int .i64 n]] (((v.alloc a).alloc b).alloc (.cells #[.int .i64 0, .string ⟨#[]⟩] 79)).drew fun e w' => e = .returned (.tuple #[.agg #[.int .i64 r.1.1, .string ⟨r.1.2.toArray⟩], .int .i64 r.2.1, .int .i64 r.2.2]) ∧
      Below (((v.alloc a).alloc b).alloc (.cells #[.int .i64 0, .string ⟨#[]⟩] 79)).drew.heap.size (((v.alloc a).alloc b).alloc (.cells #[.int .i64 0, .string ⟨#[]⟩] 79)).drew w' ∧
      w'.cell? ⟨v.heap.size + 1 + 1, 0, none⟩ = some (.int .i64 0) ∧ w'.cell? ⟨v.heap.size + 1 + 1, 1, none⟩ = some (.string ⟨#[]⟩) ∧ w'.frozen? ⟨v.heap.size + 1 + 1, 0, none⟩ = false ∧ w'.frozen? ⟨v.heap.size + 1 + 1, 1, none⟩ = false :=
  (piece_any l p k n _ hl h0 hp r hr).mono fun e w' ⟨h1, h2⟩ => ⟨h1, h2, box_drew (size_two v a b) h2⟩
theorem Blk.swap {b : Nat} {t : TypeId} {cs : Array Value} {o o' : Obj} (h : Blk (wi.alloc o) b t cs) (hb : b < wi.heap.size) : Blk (wi.alloc o') b t cs :=
  (Below.heap_alloc wi o' b hb).trans ((Below.heap_alloc wi o b hb).symm.trans h)
theorem THeld.swap {A B C D : Prop} {o o' : Obj} (h : A ∧ B ∧ C ∧ D ∧ THeld w (wi.alloc o) g l p k n) (hs : w.heap.size + 2 ≤ wi.heap.size) : (wi.alloc o').cell? ⟨g, 0, none⟩ = some (.string ⟨l.toArray⟩) ∧ (wi.alloc o').cell? ⟨g, 1, none⟩ = some (.int .i64 p) ∧ (wi.alloc o').cell? ⟨w.heap.size, 0, none⟩ = some (.int .i64 k) ∧ (wi.alloc o').cell? ⟨w.heap.size, 1, none⟩ = some (.int .i64 n) ∧ THeld w (wi.alloc o') g l p k n := by
  obtain ⟨h1, h2, h3, h4, h5, h6⟩ := h.2.2.2.2
  refine THeld.conds ⟨⟨h1.os, h1.tape, h1.output, by simpa using h1.size, fun i hi => ?_⟩, by simpa using h2, h3, h4.swap (by omega), h5.swap (by omega), h6.swap (by omega)⟩
  exact (Below.heap_alloc wi o' i (by omega)).trans ((Below.heap_alloc wi o i (by omega)).symm.trans (h1.block i hi))
end
set_option maxRecDepth 100000 in
set_option maxHeartbeats 2000000 in
theorem take_ok (l : List UInt8) (p k n : Int) (g : Nat) (w : World) (hl : l.length ≤ 4611686018427387904) (h0 : 0 ≤ p) (hp : p ≤ l.length) (hB : Blk w g 88 #[.string ⟨l.toArray⟩, .int .i64 p])
    (x : Int) (s : List UInt8) (q : Int) (hr : pieceF l p k n = ((x, s), q, 0)) :
    Calls Try.prog 43 #[.pointer (some ⟨g, 0, none⟩), .agg #[.int .i64 k, .int .i64 n]] w fun e w' => e = .returned (.agg #[.int .i64 x, .string ⟨s.toArray⟩]) ∧ w.grownBy w' (some g) ∧ Blk w' g 88 #[.string ⟨l.toArray⟩, .int .i64 q] := by
  have hpc := fun w => piece_any l p k n w hl h0 hp _ hr
  have hpb := fun v a b => piece_box l p k n v a b hl h0 hp _ hr
  have hH : Hid (THeld w ((w.alloc (.cells #[.int .i64 k, .int .i64 n] 82)).alloc (.cells #[.int .i64 0, .string ⟨#[]⟩] 79)) g l p k n) :=
    Lib.hid ⟨by go_grown, by simp, hB.lt, (hB.alloc _).alloc _, (Blk.new _ _ _).alloc _, by simpa using Blk.new (w.alloc _) _ _⟩
  have hg := hB.lt
  have hge := hB
  clear hr
  go_enter Try.func43, Try.ntmps43
  go_wp2
  go_region_held3 (fun w' => w'.cell? ⟨g, 0, none⟩ = some (.string ⟨l.toArray⟩) ∧ w'.cell? ⟨g, 1, none⟩ = some (.int .i64 p) ∧ w'.cell? ⟨w.heap.size, 0, none⟩ = some (.int .i64 k) ∧ w'.cell? ⟨w.heap.size, 1, none⟩ = some (.int .i64 n) ∧ THeld w w' g l p k n)
    (first | exact THeld.next (by assumption) hb1 | exact THeld.conds (THeld.drew hH.out) | exact THeld.grow (by assumption) | exact THeld.swap (by assumption) (by have := hb1.size; simp at this; omega) | exact THeld.sett (THeld.sett (by assumption) (by simp only; omega) _) (by simp only; omega) _)
    (first
      | (go_at_call 47; (with_reducible refine (hpb _ _ _).mono ?_); rintro e w1 ⟨rfl, hb1, x0, x1, x2, x3⟩)
      | (go_at_call 47; (with_reducible refine (hpc _).mono ?_); rintro e w1 ⟨rfl, hb1⟩))
  · have hN := hb1.size
    rw [show (((w.alloc (.cells #[.int .i64 k, .int .i64 n] 82)).alloc (.cells #[.int .i64 0, .string ⟨#[]⟩] 79)).drew).heap.size = w.heap.size + 1 + 1 from size_two _ _ _] at hN
    have hbx := (Blk.new w1 79 #[.int .i64 x, .string ⟨s.toArray⟩]).two
    rename_i hHe
    have hT := hHe.2.2.2.2
    clear hb1 hH hpc hpb hHe
    generalize w1.alloc (.cells #[.int .i64 x, .string ⟨s.toArray⟩] 79) = X at hT hbx ⊢
    generalize w1.heap.size = N at hN hbx ⊢
    have h1 := hT.2.2.2.1.two
    have h2 := hT.2.2.2.2.2.two
    have n1 : ¬ N = g := by omega
    have n2 : ¬ w.heap.size + 1 = g := by omega
    have n3 : ¬ w.heap.size + 1 = N := by omega
    have hTT := Lib.hid hT
    clear hT hB hge
    go_wp2
    refine bodyPost_ret (v := .agg #[.int .i64 x, .string ⟨s.toArray⟩]) (by simp [results, Try.results43, go_sem, h2]) rfl ⟨rfl, ?_, ?_⟩
    · exact grow_set (grow_set (grow_set (grow_below hTT.out.1 (Nat.le_refl _)) (Or.inl rfl) _) (Or.inr (Nat.le_succ _)) _) (Or.inr (Nat.le_succ _)) _
    · exact (((hTT.out.2.2.2.1.set_ 1 (.int .i64 q)).far (fun e => n2 e.symm) _).far (fun e => n2 e.symm) _)
  · rename_i hHe
    have hT := hHe.2.2.2.2
    have hN : w.heap.size + 1 < w.heap.size + 1 + 1 := Nat.lt_succ_self _
    have hbx : ((w1.setCell ⟨w.heap.size + 1 + 1, 0, none⟩ (.int .i64 x)).setCell ⟨w.heap.size + 1 + 1, 1, none⟩ (.string ⟨s.toArray⟩)).cell? ⟨w.heap.size + 1 + 1, 0, none⟩ = some (.int .i64 x) ∧ ((w1.setCell ⟨w.heap.size + 1 + 1, 0, none⟩ (.int .i64 x)).setCell ⟨w.heap.size + 1 + 1, 1, none⟩ (.string ⟨s.toArray⟩)).cell? ⟨w.heap.size + 1 + 1, 1, none⟩ = some (.string ⟨s.toArray⟩) := by
      constructor <;> go_simp
    clear hb1 hH hpc hpb hHe x0 x1 x2 x3
    generalize (w1.setCell ⟨w.heap.size + 1 + 1, 0, none⟩ (.int .i64 x)).setCell ⟨w.heap.size + 1 + 1, 1, none⟩ (.string ⟨s.toArray⟩) = X at hT hbx ⊢
    generalize w.heap.size + 1 + 1 = N at hN hbx ⊢
    have h1 := hT.2.2.2.1.two
    have h2 := hT.2.2.2.2.2.two
    have n1 : ¬ N = g := by omega
    have n2 : ¬ w.heap.size + 1 = g := by omega
    have n3 : ¬ w.heap.size + 1 = N := by omega
    have hTT := Lib.hid hT
    clear hT hB hge
    go_wp2
    refine bodyPost_ret (v := .agg #[.int .i64 x, .string ⟨s.toArray⟩]) (by simp [results, Try.results43, go_sem, h2]) rfl ⟨rfl, ?_, ?_⟩
    · exact grow_set (grow_set (grow_set (grow_below hTT.out.1 (Nat.le_refl _)) (Or.inl rfl) _) (Or.inr (Nat.le_succ _)) _) (Or.inr (Nat.le_succ _)) _
    · exact (((hTT.out.2.2.2.1.set_ 1 (.int .i64 q)).far (fun e => n2 e.symm) _).far (fun e => n2 e.symm) _)
set_option maxRecDepth 100000 in
set_option maxHeartbeats 2000000 in
theorem take_no (l : List UInt8) (p k n : Int) (g : Nat) (w : World) (hl : l.length ≤ 4611686018427387904) (h0 : 0 ≤ p) (hp : p ≤ l.length) (hB : Blk w g 88 #[.string ⟨l.toArray⟩, .int .i64 p])
    (x : Int) (s : List UInt8) (q e : Int) (hr : pieceF l p k n = ((x, s), q, e)) (he : e ≠ 0) :
    Calls Try.prog 43 #[.pointer (some ⟨g, 0, none⟩), .agg #[.int .i64 k, .int .i64 n]] w fun r w' => r = .panicked [{ v := .iface 69 (.agg #[.int .i64 e, .int .i64 p]), recovered := false }] ∧ Below w.heap.size w w' := by
  have hpc := fun w => piece_any l p k n w hl h0 hp _ hr
  have hpb := fun v a b => piece_box l p k n v a b hl h0 hp _ hr
  have hH : Hid (THeld w ((w.alloc (.cells #[.int .i64 k, .int .i64 n] 82)).alloc (.cells #[.int .i64 0, .string ⟨#[]⟩] 79)) g l p k n) :=
    Lib.hid ⟨by go_grown, by simp, hB.lt, (hB.alloc _).alloc _, (Blk.new _ _ _).alloc _, by simpa using Blk.new (w.alloc _) _ _⟩
  have hg := hB.lt
  have hen : ¬ e = 0 := he
  have hge := hB
  clear hr
  go_enter Try.func43, Try.ntmps43
  go_wp2
  go_region_held3 (fun w' => w'.cell? ⟨g, 0, none⟩ = some (.string ⟨l.toArray⟩) ∧ w'.cell? ⟨g, 1, none⟩ = some (.int .i64 p) ∧ w'.cell? ⟨w.heap.size, 0, none⟩ = some (.int .i64 k) ∧ w'.cell? ⟨w.heap.size, 1, none⟩ = some (.int .i64 n) ∧ THeld w w' g l p k n)
    (first | exact THeld.next (by assumption) hb1 | exact THeld.conds (THeld.drew hH.out) | exact THeld.grow (by assumption) | exact THeld.swap (by assumption) (by have := hb1.size; simp at this; omega) | exact THeld.sett (THeld.sett (by assumption) (by simp only; omega) _) (by simp only; omega) _)
    (first
      | (go_at_call 47; (with_reducible refine (hpb _ _ _).mono ?_); rintro e' w1 ⟨rfl, hb1, x0, x1, x2, x3⟩)
      | (go_at_call 47; (with_reducible refine (hpc _).mono ?_); rintro e' w1 ⟨rfl, hb1⟩))
  · have hN := hb1.size
    rw [show (((w.alloc (.cells #[.int .i64 k, .int .i64 n] 82)).alloc (.cells #[.int .i64 0, .string ⟨#[]⟩] 79)).drew).heap.size = w.heap.size + 1 + 1 from size_two _ _ _] at hN
    have hbx := (Blk.new w1 79 #[.int .i64 x, .string ⟨s.toArray⟩]).two
    rename_i hHe
    have hT := hHe.2.2.2.2
    clear hb1 hH hpc hpb hHe
    generalize w1.alloc (.cells #[.int .i64 x, .string ⟨s.toArray⟩] 79) = X at hT hbx ⊢
    generalize w1.heap.size = N at hN hbx ⊢
    have h1 := hT.2.2.2.1.two
    have h2 := hT.2.2.2.2.2.two
    have n1 : ¬ N = g := by omega
    have n2 : ¬ w.heap.size + 1 = g := by omega
    have n3 : ¬ w.heap.size + 1 = N := by omega
    have hTT := Lib.hid hT
    clear hT hB hge
    go_wp2
    exact ⟨rfl, rfl, hTT.out.1⟩
  · rename_i hHe
    have hT := hHe.2.2.2.2
    have hN : w.heap.size + 1 < w.heap.size + 1 + 1 := Nat.lt_succ_self _
    have hbx : ((w1.setCell ⟨w.heap.size + 1 + 1, 0, none⟩ (.int .i64 x)).setCell ⟨w.heap.size + 1 + 1, 1, none⟩ (.string ⟨s.toArray⟩)).cell? ⟨w.heap.size + 1 + 1, 0, none⟩ = some (.int .i64 x) ∧ ((w1.setCell ⟨w.heap.size + 1 + 1, 0, none⟩ (.int .i64 x)).setCell ⟨w.heap.size + 1 + 1, 1, none⟩ (.string ⟨s.toArray⟩)).cell? ⟨w.heap.size + 1 + 1, 1, none⟩ = some (.string ⟨s.toArray⟩) := by
      constructor <;> go_simp
    clear hb1 hH hpc hpb hHe x0 x1 x2 x3
    generalize (w1.setCell ⟨w.heap.size + 1 + 1, 0, none⟩ (.int .i64 x)).setCell ⟨w.heap.size + 1 + 1, 1, none⟩ (.string ⟨s.toArray⟩) = X at hT hbx ⊢
    generalize w.heap.size + 1 + 1 = N at hN hbx ⊢
    have h1 := hT.2.2.2.1.two
    have h2 := hT.2.2.2.2.2.two
    have n1 : ¬ N = g := by omega
    have n2 : ¬ w.heap.size + 1 = g := by omega
    have n3 : ¬ w.heap.size + 1 = N := by omega
    have hTT := Lib.hid hT
    clear hT hB hge
    go_wp2
    exact ⟨rfl, rfl, hTT.out.1⟩
end Go.Proofs.Ytjodckinfoldgaa
