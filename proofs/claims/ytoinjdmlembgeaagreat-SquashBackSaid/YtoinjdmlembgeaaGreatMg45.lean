/-
 What the law of the last of these texts stands on, part 45.
-/
import Derived.Test.YtoinjdmlembgeaaGreatMg41
namespace Go.Proofs.YtoinjdmlembgeaaGreat
set_option linter.unusedSimpArgs false
set_option linter.unusedVariables false
open Go.ChangeShapes Go.WideShapes Go.ChangeAt Go.RowKit Go.Joins Go.Deep
def ycr (w : World) (l : List UInt8) : World :=
 ((((w.alloc (.cells #[.int .i64 0, .int .i64 0, .int .i64 0] 40)).alloc (.cells #[.string ⟨#[]⟩] 9)).alloc (.cells #[.string ⟨l.toArray⟩, .int .i64 0] 125)).alloc (.cells #[.pointer (some ⟨w.heap.size + 1 + 1, 0, none⟩)] 82)).alloc
  (.cells #[.func (.func 50) #[.pointer (some ⟨w.heap.size + 1 + 1, 0, none⟩)] #[]] 84)
theorem yhG (w : World) (l : List UInt8) : (ycr w l).heap.size = w.heap.size + 5 := by simp [ycr]
theorem yfN (w : World) (l : List UInt8) : Below w.heap.size w (ycr w l) := by unfold ycr; go_grown
theorem ygK (w : World) (l : List UInt8) : QHold (ycr w l) (w.heap.size + 4) w.heap.size (w.heap.size + 3) (w.heap.size + 1) (w.heap.size + 2) 0 0 0 ⟨#[]⟩ := by
 unfold ycr
 refine ⟨?_, ((((Blk.new _ _ _).alloc _).alloc _).alloc _).alloc _, ?_, ?_⟩
 ·simpa using Blk.new ((((w.alloc _).alloc _).alloc _).alloc _) _ _
 ·simpa using (Blk.new (((w.alloc _).alloc _).alloc _) _ _).alloc _
 ·simpa using (((Blk.new (w.alloc _) _ _).alloc _).alloc _).alloc _
theorem yfG (w : World) (l : List UInt8) : Blk (ycr w l) (w.heap.size + 2) 125 #[.string ⟨l.toArray⟩, .int .i64 0] := by
 unfold ycr
 simpa using ((Blk.new ((w.alloc _).alloc _) _ _).alloc _).alloc _
theorem yez {w w' W : World} {S : Nat → Prop} (h : Touch W w' S) (hb : Below w.heap.size w W) (hs : ∀ k, S k → w.heap.size ≤ k) : Below w.heap.size w w' := hb.trans (h.below (fun k _ e => hs k e) hb.size)
section
variable (l : List UInt8) (w : World) (hl : l.length ≤ 4611686018427387904)
include hl
theorem yhO (E : Int) (hE : E ≠ 0) (hq : (yb1 l).2.2 = E) :
  Calls Tryz.prog 51 #[.func (.func 52) #[] #[.pointer (some ⟨w.heap.size + 4, 0, none⟩), .pointer (some ⟨w.heap.size, 0, none⟩), .pointer (some ⟨w.heap.size + 3, 0, none⟩), .pointer (some ⟨w.heap.size + 1, 0, none⟩)]] (ycr w l) fun r w' =>
   r = .returned (.int .i64 E) ∧ Blk w' w.heap.size 40 #[.int .i64 0, .int .i64 0, .int .i64 0] ∧ Blk w' (w.heap.size + 1) 9 #[.string ⟨#[]⟩] ∧ Below w.heap.size w w' := by
 have hH := (ygK w l)
 have hB := (yfG w l)
 have hs := yhG w l
 refine (q_caught_no (ycr w l) (w.heap.size + 4) w.heap.size (w.heap.size + 3) (w.heap.size + 1) (w.heap.size + 2) E (by omega) ?_).mono fun r w' h => ⟨h.1, hH.2.1.touch h.2 (by omega), hH.2.2.2.touch h.2 (by omega), yez h.2 (yfN w l) (fun k e => by omega)⟩
 unfold yb1 at hq
 obtain ⟨a, p1, e1, h1⟩ : ∃ a p e, getF l 0 = (a, p, e) := ⟨_, _, _, rfl⟩
 obtain ⟨b, p2, e2, h2⟩ : ∃ a p e, getF l p1 = (a, p, e) := ⟨_, _, _, rfl⟩
 obtain ⟨c, p3, e3, h3⟩ : ∃ a p e, getF l p2 = (a, p, e) := ⟨_, _, _, rfl⟩
 rw [h1] at hq
 dsimp only at hq
 rw [h2] at hq
 dsimp only at hq
 rw [h3] at hq
 dsimp only at hq
 by_cases n1 : e1 ≠ 0
 ·rw [if_pos n1] at hq
  dsimp only at hq
  subst hq
  exact q_take_no1 l _ _ _ _ _ _ 0 0 0 _ hl (hH.alloc _) (hB.alloc _) a p1 e1 hE h1
 ·rw [if_neg n1] at hq
  obtain rfl : e1 = 0 := by omega
  by_cases n2 : e2 ≠ 0
  ·rw [if_pos n2] at hq
   dsimp only at hq
   subst hq
   exact q_take_no2 l _ _ _ _ _ _ 0 0 0 _ hl (by omega) (by omega) (by omega) (by omega) (hH.alloc _) (hB.alloc _) a p1 b p2 e2 hE h1 h2
  ·rw [if_neg n2] at hq
   obtain rfl : e2 = 0 := by omega
   by_cases n3 : e3 ≠ 0
   ·rw [if_pos n3] at hq
    dsimp only at hq
    subst hq
    exact q_take_no3 l _ _ _ _ _ _ 0 0 0 _ hl (by omega) (by omega) (by omega) (by omega) (hH.alloc _) (hB.alloc _) a b p1 p2 c p3 e3 hE h1 h2 h3
   ·rw [if_neg n3] at hq
    exact absurd hq.symm hE
theorem ygb (a b c p : Int) (hq : yb1 l = ((a, b, c), p, 0)) :
  Calls Tryz.prog 51 #[.func (.func 52) #[] #[.pointer (some ⟨w.heap.size + 4, 0, none⟩), .pointer (some ⟨w.heap.size, 0, none⟩), .pointer (some ⟨w.heap.size + 3, 0, none⟩), .pointer (some ⟨w.heap.size + 1, 0, none⟩)]] (ycr w l) fun r w' =>
   r = .returned (.int .i64 0) ∧ Blk w' w.heap.size 40 #[.int .i64 a, .int .i64 b, .int .i64 c] ∧ Blk w' (w.heap.size + 1) 9 #[.string ⟨(l.drop p.toNat).toArray⟩] ∧ Below w.heap.size w w' := by
 have hH := (ygK w l)
 have hB := (yfG w l)
 have hs := yhG w l
 unfold yb1 at hq
 obtain ⟨a', p1, e1, h1⟩ : ∃ a p e, getF l 0 = (a, p, e) := ⟨_, _, _, rfl⟩
 obtain ⟨b', p2, e2, h2⟩ : ∃ a p e, getF l p1 = (a, p, e) := ⟨_, _, _, rfl⟩
 obtain ⟨c', p3, e3, h3⟩ : ∃ a p e, getF l p2 = (a, p, e) := ⟨_, _, _, rfl⟩
 rw [h1] at hq
 dsimp only at hq
 rw [h2] at hq
 dsimp only at hq
 rw [h3] at hq
 dsimp only at hq
 have z : e1 = 0 ∧ e2 = 0 ∧ e3 = 0 ∧ a' = a ∧ b' = b ∧ c' = c ∧ p3 = p := by
  by_cases n1 : e1 ≠ 0
  ·rw [if_pos n1] at hq
   simp only [Prod.mk.injEq] at hq
   exact absurd hq.2.2 n1
  rw [if_neg n1] at hq
  by_cases n2 : e2 ≠ 0
  ·rw [if_pos n2] at hq
   simp only [Prod.mk.injEq] at hq
   exact absurd hq.2.2 n2
  rw [if_neg n2] at hq
  by_cases n3 : e3 ≠ 0
  ·rw [if_pos n3] at hq
   simp only [Prod.mk.injEq] at hq
   exact absurd hq.2.2 n3
  rw [if_neg n3] at hq
  simp only [Prod.mk.injEq] at hq
  omega
 obtain ⟨rfl, rfl, rfl, rfl, rfl, rfl, rfl⟩ := z
 refine (q_caught_yes (ycr w l) (w.heap.size + 4) w.heap.size (w.heap.size + 3) (w.heap.size + 1) (w.heap.size + 2) a' b' c' _ (by omega) (by omega) (by omega) ?_).mono fun r w' h => ⟨h.1, h.2.1, h.2.2.1, yez h.2.2.2 (yfN w l) (fun k e => by omega)⟩
 exact q_take_yes l _ _ _ _ _ _ 0 0 0 _ hl (by omega) (by omega) (by omega) (by omega) (hH.alloc _) (hB.alloc _) a' b' c' p1 p2 p3 (by omega) (by omega) (by omega) (by omega) h1 h2 h3
omit hl in
set_option maxRecDepth 100000 in
set_option maxHeartbeats 2000000 in
theorem q_cut_is (a b c E : Int) (R : List UInt8) (hC : ∀ w : World, Calls Tryz.prog 51 #[.func (.func 52) #[] #[.pointer (some ⟨w.heap.size + 4, 0, none⟩), .pointer (some ⟨w.heap.size, 0, none⟩), .pointer (some ⟨w.heap.size + 3, 0, none⟩), .pointer (some ⟨w.heap.size + 1, 0, none⟩)]] (ycr w l) fun r w' =>
   r = .returned (.int .i64 E) ∧ Blk w' w.heap.size 40 #[.int .i64 a, .int .i64 b, .int .i64 c] ∧ Blk w' (w.heap.size + 1) 9 #[.string ⟨R.toArray⟩] ∧ Below w.heap.size w w') :
  Calls Tryz.prog 24 #[.string ⟨l.toArray⟩] w fun r w' => r = .returned (.tuple #[.agg #[.int .i64 a, .int .i64 b, .int .i64 c], .string ⟨R.toArray⟩, .int .i64 E]) ∧ Below w.heap.size w w' := by
 have hmf : ∀ (fn : Fn) (first cap : Array Value) (w : World), (Instr.makeFunc fn first cap).run Tryz.prog w = .ok (.func fn first cap) w := fun _ _ _ _ => rfl
 have Hc := hC w
 unfold ycr at Hc
 have HC := Lib.hid Hc
 clear Hc hC
 go_enter Tryz.func24, Tryz.ntmps24
 go_wp2_with (first
  | (go_at_call 49; refine (new_any _ _).mono ?_; rintro e w1 ⟨rfl, rfl⟩)
  | (go_at_call 51; (with_reducible refine HC.out.mono ?_); rintro e w2 ⟨rfl, h1, h2, h3⟩; have c0 : w2.cell? ⟨w.heap.size, 0, none⟩ = some (.int .i64 a) := h1.cell 0; have c1 : w2.cell? ⟨w.heap.size, 1, none⟩ = some (.int .i64 b) := h1.cell 1; have c2 : w2.cell? ⟨w.heap.size, 2, none⟩ = some (.int .i64 c) := h1.cell 2; have c3 : w2.cell? ⟨w.heap.size + 1, 0, none⟩ = some (.string ⟨R.toArray⟩) := h2.cell 0; have z0 := h1.frozen 0; have z1 := h1.frozen 1; have z2 := h1.frozen 2; have z3 := h2.frozen 0; have H1 := Lib.hid h1; have H2 := Lib.hid h2; have H3 := Lib.hid h3; clear h1 h2 h3))
 have hn : ¬ w.heap.size + 1 = w.heap.size := by omega
 have hn2 : ¬ w.heap.size = w.heap.size + 1 := by omega
 clear H1 H2 HC
 generalize hNN : w.heap.size = N at *
 have HN := Lib.hid hNN
 clear hNN
 go_region
 have q0 : (((((w2.setCell ⟨N, 0, none⟩ (.int .i64 a)).setCell ⟨N, 1, none⟩ (.int .i64 b)).setCell ⟨N, 2, none⟩ (.int .i64 c)).setCell ⟨N + 1, 0, none⟩ (.string ⟨R.toArray⟩)).drew).cell? ⟨N, 0, none⟩ = some (.int .i64 a) := by go_simp
 have q1 : (((((w2.setCell ⟨N, 0, none⟩ (.int .i64 a)).setCell ⟨N, 1, none⟩ (.int .i64 b)).setCell ⟨N, 2, none⟩ (.int .i64 c)).setCell ⟨N + 1, 0, none⟩ (.string ⟨R.toArray⟩)).drew).cell? ⟨N, 1, none⟩ = some (.int .i64 b) := by go_simp
 have q2 : (((((w2.setCell ⟨N, 0, none⟩ (.int .i64 a)).setCell ⟨N, 1, none⟩ (.int .i64 b)).setCell ⟨N, 2, none⟩ (.int .i64 c)).setCell ⟨N + 1, 0, none⟩ (.string ⟨R.toArray⟩)).drew).cell? ⟨N, 2, none⟩ = some (.int .i64 c) := by go_simp
 have q3 : (((((w2.setCell ⟨N, 0, none⟩ (.int .i64 a)).setCell ⟨N, 1, none⟩ (.int .i64 b)).setCell ⟨N, 2, none⟩ (.int .i64 c)).setCell ⟨N + 1, 0, none⟩ (.string ⟨R.toArray⟩)).drew).cell? ⟨N + 1, 0, none⟩ = some (.string ⟨R.toArray⟩) := by go_simp
 have hE := ((((H3.out.setCell (Nat.le_refl _) (p := ⟨N, 0, none⟩) (.int .i64 a)).setCell (p := ⟨N, 1, none⟩) (Nat.le_refl _) (.int .i64 b)).setCell (p := ⟨N, 2, none⟩) (Nat.le_refl _) (.int .i64 c)).setCell (p := ⟨N + 1, 0, none⟩) (Nat.le_succ _) (.string ⟨R.toArray⟩)).drew
 generalize ((((w2.setCell ⟨N, 0, none⟩ (.int .i64 a)).setCell ⟨N, 1, none⟩ (.int .i64 b)).setCell ⟨N, 2, none⟩ (.int .i64 c)).setCell ⟨N + 1, 0, none⟩ (.string ⟨R.toArray⟩)).drew = X at q0 q1 q2 q3 hE ⊢
 go_wp2
 refine bodyPost_ret (v := .tuple #[.agg #[.int .i64 a, .int .i64 b, .int .i64 c], .string ⟨R.toArray⟩, .int .i64 E]) (by simp [results, Tryz.results24, go_sem, q0, q1, q2, q3]) rfl ⟨rfl, by rw [HN.out]; exact hE⟩
theorem q_cut_no (E : Int) (hE : E ≠ 0) (hq : (yb1 l).2.2 = E) :
  Calls Tryz.prog 24 #[.string ⟨l.toArray⟩] w fun r w' => r = .returned (.tuple #[.agg #[.int .i64 0, .int .i64 0, .int .i64 0], .string ⟨#[]⟩, .int .i64 E]) ∧ Below w.heap.size w w' :=
 q_cut_is l w 0 0 0 E [] fun w => yhO l w hl E hE hq
theorem q_cut_yes (a b c p : Int) (hq : yb1 l = ((a, b, c), p, 0)) :
  Calls Tryz.prog 24 #[.string ⟨l.toArray⟩] w fun r w' => r = .returned (.tuple #[.agg #[.int .i64 a, .int .i64 b, .int .i64 c], .string ⟨(l.drop p.toNat).toArray⟩, .int .i64 0]) ∧ Below w.heap.size w w' :=
 q_cut_is l w a b c 0 _ fun w => ygb l w hl a b c p hq
end
end Go.Proofs.YtoinjdmlembgeaaGreat
