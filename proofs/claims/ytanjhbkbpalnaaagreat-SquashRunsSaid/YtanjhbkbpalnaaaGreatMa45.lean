/-
 What the law of the last of these texts stands on, part 45.
-/
import Derived.Test.YtanjhbkbpalnaaaGreatMa41
set_option maxRecDepth 100000
set_option maxHeartbeats 8000000
open Go.Proofs.Tryz
namespace Go.Proofs.YtanjhbkbpalnaaaGreat
set_option linter.unusedSimpArgs false
set_option linter.unusedVariables false
open Go.ChangeShapes Go.WideShapes Go.ChangeAt Go.RowKit Go.Joins Go.Deep
def ydL (w : World) : World := (w.alloc (.cells #[.int .i64 0, .int .i64 0, .int .i64 0] 62)).alloc (.cells #[.string ⟨#[]⟩] 9)
theorem qstart_size (w : World) : (ydL w).heap.size = w.heap.size + 2 := by simp [ydL]
theorem qstart_below (w : World) : Below w.heap.size w (ydL w) := by unfold ydL; go_grown
section
variable (l : List UInt8) (w : World) (hl : l.length ≤ 4611686018427387904)
include hl
theorem q_take_cut (a b c E : Int) (R : List UInt8) (hq : (ybb l).2.2 = E) (hy : E = 0 → (ybb l).1 = (a, b, c) ∧ l.drop (ybb l).2.1.toNat = R) (hn : E ≠ 0 → (a, b, c) = (0, 0, 0) ∧ R = []) :
  Calls prog 82 #[.string ⟨l.toArray⟩, .func (.func 83) #[] #[.pointer (some ⟨w.heap.size, 0, none⟩), .pointer (some ⟨w.heap.size + 1, 0, none⟩)]] (ydL w) fun r w' =>
   r = .returned (.int .i64 E) ∧ Blk w' w.heap.size 62 #[.int .i64 a, .int .i64 b, .int .i64 c] ∧ Blk w' (w.heap.size + 1) 9 #[.string ⟨R.toArray⟩] ∧ Below w.heap.size w w' := by
 have hs := qstart_size w
 have b1 : Blk (ydL w) w.heap.size 62 #[.int .i64 0, .int .i64 0, .int .i64 0] := (Blk.new w _ _).alloc _
 have b2 : Blk (ydL w) (w.heap.size + 1) 9 #[.string ⟨#[]⟩] := by
  have := Blk.new (w.alloc (.cells #[.int .i64 0, .int .i64 0, .int .i64 0] 62)) 9 #[.string ⟨#[]⟩]
  rwa [qaw] at this
 have hb := qstart_below w
 generalize ydL w = W at *
 have b3 := Blk.new W 23 #[.int .i64 0]
 have b4 : Blk ((W.alloc (.cells #[.int .i64 0] 23)).alloc (.cells #[.string ⟨l.toArray⟩, .int .i64 0] 208)) (W.heap.size + 1) 208 #[.string ⟨l.toArray⟩, .int .i64 0] := by
  have := Blk.new (W.alloc (.cells #[.int .i64 0] 23)) 208 #[.string ⟨l.toArray⟩, .int .i64 0]
  rwa [qaw] at this
 refine (p_ptake 83 #[.pointer (some ⟨w.heap.size, 0, none⟩), .pointer (some ⟨w.heap.size + 1, 0, none⟩)] ⟨l.toArray⟩ E W
  (fun w1 => Blk w1 w.heap.size 62 #[.int .i64 a, .int .i64 b, .int .i64 c] ∧ Blk w1 (w.heap.size + 1) 9 #[.string ⟨R.toArray⟩] ∧ Below w.heap.size w w1) (pt_enters func83 (by kernel_rfl) rfl) ?_).mono ?_
 ·have hb2 : Below w.heap.size w ((W.alloc (.cells #[.int .i64 0] 23)).alloc (.cells #[.string ⟨l.toArray⟩, .int .i64 0] 208)) := (hb.alloc (by omega) _).alloc (by rw [qaw]; omega) _
  have hs2 : w.heap.size ≤ ((W.alloc (.cells #[.int .i64 0] 23)).alloc (.cells #[.string ⟨l.toArray⟩, .int .i64 0] 208)).heap.size := hb2.size
  refine (q_took l _ w.heap.size (w.heap.size + 1) (W.heap.size + 1) hl (by omega) (by omega) (by omega) ((b1.alloc _).alloc _) ((b2.alloc _).alloc _) b4).mono ?_
  rintro r w' ⟨h1, h2, h3⟩
  rw [hq] at h1 h2 h3
  by_cases hE : E = 0
  ·obtain ⟨k1, k2, k3⟩ := h2 hE
   obtain ⟨m1, m2⟩ := hy hE
   rw [m1] at k1
   rw [m2] at k2
   refine ⟨h1, (b3.alloc _).touch k3 (by omega), k1, k2, ?_⟩
   exact hb2.trans (k3.below (fun k _ e => by omega) hs2)
  ·obtain ⟨m1, rfl⟩ := hn hE
   injection m1 with m1 m2
   injection m2 with m2 m3
   subst m1
   subst m2
   subst m3
   have k3 := h3 hE
   exact ⟨h1, (b3.alloc _).touch k3 (by omega), ((b1.alloc _).alloc _).touch k3 (by omega), ((b2.alloc _).alloc _).touch k3 (by omega), hb2.trans (k3.below (fun k _ e => by omega) hs2)⟩
 ·rintro r w' ⟨rfl, w1, ⟨h1, h2, h3⟩, rfl⟩
  exact ⟨rfl, h1.far (by show w.heap.size ≠ W.heap.size; omega) _, h2.far (by show w.heap.size + 1 ≠ W.heap.size; omega) _, h3.setCell (p := ⟨W.heap.size, 0, none⟩) (by show w.heap.size ≤ W.heap.size; omega) _⟩
end
section
variable (l : List UInt8) (w : World) (hl : l.length ≤ 4611686018427387904)
include hl
omit hl in
theorem q_cut_is (a b c E : Int) (R : List UInt8) (hC : ∀ w : World, Calls prog 82 #[.string ⟨l.toArray⟩, .func (.func 83) #[] #[.pointer (some ⟨w.heap.size, 0, none⟩), .pointer (some ⟨w.heap.size + 1, 0, none⟩)]] (ydL w) fun r w' =>
   r = .returned (.int .i64 E) ∧ Blk w' w.heap.size 62 #[.int .i64 a, .int .i64 b, .int .i64 c] ∧ Blk w' (w.heap.size + 1) 9 #[.string ⟨R.toArray⟩] ∧ Below w.heap.size w w') :
  Calls prog 45 #[.string ⟨l.toArray⟩] w fun r w' => r = .returned (.tuple #[.agg #[.int .i64 a, .int .i64 b, .int .i64 c], .string ⟨R.toArray⟩, .int .i64 E]) ∧ Below w.heap.size w w' := by
 have hmf : ∀ (fn : Fn) (first cap : Array Value) (w : World), (Instr.makeFunc fn first cap).run prog w = .ok (.func fn first cap) w := fun _ _ _ _ => rfl
 have Hc := hC w
 unfold ydL at Hc
 have HC := qaa Hc
 clear Hc hC
 go_enter func45, ntmps45
 go_wp2_with (first
  | (go_at_call 82; (with_reducible refine HC.out.mono ?_); rintro e w2 ⟨rfl, h1, h2, h3⟩; have c0 : w2.cell? ⟨w.heap.size, 0, none⟩ = some (.int .i64 a) := h1.cell 0; have c1 : w2.cell? ⟨w.heap.size, 1, none⟩ = some (.int .i64 b) := h1.cell 1; have c2 : w2.cell? ⟨w.heap.size, 2, none⟩ = some (.int .i64 c) := h1.cell 2; have c3 : w2.cell? ⟨w.heap.size + 1, 0, none⟩ = some (.string ⟨R.toArray⟩) := h2.cell 0; have z0 := h1.frozen 0; have z1 := h1.frozen 1; have z2 := h1.frozen 2; have z3 := h2.frozen 0; have H1 := qaa h1; have H2 := qaa h2; have H3 := qaa h3; clear h1 h2 h3))
 have hn : ¬ w.heap.size + 1 = w.heap.size := by omega
 have hn2 : ¬ w.heap.size = w.heap.size + 1 := by omega
 clear H1 H2 HC
 generalize hNN : w.heap.size = N at *
 have HN := qaa hNN
 clear hNN
 go_region
 have q0 : (((((w2.setCell ⟨N, 0, none⟩ (.int .i64 a)).setCell ⟨N, 1, none⟩ (.int .i64 b)).setCell ⟨N, 2, none⟩ (.int .i64 c)).setCell ⟨N + 1, 0, none⟩ (.string ⟨R.toArray⟩)).drew).cell? ⟨N, 0, none⟩ = some (.int .i64 a) := by go_simp
 have q1 : (((((w2.setCell ⟨N, 0, none⟩ (.int .i64 a)).setCell ⟨N, 1, none⟩ (.int .i64 b)).setCell ⟨N, 2, none⟩ (.int .i64 c)).setCell ⟨N + 1, 0, none⟩ (.string ⟨R.toArray⟩)).drew).cell? ⟨N, 1, none⟩ = some (.int .i64 b) := by go_simp
 have q2 : (((((w2.setCell ⟨N, 0, none⟩ (.int .i64 a)).setCell ⟨N, 1, none⟩ (.int .i64 b)).setCell ⟨N, 2, none⟩ (.int .i64 c)).setCell ⟨N + 1, 0, none⟩ (.string ⟨R.toArray⟩)).drew).cell? ⟨N, 2, none⟩ = some (.int .i64 c) := by go_simp
 have q3 : (((((w2.setCell ⟨N, 0, none⟩ (.int .i64 a)).setCell ⟨N, 1, none⟩ (.int .i64 b)).setCell ⟨N, 2, none⟩ (.int .i64 c)).setCell ⟨N + 1, 0, none⟩ (.string ⟨R.toArray⟩)).drew).cell? ⟨N + 1, 0, none⟩ = some (.string ⟨R.toArray⟩) := by go_simp
 have hE := ((((H3.out.setCell (qad _) (p := ⟨N, 0, none⟩) (.int .i64 a)).setCell (p := ⟨N, 1, none⟩) (qad _) (.int .i64 b)).setCell (p := ⟨N, 2, none⟩) (qad _) (.int .i64 c)).setCell (p := ⟨N + 1, 0, none⟩) (Nat.le_succ _) (.string ⟨R.toArray⟩)).drew
 generalize ((((w2.setCell ⟨N, 0, none⟩ (.int .i64 a)).setCell ⟨N, 1, none⟩ (.int .i64 b)).setCell ⟨N, 2, none⟩ (.int .i64 c)).setCell ⟨N + 1, 0, none⟩ (.string ⟨R.toArray⟩)).drew = X at q0 q1 q2 q3 hE ⊢
 go_wp2
 refine qbw (v := .tuple #[.agg #[.int .i64 a, .int .i64 b, .int .i64 c], .string ⟨R.toArray⟩, .int .i64 E]) (by simp [results, results45, go_sem, q0, q1, q2, q3]) rfl ⟨rfl, by rw [HN.out]; exact hE⟩
theorem q_cut_no (E : Int) (hE : E ≠ 0) (hq : (ybb l).2.2 = E) :
  Calls prog 45 #[.string ⟨l.toArray⟩] w fun r w' => r = .returned (.tuple #[.agg #[.int .i64 0, .int .i64 0, .int .i64 0], .string ⟨#[]⟩, .int .i64 E]) ∧ Below w.heap.size w w' :=
 q_cut_is l w 0 0 0 E [] fun w => q_take_cut l w hl 0 0 0 E [] hq (fun e => absurd e hE) (fun _ => ⟨rfl, rfl⟩)
theorem q_cut_yes (a b c p : Int) (hq : ybb l = ((a, b, c), p, 0)) :
  Calls prog 45 #[.string ⟨l.toArray⟩] w fun r w' => r = .returned (.tuple #[.agg #[.int .i64 a, .int .i64 b, .int .i64 c], .string ⟨(l.drop p.toNat).toArray⟩, .int .i64 0]) ∧ Below w.heap.size w w' :=
 q_cut_is l w a b c 0 _ fun w => q_take_cut l w hl a b c 0 _ (by rw [hq]) (fun _ => ⟨by rw [hq], by rw [hq]⟩) (fun h => absurd rfl h)
end
end Go.Proofs.YtanjhbkbpalnaaaGreat
