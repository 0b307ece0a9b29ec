/-
 What the law of the last of these texts stands on, part 35.
-/
import Derived.Test.YtanjhbkbpalnaaaGreatMc28
import Derived.Test.YtanjhbkbpalnaaaGreatMc31
set_option maxRecDepth 100000
set_option maxHeartbeats 8000000
open Go.Proofs.Tryz
namespace Go.Proofs.YtanjhbkbpalnaaaGreat
set_option linter.unusedSimpArgs false
set_option linter.unusedVariables false
open Go.ChangeShapes Go.WideShapes Go.ChangeAt Go.RowKit Go.Joins Go.Deep
def ocP (s : List UInt8) : Array Value := if oflt s 5 = 0 then opc (s.getD 0 0).toNat (ono s 0) (ono s 1) (ono s 2) (ono s 3) (ono s 4) (s.drop (opl s 5).toNat) else opc 0 0 0 0 0 0 []
theorem yhc (s : List UInt8) : ∃ m a b c d e T, ocP s = opc m a b c d e T ∧ 0 ≤ m ∧ (oflt s 5 = 0 → m = (s.getD 0 0).toNat ∧ a = ono s 0 ∧ b = ono s 1 ∧ c = ono s 2 ∧ d = ono s 3 ∧ e = ono s 4 ∧ T = s.drop (opl s 5).toNat) := by
 unfold ocP
 by_cases h : oflt s 5 = 0
 ·rw [qah h]
  exact ⟨_, _, _, _, _, _, _, rfl, by omega, fun _ => ⟨rfl, rfl, rfl, rfl, rfl, rfl, rfl⟩⟩
 ·rw [qag h]
  exact ⟨0, 0, 0, 0, 0, 0, [], rfl, by omega, fun e => absurd e h⟩
theorem o_take_cut (l : List UInt8) (w : World) (hl : l.length ≤ 4611686018427387904) :
  Calls prog 82 #[.string ⟨l.toArray⟩, .func (.func 97) #[] #[.pointer (some ⟨w.heap.size, 0, none⟩)]] (w.alloc (.cells (opc 0 0 0 0 0 0 []) 82)) fun r w' =>
   r = .returned (.int .i64 (oflt l 5)) ∧ Blk w' w.heap.size 82 (ocP l) ∧ Below w.heap.size w w' := by
 have hs : (w.alloc (.cells (opc 0 0 0 0 0 0 []) 82)).heap.size = w.heap.size + 1 := by rw [qay]
 have b1 : Blk (w.alloc (.cells (opc 0 0 0 0 0 0 []) 82)) w.heap.size 82 (opc 0 0 0 0 0 0 []) := Blk.new w _ _
 have hb : Below w.heap.size w (w.alloc (.cells (opc 0 0 0 0 0 0 []) 82)) := (qam _ _).alloc (qaf _) _
 generalize w.alloc (.cells (opc 0 0 0 0 0 0 []) 82) = W at *
 have b3 := Blk.new W 23 #[.int .i64 0]
 have b4 : Blk ((W.alloc (.cells #[.int .i64 0] 23)).alloc (.cells #[.string ⟨l.toArray⟩, .int .i64 0] 208)) (W.heap.size + 1) 208 #[.string ⟨l.toArray⟩, .int .i64 0] := by
  have := Blk.new (W.alloc (.cells #[.int .i64 0] 23)) 208 #[.string ⟨l.toArray⟩, .int .i64 0]
  rwa [qay] at this
 refine (p_ptake 97 #[.pointer (some ⟨w.heap.size, 0, none⟩)] ⟨l.toArray⟩ (oflt l 5) W
  (fun w1 => Blk w1 w.heap.size 82 (ocP l) ∧ Below w.heap.size w w1) (pt_enters func97 (by kernel_rfl) rfl) ?_).mono ?_
 ·have hb2 : Below w.heap.size w ((W.alloc (.cells #[.int .i64 0] 23)).alloc (.cells #[.string ⟨l.toArray⟩, .int .i64 0] 208)) := (hb.alloc (by omega) _).alloc (by rw [qay]; omega) _
  have hs2 : w.heap.size ≤ ((W.alloc (.cells #[.int .i64 0] 23)).alloc (.cells #[.string ⟨l.toArray⟩, .int .i64 0] 208)).heap.size := hb2.size
  refine (o_took l _ w.heap.size (W.heap.size + 1) hl (by omega) ((b1.alloc _).alloc _) b4).mono ?_
  rintro r w' ⟨h1, h2, h3⟩
  unfold ocP
  by_cases hE : oflt l 5 = 0
  ·obtain ⟨k1, k3⟩ := h2 hE
   rw [qah hE]
   exact ⟨h1, (b3.alloc _).touch k3 (by omega), k1, hb2.trans (k3.below (fun k _ e => by omega) hs2)⟩
  ·rw [qag hE]
   have k3 := h3 hE
   exact ⟨h1, (b3.alloc _).touch k3 (by omega), ((b1.alloc _).alloc _).touch k3 (by omega), hb2.trans (k3.below (fun k _ e => by omega) hs2)⟩
 ·rintro r w' ⟨rfl, w1, ⟨h1, h2⟩, rfl⟩
  exact ⟨rfl, h1.far (by show w.heap.size ≠ W.heap.size; omega) _, h2.setCell (p := ⟨W.heap.size, 0, none⟩) (by show w.heap.size ≤ W.heap.size; omega) _⟩
theorem opeek_is (s : List UInt8) (h : oflt s 5 = 0) : (yaw s).2 = ochF (s.getD 0 0).toNat (ono s 0) (ono s 1) (ono s 2) (ono s 3) (ono s 4) := by
 unfold yaw ochF ook
 rw [qag (by omega)]
 by_cases h2 : (s.getD 0 0).toNat < 2 ∧ ono s 0 ≤ 20000 ∧ 1 ≤ ono s 1 ∧ ono s 1 ≤ ono s 0 ∧ 1 ≤ ono s 2 ∧ ono s 1 + ono s 2 ≤ 1000000001 ∧ ono s 3 + ono s 4 ≤ 1000000000
 ·rw [qah (qaP h2), qah (by omega)]
 ·rw [qag (by rw [qbv h2]; decide), qag (by omega)]
theorem yfg (s : List UInt8) (w : World) (hs : s.length ≤ 1000000) :
  Calls prog 51 #[.string ⟨s.toArray⟩] w fun r w' => r = .returned (.tuple #[.agg (ocP s), .int .i64 (yaw s).2]) ∧ Below w.heap.size w w' := by
 have hmf : ∀ (fn : Fn) (first cap : Array Value) (w : World), (Instr.makeFunc fn first cap).run prog w = .ok (.func fn first cap) w := fun _ _ _ _ => rfl
 have hc := o_take_cut s w (by omega)
 obtain ⟨m, a, b, c, d, e, T, hP, hm, hm2⟩ := yhc s
 rw [hP] at hc ⊢
 have Hc := qaa hc
 clear hc hP
 have END : ∀ (E : Int) (W2 : World), Blk W2 w.heap.size 82 (opc m a b c d e T) → Below w.heap.size w W2 → ∀ X, ((((((W2.setCell ⟨w.heap.size, 0, none⟩ (.int .i64 m)).setCell ⟨w.heap.size, 1, none⟩ (.int .i64 a)).setCell ⟨w.heap.size, 2, none⟩ (.int .i64 b)).setCell ⟨w.heap.size, 3, none⟩ (.int .i64 c)).setCell ⟨w.heap.size, 4, none⟩ (.int .i64 d)).setCell ⟨w.heap.size, 5, none⟩ (.int .i64 e)).setCell ⟨w.heap.size, 6, none⟩ (.string ⟨T.toArray⟩) = X → Blk X w.heap.size 82 (opc m a b c d e T) ∧ Below w.heap.size w X := fun E W2 h1 h2 X hX => by
  obtain ⟨y1, y2⟩ := oset7 h1 hX
  exact ⟨y1, h2.trans (y2.below (fun k _ e => by omega) h2.size)⟩
 have HEND := qaa END
 clear END
 by_cases hE : oflt s 5 = 0
 ·obtain ⟨m1, m2, m3, m4, m5, m6, m7⟩ := hm2 hE
  have h3 := (ono_at (s := s) (k := 3) ((ydA hE).2 3 (by omega)))
  have h1 := (ono_at (s := s) (k := 1) ((ydA hE).2 1 (by omega)))
  have hch := qaa fun W => p_ocheck_any m a b c d e T W hm (by rw [m3]; exact ⟨h1.1, h1.2.1⟩) (by rw [m5]; exact ⟨h3.1, h3.2.1⟩)
  have hpe := opeek_is s hE
  rw [← m1, ← m2, ← m3, ← m4, ← m5, ← m6] at hpe
  rw [← hpe] at hch
  rw [hE] at Hc
  clear hm hm2 hE m1 m2 m3 m4 m5 m6 m7 h1 h3 hpe
  generalize (yaw s).2 = E at *
  go_enter func51, ntmps51
  go_wp2_with (first
   | (go_at_call 82; (with_reducible refine Hc.out.mono ?_); rintro r w2 ⟨rfl, h1, h2⟩; have HB := qaa h1; have HW := qaa h2; have c0 := (h1).cell 0; have z0 := (h1).frozen 0; have c1 := (h1).cell 1; have z1 := (h1).frozen 1; have c2 := (h1).cell 2; have z2 := (h1).frozen 2; have c3 := (h1).cell 3; have z3 := (h1).frozen 3; have c4 := (h1).cell 4; have z4 := (h1).frozen 4; have c5 := (h1).cell 5; have z5 := (h1).frozen 5; have c6 := (h1).cell 6; have z6 := (h1).frozen 6; simp only [qan, qa0, qaw] at c0 c1 c2 c3 c4 c5 c6; clear h1 h2)
   | (go_at_call 99; (with_reducible refine (hch.out _).mono ?_); rintro r w3 ⟨rfl, hb⟩; replace HW := qaa (HW.out.trans (hb.mono HW.out.size)); replace HB := qaa (HB.out.below hb HB.out.lt); clear hb; have c0 := (HB.out).cell 0; have z0 := (HB.out).frozen 0; have c1 := (HB.out).cell 1; have z1 := (HB.out).frozen 1; have c2 := (HB.out).cell 2; have z2 := (HB.out).frozen 2; have c3 := (HB.out).cell 3; have z3 := (HB.out).frozen 3; have c4 := (HB.out).cell 4; have z4 := (HB.out).frozen 4; have c5 := (HB.out).cell 5; have z5 := (HB.out).frozen 5; have c6 := (HB.out).cell 6; have z6 := (HB.out).frozen 6; simp only [qan, qa0, qaw] at c0 c1 c2 c3 c4 c5 c6))
  generalize hX : ((((((w3.setCell ⟨w.heap.size, 0, none⟩ (.int .i64 m)).setCell ⟨w.heap.size, 1, none⟩ (.int .i64 a)).setCell ⟨w.heap.size, 2, none⟩ (.int .i64 b)).setCell ⟨w.heap.size, 3, none⟩ (.int .i64 c)).setCell ⟨w.heap.size, 4, none⟩ (.int .i64 d)).setCell ⟨w.heap.size, 5, none⟩ (.int .i64 e)).setCell ⟨w.heap.size, 6, none⟩ (.string ⟨T.toArray⟩) = X
  obtain ⟨y1, y2⟩ := HEND.out E w3 HB.out HW.out X hX
  have x0 := y1.cell 0
  have x1 := y1.cell 1
  have x2 := y1.cell 2
  have x3 := y1.cell 3
  have x4 := y1.cell 4
  have x5 := y1.cell 5
  have x6 := y1.cell 6
  simp only [qan, qa0, qaw] at x0 x1 x2 x3 x4 x5 x6
  refine qaN (v := .tuple #[.agg (opc m a b c d e T), .int .i64 E]) (by simp [results, results51, go_sem, x0, x1, x2, x3, x4, x5, x6]) rfl ⟨rfl, y2⟩
 ·have hpe : (yaw s).2 = oflt s 5 := by unfold yaw; rw [qah hE]
  rw [hpe]
  clear hm hm2 hpe
  generalize oflt s 5 = E at *
  go_enter func51, ntmps51
  go_wp2_with (go_at_call 82; (with_reducible refine Hc.out.mono ?_); rintro r w3 ⟨rfl, h1, h2⟩; have HB := qaa h1; have HW := qaa h2; have c0 := (h1).cell 0; have z0 := (h1).frozen 0; have c1 := (h1).cell 1; have z1 := (h1).frozen 1; have c2 := (h1).cell 2; have z2 := (h1).frozen 2; have c3 := (h1).cell 3; have z3 := (h1).frozen 3; have c4 := (h1).cell 4; have z4 := (h1).frozen 4; have c5 := (h1).cell 5; have z5 := (h1).frozen 5; have c6 := (h1).cell 6; have z6 := (h1).frozen 6; simp only [qan, qa0, qaw] at c0 c1 c2 c3 c4 c5 c6; clear h1 h2)
  generalize hX : ((((((w3.setCell ⟨w.heap.size, 0, none⟩ (.int .i64 m)).setCell ⟨w.heap.size, 1, none⟩ (.int .i64 a)).setCell ⟨w.heap.size, 2, none⟩ (.int .i64 b)).setCell ⟨w.heap.size, 3, none⟩ (.int .i64 c)).setCell ⟨w.heap.size, 4, none⟩ (.int .i64 d)).setCell ⟨w.heap.size, 5, none⟩ (.int .i64 e)).setCell ⟨w.heap.size, 6, none⟩ (.string ⟨T.toArray⟩) = X
  obtain ⟨y1, y2⟩ := HEND.out E w3 HB.out HW.out X hX
  have x0 := y1.cell 0
  have x1 := y1.cell 1
  have x2 := y1.cell 2
  have x3 := y1.cell 3
  have x4 := y1.cell 4
  have x5 := y1.cell 5
  have x6 := y1.cell 6
  simp only [qan, qa0, qaw] at x0 x1 x2 x3 x4 x5 x6
  refine qaN (v := .tuple #[.agg (opc m a b c d e T), .int .i64 E]) (by simp [results, results51, go_sem, x0, x1, x2, x3, x4, x5, x6]) rfl ⟨rfl, y2⟩
end Go.Proofs.YtanjhbkbpalnaaaGreat
