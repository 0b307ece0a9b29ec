/-
 What the law of the last of these texts stands on, part 20.
-/
import Derived.Test.YtanjhbkbpalnaaaGreatMc13
import Derived.Outline
import Derived.Deep.WholeRow
import Derived.Deep.MidRow
set_option maxRecDepth 100000
set_option maxHeartbeats 8000000
open Go.Proofs.Tryz
namespace Go.Proofs.YtanjhbkbpalnaaaGreat
set_option linter.unusedSimpArgs false
set_option linter.unusedVariables false
open Go.ChangeShapes Go.WideShapes Go.ChangeAt Go.RowKit Go.Joins Go.Deep
theorem rchk_no {r : Rc} (h : ¬ rmay r = true) : rchk r = 150 ∧ rputF r = ([], 150) := ⟨qag h, qag h⟩
theorem yeq {r : Rc} (h : rmay r = true) : rchk r = 0 ∧ rputF r = (rB r, 0) := ⟨qah h, qah h⟩
theorem ydX (n lo hi : Int) (r : Bool) (hr : decide (lo ≤ n ∧ n ≤ hi) = r) (w : World) : Calls prog 142 #[.int .i64 n, .int .i64 lo, .int .i64 hi] w fun e w' => e = .returned (.bool r) ∧ w = w' := by
 subst hr
 by_cases h1 : lo ≤ n
 ·by_cases h2 : n ≤ hi
  ·rw [qaP (show lo ≤ n ∧ n ≤ hi from ⟨h1, h2⟩)]
   go_enter func142, ntmps142
   go_wp2
   go_ret
   exact ⟨rfl, rfl⟩
  ·rw [qbv (show ¬ (lo ≤ n ∧ n ≤ hi) from fun h => h2 h.2)]
   go_enter func142, ntmps142
   go_wp2
   go_ret
   exact ⟨rfl, rfl⟩
 ·rw [qbv (show ¬ (lo ≤ n ∧ n ≤ hi) from fun h => h1 h.1)]
  go_enter func142, ntmps142
  go_wp2
  go_ret
  exact ⟨rfl, rfl⟩
def rh3 (x y n : Int) : Int := if 1 ≤ x ∧ x ≤ 1000000000 ∧ 0 ≤ y ∧ y ≤ 1000000000 ∧ 0 ≤ n ∧ n ≤ 2000 then 0 else 150
theorem rh3_chk (x y : Int) (d : List UInt8) : rh3 x y (d.length : Int) = rchk (x, y, d) := by
 unfold rh3 rchk
 by_cases h : rmay (x, y, d) = true
 ·rw [qah h]
  have := (ybc _).1 h
  dsimp only at this
  rw [qah (by omega)]
 ·rw [qag h, qag]
  intro g
  exact h ((ybc _).2 (by dsimp only; omega))
theorem yfi (x y n : Int) (w : World) : Calls prog 101 #[.agg #[.int .i64 x, .int .i64 y, .int .i64 n]] w fun e w' => e = .returned (.int .i64 (rh3 x y n)) ∧ Below w.heap.size w w' := by
 have c1 := fun r hr W => ydX x 1 1000000000 r hr W
 have c2 := fun r hr W => ydX y 0 1000000000 r hr W
 have c3 := fun r hr W => ydX n 0 2000 r hr W
 by_cases h1 : 1 ≤ x ∧ x ≤ 1000000000
 ·by_cases h2 : 0 ≤ y ∧ y ≤ 1000000000
  ·by_cases h3 : 0 ≤ n ∧ n ≤ 2000
   ·have hF := qaa (show rh3 x y n = 0 from qah ⟨h1.1, h1.2, h2.1, h2.2, h3.1, h3.2⟩)
    replace c1 := qaa (c1 true (qaP h1))
    replace c2 := qaa (c2 true (qaP h2))
    replace c3 := qaa (c3 true (qaP h3))
    clear h1 h2 h3
    go_enter func101, ntmps101
    go_wp2_with (first
     | (go_at_call 142; (with_reducible refine (c1.out _).mono ?_); rintro e w1 ⟨rfl, rfl⟩; clear c1)
     | (go_at_call 142; (with_reducible refine (c2.out _).mono ?_); rintro e w1 ⟨rfl, rfl⟩; clear c2)
     | (go_at_call 142; (with_reducible refine (c3.out _).mono ?_); rintro e w1 ⟨rfl, rfl⟩; clear c3))
    go_ret
    exact ⟨by rw [hF.out]; rfl, by go_grown⟩
   ·have hF := qaa (show rh3 x y n = 150 from qag fun h => h3 ⟨h.2.2.2.2.1, h.2.2.2.2.2⟩)
    replace c1 := qaa (c1 true (qaP h1))
    replace c2 := qaa (c2 true (qaP h2))
    replace c3 := qaa (c3 false (qbv h3))
    clear h1 h2 h3
    go_enter func101, ntmps101
    go_wp2_with (first
     | (go_at_call 142; (with_reducible refine (c1.out _).mono ?_); rintro e w1 ⟨rfl, rfl⟩; clear c1)
     | (go_at_call 142; (with_reducible refine (c2.out _).mono ?_); rintro e w1 ⟨rfl, rfl⟩; clear c2)
     | (go_at_call 142; (with_reducible refine (c3.out _).mono ?_); rintro e w1 ⟨rfl, rfl⟩; clear c3))
    go_ret
    exact ⟨by rw [hF.out]; rfl, by go_grown⟩
  ·have hF := qaa (show rh3 x y n = 150 from qag fun h => h2 ⟨h.2.2.1, h.2.2.2.1⟩)
   replace c1 := qaa (c1 true (qaP h1))
   replace c2 := qaa (c2 false (qbv h2))
   clear h1 h2 c3
   go_enter func101, ntmps101
   go_wp2_with (first
    | (go_at_call 142; (with_reducible refine (c1.out _).mono ?_); rintro e w1 ⟨rfl, rfl⟩; clear c1)
    | (go_at_call 142; (with_reducible refine (c2.out _).mono ?_); rintro e w1 ⟨rfl, rfl⟩; clear c2))
   go_ret
   exact ⟨by rw [hF.out]; rfl, by go_grown⟩
 ·have hF := qaa (show rh3 x y n = 150 from qag fun h => h1 ⟨h.1, h.2.1⟩)
  replace c1 := qaa (c1 false (qbv h1))
  clear h1 c2 c3
  go_enter func101, ntmps101
  go_wp2_with (go_at_call 142; (with_reducible refine (c1.out _).mono ?_); rintro e w1 ⟨rfl, rfl⟩; clear c1)
  go_ret
  exact ⟨by rw [hF.out]; rfl, by go_grown⟩
theorem ycY (x y : Int) (d : List UInt8) (w : World) : Calls prog 58 #[.agg #[.int .i64 x, .int .i64 y, .string ⟨d.toArray⟩]] w fun e w' => e = .returned (.agg #[.int .i64 x, .int .i64 y, .int .i64 (d.length : Int)]) ∧ Below w.heap.size w w' := by
 go_enter func58, ntmps58
 go_wp2
 refine qaN (v := .agg #[.int .i64 x, .int .i64 y, .int .i64 (d.length : Int)]) (by simp [results, results58, go_sem]) rfl ⟨rfl, by go_grown⟩
theorem yfj (x y : Int) (d : List UInt8) (w : World) : Calls prog 57 #[.agg #[.int .i64 x, .int .i64 y, .string ⟨d.toArray⟩]] w fun e w' => e = .returned (.int .i64 (rchk (x, y, d))) ∧ Below w.heap.size w w' := by
 have HB0 := qaa ((qam w.heap.size w).alloc (qaf _) (.cells #[.int .i64 x, .int .i64 y, .string ⟨d.toArray⟩] 54))
 have c1 := qaa fun W => ycY x y d W
 have c2 := qaa fun W => yfi x y (d.length : Int) W
 rw [rh3_chk] at c2
 generalize rchk (x, y, d) = E at *
 go_enter func57, ntmps57
 go_wp2_with (first
  | (go_at_call 58; (with_reducible refine (c1.out _).mono ?_); rintro e w1 ⟨rfl, hb1⟩; have HB1 := qaa (HB0.out.trans (hb1.mono HB0.out.size)); clear hb1 c1)
  | (go_at_call 101; (with_reducible refine (c2.out _).mono ?_); rintro e w2 ⟨rfl, hb2⟩; have HB2 := qaa (HB1.out.trans (hb2.mono HB1.out.size)); clear hb2 c2))
 go_ret
 exact ⟨rfl, HB2.out⟩
section
variable {P : Program}
theorem ybV {ops : Array Oper} {rest : List Oper} {op : Oper} {a : Act} {w : World} {Q : Exit → Act → World → Prop} (hgd : op.guard = none) (ty : TypeId) (x y : Operand) (ho : op.op = .store ty x y)
  (g : Nat) (t : TypeId) (old cells : Array Value) (hx : a.eval x = .pointer (some ⟨g, 0, none⟩)) (hy : a.eval y = .agg cells)
  (hg : w.heap[g]? = some (.cells old t (0, 0))) (hi : (P.info? ty).map (·.size) = some cells.size) (hs : old.size = cells.size) (h1 : cells.all (·.oneCell') = true)
  (h : wpList P ops Q rest (a.put op.dst undef) (w.setRow g cells)) : wpList P ops Q (op :: rest) a w :=
 wpList_plain hgd fun _ hK => by
  unfold Oper.wp execOp
  simp only [ho, hx, hy, Instr.storeAt, Instr.sureAddr, Sem.run_bind, Sem.run_pure, Result.andThen_ok, run_storeVar_row w g t ty old cells hg hi hs h1]
  exact hK _ _ h
theorem yfx (w : World) (t e : TypeId) (n : Nat) (ht : P.underlying t = some (.array n e)) (he : P.underlying e = some (.int .i64)) (hsz : ∀ w, (sizeOf e).run P w = .ok 1 w) (C : List Value) (k : Nat) (hk : k < n) (x : Int) (hx : C[k]? = some (.int .i64 x)) :
  (Instr.index t (.agg C.toArray) (.int .i64 (k : Int))).run P w = .ok (.int .i64 x) w := by
 have hn : 0 ≤ (k : Int) ∧ (k : Int) < (n : Int) := by omega
 simp [Instr.index, qbe ht, asIntOf, hn, hsz, part, isAgg, qbe he, hx, go_sem]
 intro h
 omega
end
theorem ygi (w : World) (o : Obj) (C : List Value) (t : TypeId) : ((w.alloc o).alloc (.cells C.toArray t)).rangeAt (w.heap.size + 1) 0 C := by
 intro j v hv
 have h : ((w.alloc o).alloc (.cells C.toArray t)).cell? ⟨(w.alloc o).heap.size, 0 + j, none⟩ = some v := by
  rw [World.cell?_alloc_new, qaL]
  simpa using hv
 rwa [show (w.alloc o).heap.size = w.heap.size + 1 from by simp] at h
def bcv (l : List UInt8) (k : Nat) : List Int := (List.range 256).map fun b => (((l.take k).countP fun x => decide (x.toNat = b) : Nat) : Int)
theorem yg1 (l : List UInt8) (k : Nat) : (bcv l k).length = 256 := by simp [bcv]
theorem bcv_zero (l : List UInt8) : bcv l 0 = List.replicate 256 0 := by
 unfold bcv
 apply qbg
 ·rw [qaM, qaC, qaE]
 ·intro i h1 h2
  rw [qaY, qbp, qcf, qbb]
  rfl
theorem bcv_get (l : List UInt8) (k b : Nat) (h : b < (bcv l k).length) : (bcv l k)[b] = (((l.take k).countP fun x => decide (x.toNat = b) : Nat) : Int) := by simp [bcv]
theorem bcv_le (l : List UInt8) (k b : Nat) : (l.take k).countP (fun x => decide (x.toNat = b)) ≤ l.length := by
 have := List.countP_le_length (p := fun x : UInt8 => decide (x.toNat = b)) (l := l.take k)
 rw [qao] at this
 omega
theorem bcv_set (l : List UInt8) (k : Nat) (hk : k < l.length) : (bcv l k).set l[k].toNat ((((l.take k).countP fun x => decide (x.toNat = l[k].toNat) : Nat) : Int) + 1) = bcv l (k + 1) := by
 apply qbg
 ·rw [qbM, yg1, yg1]
 ·intro i h1 h2
  rw [qcq, bcv_get, bcv_get, qap hk, qbK, List.countP_singleton]
  by_cases e : l[k].toNat = i
  ·rw [qah e, qah (qaP e), e]
   omega
  ·rw [qag e, qag (by simpa using e)]
   rfl
theorem zero_ints256 : (∀ w, (zeroValue 235).run prog w = .ok (.agg (ints (List.replicate 256 0)).toArray) w) ∧ (prog.info? 235).map (·.size) = some 256 := zero_of_info (by kernel_rfl)
theorem ints_one13 (l : List Int) : (ints l).toArray.all (·.oneCell') = true := by
 rw [Array.all_eq_true_iff_forall_mem]
 intro v hv
 simp only [List.mem_toArray, ints, qbI] at hv
 obtain ⟨c, _, rfl⟩ := hv
 rfl
end Go.Proofs.YtanjhbkbpalnaaaGreat
