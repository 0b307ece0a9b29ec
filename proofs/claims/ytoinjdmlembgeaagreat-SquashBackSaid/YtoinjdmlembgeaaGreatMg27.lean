/-
 What the law of the last of these texts stands on, part 27.
-/
import Derived.Test.YtoinjdmlembgeaaGreatMg21
import Derived.Deep.WholeRow
import Derived.Deep.MidRow
namespace Go.Proofs.YtoinjdmlembgeaaGreat
set_option linter.unusedSimpArgs false
set_option linter.unusedVariables false
open Go.ChangeShapes Go.WideShapes Go.ChangeAt Go.RowKit Go.Joins Go.Deep
section
variable {P : Program}
theorem ych {ops : Array Oper} {rest : List Oper} {op : Oper} {a : Act} {w : World} {Q : Exit → Act → World → Prop} (hgd : op.guard = none) (ty : TypeId) (x y : Operand) (ho : op.op = .store ty x y)
  (g : Nat) (t : TypeId) (old cells : Array Value) (hx : a.eval x = .pointer (some ⟨g, 0, none⟩)) (hy : a.eval y = .agg cells)
  (hg : w.heap[g]? = some (.cells old t (0, 0))) (hi : (P.info? ty).map (·.size) = some cells.size) (hs : old.size = cells.size) (h1 : cells.all (·.oneCell') = true)
  (h : wpList P ops Q rest (a.put op.dst undef) (w.setRow g cells)) : wpList P ops Q (op :: rest) a w :=
 wpList_plain hgd fun _ hK => by
  unfold Oper.wp execOp
  simp only [ho, hx, hy, Instr.storeAt, Instr.sureAddr, Sem.run_bind, Sem.run_pure, Result.andThen_ok, run_storeVar_row w g t ty old cells hg hi hs h1]
  exact hK _ _ h
theorem ycY (w : World) (t e : TypeId) (n : Nat) (ht : P.underlying t = some (.array n e)) (he : P.underlying e = some (.int .i64)) (hsz : ∀ w, (sizeOf e).run P w = .ok 1 w) (C : List Value) (k : Nat) (hk : k < n) (x : Int) (hx : C[k]? = some (.int .i64 x)) :
  (Instr.index t (.agg C.toArray) (.int .i64 (k : Int))).run P w = .ok (.int .i64 x) w := by
 have hn : 0 ≤ (k : Int) ∧ (k : Int) < (n : Int) := by omega
 simp [Instr.index, run_underlying ht, asIntOf, hn, hsz, part, isAgg, run_underlying he, hx, go_sem]
 intro h
 omega
end
theorem ygH (w : World) (o : Obj) (C : List Value) (t : TypeId) : ((w.alloc o).alloc (.cells C.toArray t)).rangeAt (w.heap.size + 1) 0 C := by
 intro j v hv
 have h : ((w.alloc o).alloc (.cells C.toArray t)).cell? ⟨(w.alloc o).heap.size, 0 + j, none⟩ = some v := by
  rw [World.cell?_alloc_new, Nat.zero_add]
  simpa using hv
 rwa [show (w.alloc o).heap.size = w.heap.size + 1 from by simp] at h
def bcv (l : List UInt8) (k : Nat) : List Int := (List.range 256).map fun b => (((l.take k).countP fun x => decide (x.toNat = b) : Nat) : Int)
theorem yht (l : List UInt8) (k : Nat) : (bcv l k).length = 256 := by simp [bcv]
theorem bcv_zero (l : List UInt8) : bcv l 0 = List.replicate 256 0 := by
 unfold bcv
 apply List.ext_getElem
 ·rw [List.length_map, List.length_range, List.length_replicate]
 ·intro i h1 h2
  rw [List.getElem_map, List.getElem_range, List.getElem_replicate, List.take_zero]
  rfl
theorem bcv_get (l : List UInt8) (k b : Nat) (h : b < (bcv l k).length) : (bcv l k)[b] = (((l.take k).countP fun x => decide (x.toNat = b) : Nat) : Int) := by simp [bcv]
theorem bcv_le (l : List UInt8) (k b : Nat) : (l.take k).countP (fun x => decide (x.toNat = b)) ≤ l.length := by
 have := List.countP_le_length (p := fun x : UInt8 => decide (x.toNat = b)) (l := l.take k)
 rw [List.length_take] at this
 omega
theorem bcv_set (l : List UInt8) (k : Nat) (hk : k < l.length) : (bcv l k).set l[k].toNat ((((l.take k).countP fun x => decide (x.toNat = l[k].toNat) : Nat) : Int) + 1) = bcv l (k + 1) := by
 apply List.ext_getElem
 ·rw [List.length_set, yht, yht]
 ·intro i h1 h2
  rw [List.getElem_set, bcv_get, bcv_get, List.take_succ_eq_append_getElem hk, List.countP_append, List.countP_singleton]
  by_cases e : l[k].toNat = i
  ·rw [if_pos e, if_pos (decide_eq_true e), e]
   omega
  ·rw [if_neg e, if_neg (by simpa using e)]
   rfl
theorem zero_ints256 : (∀ w, (zeroValue 189).run Tryz.prog w = .ok (.agg (ints (List.replicate 256 0)).toArray) w) ∧ (Tryz.prog.info? 189).map (·.size) = some 256 := zero_of_info (by kernel_rfl)
theorem ints_one13 (l : List Int) : (ints l).toArray.all (·.oneCell') = true := by
 rw [Array.all_eq_true_iff_forall_mem]
 intro v hv
 simp only [List.mem_toArray, ints, List.mem_map] at hv
 obtain ⟨c, _, rfl⟩ := hv
 rfl
end Go.Proofs.YtoinjdmlembgeaaGreat
