/-
  Layer 5: the tables, the program's and the document's.
-/
import Derived.Test.YtodllghfcdbbpaaCrcR
import Derived.Deep.WholeRow
import Derived.Laws.CopyOwn
namespace Go.Proofs.Ytodllghfcdbbpaa
set_option linter.unusedSimpArgs false
set_option linter.unusedVariables false
open Go.ChangeShapes Go.WideShapes Go.ChangeAt Go.RowKit Go.Joins Go.Deep
section
variable {P : Program}
theorem wpList_store_row {ops : Array Oper} {rest : List Oper} {op : Oper} {a : Act} {w : World} {Q : Exit → Act → World → Prop} (hgd : op.guard = none) (ty : TypeId) (x y : Operand) (ho : op.op = .store ty x y)
    (g : Nat) (t : TypeId) (old cells : Array Value) (hx : a.eval x = .pointer (some ⟨g, 0, none⟩)) (hy : a.eval y = .agg cells)
    (hg : w.heap[g]? = some (.cells old t (0, 0))) (hi : (P.info? ty).map (·.size) = some cells.size) (hs : old.size = cells.size) (h1 : cells.all (·.oneCell') = true)
    (h : wpList P ops Q rest (a.put op.dst undef) (w.setRow g cells)) : wpList P ops Q (op :: rest) a w :=
  wpList_plain hgd fun _ hK => by
    unfold Oper.wp execOp
    simp only [ho, hx, hy, Instr.storeAt, Instr.sureAddr, Sem.run_bind, Sem.run_pure, Result.andThen_ok, run_storeVar_row w g t ty old cells hg hi hs h1]
    exact hK _ _ h
theorem wpList_store_new {ops : Array Oper} {rest : List Oper} {op : Oper} {a : Act} {w : World} {Q : Exit → Act → World → Prop} (hgd : op.guard = none) (ty : TypeId) (x y : Operand) (ho : op.op = .store ty x y)
    (t : TypeId) (old cells : Array Value) (hx : a.eval x = .pointer (some ⟨w.heap.size, 0, none⟩)) (hy : a.eval y = .agg cells)
    (hi : (P.info? ty).map (·.size) = some cells.size) (hs : old.size = cells.size) (h1 : cells.all (·.oneCell') = true)
    (h : wpList P ops Q rest (a.put op.dst undef) (w.alloc (.cells cells t))) : wpList P ops Q (op :: rest) a (w.alloc (.cells old t)) := by
  refine wpList_store_row hgd ty x y ho w.heap.size t old cells hx hy (heap_alloc_new w _) hi hs h1 ?_
  rw [World.setRow_alloc_new]
  exact h
end
theorem tab_one (T : List (BitVec 32)) : (tab T).toArray.all (·.oneCell') = true := by
  rw [Array.all_eq_true_iff_forall_mem]
  intro v hv
  simp only [List.mem_toArray, tab, List.mem_map] at hv
  obtain ⟨c, _, rfl⟩ := hv
  rfl
theorem range_two (w : World) (o : Obj) (C : List Value) (t : TypeId) : ((w.alloc o).alloc (.cells C.toArray t)).rangeAt (w.heap.size + 1) 0 C := by
  have h := range_new (w.alloc o) C t
  rwa [show (w.alloc o).heap.size = w.heap.size + 1 from by simp] at h
def ents (k : Nat) : List (BitVec 32) := (List.range 256).map fun i => if i < k then entry (BitVec.ofNat 32 i) else 0#32
def T0 : List (BitVec 32) := ents 256
theorem ents_len (k : Nat) : (ents k).length = 256 := by simp [ents]
theorem T0_len : T0.length = 256 := ents_len 256
theorem ents_get (k i : Nat) (h : i < 256) : (ents k)[i]? = some (if i < k then entry (BitVec.ofNat 32 i) else 0#32) := by simp [ents, h]
theorem ents_set (k : Nat) : (ents k).set k (entry (BitVec.ofNat 32 k)) = ents (k + 1) := by
  apply List.ext_getElem?
  intro i
  by_cases hi : i < 256
  · rw [List.getElem?_set, ents_get _ _ hi]
    by_cases e : k = i
    · subst e
      rw [if_pos rfl, if_pos (by rw [ents_len]; exact hi), ents_get _ _ hi, if_pos (by omega)]
    · rw [if_neg e, ents_get _ _ hi]
      by_cases h1 : i < k
      · rw [if_pos h1, if_pos (by omega)]
      · rw [if_neg h1, if_neg (by omega)]
  · rw [List.getElem?_eq_none (by rw [List.length_set, ents_len]; omega), List.getElem?_eq_none (by rw [ents_len]; omega)]
theorem tab_set (T : List (BitVec 32)) (k : Nat) (c : BitVec 32) : (tab T).set k (.int .u32 (c.toNat : Int)) = tab (T.set k c) := by
  simp [tab, List.map_set]
theorem zero_tab : (∀ w, (zeroValue 49).run Try.prog w = .ok (.agg (tab (ents 0)).toArray) w) ∧ (Try.prog.info? 49).map (·.size) = some 256 := zero_of_info (by kernel_rfl)
set_option maxRecDepth 100000 in
set_option maxHeartbeats 400000 in
theorem refTable_any (w : World) : Calls Try.prog 23 #[] w fun e w' => e = .returned (.agg (tab T0).toArray) ∧ Below w.heap.size w w' := by
  have hz := zero_tab.1
  have Hset := Lib.hid fun k => (tab_set (ents k) k (entry (BitVec.ofNat 32 k))).trans (congrArg tab (ents_set k))
  have Hlen : Hid (∀ k, (tab (ents k)).length = 256) := Lib.hid fun k => by rw [tab_length, ents_len]
  have Hget : Hid (∀ k, k < 256 → ∃ v, (tab (ents k))[k]? = some v) := Lib.hid fun k hk => ⟨_, List.getElem?_eq_getElem (by rw [tab_length, ents_len]; exact hk)⟩
  have Hone : Hid (∀ k, (tab (ents k)).toArray.all (·.oneCell') = true) := Lib.hid fun k => tab_one _
  unfold T0
  generalize hf : (fun k => tab (ents k)) = f at *
  have hf' : ∀ k, tab (ents k) = f k := fun k => by rw [← hf]
  simp only [hf'] at *
  clear hf' hf
  generalize hZ : f 0 = Z at *
  have HZ := Lib.hid hZ
  clear hZ
  generalize hD : f 256 = D at *
  have HD := Lib.hid hD
  clear hD
  go_enter Try.func23, Try.ntmps23
  go_wp2
  go_loopw [2] (fun i wr => ∃ k : Nat, k ≤ 256 ∧ i = .int .i64 k ∧ Hid (wr = (w.alloc (.cells Z.toArray 49)).alloc (.cells (f k).toArray 49))) (fun i _ => 256 - (intOf i).toNat)
  case atStart => exact ⟨0, by omega, rfl, Lib.hid (by rw [HZ.out])⟩
  case round =>
    obtain ⟨k, hk, rfl, Hw⟩ := hrel
    obtain rfl := Hw.out
    by_cases hlt : k < 256
    · have hki : (0 : Int) ≤ (k : Int) ∧ (k : Int) < 256 := by omega
      obtain ⟨v, hv⟩ := Hget.out k hlt
      have hen := refEntry_any (BitVec.ofNat 32 k)
      have Hs := Lib.hid (Hset.out k)
      have ek : ((BitVec.ofNat 32 k).toNat : Int) = (k : Int) := by rw [BitVec.toNat_ofNat]; omega
      rw [ek] at hen
      have Hen := Lib.hid hen
      clear hen ek hlt Hw
      generalize entry (BitVec.ofNat 32 k) = ev at *
      go_wp2_with (go_at_call 31; refine (Hen.out _).mono ?_; rintro e w1 ⟨rfl, rfl⟩)
      go_roundw
      case rel => exact ⟨k + 1, by omega, iv (by omega), Lib.hid (by rw [Hs.out])⟩
      case measure => simp only [intOf]; omega
    · obtain rfl : k = 256 := by omega
      have hl0 := Hlen.out 0
      have h1 := Hlen.out 256
      have ho := Hone.out 256
      rw [HZ.out] at hl0
      rw [HD.out] at h1 ho ⊢
      have hi := hi_tab h1
      clear Hw hlt
      have Hhi := Lib.hid hi
      have Hl0 := Lib.hid hl0
      have Hl1 := Lib.hid h1
      have Hho := Lib.hid ho
      clear hi hl0 h1 ho
      have hsz : Z.toArray.size = D.toArray.size := by simp [Hl0.out, Hl1.out]
      have Hsz := Lib.hid hsz
      have hi2 : Hid ((Try.prog.info? 49).map (·.size) = some D.toArray.size) := Lib.hid (by rw [Hhi.out]; simp)
      clear hsz
      go_wp2_with (first
        | (refine wpList_load_mid rfl 49 _ rfl _ 0 rfl D _ (range_two _ _ _ _) Try.underlying49 rfl Hhi.out ?_)
        | (refine wpList_store_row rfl 49 _ _ rfl _ _ Z.toArray D.toArray rfl rfl (heap_alloc2_old _ _ _) hi2.out Hsz.out Hho.out ?_))
      refine bodyPost_ret (v := .agg D.toArray) (results_cell_row rfl _ _ _ 49 _ _ _ rfl (setRow_heap _ _ _ _ _ _ (heap_alloc2_old _ _ _)) Try.underlying49 rfl hi2.out) rfl ⟨rfl, below_setRow (by go_grown) (Nat.le_refl _) _⟩
end Go.Proofs.Ytodllghfcdbbpaa
