/-
  Layer 6: the row in memory: fresh, raise, bytes.IndexByte, step.
-/
import Derived.Test.YteoaaddclfognaaFrontM
import Derived.Test.YteoaaddclfognaaGrow
import Derived.Test.YteoaaddclfognaaRows
import Derived.Deep.WholeRow
import Derived.Laws.CopyOwn
import Derived.Lib.BytesEntry
namespace Go.Proofs.Yteoaaddclfognaa
set_option linter.unusedSimpArgs false
set_option linter.unusedVariables false
open Go.ChangeShapes Go.WideShapes Go.ChangeAt Go.RowKit Go.Joins Go.Deep

/-- The row while it is laid: the first k bytes. -/
def rowC (k : Nat) : List UInt8 := (List.range 256).map fun i => if i < k then UInt8.ofNat i else 0
theorem rowC_len (k : Nat) : (rowC k).length = 256 := by simp [rowC]
theorem rowC_get (k i : Nat) (h : i < 256) : (rowC k)[i]? = some (if i < k then UInt8.ofNat i else 0) := by simp [rowC, h]
theorem rowC_all : rowC 256 = row0 := by
  unfold rowC row0
  refine List.map_congr_left fun i hi => ?_
  rw [if_pos (List.mem_range.1 hi)]
theorem rowC_set (k : Nat) : (rowC k).set k (UInt8.ofNat k) = rowC (k + 1) := by
  apply List.ext_getElem?
  intro i
  by_cases hi : i < 256
  · rw [List.getElem?_set, rowC_get _ _ hi]
    by_cases e : k = i
    · subst e
      rw [if_pos rfl, if_pos (by rw [rowC_len]; exact hi), rowC_get _ _ hi, if_pos (by omega)]
    · rw [if_neg e, rowC_get _ _ hi]
      by_cases h1 : i < k
      · rw [if_pos h1, if_pos (by omega)]
      · rw [if_neg h1, if_neg (by omega)]
  · rw [List.getElem?_eq_none (by rw [List.length_set, rowC_len]; omega), List.getElem?_eq_none (by rw [rowC_len]; omega)]
theorem bcl_set (l : List UInt8) (k : Nat) (b : UInt8) : (bc l).toList.set k (.int .u8 (b.toNat : Int)) = (bc (l.set k b)).toList := by simp [bc, List.map_set]
theorem cells_set (k : Nat) (h : k < 256) : (bc (rowC k)).toList.set k (.int .u8 (k : Int)) = (bc (rowC (k + 1))).toList := by
  have := bcl_set (rowC k) k (UInt8.ofNat k)
  rw [u8_ofNat _ h, rowC_set] at this
  exact this
theorem zero_row : (∀ w, (zeroValue 45).run Try.prog w = .ok (.agg (bc (rowC 0)).toList.toArray) w) ∧ (Try.prog.info? 45).map (·.size) = some 256 := zero_of_info (by kernel_rfl)
theorem alloc_congr {w : World} {a b : List Value} {t : TypeId} (h : a = b) : w.alloc (.cells a.toArray t) = w.alloc (.cells b.toArray t) := by rw [h]

set_option maxRecDepth 100000 in
set_option maxHeartbeats 400000 in
theorem fr_fresh_any (w : World) : Calls Try.prog 16 #[] w fun e w' => e = .returned (.pointer (some ⟨w.heap.size, 0, none⟩)) ∧ w' = w.alloc (.cells (bc row0) 45) := by
  have hz := zero_row.1
  have Hset : Hid (∀ k, k < 256 → (bc (rowC k)).toList.set k (.int .u8 (k : Int)) = (bc (rowC (k + 1))).toList) := Lib.hid cells_set
  have Hget : Hid (∀ k, k < 256 → ∃ v, (bc (rowC k)).toList[k]? = some v) := Lib.hid fun k hk => ⟨_, List.getElem?_eq_getElem (by rw [Array.length_toList, bc_size, rowC_len]; exact hk)⟩
  have he : bc row0 = (bc (rowC 256)).toList.toArray := by rw [rowC_all]
  rw [he]
  clear he
  generalize hf : (fun k => (bc (rowC k)).toList) = f at *
  have hf' : ∀ k, (bc (rowC k)).toList = f k := fun k => by rw [← hf]
  simp only [hf'] at *
  clear hf' hf
  generalize hZ : f 0 = Z at *
  have HZ := Lib.hid hZ
  clear hZ
  generalize hD : f 256 = D at *
  have HD := Lib.hid hD
  clear hD
  go_enter Try.func16, Try.ntmps16
  go_wp2
  go_loopw [3] (fun i wr => ∃ k : Nat, k ≤ 256 ∧ i = .int .i64 k ∧ Hid (wr = w.alloc (.cells (f k).toArray 45))) (fun i _ => 256 - (intOf i).toNat)
  case atStart => exact ⟨0, by omega, rfl, Lib.hid (by rw [HZ.out])⟩
  case round =>
    obtain ⟨k, hk, rfl, Hw⟩ := hrel
    obtain rfl := Hw.out
    by_cases hlt : k < 256
    · have hki : (0 : Int) ≤ (k : Int) ∧ (k : Int) < 256 := by omega
      have hm : (k : Int) % 256 = k := by omega
      obtain ⟨v, hv⟩ := Hget.out k hlt
      have Hs := Lib.hid (Hset.out k hlt)
      clear hlt Hw
      go_wp2
      go_roundw
      case rel => exact ⟨k + 1, by omega, iv (by omega), Lib.hid (alloc_congr Hs.out)⟩
      case measure => simp only [intOf]; omega
    · obtain rfl : k = 256 := by omega
      rw [HD.out]
      go_wp2
      go_ret
      exact ⟨rfl, rfl⟩

/-! ### raise -/
theorem bc_toList (l : List UInt8) : (bc l).toList = l.map fun b => Value.int .u8 (b.toNat : Int) := by simp [bc]
theorem mv_row (R : List UInt8) (k : Nat) (hk : k < R.length) : ((bc R).toList.take 1 ++ ((bc R).toList.take k ++ (bc R).toList.drop (1 + k))).set 0 (.int .u8 ((R.getD k 0).toNat : Int)) = (bc (mv R k)).toList := by
  rw [bc_toList, bc_toList]
  unfold mv
  cases R with
  | nil => simp at hk
  | cons b t => simp [Nat.add_comm 1 k]

/-- copy into a block that is known whole, from any cells. -/
theorem wpList_copy_blk {P : Program} {w : World} {ops : Array Oper} {rest : List Oper} {o : Oper} {a : Act} {Q : Exit → Act → World → Prop} (hgd : o.guard = none) (d s : Operand) (dT sT : TypeId)
    (ho : o.op = .call { callee := .builtin .copy, args := #[d, s], argTypes := #[dT, sT] }) (elem : TypeId) (hu : P.underlying dT = some (.slice elem)) (hsz : (P.info? elem).map (·.size) = some 1)
    (g off dLen dCap : Nat) (ad : Addr) (sLen sCap : Nat) (hd : a.eval d = .slice (some ⟨g, off, none⟩) dLen dCap) (hs : a.eval s = .slice (some ad) sLen sCap)
    (cur : Array Value) (t : TypeId) (hg : Blk w g t cur) (cs : List Value) (hn : cs.length = Nat.min sLen dLen)
    (hsrc : ∀ j v, cs[j]? = some v → w.cell? (ad.add j) = some v) (hfit : off + cs.length ≤ cur.size) (h1 : ∀ v ∈ cs, v.oneCell' = true)
    (N : List Value) (hN : cur.toList.take off ++ (cs ++ cur.toList.drop (off + cs.length)) = N)
    (h : ∀ w', w.grownBy w' (some g) → Blk w' g t N.toArray → wpList P ops Q rest (a.put o.dst (goInt cs.length)) w') : wpList P ops Q (o :: rest) a w := by
  refine wpList_copy_own hgd d s dT sT ho elem hu hsz g off dLen dCap ad sLen sCap hd hs cur t hg cs hn hsrc hfit h1 (h _ (grow_row _ _ _) ?_)
  rw [hN]
  exact hg.row _

set_option maxRecDepth 100000 in
set_option maxHeartbeats 800000 in
theorem fr_raise_any (R : List UInt8) (h : Whole R) (k : Nat) (hk : k < 256) (g : Nat) (w : World) (hB : Blk w g 45 (bc R)) :
    Calls Try.prog 17 #[.pointer (some ⟨g, 0, none⟩), .int .i64 (k : Int)] w fun e w' => e = .returned (.int .u8 ((R.getD k 0).toNat : Int)) ∧ w.grownBy w' (some g) ∧ Blk w' g 45 (bc (mv R k)) := by
  have hlen := h.len
  have hc : w.cell? ⟨g, k, none⟩ = some (.int .u8 ((R.getD k 0).toNat : Int)) := blk_byte hB (by rw [List.getD_eq_getElem?_getD, List.getElem?_eq_getElem (by omega)]; rfl)
  have hki : (0 : Int) ≤ (k : Int) ∧ (k : Int) < 256 := by omega
  have hsz : ((bc R).toList.take k).length = k := by simp [bc_size, hlen]; omega
  have hcopy : ∀ (a : Act) (ops : Array Oper) (Q : Exit → Act → World → Prop) (o : Oper) (d s : Operand), o.guard = none → o.op = .call { callee := .builtin .copy, args := #[d, s], argTypes := #[39, 39] } →
      a.eval d = .slice (some ⟨g, 1, none⟩) k 255 → a.eval s = .slice (some ⟨g, 0, none⟩) k 256 →
      (∀ w' N v, w.grownBy w' (some g) → Blk w' g 45 N → w'.cell? ⟨g, 0, none⟩ = some v → N.setIfInBounds 0 (.int .u8 ((R.getD k 0).toNat : Int)) = bc (mv R k) → wpList Try.prog ops Q [] (a.put o.dst (goInt k)) w') → wpList Try.prog ops Q [o] a w.drew := by
    intro a ops Q o d s hgd ho hd hs hh
    refine wpList_copy_blk hgd d s _ _ ho 5 Try.underlying39 (by kernel_rfl) g 1 k 255 ⟨g, 0, none⟩ k 256 hd hs (bc R) 45 hB.drew ((bc R).toList.take k) (by rw [hsz]; exact (Nat.min_self k).symm)
      (fun j v hj => by
        rw [add_mk, List.getElem?_take] at *
        split at hj
        · rw [Nat.zero_add, hB.drew.cell]; simpa using hj
        · cases hj)
      (by rw [hsz, bc_size, hlen]; omega)
      (fun v hv => by
        have := List.mem_of_mem_take hv
        rw [bc_toList] at this
        obtain ⟨b, _, rfl⟩ := List.mem_map.1 this
        rfl) _ rfl ?_
    intro w' hg hb
    rw [hsz] at hb ⊢
    have hm := mv_row R k (by omega)
    have hl : 0 < (List.take 1 (bc R).toList ++ (List.take k (bc R).toList ++ List.drop (1 + k) (bc R).toList)).length := by
      rw [List.length_append, List.length_take, Array.length_toList, bc_size, hlen]
      omega
    generalize List.take 1 (bc R).toList ++ (List.take k (bc R).toList ++ List.drop (1 + k) (bc R).toList) = N at *
    refine hh w' N.toArray N[0] ⟨hg.os, hg.tape, hg.output, hg.size, hg.block⟩ hb ?_ ?_
    · rw [hb.cell]; simp [hl]
    · rw [List.setIfInBounds_toArray, hm]
  have Hcopy := Lib.hid hcopy
  clear hcopy hsz hB h hlen
  generalize ((R.getD k 0).toNat : Int) = bv at *
  generalize bc (mv R k) = M at *
  go_enter Try.func17, Try.ntmps17
  go_wp2
  have hw1 : IntKind.i64.wrap ((k : Int) + 1) = (k : Int) + 1 := by rw [IntKind.wrap_i64]; omega
  have hk2 : (k : Int) + 1 ≤ 256 ∧ (k : Int) ≤ 256 ∧ 1 ≤ (k : Int) + 1 := by omega
  refine wp_region_still_tail 9 (by kernel_rfl) (by kernel_rfl) ?_
  simp only [List.take_succ_cons, List.take_zero, List.drop_succ_cons, List.drop_zero]
  change wpStill _ _ (World.drew _) (fun a' => wpList _ _ _ _ a' (World.drew _)) _ _
  repeat still_step
  refine wpStill_nil ?_
  refine Hcopy.out _ _ _ _ _ _ rfl rfl rfl rfl ?_
  intro w1 N v hg hb hv hN
  have hf := hb.frozen 0
  have Hg := Lib.hid hg
  have Hb := Lib.hid hb
  have HN := Lib.hid hN
  clear hg hb hN Hcopy
  go_wp2
  go_ret
  refine ⟨rfl, grow_set Hg.out (Or.inl rfl) _, ?_⟩
  rw [← HN.out]
  exact Hb.out.set_ 0 _

/-! ### bytes.IndexByte -/
theorem index_pl (R : List UInt8) (b : UInt8) (h : b ∈ R) : Lib.indexByte R b = (pl R b : Int) := by
  unfold pl
  induction R with
  | nil => cases h
  | cons c t ih =>
    unfold Lib.indexByte
    rw [List.idxOf_cons]
    by_cases e : c = b
    · simp [e]
    · have ht : b ∈ t := by
        rcases List.mem_cons.1 h with h | h
        · exact absurd h.symm e
        · exact h
      have e2 : (c == b) = false := by simpa using e
      have h3 : ((List.idxOf b t : Int) == -1) = false := by rw [beq_eq_false_iff_ne]; omega
      rw [e2, ih ht, h3]
      simp
theorem bytesOf_map (R : List UInt8) : Lib.bytesOf (R.map fun b => (b.toNat : Int)) = R := by
  simp [Lib.bytesOf, Function.comp_def]

theorem fr_index_any (R : List UInt8) (h : Whole R) (b : UInt8) (g : Nat) (w : World) (hB : Blk w g 45 (bc R)) :
    Calls Try.prog 22 #[.slice (some ⟨g, 0, none⟩) 256 256, .int .u8 (b.toNat : Int)] w fun e w' => e = .returned (.int .i64 (pl R b : Int)) ∧ w' = w := by
  have hrun := Lib.run_indexByteSlice (P := Try.prog) w g 0 256 256 (R.map fun b => (b.toNat : Int)) (by rw [List.length_map, h.len]) (fun i hi => by
    have hi' : i < R.length := by rw [h.len]; exact hi
    rw [Nat.zero_add, blk_byte hB (List.getElem?_eq_getElem hi')]
    simp [List.getD_eq_getElem?_getD, hi']) (b.toNat : Int)
  rw [bytesOf_map, Int.toNat_natCast, show b.toNat.toUInt8 = b from UInt8.ofNat_toNat, index_pl R b (h.mem b)] at hrun
  have hlt := pl_lt h b
  generalize (b.toNat : Int) = bv at *
  generalize pl R b = j at *
  go_enter Try.func22, Try.ntmps22
  go_wp2
  rw [run_callFunc_extern Try.func23 (by kernel_rfl) (by kernel_rfl) (by kernel_rfl) (e := Extern.BytealgIndexByte.indexByte) (by kernel_rfl), hrun]
  simp only [Result.andThen]
  rw [Oper.upon_value]
  go_wp2
  go_ret
  exact ⟨rfl, rfl⟩

/-! ### step -/
set_option maxRecDepth 100000 in
set_option maxHeartbeats 800000 in
theorem fr_step_any (R : List UInt8) (h : Whole R) (b : UInt8) (g : Nat) (w : World) (hB : Blk w g 45 (bc R)) :
    Calls Try.prog 20 #[.pointer (some ⟨g, 0, none⟩), .int .u8 (b.toNat : Int)] w fun e w' => e = .returned (.int .i64 (pl R b : Int)) ∧ w.grownBy w' (some g) ∧ Blk w' g 45 (bc (mv R (pl R b))) := by
  have Hi := Lib.hid (fr_index_any R h b g w hB)
  have Hr := Lib.hid (fr_raise_any R h (pl R b) (pl_lt h b) g w hB)
  clear hB h
  generalize (b.toNat : Int) = bv at *
  generalize bc (mv R (pl R b)) = M at *
  generalize ((R.getD (pl R b) 0).toNat : Int) = v at *
  generalize (pl R b : Int) = j at *
  go_enter Try.func20, Try.ntmps20
  go_wp2_with (first
    | (go_at_call 22; refine Hi.out.mono ?_; rintro e w1 ⟨rfl, rfl⟩)
    | (go_at_call 17; refine Hr.out.mono ?_; rintro e w1 ⟨rfl, hg1, hb1⟩))
  go_ret
  exact ⟨rfl, hg1, hb1⟩
end Go.Proofs.Yteoaaddclfognaa
