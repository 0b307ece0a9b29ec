/-
  Layer 5: the program's table: the closure that enters one byte's entry, and the loop.
-/
import Derived.Test.YtodllghfcdbbpaaCrcT
import Derived.Laws.EntriesVeiled
namespace Go.Proofs.Ytodllghfcdbbpaa
set_option linter.unusedSimpArgs false
set_option linter.unusedVariables false
open Go.ChangeShapes Go.WideShapes Go.ChangeAt Go.RowKit Go.Joins Go.Deep
theorem st_is_even0 (c : BitVec 32) (h : (c.toNat : Int) % 2 = 0) : bits .xor .u32 ((c.toNat : Int) / 2) 0 = ((st c).toNat : Int) := by
  rw [st_even (by rw [low_is]; exact decide_eq_false (by omega)), ← shr1]
  have := xor_w (c >>> 1) 0#32
  rw [show ((0#32).toNat : Int) = 0 from rfl, BitVec.xor_zero] at this
  exact this
set_option maxRecDepth 100000 in
set_option maxHeartbeats 2000000 in
theorem enter_any (n : Nat) (hn : n < 256) (g : Nat) (C : List Value) (v0 : Value) (hv : C[n]? = some v0) (w : World) (hB : Blk w g 49 C.toArray) :
    Calls Try.prog 29 #[.int .i64 (n : Int), .pointer (some ⟨g, 0, none⟩)] w fun e w' => e = .returned (.tuple #[]) ∧ w' = w.setCell ⟨g, n, none⟩ (.int .u32 ((entry (BitVec.ofNat 32 n)).toNat : Int)) := by
  have hcell : w.cell? ⟨g, n, none⟩ = some v0 := by rw [hB.cell]; simpa using hv
  have hfr : w.frozen? ⟨g, n, none⟩ = false := hB.frozen n
  have hni : (0 : Int) ≤ (n : Int) ∧ (n : Int) < 256 := by omega
  unfold entry
  have eb : ((BitVec.ofNat 32 n).toNat : Int) = (n : Int) := by rw [BitVec.toNat_ofNat]; omega
  generalize BitVec.ofNat 32 n = b at *
  generalize hres : sn 8 b = res
  have Hres := Lib.hid hres
  have Heb := Lib.hid eb
  have Hcell := Lib.hid hcell
  have Hfr := Lib.hid hfr
  clear hres eb hv hn hB hcell hfr
  go_enter Try.func29, Try.ntmps29
  go_wp2
  go_loop [3, 6] (fun c' i => ∃ k : Nat, Hid (k ≤ 8) ∧ i = .int .i64 k ∧ c' = .int .u32 ((sn k b).toNat : Int)) (fun _ i => 8 - (intOf i).toNat)
  case atStart => exact ⟨0, Lib.hid (by omega), rfl, by rw [show sn 0 b = b from rfl, Heb.out]⟩
  case round =>
    obtain ⟨k, Hk, rfl, rfl⟩ := hrel
    have hk8 := Hk.out
    by_cases hlt : k < 8
    · have hki : (0 : Int) ≤ (k : Int) ∧ (k : Int) < 8 := by omega
      have Hn := Lib.hid (sn_succ k b)
      have hz0 := w_lt (sn k b)
      generalize sn k b = d at *
      have hz1 : (0 : Int) ≤ (d.toNat : Int) := by omega
      rcases (by omega : (d.toNat : Int) % 2 = 0 ∨ (d.toNat : Int) % 2 = 1) with hp | hp
      · have hst := st_is_even0 d hp
        have Hst := Lib.hid hst
        generalize (d.toNat : Int) = z at *
        clear hst
        go_wp2
        go_round
        case rel => exact ⟨k + 1, Lib.hid (by omega), by go_num, by rw [Hst.out, Hn.out]⟩
        case measure => simp only [intOf]; omega
      · have Hst := Lib.hid (st_is_odd d hp)
        generalize (d.toNat : Int) = z at *
        go_wp2
        go_round
        case rel => exact ⟨k + 1, Lib.hid (by omega), by go_num, by rw [Hst.out, Hn.out]⟩
        case measure => simp only [intOf]; omega
    · obtain rfl : k = 8 := by omega
      rw [Hres.out]
      have hcell := Hcell.out
      have hfr := Hfr.out
      go_wp2
      go_end0
      exact ⟨rfl, rfl⟩
set_option maxRecDepth 100000 in
set_option maxHeartbeats 400000 in
theorem table_any (w : World) : Calls Try.prog 20 #[] w fun e w' => e = .returned (.agg (tab T0).toArray) ∧ Below w.heap.size w w' := by
  have hmf : ∀ (fn : Fn) (first cap : Array Value) (w : World), (Instr.makeFunc fn first cap).run Try.prog w = .ok (.func fn first cap) w := fun _ _ _ _ => rfl
  have hz := zero_tab.1
  have Hset := Lib.hid fun k => (tab_set (ents k) k (entry (BitVec.ofNat 32 k))).trans (congrArg tab (ents_set k))
  have Hlen : Hid (∀ k, (tab (ents k)).length = 256) := Lib.hid fun k => by rw [tab_length, ents_len]
  have Hget : Hid (∀ k, k < 256 → ∃ v, (tab (ents k))[k]? = some v) := Lib.hid fun k hk => ⟨_, List.getElem?_eq_getElem (by rw [tab_length, ents_len]; exact hk)⟩
  have Hone : Hid (∀ k, (tab (ents k)).toArray.all (·.oneCell') = true) := Lib.hid fun k => tab_one _
  unfold T0
  generalize hf : (fun k => tab (ents k)) = f at *
  have hf' : ∀ k, tab (ents k) = f k := fun k => by rw [← hf]
  simp only [hf'] at *
  clear hf' hf
  generalize hZ : f 0 = Z at *
  have HZ := Lib.hid hZ
  clear hZ
  generalize hD : f 256 = D at *
  have HD := Lib.hid hD
  clear hD
  go_enter Try.func20, Try.ntmps20
  go_wp2
  go_loopw [5] (fun i wr => ∃ k : Nat, k ≤ 256 ∧ i = .int .i64 k ∧ Hid (wr = (w.alloc (.cells Z.toArray 49)).alloc (.cells (f k).toArray 49))) (fun i _ => 256 - (intOf i).toNat)
  case atStart => exact ⟨0, by omega, rfl, Lib.hid (by rw [HZ.out])⟩
  case round =>
    obtain ⟨k, hk, rfl, Hw⟩ := hrel
    obtain rfl := Hw.out
    by_cases hlt : k < 256
    · have hki : (0 : Int) ≤ (k : Int) ∧ (k : Int) < 256 := by omega
      obtain ⟨v, hv⟩ := Hget.out k hlt
      have hen := fun hB => enter_any k hlt (w.heap.size + 1) (f k) v hv ((w.alloc (.cells Z.toArray 49)).alloc (.cells (f k).toArray 49)) hB
      have Hs := Lib.hid (Hset.out k)
      have Hen := Lib.hid (hen (by simpa using Blk.new (w.alloc (.cells Z.toArray 49)) 49 (f k).toArray))
      clear hen hlt Hw hv
      generalize entry (BitVec.ofNat 32 k) = ev at *
      go_wp2_with (go_at_call 29; refine Hen.out.mono ?_; rintro e w1 ⟨rfl, rfl⟩)
      go_roundw
      case rel => exact ⟨k + 1, by omega, iv (by omega), Lib.hid (by rw [Hs.out])⟩
      case measure => simp only [intOf]; omega
    · obtain rfl : k = 256 := by omega
      have hl0 := Hlen.out 0
      have h1 := Hlen.out 256
      have ho := Hone.out 256
      rw [HZ.out] at hl0
      rw [HD.out] at h1 ho ⊢
      have hi := hi_tab h1
      clear Hw hlt
      have Hhi := Lib.hid hi
      have Hl0 := Lib.hid hl0
      have Hl1 := Lib.hid h1
      have Hho := Lib.hid ho
      clear hi hl0 h1 ho
      have hsz : Z.toArray.size = D.toArray.size := by simp [Hl0.out, Hl1.out]
      have Hsz := Lib.hid hsz
      have hi2 : Hid ((Try.prog.info? 49).map (·.size) = some D.toArray.size) := Lib.hid (by rw [Hhi.out]; simp)
      clear hsz
      go_wp2_with (first
        | (refine wpList_load_mid rfl 49 _ rfl _ 0 rfl D _ (range_two _ _ _ _) Try.underlying49 rfl Hhi.out ?_)
        | (refine wpList_store_row rfl 49 _ _ rfl _ _ Z.toArray D.toArray rfl rfl (heap_alloc2_old _ _ _) hi2.out Hsz.out Hho.out ?_))
      refine bodyPost_ret (v := .agg D.toArray) (results_cell_row rfl _ _ _ 49 _ _ _ rfl (setRow_heap _ _ _ _ _ _ (heap_alloc2_old _ _ _)) Try.underlying49 rfl hi2.out) rfl ⟨rfl, below_setRow (by go_grown) (Nat.le_refl _) _⟩
end Go.Proofs.Ytodllghfcdbbpaa
