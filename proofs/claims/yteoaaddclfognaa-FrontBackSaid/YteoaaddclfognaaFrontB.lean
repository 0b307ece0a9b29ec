/-
  Layer 6: what the program's Ranks, Text and Row return, for every argument.
-/
import Derived.Test.YteoaaddclfognaaFrontA
import Derived.Test.YteoaaddclfognaaMake
import Derived.Laws.EntriesVeiled
namespace Go.Proofs.Yteoaaddclfognaa
set_option linter.unusedSimpArgs false
set_option linter.unusedVariables false
open Go.ChangeShapes Go.WideShapes Go.ChangeAt Go.RowKit Go.Joins Go.Deep

theorem mkfunc (fn : Fn) (first cap : Array Value) (w : World) : (Instr.makeFunc fn first cap).run Try.prog w = .ok (.func fn first cap) w := rfl
theorem mint_info : (Try.prog.info? 3).map (fun i => (i.zero, i.size, i.bytes)) = some (some (.int .i64 0), 1, 8) := by kernel_rfl
theorem ints_zero (n : Nat) : madeCells #[.int .i64 0] n = (ints (List.replicate n 0)).toArray := by
  unfold ints
  apply Array.ext'
  simp [madeCells, Nat.mod_one]
  rw [List.map_const', List.length_range]
/-- A row of integers that a call has just made: all 0. -/
theorem mk_ints (n : Int) (N : Nat) (hN : (N : Int) = n) (h : N ≤ 17592186044416) (w : World) :
    (Instr.makeSlice 22 (.int .i64 n) (.int .i64 n)).run Try.prog w = .ok (.slice (some ⟨w.heap.size, 0, none⟩) N N) (w.alloc (.cells (ints (List.replicate N 0)).toArray 3)) := by
  subst hN
  rw [← ints_zero]
  exact run_make_row' (P := Try.prog) 22 3 (.int .i64 0) 8 Try.underlying22 mint_info rfl .i64 .i64 N (by omega) (by omega) w

/-- Ranks, while they are laid. -/
def rk (l : List UInt8) (k : Nat) : List Int := rks row0 (l.take k) ++ List.replicate (l.length - k) 0
theorem rk_zero (l : List UInt8) : rk l 0 = List.replicate l.length 0 := by simp [rk, rks]
theorem rk_all (l : List UInt8) : rk l l.length = rks row0 l := by simp [rk]
theorem rk_len (l : List UInt8) (k : Nat) (h : k ≤ l.length) : (rk l k).length = l.length := by
  unfold rk
  rw [List.length_append, rks_len, List.length_replicate, List.length_take]
  omega
theorem set_mid {α : Type} (A C : List α) (x y : α) (k : Nat) (h : A.length = k) : (A ++ x :: C).set k y = A ++ y :: C := by
  subst h
  simp
theorem rk_set (l : List UInt8) (k : Nat) (h : k < l.length) : (rk l k).set k (pl (rowS row0 (l.take k)) l[k] : Int) = rk l (k + 1) := by
  unfold rk
  rw [show l.length - k = (l.length - (k + 1)) + 1 from by omega, List.replicate_succ, set_mid _ _ _ _ _ (by rw [rks_len, List.length_take]; omega), rks_take _ _ _ h]
  simp
theorem ints_set (l : List Int) (k : Nat) (v : Int) : (ints l).toArray.setIfInBounds k (.int .i64 v) = (ints (l.set k v)).toArray := by
  rw [List.setIfInBounds_toArray]
  simp [ints, List.map_set]

/-- What the loops of Ranks and Text hold on to: the row's block, and the block that is being filled. -/
structure RHold6 (w wr : World) (R : List UInt8) (t : TypeId) (cs : Array Value) : Prop where
  row : Blk wr w.heap.size 45 (bc R)
  out : Blk wr (w.heap.size + 1) t cs
  below : Below w.heap.size w wr
section
variable {w wr w1 : World} {R R' : List UInt8} {t : TypeId} {cs : Array Value}
theorem RHold6.start (w : World) (t : TypeId) (cs : Array Value) : RHold6 w ((w.alloc (.cells (bc row0) 45)).alloc (.cells cs t)) row0 t cs := by
  refine ⟨(Blk.new w _ _).alloc _, ?_, ((Below.refl _ _).alloc (Nat.le_refl _) _).alloc (by simp) _⟩
  have := Blk.new (w.alloc (.cells (bc row0) 45)) t cs
  rwa [show (w.alloc (.cells (bc row0) 45)).heap.size = w.heap.size + 1 from by simp] at this
theorem RHold6.next (h : RHold6 w wr R t cs) (hg : wr.grownBy w1 (some w.heap.size)) (hb : Blk w1 w.heap.size 45 (bc R')) (i : Nat) (v : Value) : RHold6 w (w1.setCell ⟨w.heap.size + 1, i, none⟩ v) R' t (cs.setIfInBounds i v) :=
  ⟨hb.far (by simp) v, (h.out.grow hg (by omega)).set_ i v, (h.below.trans (below_grow hg (Nat.le_refl _) h.below.size)).setCell (by simp) v⟩
end

set_option maxRecDepth 100000 in
set_option maxHeartbeats 2000000 in
theorem fr_ranks_any (l : List UInt8) (hl : l.length ≤ 1000000) (w : World) :
    Calls Try.prog 11 #[.string ⟨l.toArray⟩] w fun e w' => ∃ A c, e = .returned (.slice A l.length c) ∧ l.length ≤ c ∧ Reads w' w'.heap.size 1 A l.length (ints (rks row0 l)) ∧ Below w.heap.size w w' := by
  have hmf := mkfunc
  have hmk := fun W => mk_ints (l.length : Int) l.length rfl (by omega) W
  have Hset : Hid (∀ k (h : k < l.length), (ints (rk l k)).toArray.setIfInBounds k (.int .i64 (pl (rowS row0 (l.take k)) l[k] : Int)) = (ints (rk l (k + 1))).toArray) := Lib.hid fun k h => by rw [ints_set, rk_set l k h]
  have Hget : Hid (∀ k, k < l.length → ∃ v, (ints (rk l k)).toArray[k]? = some v) := Lib.hid fun k hk => ⟨_, Array.getElem?_eq_getElem (by simp [ints, rk_len l k (by omega)]; exact hk)⟩
  have Hstart : Hid (RHold6 w ((w.alloc (.cells (bc row0) 45)).alloc (.cells (ints (List.replicate l.length 0)).toArray 3)) (rowS row0 (l.take 0)) 3 (ints (rk l 0)).toArray) := Lib.hid (by
    rw [rk_zero]
    exact RHold6.start w 3 _)
  have Hend : Hid (∀ wr, RHold6 w wr (rowS row0 (l.take l.length)) 3 (ints (rk l l.length)).toArray → Reads wr wr.heap.size 1 (some ⟨w.heap.size + 1, 0, none⟩) l.length (ints (rks row0 l))) := Lib.hid fun wr h => by
    rw [rk_all] at h
    refine ⟨by rw [ints_length, rks_len]; omega, fun _ => ⟨_, _, rfl, h.out.lt, fun j u hj => ?_⟩⟩
    rw [Nat.zero_add, h.out.cell]
    simpa using hj
  have hll : (l.length : Int) ≤ 1000000 := by omega
  clear hl
  generalize (ints (List.replicate l.length 0)).toArray = Z0 at *
  go_enter Try.func11, Try.ntmps11
  go_wp2_with (go_at_call 16; refine (fr_fresh_any _).mono ?_; rintro e w1 ⟨rfl, rfl⟩)
  go_loopw [13] (fun i wr => ∃ k : Nat, k ≤ l.length ∧ i = .int .i64 k ∧ Hid (RHold6 w wr (rowS row0 (l.take k)) 3 (ints (rk l k)).toArray)) (fun i _ => l.length - (intOf i).toNat)
  case atStart => exact ⟨0, by omega, rfl, Hstart.out⟩
  case round =>
    obtain ⟨k, hk, rfl, Hh⟩ := hrel
    by_cases hlt : k < l.length
    · have hki : (0 : Int) ≤ (k : Int) ∧ (k : Int) < l.length := by omega
      have hks : k < (ByteArray.mk l.toArray).size := by rw [ByteArray.size_mk']; simpa using hlt
      have Hs := Lib.hid (Hset.out k hlt)
      obtain ⟨v, hv⟩ := Hget.out k hlt
      have hst : ∀ (wr : World) (hB : Blk wr w.heap.size 45 (bc (rowS row0 (l.take k)))), Calls Try.prog 20 #[.pointer (some ⟨w.heap.size, 0, none⟩), .int .u8 ((((ByteArray.mk l.toArray)[k]'hks).toNat : Nat) : Int)] wr fun e w' => e = .returned (.int .i64 (pl (rowS row0 (l.take k)) l[k] : Int)) ∧ wr.grownBy w' (some w.heap.size) ∧ Blk w' w.heap.size 45 (bc (rowS row0 (l.take (k + 1)))) := fun wr hB => by
        rw [rowS_take _ _ _ hlt]
        exact fr_step_any _ (row0_whole.rowS _) l[k] w.heap.size wr hB
      have Hst := Lib.hid (hst wr Hh.out.row)
      have hcell : ∀ w1, wr.grownBy w1 (some w.heap.size) → w1.cell? ⟨w.heap.size + 1, k, none⟩ = some v ∧ w1.frozen? ⟨w.heap.size + 1, k, none⟩ = false := fun w1 hg => ⟨by rw [(Hh.out.out.grow hg (by omega)).cell]; exact hv, (Hh.out.out.grow hg (by omega)).frozen k⟩
      have Hcell := Lib.hid hcell
      clear hst hcell hv
      generalize (pl (rowS row0 (l.take k)) l[k] : Int) = j at *
      go_wp2_with (go_at_call 20; refine Hst.out.mono ?_; rintro e w1 ⟨rfl, hg1, hb1⟩; obtain ⟨x1, x2⟩ := Hcell.out w1 hg1; have Hn := Lib.hid (Hh.out.next hg1 hb1 k (.int .i64 j)); clear hg1 hb1)
      go_roundw
      case rel => exact ⟨k + 1, by omega, iv (by omega), Lib.hid (by rw [← Hs.out]; exact Hn.out)⟩
      case measure => simp only [intOf]; omega
    · obtain rfl : k = l.length := by omega
      go_wp2
      go_ret
      exact ⟨_, _, rfl, Nat.le_refl _, Hend.out _ Hh.out, Hh.out.below⟩

/-! ### Text -/
/-- Bytes, while they are laid. -/
def tx (ks : List Int) (k : Nat) : List UInt8 := bys row0 (ks.take k) ++ List.replicate (ks.length - k) 0
theorem tx_zero (ks : List Int) : tx ks 0 = List.replicate ks.length 0 := by simp [tx, bys]
theorem tx_all (ks : List Int) : tx ks ks.length = bys row0 ks := by simp [tx]
theorem tx_len (l : List Int) (k : Nat) (h : k ≤ l.length) : (tx l k).length = l.length := by
  unfold tx
  rw [List.length_append, bys_len, List.length_replicate, List.length_take]
  omega
theorem tx_set (l : List Int) (k : Nat) (h : k < l.length) : (tx l k).set k ((rowK row0 (l.take k)).getD l[k].toNat 0) = tx l (k + 1) := by
  unfold tx
  rw [show l.length - k = (l.length - (k + 1)) + 1 from by omega, List.replicate_succ, set_mid _ _ _ _ _ (by rw [bys_len, List.length_take]; omega), bys_take _ _ _ h]
  simp
theorem bca_set (l : List UInt8) (k : Nat) (b : UInt8) : (bc l).setIfInBounds k (.int .u8 (b.toNat : Int)) = bc (l.set k b) := by
  unfold bc
  rw [List.setIfInBounds_toArray]
  simp [List.map_set]
theorem text_bad (ks : List Int) (k : Nat) (h : k < ks.length) (hb : ¬(0 ≤ ks[k] ∧ ks[k] ≤ 255)) : rtextF ks = ([], 60) := by
  have : rgood ks = false := by
    unfold rgood
    rw [List.all_eq_false]
    refine ⟨ks[k], List.getElem_mem h, ?_⟩
    simpa using hb
  unfold rtextF
  rw [this]
  rfl
theorem text_good (ks : List Int) (h : rgood ks = true) : rtextF ks = (bys row0 ks, 0) := by
  unfold rtextF
  rw [if_pos h]
theorem rgood_take (ks : List Int) (k : Nat) (h : k < ks.length) (hg : rgood (ks.take k) = true) (hb : 0 ≤ ks[k] ∧ ks[k] ≤ 255) : rgood (ks.take (k + 1)) = true := by
  rw [take_snoc ks k h, rgood_snoc, hg]
  simp [hb.1, hb.2]

set_option maxRecDepth 100000 in
set_option maxHeartbeats 2000000 in
theorem fr_text_any (A : Option Addr) (n c : Nat) (ks : List Int) (w : World) (hn : n ≤ 1000000) (hr : Reads w w.heap.size 1 A n (ints ks)) :
    Calls Try.prog 8 #[.slice A n c] w fun e w' => e = .returned (.tuple #[.string ⟨(rtextF ks).1.toArray⟩, .int .i64 (rtextF ks).2]) ∧ Below w.heap.size w w' := by
  have hmf := mkfunc
  have en : ks.length = n := by have := hr.1; rw [ints_length] at this; omega
  have hmk := fun W => mk_bytes (n : Int) n rfl (by omega) W
  have Hread : Hid (∀ k (h : k < ks.length) wr, Below w.heap.size w wr → ∃ b off, A = some ⟨b, off, none⟩ ∧ wr.cell? ⟨b, off + k, none⟩ = some (.int .i64 ks[k])) := Lib.hid fun k h wr hb => by
    obtain ⟨b, off, e, hlt, hc⟩ := hr.2 (by omega)
    exact ⟨b, off, e, (hb.cell (p := ⟨b, off + k, none⟩) hlt).trans (hc k _ (ints_get ks k h))⟩
  have Hset : Hid (∀ k (h : k < ks.length), (bc (tx ks k)).setIfInBounds k (.int .u8 (((rowK row0 (ks.take k)).getD ks[k].toNat 0).toNat : Int)) = bc (tx ks (k + 1))) := Lib.hid fun k h => by rw [bca_set, tx_set ks k h]
  have Hget : Hid (∀ k, k < ks.length → ∃ v, (bc (tx ks k))[k]? = some v) := Lib.hid fun k hk => ⟨_, Array.getElem?_eq_getElem (by rw [bc_size, tx_len ks k (by omega)]; exact hk)⟩
  have Hstart : Hid (RHold6 w ((w.alloc (.cells (bc row0) 45)).alloc (.cells (bc (List.replicate n 0)) 5)) (rowK row0 (ks.take 0)) 5 (bc (tx ks 0))) := Lib.hid (by
    rw [tx_zero, en]
    exact RHold6.start w 5 _)
  have Hend : Hid (∀ wr, RHold6 w wr (rowK row0 (ks.take n)) 5 (bc (tx ks n)) → (convert 39 9 (.slice (some ⟨w.heap.size + 1, 0, none⟩) n n)).run Try.prog wr = .ok (.string ⟨(bys row0 ks).toArray⟩) wr) := Lib.hid fun wr h => by
    have hh := h.out
    rw [← en, tx_all] at hh
    exact str_blk wr _ n n _ _ (by rw [bys_len]; exact en) hh
  have Hbad : Hid (∀ k (h : k < ks.length), ¬(0 ≤ ks[k] ∧ ks[k] ≤ 255) → rtextF ks = ([], 60)) := Lib.hid fun k h hb => text_bad ks k h hb
  have Hgood : Hid (rgood ks = true → rtextF ks = (bys row0 ks, 0)) := Lib.hid (text_good ks)
  have Hen := Lib.hid en
  have hnn : (n : Int) ≤ 1000000 := by omega
  clear hn hr en
  generalize rtextF ks = F at *
  generalize bc (List.replicate n 0) = Z0 at *
  go_enter Try.func8, Try.ntmps8
  go_wp2_with (go_at_call 16; refine (fr_fresh_any _).mono ?_; rintro e w1 ⟨rfl, rfl⟩)
  go_loopw [15] (fun i wr => ∃ k : Nat, k ≤ n ∧ i = .int .i64 k ∧ Hid (rgood (ks.take k) = true) ∧ Hid (RHold6 w wr (rowK row0 (ks.take k)) 5 (bc (tx ks k)))) (fun i _ => n - (intOf i).toNat)
  case atStart => exact ⟨0, by omega, rfl, rfl, Hstart.out⟩
  case round =>
    obtain ⟨k, hk, rfl, Hg, Hh⟩ := hrel
    by_cases hlt : k < n
    · have hki : (0 : Int) ≤ (k : Int) ∧ (k : Int) < n := by omega
      have hkl : k < ks.length := by rw [Hen.out]; exact hlt
      obtain ⟨b, off, rfl, hrd⟩ := Hread.out k hkl wr Hh.out.below
      by_cases hneg : ks[k] < 0
      · have Hf := Lib.hid (Hbad.out k hkl (by omega))
        clear Hbad
        generalize ks[k] = x at *
        go_wp2
        go_ret2
        rw [Hf.out]
        exact ⟨rfl, Hh.out.below⟩
      · by_cases hbig : 255 < ks[k]
        · have Hf := Lib.hid (Hbad.out k hkl (by omega))
          clear Hbad
          generalize ks[k] = x at *
          go_wp2
          go_ret2
          rw [Hf.out]
          exact ⟨rfl, Hh.out.below⟩
        · have hx0 : 0 ≤ ks[k] := by omega
          have Hgn := Lib.hid (rgood_take ks k hkl Hg.out ⟨hx0, by omega⟩)
          have Hs := Lib.hid (Hset.out k hkl)
          obtain ⟨v, hv⟩ := Hget.out k hkl
          have hst : ∀ (wr : World) (hB : Blk wr w.heap.size 45 (bc (rowK row0 (ks.take k)))), Calls Try.prog 17 #[.pointer (some ⟨w.heap.size, 0, none⟩), .int .i64 ks[k]] wr fun e w' => e = .returned (.int .u8 (((rowK row0 (ks.take k)).getD ks[k].toNat 0).toNat : Int)) ∧ wr.grownBy w' (some w.heap.size) ∧ Blk w' w.heap.size 45 (bc (rowK row0 (ks.take (k + 1)))) := fun wr hB => by
            rw [rowK_take _ _ _ hkl]
            have := fr_raise_any _ (row0_whole.rowK _ Hg.out) ks[k].toNat (by omega) w.heap.size wr hB
            rwa [show ((ks[k].toNat : Nat) : Int) = ks[k] from by omega] at this
          have Hst := Lib.hid (hst wr Hh.out.row)
          have hcell : ∀ w1, wr.grownBy w1 (some w.heap.size) → w1.cell? ⟨w.heap.size + 1, k, none⟩ = some v ∧ w1.frozen? ⟨w.heap.size + 1, k, none⟩ = false := fun w1 hg => ⟨by rw [(Hh.out.out.grow hg (by omega)).cell]; exact hv, (Hh.out.out.grow hg (by omega)).frozen k⟩
          have Hcell := Lib.hid hcell
          clear hst hcell hv Hbad
          generalize (((rowK row0 (ks.take k)).getD ks[k].toNat 0).toNat : Int) = j at *
          generalize ks[k] = x at *
          go_wp2_with (go_at_call 17; refine Hst.out.mono ?_; rintro e w1 ⟨rfl, hg1, hb1⟩; obtain ⟨x1, x2⟩ := Hcell.out w1 hg1; have Hn := Lib.hid (Hh.out.next hg1 hb1 k (.int .u8 j)); clear hg1 hb1)
          go_roundw
          case rel => exact ⟨k + 1, by omega, iv (by omega), Hgn.out, Lib.hid (by rw [← Hs.out]; exact Hn.out)⟩
          case measure => simp only [intOf]; omega
    · obtain rfl : k = n := by omega
      have hcv := Hend.out wr Hh.out
      have Hf := Lib.hid (Hgood.out (by have := Hg.out; rwa [List.take_of_length_le (by rw [Hen.out]; omega)] at this))
      go_wp2
      go_ret2
      rw [Hf.out]
      exact ⟨rfl, Hh.out.below⟩

/-! ### Row -/
set_option maxRecDepth 100000 in
set_option maxHeartbeats 2000000 in
theorem fr_row_any (l : List UInt8) (hl : l.length ≤ 1000000) (w : World) :
    Calls Try.prog 13 #[.string ⟨l.toArray⟩] w fun e w' => e = .returned (.string ⟨(rowS row0 l).toArray⟩) ∧ Below w.heap.size w w' := by
  have hll : (l.length : Int) ≤ 1000000 := by omega
  have Hstart : Hid (Blk (w.alloc (.cells (bc row0) 45)) w.heap.size 45 (bc (rowS row0 (l.take 0)))) := Lib.hid (Blk.new w _ _)
  have Hend : Hid (∀ wr, Blk wr w.heap.size 45 (bc (rowS row0 (l.take l.length))) → (convert 39 9 (.slice (some ⟨w.heap.size, 0, none⟩) 256 256)).run Try.prog wr = .ok (.string ⟨(rowS row0 l).toArray⟩) wr) := Lib.hid fun wr h => by
    rw [List.take_length] at h
    exact str_blk wr _ 256 256 _ _ (row0_whole.rowS _).len h
  clear hl
  go_enter Try.func13, Try.ntmps13
  go_wp2_with (go_at_call 16; refine (fr_fresh_any _).mono ?_; rintro e w1 ⟨rfl, rfl⟩)
  go_loopw [8] (fun i wr => ∃ k : Nat, k ≤ l.length ∧ i = .int .i64 k ∧ Hid (Blk wr w.heap.size 45 (bc (rowS row0 (l.take k)))) ∧ Hid (Below w.heap.size w wr)) (fun i _ => l.length - (intOf i).toNat)
  case atStart => exact ⟨0, by omega, rfl, Hstart.out, Lib.hid ((Below.refl _ _).alloc (Nat.le_refl _) _)⟩
  case round =>
    obtain ⟨k, hk, rfl, Hh, Hb⟩ := hrel
    by_cases hlt : k < l.length
    · have hki : (0 : Int) ≤ (k : Int) ∧ (k : Int) < l.length := by omega
      have hks : k < (ByteArray.mk l.toArray).size := by rw [ByteArray.size_mk']; simpa using hlt
      have hst : ∀ (wr : World) (hB : Blk wr w.heap.size 45 (bc (rowS row0 (l.take k)))), Calls Try.prog 20 #[.pointer (some ⟨w.heap.size, 0, none⟩), .int .u8 ((((ByteArray.mk l.toArray)[k]'hks).toNat : Nat) : Int)] wr fun e w' => e = .returned (.int .i64 (pl (rowS row0 (l.take k)) l[k] : Int)) ∧ wr.grownBy w' (some w.heap.size) ∧ Blk w' w.heap.size 45 (bc (rowS row0 (l.take (k + 1)))) := fun wr hB => by
        rw [rowS_take _ _ _ hlt]
        exact fr_step_any _ (row0_whole.rowS _) l[k] w.heap.size wr hB
      have Hst := Lib.hid (hst wr Hh.out)
      clear hst
      go_wp2_with (go_at_call 20; refine Hst.out.mono ?_; rintro e w1 ⟨rfl, hg1, hb1⟩; have Hg1 := Lib.hid hg1; have Hb1 := Lib.hid hb1; clear hg1 hb1)
      go_roundw
      case rel => exact ⟨k + 1, by omega, iv (by omega), Hb1.out, Lib.hid (Hb.out.trans (below_grow Hg1.out (Nat.le_refl _) Hb.out.size))⟩
      case measure => simp only [intOf]; omega
    · obtain rfl : k = l.length := by omega
      have hcv := Hend.out _ Hh.out
      go_wp2
      go_ret
      exact ⟨rfl, Hb.out⟩
end Go.Proofs.Yteoaaddclfognaa
