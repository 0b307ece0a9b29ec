/-
 What the law of the last of these texts stands on, part 37.
-/
import Derived.Test.YtanjhbkbpalnaaaGreatMc31
set_option maxRecDepth 100000
set_option maxHeartbeats 8000000
open Go.Proofs.Tryz
namespace Go.Proofs.YtanjhbkbpalnaaaGreat
set_option linter.unusedSimpArgs false
set_option linter.unusedVariables false
open Go.ChangeShapes Go.WideShapes Go.ChangeAt Go.RowKit Go.Joins Go.Deep
theorem mkfunc (fn : Fn) (first cap : Array Value) (w : World) : (Instr.makeFunc fn first cap).run prog w = .ok (.func fn first cap) w := rfl
theorem mint_info : (prog.info? 3).map (fun i => (i.zero, i.size, i.bytes)) = some (some (.int .i64 0), 1, 8) := by kernel_rfl
theorem ints_zero (n : Nat) : madeCells #[.int .i64 0] n = (ints (List.replicate n 0)).toArray := by
 unfold ints
 apply Array.ext'
 simp [madeCells, Nat.mod_one]
 rw [qc0, qaC]
theorem mk_ints (n : Int) (N : Nat) (hN : (N : Int) = n) (h : N ≤ 17592186044416) (w : World) :
  (Instr.makeSlice 28 (.int .i64 n) (.int .i64 n)).run prog w = .ok (.slice (some ⟨w.heap.size, 0, none⟩) N N) (w.alloc (.cells (ints (List.replicate N 0)).toArray 3)) := by
 subst hN
 rw [← ints_zero]
 exact run_make_row' (P := prog) 28 3 (.int .i64 0) 8 underlying28 mint_info rfl .i64 .i64 N (by omega) (by omega) w
def rk (l : List UInt8) (k : Nat) : List Int := rks row0 (l.take k) ++ List.replicate (l.length - k) 0
theorem rk_zero (l : List UInt8) : rk l 0 = List.replicate l.length 0 := by simp [rk, rks]
theorem rk_all (l : List UInt8) : rk l l.length = rks row0 l := by simp [rk]
theorem rk_len (l : List UInt8) (k : Nat) (h : k ≤ l.length) : (rk l k).length = l.length := by
 unfold rk
 rw [qae, rks_len, qaE, qao]
 omega
theorem set_mid {α : Type} (A C : List α) (x y : α) (k : Nat) (h : A.length = k) : (A ++ x :: C).set k y = A ++ y :: C := by
 subst h
 simp
theorem rk_set (l : List UInt8) (k : Nat) (h : k < l.length) : (rk l k).set k (pl (rowS row0 (l.take k)) l[k] : Int) = rk l (k + 1) := by
 unfold rk
 rw [show l.length - k = (l.length - (k + 1)) + 1 from by omega, qby, set_mid _ _ _ _ _ (by rw [rks_len, qao]; omega), rks_take _ _ _ h]
 simp
theorem ints_set (l : List Int) (k : Nat) (v : Int) : (ints l).toArray.setIfInBounds k (.int .i64 v) = (ints (l.set k v)).toArray := by
 rw [qab]
 simp [ints, qcs]
structure RHold6 (w wr : World) (R : List UInt8) (t : TypeId) (cs : Array Value) : Prop where
 row : Blk wr w.heap.size 162 (bc R)
 out : Blk wr (w.heap.size + 1) t cs
 below : Below w.heap.size w wr
section
variable {w wr w1 : World} {R R' : List UInt8} {t : TypeId} {cs : Array Value}
theorem RHold6.start (w : World) (t : TypeId) (cs : Array Value) : RHold6 w ((w.alloc (.cells (bc row0) 162)).alloc (.cells cs t)) row0 t cs := by
 refine ⟨(Blk.new w _ _).alloc _, ?_, ((qam _ _).alloc (qaf _) _).alloc (by simp) _⟩
 have := Blk.new (w.alloc (.cells (bc row0) 162)) t cs
 rwa [show (w.alloc (.cells (bc row0) 162)).heap.size = w.heap.size + 1 from by simp] at this
theorem RHold6.next (h : RHold6 w wr R t cs) (hg : wr.grownBy w1 (some w.heap.size)) (hb : Blk w1 w.heap.size 162 (bc R')) (i : Nat) (v : Value) : RHold6 w (w1.setCell ⟨w.heap.size + 1, i, none⟩ v) R' t (cs.setIfInBounds i v) :=
 ⟨hb.far (by simp) v, (h.out.grow hg (by omega)).set_ i v, (h.below.trans (below_grow hg (qaf _) h.below.size)).setCell (by simp) v⟩
end
theorem fr_ranks_any (l : List UInt8) (hl : l.length ≤ 1000000) (w : World) :
  Calls prog 41 #[.string ⟨l.toArray⟩] w fun e w' => ∃ A c, e = .returned (.slice A l.length c) ∧ l.length ≤ c ∧ Reads w' w'.heap.size 1 A l.length (ints (rks row0 l)) ∧ Below w.heap.size w w' := by
 have hmf := mkfunc
 have hmk := fun W => mk_ints (l.length : Int) l.length rfl (by omega) W
 have Hset : Hid (∀ k (h : k < l.length), (ints (rk l k)).toArray.setIfInBounds k (.int .i64 (pl (rowS row0 (l.take k)) l[k] : Int)) = (ints (rk l (k + 1))).toArray) := qaa fun k h => by rw [ints_set, rk_set l k h]
 have Hget : Hid (∀ k, k < l.length → ∃ v, (ints (rk l k)).toArray[k]? = some v) := qaa fun k hk => ⟨_, qbU (by simp [ints, rk_len l k (by omega)]; exact hk)⟩
 have Hstart : Hid (RHold6 w ((w.alloc (.cells (bc row0) 162)).alloc (.cells (ints (List.replicate l.length 0)).toArray 3)) (rowS row0 (l.take 0)) 3 (ints (rk l 0)).toArray) := qaa (by
  rw [rk_zero]
  exact RHold6.start w 3 _)
 have Hend : Hid (∀ wr, RHold6 w wr (rowS row0 (l.take l.length)) 3 (ints (rk l l.length)).toArray → Reads wr wr.heap.size 1 (some ⟨w.heap.size + 1, 0, none⟩) l.length (ints (rks row0 l))) := qaa fun wr h => by
  rw [rk_all] at h
  refine ⟨by rw [yac, rks_len]; omega, fun _ => ⟨_, _, rfl, h.out.lt, fun j u hj => ?_⟩⟩
  rw [qaL, h.out.cell]
  simpa using hj
 have hll : (l.length : Int) ≤ 1000000 := by omega
 clear hl
 generalize (ints (List.replicate l.length 0)).toArray = Z0 at *
 go_enter func41, ntmps41
 go_wp2_with (go_at_call 75; refine (yfl _).mono ?_; rintro e w1 ⟨rfl, rfl⟩)
 go_loopw [13] (fun i wr => ∃ k : Nat, k ≤ l.length ∧ i = .int .i64 k ∧ Hid (RHold6 w wr (rowS row0 (l.take k)) 3 (ints (rk l k)).toArray)) (fun i _ => l.length - (intOf i).toNat)
 case atStart => exact ⟨0, by omega, rfl, Hstart.out⟩
 case round =>
  obtain ⟨k, hk, rfl, Hh⟩ := hrel
  by_cases hlt : k < l.length
  ·have hki : (0 : Int) ≤ (k : Int) ∧ (k : Int) < l.length := by omega
   have hks : k < (ByteArray.mk l.toArray).size := by rw [qbc]; simpa using hlt
   have Hs := qaa (Hset.out k hlt)
   obtain ⟨v, hv⟩ := Hget.out k hlt
   have hst : ∀ (wr : World) (hB : Blk wr w.heap.size 162 (bc (rowS row0 (l.take k)))), Calls prog 76 #[.pointer (some ⟨w.heap.size, 0, none⟩), .int .u8 ((((ByteArray.mk l.toArray)[k]'hks).toNat : Nat) : Int)] wr fun e w' => e = .returned (.int .i64 (pl (rowS row0 (l.take k)) l[k] : Int)) ∧ wr.grownBy w' (some w.heap.size) ∧ Blk w' w.heap.size 162 (bc (rowS row0 (l.take (k + 1)))) := fun wr hB => by
    rw [rowS_take _ _ _ hlt]
    exact fr_step_any _ (row0_whole.rowS _) l[k] w.heap.size wr hB
   have Hst := qaa (hst wr Hh.out.row)
   have hcell : ∀ w1, wr.grownBy w1 (some w.heap.size) → w1.cell? ⟨w.heap.size + 1, k, none⟩ = some v ∧ w1.frozen? ⟨w.heap.size + 1, k, none⟩ = false := fun w1 hg => ⟨by rw [(Hh.out.out.grow hg (by omega)).cell]; exact hv, (Hh.out.out.grow hg (by omega)).frozen k⟩
   have Hcell := qaa hcell
   clear hst hcell hv
   generalize (pl (rowS row0 (l.take k)) l[k] : Int) = j at *
   go_wp2_with (go_at_call 76; refine Hst.out.mono ?_; rintro e w1 ⟨rfl, hg1, hb1⟩; obtain ⟨x1, x2⟩ := Hcell.out w1 hg1; have Hn := qaa (Hh.out.next hg1 hb1 k (.int .i64 j)); clear hg1 hb1)
   go_roundw
   case rel => exact ⟨k + 1, by omega, iv (by omega), qaa (by rw [← Hs.out]; exact Hn.out)⟩
   case measure => simp only [intOf]; omega
  ·obtain rfl : k = l.length := by omega
   go_wp2
   go_ret
   exact ⟨_, _, rfl, qaf _, Hend.out _ Hh.out, Hh.out.below⟩
def tx (ks : List Int) (k : Nat) : List UInt8 := bys row0 (ks.take k) ++ List.replicate (ks.length - k) 0
theorem tx_zero (ks : List Int) : tx ks 0 = List.replicate ks.length 0 := by simp [tx, bys]
theorem tx_all (ks : List Int) : tx ks ks.length = bys row0 ks := by simp [tx]
theorem tx_len (l : List Int) (k : Nat) (h : k ≤ l.length) : (tx l k).length = l.length := by
 unfold tx
 rw [qae, bys_len, qaE, qao]
 omega
theorem tx_set (l : List Int) (k : Nat) (h : k < l.length) : (tx l k).set k ((rowK row0 (l.take k)).getD l[k].toNat 0) = tx l (k + 1) := by
 unfold tx
 rw [show l.length - k = (l.length - (k + 1)) + 1 from by omega, qby, set_mid _ _ _ _ _ (by rw [bys_len, qao]; omega), bys_take _ _ _ h]
 simp
theorem bca_set (l : List UInt8) (k : Nat) (b : UInt8) : (bc l).setIfInBounds k (.int .u8 (b.toNat : Int)) = bc (l.set k b) := by
 unfold bc
 rw [qab]
 simp [qcs]
theorem text_bad (ks : List Int) (k : Nat) (h : k < ks.length) (hb : ¬(0 ≤ ks[k] ∧ ks[k] ≤ 255)) : ydc ks = ([], 60) := by
 have : ydd ks = false := by
  unfold ydd
  rw [List.all_eq_false]
  refine ⟨ks[k], qaq h, ?_⟩
  simpa using hb
 unfold ydc
 rw [this]
 rfl
theorem text_good (ks : List Int) (h : ydd ks = true) : ydc ks = (bys row0 ks, 0) := by
 unfold ydc
 rw [qah h]
theorem rgood_take (ks : List Int) (k : Nat) (h : k < ks.length) (hg : ydd (ks.take k) = true) (hb : 0 ≤ ks[k] ∧ ks[k] ≤ 255) : ydd (ks.take (k + 1)) = true := by
 rw [ycM ks k h, rgood_snoc, hg]
 simp [hb.1, hb.2]
theorem fr_text_any (A : Option Addr) (n c : Nat) (ks : List Int) (w : World) (hn : n ≤ 1000000) (hr : Reads w w.heap.size 1 A n (ints ks)) :
  Calls prog 92 #[.slice A n c] w fun e w' => e = .returned (.tuple #[.string ⟨(ydc ks).1.toArray⟩, .int .i64 (ydc ks).2]) ∧ Below w.heap.size w w' := by
 have hmf := mkfunc
 have en : ks.length = n := by have := hr.1; rw [yac] at this; omega
 have hmk := fun W => mk_bytes (n : Int) n rfl (by omega) W
 have Hread : Hid (∀ k (h : k < ks.length) wr, Below w.heap.size w wr → ∃ b off, A = some ⟨b, off, none⟩ ∧ wr.cell? ⟨b, off + k, none⟩ = some (.int .i64 ks[k])) := qaa fun k h wr hb => by
  obtain ⟨b, off, e, hlt, hc⟩ := hr.2 (by omega)
  exact ⟨b, off, e, (hb.cell (p := ⟨b, off + k, none⟩) hlt).trans (hc k _ (yao ks k h))⟩
 have Hset : Hid (∀ k (h : k < ks.length), (bc (tx ks k)).setIfInBounds k (.int .u8 (((rowK row0 (ks.take k)).getD ks[k].toNat 0).toNat : Int)) = bc (tx ks (k + 1))) := qaa fun k h => by rw [bca_set, tx_set ks k h]
 have Hget : Hid (∀ k, k < ks.length → ∃ v, (bc (tx ks k))[k]? = some v) := qaa fun k hk => ⟨_, qbU (by rw [ycy, tx_len ks k (by omega)]; exact hk)⟩
 have Hstart : Hid (RHold6 w ((w.alloc (.cells (bc row0) 162)).alloc (.cells (bc (List.replicate n 0)) 5)) (rowK row0 (ks.take 0)) 5 (bc (tx ks 0))) := qaa (by
  rw [tx_zero, en]
  exact RHold6.start w 5 _)
 have Hend : Hid (∀ wr, RHold6 w wr (rowK row0 (ks.take n)) 5 (bc (tx ks n)) → (convert 36 9 (.slice (some ⟨w.heap.size + 1, 0, none⟩) n n)).run prog wr = .ok (.string ⟨(bys row0 ks).toArray⟩) wr) := qaa fun wr h => by
  have hh := h.out
  rw [← en, tx_all] at hh
  exact str_blk wr _ n n _ _ (by rw [bys_len]; exact en) hh
 have Hbad : Hid (∀ k (h : k < ks.length), ¬(0 ≤ ks[k] ∧ ks[k] ≤ 255) → ydc ks = ([], 60)) := qaa fun k h hb => text_bad ks k h hb
 have Hgood : Hid (ydd ks = true → ydc ks = (bys row0 ks, 0)) := qaa (text_good ks)
 have Hen := qaa en
 have hnn : (n : Int) ≤ 1000000 := by omega
 clear hn hr en
 generalize ydc ks = F at *
 generalize bc (List.replicate n 0) = Z0 at *
 go_enter func92, ntmps92
 go_wp2_with (go_at_call 75; refine (yfl _).mono ?_; rintro e w1 ⟨rfl, rfl⟩)
 go_loopw [15] (fun i wr => ∃ k : Nat, k ≤ n ∧ i = .int .i64 k ∧ Hid (ydd (ks.take k) = true) ∧ Hid (RHold6 w wr (rowK row0 (ks.take k)) 5 (bc (tx ks k)))) (fun i _ => n - (intOf i).toNat)
 case atStart => exact ⟨0, by omega, rfl, rfl, Hstart.out⟩
 case round =>
  obtain ⟨k, hk, rfl, Hg, Hh⟩ := hrel
  by_cases hlt : k < n
  ·have hki : (0 : Int) ≤ (k : Int) ∧ (k : Int) < n := by omega
   have hkl : k < ks.length := by rw [Hen.out]; exact hlt
   obtain ⟨b, off, rfl, hrd⟩ := Hread.out k hkl wr Hh.out.below
   by_cases hneg : ks[k] < 0
   ·have Hf := qaa (Hbad.out k hkl (by omega))
    clear Hbad
    generalize ks[k] = x at *
    go_wp2
    go_ret2
    rw [Hf.out]
    exact ⟨rfl, Hh.out.below⟩
   ·by_cases hbig : 255 < ks[k]
    ·have Hf := qaa (Hbad.out k hkl (by omega))
     clear Hbad
     generalize ks[k] = x at *
     go_wp2
     go_ret2
     rw [Hf.out]
     exact ⟨rfl, Hh.out.below⟩
    ·have hx0 : 0 ≤ ks[k] := by omega
     have Hgn := qaa (rgood_take ks k hkl Hg.out ⟨hx0, by omega⟩)
     have Hs := qaa (Hset.out k hkl)
     obtain ⟨v, hv⟩ := Hget.out k hkl
     have hst : ∀ (wr : World) (hB : Blk wr w.heap.size 162 (bc (rowK row0 (ks.take k)))), Calls prog 122 #[.pointer (some ⟨w.heap.size, 0, none⟩), .int .i64 ks[k]] wr fun e w' => e = .returned (.int .u8 (((rowK row0 (ks.take k)).getD ks[k].toNat 0).toNat : Int)) ∧ wr.grownBy w' (some w.heap.size) ∧ Blk w' w.heap.size 162 (bc (rowK row0 (ks.take (k + 1)))) := fun wr hB => by
      rw [rowK_take _ _ _ hkl]
      have := yfn _ (row0_whole.rowK _ Hg.out) ks[k].toNat (by omega) w.heap.size wr hB
      rwa [show ((ks[k].toNat : Nat) : Int) = ks[k] from by omega] at this
     have Hst := qaa (hst wr Hh.out.row)
     have hcell : ∀ w1, wr.grownBy w1 (some w.heap.size) → w1.cell? ⟨w.heap.size + 1, k, none⟩ = some v ∧ w1.frozen? ⟨w.heap.size + 1, k, none⟩ = false := fun w1 hg => ⟨by rw [(Hh.out.out.grow hg (by omega)).cell]; exact hv, (Hh.out.out.grow hg (by omega)).frozen k⟩
     have Hcell := qaa hcell
     clear hst hcell hv Hbad
     generalize (((rowK row0 (ks.take k)).getD ks[k].toNat 0).toNat : Int) = j at *
     generalize ks[k] = x at *
     go_wp2_with (go_at_call 122; refine Hst.out.mono ?_; rintro e w1 ⟨rfl, hg1, hb1⟩; obtain ⟨x1, x2⟩ := Hcell.out w1 hg1; have Hn := qaa (Hh.out.next hg1 hb1 k (.int .u8 j)); clear hg1 hb1)
     go_roundw
     case rel => exact ⟨k + 1, by omega, iv (by omega), Hgn.out, qaa (by rw [← Hs.out]; exact Hn.out)⟩
     case measure => simp only [intOf]; omega
  ·obtain rfl : k = n := by omega
   have hcv := Hend.out wr Hh.out
   have Hf := qaa (Hgood.out (by have := Hg.out; rwa [qa5 (by rw [Hen.out]; omega)] at this))
   go_wp2
   go_ret2
   rw [Hf.out]
   exact ⟨rfl, Hh.out.below⟩
theorem yem (l : List Int) (A : Option Addr) (n c : Nat) (w : World) (hm : n ≤ 1000000) (hr : Reads w w.heap.size 1 A n (ints l)) :
  Calls prog 102 #[.slice A n c] w fun e w' => HCPost w w' e (hcF l) := by
 have en : l.length = n := by have := hr.1; rw [yac] at this; omega
 have hni : (n : Int) ≤ 1000000 := by omega
 by_cases hbig : 100000 < n
 ·rw [hc_big (by omega)]
  have hb1 : (100000 : Int) < (n : Int) := by omega
  clear hr
  go_enter func102, ntmps102
  go_wp2
  go_ret2
  exact yaQ (qam _ _)
 have hb1 : ¬ (100000 : Int) < (n : Int) := by omega
 have hbl : ¬ 100000 < l.length := by omega
 obtain ⟨C, hC⟩ : ∃ C : Nat → List Value, HCells l C := ⟨_, hcells l⟩
 have hmk := fun w => tmk_ints 257 257 rfl (by decide) w
 rw [← hC.zero] at hmk
 have HC := qaa hC
 have Hcell : Hid (∀ W, Below w.heap.size w W → ∀ k (hk : k < l.length), ∃ b off, A = some ⟨b, off, none⟩ ∧ W.cell? ⟨b, off + k, none⟩ = some (.int .i64 l[k])) := qaa fun W hW k hk => by
  obtain ⟨b, off, e, hb, hc⟩ := hr.2 (by omega)
  exact ⟨b, off, e, (hW.cell (p := ⟨b, off + k, none⟩) hb).trans (hc k _ (yao l k hk))⟩
 have En := qaa en
 have Hbl := qaa hbl
 have HB0 := qaa (Blk.new w 3 (C 0).toArray)
 have HO0 := qaa ((qam w.heap.size w).alloc (qaf _) (.cells (C 0).toArray 3))
 clear hr hC en hbl
 generalize hg : w.heap.size = g at *
 go_enter func102, ntmps102
 go_wp2
 go_loopw [6, 13] (fun xv i wr => ∃ k : Nat, k ≤ n ∧ i = .int .i64 k ∧ Hid (hin (l.take k) = true) ∧ Hid (Blk wr g 3 (C k).toArray) ∧ Hid (Below g w wr)) (fun _ i _ => n - (intOf i).toNat)
 case atStart => exact ⟨0, by omega, rfl, qaa rfl, HB0, HO0⟩
 case round =>
  obtain ⟨k, hk, rfl, Hin, HB, HO⟩ := hrel
  clear HB0 HO0 hmk
  by_cases hlt : k < n
  ·have hki : (k : Int) < (n : Int) := by omega
   have hkl : k < l.length := by rw [En.out]; exact hlt
   obtain ⟨b, off, rfl, x1⟩ := Hcell.out wr HO.out k hkl
   obtain ⟨x, hx⟩ : ∃ x, l[k] = x := ⟨_, rfl⟩
   rw [hx] at x1
   by_cases hin0 : 0 ≤ x ∧ x ≤ 256
   ·obtain ⟨s, rfl⟩ := qaQ hin0.1
    have hsi : (0 : Int) ≤ (s : Int) ∧ (s : Int) < 257 ∧ (s : Int) ≤ 256 := by omega
    obtain ⟨v, hv1, hv2, hv3⟩ := HC.out.get k s (by omega)
    have x2 : wr.cell? ⟨g, s, none⟩ = some (.int .i64 (v : Int)) := by rw [HB.out.cell]; exact hv2
    have x3 := HB.out.frozen s
    have Hset := qaa (hv3 hkl hx)
    have Hin2 := qaa (hin_take k hkl Hin.out (by rw [hx]; exact hin0))
    have hvi : (0 : Int) ≤ (v : Int) ∧ (v : Int) ≤ 1000000 := by omega
    have hgl := HB.out.lt
    clear hx hv2 hv3 hin0 hkl
    go_wp2
    go_roundw
    case rel =>
     refine ⟨k + 1, by omega, iv (by omega), Hin2, qaa ?_, qaa ?_⟩
     ·rw [← Hset.out]
      exact HB.out.set_ s _
     ·exact HO.out.setCell (p := ⟨g, s, none⟩) (qaf _) _
    case measure => simp only [intOf]; omega
   ·have Hf := qaa (hc_none Hbl.out k hkl (by rw [hx]; exact hin0))
    by_cases h0 : 0 ≤ x
    ·have h1 : ¬ x ≤ 256 := by omega
     clear hx hkl
     go_wp2
     go_ret2
     rw [Hf.out]
     subst hg
     exact yaQ HO.out
    ·clear hx hkl
     go_wp2
     go_ret2
     rw [Hf.out]
     subst hg
     exact yaQ HO.out
  ·obtain rfl : k = n := by omega
   have hii : ¬ (k : Int) < (k : Int) := by omega
   have hin2 := Hin.out
   rw [qa5 (by rw [En.out]; exact qaf _)] at hin2
   have Hf := qaa (hc_all Hbl.out hin2)
   have hlast := HC.out.last
   rw [En.out] at hlast
   have HB2 : Hid (Blk wr g 3 (ints (yaF l)).toArray) := qaa (by rw [← hlast]; exact HB.out)
   clear hin2 hlast
   go_wp2
   go_ret2
   rw [Hf.out]
   subst hg
   exact hcpost_row (ya6 l) HB2.out HO.out
end Go.Proofs.YtanjhbkbpalnaaaGreat
