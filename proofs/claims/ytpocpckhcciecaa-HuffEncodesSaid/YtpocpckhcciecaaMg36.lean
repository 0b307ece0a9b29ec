/-
  What the law of the last of these texts stands on, part 36.
-/
import Derived.Test.YtpocpckhcciecaaRows
import Derived.Test.YtpocpckhcciecaaMg01
import Derived.Test.YtpocpckhcciecaaMg02
import Derived.Test.YtpocpckhcciecaaMg03
import Derived.Test.YtpocpckhcciecaaMg04
import Derived.Test.YtpocpckhcciecaaMg05
import Derived.Test.YtpocpckhcciecaaMg06
import Derived.Test.YtpocpckhcciecaaMg07
import Derived.Test.YtpocpckhcciecaaMg08
import Derived.Test.YtpocpckhcciecaaMg09
import Derived.Test.YtpocpckhcciecaaMg10
import Derived.Test.YtpocpckhcciecaaMg12
import Derived.Test.YtpocpckhcciecaaMg13
import Derived.Test.YtpocpckhcciecaaMg23
import Derived.Test.YtpocpckhcciecaaMg24
import Derived.Test.YtpocpckhcciecaaMg25
import Derived.Test.YtpocpckhcciecaaMg26
import Derived.Test.YtpocpckhcciecaaMg27
import Derived.Test.YtpocpckhcciecaaMg28
import Derived.Test.YtpocpckhcciecaaMg29
import Derived.Test.YtpocpckhcciecaaMg30
import Derived.Test.YtpocpckhcciecaaMg31
import Derived.Test.YtpocpckhcciecaaMg32
import Derived.Test.YtpocpckhcciecaaMg33
import Derived.WalkKit
import Derived.WalkSpells
import Derived.WalkLawsBesides
import Derived.ProofKit
import Derived.OpenShut
import Derived.Handy
import Derived.SizedLaws
import Derived.JoinedOf
import Derived.KernelRfl
import Derived.Lib.Hide
import Derived.Lib.SmallJoins
import Derived.Deep.Slices
import Derived.Deep.Fields
import Derived.Deep.SlicePairs
import Derived.Deep.Draws
import Derived.Deep.AppendLies
import Derived.Deep.QuietTactic
import Derived.BigQuiet
import Derived.Deep.RegionHeld3
import Derived.StillTailTactics
import Derived.Laws.OwnMore
import Derived.Laws.Rows
import Derived.Below
import Derived.Carry
import Derived.WalkMore
import Derived.Laws.BytesString
import Derived.Laws.BitsLemmas
import Derived.Laws.Concat
import Derived.Shelf.Spec.SlicesGrow
import Derived.Deep.OwnRows
import Derived.Lib.OwnBridge
import Derived.Shelf.SlSorted.Search
import Derived.Deep.RegionWith
import Derived.Laws.EntriesVeiled
import Derived.Deep.Upon
import Derived.Sort.WalkB2
import Derived.Sort.WalkB12
import Derived.Deep.LoopGhost
import Derived.Shelf.SlSortCmp.KitK
import Derived.Deep.RegionLaw
import Derived.Lib.BitFns
namespace Go.Proofs.Ytpocpckhcciecaa
set_option linter.unusedSimpArgs false
set_option linter.unusedVariables false
open Go.ChangeShapes Go.WideShapes Go.ChangeAt Go.RowKit Go.Joins Go.Deep
theorem lsingle {w1 : World} {A : Option Addr} {R : List LTh} {s0 : Nat} (hR : LHRow w1 w1.heap.size (fun _ => True) A 1 R) (h1 : R.length = 1) (hs : (R[0]'(by omega)).syms = [s0]) (o : Obj) :
    ∃ b0 off0 bs os cs0, A = some ⟨b0, off0, none⟩ ∧ (w1.alloc o).cell? ⟨b0, off0 + 1, none⟩ = some (.slice (some ⟨bs, os, none⟩) 1 cs0) ∧ (w1.alloc o).cell? ⟨bs, os, none⟩ = some (.int .i64 (s0 : Int)) := by
  have hR2 : LHRow w1 w1.heap.size (fun b => b ≠ w1.heap.size) A 1 R := hR.ok' fun b hb => by show b ≠ w1.heap.size; omega
  obtain ⟨b, off, As, cs, e, c1, c2⟩ := LHRow.cells hR2 0 (by omega)
  have hl : (R[0]'(by omega)).syms.length = 1 := by rw [hs]; rfl
  obtain ⟨bs, os, e2, c3⟩ := c2 0 (by omega)
  have hg : w1.grownBy (w1.alloc o) (some w1.heap.size) := grow_alloc (grow_refl _ _) o
  have c1' := c1 _ hg
  have c3' := c3 _ hg
  rw [hl, Nat.zero_mul, Nat.add_zero] at c1'
  have e3 : (R[0]'(by omega)).syms[0]'(by omega) = s0 := by simp only [hs, List.getElem_cons_zero]
  rw [e3, Nat.add_zero] at c3'
  subst e2
  exact ⟨b, off, bs, os, cs, e, c1', c3'⟩
theorem lzero_cell (w1 : World) (k s0 : Nat) (h : s0 < k) : (w1.alloc (.cells (ints (lout k (fun _ => 0))).toArray 3)).cell? ⟨w1.heap.size, s0, none⟩ = some (.int .i64 0) ∧ (w1.alloc (.cells (ints (lout k (fun _ => 0))).toArray 3)).frozen? ⟨w1.heap.size, s0, none⟩ = false := by
  have hB := Blk.new w1 3 (ints (lout k (fun _ => 0))).toArray
  refine ⟨?_, hB.frozen _⟩
  rw [hB.cell, List.getElem?_toArray]
  unfold ints
  rw [List.getElem?_map, lout_get k _ _ h]
  rfl
theorem pbest_fin0 (n : Nat) (BL : List Int) (F : List Int × Int) (W : World) (g : Nat) (w : World) (hl : BL.length = n) (hF : (BL, (0 : Int)) = F) (hB : Blk W g 3 (ints BL).toArray) (hw : Below w.heap.size w W) :
    ∃ A' c', Ending.returned (.tuple #[.slice (some ⟨g, 0, none⟩) n n, .int .i64 0]) = Ending.returned (.tuple #[.slice A' F.1.length c', .int .i64 F.2]) ∧ F.1.length ≤ c' ∧ Reads W W.heap.size 1 A' F.1.length (ints F.1) ∧ Below w.heap.size w W := by
  subst hF
  refine ⟨some ⟨g, 0, none⟩, n, by rw [hl], by rw [hl]; exact Nat.le_refl _, ?_, hw⟩
  refine ⟨by rw [ints_length]; omega, fun _ => ⟨g, 0, rfl, hB.lt, fun j u hu => ?_⟩⟩
  rw [Nat.zero_add, hB.cell, List.getElem?_toArray]
  exact hu
set_option maxRecDepth 100000 in
set_option maxHeartbeats 40000000 in
theorem lref_best_any (counts : List Int) (most : Int) (A : Option Addr) (n c : Nat) (w : World) (hm : n ≤ 100000) (hr : Reads w w.heap.size 1 A n (ints counts)) :
    Calls Try.prog 47 #[.slice A n c, .int .i64 most] w fun e w' => ∃ A' c', e = .returned (.tuple #[.slice A' (lbestF counts most).1.length c', .int .i64 (lbestF counts most).2]) ∧ (lbestF counts most).1.length ≤ c' ∧ Reads w' w'.heap.size 1 A' (lbestF counts most).1.length (ints (lbestF counts most).1) ∧ Below w.heap.size w w' := by
  have en : counts.length = n := by have := hr.1; rw [ints_length] at this; omega
  have Hcell : Hid (0 < n → ∃ b off, A = some ⟨b, off, none⟩ ∧ ∀ k, (hk : k < counts.length) → w.cell? ⟨b, off + k, none⟩ = some (.int .i64 counts[k])) := Lib.hid fun h => by
    obtain ⟨b, off, e, hb, hc⟩ := hr.2 h
    exact ⟨b, off, e, fun k hk => hc k _ (ints_get counts k hk)⟩
  have hni : (n : Int) ≤ 100000 := by omega
  have En := Lib.hid en
  have Hr := Lib.hid hr
  obtain ⟨F, hF⟩ : ∃ F, lbestF counts most = F := ⟨_, rfl⟩
  rw [hF]
  unfold lbestF at hF
  rw [en] at hF
  clear hr en
  by_cases h1 : 257 < n
  · have h1i : (257 : Int) < n := by omega
    rw [if_pos h1] at hF
    have Hf := Lib.hid hF
    clear hF
    go_enter Try.func47, Try.ntmps47
    go_wp2
    go_ret2
    rw [← Hf.out]
    exact ⟨none, 0, rfl, Nat.le_refl _, Reads.none_, Below.refl _ _⟩
  · have h1i : ¬ (257 : Int) < n := by omega
    rw [if_neg h1] at hF
    by_cases h2 : most < 1
    · rw [if_pos (Or.inl h2)] at hF
      have Hf := Lib.hid hF
      clear hF
      go_enter Try.func47, Try.ntmps47
      go_wp2
      go_ret2
      rw [← Hf.out]
      exact ⟨none, 0, rfl, Nat.le_refl _, Reads.none_, Below.refl _ _⟩
    · by_cases h3 : 15 < most
      · rw [if_pos (Or.inr h3)] at hF
        have Hf := Lib.hid hF
        clear hF
        go_enter Try.func47, Try.ntmps47
        go_wp2
        go_ret2
        rw [← Hf.out]
        exact ⟨none, 0, rfl, Nat.le_refl _, Reads.none_, Below.refl _ _⟩
      · rw [if_neg (by omega)] at hF
        obtain ⟨L, rfl⟩ : ∃ L : Nat, most = L := ⟨most.toNat, by omega⟩
        rw [Int.toNat_natCast] at hF
        have Hbad : Hid (∀ k (hk : k < counts.length), ¬(0 ≤ counts[k] ∧ counts[k] ≤ 1000000) → F = ([], 2)) := Lib.hid fun k hk hb => by
          rw [← hF, if_neg fun h => hb (cgood_get h k hk)]
        have Hgood : Hid ((∀ k (hk : k < counts.length), 0 ≤ counts[k] ∧ counts[k] ≤ 1000000) → cgood counts = true) := Lib.hid cgood_of
        have HF := Lib.hid hF
        have hL : 1 ≤ L ∧ L ≤ 15 := by omega
        clear hF
        go_enter Try.func47, Try.ntmps47
        go_wp2
        go_loop [6] (fun i => ∃ k : Nat, k ≤ n ∧ i = .int .i64 k ∧ Hid (∀ j (hj : j < counts.length), j < k → 0 ≤ counts[j] ∧ counts[j] ≤ 1000000)) (fun i => n - (intOf i).toNat)
        case atStart => exact ⟨0, by omega, rfl, fun j _ h => by omega⟩
        case round =>
          obtain ⟨k, hk, rfl, Hk⟩ := hrel
          by_cases hlt : k < n
          · have hki : (0 : Int) ≤ (k : Int) ∧ (k : Int) < n := by omega
            have hkl : k < counts.length := by rw [En.out]; exact hlt
            obtain ⟨b, off, rfl, hcell⟩ := Hcell.out (by omega)
            have hx := hcell k hkl
            have Hb2 := Lib.hid (Hbad.out k hkl)
            have Hn : Hid (0 ≤ counts[k] ∧ counts[k] ≤ 1000000 → ∀ j (hj : j < counts.length), j < k + 1 → 0 ≤ counts[j] ∧ counts[j] ≤ 1000000) := Lib.hid fun h j hj h4 => by
              rcases Nat.lt_or_ge j k with h5 | h5
              · exact Hk.out j hj h5
              · obtain rfl : j = k := by omega
                exact h
            clear hcell Hbad Hgood HF
            generalize counts[k] = x at *
            by_cases hneg : x < 0
            · have Hf := Lib.hid (Hb2.out (by omega))
              go_wp2
              go_ret2
              rw [Hf.out]
              exact ⟨none, 0, rfl, Nat.le_refl _, Reads.none_, Below.refl _ _⟩
            · by_cases hbig : 1000000 < x
              · have Hf := Lib.hid (Hb2.out (by omega))
                go_wp2
                go_ret2
                rw [Hf.out]
                exact ⟨none, 0, rfl, Nat.le_refl _, Reads.none_, Below.refl _ _⟩
              · have Hn2 := Lib.hid (Hn.out (by omega))
                go_wp2
                go_round
                case rel => exact ⟨k + 1, by omega, iv (by omega), Hn2.out⟩
                case measure => simp only [intOf]; omega
          · obtain rfl : k = n := by omega
            have hg : cgood counts = true := Hgood.out fun j hj => Hk.out j hj (by have := En.out; omega)
            have hf := HF.out
            rw [if_pos hg] at hf
            have hml : (lleaves counts).length ≤ k := by have := lleaves_len counts; have := En.out; omega
            have Hfirst := Lib.hid fun ok hok => lref_first_any ok counts A k c w (by omega) hok Hr.out
            have Hpow := Lib.hid (lref_power_any L hL.2)
            have hp15 : (2 ^ L : Nat) ≤ 32768 := Nat.le_trans (Nat.pow_le_pow_right (by omega) hL.2) (by decide)
            have Hfits := Lib.hid (lrow_fits counts hg)
            have HLl := Lib.hid (lleaves_ok counts)
            have Hlp := Lib.hid (lleaves_pos counts)
            have Hone : Hid (∀ (h : (lleaves counts).length = 1) s, ((lleaves counts)[0]'(by omega)).syms = [s] → s < counts.length ∧ (lout counts.length (fun _ => 0)).set s 1 = lbestL counts L) := Lib.hid fun h s hs => lbestL_one counts L s h hs
            have Hmany : Hid ((lleaves counts).length ≠ 1 → lbestL counts L = lout k (fun s => lsum (lhas s) ((lrow (lleaves counts) (L - 1)).take (2 * (lleaves counts).length - 2)))) := Lib.hid fun h => by rw [lbestL_many counts L h, En.out]; rfl
            have Hsy : Hid (∀ x ∈ lleaves counts, ∃ s, x.syms = [s]) := Lib.hid fun x hx => by
              obtain ⟨j, hj, _, rfl⟩ := (lleaves_mem counts x).1 hx
              exact ⟨j, rfl⟩
            have hmk := fun W => lmk_ints (k : Int) k rfl (by omega) W
            rw [lout_zero] at hmk
            clear Hbad Hgood HF hg Hk Hr Hcell
            generalize lbestL counts L = BL at *
            by_cases hbig : 2 ^ L < (lleaves counts).length
            · rw [if_pos hbig] at hf
              have Hf := Lib.hid hf
              have hbi : ((2 ^ L : Nat) : Int) < ((lleaves counts).length : Int) := by omega
              have Hft := Lib.hid (Hfirst.out (fun _ => True) (fun _ _ => trivial))
              clear hf Hfirst hbig Hfits
              generalize (2 ^ L : Nat) = PW at *
              go_wp2_with (first
                | (go_at_call 68; refine Hft.out.mono ?_; rintro e w1 ⟨Af, cf, rfl, hcf, hRf, hb1⟩; have Hb1 := Lib.hid hb1; clear hb1 hRf)
                | (go_at_call 33; refine (Hpow.out _).mono ?_; rintro e w2 ⟨rfl, rfl⟩))
              go_ret2
              rw [← Hf.out]
              exact ⟨none, 0, rfl, Nat.le_refl _, Reads.none_, Hb1.out⟩
            · rw [if_neg hbig] at hf
              have Hf := Lib.hid hf
              have hbi : ¬ ((2 ^ L : Nat) : Int) < ((lleaves counts).length : Int) := by omega
              have Hroom : Hid (2 ≤ (lleaves counts).length → 2 * (lleaves counts).length - 2 ≤ (lrow (lleaves counts) (L - 1)).length) := Lib.hid fun h => lrow_room HLl.out Hlp.out (L - 1) h (by rw [show L - 1 + 1 = L from by omega]; omega)
              clear hf hbig
              have Hft := Lib.hid (Hfirst.out (fun _ => True) (fun _ _ => trivial))
              clear Hfirst
              have hmlk : (lleaves counts).length ≤ 257 := by omega
              by_cases hm2 : 2 ≤ (lleaves counts).length
              · have hne1 : ((lleaves counts).length : Int) ≠ 1 := by omega
                have hbe1 : (((lleaves counts).length : Int) == 1) = false := by simpa using hne1
                have hlt2 : ¬ ((lleaves counts).length : Int) < 2 := by omega
                have HBL := Lib.hid (Hmany.out (by omega))
                obtain ⟨m, hmm⟩ : ∃ m, (lleaves counts).length = m := ⟨_, rfl⟩
                rw [hmm] at Hft HBL Hroom hmlk hm2 hne1 hbe1 hlt2 hbi
                have Hmm := Lib.hid hmm
                clear hmm Hone Hmany hml
                generalize (2 ^ L : Nat) = PW at *
                go_wp2_with (first
                  | (go_at_call 68; refine Hft.out.mono ?_; rintro e w1 ⟨Af, cf, rfl, hcf, hRf, hb1⟩; have Hb1 := Lib.hid hb1; have HRf := Lib.hid hRf; have Hcf := Lib.hid hcf; clear hb1 hRf hcf)
                  | (go_at_call 33; refine (Hpow.out _).mono ?_; rintro e w1 ⟨rfl, rfl⟩))
                have hgz : Hid (Blk (w1.alloc (.cells (ints (lout k (fun _ => 0))).toArray 3)) w1.heap.size 3 (ints (lout k (fun _ => 0))).toArray) := Lib.hid (Blk.new _ _ _)
                have Hw2 : Hid (Below w1.heap.size w1 (w1.alloc (.cells (ints (lout k (fun _ => 0))).toArray 3))) := Lib.hid ((Below.refl _ _).alloc (Nat.le_refl _) _)
                have hsz2 : (w1.alloc (.cells (ints (lout k (fun _ => 0))).toArray 3)).heap.size = w1.heap.size + 1 := by simp
                have HL1 : Hid (LHRow w1 w1.heap.size (fun b => b ≠ w1.heap.size) Af m (lleaves counts)) := Lib.hid (HRf.out.ok' fun b hb => by omega)
                generalize w1.alloc (.cells (ints (lout k (fun _ => 0))).toArray 3) = w2 at *
                have HL2 : Hid (LHRow w2 w2.heap.size (fun b => b ≠ w1.heap.size) Af m (lleaves counts)) := Lib.hid ((HL1.out.below Hw2.out).more Hw2.out.size)
                have Hsz2 := Lib.hid hsz2
                clear hsz2 hmk
                have hLi : (1 : Int) ≤ (L : Int) ∧ (L : Int) ≤ 15 := by omega
                have hd1 : decide (PW < m) = false := decide_eq_false (by omega)
                have hd2 : decide ((m : Int) < 2) = false := decide_eq_false (by omega)
                rw [hd1, hd2]
                go_loopw [9, 10] (fun v i W => ∃ (q pr cr : Nat) (Ar : Option Addr), q + 1 ≤ L ∧ pr ≤ cr ∧ v = .slice Ar pr cr ∧ i = .int .i64 ((q : Int) + 1) ∧ Hid (LHRow W W.heap.size (fun b => b ≠ w1.heap.size) Ar pr (lrow (lleaves counts) q)) ∧ Hid (Below w2.heap.size w2 W)) (fun _ i _ => L - (intOf i).toNat)
                case atStart => exact ⟨0, m, cf, Af, by omega, Hcf.out, rfl, rfl, HL2.out, Below.refl _ _⟩
                case round =>
                  obtain ⟨q, pr, cr, Ar, hq, hpr, rfl, rfl, HRr, HbW⟩ := hrel
                  by_cases hql : q + 1 < L
                  · have hqi : (0 : Int) ≤ (q : Int) ∧ (q : Int) + 1 < (L : Int) := by omega
                    have hprl : pr ≤ 514 := by
                      have h1 := HRr.out.1
                      have h2 := lrow_short HLl.out q
                      have h3 := Hmm.out
                      omega
                    have hq15 : (2 ^ q : Nat) ≤ 32768 := Nat.le_trans (Nat.pow_le_pow_right (by omega) (show q ≤ 15 by omega)) (by decide)
                    have Hnext := Lib.hid (lref_next_any (fun b => b ≠ w1.heap.size) (lrow (lleaves counts) q) (lleaves counts) Ar Af pr cr m cf wr (by omega) hpr (by omega) Hcf.out (fun x hx => by
                      obtain ⟨f1, f2, f3, _⟩ := Hfits.out q x hx
                      refine ⟨by omega, f2, ?_⟩
                      have : ((2 ^ q : Nat) : Int) * 1000000 ≤ 32768 * 1000000 := Int.mul_le_mul_of_nonneg_right (by omega) (by omega)
                      omega) (fun b hb => by have := HbW.out.size; have := Hsz2.out; omega) HRr.out ((HL2.out.below HbW.out).more HbW.out.size))
                    rw [show lnext (lrow (lleaves counts) q) (lleaves counts) = lrow (lleaves counts) (q + 1) from rfl] at Hnext
                    clear hq15
                    go_wp2_with (go_at_call 69; refine Hnext.out.mono ?_; rintro e w5 ⟨A5, c5, rfl, hc5, hR5, hb5⟩; have Hc5 := Lib.hid hc5; have HR5 := Lib.hid hR5; have Hb5 := Lib.hid (HbW.out.trans (hb5.mono HbW.out.size)); clear hc5 hR5 hb5)
                    go_roundw
                    case rel => exact ⟨q + 1, _, c5, A5, by omega, Hc5.out, rfl, by rw [show (((q + 1 : Nat) : Int) + 1) = (q : Int) + 1 + 1 from by omega], HR5.out, Hb5.out⟩
                    case measure => simp only [intOf]; omega
                  · obtain rfl : L = q + 1 := by omega
                    have hql2 : ¬ (q : Int) + 1 < ((q + 1 : Nat) : Int) := by omega
                    have hroom := Hroom.out hm2
                    rw [show q + 1 - 1 = q from rfl] at hroom HBL
                    have Hrow := Lib.hid fun i hi => LHRow.cells HRr.out i hi
                    have Hsin : Hid (∀ i (hi : i < (lrow (lleaves counts) q).length) t (ht : t < (lrow (lleaves counts) q)[i].syms.length), (lrow (lleaves counts) q)[i].syms[t] < k) := Lib.hid fun i hi t ht => by
                      have := (Hfits.out q _ (List.getElem_mem hi)).2.2.2 _ (List.getElem_mem ht)
                      rw [En.out] at this
                      exact this
                    have hprr := HRr.out.1
                    have Hsl : Hid (∀ x ∈ lrow (lleaves counts) q, x.syms.length ≤ 400000) := Lib.hid fun x hx => by
                      have := (Hfits.out q x hx).1
                      have h6 : (2 ^ q : Nat) ≤ 32768 := Nat.le_trans (Nat.pow_le_pow_right (by omega) (show q ≤ 15 by omega)) (by decide)
                      omega
                    have HbWw : Hid (Below w.heap.size w wr) := Lib.hid (Hb1.out.trans ((Hw2.out.trans (HbW.out.mono Hw2.out.size)).mono Hb1.out.size))
                    have HzW : Hid (Blk wr w1.heap.size 3 (ints (lout k (fun s => lsum (lhas s) ((lrow (lleaves counts) q).take 0)))).toArray) := Lib.hid (hgz.out.below HbW.out (by rw [Hsz2.out]; omega))
                    have Hg1 : Hid (w.heap.size ≤ w1.heap.size) := Lib.hid Hb1.out.size
                    clear HRr HbW hgz Hfits Hpow Hft HLl Hlp Hsy
                    generalize lrow (lleaves counts) q = RW at *
                    obtain ⟨WR, rfl⟩ : ∃ W, W = wr := ⟨wr, rfl⟩
                    obtain ⟨t, ht⟩ : ∃ t, 2 * m - 2 = t := ⟨_, rfl⟩
                    rw [ht] at HBL hroom
                    have zt : 2 * (m : Int) - 2 = (t : Int) := by omega
                    have hti : (t : Int) ≤ 514 := by omega
                    have hB0 : Hid (Blk WR w1.heap.size 3 (ints (lout k (lfar RW 0 0))).toArray) := Lib.hid (by
                      rw [lout_congr k (lfar RW 0 0) (fun s => lsum (lhas s) (RW.take 0)) fun s _ => lfar_zero RW 0 s]
                      exact HzW.out)
                    go_wp2
                    go_loopw [11, 12, 13] (fun i j sy W => ∃ ki : Nat, ki ≤ t ∧ i = .int .i64 ki ∧ Hid (Blk W w1.heap.size 3 (ints (lout k (lfar RW ki 0))).toArray) ∧ Hid (WR.grownBy W (some w1.heap.size))) (fun i _ _ _ => t - (intOf i).toNat)
                    case atStart => exact ⟨0, by omega, rfl, hB0, grow_refl _ _⟩
                    case round =>
                      obtain ⟨ki, hk1, rfl, HB, HG⟩ := hrel
                      by_cases hlt : ki < t
                      · have hki : (0 : Int) ≤ (ki : Int) ∧ (ki : Int) < (t : Int) := by omega
                        have hkR : ki < RW.length := by omega
                        obtain ⟨b, off, As, cs, rfl, hc1, hc2⟩ := Hrow.out ki hkR
                        have Hc1 := Lib.hid hc1
                        have Hsy := Lib.hid hc2
                        have Hfk := Lib.hid fun q2 hq2 => Hsin.out ki hkR q2 hq2
                        have hns : RW[ki].syms.length ≤ 400000 := Hsl.out _ (List.getElem_mem hkR)
                        have Hbnd : Hid (∀ q2 s, 0 ≤ lfar RW ki q2 s ∧ lfar RW ki q2 s ≤ 400000 * (ki + 1)) := Lib.hid fun q2 s => lfar_bound RW ki q2 s hkR Hsl.out
                        clear hc1 hc2
                        obtain ⟨ns, hns2⟩ : ∃ ns, RW[ki].syms.length = ns := ⟨_, rfl⟩
                        rw [hns2] at Hc1 hns
                        have Hns := Lib.hid hns2
                        have hkp : (ki : Int) < (pr : Int) := by omega
                        clear hns2
                        go_wp2
                        go_loopw [12, 13] (fun j sy W => ∃ q2 : Nat, q2 ≤ ns ∧ j = .int .i64 q2 ∧ Hid (Blk W w1.heap.size 3 (ints (lout k (lfar RW ki q2))).toArray) ∧ Hid (WR.grownBy W (some w1.heap.size))) (fun j _ _ => ns - (intOf j).toNat)
                        case atStart => exact ⟨0, by omega, rfl, HB, HG⟩
                        case round =>
                          obtain ⟨q2, hq2, rfl, HB2, HG2⟩ := hrel
                          clear HB HG
                          have hsl := Hc1.out _ HG2.out
                          by_cases hqt : q2 < ns
                          · have hqi : (0 : Int) ≤ (q2 : Int) ∧ (q2 : Int) < (ns : Int) := by omega
                            have hqs : q2 < RW[ki].syms.length := by rw [Hns.out]; exact hqt
                            obtain ⟨bs, os, rfl, hcs⟩ := Hsy.out q2 hqs
                            have hsc := hcs _ HG2.out
                            have hsn := Hfk.out q2 hqs
                            obtain ⟨d1, d2, d3⟩ := lcount_one HB2.out hkR hqs hsn
                            have hbd := Hbnd.out q2 RW[ki].syms[q2]
                            have HB3 := Lib.hid d3
                            have hsi : (0 : Int) ≤ (RW[ki].syms[q2] : Int) ∧ (RW[ki].syms[q2] : Int) < (k : Int) := by omega
                            clear d3 hcs
                            generalize lfar RW ki q2 RW[ki].syms[q2] = fv at *
                            generalize RW[ki].syms[q2] = sy at *
                            have hfv : (0 : Int) ≤ fv ∧ fv ≤ 400000000 := by omega
                            go_wp2
                            go_roundw
                            case rel => exact ⟨q2 + 1, by omega, iv (by omega), HB3, Lib.hid (grow_set HG2.out (Or.inl rfl) _)⟩
                            case measure => simp only [intOf]; omega
                          · have hqi : ¬ (q2 : Int) < (ns : Int) := by omega
                            obtain rfl : q2 = ns := by omega
                            have hb4 := HB2.out
                            rw [← Hns.out] at hb4
                            have HB4 := Lib.hid (lcount_next hkR hb4)
                            clear hb4
                            go_wp2
                            go_roundw
                            case rel => exact ⟨ki + 1, by omega, iv (by omega), HB4, HG2⟩
                            case measure => simp only [intOf]; omega
                      · have hki : ¬ (ki : Int) < (t : Int) := by omega
                        obtain rfl : ki = t := by omega
                        go_wp2
                        go_ret2
                        exact pbest_fin RW k ki BL F _ w1.heap.size w HBL.out Hf.out HB.out (pbest_grow HbWw.out HG.out Hg1.out)
              · have hlt2 : ((lleaves counts).length : Int) < 2 := by omega
                have hf0 : BL.length = k → (BL, (0 : Int)) = F := fun _ => Hf.out
                by_cases hm1 : (lleaves counts).length = 1
                · obtain ⟨s0, hs0⟩ := Hsy.out ((lleaves counts)[0]'(by omega)) (List.getElem_mem _)
                  obtain ⟨hsn, hset⟩ := Hone.out hm1 s0 hs0
                  have hsn2 : s0 < k := by rw [← En.out]; exact hsn
                  rw [En.out] at hset
                  have Hset := Lib.hid hset
                  have Hs0 := Lib.hid hs0
                  have Hm1 := Lib.hid hm1
                  have hlt3 : (0 : Int) ≤ (s0 : Int) ∧ (s0 : Int) < (k : Int) := by omega
                  clear hset hs0 Hmany hsn hlt2
                  generalize (2 ^ L : Nat) = PW at *
                  obtain ⟨m, hmm⟩ : ∃ m, (lleaves counts).length = m := ⟨_, rfl⟩
                  rw [hmm] at Hft hbi hmlk hm2 hm1
                  have Hmm := Lib.hid hmm
                  clear hmm hml
                  obtain rfl : m = 1 := hm1
                  go_wp2_with (first
                    | (go_at_call 68; refine Hft.out.mono ?_; rintro e w1 ⟨Af, cf, rfl, hcf, hRf, hb1⟩; have Hb1 := Lib.hid hb1; have HRf := Lib.hid hRf; obtain ⟨b0, off0, bs0, os0, cs0, e0, y1, y2⟩ := lsingle hRf Hmm.out Hs0.out (.cells (ints (lout k (fun _ => 0))).toArray 3); subst e0; obtain ⟨z1, z2⟩ := lzero_cell w1 k s0 hsn2; clear hb1 hRf hcf)
                    | (go_at_call 33; refine (Hpow.out _).mono ?_; rintro e w1 ⟨rfl, rfl⟩))
                  go_ret2
                  have hset2 : (ints (lout k (fun _ => 0))).set s0 (.int .i64 1) = ints BL := by
                    rw [← Hset.out]
                    simp [ints, List.map_set]
                  have hB2 : Blk (w1.alloc (.cells ((ints (lout k (fun _ => 0))).set s0 (.int .i64 1)).toArray 3)) w1.heap.size 3 (ints BL).toArray := by
                    rw [hset2]
                    exact Blk.new w1 _ _
                  exact pbest_fin0 k BL F _ w1.heap.size w (by rw [← Hset.out, List.length_set, lout_len]) Hf.out hB2 (Hb1.out.alloc Hb1.out.size _)
                · have HBL := Lib.hid (Hmany.out hm1)
                  generalize (2 ^ L : Nat) = PW at *
                  obtain ⟨m, hmm⟩ : ∃ m, (lleaves counts).length = m := ⟨_, rfl⟩
                  rw [hmm] at Hft hbi hmlk hm2 hm1 HBL
                  clear hmm hml Hmany Hone hlt2
                  obtain rfl : m = 0 := by omega
                  go_wp2_with (first
                    | (go_at_call 68; refine Hft.out.mono ?_; rintro e w1 ⟨Af, cf, rfl, hcf, hRf, hb1⟩; have Hb1 := Lib.hid hb1; clear hb1 hRf hcf)
                    | (go_at_call 33; refine (Hpow.out _).mono ?_; rintro e w1 ⟨rfl, rfl⟩))
                  go_ret2
                  have hB2 := Blk.new w1 3 (ints (lout k (fun _ => 0))).toArray
                  have hBL : BL = lout k (fun _ => 0) := HBL.out
                  rw [← hBL] at hB2 ⊢
                  exact pbest_fin0 k BL F _ w1.heap.size w (by rw [hBL, lout_len]) Hf.out hB2 (Hb1.out.alloc Hb1.out.size _)
end Go.Proofs.Ytpocpckhcciecaa
namespace Go.Proofs.Ytpocpckhcciecaa
set_option linter.unusedSimpArgs false
set_option linter.unusedVariables false
open Go.ChangeShapes Go.WideShapes Go.ChangeAt Go.RowKit Go.Joins Go.Deep
set_option maxRecDepth 100000 in
set_option maxHeartbeats 2000000 in
theorem refGamma_yes (n : Int) (w : World) (h : hasG n) : Calls Try.prog 71 #[.int .i64 n] w fun e w' =>
    ∃ A c, e = .returned (.tuple #[.slice A (gam n.toNat).length c, .bool true]) ∧ w'.ownsRow w.heap.size 3 1 (.slice A (gam n.toNat).length c) (gam n.toNat).length (bcs (gam n.toNat)) ∧ Below w.heap.size w w' := by
  obtain ⟨i0, hi, hz0, hz1, hz2⟩ := info_parts bint_info
  obtain ⟨h1, h2⟩ := h
  obtain ⟨N, rfl⟩ := Int.eq_ofNat_of_zero_le (by omega : 0 ≤ n)
  rw [Int.toNat_natCast]
  have HN : Hid (1 ≤ N ∧ N ≤ 4294967295) := Lib.hid (by omega)
  go_enter Try.func71, Try.ntmps71
  go_wp2
  clear h1 h2
  go_loop [4, 5] (fun k m => ∃ j M : Nat, j ≤ 32 ∧ k = .int .i64 j ∧ m = .int .i64 M ∧ Hid (M = N / 2 ^ j ∧ 1 ≤ M)) (fun _ m => (intOf m).toNat)
  case atStart => exact ⟨0, N, by omega, rfl, rfl, Lib.hid ⟨by simp, HN.out.1⟩⟩
  case round =>
    obtain ⟨j, M, hj, rfl, rfl, HM⟩ := hrel
    have hM32 : (M : Int) ≤ 4294967295 := by have := HM.out.1; have := HN.out.2; have : N / 2 ^ j ≤ N := Nat.div_le_self _ _; omega
    by_cases hlt : 1 < M
    · have hMi : (1 : Int) < M := by omega
      have hj32 : j < 32 := by
        have h1 := HM.out.1
        rcases Nat.lt_or_ge j 32 with e | e
        · exact e
        · have h3 : N / 2 ^ j = 0 := Nat.div_eq_of_lt (by
            have h4 : 2 ^ 32 ≤ 2 ^ j := Nat.pow_le_pow_right (by omega) e
            rw [show (2 : Nat) ^ 32 = 4294967296 from by decide] at h4
            have := HN.out.2
            omega)
          omega
      have hji : (j : Int) < 32 := by omega
      go_wp2
      go_round
      case rel => exact ⟨j + 1, M / 2, by omega, iv (by omega), iv (by omega), Lib.hid ⟨by rw [HM.out.1, Nat.pow_succ, Nat.div_div_eq_div_mul], by omega⟩⟩
      case measure => simp only [intOf]; omega
    · have hMi : ¬ (1 : Int) < M := by omega
      have hp : 0 < 2 ^ j := Nat.pow_pos (by omega)
      have hM1 : N / 2 ^ j = 1 := by have := HM.out; omega
      have hlo : 2 ^ j ≤ N := by
        have := Nat.div_mul_le_self N (2 ^ j)
        rw [hM1] at this
        omega
      have hhi : N < 2 ^ (j + 1) := by
        rw [Nat.pow_succ, Nat.mul_comm]
        have := Nat.lt_mul_of_div_lt (show N / 2 ^ j < 2 by omega) hp
        omega
      have hg := gam_is hlo hhi (by have := HN.out; omega)
      have hj31 : j ≤ 31 := by
        rcases Nat.lt_or_ge j 32 with e | e
        · omega
        · have h4 : 2 ^ 32 ≤ 2 ^ j := Nat.pow_le_pow_right (by omega) e
          rw [show (2 : Nat) ^ 32 = 4294967296 from by decide] at h4
          have := HN.out.2
          omega
      have hji : (j : Int) ≤ 31 := by omega
      have hdg := fun W => refDig_yes (N : Int) ((j + 1 : Nat) : Int) W ⟨by omega, by omega, by omega, by rw [Int.toNat_natCast]; exact_mod_cast hhi⟩
      have hmk := fun W => run_make_ints j (by omega) W
      have e1 : (j : Int) + 1 = ((j + 1 : Nat) : Int) := by omega
      have hD : (digI (N : Int) ((j + 1 : Nat) : Int)) = dig (j + 1) N := rfl
      have hDl : (digI (N : Int) ((j + 1 : Nat) : Int)).length = j + 1 := dig_length _ _
      rw [← hD] at hg
      rw [Int.toNat_natCast] at hdg
      have hgl : (gam N).length = j + (j + 1) := by rw [hg, List.length_append, List.length_replicate, hDl]
      have Hg := Lib.hid hg
      have Hgl := Lib.hid hgl
      have HDl := Lib.hid hDl
      have Hdg := Lib.hid hdg
      have E1 := Lib.hid e1
      clear hg hgl hDl hdg hD hp hM1 hlo hhi e1
      generalize digI (N : Int) ((j + 1 : Nat) : Int) = D at *
      go_wp2_with (first
        | (go_at_call 70; rw [E1.out]; refine (Hdg.out _).mono ?_; rintro e w1 ⟨g, rfl, hB1, hg1, hb1⟩)
        | (at_builtin; refine wpList_append_sep _ rfl _ _ 22 rfl w.heap.size 3 i0 (.int .i64 0) 1 8 Try.underlying22 hi hz0 hz1 hz2 rfl (by decide) _ _ _ rfl (World.ownsRow_lit (base := w.heap.size) (e := 3) (size := 1) w1 (bcs (List.replicate j 0)).toArray j hb1.size (by unfold maxLen; omega) (by simp [bcs])) _ (j + 1) (j + 1) _ _ rfl (blk_reads _ (hB1.alloc _) (j + 1) (by rw [bcs_length]; exact HDl.out)) ?c1 ?c2 ?c3 ?c4 ?_))
      case c1 => exact bcs_one _
      case c2 => unfold maxLen; omega
      case c3 => omega
      case c4 => have := hb1.size; simp; omega
      intro v2 w2 hown2 hgrow hsep
      obtain ⟨A', c', rfl, hc', hr'⟩ := owns_cells hown2
      have hb2 : Below w.heap.size w w2 := ((hb1.alloc hb1.size _)).grown hgrow (by have := hb1.size; simp; omega) (fun g hg => by injection hg with hg; simp only at hg; have := hb1.size; omega)
      have Hb2 := Lib.hid hb2
      have Hr' := Lib.hid hown2
      clear hb2 hr' hown2 hgrow hsep hB1 hb1
      go_wp2
      go_ret2
      refine ⟨A', c', by rw [Hgl.out]; rfl, ?_, Hb2.out⟩
      have h5 := Hr'.out
      rw [Hgl.out, Hg.out, bcs_append]
      exact h5
end Go.Proofs.Ytpocpckhcciecaa
