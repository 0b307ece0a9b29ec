/-
 What the law of the last of these texts stands on, part 27.
-/
import Derived.Test.YtanjhbkbpalnaaaGreatMa14
set_option maxRecDepth 100000
set_option maxHeartbeats 8000000
open Go.Proofs.Tryz
namespace Go.Proofs.YtanjhbkbpalnaaaGreat
set_option linter.unusedSimpArgs false
set_option linter.unusedVariables false
open Go.ChangeShapes Go.WideShapes Go.ChangeAt Go.RowKit Go.Joins Go.Deep
theorem lsingle {w1 : World} {A : Option Addr} {R : List LTh} {s0 : Nat} (hR : LHRow w1 w1.heap.size (fun _ => True) A 1 R) (h1 : R.length = 1) (hs : (R[0]'(by omega)).syms = [s0]) (o : Obj) :
  ∃ b0 off0 bs os cs0, A = some ⟨b0, off0, none⟩ ∧ (w1.alloc o).cell? ⟨b0, off0 + 1, none⟩ = some (.slice (some ⟨bs, os, none⟩) 1 cs0) ∧ (w1.alloc o).cell? ⟨bs, os, none⟩ = some (.int .i64 (s0 : Int)) := by
 have hR2 : LHRow w1 w1.heap.size (fun b => b ≠ w1.heap.size) A 1 R := hR.ok' fun b hb => by show b ≠ w1.heap.size; omega
 obtain ⟨b, off, As, cs, e, c1, c2⟩ := LHRow.cells hR2 0 (by omega)
 have hl : (R[0]'(by omega)).syms.length = 1 := by rw [hs]; rfl
 obtain ⟨bs, os, e2, c3⟩ := c2 0 (by omega)
 have hg : w1.grownBy (w1.alloc o) (some w1.heap.size) := ydC (ycT _ _) o
 have c1' := c1 _ hg
 have c3' := c3 _ hg
 rw [hl, Nat.zero_mul, qbv] at c1'
 have e3 : (R[0]'(by omega)).syms[0]'(by omega) = s0 := by simp only [hs, qaE]
 rw [e3, qbv] at c3'
 subst e2
 exact ⟨b, off, bs, os, cs, e, c1', c3'⟩
theorem lzero_cell (w1 : World) (k s0 : Nat) (h : s0 < k) : (w1.alloc (.cells (ints (lout k (fun _ => 0))).toArray 3)).cell? ⟨w1.heap.size, s0, none⟩ = some (.int .i64 0) ∧ (w1.alloc (.cells (ints (lout k (fun _ => 0))).toArray 3)).frozen? ⟨w1.heap.size, s0, none⟩ = false := by
 have hB := Blk.new w1 3 (ints (lout k (fun _ => 0))).toArray
 refine ⟨?_, hB.frozen _⟩
 rw [hB.cell, qaB]
 unfold ints
 rw [List.getElem?_map, ye2 k _ _ h]
 rfl
theorem pbest_fin0 (n : Nat) (BL : List Int) (F : List Int × Int) (W : World) (g : Nat) (w : World) (hl : BL.length = n) (hF : (BL, (0 : Int)) = F) (hB : Blk W g 3 (ints BL).toArray) (hw : Below w.heap.size w W) :
  ∃ A' c', Ending.returned (.tuple #[.slice (some ⟨g, 0, none⟩) n n, .int .i64 0]) = Ending.returned (.tuple #[.slice A' F.1.length c', .int .i64 F.2]) ∧ F.1.length ≤ c' ∧ Reads W W.heap.size 1 A' F.1.length (ints F.1) ∧ Below w.heap.size w W := by
 subst hF
 refine ⟨some ⟨g, 0, none⟩, n, by rw [hl], by rw [hl]; exact qad _, ?_, hw⟩
 refine ⟨by rw [yab]; omega, fun _ => ⟨g, 0, rfl, hB.lt, fun j u hu => ?_⟩⟩
 rw [qaz, hB.cell, qaB]
 exact hu
theorem lref_best_any (counts : List Int) (most : Int) (A : Option Addr) (n c : Nat) (w : World) (hm : n ≤ 100000) (hr : Reads w w.heap.size 1 A n (ints counts)) :
  Calls prog 111 #[.slice A n c, .int .i64 most] w fun e w' => ∃ A' c', e = .returned (.tuple #[.slice A' (yb9 counts most).1.length c', .int .i64 (yb9 counts most).2]) ∧ (yb9 counts most).1.length ≤ c' ∧ Reads w' w'.heap.size 1 A' (yb9 counts most).1.length (ints (yb9 counts most).1) ∧ Below w.heap.size w w' := by
 have en : counts.length = n := by have := hr.1; rw [yab] at this; omega
 have Hcell : Hid (0 < n → ∃ b off, A = some ⟨b, off, none⟩ ∧ ∀ k, (hk : k < counts.length) → w.cell? ⟨b, off + k, none⟩ = some (.int .i64 counts[k])) := qaa fun h => by
  obtain ⟨b, off, e, hb, hc⟩ := hr.2 h
  exact ⟨b, off, e, fun k hk => hc k _ (yai counts k hk)⟩
 have hni : (n : Int) ≤ 100000 := by omega
 have En := qaa en
 have Hr := qaa hr
 obtain ⟨F, hF⟩ : ∃ F, yb9 counts most = F := ⟨_, rfl⟩
 rw [hF]
 unfold yb9 at hF
 rw [en] at hF
 clear hr en
 by_cases h1 : 257 < n
 ·have h1i : (257 : Int) < n := by omega
  rw [qag h1] at hF
  have Hf := qaa hF
  clear hF
  go_enter func111, ntmps111
  go_wp2
  go_ret2
  rw [← Hf.out]
  exact ⟨none, 0, rfl, qad _, Reads.none_, qak _ _⟩
 ·have h1i : ¬ (257 : Int) < n := by omega
  rw [qae h1] at hF
  by_cases h2 : most < 1
  ·rw [qag (qay h2)] at hF
   have Hf := qaa hF
   clear hF
   go_enter func111, ntmps111
   go_wp2
   go_ret2
   rw [← Hf.out]
   exact ⟨none, 0, rfl, qad _, Reads.none_, qak _ _⟩
  ·by_cases h3 : 15 < most
   ·rw [qag (qaI h3)] at hF
    have Hf := qaa hF
    clear hF
    go_enter func111, ntmps111
    go_wp2
    go_ret2
    rw [← Hf.out]
    exact ⟨none, 0, rfl, qad _, Reads.none_, qak _ _⟩
   ·rw [qae (by omega)] at hF
    obtain ⟨L, rfl⟩ : ∃ L : Nat, most = L := ⟨most.toNat, by omega⟩
    rw [qan] at hF
    have Hbad : Hid (∀ k (hk : k < counts.length), ¬(0 ≤ counts[k] ∧ counts[k] ≤ 1000000) → F = ([], 2)) := qaa fun k hk hb => by
     rw [← hF, qae fun h => hb (ydh h k hk)]
    have Hgood : Hid ((∀ k (hk : k < counts.length), 0 ≤ counts[k] ∧ counts[k] ≤ 1000000) → yev counts = true) := qaa cgood_of
    have HF := qaa hF
    have hL : 1 ≤ L ∧ L ≤ 15 := by omega
    clear hF
    go_enter func111, ntmps111
    go_wp2
    go_loop [6] (fun i => ∃ k : Nat, k ≤ n ∧ i = .int .i64 k ∧ Hid (∀ j (hj : j < counts.length), j < k → 0 ≤ counts[j] ∧ counts[j] ≤ 1000000)) (fun i => n - (intOf i).toNat)
    case atStart => exact ⟨0, by omega, rfl, fun j _ h => by omega⟩
    case round =>
     obtain ⟨k, hk, rfl, Hk⟩ := hrel
     by_cases hlt : k < n
     ·have hki : (0 : Int) ≤ (k : Int) ∧ (k : Int) < n := by omega
      have hkl : k < counts.length := by rw [En.out]; exact hlt
      obtain ⟨b, off, rfl, hcell⟩ := Hcell.out (by omega)
      have hx := hcell k hkl
      have Hb2 := qaa (Hbad.out k hkl)
      have Hn : Hid (0 ≤ counts[k] ∧ counts[k] ≤ 1000000 → ∀ j (hj : j < counts.length), j < k + 1 → 0 ≤ counts[j] ∧ counts[j] ≤ 1000000) := qaa fun h j hj h4 => by
       rcases qbe j k with h5 | h5
       ·exact Hk.out j hj h5
       ·obtain rfl : j = k := by omega
        exact h
      clear hcell Hbad Hgood HF
      generalize counts[k] = x at *
      by_cases hneg : x < 0
      ·have Hf := qaa (Hb2.out (by omega))
       go_wp2
       go_ret2
       rw [Hf.out]
       exact ⟨none, 0, rfl, qad _, Reads.none_, qak _ _⟩
      ·by_cases hbig : 1000000 < x
       ·have Hf := qaa (Hb2.out (by omega))
        go_wp2
        go_ret2
        rw [Hf.out]
        exact ⟨none, 0, rfl, qad _, Reads.none_, qak _ _⟩
       ·have Hn2 := qaa (Hn.out (by omega))
        go_wp2
        go_round
        case rel => exact ⟨k + 1, by omega, iv (by omega), Hn2.out⟩
        case measure => simp only [intOf]; omega
     ·obtain rfl : k = n := by omega
      have hg : yev counts = true := Hgood.out fun j hj => Hk.out j hj (by have := En.out; omega)
      have hf := HF.out
      rw [qag hg] at hf
      have hml : (yaa counts).length ≤ k := by have := ycH counts; have := En.out; omega
      have Hfirst := qaa fun ok hok => lref_first_any ok counts A k c w (by omega) hok Hr.out
      have Hpow := qaa (ybz L hL.2)
      have hp15 : (2 ^ L : Nat) ≤ 32768 := qaA (qa0 (by omega) hL.2) (by decide)
      have Hfits := qaa (yeG counts hg)
      have HLl := qaa (yaE counts)
      have Hlp := qaa (ybX counts)
      have Hone : Hid (∀ (h : (yaa counts).length = 1) s, ((yaa counts)[0]'(by omega)).syms = [s] → s < counts.length ∧ (lout counts.length (fun _ => 0)).set s 1 = yaq counts L) := qaa fun h s hs => lbestL_one counts L s h hs
      have Hmany : Hid ((yaa counts).length ≠ 1 → yaq counts L = lout k (fun s => lsum (lhas s) ((lrow (yaa counts) (L - 1)).take (2 * (yaa counts).length - 2)))) := qaa fun h => by rw [ydQ counts L h, En.out]; rfl
      have Hsy : Hid (∀ x ∈ yaa counts, ∃ s, x.syms = [s]) := qaa fun x hx => by
       obtain ⟨j, hj, _, rfl⟩ := (yan counts x).1 hx
       exact ⟨j, rfl⟩
      have hmk := fun W => lmk_ints (k : Int) k rfl (by omega) W
      rw [lout_zero] at hmk
      clear Hbad Hgood HF hg Hk Hr Hcell
      generalize yaq counts L = BL at *
      by_cases hbig : 2 ^ L < (yaa counts).length
      ·rw [qag hbig] at hf
       have Hf := qaa hf
       have hbi : ((2 ^ L : Nat) : Int) < ((yaa counts).length : Int) := by omega
       have Hft := qaa (Hfirst.out (fun _ => True) (fun _ _ => trivial))
       clear hf Hfirst hbig Hfits
       generalize (2 ^ L : Nat) = PW at *
       go_wp2_with (first
        | (go_at_call 152; refine Hft.out.mono ?_; rintro e w1 ⟨Af, cf, rfl, hcf, hRf, hb1⟩; have Hb1 := qaa hb1; clear hb1 hRf)
        | (go_at_call 153; refine (Hpow.out _).mono ?_; rintro e w2 ⟨rfl, rfl⟩))
       go_ret2
       rw [← Hf.out]
       exact ⟨none, 0, rfl, qad _, Reads.none_, Hb1.out⟩
      ·rw [qae hbig] at hf
       have Hf := qaa hf
       have hbi : ¬ ((2 ^ L : Nat) : Int) < ((yaa counts).length : Int) := by omega
       have Hroom : Hid (2 ≤ (yaa counts).length → 2 * (yaa counts).length - 2 ≤ (lrow (yaa counts) (L - 1)).length) := qaa fun h => yeC HLl.out Hlp.out (L - 1) h (by rw [show L - 1 + 1 = L from by omega]; omega)
       clear hf hbig
       have Hft := qaa (Hfirst.out (fun _ => True) (fun _ _ => trivial))
       clear Hfirst
       have hmlk : (yaa counts).length ≤ 257 := by omega
       by_cases hm2 : 2 ≤ (yaa counts).length
       ·have hne1 : ((yaa counts).length : Int) ≠ 1 := by omega
        have hbe1 : (((yaa counts).length : Int) == 1) = false := by simpa using hne1
        have hlt2 : ¬ ((yaa counts).length : Int) < 2 := by omega
        have HBL := qaa (Hmany.out (by omega))
        obtain ⟨m, hmm⟩ : ∃ m, (yaa counts).length = m := ⟨_, rfl⟩
        rw [hmm] at Hft HBL Hroom hmlk hm2 hne1 hbe1 hlt2 hbi
        have Hmm := qaa hmm
        clear hmm Hone Hmany hml
        generalize (2 ^ L : Nat) = PW at *
        go_wp2_with (first
         | (go_at_call 152; refine Hft.out.mono ?_; rintro e w1 ⟨Af, cf, rfl, hcf, hRf, hb1⟩; have Hb1 := qaa hb1; have HRf := qaa hRf; have Hcf := qaa hcf; clear hb1 hRf hcf)
         | (go_at_call 153; refine (Hpow.out _).mono ?_; rintro e w1 ⟨rfl, rfl⟩))
        have hgz : Hid (Blk (w1.alloc (.cells (ints (lout k (fun _ => 0))).toArray 3)) w1.heap.size 3 (ints (lout k (fun _ => 0))).toArray) := qaa (Blk.new _ _ _)
        have Hw2 : Hid (Below w1.heap.size w1 (w1.alloc (.cells (ints (lout k (fun _ => 0))).toArray 3))) := qaa ((qak _ _).alloc (qad _) _)
        have hsz2 : (w1.alloc (.cells (ints (lout k (fun _ => 0))).toArray 3)).heap.size = w1.heap.size + 1 := by simp
        have HL1 : Hid (LHRow w1 w1.heap.size (fun b => b ≠ w1.heap.size) Af m (yaa counts)) := qaa (HRf.out.ok' fun b hb => by omega)
        generalize w1.alloc (.cells (ints (lout k (fun _ => 0))).toArray 3) = w2 at *
        have HL2 : Hid (LHRow w2 w2.heap.size (fun b => b ≠ w1.heap.size) Af m (yaa counts)) := qaa ((HL1.out.below Hw2.out).more Hw2.out.size)
        have Hsz2 := qaa hsz2
        clear hsz2 hmk
        have hLi : (1 : Int) ≤ (L : Int) ∧ (L : Int) ≤ 15 := by omega
        have hd1 : decide (PW < m) = false := qbX (by omega)
        have hd2 : decide ((m : Int) < 2) = false := qbX (by omega)
        rw [hd1, hd2]
        go_loopw [9, 10] (fun v i W => ∃ (q pr cr : Nat) (Ar : Option Addr), q + 1 ≤ L ∧ pr ≤ cr ∧ v = .slice Ar pr cr ∧ i = .int .i64 ((q : Int) + 1) ∧ Hid (LHRow W W.heap.size (fun b => b ≠ w1.heap.size) Ar pr (lrow (yaa counts) q)) ∧ Hid (Below w2.heap.size w2 W)) (fun _ i _ => L - (intOf i).toNat)
        case atStart => exact ⟨0, m, cf, Af, by omega, Hcf.out, rfl, rfl, HL2.out, qak _ _⟩
        case round =>
         obtain ⟨q, pr, cr, Ar, hq, hpr, rfl, rfl, HRr, HbW⟩ := hrel
         by_cases hql : q + 1 < L
         ·have hqi : (0 : Int) ≤ (q : Int) ∧ (q : Int) + 1 < (L : Int) := by omega
          have hprl : pr ≤ 514 := by
           have h1 := HRr.out.1
           have h2 := yd1 HLl.out q
           have h3 := Hmm.out
           omega
          have hq15 : (2 ^ q : Nat) ≤ 32768 := qaA (qa0 (by omega) (show q ≤ 15 by omega)) (by decide)
          have Hnext := qaa (lref_next_any (fun b => b ≠ w1.heap.size) (lrow (yaa counts) q) (yaa counts) Ar Af pr cr m cf wr (by omega) hpr (by omega) Hcf.out (fun x hx => by
           obtain ⟨f1, f2, f3, _⟩ := Hfits.out q x hx
           refine ⟨by omega, f2, ?_⟩
           have : ((2 ^ q : Nat) : Int) * 1000000 ≤ 32768 * 1000000 := qco (by omega) (by omega)
           omega) (fun b hb => by have := HbW.out.size; have := Hsz2.out; omega) HRr.out ((HL2.out.below HbW.out).more HbW.out.size))
          rw [show ygx (lrow (yaa counts) q) (yaa counts) = lrow (yaa counts) (q + 1) from rfl] at Hnext
          clear hq15
          go_wp2_with (go_at_call 154; refine Hnext.out.mono ?_; rintro e w5 ⟨A5, c5, rfl, hc5, hR5, hb5⟩; have Hc5 := qaa hc5; have HR5 := qaa hR5; have Hb5 := qaa (HbW.out.trans (hb5.mono HbW.out.size)); clear hc5 hR5 hb5)
          go_roundw
          case rel => exact ⟨q + 1, _, c5, A5, by omega, Hc5.out, rfl, by rw [show (((q + 1 : Nat) : Int) + 1) = (q : Int) + 1 + 1 from by omega], HR5.out, Hb5.out⟩
          case measure => simp only [intOf]; omega
         ·obtain rfl : L = q + 1 := by omega
          have hql2 : ¬ (q : Int) + 1 < ((q + 1 : Nat) : Int) := by omega
          have hroom := Hroom.out hm2
          rw [show q + 1 - 1 = q from rfl] at hroom HBL
          have Hrow := qaa fun i hi => LHRow.cells HRr.out i hi
          have Hsin : Hid (∀ i (hi : i < (lrow (yaa counts) q).length) t (ht : t < (lrow (yaa counts) q)[i].syms.length), (lrow (yaa counts) q)[i].syms[t] < k) := qaa fun i hi t ht => by
           have := (Hfits.out q _ (qaq hi)).2.2.2 _ (qaq ht)
           rw [En.out] at this
           exact this
          have hprr := HRr.out.1
          have Hsl : Hid (∀ x ∈ lrow (yaa counts) q, x.syms.length ≤ 400000) := qaa fun x hx => by
           have := (Hfits.out q x hx).1
           have h6 : (2 ^ q : Nat) ≤ 32768 := qaA (qa0 (by omega) (show q ≤ 15 by omega)) (by decide)
           omega
          have HbWw : Hid (Below w.heap.size w wr) := qaa (Hb1.out.trans ((Hw2.out.trans (HbW.out.mono Hw2.out.size)).mono Hb1.out.size))
          have HzW : Hid (Blk wr w1.heap.size 3 (ints (lout k (fun s => lsum (lhas s) ((lrow (yaa counts) q).take 0)))).toArray) := qaa (hgz.out.below HbW.out (by rw [Hsz2.out]; omega))
          have Hg1 : Hid (w.heap.size ≤ w1.heap.size) := qaa Hb1.out.size
          clear HRr HbW hgz Hfits Hpow Hft HLl Hlp Hsy
          generalize lrow (yaa counts) q = RW at *
          obtain ⟨WR, rfl⟩ : ∃ W, W = wr := ⟨wr, rfl⟩
          obtain ⟨t, ht⟩ : ∃ t, 2 * m - 2 = t := ⟨_, rfl⟩
          rw [ht] at HBL hroom
          have zt : 2 * (m : Int) - 2 = (t : Int) := by omega
          have hti : (t : Int) ≤ 514 := by omega
          have hB0 : Hid (Blk WR w1.heap.size 3 (ints (lout k (lfar RW 0 0))).toArray) := qaa (by
           rw [ybK k (lfar RW 0 0) (fun s => lsum (lhas s) (RW.take 0)) fun s _ => yep RW 0 s]
           exact HzW.out)
          go_wp2
          go_loopw [11, 12, 13] (fun i j sy W => ∃ ki : Nat, ki ≤ t ∧ i = .int .i64 ki ∧ Hid (Blk W w1.heap.size 3 (ints (lout k (lfar RW ki 0))).toArray) ∧ Hid (WR.grownBy W (some w1.heap.size))) (fun i _ _ _ => t - (intOf i).toNat)
          case atStart => exact ⟨0, by omega, rfl, hB0, ycT _ _⟩
          case round =>
           obtain ⟨ki, hk1, rfl, HB, HG⟩ := hrel
           by_cases hlt : ki < t
           ·have hki : (0 : Int) ≤ (ki : Int) ∧ (ki : Int) < (t : Int) := by omega
            have hkR : ki < RW.length := by omega
            obtain ⟨b, off, As, cs, rfl, hc1, hc2⟩ := Hrow.out ki hkR
            have Hc1 := qaa hc1
            have Hsy := qaa hc2
            have Hfk := qaa fun q2 hq2 => Hsin.out ki hkR q2 hq2
            have hns : RW[ki].syms.length ≤ 400000 := Hsl.out _ (qaq hkR)
            have Hbnd : Hid (∀ q2 s, 0 ≤ lfar RW ki q2 s ∧ lfar RW ki q2 s ≤ 400000 * (ki + 1)) := qaa fun q2 s => yfh RW ki q2 s hkR Hsl.out
            clear hc1 hc2
            obtain ⟨ns, hns2⟩ : ∃ ns, RW[ki].syms.length = ns := ⟨_, rfl⟩
            rw [hns2] at Hc1 hns
            have Hns := qaa hns2
            have hkp : (ki : Int) < (pr : Int) := by omega
            clear hns2
            go_wp2
            go_loopw [12, 13] (fun j sy W => ∃ q2 : Nat, q2 ≤ ns ∧ j = .int .i64 q2 ∧ Hid (Blk W w1.heap.size 3 (ints (lout k (lfar RW ki q2))).toArray) ∧ Hid (WR.grownBy W (some w1.heap.size))) (fun j _ _ => ns - (intOf j).toNat)
            case atStart => exact ⟨0, by omega, rfl, HB, HG⟩
            case round =>
             obtain ⟨q2, hq2, rfl, HB2, HG2⟩ := hrel
             clear HB HG
             have hsl := Hc1.out _ HG2.out
             by_cases hqt : q2 < ns
             ·have hqi : (0 : Int) ≤ (q2 : Int) ∧ (q2 : Int) < (ns : Int) := by omega
              have hqs : q2 < RW[ki].syms.length := by rw [Hns.out]; exact hqt
              obtain ⟨bs, os, rfl, hcs⟩ := Hsy.out q2 hqs
              have hsc := hcs _ HG2.out
              have hsn := Hfk.out q2 hqs
              obtain ⟨d1, d2, d3⟩ := yfs HB2.out hkR hqs hsn
              have hbd := Hbnd.out q2 RW[ki].syms[q2]
              have HB3 := qaa d3
              have hsi : (0 : Int) ≤ (RW[ki].syms[q2] : Int) ∧ (RW[ki].syms[q2] : Int) < (k : Int) := by omega
              clear d3 hcs
              generalize lfar RW ki q2 RW[ki].syms[q2] = fv at *
              generalize RW[ki].syms[q2] = sy at *
              have hfv : (0 : Int) ≤ fv ∧ fv ≤ 400000000 := by omega
              go_wp2
              go_roundw
              case rel => exact ⟨q2 + 1, by omega, iv (by omega), HB3, qaa (ybe HG2.out (qay rfl) _)⟩
              case measure => simp only [intOf]; omega
             ·have hqi : ¬ (q2 : Int) < (ns : Int) := by omega
              obtain rfl : q2 = ns := by omega
              have hb4 := HB2.out
              rw [← Hns.out] at hb4
              have HB4 := qaa (yee hkR hb4)
              clear hb4
              go_wp2
              go_roundw
              case rel => exact ⟨ki + 1, by omega, iv (by omega), HB4, HG2⟩
              case measure => simp only [intOf]; omega
           ·have hki : ¬ (ki : Int) < (t : Int) := by omega
            obtain rfl : ki = t := by omega
            go_wp2
            go_ret2
            exact ycY RW k ki BL F _ w1.heap.size w HBL.out Hf.out HB.out (yfy HbWw.out HG.out Hg1.out)
       ·have hlt2 : ((yaa counts).length : Int) < 2 := by omega
        have hf0 : BL.length = k → (BL, (0 : Int)) = F := fun _ => Hf.out
        by_cases hm1 : (yaa counts).length = 1
        ·obtain ⟨s0, hs0⟩ := Hsy.out ((yaa counts)[0]'(by omega)) (qaq _)
         obtain ⟨hsn, hset⟩ := Hone.out hm1 s0 hs0
         have hsn2 : s0 < k := by rw [← En.out]; exact hsn
         rw [En.out] at hset
         have Hset := qaa hset
         have Hs0 := qaa hs0
         have Hm1 := qaa hm1
         have hlt3 : (0 : Int) ≤ (s0 : Int) ∧ (s0 : Int) < (k : Int) := by omega
         clear hset hs0 Hmany hsn hlt2
         generalize (2 ^ L : Nat) = PW at *
         obtain ⟨m, hmm⟩ : ∃ m, (yaa counts).length = m := ⟨_, rfl⟩
         rw [hmm] at Hft hbi hmlk hm2 hm1
         have Hmm := qaa hmm
         clear hmm hml
         obtain rfl : m = 1 := hm1
         go_wp2_with (first
          | (go_at_call 152; refine Hft.out.mono ?_; rintro e w1 ⟨Af, cf, rfl, hcf, hRf, hb1⟩; have Hb1 := qaa hb1; have HRf := qaa hRf; obtain ⟨b0, off0, bs0, os0, cs0, e0, y1, y2⟩ := lsingle hRf Hmm.out Hs0.out (.cells (ints (lout k (fun _ => 0))).toArray 3); subst e0; obtain ⟨z1, z2⟩ := lzero_cell w1 k s0 hsn2; clear hb1 hRf hcf)
          | (go_at_call 153; refine (Hpow.out _).mono ?_; rintro e w1 ⟨rfl, rfl⟩))
         go_ret2
         have hset2 : (ints (lout k (fun _ => 0))).set s0 (.int .i64 1) = ints BL := by
          rw [← Hset.out]
          simp [ints, qcu]
         have hB2 : Blk (w1.alloc (.cells ((ints (lout k (fun _ => 0))).set s0 (.int .i64 1)).toArray 3)) w1.heap.size 3 (ints BL).toArray := by
          rw [hset2]
          exact Blk.new w1 _ _
         exact pbest_fin0 k BL F _ w1.heap.size w (by rw [← Hset.out, qbJ, yds]) Hf.out hB2 (Hb1.out.alloc Hb1.out.size _)
        ·have HBL := qaa (Hmany.out hm1)
         generalize (2 ^ L : Nat) = PW at *
         obtain ⟨m, hmm⟩ : ∃ m, (yaa counts).length = m := ⟨_, rfl⟩
         rw [hmm] at Hft hbi hmlk hm2 hm1 HBL
         clear hmm hml Hmany Hone hlt2
         obtain rfl : m = 0 := by omega
         go_wp2_with (first
          | (go_at_call 152; refine Hft.out.mono ?_; rintro e w1 ⟨Af, cf, rfl, hcf, hRf, hb1⟩; have Hb1 := qaa hb1; clear hb1 hRf hcf)
          | (go_at_call 153; refine (Hpow.out _).mono ?_; rintro e w1 ⟨rfl, rfl⟩))
         go_ret2
         have hB2 := Blk.new w1 3 (ints (lout k (fun _ => 0))).toArray
         have hBL : BL = lout k (fun _ => 0) := HBL.out
         rw [← hBL] at hB2 ⊢
         exact pbest_fin0 k BL F _ w1.heap.size w (by rw [hBL, yds]) Hf.out hB2 (Hb1.out.alloc Hb1.out.size _)
end Go.Proofs.YtanjhbkbpalnaaaGreat
