/-
 What the law of the last of these texts stands on, part 26.
-/
import Derived.Test.YtanjhbkbpalnaaaGreatMb16
import Derived.Test.YtanjhbkbpalnaaaGreatMb20
import Derived.Test.YtanjhbkbpalnaaaGreatMb24
set_option maxRecDepth 100000
set_option maxHeartbeats 8000000
open Go.Proofs.Tryz
namespace Go.Proofs.YtanjhbkbpalnaaaGreat
set_option linter.unusedSimpArgs false
set_option linter.unusedVariables false
open Go.ChangeShapes Go.WideShapes Go.ChangeAt Go.RowKit Go.Joins Go.Deep
theorem pplv_len : ∀ (l : List Int) (i : Nat), (plv i l).length ≤ l.length
 | [], _ => qaf _
 | c :: t, i => by
  have := pplv_len t (i + 1)
  by_cases h : 0 < c
  ·rw [plv_yes _ _ _ h, qau, qau]; omega
  ·rw [plv_no _ _ _ h, qau]; omega
theorem ybg {w w1 w2 w3 : World} {o : Obj} (h1 : Below w.heap.size w w1) (h2 : Below w1.heap.size w1 w2) (h3 : Below (w2.alloc o).heap.size (w2.alloc o) w3) : Below w.heap.size w w3 := by
 have h4 : Below w.heap.size w w2 := h1.trans (h2.mono h1.size)
 have h5 := h4.alloc h4.size o
 exact h5.trans (h3.mono h5.size)
theorem pbest_row {W : World} {A : Option Addr} {n : Nat} {E : List PEl} {o : Obj} (h : PRow (fun _ => True) W W.heap.size A n E) : PRow (fun b => b ≠ W.heap.size) (W.alloc o) (W.alloc o).heap.size A n E :=
 ((h.okto (fun b hb => by show b ≠ W.heap.size; omega)).below ((qaj _ _).alloc (qaf _) o)).more (by rw [qas]; omega)
theorem pbest_new (W : World) (o : Obj) : ∀ b, (W.alloc o).heap.size ≤ b → b ≠ W.heap.size := fun b hb => by rw [qas] at hb; omega
theorem pbest_room {Z : List PEl} {R : List LTh} {c t : Nat} (h : pth Z = R) (hc : Z.length ≤ c) (ht : t ≤ R.length) : (t : Int) ≤ (c : Int) := by
 have : Z.length = R.length := by rw [← h]; simp [pth]
 omega
theorem ybS {w w3 w5 : World} {o : Obj} (h1 : Below w.heap.size w w3) (h2 : Below (w3.alloc o).heap.size (w3.alloc o) w5) : Below w.heap.size w w5 := by
 have h5 := h1.alloc h1.size o
 exact h5.trans (h2.mono h5.size)
theorem pbest_none {Z : List PEl} {R : List LTh} {W : World} {t : Nat} {ok : Nat → Prop} (h : pth Z = R) (hq : PRow ok W W.heap.size none Z.length Z) (ht : t ≤ R.length) : t = 0 := by
 have : Z.length = R.length := by rw [← h]; simp [pth]
 rcases qaW Z.length with e | e
 ·omega
 ·obtain ⟨b, off, e2, _⟩ := hq.2.1.2 e
  cases e2
theorem yed (n : Nat) (RW : List LTh) {w3 w5 : World} (h : Below (w3.alloc (.cells (ints (lout n (fun _ => 0))).toArray 3)).heap.size (w3.alloc (.cells (ints (lout n (fun _ => 0))).toArray 3)) w5) : Blk w5 w3.heap.size 3 (ints (lout n (lfar RW 0 0))).toArray := by
 have h1 := Blk.new w3 3 (ints (lout n (fun _ => 0))).toArray
 have h2 := h1.below h h1.lt
 rw [ybB n (lfar RW 0 0) (fun _ => 0) fun t _ => by rw [ydT]; rfl]
 exact h2
theorem pbest_th {Z : List PEl} {R : List LTh} (h : pth Z = R) (k : Nat) (hk : k < R.length) : ∃ hz : k < Z.length, Z[k].th = R[k] := by
 subst h
 unfold pth at hk ⊢
 rw [qaN] at hk
 exact ⟨hk, by rw [qbB]⟩
theorem ycG (RW : List LTh) (n t : Nat) (BL : List Int) (F : List Int × Int) (W : World) (g : Nat) (w : World) (hBL : BL = lout n (fun s => lsum (lhas s) (RW.take t))) (hF : (BL, (0 : Int)) = F) (hB : Blk W g 3 (ints (lout n (lfar RW t 0))).toArray) (hw : Below w.heap.size w W) :
  ∃ A' c', Ending.returned (.tuple #[.slice (some ⟨g, 0, none⟩) n n, .int .i64 0]) = Ending.returned (.tuple #[.slice A' F.1.length c', .int .i64 F.2]) ∧ F.1.length ≤ c' ∧ Reads W W.heap.size 1 A' F.1.length (ints F.1) ∧ Below w.heap.size w W := by
 subst hF
 have hl : BL.length = n := by rw [hBL, ycY]
 refine ⟨some ⟨g, 0, none⟩, n, by rw [hl], by rw [hl]; exact qaf _, ?_, hw⟩
 refine ⟨by rw [yae]; omega, fun _ => ⟨g, 0, rfl, hB.lt, fun j u hu => ?_⟩⟩
 rw [qaE, hB.cell, qaq, ybB n (lfar RW t 0) (fun s => lsum (lhas s) (RW.take t)) fun s _ => ydT RW t s, ← hBL]
 exact hu
theorem yev {w w5 W : World} {g : Nat} (h : Below w.heap.size w w5) (hg : w5.grownBy W (some g)) (hgw : w.heap.size ≤ g) : Below w.heap.size w W := h.trans (ycR hg hgw h.size)
theorem p_best_any (counts : List Int) (most : Int) (A : Option Addr) (n c : Nat) (w : World) (hm : n ≤ 100000) (hr : Reads w w.heap.size 1 A n (ints counts)) :
  Calls prog 103 #[.slice A n c, .int .i64 most] w fun e w' => ∃ A' c', e = .returned (.tuple #[.slice A' (yb1 counts most).1.length c', .int .i64 (yb1 counts most).2]) ∧ (yb1 counts most).1.length ≤ c' ∧ Reads w' w'.heap.size 1 A' (yb1 counts most).1.length (ints (yb1 counts most).1) ∧ Below w.heap.size w w' := by
 have en : counts.length = n := by have := hr.1; rw [yae] at this; omega
 have hni : (n : Int) ≤ 100000 := by omega
 have En := qaa en
 have Hall := qaa (a_all_any counts 1000000 A n c w (by omega) hr)
 obtain ⟨F, hF⟩ : ∃ F, yb1 counts most = F := ⟨_, rfl⟩
 rw [hF]
 unfold yb1 at hF
 rw [en] at hF
 by_cases h1 : 257 < n
 ·have h1i : (257 : Int) < n := by omega
  rw [qah h1] at hF
  have Hf := qaa hF
  clear hF hr
  go_enter func103, ntmps103
  go_wp2
  go_ret2
  rw [← Hf.out]
  exact ⟨none, 0, rfl, qaf _, Reads.none_, qaj _ _⟩
 ·have h1i : ¬ (257 : Int) < n := by omega
  rw [qag h1] at hF
  by_cases hg : yeu counts = true
  ·have hga : ych 1000000 counts = true := hg
   rw [hga] at Hall
   by_cases h2 : most < 1
   ·rw [qah (qat h2)] at hF
    have Hf := qaa hF
    clear hF hr hg hga
    go_enter func103, ntmps103
    go_wp2_with (go_at_call 143; refine Hall.out.mono ?_; rintro e w1 ⟨rfl, hb1⟩; have Hb1 := qaa hb1; clear hb1)
    go_ret2
    rw [← Hf.out]
    exact ⟨none, 0, rfl, qaf _, Reads.none_, Hb1.out⟩
   ·by_cases h3 : 15 < most
    ·rw [qah (qaT h3)] at hF
     have Hf := qaa hF
     clear hF hr hg hga
     go_enter func103, ntmps103
     go_wp2_with (go_at_call 143; refine Hall.out.mono ?_; rintro e w1 ⟨rfl, hb1⟩; have Hb1 := qaa hb1; clear hb1)
     go_ret2
     rw [← Hf.out]
     exact ⟨none, 0, rfl, qaf _, Reads.none_, Hb1.out⟩
    ·rw [qag (by omega), qah hg] at hF
     obtain ⟨L, rfl⟩ : ∃ L : Nat, most = L := ⟨most.toNat, by omega⟩
     rw [qap] at hF
     have hL : 1 ≤ L ∧ L ≤ 15 := by omega
     have hLi : (1 : Int) ≤ (L : Int) ∧ (L : Int) ≤ 15 := by omega
     have hllen : (yaa counts).length ≤ n := by have := ycm counts; omega
     have Hleaves := qaa fun (W : World) (hW : Below w.heap.size w W) => leaves_any (fun _ => True) counts A n c W (fun _ _ => trivial) ((hr.below hW).more hW.size) (by omega)
     have Hrow := qaa fun (W : World) (E : List PEl) (A2 : Option Addr) (c2 : Nat) (hp : PRow (fun _ => True) W W.heap.size A2 E.length E) (hpl : E.length ≤ 1000) =>
      row_any (fun _ => True) [⟨A2, E.length, c2, E⟩] (some ⟨W.heap.size, 0, none⟩) 1 1 (W.alloc (.cells #[.slice A2 E.length c2] 185)) rfl (by omega)
       (fun _ => ⟨W.heap.size, 0, rfl, by rw [qas]; omega, fun i hi => by
        have hi2 : i < 1 := hi
        obtain rfl : i = 0 := by omega
        exact (Blk.new W 185 #[.slice A2 E.length c2]).cell 0⟩)
       (fun _ _ => trivial)
       (fun s hs => by
        rw [qcb.1 hs]
        have hba : Below W.heap.size W (W.alloc (.cells #[.slice A2 E.length c2] 185)) := (qaj _ _).alloc (qaf _) _
        exact (hp.below hba).more hba.size)
       (by show (E ++ []).length ≤ _; rw [qa6]; omega)
     have Hfirst : Hid (∀ (E Z : List PEl), pth E = plv 0 counts → Z.Perm (yb0 0 (rall [(⟨none, 0, 0, E⟩ : RSrc)])) → Z.Pairwise (sord (ltOf pcf) (·.no)) → pth Z = yaa counts) := qaa fun E Z a1 a2 a3 => first_row counts E Z a1 (by simpa [rall] using a2) a3
     have Hlast := qaa fun (g : Nat) (E1 : List PEl) (A1 : Option Addr) (c1 : Nat) (W : World) (a1 : pth E1 = yaa counts) (a2 : PRow (fun b => b ≠ g) W W.heap.size A1 E1.length E1) (a3 : E1.length ≤ c1) (a4 : ∀ b, W.heap.size ≤ b → b ≠ g) => last_any (fun b => b ≠ g) counts E1 L A1 c1 W (by omega) hg a1 a4 a2 a3 hL
     have hElen : Hid (∀ E : List PEl, pth E = plv 0 counts → E.length ≤ 1000) := qaa fun E hE => by
      have h5 := qbJ List.length hE
      have h6 := pplv_len counts 0
      unfold pth at h5
      rw [qaN] at h5
      omega
     have hZlen : Hid (∀ Z : List PEl, pth Z = yaa counts → Z.length = (yaa counts).length) := qaa fun Z hZ => by rw [← hZ]; simp [pth]
     have hroom : 2 ^ L < (yaa counts).length ∨ max (2 * (yaa counts).length - 2) (yaa counts).length ≤ (lrow (yaa counts) (L - 1)).length := by
      by_cases hb : 2 ^ L < (yaa counts).length
      ·exact qat hb
      ·refine qaT ?_
       by_cases hm2 : 2 ≤ (yaa counts).length
       ·have := yeq (yaM counts) (ycs counts) (L - 1) hm2 (by rw [show L - 1 + 1 = L from by omega]; omega)
        omega
       ·have : ∀ k, (yaa counts).length ≤ (lrow (yaa counts) k).length := fun k => by
         cases k with
         | zero => exact qaf _
         | succ k => rw [yfr (yaM counts)]; omega
        have := this (L - 1)
        omega
     have Hfits : Hid (∀ x ∈ lrow (yaa counts) (L - 1), x.syms.length ≤ 400000 ∧ ∀ s ∈ x.syms, s < n) := qaa fun x hx => by
      obtain ⟨f1, _, _, f4⟩ := yeg counts hg (L - 1) x hx
      have := lexp_le (show L - 1 ≤ 14 by omega)
      exact ⟨by omega, fun s hs => by have := f4 s hs; omega⟩
     have Hrl : Hid ((lrow (yaa counts) (L - 1)).length ≤ 600) := qaa (by have := ydl (yaM counts) (L - 1); omega)
     have Htake := qaa (lbest_taken counts L)
     rw [en] at Htake
     have hp15 : (2 ^ L : Nat) ≤ 32768 := qa7 (qaF (by omega) hL.2) (by decide)
     have hmk := fun W => lmk_ints (n : Int) n rfl (by omega) W
     rw [lout_zero] at hmk
     have HF := qaa hF
     clear hr hg hga hF
     generalize yav counts L = BL at *
     generalize lrow (yaa counts) (L - 1) = RW at *
     generalize hm0 : yaa counts = LV at *
     clear hm0
     obtain ⟨m, hmm⟩ : ∃ m, LV.length = m := ⟨_, rfl⟩
     rw [hmm] at HF hZlen hroom Htake hllen
     clear hmm
     have hpw : ((2 : Int) ^ L) = ((2 ^ L : Nat) : Int) := by simp
     by_cases hbig : 2 ^ L < m
     ·have hf := HF.out
      rw [qah hbig] at hf
      have Hf := qaa hf
      have hbi : ((2 ^ L : Nat) : Int) < (m : Int) := by omega
      generalize (2 ^ L : Nat) = PW at *
      clear hf HF hroom Htake
      go_enter func103, ntmps103
      go_wp2_with (first
       | (go_at_call 143; refine Hall.out.mono ?_; rintro e w1 ⟨rfl, hb1⟩; have Hb1 := qaa hb1; clear hb1)
       | (go_at_call 145; refine (Hleaves.out _ Hb1.out).mono ?_; rintro e w2 ⟨E, A2, c2, rfl, hc2, hp2, hq2, hb2⟩; have HP2 := qaa hp2; have HQ2 := qaa hq2; have HB2 := qaa hb2; clear hp2 hq2 hb2)
       | (go_at_call 144; refine (Hrow.out _ _ _ _ HQ2.out (hElen.out E HP2.out)).mono ?_; rintro e w3 ⟨Z, A3, c3, rfl, hc3, hp3, ho3, hq3, hb3⟩; have HZ : Hid (pth Z = LV) := qaa (Hfirst.out E Z HP2.out hp3 ho3); have hzl : (Z.length : Int) = (m : Int) := qbJ Nat.cast (hZlen.out Z HZ.out); have HQ3 := qaa hq3; have HB3 := qaa hb3; clear hp3 ho3 hq3 hb3))
      go_ret2
      rw [← Hf.out]
      exact ⟨none, 0, rfl, qaf _, Reads.none_, ybg Hb1.out HB2.out HB3.out⟩
     ·have hbi : ¬ ((2 ^ L : Nat) : Int) < (m : Int) := by omega
      have hf := HF.out
      rw [qag hbig] at hf
      have Hf := qaa hf
      obtain ⟨t, ht⟩ : ∃ t, max (2 * m - 2) m = t := ⟨_, rfl⟩
      have htR : t ≤ RW.length := by
       rcases hroom with h | h
       ·exact absurd h hbig
       ·omega
      have hrl := Hrl.out
      have hti : (t : Int) ≤ 600 := by omega
      rw [ht] at Htake
      generalize (2 ^ L : Nat) = PW at *
      clear hf HF hbig
      by_cases hm2 : 2 ≤ m
      ·skip
       have zt : 2 * (m : Int) - 2 = (t : Int) := by omega
       have zt2 : ¬ (t : Int) < (m : Int) := by omega
       have zt3 : (m : Int) ≤ (t : Int) := by omega
       clear hroom
       go_enter func103, ntmps103
       go_wp2_with (first
        | (go_at_call 143; refine Hall.out.mono ?_; rintro e w1 ⟨rfl, hb1⟩; have Hb1 := qaa hb1; clear hb1)
        | (go_at_call 145; refine (Hleaves.out _ Hb1.out).mono ?_; rintro e w2 ⟨E, A2, c2, rfl, hc2, hp2, hq2, hb2⟩; have HP2 := qaa hp2; have HQ2 := qaa hq2; have HB2 := qaa hb2; clear hp2 hq2 hb2)
        | (go_at_call 144; refine (Hrow.out _ _ _ _ HQ2.out (hElen.out E HP2.out)).mono ?_; rintro e w3 ⟨Z, A3, c3, rfl, hc3, hp3, ho3, hq3, hb3⟩; have HZ : Hid (pth Z = LV) := qaa (Hfirst.out E Z HP2.out hp3 ho3); have hzl : (Z.length : Int) = (m : Int) := qbJ Nat.cast (hZlen.out Z HZ.out); have HQ3 := qaa hq3; have HB3 := qaa hb3; have Hc3 := qaa hc3; clear hp3 ho3 hq3 hb3 hc3)
        | (go_at_call 146; refine (Hlast.out w3.heap.size Z A3 c3 _ HZ.out (pbest_row HQ3.out) Hc3.out (pbest_new _ _)).mono ?_; rintro e w5 ⟨Z5, A5, c5, rfl, hc5, hp5, hq5, hb5⟩; have HP5 := qaa hp5; have HQ5 := qaa hq5; have HB5 := qaa hb5; have Hc5 := qaa hc5; have htc : (t : Int) ≤ (c5 : Int) := pbest_room hp5 hc5 htR; clear hp5 hq5 hb5 hc5; rcases A5 with _ | ⟨b5, off5, sp5⟩))
       ·-- no thing at all
        have ht0 : t = 0 := pbest_none HP5.out HQ5.out htR
        subst ht0
        have hBg : Hid (Blk w5 w3.heap.size 3 (ints (lout n (lfar RW 0 0))).toArray) := qaa (yed n RW HB5.out)
        have hW5 : Hid (Below w.heap.size w w5) := qaa (ybS (ybg Hb1.out HB2.out HB3.out) HB5.out)
        go_loopw [10, 12, 50, 57] (fun bx sy i j wr => i = .int .i64 (0 : Int) ∧ Hid (wr = w5)) (fun _ _ i _ _ => 0)
        case atStart => exact ⟨rfl, rfl⟩
        case round =>
         obtain ⟨rfl, Hw⟩ := hrel
         have hw : w5 = wr := Hw.out.symm
         subst hw
         go_wp2
         all_goals (go_ret2; exact ycG RW n 0 BL F w5 w3.heap.size w Htake.out Hf.out hBg.out hW5.out)
       ·have Hcl := qaa fun i hi => PRow.cells HQ5.out i hi
        have hBg : Hid (Blk w5 w3.heap.size 3 (ints (lout n (lfar RW 0 0))).toArray) := qaa (yed n RW HB5.out)
        have hW5 : Hid (Below w.heap.size w w5) := qaa (ybS (ybg Hb1.out HB2.out HB3.out) HB5.out)
        have hgw : Hid (w.heap.size ≤ w3.heap.size) := qaa (ybg Hb1.out HB2.out HB3.out).size
        have Hth : Hid (∀ k (hk : k < RW.length), ∃ hz : k < Z5.length, Z5[k].th = RW[k]) := qaa fun k hk => pbest_th HP5.out k hk
        clear HQ5 HB5 HP5 Hc5 hmk Hb1 HB2 HB3 Hall Hleaves Hrow Hlast Hfirst hElen hZlen HQ3 HQ2 HP2 Hc3 HZ
        go_loopw [10, 12, 50, 57] (fun bx sy i j wr => ∃ k : Nat, k ≤ t ∧ i = .int .i64 k ∧ Hid (Blk wr w3.heap.size 3 (ints (lout n (lfar RW k 0))).toArray) ∧ Hid (w5.grownBy wr (some w3.heap.size))) (fun _ _ i _ _ => t - (intOf i).toNat)
        case atStart => exact ⟨0, by omega, rfl, hBg, ycK _ _⟩
        case round =>
         obtain ⟨k, hk, rfl, HB, HG⟩ := hrel
         by_cases hlt : k < t
         ·have hki : (0 : Int) ≤ (k : Int) ∧ (k : Int) < (t : Int) := by omega
          have hkR : k < RW.length := by omega
          obtain ⟨hz, hth⟩ := Hth.out k hkR
          obtain ⟨b, off, e5, hbg, hc1, hc2⟩ := Hcl.out k hz
          injection e5 with e5
          injection e5 with e6 e7 e8
          subst e6 e7 e8
          obtain ⟨x1, x2⟩ := hc1 wr HG.out
          have Hsy : Hid (∀ q (hq : q < RW[k].syms.length), ∃ bs os, Z5[k].A = some ⟨bs, os, none⟩ ∧ ∀ W', w5.grownBy W' (some w3.heap.size) → W'.cell? ⟨bs, os + q, none⟩ = some (.int .i64 (RW[k].syms[q] : Int))) := qaa fun q hq => by
           rw [← hth] at hq
           obtain ⟨bs, os, f1, f2⟩ := hc2 q hq
           exact ⟨bs, os, f1, fun W' hW => by simp only [← hth]; exact f2 W' hW⟩
          have Hfk : Hid (∀ q (hq : q < RW[k].syms.length), RW[k].syms[q] < n) := qaa fun q hq => (Hfits.out _ (qam hkR)).2 _ (qam hq)
          have hns : RW[k].syms.length ≤ 400000 := (Hfits.out _ (qam hkR)).1
          have Hbnd : Hid (∀ q s, 0 ≤ lfar RW k q s ∧ lfar RW k q s ≤ 400000 * (k + 1)) := qaa fun q s => ye1 RW k q s hkR fun x hx => (Hfits.out x hx).1
          rw [hth] at x2
          clear hc1 hc2
          obtain ⟨ns, hns2⟩ : ∃ ns, RW[k].syms.length = ns := ⟨_, rfl⟩
          rw [hns2] at x2 hns
          have Hns := qaa hns2
          clear hns2 hth
          generalize Z5[k].th.w = zw at *
          generalize Z5[k].c = zc at *
          generalize Z5[k].A = zA at *
          clear hz Hcl Hth
          go_wp2
          have HB1 : Hid (Blk (wr.alloc (.cells #[.int .i64 zw, .slice zA ns zc] 190)) w3.heap.size 3 (ints (lout n (lfar RW k 0))).toArray) := qaa (HB.out.alloc _)
          have HG1 : Hid (w5.grownBy (wr.alloc (.cells #[.int .i64 zw, .slice zA ns zc] 190)) (some w3.heap.size)) := qaa (ycP HG.out _)
          clear HB HG
          generalize wr.alloc (.cells #[.int .i64 zw, .slice zA ns zc] 190) = wb at *
          go_loopw [12, 57] (fun sy j W => ∃ q : Nat, q ≤ ns ∧ j = .int .i64 q ∧ Hid (Blk W w3.heap.size 3 (ints (lout n (lfar RW k q))).toArray) ∧ Hid (w5.grownBy W (some w3.heap.size))) (fun _ j _ => ns - (intOf j).toNat)
          case atStart => exact ⟨0, by omega, rfl, HB1, HG1⟩
          case round =>
           obtain ⟨q, hq, rfl, HB2, HG2⟩ := hrel
           clear HB1 HG1
           by_cases hqt : q < ns
           ·have hqi : (0 : Int) ≤ (q : Int) ∧ (q : Int) < (ns : Int) := by omega
            have hqs : q < RW[k].syms.length := by rw [Hns.out]; exact hqt
            obtain ⟨bs, os, rfl, hcs⟩ := Hsy.out q hqs
            have hsc := hcs _ HG2.out
            have hsn := Hfk.out q hqs
            obtain ⟨d1, d2, d3⟩ := ye9 HB2.out hkR hqs hsn
            have hbd := Hbnd.out q RW[k].syms[q]
            have HB3 := qaa d3
            have hsi : (0 : Int) ≤ (RW[k].syms[q] : Int) ∧ (RW[k].syms[q] : Int) < (n : Int) := by omega
            clear d3 hcs
            generalize lfar RW k q RW[k].syms[q] = fv at *
            generalize RW[k].syms[q] = sy at *
            have hfv : (0 : Int) ≤ fv ∧ fv ≤ 400000000 := by omega
            go_wp2
            go_roundw
            case rel => exact ⟨q + 1, by omega, iv (by omega), HB3, qaa (ybc HG2.out (qat rfl) _)⟩
            case measure => simp only [intOf]; omega
           ·have hqi : ¬ (q : Int) < (ns : Int) := by omega
            obtain rfl : q = ns := by omega
            have hb4 := HB2.out
            rw [← Hns.out] at hb4
            have HB4 := qaa (ydD hkR hb4)
            clear hb4
            go_wp2
            go_roundw
            case rel => exact ⟨k + 1, by omega, iv (by omega), HB4, HG2⟩
            case measure => simp only [intOf]; omega
         ·have hki : ¬ (k : Int) < (t : Int) := by omega
          obtain rfl : k = t := by omega
          go_wp2
          go_ret2
          exact ycG RW n k BL F _ w3.heap.size w Htake.out Hf.out HB.out (yev hW5.out HG.out hgw.out)

      ·skip
       have zt : 2 * (m : Int) - 2 < (m : Int) := by omega
       have zt1 : 2 * (m : Int) - 2 ≤ (m : Int) := by omega
       have zt3 : (m : Int) = (t : Int) := by omega
       clear hroom
       go_enter func103, ntmps103
       go_wp2_with (first
        | (go_at_call 143; refine Hall.out.mono ?_; rintro e w1 ⟨rfl, hb1⟩; have Hb1 := qaa hb1; clear hb1)
        | (go_at_call 145; refine (Hleaves.out _ Hb1.out).mono ?_; rintro e w2 ⟨E, A2, c2, rfl, hc2, hp2, hq2, hb2⟩; have HP2 := qaa hp2; have HQ2 := qaa hq2; have HB2 := qaa hb2; clear hp2 hq2 hb2)
        | (go_at_call 144; refine (Hrow.out _ _ _ _ HQ2.out (hElen.out E HP2.out)).mono ?_; rintro e w3 ⟨Z, A3, c3, rfl, hc3, hp3, ho3, hq3, hb3⟩; have HZ : Hid (pth Z = LV) := qaa (Hfirst.out E Z HP2.out hp3 ho3); have hzl : (Z.length : Int) = (m : Int) := qbJ Nat.cast (hZlen.out Z HZ.out); have HQ3 := qaa hq3; have HB3 := qaa hb3; have Hc3 := qaa hc3; clear hp3 ho3 hq3 hb3 hc3)
        | (go_at_call 146; refine (Hlast.out w3.heap.size Z A3 c3 _ HZ.out (pbest_row HQ3.out) Hc3.out (pbest_new _ _)).mono ?_; rintro e w5 ⟨Z5, A5, c5, rfl, hc5, hp5, hq5, hb5⟩; have HP5 := qaa hp5; have HQ5 := qaa hq5; have HB5 := qaa hb5; have Hc5 := qaa hc5; have htc : (t : Int) ≤ (c5 : Int) := pbest_room hp5 hc5 htR; clear hp5 hq5 hb5 hc5; rcases A5 with _ | ⟨b5, off5, sp5⟩))
       ·-- no thing at all
        have ht0 : t = 0 := pbest_none HP5.out HQ5.out htR
        subst ht0
        have hBg : Hid (Blk w5 w3.heap.size 3 (ints (lout n (lfar RW 0 0))).toArray) := qaa (yed n RW HB5.out)
        have hW5 : Hid (Below w.heap.size w w5) := qaa (ybS (ybg Hb1.out HB2.out HB3.out) HB5.out)
        go_loopw [10, 12, 50, 57] (fun bx sy i j wr => i = .int .i64 (0 : Int) ∧ Hid (wr = w5)) (fun _ _ i _ _ => 0)
        case atStart => exact ⟨rfl, rfl⟩
        case round =>
         obtain ⟨rfl, Hw⟩ := hrel
         have hw : w5 = wr := Hw.out.symm
         subst hw
         go_wp2
         all_goals (go_ret2; exact ycG RW n 0 BL F w5 w3.heap.size w Htake.out Hf.out hBg.out hW5.out)
       ·have Hcl := qaa fun i hi => PRow.cells HQ5.out i hi
        have hBg : Hid (Blk w5 w3.heap.size 3 (ints (lout n (lfar RW 0 0))).toArray) := qaa (yed n RW HB5.out)
        have hW5 : Hid (Below w.heap.size w w5) := qaa (ybS (ybg Hb1.out HB2.out HB3.out) HB5.out)
        have hgw : Hid (w.heap.size ≤ w3.heap.size) := qaa (ybg Hb1.out HB2.out HB3.out).size
        have Hth : Hid (∀ k (hk : k < RW.length), ∃ hz : k < Z5.length, Z5[k].th = RW[k]) := qaa fun k hk => pbest_th HP5.out k hk
        clear HQ5 HB5 HP5 Hc5 hmk Hb1 HB2 HB3 Hall Hleaves Hrow Hlast Hfirst hElen hZlen HQ3 HQ2 HP2 Hc3 HZ
        go_loopw [10, 12, 50, 57] (fun bx sy i j wr => ∃ k : Nat, k ≤ t ∧ i = .int .i64 k ∧ Hid (Blk wr w3.heap.size 3 (ints (lout n (lfar RW k 0))).toArray) ∧ Hid (w5.grownBy wr (some w3.heap.size))) (fun _ _ i _ _ => t - (intOf i).toNat)
        case atStart => exact ⟨0, by omega, rfl, hBg, ycK _ _⟩
        case round =>
         obtain ⟨k, hk, rfl, HB, HG⟩ := hrel
         by_cases hlt : k < t
         ·have hki : (0 : Int) ≤ (k : Int) ∧ (k : Int) < (t : Int) := by omega
          have hkR : k < RW.length := by omega
          obtain ⟨hz, hth⟩ := Hth.out k hkR
          obtain ⟨b, off, e5, hbg, hc1, hc2⟩ := Hcl.out k hz
          injection e5 with e5
          injection e5 with e6 e7 e8
          subst e6 e7 e8
          obtain ⟨x1, x2⟩ := hc1 wr HG.out
          have Hsy : Hid (∀ q (hq : q < RW[k].syms.length), ∃ bs os, Z5[k].A = some ⟨bs, os, none⟩ ∧ ∀ W', w5.grownBy W' (some w3.heap.size) → W'.cell? ⟨bs, os + q, none⟩ = some (.int .i64 (RW[k].syms[q] : Int))) := qaa fun q hq => by
           rw [← hth] at hq
           obtain ⟨bs, os, f1, f2⟩ := hc2 q hq
           exact ⟨bs, os, f1, fun W' hW => by simp only [← hth]; exact f2 W' hW⟩
          have Hfk : Hid (∀ q (hq : q < RW[k].syms.length), RW[k].syms[q] < n) := qaa fun q hq => (Hfits.out _ (qam hkR)).2 _ (qam hq)
          have hns : RW[k].syms.length ≤ 400000 := (Hfits.out _ (qam hkR)).1
          have Hbnd : Hid (∀ q s, 0 ≤ lfar RW k q s ∧ lfar RW k q s ≤ 400000 * (k + 1)) := qaa fun q s => ye1 RW k q s hkR fun x hx => (Hfits.out x hx).1
          rw [hth] at x2
          clear hc1 hc2
          obtain ⟨ns, hns2⟩ : ∃ ns, RW[k].syms.length = ns := ⟨_, rfl⟩
          rw [hns2] at x2 hns
          have Hns := qaa hns2
          clear hns2 hth
          generalize Z5[k].th.w = zw at *
          generalize Z5[k].c = zc at *
          generalize Z5[k].A = zA at *
          clear hz Hcl Hth
          go_wp2
          have HB1 : Hid (Blk (wr.alloc (.cells #[.int .i64 zw, .slice zA ns zc] 190)) w3.heap.size 3 (ints (lout n (lfar RW k 0))).toArray) := qaa (HB.out.alloc _)
          have HG1 : Hid (w5.grownBy (wr.alloc (.cells #[.int .i64 zw, .slice zA ns zc] 190)) (some w3.heap.size)) := qaa (ycP HG.out _)
          clear HB HG
          generalize wr.alloc (.cells #[.int .i64 zw, .slice zA ns zc] 190) = wb at *
          go_loopw [12, 57] (fun sy j W => ∃ q : Nat, q ≤ ns ∧ j = .int .i64 q ∧ Hid (Blk W w3.heap.size 3 (ints (lout n (lfar RW k q))).toArray) ∧ Hid (w5.grownBy W (some w3.heap.size))) (fun _ j _ => ns - (intOf j).toNat)
          case atStart => exact ⟨0, by omega, rfl, HB1, HG1⟩
          case round =>
           obtain ⟨q, hq, rfl, HB2, HG2⟩ := hrel
           clear HB1 HG1
           by_cases hqt : q < ns
           ·have hqi : (0 : Int) ≤ (q : Int) ∧ (q : Int) < (ns : Int) := by omega
            have hqs : q < RW[k].syms.length := by rw [Hns.out]; exact hqt
            obtain ⟨bs, os, rfl, hcs⟩ := Hsy.out q hqs
            have hsc := hcs _ HG2.out
            have hsn := Hfk.out q hqs
            obtain ⟨d1, d2, d3⟩ := ye9 HB2.out hkR hqs hsn
            have hbd := Hbnd.out q RW[k].syms[q]
            have HB3 := qaa d3
            have hsi : (0 : Int) ≤ (RW[k].syms[q] : Int) ∧ (RW[k].syms[q] : Int) < (n : Int) := by omega
            clear d3 hcs
            generalize lfar RW k q RW[k].syms[q] = fv at *
            generalize RW[k].syms[q] = sy at *
            have hfv : (0 : Int) ≤ fv ∧ fv ≤ 400000000 := by omega
            go_wp2
            go_roundw
            case rel => exact ⟨q + 1, by omega, iv (by omega), HB3, qaa (ybc HG2.out (qat rfl) _)⟩
            case measure => simp only [intOf]; omega
           ·have hqi : ¬ (q : Int) < (ns : Int) := by omega
            obtain rfl : q = ns := by omega
            have hb4 := HB2.out
            rw [← Hns.out] at hb4
            have HB4 := qaa (ydD hkR hb4)
            clear hb4
            go_wp2
            go_roundw
            case rel => exact ⟨k + 1, by omega, iv (by omega), HB4, HG2⟩
            case measure => simp only [intOf]; omega
         ·have hki : ¬ (k : Int) < (t : Int) := by omega
          obtain rfl : k = t := by omega
          go_wp2
          go_ret2
          exact ycG RW n k BL F _ w3.heap.size w Htake.out Hf.out HB.out (yev hW5.out HG.out hgw.out)

  ·have hga : ych 1000000 counts = false := by
    cases h : ych 1000000 counts with
    | false => rfl
    | true => exact absurd h hg
   have hf : (([], 2) : List Int × Int) = F := by
    rw [← hF]
    by_cases h2 : most < 1 ∨ 15 < most
    ·rw [qah h2]
    ·rw [qag h2, qag hg]
   rw [hga] at Hall
   have Hf := qaa hf
   clear hF hf hg hga hr
   go_enter func103, ntmps103
   go_wp2_with (go_at_call 143; refine Hall.out.mono ?_; rintro e w1 ⟨rfl, hb1⟩; have Hb1 := qaa hb1; clear hb1)
   go_ret2
   rw [← Hf.out]
   exact ⟨none, 0, rfl, qaf _, Reads.none_, Hb1.out⟩
theorem lsingle {w1 : World} {A : Option Addr} {R : List LTh} {s0 : Nat} (hR : LHRow w1 w1.heap.size (fun _ => True) A 1 R) (h1 : R.length = 1) (hs : (R[0]'(by omega)).syms = [s0]) (o : Obj) :
  ∃ b0 off0 bs os cs0, A = some ⟨b0, off0, none⟩ ∧ (w1.alloc o).cell? ⟨b0, off0 + 1, none⟩ = some (.slice (some ⟨bs, os, none⟩) 1 cs0) ∧ (w1.alloc o).cell? ⟨bs, os, none⟩ = some (.int .i64 (s0 : Int)) := by
 have hR2 : LHRow w1 w1.heap.size (fun b => b ≠ w1.heap.size) A 1 R := hR.ok' fun b hb => by show b ≠ w1.heap.size; omega
 obtain ⟨b, off, As, cs, e, c1, c2⟩ := LHRow.cells hR2 0 (by omega)
 have hl : (R[0]'(by omega)).syms.length = 1 := by rw [hs]; rfl
 obtain ⟨bs, os, e2, c3⟩ := c2 0 (by omega)
 have hg : w1.grownBy (w1.alloc o) (some w1.heap.size) := ycP (ycK _ _) o
 have c1' := c1 _ hg
 have c3' := c3 _ hg
 rw [hl, qcy, qbr] at c1'
 have e3 : (R[0]'(by omega)).syms[0]'(by omega) = s0 := by simp only [hs, List.getElem_cons_zero]
 rw [e3, qbr] at c3'
 subst e2
 exact ⟨b, off, bs, os, cs, e, c1', c3'⟩
theorem lzero_cell (w1 : World) (k s0 : Nat) (h : s0 < k) : (w1.alloc (.cells (ints (lout k (fun _ => 0))).toArray 3)).cell? ⟨w1.heap.size, s0, none⟩ = some (.int .i64 0) ∧ (w1.alloc (.cells (ints (lout k (fun _ => 0))).toArray 3)).frozen? ⟨w1.heap.size, s0, none⟩ = false := by
 have hB := Blk.new w1 3 (ints (lout k (fun _ => 0))).toArray
 refine ⟨?_, hB.frozen _⟩
 rw [hB.cell, qaq]
 unfold ints
 rw [List.getElem?_map, yeh k _ _ h]
 rfl
theorem pbest_fin0 (n : Nat) (BL : List Int) (F : List Int × Int) (W : World) (g : Nat) (w : World) (hl : BL.length = n) (hF : (BL, (0 : Int)) = F) (hB : Blk W g 3 (ints BL).toArray) (hw : Below w.heap.size w W) :
  ∃ A' c', Ending.returned (.tuple #[.slice (some ⟨g, 0, none⟩) n n, .int .i64 0]) = Ending.returned (.tuple #[.slice A' F.1.length c', .int .i64 F.2]) ∧ F.1.length ≤ c' ∧ Reads W W.heap.size 1 A' F.1.length (ints F.1) ∧ Below w.heap.size w W := by
 subst hF
 refine ⟨some ⟨g, 0, none⟩, n, by rw [hl], by rw [hl]; exact qaf _, ?_, hw⟩
 refine ⟨by rw [yae]; omega, fun _ => ⟨g, 0, rfl, hB.lt, fun j u hu => ?_⟩⟩
 rw [qaE, hB.cell, qaq]
 exact hu
theorem lref_best_any (counts : List Int) (most : Int) (A : Option Addr) (n c : Nat) (w : World) (hm : n ≤ 100000) (hr : Reads w w.heap.size 1 A n (ints counts)) :
  Calls prog 111 #[.slice A n c, .int .i64 most] w fun e w' => ∃ A' c', e = .returned (.tuple #[.slice A' (yb1 counts most).1.length c', .int .i64 (yb1 counts most).2]) ∧ (yb1 counts most).1.length ≤ c' ∧ Reads w' w'.heap.size 1 A' (yb1 counts most).1.length (ints (yb1 counts most).1) ∧ Below w.heap.size w w' := by
 have en : counts.length = n := by have := hr.1; rw [yae] at this; omega
 have Hcell : Hid (0 < n → ∃ b off, A = some ⟨b, off, none⟩ ∧ ∀ k, (hk : k < counts.length) → w.cell? ⟨b, off + k, none⟩ = some (.int .i64 counts[k])) := qaa fun h => by
  obtain ⟨b, off, e, hb, hc⟩ := hr.2 h
  exact ⟨b, off, e, fun k hk => hc k _ (yak counts k hk)⟩
 have hni : (n : Int) ≤ 100000 := by omega
 have En := qaa en
 have Hr := qaa hr
 obtain ⟨F, hF⟩ : ∃ F, yb1 counts most = F := ⟨_, rfl⟩
 rw [hF]
 unfold yb1 at hF
 rw [en] at hF
 clear hr en
 by_cases h1 : 257 < n
 ·have h1i : (257 : Int) < n := by omega
  rw [qah h1] at hF
  have Hf := qaa hF
  clear hF
  go_enter func111, ntmps111
  go_wp2
  go_ret2
  rw [← Hf.out]
  exact ⟨none, 0, rfl, qaf _, Reads.none_, qaj _ _⟩
 ·have h1i : ¬ (257 : Int) < n := by omega
  rw [qag h1] at hF
  by_cases h2 : most < 1
  ·rw [qah (qat h2)] at hF
   have Hf := qaa hF
   clear hF
   go_enter func111, ntmps111
   go_wp2
   go_ret2
   rw [← Hf.out]
   exact ⟨none, 0, rfl, qaf _, Reads.none_, qaj _ _⟩
  ·by_cases h3 : 15 < most
   ·rw [qah (qaT h3)] at hF
    have Hf := qaa hF
    clear hF
    go_enter func111, ntmps111
    go_wp2
    go_ret2
    rw [← Hf.out]
    exact ⟨none, 0, rfl, qaf _, Reads.none_, qaj _ _⟩
   ·rw [qag (by omega)] at hF
    obtain ⟨L, rfl⟩ : ∃ L : Nat, most = L := ⟨most.toNat, by omega⟩
    rw [qap] at hF
    have Hbad : Hid (∀ k (hk : k < counts.length), ¬(0 ≤ counts[k] ∧ counts[k] ≤ 1000000) → F = ([], 2)) := qaa fun k hk hb => by
     rw [← hF, qag fun h => hb (yfM h k hk)]
    have Hgood : Hid ((∀ k (hk : k < counts.length), 0 ≤ counts[k] ∧ counts[k] ≤ 1000000) → yeu counts = true) := qaa cgood_of
    have HF := qaa hF
    have hL : 1 ≤ L ∧ L ≤ 15 := by omega
    clear hF
    go_enter func111, ntmps111
    go_wp2
    go_loop [6] (fun i => ∃ k : Nat, k ≤ n ∧ i = .int .i64 k ∧ Hid (∀ j (hj : j < counts.length), j < k → 0 ≤ counts[j] ∧ counts[j] ≤ 1000000)) (fun i => n - (intOf i).toNat)
    case atStart => exact ⟨0, by omega, rfl, fun j _ h => by omega⟩
    case round =>
     obtain ⟨k, hk, rfl, Hk⟩ := hrel
     by_cases hlt : k < n
     ·have hki : (0 : Int) ≤ (k : Int) ∧ (k : Int) < n := by omega
      have hkl : k < counts.length := by rw [En.out]; exact hlt
      obtain ⟨b, off, rfl, hcell⟩ := Hcell.out (by omega)
      have hx := hcell k hkl
      have Hb2 := qaa (Hbad.out k hkl)
      have Hn : Hid (0 ≤ counts[k] ∧ counts[k] ≤ 1000000 → ∀ j (hj : j < counts.length), j < k + 1 → 0 ≤ counts[j] ∧ counts[j] ≤ 1000000) := qaa fun h j hj h4 => by
       rcases qaZ j k with h5 | h5
       ·exact Hk.out j hj h5
       ·obtain rfl : j = k := by omega
        exact h
      clear hcell Hbad Hgood HF
      generalize counts[k] = x at *
      by_cases hneg : x < 0
      ·have Hf := qaa (Hb2.out (by omega))
       go_wp2
       go_ret2
       rw [Hf.out]
       exact ⟨none, 0, rfl, qaf _, Reads.none_, qaj _ _⟩
      ·by_cases hbig : 1000000 < x
       ·have Hf := qaa (Hb2.out (by omega))
        go_wp2
        go_ret2
        rw [Hf.out]
        exact ⟨none, 0, rfl, qaf _, Reads.none_, qaj _ _⟩
       ·have Hn2 := qaa (Hn.out (by omega))
        go_wp2
        go_round
        case rel => exact ⟨k + 1, by omega, iv (by omega), Hn2.out⟩
        case measure => simp only [intOf]; omega
     ·obtain rfl : k = n := by omega
      have hg : yeu counts = true := Hgood.out fun j hj => Hk.out j hj (by have := En.out; omega)
      have hf := HF.out
      rw [qah hg] at hf
      have hml : (yaa counts).length ≤ k := by have := ycm counts; have := En.out; omega
      have Hfirst := qaa fun ok hok => lref_first_any ok counts A k c w (by omega) hok Hr.out
      have Hpow := qaa (ybt L hL.2)
      have hp15 : (2 ^ L : Nat) ≤ 32768 := qa7 (qaF (by omega) hL.2) (by decide)
      have Hfits := qaa (yeg counts hg)
      have HLl := qaa (yaM counts)
      have Hlp := qaa (ycs counts)
      have Hone : Hid (∀ (h : (yaa counts).length = 1) s, ((yaa counts)[0]'(by omega)).syms = [s] → s < counts.length ∧ (lout counts.length (fun _ => 0)).set s 1 = yav counts L) := qaa fun h s hs => lbestL_one counts L s h hs
      have Hmany : Hid ((yaa counts).length ≠ 1 → yav counts L = lout k (fun s => lsum (lhas s) ((lrow (yaa counts) (L - 1)).take (2 * (yaa counts).length - 2)))) := qaa fun h => by rw [yd7 counts L h, En.out]; rfl
      have Hsy : Hid (∀ x ∈ yaa counts, ∃ s, x.syms = [s]) := qaa fun x hx => by
       obtain ⟨j, hj, _, rfl⟩ := (yas counts x).1 hx
       exact ⟨j, rfl⟩
      have hmk := fun W => lmk_ints (k : Int) k rfl (by omega) W
      rw [lout_zero] at hmk
      clear Hbad Hgood HF hg Hk Hr Hcell
      generalize yav counts L = BL at *
      by_cases hbig : 2 ^ L < (yaa counts).length
      ·rw [qah hbig] at hf
       have Hf := qaa hf
       have hbi : ((2 ^ L : Nat) : Int) < ((yaa counts).length : Int) := by omega
       have Hft := qaa (Hfirst.out (fun _ => True) (fun _ _ => trivial))
       clear hf Hfirst hbig Hfits
       generalize (2 ^ L : Nat) = PW at *
       go_wp2_with (first
        | (go_at_call 152; refine Hft.out.mono ?_; rintro e w1 ⟨Af, cf, rfl, hcf, hRf, hb1⟩; have Hb1 := qaa hb1; clear hb1 hRf)
        | (go_at_call 153; refine (Hpow.out _).mono ?_; rintro e w2 ⟨rfl, rfl⟩))
       go_ret2
       rw [← Hf.out]
       exact ⟨none, 0, rfl, qaf _, Reads.none_, Hb1.out⟩
      ·rw [qag hbig] at hf
       have Hf := qaa hf
       have hbi : ¬ ((2 ^ L : Nat) : Int) < ((yaa counts).length : Int) := by omega
       have Hroom : Hid (2 ≤ (yaa counts).length → 2 * (yaa counts).length - 2 ≤ (lrow (yaa counts) (L - 1)).length) := qaa fun h => yeq HLl.out Hlp.out (L - 1) h (by rw [show L - 1 + 1 = L from by omega]; omega)
       clear hf hbig
       have Hft := qaa (Hfirst.out (fun _ => True) (fun _ _ => trivial))
       clear Hfirst
       have hmlk : (yaa counts).length ≤ 257 := by omega
       by_cases hm2 : 2 ≤ (yaa counts).length
       ·have hne1 : ((yaa counts).length : Int) ≠ 1 := by omega
        have hbe1 : (((yaa counts).length : Int) == 1) = false := by simpa using hne1
        have hlt2 : ¬ ((yaa counts).length : Int) < 2 := by omega
        have HBL := qaa (Hmany.out (by omega))
        obtain ⟨m, hmm⟩ : ∃ m, (yaa counts).length = m := ⟨_, rfl⟩
        rw [hmm] at Hft HBL Hroom hmlk hm2 hne1 hbe1 hlt2 hbi
        have Hmm := qaa hmm
        clear hmm Hone Hmany hml
        generalize (2 ^ L : Nat) = PW at *
        go_wp2_with (first
         | (go_at_call 152; refine Hft.out.mono ?_; rintro e w1 ⟨Af, cf, rfl, hcf, hRf, hb1⟩; have Hb1 := qaa hb1; have HRf := qaa hRf; have Hcf := qaa hcf; clear hb1 hRf hcf)
         | (go_at_call 153; refine (Hpow.out _).mono ?_; rintro e w1 ⟨rfl, rfl⟩))
        have hgz : Hid (Blk (w1.alloc (.cells (ints (lout k (fun _ => 0))).toArray 3)) w1.heap.size 3 (ints (lout k (fun _ => 0))).toArray) := qaa (Blk.new _ _ _)
        have Hw2 : Hid (Below w1.heap.size w1 (w1.alloc (.cells (ints (lout k (fun _ => 0))).toArray 3))) := qaa ((qaj _ _).alloc (qaf _) _)
        have hsz2 : (w1.alloc (.cells (ints (lout k (fun _ => 0))).toArray 3)).heap.size = w1.heap.size + 1 := by simp
        have HL1 : Hid (LHRow w1 w1.heap.size (fun b => b ≠ w1.heap.size) Af m (yaa counts)) := qaa (HRf.out.ok' fun b hb => by omega)
        generalize w1.alloc (.cells (ints (lout k (fun _ => 0))).toArray 3) = w2 at *
        have HL2 : Hid (LHRow w2 w2.heap.size (fun b => b ≠ w1.heap.size) Af m (yaa counts)) := qaa ((HL1.out.below Hw2.out).more Hw2.out.size)
        have Hsz2 := qaa hsz2
        clear hsz2 hmk
        have hLi : (1 : Int) ≤ (L : Int) ∧ (L : Int) ≤ 15 := by omega
        have hd1 : decide (PW < m) = false := qaU (by omega)
        have hd2 : decide ((m : Int) < 2) = false := qaU (by omega)
        rw [hd1, hd2]
        go_loopw [9, 10] (fun v i W => ∃ (q pr cr : Nat) (Ar : Option Addr), q + 1 ≤ L ∧ pr ≤ cr ∧ v = .slice Ar pr cr ∧ i = .int .i64 ((q : Int) + 1) ∧ Hid (LHRow W W.heap.size (fun b => b ≠ w1.heap.size) Ar pr (lrow (yaa counts) q)) ∧ Hid (Below w2.heap.size w2 W)) (fun _ i _ => L - (intOf i).toNat)
        case atStart => exact ⟨0, m, cf, Af, by omega, Hcf.out, rfl, rfl, HL2.out, qaj _ _⟩
        case round =>
         obtain ⟨q, pr, cr, Ar, hq, hpr, rfl, rfl, HRr, HbW⟩ := hrel
         by_cases hql : q + 1 < L
         ·have hqi : (0 : Int) ≤ (q : Int) ∧ (q : Int) + 1 < (L : Int) := by omega
          have hprl : pr ≤ 514 := by
           have h1 := HRr.out.1
           have h2 := ydl HLl.out q
           have h3 := Hmm.out
           omega
          have hq15 : (2 ^ q : Nat) ≤ 32768 := qa7 (qaF (by omega) (show q ≤ 15 by omega)) (by decide)
          have Hnext := qaa (lref_next_any (fun b => b ≠ w1.heap.size) (lrow (yaa counts) q) (yaa counts) Ar Af pr cr m cf wr (by omega) hpr (by omega) Hcf.out (fun x hx => by
           obtain ⟨f1, f2, f3, _⟩ := Hfits.out q x hx
           refine ⟨by omega, f2, ?_⟩
           have : ((2 ^ q : Nat) : Int) * 1000000 ≤ 32768 * 1000000 := qca (by omega) (by omega)
           omega) (fun b hb => by have := HbW.out.size; have := Hsz2.out; omega) HRr.out ((HL2.out.below HbW.out).more HbW.out.size))
          rw [show ygu (lrow (yaa counts) q) (yaa counts) = lrow (yaa counts) (q + 1) from rfl] at Hnext
          clear hq15
          go_wp2_with (go_at_call 154; refine Hnext.out.mono ?_; rintro e w5 ⟨A5, c5, rfl, hc5, hR5, hb5⟩; have Hc5 := qaa hc5; have HR5 := qaa hR5; have Hb5 := qaa (HbW.out.trans (hb5.mono HbW.out.size)); clear hc5 hR5 hb5)
          go_roundw
          case rel => exact ⟨q + 1, _, c5, A5, by omega, Hc5.out, rfl, by rw [show (((q + 1 : Nat) : Int) + 1) = (q : Int) + 1 + 1 from by omega], HR5.out, Hb5.out⟩
          case measure => simp only [intOf]; omega
         ·obtain rfl : L = q + 1 := by omega
          have hql2 : ¬ (q : Int) + 1 < ((q + 1 : Nat) : Int) := by omega
          have hroom := Hroom.out hm2
          rw [show q + 1 - 1 = q from rfl] at hroom HBL
          have Hrow := qaa fun i hi => LHRow.cells HRr.out i hi
          have Hsin : Hid (∀ i (hi : i < (lrow (yaa counts) q).length) t (ht : t < (lrow (yaa counts) q)[i].syms.length), (lrow (yaa counts) q)[i].syms[t] < k) := qaa fun i hi t ht => by
           have := (Hfits.out q _ (qam hi)).2.2.2 _ (qam ht)
           rw [En.out] at this
           exact this
          have hprr := HRr.out.1
          have Hsl : Hid (∀ x ∈ lrow (yaa counts) q, x.syms.length ≤ 400000) := qaa fun x hx => by
           have := (Hfits.out q x hx).1
           have h6 : (2 ^ q : Nat) ≤ 32768 := qa7 (qaF (by omega) (show q ≤ 15 by omega)) (by decide)
           omega
          have HbWw : Hid (Below w.heap.size w wr) := qaa (Hb1.out.trans ((Hw2.out.trans (HbW.out.mono Hw2.out.size)).mono Hb1.out.size))
          have HzW : Hid (Blk wr w1.heap.size 3 (ints (lout k (fun s => lsum (lhas s) ((lrow (yaa counts) q).take 0)))).toArray) := qaa (hgz.out.below HbW.out (by rw [Hsz2.out]; omega))
          have Hg1 : Hid (w.heap.size ≤ w1.heap.size) := qaa Hb1.out.size
          clear HRr HbW hgz Hfits Hpow Hft HLl Hlp Hsy
          generalize lrow (yaa counts) q = RW at *
          obtain ⟨WR, rfl⟩ : ∃ W, W = wr := ⟨wr, rfl⟩
          obtain ⟨t, ht⟩ : ∃ t, 2 * m - 2 = t := ⟨_, rfl⟩
          rw [ht] at HBL hroom
          have zt : 2 * (m : Int) - 2 = (t : Int) := by omega
          have hti : (t : Int) ≤ 514 := by omega
          have hB0 : Hid (Blk WR w1.heap.size 3 (ints (lout k (lfar RW 0 0))).toArray) := qaa (by
           rw [ybB k (lfar RW 0 0) (fun s => lsum (lhas s) (RW.take 0)) fun s _ => ydT RW 0 s]
           exact HzW.out)
          go_wp2
          go_loopw [11, 12, 13] (fun i j sy W => ∃ ki : Nat, ki ≤ t ∧ i = .int .i64 ki ∧ Hid (Blk W w1.heap.size 3 (ints (lout k (lfar RW ki 0))).toArray) ∧ Hid (WR.grownBy W (some w1.heap.size))) (fun i _ _ _ => t - (intOf i).toNat)
          case atStart => exact ⟨0, by omega, rfl, hB0, ycK _ _⟩
          case round =>
           obtain ⟨ki, hk1, rfl, HB, HG⟩ := hrel
           by_cases hlt : ki < t
           ·have hki : (0 : Int) ≤ (ki : Int) ∧ (ki : Int) < (t : Int) := by omega
            have hkR : ki < RW.length := by omega
            obtain ⟨b, off, As, cs, rfl, hc1, hc2⟩ := Hrow.out ki hkR
            have Hc1 := qaa hc1
            have Hsy := qaa hc2
            have Hfk := qaa fun q2 hq2 => Hsin.out ki hkR q2 hq2
            have hns : RW[ki].syms.length ≤ 400000 := Hsl.out _ (qam hkR)
            have Hbnd : Hid (∀ q2 s, 0 ≤ lfar RW ki q2 s ∧ lfar RW ki q2 s ≤ 400000 * (ki + 1)) := qaa fun q2 s => ye1 RW ki q2 s hkR Hsl.out
            clear hc1 hc2
            obtain ⟨ns, hns2⟩ : ∃ ns, RW[ki].syms.length = ns := ⟨_, rfl⟩
            rw [hns2] at Hc1 hns
            have Hns := qaa hns2
            have hkp : (ki : Int) < (pr : Int) := by omega
            clear hns2
            go_wp2
            go_loopw [12, 13] (fun j sy W => ∃ q2 : Nat, q2 ≤ ns ∧ j = .int .i64 q2 ∧ Hid (Blk W w1.heap.size 3 (ints (lout k (lfar RW ki q2))).toArray) ∧ Hid (WR.grownBy W (some w1.heap.size))) (fun j _ _ => ns - (intOf j).toNat)
            case atStart => exact ⟨0, by omega, rfl, HB, HG⟩
            case round =>
             obtain ⟨q2, hq2, rfl, HB2, HG2⟩ := hrel
             clear HB HG
             have hsl := Hc1.out _ HG2.out
             by_cases hqt : q2 < ns
             ·have hqi : (0 : Int) ≤ (q2 : Int) ∧ (q2 : Int) < (ns : Int) := by omega
              have hqs : q2 < RW[ki].syms.length := by rw [Hns.out]; exact hqt
              obtain ⟨bs, os, rfl, hcs⟩ := Hsy.out q2 hqs
              have hsc := hcs _ HG2.out
              have hsn := Hfk.out q2 hqs
              obtain ⟨d1, d2, d3⟩ := ye9 HB2.out hkR hqs hsn
              have hbd := Hbnd.out q2 RW[ki].syms[q2]
              have HB3 := qaa d3
              have hsi : (0 : Int) ≤ (RW[ki].syms[q2] : Int) ∧ (RW[ki].syms[q2] : Int) < (k : Int) := by omega
              clear d3 hcs
              generalize lfar RW ki q2 RW[ki].syms[q2] = fv at *
              generalize RW[ki].syms[q2] = sy at *
              have hfv : (0 : Int) ≤ fv ∧ fv ≤ 400000000 := by omega
              go_wp2
              go_roundw
              case rel => exact ⟨q2 + 1, by omega, iv (by omega), HB3, qaa (ybc HG2.out (qat rfl) _)⟩
              case measure => simp only [intOf]; omega
             ·have hqi : ¬ (q2 : Int) < (ns : Int) := by omega
              obtain rfl : q2 = ns := by omega
              have hb4 := HB2.out
              rw [← Hns.out] at hb4
              have HB4 := qaa (ydD hkR hb4)
              clear hb4
              go_wp2
              go_roundw
              case rel => exact ⟨ki + 1, by omega, iv (by omega), HB4, HG2⟩
              case measure => simp only [intOf]; omega
           ·have hki : ¬ (ki : Int) < (t : Int) := by omega
            obtain rfl : ki = t := by omega
            go_wp2
            go_ret2
            exact ycG RW k ki BL F _ w1.heap.size w HBL.out Hf.out HB.out (yev HbWw.out HG.out Hg1.out)
       ·have hlt2 : ((yaa counts).length : Int) < 2 := by omega
        have hf0 : BL.length = k → (BL, (0 : Int)) = F := fun _ => Hf.out
        by_cases hm1 : (yaa counts).length = 1
        ·obtain ⟨s0, hs0⟩ := Hsy.out ((yaa counts)[0]'(by omega)) (qam _)
         obtain ⟨hsn, hset⟩ := Hone.out hm1 s0 hs0
         have hsn2 : s0 < k := by rw [← En.out]; exact hsn
         rw [En.out] at hset
         have Hset := qaa hset
         have Hs0 := qaa hs0
         have Hm1 := qaa hm1
         have hlt3 : (0 : Int) ≤ (s0 : Int) ∧ (s0 : Int) < (k : Int) := by omega
         clear hset hs0 Hmany hsn hlt2
         generalize (2 ^ L : Nat) = PW at *
         obtain ⟨m, hmm⟩ : ∃ m, (yaa counts).length = m := ⟨_, rfl⟩
         rw [hmm] at Hft hbi hmlk hm2 hm1
         have Hmm := qaa hmm
         clear hmm hml
         obtain rfl : m = 1 := hm1
         go_wp2_with (first
          | (go_at_call 152; refine Hft.out.mono ?_; rintro e w1 ⟨Af, cf, rfl, hcf, hRf, hb1⟩; have Hb1 := qaa hb1; have HRf := qaa hRf; obtain ⟨b0, off0, bs0, os0, cs0, e0, y1, y2⟩ := lsingle hRf Hmm.out Hs0.out (.cells (ints (lout k (fun _ => 0))).toArray 3); subst e0; obtain ⟨z1, z2⟩ := lzero_cell w1 k s0 hsn2; clear hb1 hRf hcf)
          | (go_at_call 153; refine (Hpow.out _).mono ?_; rintro e w1 ⟨rfl, rfl⟩))
         go_ret2
         have hset2 : (ints (lout k (fun _ => 0))).set s0 (.int .i64 1) = ints BL := by
          rw [← Hset.out]
          simp [ints, List.map_set]
         have hB2 : Blk (w1.alloc (.cells ((ints (lout k (fun _ => 0))).set s0 (.int .i64 1)).toArray 3)) w1.heap.size 3 (ints BL).toArray := by
          rw [hset2]
          exact Blk.new w1 _ _
         exact pbest_fin0 k BL F _ w1.heap.size w (by rw [← Hset.out, qbO, ycY]) Hf.out hB2 (Hb1.out.alloc Hb1.out.size _)
        ·have HBL := qaa (Hmany.out hm1)
         generalize (2 ^ L : Nat) = PW at *
         obtain ⟨m, hmm⟩ : ∃ m, (yaa counts).length = m := ⟨_, rfl⟩
         rw [hmm] at Hft hbi hmlk hm2 hm1 HBL
         clear hmm hml Hmany Hone hlt2
         obtain rfl : m = 0 := by omega
         go_wp2_with (first
          | (go_at_call 152; refine Hft.out.mono ?_; rintro e w1 ⟨Af, cf, rfl, hcf, hRf, hb1⟩; have Hb1 := qaa hb1; clear hb1 hRf hcf)
          | (go_at_call 153; refine (Hpow.out _).mono ?_; rintro e w1 ⟨rfl, rfl⟩))
         go_ret2
         have hB2 := Blk.new w1 3 (ints (lout k (fun _ => 0))).toArray
         have hBL : BL = lout k (fun _ => 0) := HBL.out
         rw [← hBL] at hB2 ⊢
         exact pbest_fin0 k BL F _ w1.heap.size w (by rw [hBL, ycY]) Hf.out hB2 (Hb1.out.alloc Hb1.out.size _)
def hbitF (l : List Int) : List Nat × Int := if (hcF l).2 = 0 then (hB l, 0) else ([], (hcF l).2)
def HBPost (w w' : World) (e : Ending) (F : List Nat × Int) : Prop := ∃ A' c', e = .returned (.tuple #[.slice A' F.1.length c', .int .i64 F.2]) ∧ Reads w' w'.heap.size 1 A' F.1.length (bcs F.1) ∧ Below w.heap.size w w'
theorem cbits_snoc (ws : List (Int × Int)) (l : List Int) (k : Nat) (hk : k < l.length) : ybs ws (l.take (k + 1)) = ybs ws (l.take k) ++ (yaD ws l[k]).1 := by
 rw [qao hk]
 unfold ybs
 rw [List.flatMap_append, List.flatMap_singleton]
theorem Reads.onto {w w' : World} {size n : Nat} {A : Option Addr} {xs : List Value} (h : Reads w w.heap.size size A n xs) (hb : Below w.heap.size w w') : Reads w' w'.heap.size size A n xs := (h.below hb).more hb.size
section
variable {l : List Int} (hl : l.length ≤ 100000)
theorem hb_best (W : World) (A : Option Addr) (c : Nat) (hr : Reads W W.heap.size 1 A 257 (ints (ya4 l))) (hl : l.length ≤ 100000) :
  Calls prog 111 #[.slice A 257 c, .int .i64 15] W fun e w' => ∃ A' c', e = .returned (.tuple #[.slice A' 257 c', .int .i64 0]) ∧ Reads w' w'.heap.size 1 A' 257 (ints (hL l)) ∧ Below W.heap.size W w' := by
 have := lref_best_any (ya4 l) 15 A 257 c W (by omega) hr
 rw [hbest hl] at this
 refine this.mono ?_
 rintro e w' ⟨A', c', rfl, _, h2, h3⟩
 rw [ydx] at h2 ⊢
 exact ⟨A', c', rfl, h2, h3⟩
theorem hb_words (W : World) (A : Option Addr) (c : Nat) (hr : Reads W W.heap.size 1 A 257 (ints (hL l))) (hl : l.length ≤ 100000) :
  Calls prog 112 #[.slice A 257 c] W fun e w' => ∃ A' c', e = .returned (.tuple #[.slice A' 257 c', .int .i64 0]) ∧ Reads w' w'.heap.size 2 A' 257 (ybe .i64 (hws l)) ∧ Below W.heap.size W w' := by
 have := cref_words_any (hL l) A 257 c W (by omega) hr
 rw [cwords_ok (ycn hl)] at this
 refine this.mono ?_
 rintro e w' ⟨A', c', rfl, _, h2, h3⟩
 have e2 : (wat ((hL l).map Int.toNat) 16 0).length = 257 := by rw [yaO, qaN, ydx]
 rw [e2] at h2 ⊢
 exact ⟨A', c', rfl, h2, h3⟩
theorem hws_len : (hws l).length = 257 := by unfold hws; rw [yaO, qaN, ydx]
end
theorem href_bits_any (l : List Int) (A : Option Addr) (n c : Nat) (w : World) (hm : n ≤ 1000000) (hr : Reads w w.heap.size 1 A n (ints l)) :
  Calls prog 66 #[.slice A n c] w fun e w' => HBPost w w' e (hbitF l) := by
 obtain ⟨i0, hi, hz0, hz1, hz9⟩ := qbn tint_info
 have en : l.length = n := by have := hr.1; rw [yae] at this; omega
 have hcnt := ygp l A n c w hm hr
 by_cases hE : (hcF l).2 = 0
 ·obtain ⟨hl, hin0, hf⟩ := hc_ok hE
  have hbf : hbitF l = (hB l, 0) := qah hE
  rw [hf] at hcnt
  rw [hbf]
  have hc2 : Calls prog 110 #[.slice A n c] w fun e w' => ∃ A' c', e = .returned (.tuple #[.slice A' 257 c', .int .i64 0]) ∧ Reads w' w'.heap.size 1 A' 257 (ints (ya4 l)) ∧ Below w.heap.size w w' := by
   refine hcnt.mono ?_
   rintro e w' ⟨A', c', rfl, _, h2, h3⟩
   rw [yat] at h2 ⊢
   exact ⟨A', c', rfl, h2, h3⟩
  have Hcnt := qaa hc2
  have Hbest := qaa fun W A c hr => hb_best (l := l) W A c hr hl
  have Hwords := qaa fun W A c hr => hb_words (l := l) W A c hr hl
  have Hbits := qaa fun W A c hr => tref_bits_own (hL l) A 257 c W (by omega) (ydP (ycn hl)).2 hr
  have Hword := qaa fun W A c s hr => cref_word_any (hws l) A 257 c s W hws_len (by omega) hr (hfit l hl)
  have Hcell : Hid (∀ W, Below w.heap.size w W → ∀ k (hk : k < l.length), ∃ b off, A = some ⟨b, off, none⟩ ∧ W.cell? ⟨b, off + k, none⟩ = some (.int .i64 l[k])) := qaa fun W hW k hk => by
   obtain ⟨b, off, e, hb, hc⟩ := hr.2 (by omega)
   exact ⟨b, off, e, (hW.cell (p := ⟨b, off + k, none⟩) hb).trans (hc k _ (yak l k hk))⟩
  have Hsnoc := qaa (cbits_snoc (hws l) l)
  have Hsm := qaa fun s => (ydF (hfit l hl) s).1
  have Hlen := qaa fun k => ydc (hfit l hl) (l.take k)
  have Htl := qaa (ye2 l)
  have Hlast : Hid (ybs (hws l) (l.take n) = ybs (hws l) l) := qaa (by rw [qax (by omega)])
  have HBe : Hid (ya3 (hL l) ++ ybs (hws l) l = hB l) := qaa rfl
  have En := qaa en
  have hni : (n : Int) ≤ 100000 := by omega
  have hnn : n ≤ 100000 := by omega
  clear hr hcnt hc2 hE hl hin0 hf hbf en hm
  generalize hws l = ws at *
  generalize ya3 (hL l) = T at *
  generalize hB l = BB at *
  go_enter func66, ntmps66
  go_wp2_with (first
   | (go_at_call 110; refine Hcnt.out.mono ?_; rintro e w2 ⟨A2, c2, rfl, h2, hb2⟩; have H2 := qaa h2; have Hb2 := qaa hb2; clear h2 hb2)
   | (go_at_call 111; refine (Hbest.out _ _ _ H2.out).mono ?_; rintro e w3 ⟨A3, c3, rfl, h3, hb3⟩; have H3 := qaa h3; have Hb3 := qaa (Hb2.out.trans (hb3.mono Hb2.out.size)); clear h3 hb3)
   | (go_at_call 112; refine (Hwords.out _ _ _ H3.out).mono ?_; rintro e w4 ⟨A4, c4, rfl, h4, hb4⟩; have H4 := qaa h4; have H3b := qaa (H3.out.onto hb4); have Hb4 := qaa (Hb3.out.trans (hb4.mono Hb3.out.size)); clear h4 hb4)
   | (go_at_call 113; refine (Hbits.out _ _ _ H3b.out).mono ?_; rintro e w5 ⟨A5, c5, rfl, h5, hb5⟩; have H5 := qaa h5; have Hb5 := qaa hb5; clear h5 hb5))
  have H50 : Hid (w5.ownsRow w4.heap.size 3 1 (.slice A5 T.length c5) T.length (bcs (T ++ ybs ws (l.take 0)))) := qaa (by rw [qaX]; show w5.ownsRow _ _ _ _ _ (bcs (T ++ [])); rw [qa6]; exact H5.out)
  have HL0 : Hid (T.length = T.length + (ybs ws (l.take 0)).length) := qaa rfl
  go_loopw [10, 11, 12, 13] (fun v i dv ev wr => ∃ (k m : Nat) (Av : Option Addr) (cv : Nat), k ≤ n ∧ v = .slice Av m cv ∧ i = .int .i64 k ∧ Hid (m = T.length + (ybs ws (l.take k)).length) ∧ Hid (wr.ownsRow w4.heap.size 3 1 (.slice Av m cv) m (bcs (T ++ ybs ws (l.take k)))) ∧ Hid (Below w4.heap.size w4 wr)) (fun _ i _ _ _ => n - (intOf i).toNat)
  case atStart => exact ⟨0, T.length, A5, c5, by omega, rfl, rfl, HL0, H50, Hb5⟩
  case round =>
   obtain ⟨k, m, Av, cv, hk, rfl, rfl, HL, HO, HB⟩ := hrel
   clear HL0 H50
   by_cases hlt : k < n
   ·have hki : (k : Int) < (n : Int) := by omega
    have hkl : k < l.length := by rw [En.out]; exact hlt
    have hwb : Below w.heap.size w wr := Hb4.out.trans (HB.out.mono Hb4.out.size)
    obtain ⟨b, off, rfl, x1⟩ := Hcell.out wr hwb k hkl
    have hwd := Hword.out wr A4 c4 l[k] (H4.out.onto HB.out)
    have hsn := Hsnoc.out k hkl
    have hsm := Hsm.out l[k]
    have hln := Hlen.out k
    have hkt : (l.take k).length = k := by rw [qar]; omega
    rw [hkt] at hln
    have htl := Htl.out
    have hmm := HL.out
    have hm1 : m ≤ 3300000 := by omega
    obtain ⟨F, hF⟩ : ∃ F, yaD ws l[k] = F := ⟨_, rfl⟩
    rw [hF] at hwd hsn hsm
    have Hwd := qaa hwd
    have Hsn := qaa hsn
    obtain ⟨d, hd⟩ : ∃ d, F.1.length = d := ⟨_, rfl⟩
    rw [hd] at hsm
    have Hd := qaa hd
    have HL2 : Hid (m + d = T.length + (ybs ws (l.take (k + 1))).length) := qaa (by rw [hsn, qae, hd]; omega)
    generalize l[k] = x at *
    have hsz4 := HB.out.size
    clear hwd hsn hkl hd hF hln hkt htl hmm hwb
    go_wp2_with (first
     | (go_at_call 114; refine Hwd.out.mono ?_; unfold CWordPost; rintro e w6 ⟨D, md, cd, rfl, h6, h7, hb6⟩; rw [Hd.out] at h6; subst h6; have H7 := qaa h7; have Hb6 := qaa hb6; have hz6 := hb6.size; clear h7 hb6)
     | (at_builtin; refine yaf _ rfl _ _ 28 rfl w4.heap.size 3 i0 (.int .i64 0) 1 8 underlying28 hi hz0 hz1 hz9 rfl (by decide) _ _ _ rfl (yah HO.out Hb6.out (qaf _)) _ d _ _ _ rfl H7.out ?c1 ?c2 ?c3 ?c4 ?_))
    case c1 => exact yey _
    case c2 => unfold maxLen; omega
    case c3 => omega
    case c4 => omega
    intro v7 w7 ho7 hg7 _
    obtain ⟨A8, c8, rfl, _, _⟩ := yad ho7
    have Ho7 : Hid (w7.ownsRow w4.heap.size 3 1 (.slice A8 (m + d) c8) (m + d) (bcs (T ++ ybs ws (l.take (k + 1))))) := qaa (by
     rw [Hsn.out, ← qak, ybC]
     exact ho7)
    have Hb7 : Hid (Below w4.heap.size w4 w7) := qaa ((HB.out.trans (Hb6.out.mono hsz4)).grown hg7 (by omega) (fun b hb => (HO.out.lt b hb).1))
    clear ho7 hg7
    go_wp2
    go_roundw
    case rel => exact ⟨k + 1, m + d, A8, c8, by omega, rfl, iv (by omega), HL2, Ho7, Hb7⟩
    case measure => simp only [intOf]; omega
   ·obtain rfl : k = n := by omega
    have hii : ¬ (k : Int) < (k : Int) := by omega
    have hO := HO.out
    have hL2 := HL.out
    rw [Hlast.out] at hO hL2
    rw [HBe.out] at hO
    have hml : m = BB.length := by rw [← HBe.out, qae]; exact hL2
    subst hml
    obtain ⟨A9, c9, e9, _, h9⟩ := yad hO
    injection e9 with e1 _ e2
    subst e1 e2
    have H9 := qaa h9
    have Hfin : Hid (Below w.heap.size w wr) := qaa (Hb4.out.trans (HB.out.mono Hb4.out.size))
    clear hO hL2 h9
    go_wp2
    go_ret2
    exact ⟨Av, cv, rfl, H9.out, Hfin.out⟩
 ·have hbf : hbitF l = ([], (hcF l).2) := qag hE
  have hb1 := hc_bad hE
  have hF : hcF l = ([], (hcF l).2) := Prod.ext hb1 rfl
  rw [hF] at hcnt
  rw [hbf]
  have hb2 : ((hcF l).2 == 0) = false := by simpa using hE
  have hb3 : ((hcF l).2 != 0) = true := by simpa using hE
  have Hcnt := qaa hcnt
  clear hr hcnt hbf hb1 hF en hm
  generalize (hcF l).2 = E at *
  go_enter func66, ntmps66
  go_wp2_with (go_at_call 110; refine Hcnt.out.mono ?_; unfold HCPost; rintro e w2 ⟨A2, c2, rfl, _, h2, hb2⟩; have Hb2 := qaa hb2; clear hb2 h2)
  go_ret2
  exact ⟨none, 0, rfl, Reads.none_, Hb2.out⟩
theorem yfW (l : List Int) (A : Option Addr) (n c : Nat) (w : World) (hm : n ≤ 1000000) (hr : Reads w w.heap.size 1 A n (ints l)) :
  Calls prog 38 #[.slice A n c] w fun e w' => e = .returned (.tuple #[.string ⟨(hencF l).1.toArray⟩, .int .i64 (hencF l).2]) ∧ Below w.heap.size w w' := by
 have hb := href_bits_any l A n c w hm hr
 by_cases hE : (hcF l).2 = 0
 ·obtain ⟨hl, hin0, hf⟩ := hc_ok hE
  have he : hencF l = (text (hB l), 0) := qah hE
  have hbf : hbitF l = (hB l, 0) := qah hE
  rw [hbf] at hb
  rw [he]
  dsimp only
  have hln := hB_len hl
  have Hb := qaa hb
  have Ht := qaa fun (A : Option Addr) (c : Nat) (W : World) hr => refText_any (hB l) A (hB l).length c W rfl (by omega) hr (hB_bin hl)
  clear hr hb hbf he hE hf hl hin0 hln
  generalize hB l = BB at *
  go_enter func38, ntmps38
  go_wp2_with (first
   | (go_at_call 66; refine Hb.out.mono ?_; unfold HBPost; rintro e w2 ⟨A2, c2, rfl, h2, hb2⟩; have H2 := qaa h2; have Hb2 := qaa hb2; clear h2 hb2)
   | (go_at_call 67; refine (Ht.out _ _ _ H2.out).mono ?_; rintro e w3 ⟨rfl, hb3⟩; have Hb3 := qaa (Hb2.out.trans (hb3.mono Hb2.out.size)); clear hb3))
  go_ret2
  exact ⟨rfl, Hb3.out⟩
 ·have he : hencF l = ([], (hcF l).2) := qag hE
  have hbf : hbitF l = ([], (hcF l).2) := qag hE
  rw [hbf] at hb
  rw [he]
  dsimp only
  have hb2 : ((hcF l).2 == 0) = false := by simpa using hE
  have hb3 : ((hcF l).2 != 0) = true := by simpa using hE
  have Hb := qaa hb
  clear hr hb hbf he hE
  generalize (hcF l).2 = E at *
  go_enter func38, ntmps38
  go_wp2_with (go_at_call 66; refine Hb.out.mono ?_; unfold HBPost; rintro e w2 ⟨A2, c2, rfl, _, hb2⟩; have Hb2 := qaa hb2; clear hb2)
  go_ret2
  exact ⟨rfl, Hb2.out⟩
section
variable {l : List Int}
theorem hc_best (hl : l.length ≤ 100000) (W : World) (A : Option Addr) (c : Nat) (hr : Reads W W.heap.size 1 A 257 (ints (ya4 l))) :
  Calls prog 103 #[.slice A 257 c, .int .i64 15] W fun e w' => ∃ A' c', e = .returned (.tuple #[.slice A' 257 c', .int .i64 0]) ∧ 257 ≤ c' ∧ Reads w' w'.heap.size 1 A' 257 (ints (hL l)) ∧ Below W.heap.size W w' := by
 have := p_best_any (ya4 l) 15 A 257 c W (by omega) hr
 rw [hbest hl] at this
 refine this.mono ?_
 rintro e w' ⟨A', c', rfl, h1, h2, h3⟩
 rw [ydx] at h1 h2 ⊢
 exact ⟨A', c', rfl, h1, h2, h3⟩
theorem hc_new (hl : l.length ≤ 100000) (W : World) (A : Option Addr) (c : Nat) (hr : Reads W W.heap.size 1 A 257 (ints (hL l))) :
  Calls prog 62 #[.slice A 257 c] W fun e w' => ∃ g, e = .returned (.tuple #[.pointer (some ⟨g, 0, none⟩), .int .i64 0]) ∧ CCode w' w'.heap.size g ((hL l).map Int.toNat) ∧ Below W.heap.size W w' := by
 refine (c_new_any (hL l) A 257 c W (by omega) hr).mono ?_
 rintro e w' ⟨h1, ⟨_, g, _, rfl, h2⟩ | ⟨h2, _⟩⟩
 ·exact ⟨g, rfl, h2.1, h1⟩
 ·exact absurd (ycn hl) h2
theorem hc_counts (hE : (hcF l).2 = 0) (A : Option Addr) (n c : Nat) (w : World) (hm : n ≤ 1000000) (hr : Reads w w.heap.size 1 A n (ints l)) :
  Calls prog 102 #[.slice A n c] w fun e w' => ∃ A' c', e = .returned (.tuple #[.slice A' 257 c', .int .i64 0]) ∧ Reads w' w'.heap.size 1 A' 257 (ints (ya4 l)) ∧ Below w.heap.size w w' := by
 have hcnt := ydO l A n c w hm hr
 obtain ⟨hl, hin0, hf⟩ := hc_ok hE
 rw [hf] at hcnt
 refine hcnt.mono ?_
 rintro e w' ⟨A', c', rfl, _, h2, h3⟩
 rw [yat] at h2 ⊢
 exact ⟨A', c', rfl, h2, h3⟩
theorem hc_counts_no (hE : (hcF l).2 ≠ 0) (A : Option Addr) (n c : Nat) (w : World) (hm : n ≤ 1000000) (hr : Reads w w.heap.size 1 A n (ints l)) :
  Calls prog 102 #[.slice A n c] w fun e w' => ∃ A' c', e = .returned (.tuple #[.slice A' 0 c', .int .i64 (hcF l).2]) ∧ Below w.heap.size w w' := by
 have hcnt := ydO l A n c w hm hr
 have hF : hcF l = ([], (hcF l).2) := Prod.ext (hc_bad hE) rfl
 rw [hF] at hcnt
 refine hcnt.mono ?_
 rintro e w' ⟨A', c', rfl, _, h2, h3⟩
 exact ⟨A', c', rfl, h3⟩
end
theorem p_hbest_yes (l : List Int) (A : Option Addr) (n c : Nat) (w : World) (hm : n ≤ 1000000) (hr : Reads w w.heap.size 1 A n (ints l)) (hE : (hcF l).2 = 0) :
  Calls prog 61 #[.slice A n c] w fun e w' => ∃ A2 c2 A3 c3, e = .returned (.tuple #[.slice A2 257 c2, .slice A3 257 c3, .int .i64 0]) ∧ 257 ≤ c3 ∧ Reads w' w'.heap.size 1 A2 257 (ints (ya4 l)) ∧ Reads w' w'.heap.size 1 A3 257 (ints (hL l)) ∧ Below w.heap.size w w' := by
 obtain ⟨hl, hin0, hf⟩ := hc_ok hE
 have Hcnt := qaa (hc_counts hE A n c w hm hr)
 have Hbest := qaa fun W A c hr => hc_best (l := l) hl W A c hr
 clear hr hE hl hin0 hf hm
 go_enter func61, ntmps61
 go_wp2_with (first
  | (go_at_call 102; refine Hcnt.out.mono ?_; rintro e w2 ⟨A2, c2, rfl, h2, hb2⟩; have H2 := qaa h2; have Hb2 := qaa hb2; clear h2 hb2)
  | (go_at_call 103; refine (Hbest.out _ _ _ H2.out).mono ?_; rintro e w3 ⟨A3, c3, rfl, hc3, h3, hb3⟩; have H3 := qaa h3; have Hc3 := qaa hc3; have H2b := qaa (H2.out.onto hb3); have Hb3 := qaa (Hb2.out.trans (hb3.mono Hb2.out.size)); clear h3 hb3 hc3))
 go_ret3
 exact ⟨A2, c2, A3, c3, rfl, Hc3.out, H2b.out, H3.out, Hb3.out⟩
theorem p_hbest_no (l : List Int) (A : Option Addr) (n c : Nat) (w : World) (hm : n ≤ 1000000) (hr : Reads w w.heap.size 1 A n (ints l)) (hE : (hcF l).2 ≠ 0) :
  Calls prog 61 #[.slice A n c] w fun e w' => e = .returned (.tuple #[.slice none 0 0, .slice none 0 0, .int .i64 (hcF l).2]) ∧ Below w.heap.size w w' := by
 have hb2 : ((hcF l).2 == 0) = false := by simpa using hE
 have hb3 : ((hcF l).2 != 0) = true := by simpa using hE
 have Hcnt := qaa (hc_counts_no hE A n c w hm hr)
 clear hr hE hm
 generalize (hcF l).2 = E at *
 go_enter func61, ntmps61
 go_wp2_with (go_at_call 102; refine Hcnt.out.mono ?_; rintro e w2 ⟨A2, c2, rfl, hb2⟩; have Hb2 := qaa hb2; clear hb2)
 go_ret3
 exact ⟨rfl, Hb2.out⟩
theorem hws_below {B0 B g : Nat} {w1 w' : World} {v : Value} {R : List Nat} (hW : WHold w1 B g v R) (hg : B0 ≤ g) (hB : B0 ≤ B) (hs : B0 ≤ w1.heap.size) (ht : Touch w1 w' (WS g v)) : Below B0 w1 w' :=
 ht.below (fun k _ e => by
  rcases e with e | e
  ·omega
  ·exact qa7 hB (hW.2.1.lt k e).1) hs
def HEnc (w4 : World) (T : List Nat) (ws : List (Int × Int)) (l : List Int) (k : Nat) (wr : World) : Prop :=
 ∃ v, WHold wr w4.heap.size w4.heap.size v (T ++ ybs ws (l.take k)) ∧ Below w4.heap.size w4 wr ∧ w4.heap.size ≤ wr.heap.size
theorem HEnc.step {w4 wr : World} {l : List Int} {g k : Nat} (hl : l.length ≤ 100000) (hi : hin l = true) (hc : CCode w4 w4.heap.size g ((hL l).map Int.toNat)) (hk : k < l.length) (h : HEnc w4 (ya3 (hL l)) (hws l) l k wr) :
  Calls prog 64 #[.pointer (some ⟨g, 0, none⟩), .pointer (some ⟨w4.heap.size, 0, none⟩), .int .i64 l[k]] wr fun e w' => e = .returned (.int .i64 0) ∧ HEnc w4 (ya3 (hL l)) (hws l) l (k + 1) w' := by
 obtain ⟨v, h1, h2, h3⟩ := h
 have hln : (ya3 (hL l) ++ ybs (hws l) (l.take k)).length ≤ 1099511627776 := by
  have a := ye2 l
  have b := ydc (hfit l hl) (l.take k)
  rw [qar] at b
  rw [qae]
  omega
 refine (c_put_yes ((hL l).map Int.toNat) w4.heap.size w4.heap.size g w4.heap.size v _ l[k] wr (hc.below h2) (by rw [qaN, ydx]; omega) (hL_word hl hi _ (qam hk)) (hfit l hl) h1 h3 hln).mono ?_
 rintro e w' ⟨rfl, v2, g1, g2, g3⟩
 refine ⟨rfl, v2, ?_, h2.trans (hws_below h1 (qaf _) (qaf _) h3 g2), qa7 h3 g2.size⟩
 rw [cbits_snoc (hws l) l k hk, ← qak]
 exact g1
theorem p_hencode_any (l : List Int) (A : Option Addr) (n c : Nat) (w : World) (hm : n ≤ 1000000) (hr : Reads w w.heap.size 1 A n (ints l)) :
  Calls prog 35 #[.slice A n c] w fun e w' => e = .returned (.tuple #[.string ⟨(hencF l).1.toArray⟩, .int .i64 (hencF l).2]) ∧ Below w.heap.size w w' := by
 have en : l.length = n := by have := hr.1; rw [yae] at this; omega
 by_cases hE : (hcF l).2 = 0
 ·obtain ⟨hl, hin0, hf⟩ := hc_ok hE
  have he : hencF l = (text (hB l), 0) := qah hE
  rw [he]
  dsimp only
  have Hbest := qaa (p_hbest_yes l A n c w hm hr hE)
  have Hnew := qaa fun W A c hr => hc_new (l := l) hl W A c hr
  have Hput := qaa fun (W : World) A c (hr : Reads W W.heap.size 1 A 257 (ints (hL l))) (hc : 257 ≤ c) => p_tput_yes W.heap.size W.heap.size W.heap.size (.slice none 0 0) [] (hL l) A 257 c (W.alloc (.cells #[.slice none 0 0, .int .i64 0] 102)) (hr.alloc (qaf _) _) ⟨qaf _, qaf _⟩ (ycn hl) (twriter_new W) (by simp) (by simp) hc
  have Hstep := qaa fun (w4 wr : World) g k hc hk h => HEnc.step (w4 := w4) (wr := wr) (l := l) (g := g) (k := k) hl hin0 hc hk h
  have Hcell : Hid (∀ W, Below w.heap.size w W → ∀ k (hk : k < l.length), ∃ b off, A = some ⟨b, off, none⟩ ∧ W.cell? ⟨b, off + k, none⟩ = some (.int .i64 l[k])) := qaa fun W hW k hk => by
   obtain ⟨b, off, e, hb, hc⟩ := hr.2 (by omega)
   exact ⟨b, off, e, (hW.cell (p := ⟨b, off + k, none⟩) hb).trans (hc k _ (yak l k hk))⟩
  have Hlast : Hid (ya3 (hL l) ++ ybs (hws l) (l.take n) = hB l) := qaa (by rw [qax (by omega)]; rfl)
  have En := qaa en
  have hni : (n : Int) ≤ 100000 := by omega
  have hput0 : ∀ T : List Nat, [] ++ T = T ++ ybs (hws l) (l.take 0) := fun T => by rw [qaX]; simp [ybs]
  have Hp0 := qaa hput0
  clear hr hE hl hin0 hf he en hm hput0
  generalize hws l = ws at *
  generalize ya3 (hL l) = T at *
  generalize hB l = BB at *
  go_enter func35, ntmps35
  go_wp2_with (first
   | (go_at_call 61; refine Hbest.out.mono ?_; rintro e w3 ⟨A2, c2, A3, c3, rfl, hc3, _, h3, hb3⟩; have H3 := qaa h3; have Hc3 := qaa hc3; have Hb3 := qaa hb3; clear h3 hb3 hc3)
   | (go_at_call 62; refine (Hnew.out _ _ _ H3.out).mono ?_; rintro e w4 ⟨g, rfl, h4, hb4⟩; have H4 := qaa h4; have H3b := qaa (H3.out.onto hb4); have Hb4 := qaa (Hb3.out.trans (hb4.mono Hb3.out.size)); clear h4 hb4)
   | (go_at_call 63; refine (Hput.out w4 _ _ H3b.out Hc3.out).mono ?_; rintro e w5 ⟨rfl, v5, hW5, ht5, hs5⟩; have HW5 := qaa hW5; have Ht5 := qaa ht5; clear hW5 ht5 hs5))
  have HE0 : Hid (HEnc w4 T ws l 0 w5) := qaa (by
   have h1 := HW5.out
   rw [Hp0.out] at h1
   have h2 : Below w4.heap.size w4 w5 := twriter_back rfl Ht5.out (fun k e => by cases e)
   exact ⟨v5, h1, h2, h2.size⟩)
  clear HW5 Ht5 Hput Hnew Hbest H3 H3b Hc3 Hp0
  go_loopw [11, 30] (fun xv i wr => ∃ k : Nat, k ≤ n ∧ i = .int .i64 k ∧ Hid (HEnc w4 T ws l k wr)) (fun _ i _ => n - (intOf i).toNat)
  case atStart => exact ⟨0, by omega, rfl, HE0⟩
  case round =>
   obtain ⟨k, hk, rfl, HI⟩ := hrel
   clear HE0
   have hwb : Below w.heap.size w wr := by
    obtain ⟨v, h1, h2, h3⟩ := HI.out
    exact Hb4.out.trans (h2.mono Hb4.out.size)
   have Hwb := qaa hwb
   clear hwb
   by_cases hlt : k < n
   ·have hki : (k : Int) < (n : Int) := by omega
    have hkl : k < l.length := by rw [En.out]; exact hlt
    obtain ⟨b, off, rfl, x1⟩ := Hcell.out wr Hwb.out k hkl
    have Hst := qaa (Hstep.out w4 wr g k H4.out hkl HI.out)
    generalize l[k] = x at *
    clear hkl
    go_wp2_with (go_at_call 64; refine Hst.out.mono ?_; rintro e w6 ⟨rfl, h6⟩; have H6 := qaa h6; clear h6)
    go_roundw
    case rel => exact ⟨k + 1, by omega, iv (by omega), H6⟩
    case measure => simp only [intOf]; omega
   ·obtain rfl : k = n := by omega
    have hii : ¬ (k : Int) < (k : Int) := by omega
    obtain ⟨v, hW, _, _⟩ := HI.out
    rw [Hlast.out] at hW
    have HW := qaa hW
    clear hW
    go_wp2_with (go_at_call 65; refine (wtext_any _ _ _ _ _ HW.out).mono ?_; rintro e w7 ⟨rfl, rfl⟩)
    go_ret2
    exact ⟨rfl, Hwb.out⟩
 ·have he : hencF l = ([], (hcF l).2) := qag hE
  rw [he]
  dsimp only
  have hb2 : ((hcF l).2 == 0) = false := by simpa using hE
  have hb3 : ((hcF l).2 != 0) = true := by simpa using hE
  have Hbest := qaa (p_hbest_no l A n c w hm hr hE)
  clear hr he hE en hm
  generalize (hcF l).2 = E at *
  go_enter func35, ntmps35
  go_wp2_with (go_at_call 61; refine Hbest.out.mono ?_; rintro e w2 ⟨rfl, hb2⟩; have Hb2 := qaa hb2; clear hb2)
  go_ret2
  exact ⟨rfl, Hb2.out⟩
end Go.Proofs.YtanjhbkbpalnaaaGreat
