/-
  What the law of the last of these texts stands on, part 33.
-/
import Derived.Test.YtpocpckhcciecaaRows
import Derived.Test.YtpocpckhcciecaaMg01
import Derived.Test.YtpocpckhcciecaaMg02
import Derived.Test.YtpocpckhcciecaaMg03
import Derived.Test.YtpocpckhcciecaaMg04
import Derived.Test.YtpocpckhcciecaaMg05
import Derived.Test.YtpocpckhcciecaaMg06
import Derived.Test.YtpocpckhcciecaaMg07
import Derived.Test.YtpocpckhcciecaaMg08
import Derived.Test.YtpocpckhcciecaaMg09
import Derived.Test.YtpocpckhcciecaaMg10
import Derived.Test.YtpocpckhcciecaaMg23
import Derived.Test.YtpocpckhcciecaaMg24
import Derived.Test.YtpocpckhcciecaaMg25
import Derived.Test.YtpocpckhcciecaaMg26
import Derived.Test.YtpocpckhcciecaaMg27
import Derived.Test.YtpocpckhcciecaaMg28
import Derived.Test.YtpocpckhcciecaaMg29
import Derived.Test.YtpocpckhcciecaaMg30
import Derived.Test.YtpocpckhcciecaaMg31
import Derived.Test.YtpocpckhcciecaaMg32
import Derived.WalkKit
import Derived.WalkSpells
import Derived.WalkLawsBesides
import Derived.ProofKit
import Derived.OpenShut
import Derived.Handy
import Derived.SizedLaws
import Derived.JoinedOf
import Derived.KernelRfl
import Derived.Lib.Hide
import Derived.Lib.SmallJoins
import Derived.Deep.Slices
import Derived.Deep.Fields
import Derived.Deep.SlicePairs
import Derived.Deep.Draws
import Derived.Deep.AppendLies
import Derived.Deep.QuietTactic
import Derived.BigQuiet
import Derived.Deep.RegionHeld3
import Derived.StillTailTactics
import Derived.Laws.OwnMore
import Derived.Laws.Rows
import Derived.Below
import Derived.Carry
import Derived.WalkMore
import Derived.Laws.BytesString
import Derived.Laws.BitsLemmas
import Derived.Laws.Concat
import Derived.Shelf.Spec.SlicesGrow
import Derived.Deep.OwnRows
import Derived.Lib.OwnBridge
import Derived.Shelf.SlSorted.Search
import Derived.Deep.RegionWith
import Derived.Laws.EntriesVeiled
import Derived.Deep.Upon
import Derived.Sort.WalkB2
import Derived.Sort.WalkB12
import Derived.Deep.LoopGhost
import Derived.Shelf.SlSortCmp.KitK
import Derived.Deep.RegionLaw
namespace Go.Proofs.Ytpocpckhcciecaa
set_option linter.unusedSimpArgs false
set_option linter.unusedVariables false
open Go.ChangeShapes Go.WideShapes Go.ChangeAt Go.RowKit Go.Joins Go.Deep
theorem pplv_len : ∀ (l : List Int) (i : Nat), (plv i l).length ≤ l.length
  | [], _ => Nat.le_refl _
  | c :: t, i => by
    have := pplv_len t (i + 1)
    by_cases h : 0 < c
    · rw [plv_yes _ _ _ h, List.length_cons, List.length_cons]; omega
    · rw [plv_no _ _ _ h, List.length_cons]; omega
theorem pbest_below {w w1 w2 w3 : World} {o : Obj} (h1 : Below w.heap.size w w1) (h2 : Below w1.heap.size w1 w2) (h3 : Below (w2.alloc o).heap.size (w2.alloc o) w3) : Below w.heap.size w w3 := by
  have h4 : Below w.heap.size w w2 := h1.trans (h2.mono h1.size)
  have h5 := h4.alloc h4.size o
  exact h5.trans (h3.mono h5.size)
theorem pbest_row {W : World} {A : Option Addr} {n : Nat} {E : List PEl} {o : Obj} (h : PRow (fun _ => True) W W.heap.size A n E) : PRow (fun b => b ≠ W.heap.size) (W.alloc o) (W.alloc o).heap.size A n E :=
  ((h.okto (fun b hb => by show b ≠ W.heap.size; omega)).below ((Below.refl _ _).alloc (Nat.le_refl _) o)).more (by rw [World.size_alloc]; omega)
theorem pbest_new (W : World) (o : Obj) : ∀ b, (W.alloc o).heap.size ≤ b → b ≠ W.heap.size := fun b hb => by rw [World.size_alloc] at hb; omega
theorem pbest_room {Z : List PEl} {R : List LTh} {c t : Nat} (h : pth Z = R) (hc : Z.length ≤ c) (ht : t ≤ R.length) : (t : Int) ≤ (c : Int) := by
  have : Z.length = R.length := by rw [← h]; simp [pth]
  omega
theorem pbest_below2 {w w3 w5 : World} {o : Obj} (h1 : Below w.heap.size w w3) (h2 : Below (w3.alloc o).heap.size (w3.alloc o) w5) : Below w.heap.size w w5 := by
  have h5 := h1.alloc h1.size o
  exact h5.trans (h2.mono h5.size)
theorem pbest_none {Z : List PEl} {R : List LTh} {W : World} {t : Nat} {ok : Nat → Prop} (h : pth Z = R) (hq : PRow ok W W.heap.size none Z.length Z) (ht : t ≤ R.length) : t = 0 := by
  have : Z.length = R.length := by rw [← h]; simp [pth]
  rcases Nat.eq_zero_or_pos Z.length with e | e
  · omega
  · obtain ⟨b, off, e2, _⟩ := hq.2.1.2 e
    cases e2
theorem pbest_blk (n : Nat) (RW : List LTh) {w3 w5 : World} (h : Below (w3.alloc (.cells (ints (lout n (fun _ => 0))).toArray 3)).heap.size (w3.alloc (.cells (ints (lout n (fun _ => 0))).toArray 3)) w5) : Blk w5 w3.heap.size 3 (ints (lout n (lfar RW 0 0))).toArray := by
  have h1 := Blk.new w3 3 (ints (lout n (fun _ => 0))).toArray
  have h2 := h1.below h h1.lt
  rw [lout_congr n (lfar RW 0 0) (fun _ => 0) fun t _ => by rw [lfar_zero]; rfl]
  exact h2
theorem pbest_th {Z : List PEl} {R : List LTh} (h : pth Z = R) (k : Nat) (hk : k < R.length) : ∃ hz : k < Z.length, Z[k].th = R[k] := by
  subst h
  unfold pth at hk ⊢
  rw [List.length_map] at hk
  exact ⟨hk, by rw [List.getElem_map]⟩
theorem pbest_fin (RW : List LTh) (n t : Nat) (BL : List Int) (F : List Int × Int) (W : World) (g : Nat) (w : World) (hBL : BL = lout n (fun s => lsum (lhas s) (RW.take t))) (hF : (BL, (0 : Int)) = F) (hB : Blk W g 3 (ints (lout n (lfar RW t 0))).toArray) (hw : Below w.heap.size w W) :
    ∃ A' c', Ending.returned (.tuple #[.slice (some ⟨g, 0, none⟩) n n, .int .i64 0]) = Ending.returned (.tuple #[.slice A' F.1.length c', .int .i64 F.2]) ∧ F.1.length ≤ c' ∧ Reads W W.heap.size 1 A' F.1.length (ints F.1) ∧ Below w.heap.size w W := by
  subst hF
  have hl : BL.length = n := by rw [hBL, lout_len]
  refine ⟨some ⟨g, 0, none⟩, n, by rw [hl], by rw [hl]; exact Nat.le_refl _, ?_, hw⟩
  refine ⟨by rw [ints_length]; omega, fun _ => ⟨g, 0, rfl, hB.lt, fun j u hu => ?_⟩⟩
  rw [Nat.zero_add, hB.cell, List.getElem?_toArray, lout_congr n (lfar RW t 0) (fun s => lsum (lhas s) (RW.take t)) fun s _ => lfar_zero RW t s, ← hBL]
  exact hu
theorem pbest_grow {w w5 W : World} {g : Nat} (h : Below w.heap.size w w5) (hg : w5.grownBy W (some g)) (hgw : w.heap.size ≤ g) : Below w.heap.size w W := h.trans (below_grow hg hgw h.size)
set_option maxRecDepth 100000 in
set_option maxHeartbeats 40000000 in
theorem p_best_any (counts : List Int) (most : Int) (A : Option Addr) (n c : Nat) (w : World) (hm : n ≤ 100000) (hr : Reads w w.heap.size 1 A n (ints counts)) :
    Calls Try.prog 16 #[.slice A n c, .int .i64 most] w fun e w' => ∃ A' c', e = .returned (.tuple #[.slice A' (lbestF counts most).1.length c', .int .i64 (lbestF counts most).2]) ∧ (lbestF counts most).1.length ≤ c' ∧ Reads w' w'.heap.size 1 A' (lbestF counts most).1.length (ints (lbestF counts most).1) ∧ Below w.heap.size w w' := by
  have en : counts.length = n := by have := hr.1; rw [ints_length] at this; omega
  have hni : (n : Int) ≤ 100000 := by omega
  have En := Lib.hid en
  have Hall := Lib.hid (a_all_any counts 1000000 A n c w (by omega) hr)
  obtain ⟨F, hF⟩ : ∃ F, lbestF counts most = F := ⟨_, rfl⟩
  rw [hF]
  unfold lbestF at hF
  rw [en] at hF
  by_cases h1 : 257 < n
  · have h1i : (257 : Int) < n := by omega
    rw [if_pos h1] at hF
    have Hf := Lib.hid hF
    clear hF hr
    go_enter Try.func16, Try.ntmps16
    go_wp2
    go_ret2
    rw [← Hf.out]
    exact ⟨none, 0, rfl, Nat.le_refl _, Reads.none_, Below.refl _ _⟩
  · have h1i : ¬ (257 : Int) < n := by omega
    rw [if_neg h1] at hF
    by_cases hg : cgood counts = true
    · have hga : agood 1000000 counts = true := hg
      rw [hga] at Hall
      by_cases h2 : most < 1
      · rw [if_pos (Or.inl h2)] at hF
        have Hf := Lib.hid hF
        clear hF hr hg hga
        go_enter Try.func16, Try.ntmps16
        go_wp2_with (go_at_call 35; refine Hall.out.mono ?_; rintro e w1 ⟨rfl, hb1⟩; have Hb1 := Lib.hid hb1; clear hb1)
        go_ret2
        rw [← Hf.out]
        exact ⟨none, 0, rfl, Nat.le_refl _, Reads.none_, Hb1.out⟩
      · by_cases h3 : 15 < most
        · rw [if_pos (Or.inr h3)] at hF
          have Hf := Lib.hid hF
          clear hF hr hg hga
          go_enter Try.func16, Try.ntmps16
          go_wp2_with (go_at_call 35; refine Hall.out.mono ?_; rintro e w1 ⟨rfl, hb1⟩; have Hb1 := Lib.hid hb1; clear hb1)
          go_ret2
          rw [← Hf.out]
          exact ⟨none, 0, rfl, Nat.le_refl _, Reads.none_, Hb1.out⟩
        · rw [if_neg (by omega), if_pos hg] at hF
          obtain ⟨L, rfl⟩ : ∃ L : Nat, most = L := ⟨most.toNat, by omega⟩
          rw [Int.toNat_natCast] at hF
          have hL : 1 ≤ L ∧ L ≤ 15 := by omega
          have hLi : (1 : Int) ≤ (L : Int) ∧ (L : Int) ≤ 15 := by omega
          have hllen : (lleaves counts).length ≤ n := by have := lleaves_len counts; omega
          have Hleaves := Lib.hid fun (W : World) (hW : Below w.heap.size w W) => leaves_any (fun _ => True) counts A n c W (fun _ _ => trivial) ((hr.below hW).more hW.size) (by omega)
          have Hrow := Lib.hid fun (W : World) (E : List PEl) (A2 : Option Addr) (c2 : Nat) (hp : PRow (fun _ => True) W W.heap.size A2 E.length E) (hpl : E.length ≤ 1000) =>
            row_any (fun _ => True) [⟨A2, E.length, c2, E⟩] (some ⟨W.heap.size, 0, none⟩) 1 1 (W.alloc (.cells #[.slice A2 E.length c2] 60)) rfl (by omega)
              (fun _ => ⟨W.heap.size, 0, rfl, by rw [World.size_alloc]; omega, fun i hi => by
                have hi2 : i < 1 := hi
                obtain rfl : i = 0 := by omega
                exact (Blk.new W 60 #[.slice A2 E.length c2]).cell 0⟩)
              (fun _ _ => trivial)
              (fun s hs => by
                rw [List.mem_singleton.1 hs]
                have hba : Below W.heap.size W (W.alloc (.cells #[.slice A2 E.length c2] 60)) := (Below.refl _ _).alloc (Nat.le_refl _) _
                exact (hp.below hba).more hba.size)
              (by show (E ++ []).length ≤ _; rw [List.append_nil]; omega)
          have Hfirst : Hid (∀ (E Z : List PEl), pth E = plv 0 counts → Z.Perm (renum 0 (rall [(⟨none, 0, 0, E⟩ : RSrc)])) → Z.Pairwise (sord (ltOf pcf) (·.no)) → pth Z = lleaves counts) := Lib.hid fun E Z a1 a2 a3 => first_row counts E Z a1 (by simpa [rall] using a2) a3
          have Hlast := Lib.hid fun (g : Nat) (E1 : List PEl) (A1 : Option Addr) (c1 : Nat) (W : World) (a1 : pth E1 = lleaves counts) (a2 : PRow (fun b => b ≠ g) W W.heap.size A1 E1.length E1) (a3 : E1.length ≤ c1) (a4 : ∀ b, W.heap.size ≤ b → b ≠ g) => last_any (fun b => b ≠ g) counts E1 L A1 c1 W (by omega) hg a1 a4 a2 a3 hL
          have hElen : Hid (∀ E : List PEl, pth E = plv 0 counts → E.length ≤ 1000) := Lib.hid fun E hE => by
            have h5 := congrArg List.length hE
            have h6 := pplv_len counts 0
            unfold pth at h5
            rw [List.length_map] at h5
            omega
          have hZlen : Hid (∀ Z : List PEl, pth Z = lleaves counts → Z.length = (lleaves counts).length) := Lib.hid fun Z hZ => by rw [← hZ]; simp [pth]
          have hroom : 2 ^ L < (lleaves counts).length ∨ max (2 * (lleaves counts).length - 2) (lleaves counts).length ≤ (lrow (lleaves counts) (L - 1)).length := by
            by_cases hb : 2 ^ L < (lleaves counts).length
            · exact Or.inl hb
            · refine Or.inr ?_
              by_cases hm2 : 2 ≤ (lleaves counts).length
              · have := lrow_room (lleaves_ok counts) (lleaves_pos counts) (L - 1) hm2 (by rw [show L - 1 + 1 = L from by omega]; omega)
                omega
              · have : ∀ k, (lleaves counts).length ≤ (lrow (lleaves counts) k).length := fun k => by
                  cases k with
                  | zero => exact Nat.le_refl _
                  | succ k => rw [lrow_len (lleaves_ok counts)]; omega
                have := this (L - 1)
                omega
          have Hfits : Hid (∀ x ∈ lrow (lleaves counts) (L - 1), x.syms.length ≤ 400000 ∧ ∀ s ∈ x.syms, s < n) := Lib.hid fun x hx => by
            obtain ⟨f1, _, _, f4⟩ := lrow_fits counts hg (L - 1) x hx
            have := lexp_le (show L - 1 ≤ 14 by omega)
            exact ⟨by omega, fun s hs => by have := f4 s hs; omega⟩
          have Hrl : Hid ((lrow (lleaves counts) (L - 1)).length ≤ 600) := Lib.hid (by have := lrow_short (lleaves_ok counts) (L - 1); omega)
          have Htake := Lib.hid (lbest_taken counts L)
          rw [en] at Htake
          have hp15 : (2 ^ L : Nat) ≤ 32768 := Nat.le_trans (Nat.pow_le_pow_right (by omega) hL.2) (by decide)
          have hmk := fun W => lmk_ints (n : Int) n rfl (by omega) W
          rw [lout_zero] at hmk
          have HF := Lib.hid hF
          clear hr hg hga hF
          generalize lbestL counts L = BL at *
          generalize lrow (lleaves counts) (L - 1) = RW at *
          generalize hm0 : lleaves counts = LV at *
          clear hm0
          obtain ⟨m, hmm⟩ : ∃ m, LV.length = m := ⟨_, rfl⟩
          rw [hmm] at HF hZlen hroom Htake hllen
          clear hmm
          have hpw : ((2 : Int) ^ L) = ((2 ^ L : Nat) : Int) := by simp
          by_cases hbig : 2 ^ L < m
          · have hf := HF.out
            rw [if_pos hbig] at hf
            have Hf := Lib.hid hf
            have hbi : ((2 ^ L : Nat) : Int) < (m : Int) := by omega
            generalize (2 ^ L : Nat) = PW at *
            clear hf HF hroom Htake
            go_enter Try.func16, Try.ntmps16
            go_wp2_with (first
              | (go_at_call 35; refine Hall.out.mono ?_; rintro e w1 ⟨rfl, hb1⟩; have Hb1 := Lib.hid hb1; clear hb1)
              | (go_at_call 37; refine (Hleaves.out _ Hb1.out).mono ?_; rintro e w2 ⟨E, A2, c2, rfl, hc2, hp2, hq2, hb2⟩; have HP2 := Lib.hid hp2; have HQ2 := Lib.hid hq2; have HB2 := Lib.hid hb2; clear hp2 hq2 hb2)
              | (go_at_call 36; refine (Hrow.out _ _ _ _ HQ2.out (hElen.out E HP2.out)).mono ?_; rintro e w3 ⟨Z, A3, c3, rfl, hc3, hp3, ho3, hq3, hb3⟩; have HZ : Hid (pth Z = LV) := Lib.hid (Hfirst.out E Z HP2.out hp3 ho3); have hzl : (Z.length : Int) = (m : Int) := congrArg Nat.cast (hZlen.out Z HZ.out); have HQ3 := Lib.hid hq3; have HB3 := Lib.hid hb3; clear hp3 ho3 hq3 hb3))
            go_ret2
            rw [← Hf.out]
            exact ⟨none, 0, rfl, Nat.le_refl _, Reads.none_, pbest_below Hb1.out HB2.out HB3.out⟩
          · have hbi : ¬ ((2 ^ L : Nat) : Int) < (m : Int) := by omega
            have hf := HF.out
            rw [if_neg hbig] at hf
            have Hf := Lib.hid hf
            obtain ⟨t, ht⟩ : ∃ t, max (2 * m - 2) m = t := ⟨_, rfl⟩
            have htR : t ≤ RW.length := by
              rcases hroom with h | h
              · exact absurd h hbig
              · omega
            have hrl := Hrl.out
            have hti : (t : Int) ≤ 600 := by omega
            rw [ht] at Htake
            generalize (2 ^ L : Nat) = PW at *
            clear hf HF hbig
            by_cases hm2 : 2 ≤ m
            · skip
              have zt : 2 * (m : Int) - 2 = (t : Int) := by omega
              have zt2 : ¬ (t : Int) < (m : Int) := by omega
              have zt3 : (m : Int) ≤ (t : Int) := by omega
              clear hroom
              go_enter Try.func16, Try.ntmps16
              go_wp2_with (first
                | (go_at_call 35; refine Hall.out.mono ?_; rintro e w1 ⟨rfl, hb1⟩; have Hb1 := Lib.hid hb1; clear hb1)
                | (go_at_call 37; refine (Hleaves.out _ Hb1.out).mono ?_; rintro e w2 ⟨E, A2, c2, rfl, hc2, hp2, hq2, hb2⟩; have HP2 := Lib.hid hp2; have HQ2 := Lib.hid hq2; have HB2 := Lib.hid hb2; clear hp2 hq2 hb2)
                | (go_at_call 36; refine (Hrow.out _ _ _ _ HQ2.out (hElen.out E HP2.out)).mono ?_; rintro e w3 ⟨Z, A3, c3, rfl, hc3, hp3, ho3, hq3, hb3⟩; have HZ : Hid (pth Z = LV) := Lib.hid (Hfirst.out E Z HP2.out hp3 ho3); have hzl : (Z.length : Int) = (m : Int) := congrArg Nat.cast (hZlen.out Z HZ.out); have HQ3 := Lib.hid hq3; have HB3 := Lib.hid hb3; have Hc3 := Lib.hid hc3; clear hp3 ho3 hq3 hb3 hc3)
                | (go_at_call 38; refine (Hlast.out w3.heap.size Z A3 c3 _ HZ.out (pbest_row HQ3.out) Hc3.out (pbest_new _ _)).mono ?_; rintro e w5 ⟨Z5, A5, c5, rfl, hc5, hp5, hq5, hb5⟩; have HP5 := Lib.hid hp5; have HQ5 := Lib.hid hq5; have HB5 := Lib.hid hb5; have Hc5 := Lib.hid hc5; have htc : (t : Int) ≤ (c5 : Int) := pbest_room hp5 hc5 htR; clear hp5 hq5 hb5 hc5; rcases A5 with _ | ⟨b5, off5, sp5⟩))
              · -- no thing at all
                have ht0 : t = 0 := pbest_none HP5.out HQ5.out htR
                subst ht0
                have hBg : Hid (Blk w5 w3.heap.size 3 (ints (lout n (lfar RW 0 0))).toArray) := Lib.hid (pbest_blk n RW HB5.out)
                have hW5 : Hid (Below w.heap.size w w5) := Lib.hid (pbest_below2 (pbest_below Hb1.out HB2.out HB3.out) HB5.out)
                go_loopw [10, 12, 50, 57] (fun bx sy i j wr => i = .int .i64 (0 : Int) ∧ Hid (wr = w5)) (fun _ _ i _ _ => 0)
                case atStart => exact ⟨rfl, rfl⟩
                case round =>
                  obtain ⟨rfl, Hw⟩ := hrel
                  have hw : w5 = wr := Hw.out.symm
                  subst hw
                  go_wp2
                  all_goals (go_ret2; exact pbest_fin RW n 0 BL F w5 w3.heap.size w Htake.out Hf.out hBg.out hW5.out)
              · have Hcl := Lib.hid fun i hi => PRow.cells HQ5.out i hi
                have hBg : Hid (Blk w5 w3.heap.size 3 (ints (lout n (lfar RW 0 0))).toArray) := Lib.hid (pbest_blk n RW HB5.out)
                have hW5 : Hid (Below w.heap.size w w5) := Lib.hid (pbest_below2 (pbest_below Hb1.out HB2.out HB3.out) HB5.out)
                have hgw : Hid (w.heap.size ≤ w3.heap.size) := Lib.hid (pbest_below Hb1.out HB2.out HB3.out).size
                have Hth : Hid (∀ k (hk : k < RW.length), ∃ hz : k < Z5.length, Z5[k].th = RW[k]) := Lib.hid fun k hk => pbest_th HP5.out k hk
                clear HQ5 HB5 HP5 Hc5 hmk Hb1 HB2 HB3 Hall Hleaves Hrow Hlast Hfirst hElen hZlen HQ3 HQ2 HP2 Hc3 HZ
                go_loopw [10, 12, 50, 57] (fun bx sy i j wr => ∃ k : Nat, k ≤ t ∧ i = .int .i64 k ∧ Hid (Blk wr w3.heap.size 3 (ints (lout n (lfar RW k 0))).toArray) ∧ Hid (w5.grownBy wr (some w3.heap.size))) (fun _ _ i _ _ => t - (intOf i).toNat)
                case atStart => exact ⟨0, by omega, rfl, hBg, grow_refl _ _⟩
                case round =>
                  obtain ⟨k, hk, rfl, HB, HG⟩ := hrel
                  by_cases hlt : k < t
                  · have hki : (0 : Int) ≤ (k : Int) ∧ (k : Int) < (t : Int) := by omega
                    have hkR : k < RW.length := by omega
                    obtain ⟨hz, hth⟩ := Hth.out k hkR
                    obtain ⟨b, off, e5, hbg, hc1, hc2⟩ := Hcl.out k hz
                    injection e5 with e5
                    injection e5 with e6 e7 e8
                    subst e6 e7 e8
                    obtain ⟨x1, x2⟩ := hc1 wr HG.out
                    have Hsy : Hid (∀ q (hq : q < RW[k].syms.length), ∃ bs os, Z5[k].A = some ⟨bs, os, none⟩ ∧ ∀ W', w5.grownBy W' (some w3.heap.size) → W'.cell? ⟨bs, os + q, none⟩ = some (.int .i64 (RW[k].syms[q] : Int))) := Lib.hid fun q hq => by
                      rw [← hth] at hq
                      obtain ⟨bs, os, f1, f2⟩ := hc2 q hq
                      exact ⟨bs, os, f1, fun W' hW => by simp only [← hth]; exact f2 W' hW⟩
                    have Hfk : Hid (∀ q (hq : q < RW[k].syms.length), RW[k].syms[q] < n) := Lib.hid fun q hq => (Hfits.out _ (List.getElem_mem hkR)).2 _ (List.getElem_mem hq)
                    have hns : RW[k].syms.length ≤ 400000 := (Hfits.out _ (List.getElem_mem hkR)).1
                    have Hbnd : Hid (∀ q s, 0 ≤ lfar RW k q s ∧ lfar RW k q s ≤ 400000 * (k + 1)) := Lib.hid fun q s => lfar_bound RW k q s hkR fun x hx => (Hfits.out x hx).1
                    rw [hth] at x2
                    clear hc1 hc2
                    obtain ⟨ns, hns2⟩ : ∃ ns, RW[k].syms.length = ns := ⟨_, rfl⟩
                    rw [hns2] at x2 hns
                    have Hns := Lib.hid hns2
                    clear hns2 hth
                    generalize Z5[k].th.w = zw at *
                    generalize Z5[k].c = zc at *
                    generalize Z5[k].A = zA at *
                    clear hz Hcl Hth
                    go_wp2
                    have HB1 : Hid (Blk (wr.alloc (.cells #[.int .i64 zw, .slice zA ns zc] 65)) w3.heap.size 3 (ints (lout n (lfar RW k 0))).toArray) := Lib.hid (HB.out.alloc _)
                    have HG1 : Hid (w5.grownBy (wr.alloc (.cells #[.int .i64 zw, .slice zA ns zc] 65)) (some w3.heap.size)) := Lib.hid (grow_alloc HG.out _)
                    clear HB HG
                    generalize wr.alloc (.cells #[.int .i64 zw, .slice zA ns zc] 65) = wb at *
                    go_loopw [12, 57] (fun sy j W => ∃ q : Nat, q ≤ ns ∧ j = .int .i64 q ∧ Hid (Blk W w3.heap.size 3 (ints (lout n (lfar RW k q))).toArray) ∧ Hid (w5.grownBy W (some w3.heap.size))) (fun _ j _ => ns - (intOf j).toNat)
                    case atStart => exact ⟨0, by omega, rfl, HB1, HG1⟩
                    case round =>
                      obtain ⟨q, hq, rfl, HB2, HG2⟩ := hrel
                      clear HB1 HG1
                      by_cases hqt : q < ns
                      · have hqi : (0 : Int) ≤ (q : Int) ∧ (q : Int) < (ns : Int) := by omega
                        have hqs : q < RW[k].syms.length := by rw [Hns.out]; exact hqt
                        obtain ⟨bs, os, rfl, hcs⟩ := Hsy.out q hqs
                        have hsc := hcs _ HG2.out
                        have hsn := Hfk.out q hqs
                        obtain ⟨d1, d2, d3⟩ := lcount_one HB2.out hkR hqs hsn
                        have hbd := Hbnd.out q RW[k].syms[q]
                        have HB3 := Lib.hid d3
                        have hsi : (0 : Int) ≤ (RW[k].syms[q] : Int) ∧ (RW[k].syms[q] : Int) < (n : Int) := by omega
                        clear d3 hcs
                        generalize lfar RW k q RW[k].syms[q] = fv at *
                        generalize RW[k].syms[q] = sy at *
                        have hfv : (0 : Int) ≤ fv ∧ fv ≤ 400000000 := by omega
                        go_wp2
                        go_roundw
                        case rel => exact ⟨q + 1, by omega, iv (by omega), HB3, Lib.hid (grow_set HG2.out (Or.inl rfl) _)⟩
                        case measure => simp only [intOf]; omega
                      · have hqi : ¬ (q : Int) < (ns : Int) := by omega
                        obtain rfl : q = ns := by omega
                        have hb4 := HB2.out
                        rw [← Hns.out] at hb4
                        have HB4 := Lib.hid (lcount_next hkR hb4)
                        clear hb4
                        go_wp2
                        go_roundw
                        case rel => exact ⟨k + 1, by omega, iv (by omega), HB4, HG2⟩
                        case measure => simp only [intOf]; omega
                  · have hki : ¬ (k : Int) < (t : Int) := by omega
                    obtain rfl : k = t := by omega
                    go_wp2
                    go_ret2
                    exact pbest_fin RW n k BL F _ w3.heap.size w Htake.out Hf.out HB.out (pbest_grow hW5.out HG.out hgw.out)

            · skip
              have zt : 2 * (m : Int) - 2 < (m : Int) := by omega
              have zt1 : 2 * (m : Int) - 2 ≤ (m : Int) := by omega
              have zt3 : (m : Int) = (t : Int) := by omega
              clear hroom
              go_enter Try.func16, Try.ntmps16
              go_wp2_with (first
                | (go_at_call 35; refine Hall.out.mono ?_; rintro e w1 ⟨rfl, hb1⟩; have Hb1 := Lib.hid hb1; clear hb1)
                | (go_at_call 37; refine (Hleaves.out _ Hb1.out).mono ?_; rintro e w2 ⟨E, A2, c2, rfl, hc2, hp2, hq2, hb2⟩; have HP2 := Lib.hid hp2; have HQ2 := Lib.hid hq2; have HB2 := Lib.hid hb2; clear hp2 hq2 hb2)
                | (go_at_call 36; refine (Hrow.out _ _ _ _ HQ2.out (hElen.out E HP2.out)).mono ?_; rintro e w3 ⟨Z, A3, c3, rfl, hc3, hp3, ho3, hq3, hb3⟩; have HZ : Hid (pth Z = LV) := Lib.hid (Hfirst.out E Z HP2.out hp3 ho3); have hzl : (Z.length : Int) = (m : Int) := congrArg Nat.cast (hZlen.out Z HZ.out); have HQ3 := Lib.hid hq3; have HB3 := Lib.hid hb3; have Hc3 := Lib.hid hc3; clear hp3 ho3 hq3 hb3 hc3)
                | (go_at_call 38; refine (Hlast.out w3.heap.size Z A3 c3 _ HZ.out (pbest_row HQ3.out) Hc3.out (pbest_new _ _)).mono ?_; rintro e w5 ⟨Z5, A5, c5, rfl, hc5, hp5, hq5, hb5⟩; have HP5 := Lib.hid hp5; have HQ5 := Lib.hid hq5; have HB5 := Lib.hid hb5; have Hc5 := Lib.hid hc5; have htc : (t : Int) ≤ (c5 : Int) := pbest_room hp5 hc5 htR; clear hp5 hq5 hb5 hc5; rcases A5 with _ | ⟨b5, off5, sp5⟩))
              · -- no thing at all
                have ht0 : t = 0 := pbest_none HP5.out HQ5.out htR
                subst ht0
                have hBg : Hid (Blk w5 w3.heap.size 3 (ints (lout n (lfar RW 0 0))).toArray) := Lib.hid (pbest_blk n RW HB5.out)
                have hW5 : Hid (Below w.heap.size w w5) := Lib.hid (pbest_below2 (pbest_below Hb1.out HB2.out HB3.out) HB5.out)
                go_loopw [10, 12, 50, 57] (fun bx sy i j wr => i = .int .i64 (0 : Int) ∧ Hid (wr = w5)) (fun _ _ i _ _ => 0)
                case atStart => exact ⟨rfl, rfl⟩
                case round =>
                  obtain ⟨rfl, Hw⟩ := hrel
                  have hw : w5 = wr := Hw.out.symm
                  subst hw
                  go_wp2
                  all_goals (go_ret2; exact pbest_fin RW n 0 BL F w5 w3.heap.size w Htake.out Hf.out hBg.out hW5.out)
              · have Hcl := Lib.hid fun i hi => PRow.cells HQ5.out i hi
                have hBg : Hid (Blk w5 w3.heap.size 3 (ints (lout n (lfar RW 0 0))).toArray) := Lib.hid (pbest_blk n RW HB5.out)
                have hW5 : Hid (Below w.heap.size w w5) := Lib.hid (pbest_below2 (pbest_below Hb1.out HB2.out HB3.out) HB5.out)
                have hgw : Hid (w.heap.size ≤ w3.heap.size) := Lib.hid (pbest_below Hb1.out HB2.out HB3.out).size
                have Hth : Hid (∀ k (hk : k < RW.length), ∃ hz : k < Z5.length, Z5[k].th = RW[k]) := Lib.hid fun k hk => pbest_th HP5.out k hk
                clear HQ5 HB5 HP5 Hc5 hmk Hb1 HB2 HB3 Hall Hleaves Hrow Hlast Hfirst hElen hZlen HQ3 HQ2 HP2 Hc3 HZ
                go_loopw [10, 12, 50, 57] (fun bx sy i j wr => ∃ k : Nat, k ≤ t ∧ i = .int .i64 k ∧ Hid (Blk wr w3.heap.size 3 (ints (lout n (lfar RW k 0))).toArray) ∧ Hid (w5.grownBy wr (some w3.heap.size))) (fun _ _ i _ _ => t - (intOf i).toNat)
                case atStart => exact ⟨0, by omega, rfl, hBg, grow_refl _ _⟩
                case round =>
                  obtain ⟨k, hk, rfl, HB, HG⟩ := hrel
                  by_cases hlt : k < t
                  · have hki : (0 : Int) ≤ (k : Int) ∧ (k : Int) < (t : Int) := by omega
                    have hkR : k < RW.length := by omega
                    obtain ⟨hz, hth⟩ := Hth.out k hkR
                    obtain ⟨b, off, e5, hbg, hc1, hc2⟩ := Hcl.out k hz
                    injection e5 with e5
                    injection e5 with e6 e7 e8
                    subst e6 e7 e8
                    obtain ⟨x1, x2⟩ := hc1 wr HG.out
                    have Hsy : Hid (∀ q (hq : q < RW[k].syms.length), ∃ bs os, Z5[k].A = some ⟨bs, os, none⟩ ∧ ∀ W', w5.grownBy W' (some w3.heap.size) → W'.cell? ⟨bs, os + q, none⟩ = some (.int .i64 (RW[k].syms[q] : Int))) := Lib.hid fun q hq => by
                      rw [← hth] at hq
                      obtain ⟨bs, os, f1, f2⟩ := hc2 q hq
                      exact ⟨bs, os, f1, fun W' hW => by simp only [← hth]; exact f2 W' hW⟩
                    have Hfk : Hid (∀ q (hq : q < RW[k].syms.length), RW[k].syms[q] < n) := Lib.hid fun q hq => (Hfits.out _ (List.getElem_mem hkR)).2 _ (List.getElem_mem hq)
                    have hns : RW[k].syms.length ≤ 400000 := (Hfits.out _ (List.getElem_mem hkR)).1
                    have Hbnd : Hid (∀ q s, 0 ≤ lfar RW k q s ∧ lfar RW k q s ≤ 400000 * (k + 1)) := Lib.hid fun q s => lfar_bound RW k q s hkR fun x hx => (Hfits.out x hx).1
                    rw [hth] at x2
                    clear hc1 hc2
                    obtain ⟨ns, hns2⟩ : ∃ ns, RW[k].syms.length = ns := ⟨_, rfl⟩
                    rw [hns2] at x2 hns
                    have Hns := Lib.hid hns2
                    clear hns2 hth
                    generalize Z5[k].th.w = zw at *
                    generalize Z5[k].c = zc at *
                    generalize Z5[k].A = zA at *
                    clear hz Hcl Hth
                    go_wp2
                    have HB1 : Hid (Blk (wr.alloc (.cells #[.int .i64 zw, .slice zA ns zc] 65)) w3.heap.size 3 (ints (lout n (lfar RW k 0))).toArray) := Lib.hid (HB.out.alloc _)
                    have HG1 : Hid (w5.grownBy (wr.alloc (.cells #[.int .i64 zw, .slice zA ns zc] 65)) (some w3.heap.size)) := Lib.hid (grow_alloc HG.out _)
                    clear HB HG
                    generalize wr.alloc (.cells #[.int .i64 zw, .slice zA ns zc] 65) = wb at *
                    go_loopw [12, 57] (fun sy j W => ∃ q : Nat, q ≤ ns ∧ j = .int .i64 q ∧ Hid (Blk W w3.heap.size 3 (ints (lout n (lfar RW k q))).toArray) ∧ Hid (w5.grownBy W (some w3.heap.size))) (fun _ j _ => ns - (intOf j).toNat)
                    case atStart => exact ⟨0, by omega, rfl, HB1, HG1⟩
                    case round =>
                      obtain ⟨q, hq, rfl, HB2, HG2⟩ := hrel
                      clear HB1 HG1
                      by_cases hqt : q < ns
                      · have hqi : (0 : Int) ≤ (q : Int) ∧ (q : Int) < (ns : Int) := by omega
                        have hqs : q < RW[k].syms.length := by rw [Hns.out]; exact hqt
                        obtain ⟨bs, os, rfl, hcs⟩ := Hsy.out q hqs
                        have hsc := hcs _ HG2.out
                        have hsn := Hfk.out q hqs
                        obtain ⟨d1, d2, d3⟩ := lcount_one HB2.out hkR hqs hsn
                        have hbd := Hbnd.out q RW[k].syms[q]
                        have HB3 := Lib.hid d3
                        have hsi : (0 : Int) ≤ (RW[k].syms[q] : Int) ∧ (RW[k].syms[q] : Int) < (n : Int) := by omega
                        clear d3 hcs
                        generalize lfar RW k q RW[k].syms[q] = fv at *
                        generalize RW[k].syms[q] = sy at *
                        have hfv : (0 : Int) ≤ fv ∧ fv ≤ 400000000 := by omega
                        go_wp2
                        go_roundw
                        case rel => exact ⟨q + 1, by omega, iv (by omega), HB3, Lib.hid (grow_set HG2.out (Or.inl rfl) _)⟩
                        case measure => simp only [intOf]; omega
                      · have hqi : ¬ (q : Int) < (ns : Int) := by omega
                        obtain rfl : q = ns := by omega
                        have hb4 := HB2.out
                        rw [← Hns.out] at hb4
                        have HB4 := Lib.hid (lcount_next hkR hb4)
                        clear hb4
                        go_wp2
                        go_roundw
                        case rel => exact ⟨k + 1, by omega, iv (by omega), HB4, HG2⟩
                        case measure => simp only [intOf]; omega
                  · have hki : ¬ (k : Int) < (t : Int) := by omega
                    obtain rfl : k = t := by omega
                    go_wp2
                    go_ret2
                    exact pbest_fin RW n k BL F _ w3.heap.size w Htake.out Hf.out HB.out (pbest_grow hW5.out HG.out hgw.out)

    · have hga : agood 1000000 counts = false := by
        cases h : agood 1000000 counts with
        | false => rfl
        | true => exact absurd h hg
      have hf : (([], 2) : List Int × Int) = F := by
        rw [← hF]
        by_cases h2 : most < 1 ∨ 15 < most
        · rw [if_pos h2]
        · rw [if_neg h2, if_neg hg]
      rw [hga] at Hall
      have Hf := Lib.hid hf
      clear hF hf hg hga hr
      go_enter Try.func16, Try.ntmps16
      go_wp2_with (go_at_call 35; refine Hall.out.mono ?_; rintro e w1 ⟨rfl, hb1⟩; have Hb1 := Lib.hid hb1; clear hb1)
      go_ret2
      rw [← Hf.out]
      exact ⟨none, 0, rfl, Nat.le_refl _, Reads.none_, Hb1.out⟩
end Go.Proofs.Ytpocpckhcciecaa
