/-
  For any numbers and widths: a writer has, behind each call, the document's bits, and the layer's probe holds (BitsWrites). No condition.
-/
import Derived.Test.YtakkljajoollgaaBitL1
import Derived.Test.YtakkljajoollgaaBitU
namespace Go.Proofs.Ytakkljajoollgaa
set_option linter.unusedSimpArgs false
set_option linter.unusedVariables false
open Go.ChangeShapes Go.WideShapes Go.ChangeAt Go.RowKit Go.Joins Go.Deep
set_option maxHeartbeats 2000000 in
/-- Beyond the sizes that the statement looks at: the probe alone. -/
theorem bitsWrites_far0 (A1 : Option Addr) (n1 c1 : Nat) (w : World) (h : 200 < n1) :
    Calls Try.prog 4 #[.slice A1 n1 c1] w fun e w' => e = .returned (.bool true) ∧ Below w.heap.size w w' := by
  have h1 : (200 : Int) < n1 := by omega
  go_enter Try.func4, Try.ntmps4
  go_wp2_with (go_at_call 7; refine (awake_any _).mono ?_; rintro e w9 ⟨rfl, hb9⟩)
  go_ret
  exact ⟨rfl, hb9⟩

theorem below_of_drewN {w w' : World} {n : Nat} (h : Below (w.drewN n).heap.size (w.drewN n) w') : Below w.heap.size w w' := ⟨h.os, h.tape, h.output, h.size, h.block⟩
theorem WHold.drewN {w : World} {B g : Nat} {v : Value} {R : List Nat} (h : WHold w B g v R) (n : Nat) : WHold (w.drewN n) B g v R := h
theorem WHold.drew {w : World} {B g : Nat} {v : Value} {R : List Nat} (h : WHold w B g v R) : WHold w.drew B g v R := h
theorem touch_drew {w w' : World} {S : Nat → Prop} (h : Touch w.drew w' S) : Touch w w' S := ⟨h.os, h.tape, h.output, h.size, h.block⟩
theorem sep_drew {w : World} {v v' : Value} (h : Sep w.drew v v') : Sep w v v' := h
/-- What a writer's call leaves of a row of integers beside it. -/
theorem owns_ws {w w' : World} {B B' g n : Nat} {v vw : Value} {R : List Nat} {xs : List Value} (hW : WHold w B g v R) (h : w.ownsRow B' 3 1 vw n xs) (ht : Touch w w' (WS g v)) : w'.ownsRow B' 3 1 vw n xs :=
  owns_touch h ht fun k hk e => by
    rcases e with e | e
    · exact owns_apart h hW.1 (by decide) (by rw [hk, e])
    · exact owns_two h hW.2.1 (by decide) k hk e
theorem blk_ws {w w' : World} {B g h : Nat} {v : Value} {R : List Nat} {cs : Array Value} (hB : Blk w h 3 cs) (hW : WHold w B g v R) (ht : Touch w w' (WS g v)) : Blk w' h 3 cs :=
  hB.touch ht fun e => by
    rcases e with e | e
    · exact blk_apart hB hW.1 (by decide) e
    · exact owns_apart hW.2.1 hB (by decide) e
/-- What an append to a row of integers leaves of a writer beside it. -/
theorem whold_grow {w w' : World} {B B' g n : Nat} {v vw : Value} {R : List Nat} {xs : List Value} (hW : WHold w B g v R) (h : w.ownsRow B' 3 1 vw n xs) (hg : w.grownBy w' vw.ownBlock) : WHold w' B g v R :=
  hW.touch (touch_grow hg) (fun e => owns_apart h hW.1 (by decide) e.symm) (fun k hk e => owns_two h hW.2.1 (by decide) k e.symm hk)
theorem ws_below {w w1 w' : World} {g : Nat} {B : Nat} {v : Value} {R : List Nat} (hW : WHold w1 w.heap.size w.heap.size v R) (hb : Below w.heap.size w w1) (ht : Touch w1 w' (WS w.heap.size v)) : Below w.heap.size w w' :=
  hb.trans (ht.below (fun k _ e => by
    rcases e with e | e
    · omega
    · exact (hW.2.1.lt k e).1) hb.size)
/-- The row of integers that an append left, spelled by its bits. -/
theorem owns_bits {w : World} {B : Nat} {v : Value} {R D : List Nat} {m : Nat} (hm : D.length = m) (h : w.ownsRow B 3 1 v (R.length + m) (bcs R ++ bcs D)) : w.ownsRow B 3 1 v (R ++ D).length (bcs (R ++ D)) := by
  rw [List.length_append, hm, bcs_append]
  exact h
theorem owns_is {w : World} {B n : Nat} {v : Value} {xs : List Value} (h : w.ownsRow B 3 1 v n xs) : ∃ A c, v = .slice A n c ∧ Reads w w.heap.size 1 A n xs := by
  obtain ⟨A, c, e, _, hr⟩ := owns_cells h
  exact ⟨A, c, e, hr⟩
theorem owns_slice {w : World} {B n : Nat} {A : Option Addr} {c : Nat} {xs : List Value} (h : w.ownsRow B 3 1 (.slice A n c) n xs) : Reads w w.heap.size 1 A n xs := by
  obtain ⟨A', c', e, _, hr⟩ := owns_cells h
  injection e with e1 _ _
  subst e1
  exact hr
theorem gam_len (n : Nat) (h0 : n ≠ 0) (h : n < 4294967296) : (gam n).length ≤ 63 := by
  have h1 := (ungam_gam n [] h0 h).2
  have := bl_le h0 h
  omega

set_option maxRecDepth 100000 in
set_option maxHeartbeats 8000000 in
theorem bitsWrites_near (A1 : Option Addr) (n1 c1 : Nat) (fs : List (Int × Int)) (w : World) (hn1 : fs.length = n1) (h1 : n1 ≤ 200) (hr1 : Reads w w.heap.size 2 A1 n1 (pairs .i64 fs)) (hwf : ∀ f ∈ fs, f.1 < 9223372036854775808) :
    Calls Try.prog 4 #[.slice A1 n1 c1] w fun e w' => e = .returned (.bool true) ∧ Below w.heap.size w w' := by
  obtain ⟨i0, hi, hz0, hz1, hz2⟩ := info_parts int_info
  have hH0 : WHold (w.alloc (.cells #[.slice none 0 0, .int .i64 0] 39)) w.heap.size w.heap.size (.slice none 0 0) [] := by
    refine ⟨by simpa [fr] using Blk.new w 39 #[.slice none 0 0, .int .i64 0], ?_, bin_nil⟩
    simpa [text_nil, bc] using World.ownsRow_nil (w.alloc (.cells #[.slice none 0 0, .int .i64 0] 39)) w.heap.size 5 1
  have HH0 := Lib.hid hH0
  have Hcell : Hid (0 < n1 → ∃ b off, A1 = some ⟨b, off, none⟩ ∧ b < w.heap.size ∧ ∀ k, (hk : k < fs.length) → w.cell? ⟨b, off + k * 2, none⟩ = some (.int .i64 fs[k].1) ∧ w.cell? ⟨b, off + k * 2 + 1, none⟩ = some (.int .i64 fs[k].2)) := Lib.hid fun h => fields_at hr1 h
  have Hn := Lib.hid hn1
  have Hwf := Lib.hid hwf
  have i1 : ¬ (200 : Int) < n1 := by omega
  have h1i : (n1 : Int) ≤ 200 := by omega
  have H200 := Lib.hid h1
  clear hH0 hr1 hn1 hwf h1
  go_enter Try.func4, Try.ntmps4
  go_wp2
  go_loopw [4, 5] (fun vw i wr => ∃ (k : Nat) (R : List Nat) (v : Value), k ≤ n1 ∧ i = .int .i64 k ∧ Hid (WHold wr w.heap.size w.heap.size v R) ∧ Hid (wr.ownsRow w.heap.size 3 1 vw R.length (bcs R)) ∧ Hid (Below w.heap.size w wr) ∧ Hid (R.length ≤ 63 * k)) (fun _ i _ => n1 - (intOf i).toNat)
  case atStart => exact ⟨0, [], .slice none 0 0, by omega, rfl, HH0.out, Lib.hid (World.ownsRow_nil _ _ _ _), Lib.hid ((Below.refl _ _).alloc (Nat.le_refl _) _), Lib.hid (by simp)⟩
  case round =>
    obtain ⟨k, R, v, hk, rfl, HW, HO, HB, HL⟩ := hrel
    by_cases hlt : k < n1
    · have hkl : k < fs.length := by rw [Hn.out]; exact hlt
      obtain ⟨b, off, rfl, hb, hc⟩ := Hcell.out (by omega)
      have hszr := HB.out.size
      have hbr : b < wr.heap.size := by omega
      have x1 : wr.cell? ⟨b, off + k * 2, none⟩ = some (.int .i64 fs[k].1) := (HB.out.cell (p := ⟨b, off + k * 2, none⟩) hb).trans (hc k hkl).1
      have x2 : wr.cell? ⟨b, off + k * 2 + 1, none⟩ = some (.int .i64 fs[k].2) := (HB.out.cell (p := ⟨b, off + k * 2 + 1, none⟩) hb).trans (hc k hkl).2
      have hki : 0 ≤ (k : Int) ∧ (k : Int) < n1 := by omega
      have hwk := Hwf.out _ (List.getElem_mem hkl)
      have hlL : R.length ≤ 12600 := by have := HL.out; have := H200.out; omega
      have HlL := Lib.hid hlL
      clear hc hlL
      generalize fs[k].1 = fn at *
      generalize fs[k].2 = fw at *
      have Hwk := Lib.hid hwk
      clear hkl hwk
      have HRz0 : Hid (R.length ≤ 1099511627776) := Lib.hid (by have := HlL.out; omega)
      obtain ⟨Av, cv, rfl, hrv⟩ := owns_is HO.out
      have HDz0 := Lib.hid hrv
      clear hrv
      by_cases hneg : fw < 0
      · by_cases hG : hasG fn
        · have hrg := fun W => refGamma_yes fn W hG
          have hwg := fun W hH hB => wgamma_yes w.heap.size w.heap.size fn v R W hG hH hB (by have := HlL.out; omega)
          have hgl := gam_len fn.toNat (by have := hG.1; omega) (by have := hG.2; omega)
          have Hgl := Lib.hid hgl
          have Hrg := Lib.hid hrg
          have Hwg := Lib.hid hwg
          clear hG hrg hwg hgl
          generalize gam fn.toNat = D at *
          go_wp2_with (first
            | (go_at_call 13; refine (Hrg.out _).mono ?_; rintro e w1 ⟨AD, cD, rfl, hD1, hb1⟩; have y1 := (hb1.cell (p := ⟨b, off + k * 2, none⟩) hbr).trans x1; have hsz1 := hb1.size; have Hb1 := Lib.hid hb1; have HD1 := Lib.hid hD1; have HW1 := Lib.hid (HW.out.below hb1 (Nat.le_refl _)); have HO1 := Lib.hid (owns_below HO.out hb1 (Nat.le_refl _)); clear hb1 hD1)
            | (go_at_call 14; refine (Hwg.out _ HW1.out (by omega)).mono ?_; rintro e w2 ⟨rfl, v2, hW2, ht2, hs2⟩; have hsz2 := ht2.size; have HW2 := Lib.hid hW2; have HO2 := Lib.hid (owns_ws HW1.out HO1.out ht2); have HD2 := Lib.hid (owns_ws HW1.out HD1.out ht2); have HB2 := Lib.hid (ws_below (g := 0) (B := 0) HW1.out (bt HB.out Hb1.out) ht2); clear hW2 ht2 hs2 y1)
            | (at_builtin; refine wpList_append_sep _ rfl _ _ 23 rfl w.heap.size 3 i0 (.int .i64 0) 1 8 Try.underlying23 hi hz0 hz1 hz2 rfl (by decide) _ _ _ rfl HO2.out _ D.length cD _ _ rfl (owns_slice HD2.out) ?c1 ?c2 ?c3 ?c4 ?_))
          case c1 => exact bcs_one _
          case c2 => have := HlL.out; have := Hgl.out; unfold maxLen; omega
          case c3 => have := HlL.out; have := Hgl.out; omega
          case c4 => have := HB2.out.size; omega
          intro v3 w3 hown3 hgrow hsep
          have HWz := Lib.hid (whold_grow HW2.out HO2.out hgrow)
          have HOz := Lib.hid (owns_bits rfl hown3)
          have HBz := Lib.hid (HB2.out.grown hgrow (by have := HB2.out.size; omega) (fun g hg => (HO2.out.lt g hg).1))
          have HRz : Hid ((R ++ D).length ≤ 1099511627776) := Lib.hid (by rw [List.length_append]; have := HlL.out; have := Hgl.out; omega)
          have HLz : Hid ((R ++ D).length ≤ 63 * (k + 1)) := Lib.hid (by rw [List.length_append]; have := HL.out; have := Hgl.out; omega)
          obtain ⟨Az, cz, rfl, hrz⟩ := owns_is HOz.out
          have HDz := Lib.hid hrz
          clear hown3 hgrow hsep hrz
          generalize R ++ D = Q at *
          go_wp2_with (first
              | (go_at_call 17; refine (wlen_any _ _ _ _ _ HWz.out HRz.out).mono ?_; rintro e wl ⟨rfl, kl, rfl⟩)
              | (go_at_call 18; refine (wtext_any _ _ _ _ _ (HWz.out.drewN _)).mono ?_; rintro e wt ⟨rfl, rfl⟩)
              | (go_at_call 19; refine (refText_any _ _ _ _ _ rfl HRz.out (HDz.out.drewN _) HWz.out.2.2).mono ?_; rintro e wT ⟨rfl, hbT⟩; have HbT := Lib.hid (below_of_drewN hbT); clear hbT))
          go_roundw
          case rel => exact ⟨k + 1, Q, v2, by omega, iv (by omega), Lib.hid (HWz.out.below HbT.out (Nat.le_refl _)), Lib.hid (owns_below HOz.out HbT.out (Nat.le_refl _)), Lib.hid (bt HBz.out HbT.out), HLz.out⟩
          case measure => simp only [intOf]; omega

        · have hrg := fun W => refGamma_no fn W hG
          have hwg := fun W => wgamma_no w.heap.size fn W hG Hwk.out
          have HWz := HW
          have HRz := HRz0
          have HDz := HDz0
          have HOz := HO
          have HBz := HB
          have HLz : Hid (R.length ≤ 63 * (k + 1)) := Lib.hid (by have := HL.out; omega)
          clear hG
          go_wp2_with (first
            | (go_at_call 13; refine (hrg _).mono ?_; rintro e w1 ⟨rfl, rfl⟩)
            | (go_at_call 14; refine (hwg _).mono ?_; rintro e w2 ⟨rfl, rfl⟩)
              | (go_at_call 17; refine (wlen_any _ _ _ _ _ HWz.out HRz.out).mono ?_; rintro e wl ⟨rfl, kl, rfl⟩)
              | (go_at_call 18; refine (wtext_any _ _ _ _ _ (HWz.out.drewN _)).mono ?_; rintro e wt ⟨rfl, rfl⟩)
              | (go_at_call 19; refine (refText_any _ _ _ _ _ rfl HRz.out (HDz.out.drewN _) HWz.out.2.2).mono ?_; rintro e wT ⟨rfl, hbT⟩; have HbT := Lib.hid (below_of_drewN hbT); clear hbT))
          go_roundw
          case rel => exact ⟨k + 1, R, v, by omega, iv (by omega), Lib.hid (HWz.out.below HbT.out (Nat.le_refl _)), Lib.hid (owns_below HOz.out HbT.out (Nat.le_refl _)), Lib.hid (bt HBz.out HbT.out), HLz.out⟩
          case measure => simp only [intOf]; omega

      · have hneg0 : 0 ≤ fw := by omega
        by_cases hF : fits fn fw
        · have hdg := fun W => refDig_yes fn fw W hF
          have hput := fun W hH hB => put_is w.heap.size w.heap.size fn fw v R W hF hH hB (by have := HlL.out; omega)
          have hdl : (digI fn fw).length = fw.toNat := dig_length _ _
          have hd32 : fw.toNat ≤ 32 := by have := hF.2.1; omega
          have Hdl := Lib.hid hdl
          have Hd32 := Lib.hid hd32
          have Hput := Lib.hid hput
          clear hF hput hdl hd32
          generalize digI fn fw = D at *
          generalize fw.toNat = m at *
          go_wp2
          go_region_held3 (fun w' => w'.cell? ⟨b, off + k * 2, none⟩ = some (.int .i64 fn) ∧ w'.cell? ⟨b, off + k * 2 + 1, none⟩ = some (.int .i64 fw) ∧ b < w'.heap.size)
            (first | exact held_next (by assumption) hb1 | exact ⟨x1, x2, hbr⟩)
            (first | (go_at_call 15; (with_reducible refine (hdg _).mono ?_); rintro e w1 ⟨g, rfl, hB1, hg1, hb1⟩))
          rename_i hS
          obtain ⟨y1, y2, _⟩ := hS
          have hb1' : Below wr.heap.size wr w1 := ⟨hb1.os, hb1.tape, hb1.output, hb1.size, hb1.block⟩
          have hsz1 := hb1'.size
          have Hb1 := Lib.hid hb1'
          have HD1 := Lib.hid hB1
          have HW1 := Lib.hid (HW.out.below hb1' (Nat.le_refl _))
          have HO1 := Lib.hid (owns_below HO.out hb1' (Nat.le_refl _))
          clear hb1' hB1 hg1 hb1 x1 x2 hdg
          go_wp2
          refine wp_region_still_tail 11 (by kernel_rfl) (by kernel_rfl) ?_
          simp only [List.take_succ_cons, List.take_zero, List.drop_succ_cons, List.drop_zero]
          change wpStill _ _ (World.drew _) (fun a' => wpList _ _ _ _ a' (World.drew _)) _ _
          repeat still_step
          refine wpStill_nil ?_
          go_wp2_with (first
            | (go_at_call 16; refine (Hput.out _ HW1.out.drew (by simp; omega)).mono ?_; rintro e w2 ⟨rfl, v2, hW2, ht2', hs2⟩; have ht2 := touch_drew ht2'; have hsz2 := ht2.size; have HW2 := Lib.hid hW2; have HO2 := Lib.hid (owns_ws HW1.out HO1.out ht2); have HD2 := Lib.hid (blk_ws HD1.out HW1.out ht2); have HB2 := Lib.hid (ws_below (g := 0) (B := 0) HW1.out (bt HB.out Hb1.out) ht2); clear hW2 ht2 ht2' hs2 y1 y2)
            | (at_builtin; refine wpList_append_sep _ rfl _ _ 23 rfl w.heap.size 3 i0 (.int .i64 0) 1 8 Try.underlying23 hi hz0 hz1 hz2 rfl (by decide) _ _ _ rfl HO2.out _ m m _ _ rfl (blk_reads _ HD2.out m (by rw [bcs_length]; exact Hdl.out)) ?c1 ?c2 ?c3 ?c4 ?_))
          case c1 => exact bcs_one _
          case c2 => have := HlL.out; have := Hd32.out; unfold maxLen; omega
          case c3 => have := HlL.out; have := Hd32.out; omega
          case c4 => have := HB2.out.size; omega
          intro v3 w3 hown3 hgrow hsep
          have HWz := Lib.hid (whold_grow HW2.out HO2.out hgrow)
          have HOz := Lib.hid (owns_bits Hdl.out hown3)
          have HBz := Lib.hid (HB2.out.grown hgrow (by have := HB2.out.size; omega) (fun g hg => (HO2.out.lt g hg).1))
          have HRz : Hid ((R ++ D).length ≤ 1099511627776) := Lib.hid (by rw [List.length_append, Hdl.out]; have := HlL.out; have := Hd32.out; omega)
          have HLz : Hid ((R ++ D).length ≤ 63 * (k + 1)) := Lib.hid (by rw [List.length_append, Hdl.out]; have := HL.out; have := Hd32.out; omega)
          obtain ⟨Az, cz, rfl, hrz⟩ := owns_is HOz.out
          have HDz := Lib.hid hrz
          clear hown3 hgrow hsep hrz
          generalize R ++ D = Q at *
          go_wp2_with (first
              | (go_at_call 17; refine (wlen_any _ _ _ _ _ HWz.out HRz.out).mono ?_; rintro e wl ⟨rfl, kl, rfl⟩)
              | (go_at_call 18; refine (wtext_any _ _ _ _ _ (HWz.out.drewN _)).mono ?_; rintro e wt ⟨rfl, rfl⟩)
              | (go_at_call 19; refine (refText_any _ _ _ _ _ rfl HRz.out (HDz.out.drewN _) HWz.out.2.2).mono ?_; rintro e wT ⟨rfl, hbT⟩; have HbT := Lib.hid (below_of_drewN hbT); clear hbT))
          go_roundw
          case rel => exact ⟨k + 1, Q, v2, by omega, iv (by omega), Lib.hid (HWz.out.below HbT.out (Nat.le_refl _)), Lib.hid (owns_below HOz.out HbT.out (Nat.le_refl _)), Lib.hid (bt HBz.out HbT.out), HLz.out⟩
          case measure => simp only [intOf]; omega

        · have hdg := fun W => refDig_no fn fw W hF Hwk.out
          have hput := fun W => put_no w.heap.size fn fw W hF
          clear hF
          go_wp2
          go_region_held3 (fun w' => w'.cell? ⟨b, off + k * 2, none⟩ = some (.int .i64 fn) ∧ w'.cell? ⟨b, off + k * 2 + 1, none⟩ = some (.int .i64 fw) ∧ b < w'.heap.size)
            (first | exact held_next (by assumption) hb1 | exact ⟨x1, x2, hbr⟩)
            (first | (go_at_call 15; (with_reducible refine (hdg _).mono ?_); rintro e w1 ⟨Ad, kd, cd, rfl, hb1⟩))
          rename_i hS
          obtain ⟨y1, y2, _⟩ := hS
          have hb1' : Below wr.heap.size wr w1 := ⟨hb1.os, hb1.tape, hb1.output, hb1.size, hb1.block⟩
          have HWz := Lib.hid (HW.out.below hb1' (Nat.le_refl _))
          have HOz := Lib.hid (owns_below HO.out hb1' (Nat.le_refl _))
          have HBz := Lib.hid (bt HB.out hb1')
          have HDz := Lib.hid ((HDz0.out.below hb1').more hb1'.size)
          have HRz := HRz0
          have HLz : Hid (R.length ≤ 63 * (k + 1)) := Lib.hid (by have := HL.out; omega)
          clear hb1' hb1 x1 x2 hdg
          go_wp2
          refine wp_region_still_tail 11 (by kernel_rfl) (by kernel_rfl) ?_
          simp only [List.take_succ_cons, List.take_zero, List.drop_succ_cons, List.drop_zero]
          change wpStill _ _ (World.drew _) (fun a' => wpList _ _ _ _ a' (World.drew _)) _ _
          repeat still_step
          refine wpStill_nil ?_
          go_wp2_with (first
            | (go_at_call 16; refine (hput _).mono ?_; rintro e w2 ⟨rfl, rfl⟩)
              | (go_at_call 17; refine (wlen_any _ _ _ _ _ HWz.out.drew HRz.out).mono ?_; rintro e wl ⟨rfl, kl, rfl⟩)
              | (go_at_call 18; refine (wtext_any _ _ _ _ _ (HWz.out.drewN _)).mono ?_; rintro e wt ⟨rfl, rfl⟩)
              | (go_at_call 19; refine (refText_any _ _ _ _ _ rfl HRz.out (HDz.out.drewN _) HWz.out.2.2).mono ?_; rintro e wT ⟨rfl, hbT⟩; have HbT := Lib.hid (below_of_drewN hbT); clear hbT))
          go_roundw
          case rel => exact ⟨k + 1, R, v, by omega, iv (by omega), Lib.hid (HWz.out.below HbT.out (Nat.le_refl _)), Lib.hid (owns_below HOz.out HbT.out (Nat.le_refl _)), Lib.hid (bt HBz.out HbT.out), HLz.out⟩
          case measure => simp only [intOf]; omega

    · obtain rfl : k = n1 := by omega
      have hnil := fun W => wnil_any W
      go_wp2_with (first
        | (go_at_call 16; refine ((hnil _).2.2.2 _ _).mono ?_; rintro e w2 ⟨rfl, rfl⟩)
        | (go_at_call 14; refine ((hnil _).2.2.1 _).mono ?_; rintro e w2 ⟨rfl, rfl⟩)
        | (go_at_call 17; refine ((hnil _).2.1).mono ?_; rintro e w2 ⟨rfl, rfl⟩)
        | (go_at_call 18; refine ((hnil _).1).mono ?_; rintro e w2 ⟨rfl, rfl⟩)
        | (go_at_call 7; refine (awake_any _).mono ?_; rintro e w9 ⟨rfl, hb9⟩))
      go_ret
      exact ⟨rfl, bt HB.out hb9⟩

theorem bitsWrites_walk (A1 : Option Addr) (n1 c1 : Nat) (fs : List (Int × Int)) (w : World) (hn1 : fs.length = n1) (hr1 : Reads w w.heap.size 2 A1 n1 (pairs .i64 fs)) (hwf : ∀ f ∈ fs, f.1 < 9223372036854775808) :
    Calls Try.prog 4 #[.slice A1 n1 c1] w fun e w' => e = .returned (.bool true) ∧ Below w.heap.size w w' := by
  by_cases h1 : n1 ≤ 200
  · exact bitsWrites_near A1 n1 c1 fs w hn1 h1 hr1 hwf
  · exact bitsWrites_far0 A1 n1 c1 w (by omega)

namespace BitsWrites
set_option maxRecDepth 100000 in
theorem lifted (os : Os) (started : os.Started) (H : Type) (enc : TypeId × Value → H) :
    ReturnsInHanded {} Try.checked os 4 .any (Rows.bitsWritesSpec.pre6 enc Try.prog Try.f4 Rows.bitsWritesRow.domain false) (Rows.bitsWritesSpec.post enc Try.prog Try.f4 false true false false) := by
  refine law_sized (C := Try.checked) (tb := 4) ownP started (by kernel_rfl) Try.func4
    (ChangeSpec.witness6 (enc := enc) (C := Try.checked) false ⟨#[], #[.slice none 0 0], []⟩ 8 (by kernel_rfl) (by kernel_rfl) (by kernel_rfl) (by kernel_rfl))
    laidP (by kernel_rfl) rfl (by kernel_rfl) Try.underlying4 (by intro ds h; match ds, h with | [_], _ => rfl) ?_
  intro W base args ds p hval0 hA0 hlt _
  have hval : ∀ (j : Nat) t v, Try.f4.params[j]? = some t → args[j]? = some v → Value.okWide Try.prog W .any base t v := hval0
  have hA : DataW.TrodAll enc Try.prog W 0 (fun _ => true) true Try.f4.params.toList args.toList ds p := hA0
  rw [Try.params4] at hA hval
  obtain ⟨v0, d0, rfl, rfl, h0⟩ := trodAll_one hA
  obtain ⟨Afs, nfs, cfs, fs, rfl, efs, hnfs, hmfs, hrfs, hbfs⟩ := open_pair_slice Try.underlying22 Try.underlying41 (by kernel_rfl) rfl rfl (by kernel_rfl) (by kernel_rfl) Try.underlying3 Try.underlying3 (hval 0 22 v0 rfl rfl) h0
  exact bitsWrites_walk Afs nfs cfs fs W efs hrfs (wf_lt hbfs)

theorem holds : Rows.BitsWritesSaid :=
  OpenClaim.holds_of_wide 4 Try.f4 rfl rfl rfl rfl rfl rfl rfl ⟨rfl, rfl, rfl, rfl, rfl⟩ rfl rfl rfl rfl rfl (by kernel_rfl) Try.func4 (by kernel_rfl)
    (of_decide_eq_true (by kernel_rfl)) (by unfold Func.isWrapper; first | (rw [if_pos (by decide +kernel)]; kernel_rfl) | (rw [if_neg (by decide +kernel)]; exact ⟨rfl, rfl⟩))
    (fun os started H enc _ => lifted os started H enc)
end BitsWrites
end Go.Proofs.Ytakkljajoollgaa
