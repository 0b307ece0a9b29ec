/-
  Any blocks are a row, or not, with the document's bytes, and place behind them; any bytes are its blocks', or none's; the layer's probe holds (HeadFoots). No condition.
-/
import Derived.Test.YtjodckinfoldgaaHedAw
import Derived.Test.YtjodckinfoldgaaHedO
import Derived.Test.YtjodckinfoldgaaFrame
namespace Go.Proofs.Ytjodckinfoldgaa
set_option linter.unusedSimpArgs false
set_option linter.unusedVariables false
open Go.ChangeShapes Go.WideShapes Go.ChangeAt Go.RowKit Go.Joins Go.Deep
theorem hfend_len (s : List UInt8) (r : List Mt × Int × Int) : (hfend s r).1.length ≤ 1000 := by
  unfold hfend
  split
  · exact Nat.zero_le _
  split
  · exact Nat.zero_le _
  split
  · rename_i h
    exact ((hrow_iff _).1 h).1
  · exact Nat.zero_le _
theorem hgf_len (s : List UInt8) : (hgfF s).1.length ≤ 1000 := by
  unfold hgfF
  split
  · exact Nat.zero_le _
  split
  · exact Nat.zero_le _
  · exact hfend_len _ _
set_option maxRecDepth 100000 in
set_option maxHeartbeats 4000000 in
theorem headFoots_far (l : List Mt) (A : Option Addr) (c : Nat) (s : List UInt8) (h : Hd) (w : World) (hl : l.length ≤ maxLen) (hr : Reads w w.heap.size 7 A l.length (dcs mtc l)) (hs : 1200 < l.length ∨ 5000 < s.length) : Calls Try.prog 4 #[.slice A l.length c, .string ⟨s.toArray⟩, .agg (hdc h)] w fun e w' => e = .returned (.bool true) ∧ Below w.heap.size w w' := by
  obtain ⟨a, b, d⟩ := h
  have HB := Lib.hid ((Below.refl w.heap.size w).alloc (Nat.le_refl _) (.cells #[.int .i64 a, .int .i64 b, .int .i64 d] 23))
  unfold hdc
  dsimp only
  clear hr
  by_cases h1 : 1200 < l.length
  · have hi : (1200 : Int) < (l.length : Int) := by omega
    clear hs hl
    go_enter Try.func4, Try.ntmps4
    go_wp2_with (first
    | (go_at_call 7; refine (awake21_any _).mono ?_; rintro e w9 ⟨rfl, hb⟩; replace HB := Lib.hid (HB.out.trans (hb.mono HB.out.size)); clear hb)
      | fail)
    go_ret
    exact ⟨rfl, HB.out⟩
  · have hi : ¬ (1200 : Int) < (l.length : Int) := by omega
    have hj : (5000 : Int) < (s.length : Int) := by omega
    clear hs hl
    go_enter Try.func4, Try.ntmps4
    go_wp2_with (first
    | (go_at_call 7; refine (awake21_any _).mono ?_; rintro e w9 ⟨rfl, hb⟩; replace HB := Lib.hid (HB.out.trans (hb.mono HB.out.size)); clear hb)
      | fail)
    go_ret
    exact ⟨rfl, HB.out⟩
set_option maxRecDepth 100000 in
set_option maxHeartbeats 32000000 in
theorem headFoots_near (l : List Mt) (A : Option Addr) (c : Nat) (s : List UInt8) (h : Hd) (w : World) (hl : l.length ≤ maxLen) (hr : Reads w w.heap.size 7 A l.length (dcs mtc l)) (h1 : l.length ≤ 1200) (h2 : s.length ≤ 5000) : Calls Try.prog 4 #[.slice A l.length c, .string ⟨s.toArray⟩, .agg (hdc h)] w fun e w' => e = .returned (.bool true) ∧ Below w.heap.size w w' := by
  have hi : ¬ (1200 : Int) < (l.length : Int) := by omega
  have hj : ¬ (5000 : Int) < (s.length : Int) := by omega
  have P1 := fun W (hW : Reads W W.heap.size 7 A l.length (dcs mtc l)) => p_hpf_any l A l.length c W rfl (by omega) hW
  have Q1 := fun W (hW : Reads W W.heap.size 7 A l.length (dcs mtc l)) => href_pf_any l A l.length c W rfl (by omega) hW
  have P2 := fun W => p_hgf_any s W (by omega)
  have Q2 := fun W => href_gf_any s W (by omega)
  have P3 := fun W (hW : Reads W W.heap.size 7 A l.length (dcs mtc l)) => p_hend_any h l A l.length c W rfl (by omega) hW
  have Q3 := fun W (hW : Reads W W.heap.size 7 A l.length (dcs mtc l)) => href_end_any h l A l.length c W rfl (by omega) hW
  have P4 := fun W (hW : Reads W W.heap.size 7 A l.length (dcs mtc l)) => p_hblk_any l A l.length c W rfl (by omega) hW
  have Q4 := fun W (hW : Reads W W.heap.size 7 A l.length (dcs mtc l)) => href_blk_any l A l.length c W rfl (by omega) hW
  have P5 := fun W (hW : Reads W W.heap.size 7 A l.length (dcs mtc l)) => p_hnext_any h l A l.length c W rfl (by omega) hW
  have Q5 := fun W (hW : Reads W W.heap.size 7 A l.length (dcs mtc l)) => href_next_any h l A l.length c W rfl (by omega) hW
  have P6 := fun W A1 A2 c1 c2 (q1 : Reads W W.heap.size 7 A1 (hgfF s).1.length (dcs mtc (hgfF s).1)) (q2 : Reads W W.heap.size 7 A2 (hgfF s).1.length (dcs mtc (hgfF s).1)) => href_same_yes (hgfF s).1 A1 A2 c1 c2 W (by have := hgf_len s; omega) q1 q2
  unfold HMP at P2 Q2
  generalize hpfF l = R1 at *
  obtain ⟨tt, e1⟩ := R1
  generalize hgfF s = R2 at *
  obtain ⟨m2, e2⟩ := R2
  generalize hendF h l = R3 at *
  obtain ⟨n3, e3⟩ := R3
  generalize hblkF l = k4 at *
  generalize hnextF h l = k5 at *
  dsimp only at P1 Q1 P2 Q2 P3 Q3 P6
  obtain ⟨a, b, d⟩ := h
  unfold hdc at P3 Q3 P5 Q5 ⊢
  dsimp only at P3 Q3 P5 Q5 ⊢
  have Hf := Lib.hid (Blk.new w 23 #[.int .i64 a, .int .i64 b, .int .i64 d])
  have HB := Lib.hid ((Below.refl w.heap.size w).alloc (Nat.le_refl _) (.cells #[.int .i64 a, .int .i64 b, .int .i64 d] 23))
  have HLr := Lib.hid (dReads_on hr HB.out)
  replace P1 := Lib.hid P1
  replace Q1 := Lib.hid Q1
  replace P2 := Lib.hid P2
  replace Q2 := Lib.hid Q2
  replace P3 := Lib.hid P3
  replace Q3 := Lib.hid Q3
  replace P4 := Lib.hid P4
  replace Q4 := Lib.hid Q4
  replace P5 := Lib.hid P5
  replace Q5 := Lib.hid Q5
  replace P6 := Lib.hid P6
  generalize l.length = n at *
  generalize m2.length = n2 at *
  clear hr hl h1 h2
  go_enter Try.func4, Try.ntmps4
  go_wp2_with (first
    | (go_at_call 14; (with_reducible refine (P1.out _ HLr.out).mono ?_); rintro e w9 ⟨rfl, hb⟩; replace Hf := Lib.hid (Hf.out.below hb Hf.out.lt); replace HB := Lib.hid (HB.out.trans (hb.mono HB.out.size)); replace HLr := Lib.hid (dReads_on HLr.out hb); (try replace HR1 := Lib.hid (dReads_on HR1.out hb)); clear hb P1)
    | (go_at_call 15; (with_reducible refine (Q1.out _ HLr.out).mono ?_); rintro e w9 ⟨rfl, hb⟩; replace Hf := Lib.hid (Hf.out.below hb Hf.out.lt); replace HB := Lib.hid (HB.out.trans (hb.mono HB.out.size)); replace HLr := Lib.hid (dReads_on HLr.out hb); (try replace HR1 := Lib.hid (dReads_on HR1.out hb)); clear hb Q1)
    | (go_at_call 16; (with_reducible refine (P2.out _).mono ?_); rintro e w9 ⟨A3, c3, rfl, -, h3, hb⟩; replace Hf := Lib.hid (Hf.out.below hb Hf.out.lt); replace HB := Lib.hid (HB.out.trans (hb.mono HB.out.size)); replace HLr := Lib.hid (dReads_on HLr.out hb); (try replace HR1 := Lib.hid (dReads_on HR1.out hb)); have HR1 := Lib.hid h3; clear h3 hb P2)
    | (go_at_call 17; (with_reducible refine (Q2.out _).mono ?_); rintro e w9 ⟨A4, c4, rfl, -, h4, hb⟩; replace Hf := Lib.hid (Hf.out.below hb Hf.out.lt); replace HB := Lib.hid (HB.out.trans (hb.mono HB.out.size)); replace HLr := Lib.hid (dReads_on HLr.out hb); (try replace HR1 := Lib.hid (dReads_on HR1.out hb)); have HR2 := Lib.hid h4; clear h4 hb Q2; have x0 := Hf.out.cell 0; have x1 := Hf.out.cell 1; have x2 := Hf.out.cell 2; simp only [List.getElem?_toArray, List.getElem?_cons_zero, List.getElem?_cons_succ] at x0 x1 x2)
    | (go_at_call 18; (with_reducible refine (P3.out _ HLr.out).mono ?_); rintro e w9 ⟨rfl, hb⟩; clear x0 x1 x2; replace Hf := Lib.hid (Hf.out.below hb Hf.out.lt); replace HB := Lib.hid (HB.out.trans (hb.mono HB.out.size)); replace HLr := Lib.hid (dReads_on HLr.out hb); (try replace HR1 := Lib.hid (dReads_on HR1.out hb)); replace HR2 := Lib.hid (dReads_on HR2.out hb); clear hb P3; have x0 := Hf.out.cell 0; have x1 := Hf.out.cell 1; have x2 := Hf.out.cell 2; simp only [List.getElem?_toArray, List.getElem?_cons_zero, List.getElem?_cons_succ] at x0 x1 x2)
    | (go_at_call 19; (with_reducible refine (Q3.out _ HLr.out).mono ?_); rintro e w9 ⟨rfl, hb⟩; clear x0 x1 x2; replace Hf := Lib.hid (Hf.out.below hb Hf.out.lt); replace HB := Lib.hid (HB.out.trans (hb.mono HB.out.size)); replace HLr := Lib.hid (dReads_on HLr.out hb); (try replace HR1 := Lib.hid (dReads_on HR1.out hb)); replace HR2 := Lib.hid (dReads_on HR2.out hb); clear hb Q3)
    | fail)
  replace HB := Lib.hid HB.out.drew
  replace HLr := Lib.hid (dReads_on HLr.out (Below.refl _ _).drew)
  replace HR1 := Lib.hid (dReads_on HR1.out (Below.refl _ _).drew)
  replace HR2 := Lib.hid (dReads_on HR2.out (Below.refl _ _).drew)
  refine wp_region_held_drew (S := (fun W => Blk W w.heap.size 23 #[.int .i64 a, .int .i64 b, .int .i64 d])) (by kernel_rfl) (Hf.out.drew) (fun hHeld => ?_)
  refine wpAnyH_take (i := 0) (oi := _) (v := ?_) rfl (by kernel_rfl) (by kernel_rfl) (by kernel_rfl) (fun _ _ _ h => h) (Or.inl ⟨by rfl, ?_⟩) hHeld ?_
  rotate_left
  · (intro wz hSw; go_simp; try (with_reducible rfl))
  (try dsimp only [List.getElem_toArray, List.getElem_cons_zero, List.getElem_cons_succ]); (try simp only [Act.put, List.setIfInBounds_toArray, List.set_cons_zero, List.set_cons_succ])
  refine wpAnyH_take (i := 2) (oi := _) (v := ?_) rfl (by kernel_rfl) (by kernel_rfl) (by kernel_rfl) (fun _ _ _ h => h) (Or.inl ⟨by rfl, ?_⟩) hHeld ?_
  rotate_left
  · (intro wz hSw; go_simp; try (with_reducible rfl))
  (try dsimp only [List.getElem_toArray, List.getElem_cons_zero, List.getElem_cons_succ]); (try simp only [Act.put, List.setIfInBounds_toArray, List.set_cons_zero, List.set_cons_succ])
  refine wpAnyH_ready (rs := [1]) (by kernel_rfl) (by simp) ?_
  refine AllReadyH.cons (o := _) rfl (fun K hK => ?_) AllReadyH.nil
  go_simp
  go_at_call 20
  (with_reducible refine (P4.out _ HLr.out).mono ?_)
  rintro e w1 ⟨rfl, hb1⟩
  replace HB := Lib.hid (HB.out.trans (hb1.mono HB.out.size)); replace HLr := Lib.hid (dReads_on HLr.out hb1); (try replace HR1 := Lib.hid (dReads_on HR1.out hb1)); (try replace HR2 := Lib.hid (dReads_on HR2.out hb1))
  refine hK.out _ _ (hHeld.below hb1 hHeld.lt) (fun hH => ?_)
  clear hHeld hK K hb1
  have hHeld := hH
  clear hH
  (try dsimp only [List.getElem_toArray, List.getElem_cons_zero, List.getElem_cons_succ]); (try simp only [Act.put, List.setIfInBounds_toArray, List.set_cons_zero, List.set_cons_succ])
  refine wpAnyH_ready (rs := [3]) (by kernel_rfl) (by simp) ?_
  refine AllReadyH.cons (o := _) rfl (fun K hK => ?_) AllReadyH.nil
  go_simp
  go_at_call 21
  (with_reducible refine (Q4.out _ HLr.out).mono ?_)
  rintro e w1 ⟨rfl, hb1⟩
  replace HB := Lib.hid (HB.out.trans (hb1.mono HB.out.size)); replace HLr := Lib.hid (dReads_on HLr.out hb1); (try replace HR1 := Lib.hid (dReads_on HR1.out hb1)); (try replace HR2 := Lib.hid (dReads_on HR2.out hb1))
  refine hK.out _ _ (hHeld.below hb1 hHeld.lt) (fun hH => ?_)
  clear hHeld hK K hb1
  have hHeld := hH
  clear hH
  (try dsimp only [List.getElem_toArray, List.getElem_cons_zero, List.getElem_cons_succ]); (try simp only [Act.put, List.setIfInBounds_toArray, List.set_cons_zero, List.set_cons_succ])
  refine wpAnyH_take (i := 4) (oi := _) (v := ?_) rfl (by kernel_rfl) (by kernel_rfl) (by kernel_rfl) (fun _ _ _ h => h) (Or.inl ⟨by rfl, ?_⟩) hHeld ?_
  rotate_left
  · (intro wz hSw; go_simp; try (with_reducible rfl))
  (try dsimp only [List.getElem_toArray, List.getElem_cons_zero, List.getElem_cons_succ]); (try simp only [Act.put, List.setIfInBounds_toArray, List.set_cons_zero, List.set_cons_succ])
  refine wpAnyH_take (i := 5) (oi := _) (v := ?_) rfl (by kernel_rfl) (by kernel_rfl) (by kernel_rfl) (fun _ _ _ h => h) (Or.inl ⟨by rfl, ?_⟩) hHeld ?_
  rotate_left
  · (intro wz hSw; go_simp; try (with_reducible rfl))
  (try dsimp only [List.getElem_toArray, List.getElem_cons_zero, List.getElem_cons_succ]); (try simp only [Act.put, List.setIfInBounds_toArray, List.set_cons_zero, List.set_cons_succ])
  refine wpAnyH_take (i := 6) (oi := _) (v := ?_) rfl (by kernel_rfl) (by kernel_rfl) (by kernel_rfl) (fun _ _ _ h => h) (Or.inl ⟨by rfl, ?_⟩) hHeld ?_
  rotate_left
  · (intro wz hSw; go_simp; try (with_reducible rfl))
  (try dsimp only [List.getElem_toArray, List.getElem_cons_zero, List.getElem_cons_succ]); (try simp only [Act.put, List.setIfInBounds_toArray, List.set_cons_zero, List.set_cons_succ])
  refine wpAnyH_take (i := 7) (oi := _) (v := ?_) rfl (by kernel_rfl) (by kernel_rfl) (by kernel_rfl) (fun _ _ _ h => h) (Or.inl ⟨by rfl, ?_⟩) hHeld ?_
  rotate_left
  · (intro wz hSw; go_simp; try (with_reducible rfl))
  (try dsimp only [List.getElem_toArray, List.getElem_cons_zero, List.getElem_cons_succ]); (try simp only [Act.put, List.setIfInBounds_toArray, List.set_cons_zero, List.set_cons_succ])
  refine wpAnyH_take (i := 8) (oi := _) (v := ?_) rfl (by kernel_rfl) (by kernel_rfl) (by kernel_rfl) (fun _ _ _ h => h) (Or.inl ⟨by rfl, ?_⟩) hHeld ?_
  rotate_left
  · (intro wz hSw; go_simp; try (with_reducible rfl))
  (try dsimp only [List.getElem_toArray, List.getElem_cons_zero, List.getElem_cons_succ]); (try simp only [Act.put, List.setIfInBounds_toArray, List.set_cons_zero, List.set_cons_succ])
  refine wpAnyH_take (i := 9) (oi := _) (v := ?_) rfl (by kernel_rfl) (by kernel_rfl) (by kernel_rfl) (fun _ _ _ h => h) (Or.inl ⟨by rfl, ?_⟩) hHeld ?_
  rotate_left
  · (intro wz hSw; go_simp; try (with_reducible rfl))
  (try dsimp only [List.getElem_toArray, List.getElem_cons_zero, List.getElem_cons_succ]); (try simp only [Act.put, List.setIfInBounds_toArray, List.set_cons_zero, List.set_cons_succ])
  refine wpAnyH_take (i := 10) (oi := _) (v := ?_) rfl (by kernel_rfl) (by kernel_rfl) (by kernel_rfl) (fun _ _ _ h => h) (Or.inl ⟨by rfl, ?_⟩) hHeld ?_
  rotate_left
  · (intro wz hSw; go_simp; try (with_reducible rfl))
  (try dsimp only [List.getElem_toArray, List.getElem_cons_zero, List.getElem_cons_succ]); (try simp only [Act.put, List.setIfInBounds_toArray, List.set_cons_zero, List.set_cons_succ])
  refine wpAnyH_take (i := 11) (oi := _) (v := ?_) rfl (by kernel_rfl) (by kernel_rfl) (by kernel_rfl) (fun _ _ _ h => h) (Or.inl ⟨by rfl, ?_⟩) hHeld ?_
  rotate_left
  · (intro wz hSw; go_simp; try (with_reducible rfl))
  (try dsimp only [List.getElem_toArray, List.getElem_cons_zero, List.getElem_cons_succ]); (try simp only [Act.put, List.setIfInBounds_toArray, List.set_cons_zero, List.set_cons_succ])
  refine wpAnyH_take (i := 12) (oi := _) (v := ?_) rfl (by kernel_rfl) (by kernel_rfl) (by kernel_rfl) (fun _ _ _ h => h) (Or.inl ⟨by rfl, ?_⟩) hHeld ?_
  rotate_left
  · (intro wz hSw; go_simp; try (with_reducible rfl))
  (try dsimp only [List.getElem_toArray, List.getElem_cons_zero, List.getElem_cons_succ]); (try simp only [Act.put, List.setIfInBounds_toArray, List.set_cons_zero, List.set_cons_succ])
  refine wpAnyH_take (i := 13) (oi := _) (v := ?_) rfl (by kernel_rfl) (by kernel_rfl) (by kernel_rfl) (fun _ _ _ h => h) (Or.inl ⟨by rfl, ?_⟩) hHeld ?_
  rotate_left
  · (intro wz hSw; go_simp; try (with_reducible rfl))
  (try dsimp only [List.getElem_toArray, List.getElem_cons_zero, List.getElem_cons_succ]); (try simp only [Act.put, List.setIfInBounds_toArray, List.set_cons_zero, List.set_cons_succ])
  refine wpAnyH_take (i := 14) (oi := _) (v := ?_) rfl (by kernel_rfl) (by kernel_rfl) (by kernel_rfl) (fun _ _ _ h => h) (Or.inl ⟨by rfl, ?_⟩) hHeld ?_
  rotate_left
  · (intro wz hSw; go_simp; try (with_reducible rfl))
  (try dsimp only [List.getElem_toArray, List.getElem_cons_zero, List.getElem_cons_succ]); (try simp only [Act.put, List.setIfInBounds_toArray, List.set_cons_zero, List.set_cons_succ])
  refine wpAnyH_take (i := 15) (oi := _) (v := ?_) rfl (by kernel_rfl) (by kernel_rfl) (by kernel_rfl) (fun _ _ _ h => h) (Or.inl ⟨by rfl, ?_⟩) hHeld ?_
  rotate_left
  · (intro wz hSw; go_simp; try (with_reducible rfl))
  (try dsimp only [List.getElem_toArray, List.getElem_cons_zero, List.getElem_cons_succ]); (try simp only [Act.put, List.setIfInBounds_toArray, List.set_cons_zero, List.set_cons_succ])
  refine wpAnyH_take (i := 16) (oi := _) (v := ?_) rfl (by kernel_rfl) (by kernel_rfl) (by kernel_rfl) (fun _ _ _ h => h) (Or.inl ⟨by rfl, ?_⟩) hHeld ?_
  rotate_left
  · (intro wz hSw; go_simp; try (with_reducible rfl))
  (try dsimp only [List.getElem_toArray, List.getElem_cons_zero, List.getElem_cons_succ]); (try simp only [Act.put, List.setIfInBounds_toArray, List.set_cons_zero, List.set_cons_succ])
  refine wpAnyH_take (i := 17) (oi := _) (v := ?_) rfl (by kernel_rfl) (by kernel_rfl) (by kernel_rfl) (fun _ _ _ h => h) (Or.inl ⟨by rfl, ?_⟩) hHeld ?_
  rotate_left
  · (intro wz hSw; go_simp; try (with_reducible rfl))
  (try dsimp only [List.getElem_toArray, List.getElem_cons_zero, List.getElem_cons_succ]); (try simp only [Act.put, List.setIfInBounds_toArray, List.set_cons_zero, List.set_cons_succ])
  refine wpAnyH_ready (rs := [18]) (by kernel_rfl) (by simp) ?_
  refine AllReadyH.cons (o := _) rfl (fun K hK => ?_) AllReadyH.nil
  go_simp
  go_at_call 22
  (with_reducible refine (P6.out _ _ _ _ _ HR1.out HR2.out).mono ?_)
  rintro e w1 ⟨rfl, hb1⟩
  replace HB := Lib.hid (HB.out.trans (hb1.mono HB.out.size)); replace HLr := Lib.hid (dReads_on HLr.out hb1); (try replace HR1 := Lib.hid (dReads_on HR1.out hb1)); (try replace HR2 := Lib.hid (dReads_on HR2.out hb1))
  refine hK.out _ _ (hHeld.below hb1 hHeld.lt) (fun hH => ?_)
  clear hHeld hK K hb1
  have hHeld := hH
  clear hH
  (try dsimp only [List.getElem_toArray, List.getElem_cons_zero, List.getElem_cons_succ]); (try simp only [Act.put, List.setIfInBounds_toArray, List.set_cons_zero, List.set_cons_succ])
  refine wpAnyH_take (i := 19) (oi := _) (v := ?_) rfl (by kernel_rfl) (by kernel_rfl) (by kernel_rfl) (fun _ _ _ h => h) (Or.inl ⟨by rfl, ?_⟩) hHeld ?_
  rotate_left
  · (intro wz hSw; go_simp; try (with_reducible rfl))
  (try dsimp only [List.getElem_toArray, List.getElem_cons_zero, List.getElem_cons_succ]); (try simp only [Act.put, List.setIfInBounds_toArray, List.set_cons_zero, List.set_cons_succ])
  refine wpAnyH_take (i := 20) (oi := _) (v := ?_) rfl (by kernel_rfl) (by kernel_rfl) (by kernel_rfl) (fun _ _ _ h => h) (Or.inl ⟨by rfl, ?_⟩) hHeld ?_
  rotate_left
  · (intro wz hSw; go_simp; try (with_reducible rfl))
  (try dsimp only [List.getElem_toArray, List.getElem_cons_zero, List.getElem_cons_succ]); (try simp only [Act.put, List.setIfInBounds_toArray, List.set_cons_zero, List.set_cons_succ])
  refine wpAnyH_take (i := 21) (oi := _) (v := ?_) rfl (by kernel_rfl) (by kernel_rfl) (by kernel_rfl) (fun _ _ _ h => h) (Or.inl ⟨by rfl, ?_⟩) hHeld ?_
  rotate_left
  · (intro wz hSw; go_simp; try (with_reducible rfl))
  (try dsimp only [List.getElem_toArray, List.getElem_cons_zero, List.getElem_cons_succ]); (try simp only [Act.put, List.setIfInBounds_toArray, List.set_cons_zero, List.set_cons_succ])
  refine wpAnyH_take (i := 22) (oi := _) (v := ?_) rfl (by kernel_rfl) (by kernel_rfl) (by kernel_rfl) (fun _ _ _ h => h) (Or.inl ⟨by rfl, ?_⟩) hHeld ?_
  rotate_left
  · (intro wz hSw; go_simp; try (with_reducible rfl))
  (try dsimp only [List.getElem_toArray, List.getElem_cons_zero, List.getElem_cons_succ]); (try simp only [Act.put, List.setIfInBounds_toArray, List.set_cons_zero, List.set_cons_succ])
  refine wpAnyH_take (i := 23) (oi := _) (v := ?_) rfl (by kernel_rfl) (by kernel_rfl) (by kernel_rfl) (fun _ _ _ h => h) (Or.inl ⟨by rfl, ?_⟩) hHeld ?_
  rotate_left
  · (intro wz hSw; go_simp; try (with_reducible rfl))
  (try dsimp only [List.getElem_toArray, List.getElem_cons_zero, List.getElem_cons_succ]); (try simp only [Act.put, List.setIfInBounds_toArray, List.set_cons_zero, List.set_cons_succ])
  refine wpAnyH_take (i := 24) (oi := _) (v := ?_) rfl (by kernel_rfl) (by kernel_rfl) (by kernel_rfl) (fun _ _ _ h => h) (Or.inl ⟨by rfl, ?_⟩) hHeld ?_
  rotate_left
  · (intro wz hSw; go_simp; try (with_reducible rfl))
  (try dsimp only [List.getElem_toArray, List.getElem_cons_zero, List.getElem_cons_succ]); (try simp only [Act.put, List.setIfInBounds_toArray, List.set_cons_zero, List.set_cons_succ])
  refine wpAnyH_take (i := 25) (oi := _) (v := ?_) rfl (by kernel_rfl) (by kernel_rfl) (by kernel_rfl) (fun _ _ _ h => h) (Or.inl ⟨by rfl, ?_⟩) hHeld ?_
  rotate_left
  · (intro wz hSw; go_simp; try (with_reducible rfl))
  (try dsimp only [List.getElem_toArray, List.getElem_cons_zero, List.getElem_cons_succ]); (try simp only [Act.put, List.setIfInBounds_toArray, List.set_cons_zero, List.set_cons_succ])
  refine wpAnyH_take (i := 26) (oi := _) (v := ?_) rfl (by kernel_rfl) (by kernel_rfl) (by kernel_rfl) (fun _ _ _ h => h) (Or.inl ⟨by rfl, ?_⟩) hHeld ?_
  rotate_left
  · (intro wz hSw; go_simp; try (with_reducible rfl))
  (try dsimp only [List.getElem_toArray, List.getElem_cons_zero, List.getElem_cons_succ]); (try simp only [Act.put, List.setIfInBounds_toArray, List.set_cons_zero, List.set_cons_succ])
  refine wpAnyH_take (i := 27) (oi := _) (v := ?_) rfl (by kernel_rfl) (by kernel_rfl) (by kernel_rfl) (fun _ _ _ h => h) (Or.inl ⟨by rfl, ?_⟩) hHeld ?_
  rotate_left
  · (intro wz hSw; go_simp; try (with_reducible rfl))
  (try dsimp only [List.getElem_toArray, List.getElem_cons_zero, List.getElem_cons_succ]); (try simp only [Act.put, List.setIfInBounds_toArray, List.set_cons_zero, List.set_cons_succ])
  refine wpAnyH_take (i := 28) (oi := _) (v := ?_) rfl (by kernel_rfl) (by kernel_rfl) (by kernel_rfl) (fun _ _ _ h => h) (Or.inl ⟨by rfl, ?_⟩) hHeld ?_
  rotate_left
  · (intro wz hSw; go_simp; try (with_reducible rfl))
  (try dsimp only [List.getElem_toArray, List.getElem_cons_zero, List.getElem_cons_succ]); (try simp only [Act.put, List.setIfInBounds_toArray, List.set_cons_zero, List.set_cons_succ])
  refine wpAnyH_take (i := 29) (oi := _) (v := ?_) rfl (by kernel_rfl) (by kernel_rfl) (by kernel_rfl) (fun _ _ _ h => h) (Or.inl ⟨by rfl, ?_⟩) hHeld ?_
  rotate_left
  · (intro wz hSw; go_simp; try (with_reducible rfl))
  (try dsimp only [List.getElem_toArray, List.getElem_cons_zero, List.getElem_cons_succ]); (try simp only [Act.put, List.setIfInBounds_toArray, List.set_cons_zero, List.set_cons_succ])
  refine wpAnyH_take (i := 30) (oi := _) (v := ?_) rfl (by kernel_rfl) (by kernel_rfl) (by kernel_rfl) (fun _ _ _ h => h) (Or.inl ⟨by rfl, ?_⟩) hHeld ?_
  rotate_left
  · (intro wz hSw; go_simp; try (with_reducible rfl))
  (try dsimp only [List.getElem_toArray, List.getElem_cons_zero, List.getElem_cons_succ]); (try simp only [Act.put, List.setIfInBounds_toArray, List.set_cons_zero, List.set_cons_succ])
  refine wpAnyH_take (i := 31) (oi := _) (v := ?_) rfl (by kernel_rfl) (by kernel_rfl) (by kernel_rfl) (fun _ _ _ h => h) (Or.inl ⟨by rfl, ?_⟩) hHeld ?_
  rotate_left
  · (intro wz hSw; go_simp; try (with_reducible rfl))
  (try dsimp only [List.getElem_toArray, List.getElem_cons_zero, List.getElem_cons_succ]); (try simp only [Act.put, List.setIfInBounds_toArray, List.set_cons_zero, List.set_cons_succ])
  refine wpAnyH_take (i := 32) (oi := _) (v := ?_) rfl (by kernel_rfl) (by kernel_rfl) (by kernel_rfl) (fun _ _ _ h => h) (Or.inl ⟨by rfl, ?_⟩) hHeld ?_
  rotate_left
  · (intro wz hSw; go_simp; try (with_reducible rfl))
  (try dsimp only [List.getElem_toArray, List.getElem_cons_zero, List.getElem_cons_succ]); (try simp only [Act.put, List.setIfInBounds_toArray, List.set_cons_zero, List.set_cons_succ])
  refine wpAnyH_take (i := 33) (oi := _) (v := ?_) rfl (by kernel_rfl) (by kernel_rfl) (by kernel_rfl) (fun _ _ _ h => h) (Or.inl ⟨by rfl, ?_⟩) hHeld ?_
  rotate_left
  · (intro wz hSw; go_simp; try (with_reducible rfl))
  (try dsimp only [List.getElem_toArray, List.getElem_cons_zero, List.getElem_cons_succ]); (try simp only [Act.put, List.setIfInBounds_toArray, List.set_cons_zero, List.set_cons_succ])
  refine wpAnyH_take (i := 34) (oi := _) (v := ?_) rfl (by kernel_rfl) (by kernel_rfl) (by kernel_rfl) (fun _ _ _ h => h) (Or.inl ⟨by rfl, ?_⟩) hHeld ?_
  rotate_left
  · (intro wz hSw; go_simp; try (with_reducible rfl))
  (try dsimp only [List.getElem_toArray, List.getElem_cons_zero, List.getElem_cons_succ]); (try simp only [Act.put, List.setIfInBounds_toArray, List.set_cons_zero, List.set_cons_succ])
  refine wpAnyH_take (i := 35) (oi := _) (v := ?_) rfl (by kernel_rfl) (by kernel_rfl) (by kernel_rfl) (fun _ _ _ h => h) (Or.inl ⟨by rfl, ?_⟩) hHeld ?_
  rotate_left
  · (intro wz hSw; go_simp; try (with_reducible rfl))
  (try dsimp only [List.getElem_toArray, List.getElem_cons_zero, List.getElem_cons_succ]); (try simp only [Act.put, List.setIfInBounds_toArray, List.set_cons_zero, List.set_cons_succ])
  refine wpAnyH_take (i := 36) (oi := _) (v := ?_) rfl (by kernel_rfl) (by kernel_rfl) (by kernel_rfl) (fun _ _ _ h => h) (Or.inl ⟨by rfl, ?_⟩) hHeld ?_
  rotate_left
  · (intro wz hSw; have k0 := hSw.cell 0; have k1 := hSw.cell 1; have k2 := hSw.cell 2; simp only [List.getElem?_toArray, List.getElem?_cons_zero, List.getElem?_cons_succ] at k0 k1 k2; go_simp; try (with_reducible rfl))
  (try dsimp only [List.getElem_toArray, List.getElem_cons_zero, List.getElem_cons_succ]); (try simp only [Act.put, List.setIfInBounds_toArray, List.set_cons_zero, List.set_cons_succ])
  refine wpAnyH_take (i := 39) (oi := _) (v := ?_) rfl (by kernel_rfl) (by kernel_rfl) (by kernel_rfl) (fun _ _ _ h => h) (Or.inl ⟨by rfl, ?_⟩) hHeld ?_
  rotate_left
  · (intro wz hSw; have k0 := hSw.cell 0; have k1 := hSw.cell 1; have k2 := hSw.cell 2; simp only [List.getElem?_toArray, List.getElem?_cons_zero, List.getElem?_cons_succ] at k0 k1 k2; go_simp; try (with_reducible rfl))
  (try dsimp only [List.getElem_toArray, List.getElem_cons_zero, List.getElem_cons_succ]); (try simp only [Act.put, List.setIfInBounds_toArray, List.set_cons_zero, List.set_cons_succ])
  refine wpAnyH_take (i := 37) (oi := _) (v := ?_) rfl (by kernel_rfl) (by kernel_rfl) (by kernel_rfl) (fun _ _ _ h => h) (Or.inl ⟨by rfl, ?_⟩) hHeld ?_
  rotate_left
  · (intro wz hSw; go_simp; try (with_reducible rfl))
  (try dsimp only [List.getElem_toArray, List.getElem_cons_zero, List.getElem_cons_succ]); (try simp only [Act.put, List.setIfInBounds_toArray, List.set_cons_zero, List.set_cons_succ])
  refine wpAnyH_take (i := 40) (oi := _) (v := ?_) rfl (by kernel_rfl) (by kernel_rfl) (by kernel_rfl) (fun _ _ _ h => h) (Or.inl ⟨by rfl, ?_⟩) hHeld ?_
  rotate_left
  · (intro wz hSw; go_simp; try (with_reducible rfl))
  (try dsimp only [List.getElem_toArray, List.getElem_cons_zero, List.getElem_cons_succ]); (try simp only [Act.put, List.setIfInBounds_toArray, List.set_cons_zero, List.set_cons_succ])
  refine wpAnyH_ready (rs := [38]) (by kernel_rfl) (by simp) ?_
  refine AllReadyH.cons (o := _) rfl (fun K hK => ?_) AllReadyH.nil
  go_simp
  go_at_call 23
  (with_reducible refine (P5.out _ HLr.out).mono ?_)
  rintro e w1 ⟨rfl, hb1⟩
  replace HB := Lib.hid (HB.out.trans (hb1.mono HB.out.size)); replace HLr := Lib.hid (dReads_on HLr.out hb1); (try replace HR1 := Lib.hid (dReads_on HR1.out hb1)); (try replace HR2 := Lib.hid (dReads_on HR2.out hb1))
  refine hK.out _ _ (hHeld.below hb1 hHeld.lt) (fun hH => ?_)
  clear hHeld hK K hb1
  have hHeld := hH
  clear hH
  (try dsimp only [List.getElem_toArray, List.getElem_cons_zero, List.getElem_cons_succ]); (try simp only [Act.put, List.setIfInBounds_toArray, List.set_cons_zero, List.set_cons_succ])
  refine wpAnyH_ready (rs := [41]) (by kernel_rfl) (by simp) ?_
  refine AllReadyH.cons (o := _) rfl (fun K hK => ?_) AllReadyH.nil
  go_simp
  go_at_call 24
  (with_reducible refine (Q5.out _ HLr.out).mono ?_)
  rintro e w1 ⟨rfl, hb1⟩
  replace HB := Lib.hid (HB.out.trans (hb1.mono HB.out.size)); replace HLr := Lib.hid (dReads_on HLr.out hb1); (try replace HR1 := Lib.hid (dReads_on HR1.out hb1)); (try replace HR2 := Lib.hid (dReads_on HR2.out hb1))
  refine hK.out _ _ (hHeld.below hb1 hHeld.lt) (fun hH => ?_)
  clear hHeld hK K hb1
  have hHeld := hH
  clear hH
  (try dsimp only [List.getElem_toArray, List.getElem_cons_zero, List.getElem_cons_succ]); (try simp only [Act.put, List.setIfInBounds_toArray, List.set_cons_zero, List.set_cons_succ])
  refine wpAnyH_take (i := 42) (oi := _) (v := ?_) rfl (by kernel_rfl) (by kernel_rfl) (by kernel_rfl) (fun _ _ _ h => h) (Or.inl ⟨by rfl, ?_⟩) hHeld ?_
  rotate_left
  · (intro wz hSw; go_simp; try (with_reducible rfl))
  (try dsimp only [List.getElem_toArray, List.getElem_cons_zero, List.getElem_cons_succ]); (try simp only [Act.put, List.setIfInBounds_toArray, List.set_cons_zero, List.set_cons_succ])
  refine wpAnyH_take (i := 43) (oi := _) (v := ?_) rfl (by kernel_rfl) (by kernel_rfl) (by kernel_rfl) (fun _ _ _ h => h) (Or.inl ⟨by rfl, ?_⟩) hHeld ?_
  rotate_left
  · (intro wz hSw; go_simp; try (with_reducible rfl))
  (try dsimp only [List.getElem_toArray, List.getElem_cons_zero, List.getElem_cons_succ]); (try simp only [Act.put, List.setIfInBounds_toArray, List.set_cons_zero, List.set_cons_succ])
  refine wpAnyH_take (i := 44) (oi := _) (v := ?_) rfl (by kernel_rfl) (by kernel_rfl) (by kernel_rfl) (fun _ _ _ h => h) (Or.inl ⟨by rfl, ?_⟩) hHeld ?_
  rotate_left
  · (intro wz hSw; go_simp; try (with_reducible rfl))
  (try dsimp only [List.getElem_toArray, List.getElem_cons_zero, List.getElem_cons_succ]); (try simp only [Act.put, List.setIfInBounds_toArray, List.set_cons_zero, List.set_cons_succ])
  refine wpAnyH_ready (rs := [45]) (by kernel_rfl) (by simp) ?_
  refine AllReadyH.cons (o := _) rfl (fun K hK => ?_) AllReadyH.nil
  go_simp
  go_at_call 7
  refine (awake21_any _).mono ?_
  rintro e w1 ⟨rfl, hb1⟩
  replace HB := Lib.hid (HB.out.trans (hb1.mono HB.out.size)); replace HLr := Lib.hid (dReads_on HLr.out hb1); (try replace HR1 := Lib.hid (dReads_on HR1.out hb1)); (try replace HR2 := Lib.hid (dReads_on HR2.out hb1))
  refine hK.out _ _ (hHeld.below hb1 hHeld.lt) (fun hH => ?_)
  clear hHeld hK K hb1
  have hHeld := hH
  clear hH
  (try dsimp only [List.getElem_toArray, List.getElem_cons_zero, List.getElem_cons_succ]); (try simp only [Act.put, List.setIfInBounds_toArray, List.set_cons_zero, List.set_cons_succ])
  refine wpAnyH_take (i := 46) (oi := _) (v := ?_) rfl (by kernel_rfl) (by kernel_rfl) (by kernel_rfl) (fun _ _ _ h => h) (Or.inl ⟨by rfl, ?_⟩) hHeld ?_
  rotate_left
  · (intro wz hSw; go_simp; try (with_reducible rfl))
  (try dsimp only [List.getElem_toArray, List.getElem_cons_zero, List.getElem_cons_succ]); (try simp only [Act.put, List.setIfInBounds_toArray, List.set_cons_zero, List.set_cons_succ])
  refine wpAnyH_take (i := 47) (oi := _) (v := ?_) rfl (by kernel_rfl) (by kernel_rfl) (by kernel_rfl) (fun _ _ _ h => h) (Or.inl ⟨by rfl, ?_⟩) hHeld ?_
  rotate_left
  · (intro wz hSw; go_simp; try (with_reducible rfl))
  (try dsimp only [List.getElem_toArray, List.getElem_cons_zero, List.getElem_cons_succ]); (try simp only [Act.put, List.setIfInBounds_toArray, List.set_cons_zero, List.set_cons_succ])
  refine wpAnyH_done (by kernel_rfl) ?_ _
  clear hHeld
  go_wp2
  go_ret
  exact ⟨rfl, HB.out⟩
theorem headFoots_walk (l : List Mt) (A : Option Addr) (c : Nat) (s : List UInt8) (h : Hd) (w : World) (hl : l.length ≤ maxLen) (hr : Reads w w.heap.size 7 A l.length (dcs mtc l)) : Calls Try.prog 4 #[.slice A l.length c, .string ⟨s.toArray⟩, .agg (hdc h)] w fun e w' => e = .returned (.bool true) ∧ Below w.heap.size w w' := by
  by_cases h1 : 1200 < l.length
  · exact headFoots_far l A c s h w hl hr (.inl h1)
  by_cases h2 : 5000 < s.length
  · exact headFoots_far l A c s h w hl hr (.inr h2)
  exact headFoots_near l A c s h w hl hr (by omega) (by omega)
namespace HeadFoots
set_option maxRecDepth 100000 in
theorem lifted (os : Os) (started : os.Started) (H : Type) (enc : TypeId × Value → H) :
    ReturnsInHanded {} Try.checked os 4 .any (Rows.headFootsSpec.pre6 enc Try.prog Try.f4 Rows.headFootsRow.domain false) (Rows.headFootsSpec.post enc Try.prog Try.f4 false true false false) := by
  refine law_sized (C := Try.checked) (tb := 4) ownP started (by kernel_rfl) Try.func4
    (ChangeSpec.witness6 (enc := enc) (C := Try.checked) false ⟨#[], #[.slice none 0 0, .string ⟨#[]⟩, .agg #[.int .i64 0, .int .i64 0, .int .i64 0]], []⟩ 8 (by kernel_rfl) (by kernel_rfl) (by kernel_rfl) (by kernel_rfl))
    laidP (by kernel_rfl) rfl (by kernel_rfl) Try.underlying4 (by intro ds h; match ds, h with | [_, _, _], _ => rfl) ?_
  intro W base args ds p hval0 hA0 hlt _
  have hval : ∀ (j : Nat) t v, Try.f4.params[j]? = some t → args[j]? = some v → Value.okWide Try.prog W .any base t v := hval0
  have hA : DataW.TrodAll enc Try.prog W 0 (fun _ => true) true Try.f4.params.toList args.toList ds p := hA0
  rw [Try.params4] at hA hval
  obtain ⟨v0, v1, v2, d0, d1, d2, p0, p1, p2, rfl, rfl, rfl, h0, h1, h2⟩ := trodAll_three hA
  obtain ⟨Al, l, cl, rfl, ml, -, rl⟩ := open_metas (hval 0 37 v0 rfl rfl) h0
  obtain ⟨s, rfl, rfl⟩ := open_bytes Try.underlying9 (hval 1 9 v1 rfl rfl) h1
  obtain ⟨h, rfl⟩ := open_head (hval 2 23 v2 rfl rfl) h2
  exact headFoots_walk l Al cl s h W ml rl
theorem holds : Rows.HeadFootsSaid :=
  OpenClaim.holds_of_wide 4 Try.f4 rfl rfl rfl rfl rfl rfl rfl ⟨rfl, rfl, rfl, rfl, rfl⟩ rfl rfl rfl rfl rfl (by kernel_rfl) Try.func4 (by kernel_rfl)
    (of_decide_eq_true (by kernel_rfl)) (by unfold Func.isWrapper; first | (rw [if_pos (by decide +kernel)]; kernel_rfl) | (rw [if_neg (by decide +kernel)]; exact ⟨rfl, rfl⟩))
    (fun os started H enc _ => lifted os started H enc)
end HeadFoots
end Go.Proofs.Ytjodckinfoldgaa
