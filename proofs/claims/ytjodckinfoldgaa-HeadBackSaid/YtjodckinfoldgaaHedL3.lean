/-
  A header comes back of its bytes, blocks of theirs; what is taken is what is put; the layer's probe holds (HeadBack). No condition.
-/
import Derived.Test.YtjodckinfoldgaaHedAw
import Derived.Test.YtjodckinfoldgaaHedO
import Derived.Test.YtjodckinfoldgaaFrame
namespace Go.Proofs.Ytjodckinfoldgaa
set_option linter.unusedSimpArgs false
set_option linter.unusedVariables false
open Go.ChangeShapes Go.WideShapes Go.ChangeAt Go.RowKit Go.Joins Go.Deep
set_option maxRecDepth 100000 in
set_option maxHeartbeats 4000000 in
theorem headBack_far (h : Hd) (l : List Mt) (A : Option Addr) (c : Nat) (s : List UInt8) (w : World) (hl : l.length ≤ maxLen) (hr : Reads w w.heap.size 7 A l.length (dcs mtc l)) (hs : 1200 < l.length ∨ 5000 < s.length) : Calls Try.prog 5 #[.agg (hdc h), .slice A l.length c, .string ⟨s.toArray⟩] w fun e w' => e = .returned (.bool true) ∧ Below w.heap.size w w' := by
  obtain ⟨a, b, d⟩ := h
  have HB := Lib.hid ((Below.refl w.heap.size w).alloc (Nat.le_refl _) (.cells #[.int .i64 a, .int .i64 b, .int .i64 d] 23))
  unfold hdc
  dsimp only
  clear hr
  by_cases h1 : 1200 < l.length
  · have hi : (1200 : Int) < (l.length : Int) := by omega
    clear hs hl
    go_enter Try.func5, Try.ntmps5
    go_wp2_with (first
    | (go_at_call 7; refine (awake21_any _).mono ?_; rintro e w9 ⟨rfl, hb⟩; replace HB := Lib.hid (HB.out.trans (hb.mono HB.out.size)); clear hb)
      | fail)
    go_ret
    exact ⟨rfl, HB.out⟩
  · have hi : ¬ (1200 : Int) < (l.length : Int) := by omega
    have hj : (5000 : Int) < (s.length : Int) := by omega
    clear hs hl
    go_enter Try.func5, Try.ntmps5
    go_wp2_with (first
    | (go_at_call 7; refine (awake21_any _).mono ?_; rintro e w9 ⟨rfl, hb⟩; replace HB := Lib.hid (HB.out.trans (hb.mono HB.out.size)); clear hb)
      | fail)
    go_ret
    exact ⟨rfl, HB.out⟩
set_option maxRecDepth 100000 in
set_option maxHeartbeats 16000000 in
theorem headBack_1111 (h : Hd) (l : List Mt) (A : Option Addr) (c : Nat) (s : List UInt8) (w : World) (hl : l.length ≤ maxLen) (hr : Reads w w.heap.size 7 A l.length (dcs mtc l)) (h1 : l.length ≤ 1200) (h2 : s.length ≤ 5000) (k1 : hdok h = true) (k2 : hrow l = true) (k3 : (hgetF s).2 = 0) (k4 : (hgfF s).2 = 0) : Calls Try.prog 5 #[.agg (hdc h), .slice A l.length c, .string ⟨s.toArray⟩] w fun e w' => e = .returned (.bool true) ∧ Below w.heap.size w w' := by
  have hi : ¬ (1200 : Int) < (l.length : Int) := by omega
  have hj : ¬ (5000 : Int) < (s.length : Int) := by omega
  have P1 := fun W => p_hput_any h W
  rw [show hputF h = ((hl3 h).flatMap putB, 0) from if_pos k1] at P1
  have P2 := fun W => p_hget_any ((hl3 h).flatMap putB) W (by have := hflat_le (hl3 h); have e : (hl3 h).length = 3 := rfl; omega)
  rw [hget_put k1] at P2
  generalize (hl3 h).flatMap putB = tB at *
  have P3 := fun W (hW : Reads W W.heap.size 7 A l.length (dcs mtc l)) => p_hpf_any l A l.length c W rfl (by omega) hW
  rw [show hpfF l = (hfB l, 0) from if_pos k2] at P3
  have P4 := fun W => p_hgf_any (hfB l) W (by
    have e1 := hmfl_le l
    have e2 := hflat_le [(l.length : Int)]
    unfold hfB
    rw [List.length_append]
    simp at e2
    omega)
  rw [hgf_put k2] at P4
  unfold HMP at P4
  have P5 := fun W A' c' (q1 : Reads W W.heap.size 7 A' l.length (dcs mtc l)) (q2 : Reads W W.heap.size 7 A l.length (dcs mtc l)) => href_same_yes l A' A c' c W (by omega) q1 q2
  generalize hfB l = fB at *
  have P6 := fun W => p_hget_any s W (by omega)
  have P7 := fun W => p_hput_any (hgetF s).1 W
  rw [hput_get k3] at P7
  have P8 := fun W => p_hgf_any s W (by omega)
  unfold HMP at P8
  have e8 := hpf_get k4
  have hrw : hrow (hgfF s).1 = true := by
    cases hq : hrow (hgfF s).1 with
    | true => rfl
    | false =>
      unfold hpfF at e8
      rw [if_neg (by rw [hq]; decide)] at e8
      injection e8 with _ e8
      cases e8
  have P9 := fun W A' c' (q1 : Reads W W.heap.size 7 A' (hgfF s).1.length (dcs mtc (hgfF s).1)) => p_hpf_any (hgfF s).1 A' (hgfF s).1.length c' W rfl (by have := ((hrow_iff _).1 hrw).1; omega) q1
  rw [e8] at P9
  clear e8 hrw
  generalize hgetF s = R6 at *
  obtain ⟨⟨x, y, z⟩, e6⟩ := R6
  generalize hgfF s = R8 at *
  obtain ⟨m8, e8⟩ := R8
  dsimp only at k3 k4 P7 P8 P9
  subst k3
  subst k4
  obtain ⟨a, b, d⟩ := h
  unfold hdc at P1 P2 P6 P7 ⊢
  dsimp only at P1 P2 P6 P7 ⊢
  replace P1 := Lib.hid P1
  replace P2 := Lib.hid P2
  replace P3 := Lib.hid P3
  replace P4 := Lib.hid P4
  replace P5 := Lib.hid P5
  replace P6 := Lib.hid P6
  replace P7 := Lib.hid P7
  replace P8 := Lib.hid P8
  replace P9 := Lib.hid P9
  have Hf := Lib.hid (Blk.new w 23 #[.int .i64 a, .int .i64 b, .int .i64 d])
  have HB := Lib.hid ((Below.refl w.heap.size w).alloc (Nat.le_refl _) (.cells #[.int .i64 a, .int .i64 b, .int .i64 d] 23))
  have HLr := Lib.hid (dReads_on hr HB.out)
  have heq := fun W => hh_equal a b d W
  have hgu := hh_guard
  have hss : (s != s) = false := by simp
  generalize l.length = n at *
  clear hr hl h1 h2 k1 k2
  go_enter Try.func5, Try.ntmps5
  go_wp2_with (first
    | (go_at_call 8; (with_reducible refine (P1.out _).mono ?_); rintro e w9 ⟨rfl, hb⟩; replace Hf := Lib.hid (Hf.out.below hb Hf.out.lt); replace HB := Lib.hid (HB.out.trans (hb.mono HB.out.size)); replace HLr := Lib.hid (dReads_on HLr.out hb); clear hb P1; have hlt := Hf.out.lt; have x0 := Hf.out.cell 0; have x1 := Hf.out.cell 1; have x2 := Hf.out.cell 2; simp only [List.getElem?_toArray, List.getElem?_cons_zero, List.getElem?_cons_succ] at x0 x1 x2)
    | (go_at_call 10; (with_reducible refine (P2.out _).mono ?_); rintro e w9 ⟨rfl, hb⟩; clear x0 x1 x2 hlt; replace Hf := Lib.hid (Hf.out.below hb Hf.out.lt); replace HB := Lib.hid (HB.out.trans (hb.mono HB.out.size)); replace HLr := Lib.hid (dReads_on HLr.out hb); clear hb P2; have hlt := Hf.out.lt; have x0 := Hf.out.cell 0; have x1 := Hf.out.cell 1; have x2 := Hf.out.cell 2; simp only [List.getElem?_toArray, List.getElem?_cons_zero, List.getElem?_cons_succ] at x0 x1 x2; replace Hf := Lib.hid (Hf.out.alloc (.cells #[.int .i64 a, .int .i64 b, .int .i64 d] 23)); replace HB := Lib.hid (HB.out.alloc HB.out.size (.cells #[.int .i64 a, .int .i64 b, .int .i64 d] 23)); replace HLr := Lib.hid (dReads_on HLr.out ((Below.refl _ _).alloc (Nat.le_refl _) (.cells #[.int .i64 a, .int .i64 b, .int .i64 d] 23))))
    | (go_at_call 14; (with_reducible refine (P3.out _ HLr.out).mono ?_); rintro e w9 ⟨rfl, hb⟩; replace Hf := Lib.hid (Hf.out.below hb Hf.out.lt); replace HB := Lib.hid (HB.out.trans (hb.mono HB.out.size)); replace HLr := Lib.hid (dReads_on HLr.out hb); clear hb P3)
    | (go_at_call 16; (with_reducible refine (P4.out _).mono ?_); rintro e w9 ⟨A4, c4, rfl, -, hr4, hb⟩; replace Hf := Lib.hid (Hf.out.below hb Hf.out.lt); replace HB := Lib.hid (HB.out.trans (hb.mono HB.out.size)); replace HLr := Lib.hid (dReads_on HLr.out hb); have HR4 := Lib.hid hr4; clear hr4 hb P4)
    | (go_at_call 22; (with_reducible refine (P5.out _ _ _ HR4.out HLr.out).mono ?_); rintro e w9 ⟨rfl, hb⟩; replace Hf := Lib.hid (Hf.out.below hb Hf.out.lt); replace HB := Lib.hid (HB.out.trans (hb.mono HB.out.size)); replace HLr := Lib.hid (dReads_on HLr.out hb); clear hb P5 HR4)
    | (go_at_call 10; (with_reducible refine (P6.out _).mono ?_); rintro e w9 ⟨rfl, hb⟩; replace Hf := Lib.hid (Hf.out.below hb Hf.out.lt); replace HB := Lib.hid (HB.out.trans (hb.mono HB.out.size)); replace HLr := Lib.hid (dReads_on HLr.out hb); clear hb P6; replace Hf := Lib.hid (Hf.out.alloc (.cells #[.int .i64 x, .int .i64 y, .int .i64 z] 23)); replace HB := Lib.hid (HB.out.alloc HB.out.size (.cells #[.int .i64 x, .int .i64 y, .int .i64 z] 23)); replace HLr := Lib.hid (dReads_on HLr.out ((Below.refl _ _).alloc (Nat.le_refl _) (.cells #[.int .i64 x, .int .i64 y, .int .i64 z] 23))))
    | (go_at_call 8; (with_reducible refine (P7.out _).mono ?_); rintro e w9 ⟨rfl, hb⟩; replace Hf := Lib.hid (Hf.out.below hb Hf.out.lt); replace HB := Lib.hid (HB.out.trans (hb.mono HB.out.size)); replace HLr := Lib.hid (dReads_on HLr.out hb); clear hb P7)
    | (go_at_call 16; (with_reducible refine (P8.out _).mono ?_); rintro e w9 ⟨A8, c8, rfl, -, hr8, hb⟩; replace Hf := Lib.hid (Hf.out.below hb Hf.out.lt); replace HB := Lib.hid (HB.out.trans (hb.mono HB.out.size)); replace HLr := Lib.hid (dReads_on HLr.out hb); have HR8 := Lib.hid hr8; clear hr8 hb P8)
    | (go_at_call 14; (with_reducible refine (P9.out _ _ _ HR8.out).mono ?_); rintro e w9 ⟨rfl, hb⟩; replace Hf := Lib.hid (Hf.out.below hb Hf.out.lt); replace HB := Lib.hid (HB.out.trans (hb.mono HB.out.size)); replace HLr := Lib.hid (dReads_on HLr.out hb); clear hb P9)
    | (go_at_call 7; refine (awake21_any _).mono ?_; rintro e w9 ⟨rfl, hb⟩; replace HB := Lib.hid (HB.out.trans (hb.mono HB.out.size)); clear hb)
    | fail)
  go_ret
  exact ⟨rfl, HB.out⟩
set_option maxRecDepth 100000 in
set_option maxHeartbeats 16000000 in
theorem headBack_1110 (h : Hd) (l : List Mt) (A : Option Addr) (c : Nat) (s : List UInt8) (w : World) (hl : l.length ≤ maxLen) (hr : Reads w w.heap.size 7 A l.length (dcs mtc l)) (h1 : l.length ≤ 1200) (h2 : s.length ≤ 5000) (k1 : hdok h = true) (k2 : hrow l = true) (k3 : (hgetF s).2 = 0) (k4 : ¬ (hgfF s).2 = 0) : Calls Try.prog 5 #[.agg (hdc h), .slice A l.length c, .string ⟨s.toArray⟩] w fun e w' => e = .returned (.bool true) ∧ Below w.heap.size w w' := by
  have hi : ¬ (1200 : Int) < (l.length : Int) := by omega
  have hj : ¬ (5000 : Int) < (s.length : Int) := by omega
  have P1 := fun W => p_hput_any h W
  rw [show hputF h = ((hl3 h).flatMap putB, 0) from if_pos k1] at P1
  have P2 := fun W => p_hget_any ((hl3 h).flatMap putB) W (by have := hflat_le (hl3 h); have e : (hl3 h).length = 3 := rfl; omega)
  rw [hget_put k1] at P2
  generalize (hl3 h).flatMap putB = tB at *
  have P3 := fun W (hW : Reads W W.heap.size 7 A l.length (dcs mtc l)) => p_hpf_any l A l.length c W rfl (by omega) hW
  rw [show hpfF l = (hfB l, 0) from if_pos k2] at P3
  have P4 := fun W => p_hgf_any (hfB l) W (by
    have e1 := hmfl_le l
    have e2 := hflat_le [(l.length : Int)]
    unfold hfB
    rw [List.length_append]
    simp at e2
    omega)
  rw [hgf_put k2] at P4
  unfold HMP at P4
  have P5 := fun W A' c' (q1 : Reads W W.heap.size 7 A' l.length (dcs mtc l)) (q2 : Reads W W.heap.size 7 A l.length (dcs mtc l)) => href_same_yes l A' A c' c W (by omega) q1 q2
  generalize hfB l = fB at *
  have P6 := fun W => p_hget_any s W (by omega)
  have P7 := fun W => p_hput_any (hgetF s).1 W
  rw [hput_get k3] at P7
  have P8 := fun W => p_hgf_any s W (by omega)
  unfold HMP at P8
  generalize hgetF s = R6 at *
  obtain ⟨⟨x, y, z⟩, e6⟩ := R6
  generalize hgfF s = R8 at *
  obtain ⟨m8, e8⟩ := R8
  dsimp only at k3 k4 P7 P8
  subst k3
  have g8 : ((e8 : Int) == 0) = false := by rw [beq_eq_false_iff_ne]; exact k4
  obtain ⟨a, b, d⟩ := h
  unfold hdc at P1 P2 P6 P7 ⊢
  dsimp only at P1 P2 P6 P7 ⊢
  replace P1 := Lib.hid P1
  replace P2 := Lib.hid P2
  replace P3 := Lib.hid P3
  replace P4 := Lib.hid P4
  replace P5 := Lib.hid P5
  replace P6 := Lib.hid P6
  replace P7 := Lib.hid P7
  replace P8 := Lib.hid P8
  have Hf := Lib.hid (Blk.new w 23 #[.int .i64 a, .int .i64 b, .int .i64 d])
  have HB := Lib.hid ((Below.refl w.heap.size w).alloc (Nat.le_refl _) (.cells #[.int .i64 a, .int .i64 b, .int .i64 d] 23))
  have HLr := Lib.hid (dReads_on hr HB.out)
  have heq := fun W => hh_equal a b d W
  have hgu := hh_guard
  have hss : (s != s) = false := by simp
  generalize l.length = n at *
  clear hr hl h1 h2 k1 k2
  go_enter Try.func5, Try.ntmps5
  go_wp2_with (first
    | (go_at_call 8; (with_reducible refine (P1.out _).mono ?_); rintro e w9 ⟨rfl, hb⟩; replace Hf := Lib.hid (Hf.out.below hb Hf.out.lt); replace HB := Lib.hid (HB.out.trans (hb.mono HB.out.size)); replace HLr := Lib.hid (dReads_on HLr.out hb); clear hb P1; have hlt := Hf.out.lt; have x0 := Hf.out.cell 0; have x1 := Hf.out.cell 1; have x2 := Hf.out.cell 2; simp only [List.getElem?_toArray, List.getElem?_cons_zero, List.getElem?_cons_succ] at x0 x1 x2)
    | (go_at_call 10; (with_reducible refine (P2.out _).mono ?_); rintro e w9 ⟨rfl, hb⟩; clear x0 x1 x2 hlt; replace Hf := Lib.hid (Hf.out.below hb Hf.out.lt); replace HB := Lib.hid (HB.out.trans (hb.mono HB.out.size)); replace HLr := Lib.hid (dReads_on HLr.out hb); clear hb P2; have hlt := Hf.out.lt; have x0 := Hf.out.cell 0; have x1 := Hf.out.cell 1; have x2 := Hf.out.cell 2; simp only [List.getElem?_toArray, List.getElem?_cons_zero, List.getElem?_cons_succ] at x0 x1 x2; replace Hf := Lib.hid (Hf.out.alloc (.cells #[.int .i64 a, .int .i64 b, .int .i64 d] 23)); replace HB := Lib.hid (HB.out.alloc HB.out.size (.cells #[.int .i64 a, .int .i64 b, .int .i64 d] 23)); replace HLr := Lib.hid (dReads_on HLr.out ((Below.refl _ _).alloc (Nat.le_refl _) (.cells #[.int .i64 a, .int .i64 b, .int .i64 d] 23))))
    | (go_at_call 14; (with_reducible refine (P3.out _ HLr.out).mono ?_); rintro e w9 ⟨rfl, hb⟩; replace Hf := Lib.hid (Hf.out.below hb Hf.out.lt); replace HB := Lib.hid (HB.out.trans (hb.mono HB.out.size)); replace HLr := Lib.hid (dReads_on HLr.out hb); clear hb P3)
    | (go_at_call 16; (with_reducible refine (P4.out _).mono ?_); rintro e w9 ⟨A4, c4, rfl, -, hr4, hb⟩; replace Hf := Lib.hid (Hf.out.below hb Hf.out.lt); replace HB := Lib.hid (HB.out.trans (hb.mono HB.out.size)); replace HLr := Lib.hid (dReads_on HLr.out hb); have HR4 := Lib.hid hr4; clear hr4 hb P4)
    | (go_at_call 22; (with_reducible refine (P5.out _ _ _ HR4.out HLr.out).mono ?_); rintro e w9 ⟨rfl, hb⟩; replace Hf := Lib.hid (Hf.out.below hb Hf.out.lt); replace HB := Lib.hid (HB.out.trans (hb.mono HB.out.size)); replace HLr := Lib.hid (dReads_on HLr.out hb); clear hb P5 HR4)
    | (go_at_call 10; (with_reducible refine (P6.out _).mono ?_); rintro e w9 ⟨rfl, hb⟩; replace Hf := Lib.hid (Hf.out.below hb Hf.out.lt); replace HB := Lib.hid (HB.out.trans (hb.mono HB.out.size)); replace HLr := Lib.hid (dReads_on HLr.out hb); clear hb P6; replace Hf := Lib.hid (Hf.out.alloc (.cells #[.int .i64 x, .int .i64 y, .int .i64 z] 23)); replace HB := Lib.hid (HB.out.alloc HB.out.size (.cells #[.int .i64 x, .int .i64 y, .int .i64 z] 23)); replace HLr := Lib.hid (dReads_on HLr.out ((Below.refl _ _).alloc (Nat.le_refl _) (.cells #[.int .i64 x, .int .i64 y, .int .i64 z] 23))))
    | (go_at_call 8; (with_reducible refine (P7.out _).mono ?_); rintro e w9 ⟨rfl, hb⟩; replace Hf := Lib.hid (Hf.out.below hb Hf.out.lt); replace HB := Lib.hid (HB.out.trans (hb.mono HB.out.size)); replace HLr := Lib.hid (dReads_on HLr.out hb); clear hb P7)
    | (go_at_call 16; (with_reducible refine (P8.out _).mono ?_); rintro e w9 ⟨A8, c8, rfl, -, hr8, hb⟩; replace Hf := Lib.hid (Hf.out.below hb Hf.out.lt); replace HB := Lib.hid (HB.out.trans (hb.mono HB.out.size)); replace HLr := Lib.hid (dReads_on HLr.out hb); have HR8 := Lib.hid hr8; clear hr8 hb P8)
    | (go_at_call 7; refine (awake21_any _).mono ?_; rintro e w9 ⟨rfl, hb⟩; replace HB := Lib.hid (HB.out.trans (hb.mono HB.out.size)); clear hb)
    | fail)
  go_ret
  exact ⟨rfl, HB.out⟩
set_option maxRecDepth 100000 in
set_option maxHeartbeats 16000000 in
theorem headBack_1101 (h : Hd) (l : List Mt) (A : Option Addr) (c : Nat) (s : List UInt8) (w : World) (hl : l.length ≤ maxLen) (hr : Reads w w.heap.size 7 A l.length (dcs mtc l)) (h1 : l.length ≤ 1200) (h2 : s.length ≤ 5000) (k1 : hdok h = true) (k2 : hrow l = true) (k3 : ¬ (hgetF s).2 = 0) (k4 : (hgfF s).2 = 0) : Calls Try.prog 5 #[.agg (hdc h), .slice A l.length c, .string ⟨s.toArray⟩] w fun e w' => e = .returned (.bool true) ∧ Below w.heap.size w w' := by
  have hi : ¬ (1200 : Int) < (l.length : Int) := by omega
  have hj : ¬ (5000 : Int) < (s.length : Int) := by omega
  have P1 := fun W => p_hput_any h W
  rw [show hputF h = ((hl3 h).flatMap putB, 0) from if_pos k1] at P1
  have P2 := fun W => p_hget_any ((hl3 h).flatMap putB) W (by have := hflat_le (hl3 h); have e : (hl3 h).length = 3 := rfl; omega)
  rw [hget_put k1] at P2
  generalize (hl3 h).flatMap putB = tB at *
  have P3 := fun W (hW : Reads W W.heap.size 7 A l.length (dcs mtc l)) => p_hpf_any l A l.length c W rfl (by omega) hW
  rw [show hpfF l = (hfB l, 0) from if_pos k2] at P3
  have P4 := fun W => p_hgf_any (hfB l) W (by
    have e1 := hmfl_le l
    have e2 := hflat_le [(l.length : Int)]
    unfold hfB
    rw [List.length_append]
    simp at e2
    omega)
  rw [hgf_put k2] at P4
  unfold HMP at P4
  have P5 := fun W A' c' (q1 : Reads W W.heap.size 7 A' l.length (dcs mtc l)) (q2 : Reads W W.heap.size 7 A l.length (dcs mtc l)) => href_same_yes l A' A c' c W (by omega) q1 q2
  generalize hfB l = fB at *
  have P6 := fun W => p_hget_any s W (by omega)
  have P8 := fun W => p_hgf_any s W (by omega)
  unfold HMP at P8
  have e8 := hpf_get k4
  have hrw : hrow (hgfF s).1 = true := by
    cases hq : hrow (hgfF s).1 with
    | true => rfl
    | false =>
      unfold hpfF at e8
      rw [if_neg (by rw [hq]; decide)] at e8
      injection e8 with _ e8
      cases e8
  have P9 := fun W A' c' (q1 : Reads W W.heap.size 7 A' (hgfF s).1.length (dcs mtc (hgfF s).1)) => p_hpf_any (hgfF s).1 A' (hgfF s).1.length c' W rfl (by have := ((hrow_iff _).1 hrw).1; omega) q1
  rw [e8] at P9
  clear e8 hrw
  generalize hgetF s = R6 at *
  obtain ⟨⟨x, y, z⟩, e6⟩ := R6
  generalize hgfF s = R8 at *
  obtain ⟨m8, e8⟩ := R8
  dsimp only at k3 k4 P8 P9
  have g6 : ((e6 : Int) == 0) = false := by rw [beq_eq_false_iff_ne]; exact k3
  subst k4
  obtain ⟨a, b, d⟩ := h
  unfold hdc at P1 P2 P6 ⊢
  dsimp only at P1 P2 P6 ⊢
  replace P1 := Lib.hid P1
  replace P2 := Lib.hid P2
  replace P3 := Lib.hid P3
  replace P4 := Lib.hid P4
  replace P5 := Lib.hid P5
  replace P6 := Lib.hid P6
  replace P8 := Lib.hid P8
  replace P9 := Lib.hid P9
  have Hf := Lib.hid (Blk.new w 23 #[.int .i64 a, .int .i64 b, .int .i64 d])
  have HB := Lib.hid ((Below.refl w.heap.size w).alloc (Nat.le_refl _) (.cells #[.int .i64 a, .int .i64 b, .int .i64 d] 23))
  have HLr := Lib.hid (dReads_on hr HB.out)
  have heq := fun W => hh_equal a b d W
  have hgu := hh_guard
  have hss : (s != s) = false := by simp
  generalize l.length = n at *
  clear hr hl h1 h2 k1 k2
  go_enter Try.func5, Try.ntmps5
  go_wp2_with (first
    | (go_at_call 8; (with_reducible refine (P1.out _).mono ?_); rintro e w9 ⟨rfl, hb⟩; replace Hf := Lib.hid (Hf.out.below hb Hf.out.lt); replace HB := Lib.hid (HB.out.trans (hb.mono HB.out.size)); replace HLr := Lib.hid (dReads_on HLr.out hb); clear hb P1; have hlt := Hf.out.lt; have x0 := Hf.out.cell 0; have x1 := Hf.out.cell 1; have x2 := Hf.out.cell 2; simp only [List.getElem?_toArray, List.getElem?_cons_zero, List.getElem?_cons_succ] at x0 x1 x2)
    | (go_at_call 10; (with_reducible refine (P2.out _).mono ?_); rintro e w9 ⟨rfl, hb⟩; clear x0 x1 x2 hlt; replace Hf := Lib.hid (Hf.out.below hb Hf.out.lt); replace HB := Lib.hid (HB.out.trans (hb.mono HB.out.size)); replace HLr := Lib.hid (dReads_on HLr.out hb); clear hb P2; have hlt := Hf.out.lt; have x0 := Hf.out.cell 0; have x1 := Hf.out.cell 1; have x2 := Hf.out.cell 2; simp only [List.getElem?_toArray, List.getElem?_cons_zero, List.getElem?_cons_succ] at x0 x1 x2; replace Hf := Lib.hid (Hf.out.alloc (.cells #[.int .i64 a, .int .i64 b, .int .i64 d] 23)); replace HB := Lib.hid (HB.out.alloc HB.out.size (.cells #[.int .i64 a, .int .i64 b, .int .i64 d] 23)); replace HLr := Lib.hid (dReads_on HLr.out ((Below.refl _ _).alloc (Nat.le_refl _) (.cells #[.int .i64 a, .int .i64 b, .int .i64 d] 23))))
    | (go_at_call 14; (with_reducible refine (P3.out _ HLr.out).mono ?_); rintro e w9 ⟨rfl, hb⟩; replace Hf := Lib.hid (Hf.out.below hb Hf.out.lt); replace HB := Lib.hid (HB.out.trans (hb.mono HB.out.size)); replace HLr := Lib.hid (dReads_on HLr.out hb); clear hb P3)
    | (go_at_call 16; (with_reducible refine (P4.out _).mono ?_); rintro e w9 ⟨A4, c4, rfl, -, hr4, hb⟩; replace Hf := Lib.hid (Hf.out.below hb Hf.out.lt); replace HB := Lib.hid (HB.out.trans (hb.mono HB.out.size)); replace HLr := Lib.hid (dReads_on HLr.out hb); have HR4 := Lib.hid hr4; clear hr4 hb P4)
    | (go_at_call 22; (with_reducible refine (P5.out _ _ _ HR4.out HLr.out).mono ?_); rintro e w9 ⟨rfl, hb⟩; replace Hf := Lib.hid (Hf.out.below hb Hf.out.lt); replace HB := Lib.hid (HB.out.trans (hb.mono HB.out.size)); replace HLr := Lib.hid (dReads_on HLr.out hb); clear hb P5 HR4)
    | (go_at_call 10; (with_reducible refine (P6.out _).mono ?_); rintro e w9 ⟨rfl, hb⟩; replace Hf := Lib.hid (Hf.out.below hb Hf.out.lt); replace HB := Lib.hid (HB.out.trans (hb.mono HB.out.size)); replace HLr := Lib.hid (dReads_on HLr.out hb); clear hb P6; replace Hf := Lib.hid (Hf.out.alloc (.cells #[.int .i64 x, .int .i64 y, .int .i64 z] 23)); replace HB := Lib.hid (HB.out.alloc HB.out.size (.cells #[.int .i64 x, .int .i64 y, .int .i64 z] 23)); replace HLr := Lib.hid (dReads_on HLr.out ((Below.refl _ _).alloc (Nat.le_refl _) (.cells #[.int .i64 x, .int .i64 y, .int .i64 z] 23))))
    | (go_at_call 16; (with_reducible refine (P8.out _).mono ?_); rintro e w9 ⟨A8, c8, rfl, -, hr8, hb⟩; replace Hf := Lib.hid (Hf.out.below hb Hf.out.lt); replace HB := Lib.hid (HB.out.trans (hb.mono HB.out.size)); replace HLr := Lib.hid (dReads_on HLr.out hb); have HR8 := Lib.hid hr8; clear hr8 hb P8)
    | (go_at_call 14; (with_reducible refine (P9.out _ _ _ HR8.out).mono ?_); rintro e w9 ⟨rfl, hb⟩; replace Hf := Lib.hid (Hf.out.below hb Hf.out.lt); replace HB := Lib.hid (HB.out.trans (hb.mono HB.out.size)); replace HLr := Lib.hid (dReads_on HLr.out hb); clear hb P9)
    | (go_at_call 7; refine (awake21_any _).mono ?_; rintro e w9 ⟨rfl, hb⟩; replace HB := Lib.hid (HB.out.trans (hb.mono HB.out.size)); clear hb)
    | fail)
  go_ret
  exact ⟨rfl, HB.out⟩
set_option maxRecDepth 100000 in
set_option maxHeartbeats 16000000 in
theorem headBack_1100 (h : Hd) (l : List Mt) (A : Option Addr) (c : Nat) (s : List UInt8) (w : World) (hl : l.length ≤ maxLen) (hr : Reads w w.heap.size 7 A l.length (dcs mtc l)) (h1 : l.length ≤ 1200) (h2 : s.length ≤ 5000) (k1 : hdok h = true) (k2 : hrow l = true) (k3 : ¬ (hgetF s).2 = 0) (k4 : ¬ (hgfF s).2 = 0) : Calls Try.prog 5 #[.agg (hdc h), .slice A l.length c, .string ⟨s.toArray⟩] w fun e w' => e = .returned (.bool true) ∧ Below w.heap.size w w' := by
  have hi : ¬ (1200 : Int) < (l.length : Int) := by omega
  have hj : ¬ (5000 : Int) < (s.length : Int) := by omega
  have P1 := fun W => p_hput_any h W
  rw [show hputF h = ((hl3 h).flatMap putB, 0) from if_pos k1] at P1
  have P2 := fun W => p_hget_any ((hl3 h).flatMap putB) W (by have := hflat_le (hl3 h); have e : (hl3 h).length = 3 := rfl; omega)
  rw [hget_put k1] at P2
  generalize (hl3 h).flatMap putB = tB at *
  have P3 := fun W (hW : Reads W W.heap.size 7 A l.length (dcs mtc l)) => p_hpf_any l A l.length c W rfl (by omega) hW
  rw [show hpfF l = (hfB l, 0) from if_pos k2] at P3
  have P4 := fun W => p_hgf_any (hfB l) W (by
    have e1 := hmfl_le l
    have e2 := hflat_le [(l.length : Int)]
    unfold hfB
    rw [List.length_append]
    simp at e2
    omega)
  rw [hgf_put k2] at P4
  unfold HMP at P4
  have P5 := fun W A' c' (q1 : Reads W W.heap.size 7 A' l.length (dcs mtc l)) (q2 : Reads W W.heap.size 7 A l.length (dcs mtc l)) => href_same_yes l A' A c' c W (by omega) q1 q2
  generalize hfB l = fB at *
  have P6 := fun W => p_hget_any s W (by omega)
  have P8 := fun W => p_hgf_any s W (by omega)
  unfold HMP at P8
  generalize hgetF s = R6 at *
  obtain ⟨⟨x, y, z⟩, e6⟩ := R6
  generalize hgfF s = R8 at *
  obtain ⟨m8, e8⟩ := R8
  dsimp only at k3 k4 P8
  have g6 : ((e6 : Int) == 0) = false := by rw [beq_eq_false_iff_ne]; exact k3
  have g8 : ((e8 : Int) == 0) = false := by rw [beq_eq_false_iff_ne]; exact k4
  obtain ⟨a, b, d⟩ := h
  unfold hdc at P1 P2 P6 ⊢
  dsimp only at P1 P2 P6 ⊢
  replace P1 := Lib.hid P1
  replace P2 := Lib.hid P2
  replace P3 := Lib.hid P3
  replace P4 := Lib.hid P4
  replace P5 := Lib.hid P5
  replace P6 := Lib.hid P6
  replace P8 := Lib.hid P8
  have Hf := Lib.hid (Blk.new w 23 #[.int .i64 a, .int .i64 b, .int .i64 d])
  have HB := Lib.hid ((Below.refl w.heap.size w).alloc (Nat.le_refl _) (.cells #[.int .i64 a, .int .i64 b, .int .i64 d] 23))
  have HLr := Lib.hid (dReads_on hr HB.out)
  have heq := fun W => hh_equal a b d W
  have hgu := hh_guard
  have hss : (s != s) = false := by simp
  generalize l.length = n at *
  clear hr hl h1 h2 k1 k2
  go_enter Try.func5, Try.ntmps5
  go_wp2_with (first
    | (go_at_call 8; (with_reducible refine (P1.out _).mono ?_); rintro e w9 ⟨rfl, hb⟩; replace Hf := Lib.hid (Hf.out.below hb Hf.out.lt); replace HB := Lib.hid (HB.out.trans (hb.mono HB.out.size)); replace HLr := Lib.hid (dReads_on HLr.out hb); clear hb P1; have hlt := Hf.out.lt; have x0 := Hf.out.cell 0; have x1 := Hf.out.cell 1; have x2 := Hf.out.cell 2; simp only [List.getElem?_toArray, List.getElem?_cons_zero, List.getElem?_cons_succ] at x0 x1 x2)
    | (go_at_call 10; (with_reducible refine (P2.out _).mono ?_); rintro e w9 ⟨rfl, hb⟩; clear x0 x1 x2 hlt; replace Hf := Lib.hid (Hf.out.below hb Hf.out.lt); replace HB := Lib.hid (HB.out.trans (hb.mono HB.out.size)); replace HLr := Lib.hid (dReads_on HLr.out hb); clear hb P2; have hlt := Hf.out.lt; have x0 := Hf.out.cell 0; have x1 := Hf.out.cell 1; have x2 := Hf.out.cell 2; simp only [List.getElem?_toArray, List.getElem?_cons_zero, List.getElem?_cons_succ] at x0 x1 x2; replace Hf := Lib.hid (Hf.out.alloc (.cells #[.int .i64 a, .int .i64 b, .int .i64 d] 23)); replace HB := Lib.hid (HB.out.alloc HB.out.size (.cells #[.int .i64 a, .int .i64 b, .int .i64 d] 23)); replace HLr := Lib.hid (dReads_on HLr.out ((Below.refl _ _).alloc (Nat.le_refl _) (.cells #[.int .i64 a, .int .i64 b, .int .i64 d] 23))))
    | (go_at_call 14; (with_reducible refine (P3.out _ HLr.out).mono ?_); rintro e w9 ⟨rfl, hb⟩; replace Hf := Lib.hid (Hf.out.below hb Hf.out.lt); replace HB := Lib.hid (HB.out.trans (hb.mono HB.out.size)); replace HLr := Lib.hid (dReads_on HLr.out hb); clear hb P3)
    | (go_at_call 16; (with_reducible refine (P4.out _).mono ?_); rintro e w9 ⟨A4, c4, rfl, -, hr4, hb⟩; replace Hf := Lib.hid (Hf.out.below hb Hf.out.lt); replace HB := Lib.hid (HB.out.trans (hb.mono HB.out.size)); replace HLr := Lib.hid (dReads_on HLr.out hb); have HR4 := Lib.hid hr4; clear hr4 hb P4)
    | (go_at_call 22; (with_reducible refine (P5.out _ _ _ HR4.out HLr.out).mono ?_); rintro e w9 ⟨rfl, hb⟩; replace Hf := Lib.hid (Hf.out.below hb Hf.out.lt); replace HB := Lib.hid (HB.out.trans (hb.mono HB.out.size)); replace HLr := Lib.hid (dReads_on HLr.out hb); clear hb P5 HR4)
    | (go_at_call 10; (with_reducible refine (P6.out _).mono ?_); rintro e w9 ⟨rfl, hb⟩; replace Hf := Lib.hid (Hf.out.below hb Hf.out.lt); replace HB := Lib.hid (HB.out.trans (hb.mono HB.out.size)); replace HLr := Lib.hid (dReads_on HLr.out hb); clear hb P6; replace Hf := Lib.hid (Hf.out.alloc (.cells #[.int .i64 x, .int .i64 y, .int .i64 z] 23)); replace HB := Lib.hid (HB.out.alloc HB.out.size (.cells #[.int .i64 x, .int .i64 y, .int .i64 z] 23)); replace HLr := Lib.hid (dReads_on HLr.out ((Below.refl _ _).alloc (Nat.le_refl _) (.cells #[.int .i64 x, .int .i64 y, .int .i64 z] 23))))
    | (go_at_call 16; (with_reducible refine (P8.out _).mono ?_); rintro e w9 ⟨A8, c8, rfl, -, hr8, hb⟩; replace Hf := Lib.hid (Hf.out.below hb Hf.out.lt); replace HB := Lib.hid (HB.out.trans (hb.mono HB.out.size)); replace HLr := Lib.hid (dReads_on HLr.out hb); have HR8 := Lib.hid hr8; clear hr8 hb P8)
    | (go_at_call 7; refine (awake21_any _).mono ?_; rintro e w9 ⟨rfl, hb⟩; replace HB := Lib.hid (HB.out.trans (hb.mono HB.out.size)); clear hb)
    | fail)
  go_ret
  exact ⟨rfl, HB.out⟩
set_option maxRecDepth 100000 in
set_option maxHeartbeats 16000000 in
theorem headBack_1011 (h : Hd) (l : List Mt) (A : Option Addr) (c : Nat) (s : List UInt8) (w : World) (hl : l.length ≤ maxLen) (hr : Reads w w.heap.size 7 A l.length (dcs mtc l)) (h1 : l.length ≤ 1200) (h2 : s.length ≤ 5000) (k1 : hdok h = true) (k2 : ¬ hrow l = true) (k3 : (hgetF s).2 = 0) (k4 : (hgfF s).2 = 0) : Calls Try.prog 5 #[.agg (hdc h), .slice A l.length c, .string ⟨s.toArray⟩] w fun e w' => e = .returned (.bool true) ∧ Below w.heap.size w w' := by
  have hi : ¬ (1200 : Int) < (l.length : Int) := by omega
  have hj : ¬ (5000 : Int) < (s.length : Int) := by omega
  have P1 := fun W => p_hput_any h W
  rw [show hputF h = ((hl3 h).flatMap putB, 0) from if_pos k1] at P1
  have P2 := fun W => p_hget_any ((hl3 h).flatMap putB) W (by have := hflat_le (hl3 h); have e : (hl3 h).length = 3 := rfl; omega)
  rw [hget_put k1] at P2
  generalize (hl3 h).flatMap putB = tB at *
  have P3 := fun W (hW : Reads W W.heap.size 7 A l.length (dcs mtc l)) => p_hpf_any l A l.length c W rfl (by omega) hW
  rw [show hpfF l = ([], 211) from if_neg k2] at P3
  have P6 := fun W => p_hget_any s W (by omega)
  have P7 := fun W => p_hput_any (hgetF s).1 W
  rw [hput_get k3] at P7
  have P8 := fun W => p_hgf_any s W (by omega)
  unfold HMP at P8
  have e8 := hpf_get k4
  have hrw : hrow (hgfF s).1 = true := by
    cases hq : hrow (hgfF s).1 with
    | true => rfl
    | false =>
      unfold hpfF at e8
      rw [if_neg (by rw [hq]; decide)] at e8
      injection e8 with _ e8
      cases e8
  have P9 := fun W A' c' (q1 : Reads W W.heap.size 7 A' (hgfF s).1.length (dcs mtc (hgfF s).1)) => p_hpf_any (hgfF s).1 A' (hgfF s).1.length c' W rfl (by have := ((hrow_iff _).1 hrw).1; omega) q1
  rw [e8] at P9
  clear e8 hrw
  generalize hgetF s = R6 at *
  obtain ⟨⟨x, y, z⟩, e6⟩ := R6
  generalize hgfF s = R8 at *
  obtain ⟨m8, e8⟩ := R8
  dsimp only at k3 k4 P7 P8 P9
  subst k3
  subst k4
  obtain ⟨a, b, d⟩ := h
  unfold hdc at P1 P2 P6 P7 ⊢
  dsimp only at P1 P2 P6 P7 ⊢
  replace P1 := Lib.hid P1
  replace P2 := Lib.hid P2
  replace P3 := Lib.hid P3
  replace P6 := Lib.hid P6
  replace P7 := Lib.hid P7
  replace P8 := Lib.hid P8
  replace P9 := Lib.hid P9
  have Hf := Lib.hid (Blk.new w 23 #[.int .i64 a, .int .i64 b, .int .i64 d])
  have HB := Lib.hid ((Below.refl w.heap.size w).alloc (Nat.le_refl _) (.cells #[.int .i64 a, .int .i64 b, .int .i64 d] 23))
  have HLr := Lib.hid (dReads_on hr HB.out)
  have heq := fun W => hh_equal a b d W
  have hgu := hh_guard
  have hss : (s != s) = false := by simp
  generalize l.length = n at *
  clear hr hl h1 h2 k1 k2
  go_enter Try.func5, Try.ntmps5
  go_wp2_with (first
    | (go_at_call 8; (with_reducible refine (P1.out _).mono ?_); rintro e w9 ⟨rfl, hb⟩; replace Hf := Lib.hid (Hf.out.below hb Hf.out.lt); replace HB := Lib.hid (HB.out.trans (hb.mono HB.out.size)); replace HLr := Lib.hid (dReads_on HLr.out hb); clear hb P1; have hlt := Hf.out.lt; have x0 := Hf.out.cell 0; have x1 := Hf.out.cell 1; have x2 := Hf.out.cell 2; simp only [List.getElem?_toArray, List.getElem?_cons_zero, List.getElem?_cons_succ] at x0 x1 x2)
    | (go_at_call 10; (with_reducible refine (P2.out _).mono ?_); rintro e w9 ⟨rfl, hb⟩; clear x0 x1 x2 hlt; replace Hf := Lib.hid (Hf.out.below hb Hf.out.lt); replace HB := Lib.hid (HB.out.trans (hb.mono HB.out.size)); replace HLr := Lib.hid (dReads_on HLr.out hb); clear hb P2; have hlt := Hf.out.lt; have x0 := Hf.out.cell 0; have x1 := Hf.out.cell 1; have x2 := Hf.out.cell 2; simp only [List.getElem?_toArray, List.getElem?_cons_zero, List.getElem?_cons_succ] at x0 x1 x2; replace Hf := Lib.hid (Hf.out.alloc (.cells #[.int .i64 a, .int .i64 b, .int .i64 d] 23)); replace HB := Lib.hid (HB.out.alloc HB.out.size (.cells #[.int .i64 a, .int .i64 b, .int .i64 d] 23)); replace HLr := Lib.hid (dReads_on HLr.out ((Below.refl _ _).alloc (Nat.le_refl _) (.cells #[.int .i64 a, .int .i64 b, .int .i64 d] 23))))
    | (go_at_call 14; (with_reducible refine (P3.out _ HLr.out).mono ?_); rintro e w9 ⟨rfl, hb⟩; replace Hf := Lib.hid (Hf.out.below hb Hf.out.lt); replace HB := Lib.hid (HB.out.trans (hb.mono HB.out.size)); replace HLr := Lib.hid (dReads_on HLr.out hb); clear hb P3)
    | (go_at_call 10; (with_reducible refine (P6.out _).mono ?_); rintro e w9 ⟨rfl, hb⟩; replace Hf := Lib.hid (Hf.out.below hb Hf.out.lt); replace HB := Lib.hid (HB.out.trans (hb.mono HB.out.size)); replace HLr := Lib.hid (dReads_on HLr.out hb); clear hb P6; replace Hf := Lib.hid (Hf.out.alloc (.cells #[.int .i64 x, .int .i64 y, .int .i64 z] 23)); replace HB := Lib.hid (HB.out.alloc HB.out.size (.cells #[.int .i64 x, .int .i64 y, .int .i64 z] 23)); replace HLr := Lib.hid (dReads_on HLr.out ((Below.refl _ _).alloc (Nat.le_refl _) (.cells #[.int .i64 x, .int .i64 y, .int .i64 z] 23))))
    | (go_at_call 8; (with_reducible refine (P7.out _).mono ?_); rintro e w9 ⟨rfl, hb⟩; replace Hf := Lib.hid (Hf.out.below hb Hf.out.lt); replace HB := Lib.hid (HB.out.trans (hb.mono HB.out.size)); replace HLr := Lib.hid (dReads_on HLr.out hb); clear hb P7)
    | (go_at_call 16; (with_reducible refine (P8.out _).mono ?_); rintro e w9 ⟨A8, c8, rfl, -, hr8, hb⟩; replace Hf := Lib.hid (Hf.out.below hb Hf.out.lt); replace HB := Lib.hid (HB.out.trans (hb.mono HB.out.size)); replace HLr := Lib.hid (dReads_on HLr.out hb); have HR8 := Lib.hid hr8; clear hr8 hb P8)
    | (go_at_call 14; (with_reducible refine (P9.out _ _ _ HR8.out).mono ?_); rintro e w9 ⟨rfl, hb⟩; replace Hf := Lib.hid (Hf.out.below hb Hf.out.lt); replace HB := Lib.hid (HB.out.trans (hb.mono HB.out.size)); replace HLr := Lib.hid (dReads_on HLr.out hb); clear hb P9)
    | (go_at_call 7; refine (awake21_any _).mono ?_; rintro e w9 ⟨rfl, hb⟩; replace HB := Lib.hid (HB.out.trans (hb.mono HB.out.size)); clear hb)
    | fail)
  go_ret
  exact ⟨rfl, HB.out⟩
set_option maxRecDepth 100000 in
set_option maxHeartbeats 16000000 in
theorem headBack_1010 (h : Hd) (l : List Mt) (A : Option Addr) (c : Nat) (s : List UInt8) (w : World) (hl : l.length ≤ maxLen) (hr : Reads w w.heap.size 7 A l.length (dcs mtc l)) (h1 : l.length ≤ 1200) (h2 : s.length ≤ 5000) (k1 : hdok h = true) (k2 : ¬ hrow l = true) (k3 : (hgetF s).2 = 0) (k4 : ¬ (hgfF s).2 = 0) : Calls Try.prog 5 #[.agg (hdc h), .slice A l.length c, .string ⟨s.toArray⟩] w fun e w' => e = .returned (.bool true) ∧ Below w.heap.size w w' := by
  have hi : ¬ (1200 : Int) < (l.length : Int) := by omega
  have hj : ¬ (5000 : Int) < (s.length : Int) := by omega
  have P1 := fun W => p_hput_any h W
  rw [show hputF h = ((hl3 h).flatMap putB, 0) from if_pos k1] at P1
  have P2 := fun W => p_hget_any ((hl3 h).flatMap putB) W (by have := hflat_le (hl3 h); have e : (hl3 h).length = 3 := rfl; omega)
  rw [hget_put k1] at P2
  generalize (hl3 h).flatMap putB = tB at *
  have P3 := fun W (hW : Reads W W.heap.size 7 A l.length (dcs mtc l)) => p_hpf_any l A l.length c W rfl (by omega) hW
  rw [show hpfF l = ([], 211) from if_neg k2] at P3
  have P6 := fun W => p_hget_any s W (by omega)
  have P7 := fun W => p_hput_any (hgetF s).1 W
  rw [hput_get k3] at P7
  have P8 := fun W => p_hgf_any s W (by omega)
  unfold HMP at P8
  generalize hgetF s = R6 at *
  obtain ⟨⟨x, y, z⟩, e6⟩ := R6
  generalize hgfF s = R8 at *
  obtain ⟨m8, e8⟩ := R8
  dsimp only at k3 k4 P7 P8
  subst k3
  have g8 : ((e8 : Int) == 0) = false := by rw [beq_eq_false_iff_ne]; exact k4
  obtain ⟨a, b, d⟩ := h
  unfold hdc at P1 P2 P6 P7 ⊢
  dsimp only at P1 P2 P6 P7 ⊢
  replace P1 := Lib.hid P1
  replace P2 := Lib.hid P2
  replace P3 := Lib.hid P3
  replace P6 := Lib.hid P6
  replace P7 := Lib.hid P7
  replace P8 := Lib.hid P8
  have Hf := Lib.hid (Blk.new w 23 #[.int .i64 a, .int .i64 b, .int .i64 d])
  have HB := Lib.hid ((Below.refl w.heap.size w).alloc (Nat.le_refl _) (.cells #[.int .i64 a, .int .i64 b, .int .i64 d] 23))
  have HLr := Lib.hid (dReads_on hr HB.out)
  have heq := fun W => hh_equal a b d W
  have hgu := hh_guard
  have hss : (s != s) = false := by simp
  generalize l.length = n at *
  clear hr hl h1 h2 k1 k2
  go_enter Try.func5, Try.ntmps5
  go_wp2_with (first
    | (go_at_call 8; (with_reducible refine (P1.out _).mono ?_); rintro e w9 ⟨rfl, hb⟩; replace Hf := Lib.hid (Hf.out.below hb Hf.out.lt); replace HB := Lib.hid (HB.out.trans (hb.mono HB.out.size)); replace HLr := Lib.hid (dReads_on HLr.out hb); clear hb P1; have hlt := Hf.out.lt; have x0 := Hf.out.cell 0; have x1 := Hf.out.cell 1; have x2 := Hf.out.cell 2; simp only [List.getElem?_toArray, List.getElem?_cons_zero, List.getElem?_cons_succ] at x0 x1 x2)
    | (go_at_call 10; (with_reducible refine (P2.out _).mono ?_); rintro e w9 ⟨rfl, hb⟩; clear x0 x1 x2 hlt; replace Hf := Lib.hid (Hf.out.below hb Hf.out.lt); replace HB := Lib.hid (HB.out.trans (hb.mono HB.out.size)); replace HLr := Lib.hid (dReads_on HLr.out hb); clear hb P2; have hlt := Hf.out.lt; have x0 := Hf.out.cell 0; have x1 := Hf.out.cell 1; have x2 := Hf.out.cell 2; simp only [List.getElem?_toArray, List.getElem?_cons_zero, List.getElem?_cons_succ] at x0 x1 x2; replace Hf := Lib.hid (Hf.out.alloc (.cells #[.int .i64 a, .int .i64 b, .int .i64 d] 23)); replace HB := Lib.hid (HB.out.alloc HB.out.size (.cells #[.int .i64 a, .int .i64 b, .int .i64 d] 23)); replace HLr := Lib.hid (dReads_on HLr.out ((Below.refl _ _).alloc (Nat.le_refl _) (.cells #[.int .i64 a, .int .i64 b, .int .i64 d] 23))))
    | (go_at_call 14; (with_reducible refine (P3.out _ HLr.out).mono ?_); rintro e w9 ⟨rfl, hb⟩; replace Hf := Lib.hid (Hf.out.below hb Hf.out.lt); replace HB := Lib.hid (HB.out.trans (hb.mono HB.out.size)); replace HLr := Lib.hid (dReads_on HLr.out hb); clear hb P3)
    | (go_at_call 10; (with_reducible refine (P6.out _).mono ?_); rintro e w9 ⟨rfl, hb⟩; replace Hf := Lib.hid (Hf.out.below hb Hf.out.lt); replace HB := Lib.hid (HB.out.trans (hb.mono HB.out.size)); replace HLr := Lib.hid (dReads_on HLr.out hb); clear hb P6; replace Hf := Lib.hid (Hf.out.alloc (.cells #[.int .i64 x, .int .i64 y, .int .i64 z] 23)); replace HB := Lib.hid (HB.out.alloc HB.out.size (.cells #[.int .i64 x, .int .i64 y, .int .i64 z] 23)); replace HLr := Lib.hid (dReads_on HLr.out ((Below.refl _ _).alloc (Nat.le_refl _) (.cells #[.int .i64 x, .int .i64 y, .int .i64 z] 23))))
    | (go_at_call 8; (with_reducible refine (P7.out _).mono ?_); rintro e w9 ⟨rfl, hb⟩; replace Hf := Lib.hid (Hf.out.below hb Hf.out.lt); replace HB := Lib.hid (HB.out.trans (hb.mono HB.out.size)); replace HLr := Lib.hid (dReads_on HLr.out hb); clear hb P7)
    | (go_at_call 16; (with_reducible refine (P8.out _).mono ?_); rintro e w9 ⟨A8, c8, rfl, -, hr8, hb⟩; replace Hf := Lib.hid (Hf.out.below hb Hf.out.lt); replace HB := Lib.hid (HB.out.trans (hb.mono HB.out.size)); replace HLr := Lib.hid (dReads_on HLr.out hb); have HR8 := Lib.hid hr8; clear hr8 hb P8)
    | (go_at_call 7; refine (awake21_any _).mono ?_; rintro e w9 ⟨rfl, hb⟩; replace HB := Lib.hid (HB.out.trans (hb.mono HB.out.size)); clear hb)
    | fail)
  go_ret
  exact ⟨rfl, HB.out⟩
set_option maxRecDepth 100000 in
set_option maxHeartbeats 16000000 in
theorem headBack_1001 (h : Hd) (l : List Mt) (A : Option Addr) (c : Nat) (s : List UInt8) (w : World) (hl : l.length ≤ maxLen) (hr : Reads w w.heap.size 7 A l.length (dcs mtc l)) (h1 : l.length ≤ 1200) (h2 : s.length ≤ 5000) (k1 : hdok h = true) (k2 : ¬ hrow l = true) (k3 : ¬ (hgetF s).2 = 0) (k4 : (hgfF s).2 = 0) : Calls Try.prog 5 #[.agg (hdc h), .slice A l.length c, .string ⟨s.toArray⟩] w fun e w' => e = .returned (.bool true) ∧ Below w.heap.size w w' := by
  have hi : ¬ (1200 : Int) < (l.length : Int) := by omega
  have hj : ¬ (5000 : Int) < (s.length : Int) := by omega
  have P1 := fun W => p_hput_any h W
  rw [show hputF h = ((hl3 h).flatMap putB, 0) from if_pos k1] at P1
  have P2 := fun W => p_hget_any ((hl3 h).flatMap putB) W (by have := hflat_le (hl3 h); have e : (hl3 h).length = 3 := rfl; omega)
  rw [hget_put k1] at P2
  generalize (hl3 h).flatMap putB = tB at *
  have P3 := fun W (hW : Reads W W.heap.size 7 A l.length (dcs mtc l)) => p_hpf_any l A l.length c W rfl (by omega) hW
  rw [show hpfF l = ([], 211) from if_neg k2] at P3
  have P6 := fun W => p_hget_any s W (by omega)
  have P8 := fun W => p_hgf_any s W (by omega)
  unfold HMP at P8
  have e8 := hpf_get k4
  have hrw : hrow (hgfF s).1 = true := by
    cases hq : hrow (hgfF s).1 with
    | true => rfl
    | false =>
      unfold hpfF at e8
      rw [if_neg (by rw [hq]; decide)] at e8
      injection e8 with _ e8
      cases e8
  have P9 := fun W A' c' (q1 : Reads W W.heap.size 7 A' (hgfF s).1.length (dcs mtc (hgfF s).1)) => p_hpf_any (hgfF s).1 A' (hgfF s).1.length c' W rfl (by have := ((hrow_iff _).1 hrw).1; omega) q1
  rw [e8] at P9
  clear e8 hrw
  generalize hgetF s = R6 at *
  obtain ⟨⟨x, y, z⟩, e6⟩ := R6
  generalize hgfF s = R8 at *
  obtain ⟨m8, e8⟩ := R8
  dsimp only at k3 k4 P8 P9
  have g6 : ((e6 : Int) == 0) = false := by rw [beq_eq_false_iff_ne]; exact k3
  subst k4
  obtain ⟨a, b, d⟩ := h
  unfold hdc at P1 P2 P6 ⊢
  dsimp only at P1 P2 P6 ⊢
  replace P1 := Lib.hid P1
  replace P2 := Lib.hid P2
  replace P3 := Lib.hid P3
  replace P6 := Lib.hid P6
  replace P8 := Lib.hid P8
  replace P9 := Lib.hid P9
  have Hf := Lib.hid (Blk.new w 23 #[.int .i64 a, .int .i64 b, .int .i64 d])
  have HB := Lib.hid ((Below.refl w.heap.size w).alloc (Nat.le_refl _) (.cells #[.int .i64 a, .int .i64 b, .int .i64 d] 23))
  have HLr := Lib.hid (dReads_on hr HB.out)
  have heq := fun W => hh_equal a b d W
  have hgu := hh_guard
  have hss : (s != s) = false := by simp
  generalize l.length = n at *
  clear hr hl h1 h2 k1 k2
  go_enter Try.func5, Try.ntmps5
  go_wp2_with (first
    | (go_at_call 8; (with_reducible refine (P1.out _).mono ?_); rintro e w9 ⟨rfl, hb⟩; replace Hf := Lib.hid (Hf.out.below hb Hf.out.lt); replace HB := Lib.hid (HB.out.trans (hb.mono HB.out.size)); replace HLr := Lib.hid (dReads_on HLr.out hb); clear hb P1; have hlt := Hf.out.lt; have x0 := Hf.out.cell 0; have x1 := Hf.out.cell 1; have x2 := Hf.out.cell 2; simp only [List.getElem?_toArray, List.getElem?_cons_zero, List.getElem?_cons_succ] at x0 x1 x2)
    | (go_at_call 10; (with_reducible refine (P2.out _).mono ?_); rintro e w9 ⟨rfl, hb⟩; clear x0 x1 x2 hlt; replace Hf := Lib.hid (Hf.out.below hb Hf.out.lt); replace HB := Lib.hid (HB.out.trans (hb.mono HB.out.size)); replace HLr := Lib.hid (dReads_on HLr.out hb); clear hb P2; have hlt := Hf.out.lt; have x0 := Hf.out.cell 0; have x1 := Hf.out.cell 1; have x2 := Hf.out.cell 2; simp only [List.getElem?_toArray, List.getElem?_cons_zero, List.getElem?_cons_succ] at x0 x1 x2; replace Hf := Lib.hid (Hf.out.alloc (.cells #[.int .i64 a, .int .i64 b, .int .i64 d] 23)); replace HB := Lib.hid (HB.out.alloc HB.out.size (.cells #[.int .i64 a, .int .i64 b, .int .i64 d] 23)); replace HLr := Lib.hid (dReads_on HLr.out ((Below.refl _ _).alloc (Nat.le_refl _) (.cells #[.int .i64 a, .int .i64 b, .int .i64 d] 23))))
    | (go_at_call 14; (with_reducible refine (P3.out _ HLr.out).mono ?_); rintro e w9 ⟨rfl, hb⟩; replace Hf := Lib.hid (Hf.out.below hb Hf.out.lt); replace HB := Lib.hid (HB.out.trans (hb.mono HB.out.size)); replace HLr := Lib.hid (dReads_on HLr.out hb); clear hb P3)
    | (go_at_call 10; (with_reducible refine (P6.out _).mono ?_); rintro e w9 ⟨rfl, hb⟩; replace Hf := Lib.hid (Hf.out.below hb Hf.out.lt); replace HB := Lib.hid (HB.out.trans (hb.mono HB.out.size)); replace HLr := Lib.hid (dReads_on HLr.out hb); clear hb P6; replace Hf := Lib.hid (Hf.out.alloc (.cells #[.int .i64 x, .int .i64 y, .int .i64 z] 23)); replace HB := Lib.hid (HB.out.alloc HB.out.size (.cells #[.int .i64 x, .int .i64 y, .int .i64 z] 23)); replace HLr := Lib.hid (dReads_on HLr.out ((Below.refl _ _).alloc (Nat.le_refl _) (.cells #[.int .i64 x, .int .i64 y, .int .i64 z] 23))))
    | (go_at_call 16; (with_reducible refine (P8.out _).mono ?_); rintro e w9 ⟨A8, c8, rfl, -, hr8, hb⟩; replace Hf := Lib.hid (Hf.out.below hb Hf.out.lt); replace HB := Lib.hid (HB.out.trans (hb.mono HB.out.size)); replace HLr := Lib.hid (dReads_on HLr.out hb); have HR8 := Lib.hid hr8; clear hr8 hb P8)
    | (go_at_call 14; (with_reducible refine (P9.out _ _ _ HR8.out).mono ?_); rintro e w9 ⟨rfl, hb⟩; replace Hf := Lib.hid (Hf.out.below hb Hf.out.lt); replace HB := Lib.hid (HB.out.trans (hb.mono HB.out.size)); replace HLr := Lib.hid (dReads_on HLr.out hb); clear hb P9)
    | (go_at_call 7; refine (awake21_any _).mono ?_; rintro e w9 ⟨rfl, hb⟩; replace HB := Lib.hid (HB.out.trans (hb.mono HB.out.size)); clear hb)
    | fail)
  go_ret
  exact ⟨rfl, HB.out⟩
set_option maxRecDepth 100000 in
set_option maxHeartbeats 16000000 in
theorem headBack_1000 (h : Hd) (l : List Mt) (A : Option Addr) (c : Nat) (s : List UInt8) (w : World) (hl : l.length ≤ maxLen) (hr : Reads w w.heap.size 7 A l.length (dcs mtc l)) (h1 : l.length ≤ 1200) (h2 : s.length ≤ 5000) (k1 : hdok h = true) (k2 : ¬ hrow l = true) (k3 : ¬ (hgetF s).2 = 0) (k4 : ¬ (hgfF s).2 = 0) : Calls Try.prog 5 #[.agg (hdc h), .slice A l.length c, .string ⟨s.toArray⟩] w fun e w' => e = .returned (.bool true) ∧ Below w.heap.size w w' := by
  have hi : ¬ (1200 : Int) < (l.length : Int) := by omega
  have hj : ¬ (5000 : Int) < (s.length : Int) := by omega
  have P1 := fun W => p_hput_any h W
  rw [show hputF h = ((hl3 h).flatMap putB, 0) from if_pos k1] at P1
  have P2 := fun W => p_hget_any ((hl3 h).flatMap putB) W (by have := hflat_le (hl3 h); have e : (hl3 h).length = 3 := rfl; omega)
  rw [hget_put k1] at P2
  generalize (hl3 h).flatMap putB = tB at *
  have P3 := fun W (hW : Reads W W.heap.size 7 A l.length (dcs mtc l)) => p_hpf_any l A l.length c W rfl (by omega) hW
  rw [show hpfF l = ([], 211) from if_neg k2] at P3
  have P6 := fun W => p_hget_any s W (by omega)
  have P8 := fun W => p_hgf_any s W (by omega)
  unfold HMP at P8
  generalize hgetF s = R6 at *
  obtain ⟨⟨x, y, z⟩, e6⟩ := R6
  generalize hgfF s = R8 at *
  obtain ⟨m8, e8⟩ := R8
  dsimp only at k3 k4 P8
  have g6 : ((e6 : Int) == 0) = false := by rw [beq_eq_false_iff_ne]; exact k3
  have g8 : ((e8 : Int) == 0) = false := by rw [beq_eq_false_iff_ne]; exact k4
  obtain ⟨a, b, d⟩ := h
  unfold hdc at P1 P2 P6 ⊢
  dsimp only at P1 P2 P6 ⊢
  replace P1 := Lib.hid P1
  replace P2 := Lib.hid P2
  replace P3 := Lib.hid P3
  replace P6 := Lib.hid P6
  replace P8 := Lib.hid P8
  have Hf := Lib.hid (Blk.new w 23 #[.int .i64 a, .int .i64 b, .int .i64 d])
  have HB := Lib.hid ((Below.refl w.heap.size w).alloc (Nat.le_refl _) (.cells #[.int .i64 a, .int .i64 b, .int .i64 d] 23))
  have HLr := Lib.hid (dReads_on hr HB.out)
  have heq := fun W => hh_equal a b d W
  have hgu := hh_guard
  have hss : (s != s) = false := by simp
  generalize l.length = n at *
  clear hr hl h1 h2 k1 k2
  go_enter Try.func5, Try.ntmps5
  go_wp2_with (first
    | (go_at_call 8; (with_reducible refine (P1.out _).mono ?_); rintro e w9 ⟨rfl, hb⟩; replace Hf := Lib.hid (Hf.out.below hb Hf.out.lt); replace HB := Lib.hid (HB.out.trans (hb.mono HB.out.size)); replace HLr := Lib.hid (dReads_on HLr.out hb); clear hb P1; have hlt := Hf.out.lt; have x0 := Hf.out.cell 0; have x1 := Hf.out.cell 1; have x2 := Hf.out.cell 2; simp only [List.getElem?_toArray, List.getElem?_cons_zero, List.getElem?_cons_succ] at x0 x1 x2)
    | (go_at_call 10; (with_reducible refine (P2.out _).mono ?_); rintro e w9 ⟨rfl, hb⟩; clear x0 x1 x2 hlt; replace Hf := Lib.hid (Hf.out.below hb Hf.out.lt); replace HB := Lib.hid (HB.out.trans (hb.mono HB.out.size)); replace HLr := Lib.hid (dReads_on HLr.out hb); clear hb P2; have hlt := Hf.out.lt; have x0 := Hf.out.cell 0; have x1 := Hf.out.cell 1; have x2 := Hf.out.cell 2; simp only [List.getElem?_toArray, List.getElem?_cons_zero, List.getElem?_cons_succ] at x0 x1 x2; replace Hf := Lib.hid (Hf.out.alloc (.cells #[.int .i64 a, .int .i64 b, .int .i64 d] 23)); replace HB := Lib.hid (HB.out.alloc HB.out.size (.cells #[.int .i64 a, .int .i64 b, .int .i64 d] 23)); replace HLr := Lib.hid (dReads_on HLr.out ((Below.refl _ _).alloc (Nat.le_refl _) (.cells #[.int .i64 a, .int .i64 b, .int .i64 d] 23))))
    | (go_at_call 14; (with_reducible refine (P3.out _ HLr.out).mono ?_); rintro e w9 ⟨rfl, hb⟩; replace Hf := Lib.hid (Hf.out.below hb Hf.out.lt); replace HB := Lib.hid (HB.out.trans (hb.mono HB.out.size)); replace HLr := Lib.hid (dReads_on HLr.out hb); clear hb P3)
    | (go_at_call 10; (with_reducible refine (P6.out _).mono ?_); rintro e w9 ⟨rfl, hb⟩; replace Hf := Lib.hid (Hf.out.below hb Hf.out.lt); replace HB := Lib.hid (HB.out.trans (hb.mono HB.out.size)); replace HLr := Lib.hid (dReads_on HLr.out hb); clear hb P6; replace Hf := Lib.hid (Hf.out.alloc (.cells #[.int .i64 x, .int .i64 y, .int .i64 z] 23)); replace HB := Lib.hid (HB.out.alloc HB.out.size (.cells #[.int .i64 x, .int .i64 y, .int .i64 z] 23)); replace HLr := Lib.hid (dReads_on HLr.out ((Below.refl _ _).alloc (Nat.le_refl _) (.cells #[.int .i64 x, .int .i64 y, .int .i64 z] 23))))
    | (go_at_call 16; (with_reducible refine (P8.out _).mono ?_); rintro e w9 ⟨A8, c8, rfl, -, hr8, hb⟩; replace Hf := Lib.hid (Hf.out.below hb Hf.out.lt); replace HB := Lib.hid (HB.out.trans (hb.mono HB.out.size)); replace HLr := Lib.hid (dReads_on HLr.out hb); have HR8 := Lib.hid hr8; clear hr8 hb P8)
    | (go_at_call 7; refine (awake21_any _).mono ?_; rintro e w9 ⟨rfl, hb⟩; replace HB := Lib.hid (HB.out.trans (hb.mono HB.out.size)); clear hb)
    | fail)
  go_ret
  exact ⟨rfl, HB.out⟩
set_option maxRecDepth 100000 in
set_option maxHeartbeats 16000000 in
theorem headBack_0111 (h : Hd) (l : List Mt) (A : Option Addr) (c : Nat) (s : List UInt8) (w : World) (hl : l.length ≤ maxLen) (hr : Reads w w.heap.size 7 A l.length (dcs mtc l)) (h1 : l.length ≤ 1200) (h2 : s.length ≤ 5000) (k1 : ¬ hdok h = true) (k2 : hrow l = true) (k3 : (hgetF s).2 = 0) (k4 : (hgfF s).2 = 0) : Calls Try.prog 5 #[.agg (hdc h), .slice A l.length c, .string ⟨s.toArray⟩] w fun e w' => e = .returned (.bool true) ∧ Below w.heap.size w w' := by
  have hi : ¬ (1200 : Int) < (l.length : Int) := by omega
  have hj : ¬ (5000 : Int) < (s.length : Int) := by omega
  have P1 := fun W => p_hput_any h W
  rw [show hputF h = ([], 210) from if_neg k1] at P1
  have P3 := fun W (hW : Reads W W.heap.size 7 A l.length (dcs mtc l)) => p_hpf_any l A l.length c W rfl (by omega) hW
  rw [show hpfF l = (hfB l, 0) from if_pos k2] at P3
  have P4 := fun W => p_hgf_any (hfB l) W (by
    have e1 := hmfl_le l
    have e2 := hflat_le [(l.length : Int)]
    unfold hfB
    rw [List.length_append]
    simp at e2
    omega)
  rw [hgf_put k2] at P4
  unfold HMP at P4
  have P5 := fun W A' c' (q1 : Reads W W.heap.size 7 A' l.length (dcs mtc l)) (q2 : Reads W W.heap.size 7 A l.length (dcs mtc l)) => href_same_yes l A' A c' c W (by omega) q1 q2
  generalize hfB l = fB at *
  have P6 := fun W => p_hget_any s W (by omega)
  have P7 := fun W => p_hput_any (hgetF s).1 W
  rw [hput_get k3] at P7
  have P8 := fun W => p_hgf_any s W (by omega)
  unfold HMP at P8
  have e8 := hpf_get k4
  have hrw : hrow (hgfF s).1 = true := by
    cases hq : hrow (hgfF s).1 with
    | true => rfl
    | false =>
      unfold hpfF at e8
      rw [if_neg (by rw [hq]; decide)] at e8
      injection e8 with _ e8
      cases e8
  have P9 := fun W A' c' (q1 : Reads W W.heap.size 7 A' (hgfF s).1.length (dcs mtc (hgfF s).1)) => p_hpf_any (hgfF s).1 A' (hgfF s).1.length c' W rfl (by have := ((hrow_iff _).1 hrw).1; omega) q1
  rw [e8] at P9
  clear e8 hrw
  generalize hgetF s = R6 at *
  obtain ⟨⟨x, y, z⟩, e6⟩ := R6
  generalize hgfF s = R8 at *
  obtain ⟨m8, e8⟩ := R8
  dsimp only at k3 k4 P7 P8 P9
  subst k3
  subst k4
  obtain ⟨a, b, d⟩ := h
  unfold hdc at P1 P6 P7 ⊢
  dsimp only at P1 P6 P7 ⊢
  replace P1 := Lib.hid P1
  replace P3 := Lib.hid P3
  replace P4 := Lib.hid P4
  replace P5 := Lib.hid P5
  replace P6 := Lib.hid P6
  replace P7 := Lib.hid P7
  replace P8 := Lib.hid P8
  replace P9 := Lib.hid P9
  have Hf := Lib.hid (Blk.new w 23 #[.int .i64 a, .int .i64 b, .int .i64 d])
  have HB := Lib.hid ((Below.refl w.heap.size w).alloc (Nat.le_refl _) (.cells #[.int .i64 a, .int .i64 b, .int .i64 d] 23))
  have HLr := Lib.hid (dReads_on hr HB.out)
  have heq := fun W => hh_equal a b d W
  have hgu := hh_guard
  have hss : (s != s) = false := by simp
  generalize l.length = n at *
  clear hr hl h1 h2 k1 k2
  go_enter Try.func5, Try.ntmps5
  go_wp2_with (first
    | (go_at_call 8; (with_reducible refine (P1.out _).mono ?_); rintro e w9 ⟨rfl, hb⟩; replace Hf := Lib.hid (Hf.out.below hb Hf.out.lt); replace HB := Lib.hid (HB.out.trans (hb.mono HB.out.size)); replace HLr := Lib.hid (dReads_on HLr.out hb); clear hb P1; have hlt := Hf.out.lt; have x0 := Hf.out.cell 0; have x1 := Hf.out.cell 1; have x2 := Hf.out.cell 2; simp only [List.getElem?_toArray, List.getElem?_cons_zero, List.getElem?_cons_succ] at x0 x1 x2)
    | (go_at_call 14; (with_reducible refine (P3.out _ HLr.out).mono ?_); rintro e w9 ⟨rfl, hb⟩; replace Hf := Lib.hid (Hf.out.below hb Hf.out.lt); replace HB := Lib.hid (HB.out.trans (hb.mono HB.out.size)); replace HLr := Lib.hid (dReads_on HLr.out hb); clear hb P3)
    | (go_at_call 16; (with_reducible refine (P4.out _).mono ?_); rintro e w9 ⟨A4, c4, rfl, -, hr4, hb⟩; replace Hf := Lib.hid (Hf.out.below hb Hf.out.lt); replace HB := Lib.hid (HB.out.trans (hb.mono HB.out.size)); replace HLr := Lib.hid (dReads_on HLr.out hb); have HR4 := Lib.hid hr4; clear hr4 hb P4)
    | (go_at_call 22; (with_reducible refine (P5.out _ _ _ HR4.out HLr.out).mono ?_); rintro e w9 ⟨rfl, hb⟩; replace Hf := Lib.hid (Hf.out.below hb Hf.out.lt); replace HB := Lib.hid (HB.out.trans (hb.mono HB.out.size)); replace HLr := Lib.hid (dReads_on HLr.out hb); clear hb P5 HR4)
    | (go_at_call 10; (with_reducible refine (P6.out _).mono ?_); rintro e w9 ⟨rfl, hb⟩; replace Hf := Lib.hid (Hf.out.below hb Hf.out.lt); replace HB := Lib.hid (HB.out.trans (hb.mono HB.out.size)); replace HLr := Lib.hid (dReads_on HLr.out hb); clear hb P6; replace Hf := Lib.hid (Hf.out.alloc (.cells #[.int .i64 x, .int .i64 y, .int .i64 z] 23)); replace HB := Lib.hid (HB.out.alloc HB.out.size (.cells #[.int .i64 x, .int .i64 y, .int .i64 z] 23)); replace HLr := Lib.hid (dReads_on HLr.out ((Below.refl _ _).alloc (Nat.le_refl _) (.cells #[.int .i64 x, .int .i64 y, .int .i64 z] 23))))
    | (go_at_call 8; (with_reducible refine (P7.out _).mono ?_); rintro e w9 ⟨rfl, hb⟩; replace Hf := Lib.hid (Hf.out.below hb Hf.out.lt); replace HB := Lib.hid (HB.out.trans (hb.mono HB.out.size)); replace HLr := Lib.hid (dReads_on HLr.out hb); clear hb P7)
    | (go_at_call 16; (with_reducible refine (P8.out _).mono ?_); rintro e w9 ⟨A8, c8, rfl, -, hr8, hb⟩; replace Hf := Lib.hid (Hf.out.below hb Hf.out.lt); replace HB := Lib.hid (HB.out.trans (hb.mono HB.out.size)); replace HLr := Lib.hid (dReads_on HLr.out hb); have HR8 := Lib.hid hr8; clear hr8 hb P8)
    | (go_at_call 14; (with_reducible refine (P9.out _ _ _ HR8.out).mono ?_); rintro e w9 ⟨rfl, hb⟩; replace Hf := Lib.hid (Hf.out.below hb Hf.out.lt); replace HB := Lib.hid (HB.out.trans (hb.mono HB.out.size)); replace HLr := Lib.hid (dReads_on HLr.out hb); clear hb P9)
    | (go_at_call 7; refine (awake21_any _).mono ?_; rintro e w9 ⟨rfl, hb⟩; replace HB := Lib.hid (HB.out.trans (hb.mono HB.out.size)); clear hb)
    | fail)
  go_ret
  exact ⟨rfl, HB.out⟩
set_option maxRecDepth 100000 in
set_option maxHeartbeats 16000000 in
theorem headBack_0110 (h : Hd) (l : List Mt) (A : Option Addr) (c : Nat) (s : List UInt8) (w : World) (hl : l.length ≤ maxLen) (hr : Reads w w.heap.size 7 A l.length (dcs mtc l)) (h1 : l.length ≤ 1200) (h2 : s.length ≤ 5000) (k1 : ¬ hdok h = true) (k2 : hrow l = true) (k3 : (hgetF s).2 = 0) (k4 : ¬ (hgfF s).2 = 0) : Calls Try.prog 5 #[.agg (hdc h), .slice A l.length c, .string ⟨s.toArray⟩] w fun e w' => e = .returned (.bool true) ∧ Below w.heap.size w w' := by
  have hi : ¬ (1200 : Int) < (l.length : Int) := by omega
  have hj : ¬ (5000 : Int) < (s.length : Int) := by omega
  have P1 := fun W => p_hput_any h W
  rw [show hputF h = ([], 210) from if_neg k1] at P1
  have P3 := fun W (hW : Reads W W.heap.size 7 A l.length (dcs mtc l)) => p_hpf_any l A l.length c W rfl (by omega) hW
  rw [show hpfF l = (hfB l, 0) from if_pos k2] at P3
  have P4 := fun W => p_hgf_any (hfB l) W (by
    have e1 := hmfl_le l
    have e2 := hflat_le [(l.length : Int)]
    unfold hfB
    rw [List.length_append]
    simp at e2
    omega)
  rw [hgf_put k2] at P4
  unfold HMP at P4
  have P5 := fun W A' c' (q1 : Reads W W.heap.size 7 A' l.length (dcs mtc l)) (q2 : Reads W W.heap.size 7 A l.length (dcs mtc l)) => href_same_yes l A' A c' c W (by omega) q1 q2
  generalize hfB l = fB at *
  have P6 := fun W => p_hget_any s W (by omega)
  have P7 := fun W => p_hput_any (hgetF s).1 W
  rw [hput_get k3] at P7
  have P8 := fun W => p_hgf_any s W (by omega)
  unfold HMP at P8
  generalize hgetF s = R6 at *
  obtain ⟨⟨x, y, z⟩, e6⟩ := R6
  generalize hgfF s = R8 at *
  obtain ⟨m8, e8⟩ := R8
  dsimp only at k3 k4 P7 P8
  subst k3
  have g8 : ((e8 : Int) == 0) = false := by rw [beq_eq_false_iff_ne]; exact k4
  obtain ⟨a, b, d⟩ := h
  unfold hdc at P1 P6 P7 ⊢
  dsimp only at P1 P6 P7 ⊢
  replace P1 := Lib.hid P1
  replace P3 := Lib.hid P3
  replace P4 := Lib.hid P4
  replace P5 := Lib.hid P5
  replace P6 := Lib.hid P6
  replace P7 := Lib.hid P7
  replace P8 := Lib.hid P8
  have Hf := Lib.hid (Blk.new w 23 #[.int .i64 a, .int .i64 b, .int .i64 d])
  have HB := Lib.hid ((Below.refl w.heap.size w).alloc (Nat.le_refl _) (.cells #[.int .i64 a, .int .i64 b, .int .i64 d] 23))
  have HLr := Lib.hid (dReads_on hr HB.out)
  have heq := fun W => hh_equal a b d W
  have hgu := hh_guard
  have hss : (s != s) = false := by simp
  generalize l.length = n at *
  clear hr hl h1 h2 k1 k2
  go_enter Try.func5, Try.ntmps5
  go_wp2_with (first
    | (go_at_call 8; (with_reducible refine (P1.out _).mono ?_); rintro e w9 ⟨rfl, hb⟩; replace Hf := Lib.hid (Hf.out.below hb Hf.out.lt); replace HB := Lib.hid (HB.out.trans (hb.mono HB.out.size)); replace HLr := Lib.hid (dReads_on HLr.out hb); clear hb P1; have hlt := Hf.out.lt; have x0 := Hf.out.cell 0; have x1 := Hf.out.cell 1; have x2 := Hf.out.cell 2; simp only [List.getElem?_toArray, List.getElem?_cons_zero, List.getElem?_cons_succ] at x0 x1 x2)
    | (go_at_call 14; (with_reducible refine (P3.out _ HLr.out).mono ?_); rintro e w9 ⟨rfl, hb⟩; replace Hf := Lib.hid (Hf.out.below hb Hf.out.lt); replace HB := Lib.hid (HB.out.trans (hb.mono HB.out.size)); replace HLr := Lib.hid (dReads_on HLr.out hb); clear hb P3)
    | (go_at_call 16; (with_reducible refine (P4.out _).mono ?_); rintro e w9 ⟨A4, c4, rfl, -, hr4, hb⟩; replace Hf := Lib.hid (Hf.out.below hb Hf.out.lt); replace HB := Lib.hid (HB.out.trans (hb.mono HB.out.size)); replace HLr := Lib.hid (dReads_on HLr.out hb); have HR4 := Lib.hid hr4; clear hr4 hb P4)
    | (go_at_call 22; (with_reducible refine (P5.out _ _ _ HR4.out HLr.out).mono ?_); rintro e w9 ⟨rfl, hb⟩; replace Hf := Lib.hid (Hf.out.below hb Hf.out.lt); replace HB := Lib.hid (HB.out.trans (hb.mono HB.out.size)); replace HLr := Lib.hid (dReads_on HLr.out hb); clear hb P5 HR4)
    | (go_at_call 10; (with_reducible refine (P6.out _).mono ?_); rintro e w9 ⟨rfl, hb⟩; replace Hf := Lib.hid (Hf.out.below hb Hf.out.lt); replace HB := Lib.hid (HB.out.trans (hb.mono HB.out.size)); replace HLr := Lib.hid (dReads_on HLr.out hb); clear hb P6; replace Hf := Lib.hid (Hf.out.alloc (.cells #[.int .i64 x, .int .i64 y, .int .i64 z] 23)); replace HB := Lib.hid (HB.out.alloc HB.out.size (.cells #[.int .i64 x, .int .i64 y, .int .i64 z] 23)); replace HLr := Lib.hid (dReads_on HLr.out ((Below.refl _ _).alloc (Nat.le_refl _) (.cells #[.int .i64 x, .int .i64 y, .int .i64 z] 23))))
    | (go_at_call 8; (with_reducible refine (P7.out _).mono ?_); rintro e w9 ⟨rfl, hb⟩; replace Hf := Lib.hid (Hf.out.below hb Hf.out.lt); replace HB := Lib.hid (HB.out.trans (hb.mono HB.out.size)); replace HLr := Lib.hid (dReads_on HLr.out hb); clear hb P7)
    | (go_at_call 16; (with_reducible refine (P8.out _).mono ?_); rintro e w9 ⟨A8, c8, rfl, -, hr8, hb⟩; replace Hf := Lib.hid (Hf.out.below hb Hf.out.lt); replace HB := Lib.hid (HB.out.trans (hb.mono HB.out.size)); replace HLr := Lib.hid (dReads_on HLr.out hb); have HR8 := Lib.hid hr8; clear hr8 hb P8)
    | (go_at_call 7; refine (awake21_any _).mono ?_; rintro e w9 ⟨rfl, hb⟩; replace HB := Lib.hid (HB.out.trans (hb.mono HB.out.size)); clear hb)
    | fail)
  go_ret
  exact ⟨rfl, HB.out⟩
set_option maxRecDepth 100000 in
set_option maxHeartbeats 16000000 in
theorem headBack_0101 (h : Hd) (l : List Mt) (A : Option Addr) (c : Nat) (s : List UInt8) (w : World) (hl : l.length ≤ maxLen) (hr : Reads w w.heap.size 7 A l.length (dcs mtc l)) (h1 : l.length ≤ 1200) (h2 : s.length ≤ 5000) (k1 : ¬ hdok h = true) (k2 : hrow l = true) (k3 : ¬ (hgetF s).2 = 0) (k4 : (hgfF s).2 = 0) : Calls Try.prog 5 #[.agg (hdc h), .slice A l.length c, .string ⟨s.toArray⟩] w fun e w' => e = .returned (.bool true) ∧ Below w.heap.size w w' := by
  have hi : ¬ (1200 : Int) < (l.length : Int) := by omega
  have hj : ¬ (5000 : Int) < (s.length : Int) := by omega
  have P1 := fun W => p_hput_any h W
  rw [show hputF h = ([], 210) from if_neg k1] at P1
  have P3 := fun W (hW : Reads W W.heap.size 7 A l.length (dcs mtc l)) => p_hpf_any l A l.length c W rfl (by omega) hW
  rw [show hpfF l = (hfB l, 0) from if_pos k2] at P3
  have P4 := fun W => p_hgf_any (hfB l) W (by
    have e1 := hmfl_le l
    have e2 := hflat_le [(l.length : Int)]
    unfold hfB
    rw [List.length_append]
    simp at e2
    omega)
  rw [hgf_put k2] at P4
  unfold HMP at P4
  have P5 := fun W A' c' (q1 : Reads W W.heap.size 7 A' l.length (dcs mtc l)) (q2 : Reads W W.heap.size 7 A l.length (dcs mtc l)) => href_same_yes l A' A c' c W (by omega) q1 q2
  generalize hfB l = fB at *
  have P6 := fun W => p_hget_any s W (by omega)
  have P8 := fun W => p_hgf_any s W (by omega)
  unfold HMP at P8
  have e8 := hpf_get k4
  have hrw : hrow (hgfF s).1 = true := by
    cases hq : hrow (hgfF s).1 with
    | true => rfl
    | false =>
      unfold hpfF at e8
      rw [if_neg (by rw [hq]; decide)] at e8
      injection e8 with _ e8
      cases e8
  have P9 := fun W A' c' (q1 : Reads W W.heap.size 7 A' (hgfF s).1.length (dcs mtc (hgfF s).1)) => p_hpf_any (hgfF s).1 A' (hgfF s).1.length c' W rfl (by have := ((hrow_iff _).1 hrw).1; omega) q1
  rw [e8] at P9
  clear e8 hrw
  generalize hgetF s = R6 at *
  obtain ⟨⟨x, y, z⟩, e6⟩ := R6
  generalize hgfF s = R8 at *
  obtain ⟨m8, e8⟩ := R8
  dsimp only at k3 k4 P8 P9
  have g6 : ((e6 : Int) == 0) = false := by rw [beq_eq_false_iff_ne]; exact k3
  subst k4
  obtain ⟨a, b, d⟩ := h
  unfold hdc at P1 P6 ⊢
  dsimp only at P1 P6 ⊢
  replace P1 := Lib.hid P1
  replace P3 := Lib.hid P3
  replace P4 := Lib.hid P4
  replace P5 := Lib.hid P5
  replace P6 := Lib.hid P6
  replace P8 := Lib.hid P8
  replace P9 := Lib.hid P9
  have Hf := Lib.hid (Blk.new w 23 #[.int .i64 a, .int .i64 b, .int .i64 d])
  have HB := Lib.hid ((Below.refl w.heap.size w).alloc (Nat.le_refl _) (.cells #[.int .i64 a, .int .i64 b, .int .i64 d] 23))
  have HLr := Lib.hid (dReads_on hr HB.out)
  have heq := fun W => hh_equal a b d W
  have hgu := hh_guard
  have hss : (s != s) = false := by simp
  generalize l.length = n at *
  clear hr hl h1 h2 k1 k2
  go_enter Try.func5, Try.ntmps5
  go_wp2_with (first
    | (go_at_call 8; (with_reducible refine (P1.out _).mono ?_); rintro e w9 ⟨rfl, hb⟩; replace Hf := Lib.hid (Hf.out.below hb Hf.out.lt); replace HB := Lib.hid (HB.out.trans (hb.mono HB.out.size)); replace HLr := Lib.hid (dReads_on HLr.out hb); clear hb P1; have hlt := Hf.out.lt; have x0 := Hf.out.cell 0; have x1 := Hf.out.cell 1; have x2 := Hf.out.cell 2; simp only [List.getElem?_toArray, List.getElem?_cons_zero, List.getElem?_cons_succ] at x0 x1 x2)
    | (go_at_call 14; (with_reducible refine (P3.out _ HLr.out).mono ?_); rintro e w9 ⟨rfl, hb⟩; replace Hf := Lib.hid (Hf.out.below hb Hf.out.lt); replace HB := Lib.hid (HB.out.trans (hb.mono HB.out.size)); replace HLr := Lib.hid (dReads_on HLr.out hb); clear hb P3)
    | (go_at_call 16; (with_reducible refine (P4.out _).mono ?_); rintro e w9 ⟨A4, c4, rfl, -, hr4, hb⟩; replace Hf := Lib.hid (Hf.out.below hb Hf.out.lt); replace HB := Lib.hid (HB.out.trans (hb.mono HB.out.size)); replace HLr := Lib.hid (dReads_on HLr.out hb); have HR4 := Lib.hid hr4; clear hr4 hb P4)
    | (go_at_call 22; (with_reducible refine (P5.out _ _ _ HR4.out HLr.out).mono ?_); rintro e w9 ⟨rfl, hb⟩; replace Hf := Lib.hid (Hf.out.below hb Hf.out.lt); replace HB := Lib.hid (HB.out.trans (hb.mono HB.out.size)); replace HLr := Lib.hid (dReads_on HLr.out hb); clear hb P5 HR4)
    | (go_at_call 10; (with_reducible refine (P6.out _).mono ?_); rintro e w9 ⟨rfl, hb⟩; replace Hf := Lib.hid (Hf.out.below hb Hf.out.lt); replace HB := Lib.hid (HB.out.trans (hb.mono HB.out.size)); replace HLr := Lib.hid (dReads_on HLr.out hb); clear hb P6; replace Hf := Lib.hid (Hf.out.alloc (.cells #[.int .i64 x, .int .i64 y, .int .i64 z] 23)); replace HB := Lib.hid (HB.out.alloc HB.out.size (.cells #[.int .i64 x, .int .i64 y, .int .i64 z] 23)); replace HLr := Lib.hid (dReads_on HLr.out ((Below.refl _ _).alloc (Nat.le_refl _) (.cells #[.int .i64 x, .int .i64 y, .int .i64 z] 23))))
    | (go_at_call 16; (with_reducible refine (P8.out _).mono ?_); rintro e w9 ⟨A8, c8, rfl, -, hr8, hb⟩; replace Hf := Lib.hid (Hf.out.below hb Hf.out.lt); replace HB := Lib.hid (HB.out.trans (hb.mono HB.out.size)); replace HLr := Lib.hid (dReads_on HLr.out hb); have HR8 := Lib.hid hr8; clear hr8 hb P8)
    | (go_at_call 14; (with_reducible refine (P9.out _ _ _ HR8.out).mono ?_); rintro e w9 ⟨rfl, hb⟩; replace Hf := Lib.hid (Hf.out.below hb Hf.out.lt); replace HB := Lib.hid (HB.out.trans (hb.mono HB.out.size)); replace HLr := Lib.hid (dReads_on HLr.out hb); clear hb P9)
    | (go_at_call 7; refine (awake21_any _).mono ?_; rintro e w9 ⟨rfl, hb⟩; replace HB := Lib.hid (HB.out.trans (hb.mono HB.out.size)); clear hb)
    | fail)
  go_ret
  exact ⟨rfl, HB.out⟩
set_option maxRecDepth 100000 in
set_option maxHeartbeats 16000000 in
theorem headBack_0100 (h : Hd) (l : List Mt) (A : Option Addr) (c : Nat) (s : List UInt8) (w : World) (hl : l.length ≤ maxLen) (hr : Reads w w.heap.size 7 A l.length (dcs mtc l)) (h1 : l.length ≤ 1200) (h2 : s.length ≤ 5000) (k1 : ¬ hdok h = true) (k2 : hrow l = true) (k3 : ¬ (hgetF s).2 = 0) (k4 : ¬ (hgfF s).2 = 0) : Calls Try.prog 5 #[.agg (hdc h), .slice A l.length c, .string ⟨s.toArray⟩] w fun e w' => e = .returned (.bool true) ∧ Below w.heap.size w w' := by
  have hi : ¬ (1200 : Int) < (l.length : Int) := by omega
  have hj : ¬ (5000 : Int) < (s.length : Int) := by omega
  have P1 := fun W => p_hput_any h W
  rw [show hputF h = ([], 210) from if_neg k1] at P1
  have P3 := fun W (hW : Reads W W.heap.size 7 A l.length (dcs mtc l)) => p_hpf_any l A l.length c W rfl (by omega) hW
  rw [show hpfF l = (hfB l, 0) from if_pos k2] at P3
  have P4 := fun W => p_hgf_any (hfB l) W (by
    have e1 := hmfl_le l
    have e2 := hflat_le [(l.length : Int)]
    unfold hfB
    rw [List.length_append]
    simp at e2
    omega)
  rw [hgf_put k2] at P4
  unfold HMP at P4
  have P5 := fun W A' c' (q1 : Reads W W.heap.size 7 A' l.length (dcs mtc l)) (q2 : Reads W W.heap.size 7 A l.length (dcs mtc l)) => href_same_yes l A' A c' c W (by omega) q1 q2
  generalize hfB l = fB at *
  have P6 := fun W => p_hget_any s W (by omega)
  have P8 := fun W => p_hgf_any s W (by omega)
  unfold HMP at P8
  generalize hgetF s = R6 at *
  obtain ⟨⟨x, y, z⟩, e6⟩ := R6
  generalize hgfF s = R8 at *
  obtain ⟨m8, e8⟩ := R8
  dsimp only at k3 k4 P8
  have g6 : ((e6 : Int) == 0) = false := by rw [beq_eq_false_iff_ne]; exact k3
  have g8 : ((e8 : Int) == 0) = false := by rw [beq_eq_false_iff_ne]; exact k4
  obtain ⟨a, b, d⟩ := h
  unfold hdc at P1 P6 ⊢
  dsimp only at P1 P6 ⊢
  replace P1 := Lib.hid P1
  replace P3 := Lib.hid P3
  replace P4 := Lib.hid P4
  replace P5 := Lib.hid P5
  replace P6 := Lib.hid P6
  replace P8 := Lib.hid P8
  have Hf := Lib.hid (Blk.new w 23 #[.int .i64 a, .int .i64 b, .int .i64 d])
  have HB := Lib.hid ((Below.refl w.heap.size w).alloc (Nat.le_refl _) (.cells #[.int .i64 a, .int .i64 b, .int .i64 d] 23))
  have HLr := Lib.hid (dReads_on hr HB.out)
  have heq := fun W => hh_equal a b d W
  have hgu := hh_guard
  have hss : (s != s) = false := by simp
  generalize l.length = n at *
  clear hr hl h1 h2 k1 k2
  go_enter Try.func5, Try.ntmps5
  go_wp2_with (first
    | (go_at_call 8; (with_reducible refine (P1.out _).mono ?_); rintro e w9 ⟨rfl, hb⟩; replace Hf := Lib.hid (Hf.out.below hb Hf.out.lt); replace HB := Lib.hid (HB.out.trans (hb.mono HB.out.size)); replace HLr := Lib.hid (dReads_on HLr.out hb); clear hb P1; have hlt := Hf.out.lt; have x0 := Hf.out.cell 0; have x1 := Hf.out.cell 1; have x2 := Hf.out.cell 2; simp only [List.getElem?_toArray, List.getElem?_cons_zero, List.getElem?_cons_succ] at x0 x1 x2)
    | (go_at_call 14; (with_reducible refine (P3.out _ HLr.out).mono ?_); rintro e w9 ⟨rfl, hb⟩; replace Hf := Lib.hid (Hf.out.below hb Hf.out.lt); replace HB := Lib.hid (HB.out.trans (hb.mono HB.out.size)); replace HLr := Lib.hid (dReads_on HLr.out hb); clear hb P3)
    | (go_at_call 16; (with_reducible refine (P4.out _).mono ?_); rintro e w9 ⟨A4, c4, rfl, -, hr4, hb⟩; replace Hf := Lib.hid (Hf.out.below hb Hf.out.lt); replace HB := Lib.hid (HB.out.trans (hb.mono HB.out.size)); replace HLr := Lib.hid (dReads_on HLr.out hb); have HR4 := Lib.hid hr4; clear hr4 hb P4)
    | (go_at_call 22; (with_reducible refine (P5.out _ _ _ HR4.out HLr.out).mono ?_); rintro e w9 ⟨rfl, hb⟩; replace Hf := Lib.hid (Hf.out.below hb Hf.out.lt); replace HB := Lib.hid (HB.out.trans (hb.mono HB.out.size)); replace HLr := Lib.hid (dReads_on HLr.out hb); clear hb P5 HR4)
    | (go_at_call 10; (with_reducible refine (P6.out _).mono ?_); rintro e w9 ⟨rfl, hb⟩; replace Hf := Lib.hid (Hf.out.below hb Hf.out.lt); replace HB := Lib.hid (HB.out.trans (hb.mono HB.out.size)); replace HLr := Lib.hid (dReads_on HLr.out hb); clear hb P6; replace Hf := Lib.hid (Hf.out.alloc (.cells #[.int .i64 x, .int .i64 y, .int .i64 z] 23)); replace HB := Lib.hid (HB.out.alloc HB.out.size (.cells #[.int .i64 x, .int .i64 y, .int .i64 z] 23)); replace HLr := Lib.hid (dReads_on HLr.out ((Below.refl _ _).alloc (Nat.le_refl _) (.cells #[.int .i64 x, .int .i64 y, .int .i64 z] 23))))
    | (go_at_call 16; (with_reducible refine (P8.out _).mono ?_); rintro e w9 ⟨A8, c8, rfl, -, hr8, hb⟩; replace Hf := Lib.hid (Hf.out.below hb Hf.out.lt); replace HB := Lib.hid (HB.out.trans (hb.mono HB.out.size)); replace HLr := Lib.hid (dReads_on HLr.out hb); have HR8 := Lib.hid hr8; clear hr8 hb P8)
    | (go_at_call 7; refine (awake21_any _).mono ?_; rintro e w9 ⟨rfl, hb⟩; replace HB := Lib.hid (HB.out.trans (hb.mono HB.out.size)); clear hb)
    | fail)
  go_ret
  exact ⟨rfl, HB.out⟩
set_option maxRecDepth 100000 in
set_option maxHeartbeats 16000000 in
theorem headBack_0011 (h : Hd) (l : List Mt) (A : Option Addr) (c : Nat) (s : List UInt8) (w : World) (hl : l.length ≤ maxLen) (hr : Reads w w.heap.size 7 A l.length (dcs mtc l)) (h1 : l.length ≤ 1200) (h2 : s.length ≤ 5000) (k1 : ¬ hdok h = true) (k2 : ¬ hrow l = true) (k3 : (hgetF s).2 = 0) (k4 : (hgfF s).2 = 0) : Calls Try.prog 5 #[.agg (hdc h), .slice A l.length c, .string ⟨s.toArray⟩] w fun e w' => e = .returned (.bool true) ∧ Below w.heap.size w w' := by
  have hi : ¬ (1200 : Int) < (l.length : Int) := by omega
  have hj : ¬ (5000 : Int) < (s.length : Int) := by omega
  have P1 := fun W => p_hput_any h W
  rw [show hputF h = ([], 210) from if_neg k1] at P1
  have P3 := fun W (hW : Reads W W.heap.size 7 A l.length (dcs mtc l)) => p_hpf_any l A l.length c W rfl (by omega) hW
  rw [show hpfF l = ([], 211) from if_neg k2] at P3
  have P6 := fun W => p_hget_any s W (by omega)
  have P7 := fun W => p_hput_any (hgetF s).1 W
  rw [hput_get k3] at P7
  have P8 := fun W => p_hgf_any s W (by omega)
  unfold HMP at P8
  have e8 := hpf_get k4
  have hrw : hrow (hgfF s).1 = true := by
    cases hq : hrow (hgfF s).1 with
    | true => rfl
    | false =>
      unfold hpfF at e8
      rw [if_neg (by rw [hq]; decide)] at e8
      injection e8 with _ e8
      cases e8
  have P9 := fun W A' c' (q1 : Reads W W.heap.size 7 A' (hgfF s).1.length (dcs mtc (hgfF s).1)) => p_hpf_any (hgfF s).1 A' (hgfF s).1.length c' W rfl (by have := ((hrow_iff _).1 hrw).1; omega) q1
  rw [e8] at P9
  clear e8 hrw
  generalize hgetF s = R6 at *
  obtain ⟨⟨x, y, z⟩, e6⟩ := R6
  generalize hgfF s = R8 at *
  obtain ⟨m8, e8⟩ := R8
  dsimp only at k3 k4 P7 P8 P9
  subst k3
  subst k4
  obtain ⟨a, b, d⟩ := h
  unfold hdc at P1 P6 P7 ⊢
  dsimp only at P1 P6 P7 ⊢
  replace P1 := Lib.hid P1
  replace P3 := Lib.hid P3
  replace P6 := Lib.hid P6
  replace P7 := Lib.hid P7
  replace P8 := Lib.hid P8
  replace P9 := Lib.hid P9
  have Hf := Lib.hid (Blk.new w 23 #[.int .i64 a, .int .i64 b, .int .i64 d])
  have HB := Lib.hid ((Below.refl w.heap.size w).alloc (Nat.le_refl _) (.cells #[.int .i64 a, .int .i64 b, .int .i64 d] 23))
  have HLr := Lib.hid (dReads_on hr HB.out)
  have heq := fun W => hh_equal a b d W
  have hgu := hh_guard
  have hss : (s != s) = false := by simp
  generalize l.length = n at *
  clear hr hl h1 h2 k1 k2
  go_enter Try.func5, Try.ntmps5
  go_wp2_with (first
    | (go_at_call 8; (with_reducible refine (P1.out _).mono ?_); rintro e w9 ⟨rfl, hb⟩; replace Hf := Lib.hid (Hf.out.below hb Hf.out.lt); replace HB := Lib.hid (HB.out.trans (hb.mono HB.out.size)); replace HLr := Lib.hid (dReads_on HLr.out hb); clear hb P1; have hlt := Hf.out.lt; have x0 := Hf.out.cell 0; have x1 := Hf.out.cell 1; have x2 := Hf.out.cell 2; simp only [List.getElem?_toArray, List.getElem?_cons_zero, List.getElem?_cons_succ] at x0 x1 x2)
    | (go_at_call 14; (with_reducible refine (P3.out _ HLr.out).mono ?_); rintro e w9 ⟨rfl, hb⟩; replace Hf := Lib.hid (Hf.out.below hb Hf.out.lt); replace HB := Lib.hid (HB.out.trans (hb.mono HB.out.size)); replace HLr := Lib.hid (dReads_on HLr.out hb); clear hb P3)
    | (go_at_call 10; (with_reducible refine (P6.out _).mono ?_); rintro e w9 ⟨rfl, hb⟩; replace Hf := Lib.hid (Hf.out.below hb Hf.out.lt); replace HB := Lib.hid (HB.out.trans (hb.mono HB.out.size)); replace HLr := Lib.hid (dReads_on HLr.out hb); clear hb P6; replace Hf := Lib.hid (Hf.out.alloc (.cells #[.int .i64 x, .int .i64 y, .int .i64 z] 23)); replace HB := Lib.hid (HB.out.alloc HB.out.size (.cells #[.int .i64 x, .int .i64 y, .int .i64 z] 23)); replace HLr := Lib.hid (dReads_on HLr.out ((Below.refl _ _).alloc (Nat.le_refl _) (.cells #[.int .i64 x, .int .i64 y, .int .i64 z] 23))))
    | (go_at_call 8; (with_reducible refine (P7.out _).mono ?_); rintro e w9 ⟨rfl, hb⟩; replace Hf := Lib.hid (Hf.out.below hb Hf.out.lt); replace HB := Lib.hid (HB.out.trans (hb.mono HB.out.size)); replace HLr := Lib.hid (dReads_on HLr.out hb); clear hb P7)
    | (go_at_call 16; (with_reducible refine (P8.out _).mono ?_); rintro e w9 ⟨A8, c8, rfl, -, hr8, hb⟩; replace Hf := Lib.hid (Hf.out.below hb Hf.out.lt); replace HB := Lib.hid (HB.out.trans (hb.mono HB.out.size)); replace HLr := Lib.hid (dReads_on HLr.out hb); have HR8 := Lib.hid hr8; clear hr8 hb P8)
    | (go_at_call 14; (with_reducible refine (P9.out _ _ _ HR8.out).mono ?_); rintro e w9 ⟨rfl, hb⟩; replace Hf := Lib.hid (Hf.out.below hb Hf.out.lt); replace HB := Lib.hid (HB.out.trans (hb.mono HB.out.size)); replace HLr := Lib.hid (dReads_on HLr.out hb); clear hb P9)
    | (go_at_call 7; refine (awake21_any _).mono ?_; rintro e w9 ⟨rfl, hb⟩; replace HB := Lib.hid (HB.out.trans (hb.mono HB.out.size)); clear hb)
    | fail)
  go_ret
  exact ⟨rfl, HB.out⟩
set_option maxRecDepth 100000 in
set_option maxHeartbeats 16000000 in
theorem headBack_0010 (h : Hd) (l : List Mt) (A : Option Addr) (c : Nat) (s : List UInt8) (w : World) (hl : l.length ≤ maxLen) (hr : Reads w w.heap.size 7 A l.length (dcs mtc l)) (h1 : l.length ≤ 1200) (h2 : s.length ≤ 5000) (k1 : ¬ hdok h = true) (k2 : ¬ hrow l = true) (k3 : (hgetF s).2 = 0) (k4 : ¬ (hgfF s).2 = 0) : Calls Try.prog 5 #[.agg (hdc h), .slice A l.length c, .string ⟨s.toArray⟩] w fun e w' => e = .returned (.bool true) ∧ Below w.heap.size w w' := by
  have hi : ¬ (1200 : Int) < (l.length : Int) := by omega
  have hj : ¬ (5000 : Int) < (s.length : Int) := by omega
  have P1 := fun W => p_hput_any h W
  rw [show hputF h = ([], 210) from if_neg k1] at P1
  have P3 := fun W (hW : Reads W W.heap.size 7 A l.length (dcs mtc l)) => p_hpf_any l A l.length c W rfl (by omega) hW
  rw [show hpfF l = ([], 211) from if_neg k2] at P3
  have P6 := fun W => p_hget_any s W (by omega)
  have P7 := fun W => p_hput_any (hgetF s).1 W
  rw [hput_get k3] at P7
  have P8 := fun W => p_hgf_any s W (by omega)
  unfold HMP at P8
  generalize hgetF s = R6 at *
  obtain ⟨⟨x, y, z⟩, e6⟩ := R6
  generalize hgfF s = R8 at *
  obtain ⟨m8, e8⟩ := R8
  dsimp only at k3 k4 P7 P8
  subst k3
  have g8 : ((e8 : Int) == 0) = false := by rw [beq_eq_false_iff_ne]; exact k4
  obtain ⟨a, b, d⟩ := h
  unfold hdc at P1 P6 P7 ⊢
  dsimp only at P1 P6 P7 ⊢
  replace P1 := Lib.hid P1
  replace P3 := Lib.hid P3
  replace P6 := Lib.hid P6
  replace P7 := Lib.hid P7
  replace P8 := Lib.hid P8
  have Hf := Lib.hid (Blk.new w 23 #[.int .i64 a, .int .i64 b, .int .i64 d])
  have HB := Lib.hid ((Below.refl w.heap.size w).alloc (Nat.le_refl _) (.cells #[.int .i64 a, .int .i64 b, .int .i64 d] 23))
  have HLr := Lib.hid (dReads_on hr HB.out)
  have heq := fun W => hh_equal a b d W
  have hgu := hh_guard
  have hss : (s != s) = false := by simp
  generalize l.length = n at *
  clear hr hl h1 h2 k1 k2
  go_enter Try.func5, Try.ntmps5
  go_wp2_with (first
    | (go_at_call 8; (with_reducible refine (P1.out _).mono ?_); rintro e w9 ⟨rfl, hb⟩; replace Hf := Lib.hid (Hf.out.below hb Hf.out.lt); replace HB := Lib.hid (HB.out.trans (hb.mono HB.out.size)); replace HLr := Lib.hid (dReads_on HLr.out hb); clear hb P1; have hlt := Hf.out.lt; have x0 := Hf.out.cell 0; have x1 := Hf.out.cell 1; have x2 := Hf.out.cell 2; simp only [List.getElem?_toArray, List.getElem?_cons_zero, List.getElem?_cons_succ] at x0 x1 x2)
    | (go_at_call 14; (with_reducible refine (P3.out _ HLr.out).mono ?_); rintro e w9 ⟨rfl, hb⟩; replace Hf := Lib.hid (Hf.out.below hb Hf.out.lt); replace HB := Lib.hid (HB.out.trans (hb.mono HB.out.size)); replace HLr := Lib.hid (dReads_on HLr.out hb); clear hb P3)
    | (go_at_call 10; (with_reducible refine (P6.out _).mono ?_); rintro e w9 ⟨rfl, hb⟩; replace Hf := Lib.hid (Hf.out.below hb Hf.out.lt); replace HB := Lib.hid (HB.out.trans (hb.mono HB.out.size)); replace HLr := Lib.hid (dReads_on HLr.out hb); clear hb P6; replace Hf := Lib.hid (Hf.out.alloc (.cells #[.int .i64 x, .int .i64 y, .int .i64 z] 23)); replace HB := Lib.hid (HB.out.alloc HB.out.size (.cells #[.int .i64 x, .int .i64 y, .int .i64 z] 23)); replace HLr := Lib.hid (dReads_on HLr.out ((Below.refl _ _).alloc (Nat.le_refl _) (.cells #[.int .i64 x, .int .i64 y, .int .i64 z] 23))))
    | (go_at_call 8; (with_reducible refine (P7.out _).mono ?_); rintro e w9 ⟨rfl, hb⟩; replace Hf := Lib.hid (Hf.out.below hb Hf.out.lt); replace HB := Lib.hid (HB.out.trans (hb.mono HB.out.size)); replace HLr := Lib.hid (dReads_on HLr.out hb); clear hb P7)
    | (go_at_call 16; (with_reducible refine (P8.out _).mono ?_); rintro e w9 ⟨A8, c8, rfl, -, hr8, hb⟩; replace Hf := Lib.hid (Hf.out.below hb Hf.out.lt); replace HB := Lib.hid (HB.out.trans (hb.mono HB.out.size)); replace HLr := Lib.hid (dReads_on HLr.out hb); have HR8 := Lib.hid hr8; clear hr8 hb P8)
    | (go_at_call 7; refine (awake21_any _).mono ?_; rintro e w9 ⟨rfl, hb⟩; replace HB := Lib.hid (HB.out.trans (hb.mono HB.out.size)); clear hb)
    | fail)
  go_ret
  exact ⟨rfl, HB.out⟩
set_option maxRecDepth 100000 in
set_option maxHeartbeats 16000000 in
theorem headBack_0001 (h : Hd) (l : List Mt) (A : Option Addr) (c : Nat) (s : List UInt8) (w : World) (hl : l.length ≤ maxLen) (hr : Reads w w.heap.size 7 A l.length (dcs mtc l)) (h1 : l.length ≤ 1200) (h2 : s.length ≤ 5000) (k1 : ¬ hdok h = true) (k2 : ¬ hrow l = true) (k3 : ¬ (hgetF s).2 = 0) (k4 : (hgfF s).2 = 0) : Calls Try.prog 5 #[.agg (hdc h), .slice A l.length c, .string ⟨s.toArray⟩] w fun e w' => e = .returned (.bool true) ∧ Below w.heap.size w w' := by
  have hi : ¬ (1200 : Int) < (l.length : Int) := by omega
  have hj : ¬ (5000 : Int) < (s.length : Int) := by omega
  have P1 := fun W => p_hput_any h W
  rw [show hputF h = ([], 210) from if_neg k1] at P1
  have P3 := fun W (hW : Reads W W.heap.size 7 A l.length (dcs mtc l)) => p_hpf_any l A l.length c W rfl (by omega) hW
  rw [show hpfF l = ([], 211) from if_neg k2] at P3
  have P6 := fun W => p_hget_any s W (by omega)
  have P8 := fun W => p_hgf_any s W (by omega)
  unfold HMP at P8
  have e8 := hpf_get k4
  have hrw : hrow (hgfF s).1 = true := by
    cases hq : hrow (hgfF s).1 with
    | true => rfl
    | false =>
      unfold hpfF at e8
      rw [if_neg (by rw [hq]; decide)] at e8
      injection e8 with _ e8
      cases e8
  have P9 := fun W A' c' (q1 : Reads W W.heap.size 7 A' (hgfF s).1.length (dcs mtc (hgfF s).1)) => p_hpf_any (hgfF s).1 A' (hgfF s).1.length c' W rfl (by have := ((hrow_iff _).1 hrw).1; omega) q1
  rw [e8] at P9
  clear e8 hrw
  generalize hgetF s = R6 at *
  obtain ⟨⟨x, y, z⟩, e6⟩ := R6
  generalize hgfF s = R8 at *
  obtain ⟨m8, e8⟩ := R8
  dsimp only at k3 k4 P8 P9
  have g6 : ((e6 : Int) == 0) = false := by rw [beq_eq_false_iff_ne]; exact k3
  subst k4
  obtain ⟨a, b, d⟩ := h
  unfold hdc at P1 P6 ⊢
  dsimp only at P1 P6 ⊢
  replace P1 := Lib.hid P1
  replace P3 := Lib.hid P3
  replace P6 := Lib.hid P6
  replace P8 := Lib.hid P8
  replace P9 := Lib.hid P9
  have Hf := Lib.hid (Blk.new w 23 #[.int .i64 a, .int .i64 b, .int .i64 d])
  have HB := Lib.hid ((Below.refl w.heap.size w).alloc (Nat.le_refl _) (.cells #[.int .i64 a, .int .i64 b, .int .i64 d] 23))
  have HLr := Lib.hid (dReads_on hr HB.out)
  have heq := fun W => hh_equal a b d W
  have hgu := hh_guard
  have hss : (s != s) = false := by simp
  generalize l.length = n at *
  clear hr hl h1 h2 k1 k2
  go_enter Try.func5, Try.ntmps5
  go_wp2_with (first
    | (go_at_call 8; (with_reducible refine (P1.out _).mono ?_); rintro e w9 ⟨rfl, hb⟩; replace Hf := Lib.hid (Hf.out.below hb Hf.out.lt); replace HB := Lib.hid (HB.out.trans (hb.mono HB.out.size)); replace HLr := Lib.hid (dReads_on HLr.out hb); clear hb P1; have hlt := Hf.out.lt; have x0 := Hf.out.cell 0; have x1 := Hf.out.cell 1; have x2 := Hf.out.cell 2; simp only [List.getElem?_toArray, List.getElem?_cons_zero, List.getElem?_cons_succ] at x0 x1 x2)
    | (go_at_call 14; (with_reducible refine (P3.out _ HLr.out).mono ?_); rintro e w9 ⟨rfl, hb⟩; replace Hf := Lib.hid (Hf.out.below hb Hf.out.lt); replace HB := Lib.hid (HB.out.trans (hb.mono HB.out.size)); replace HLr := Lib.hid (dReads_on HLr.out hb); clear hb P3)
    | (go_at_call 10; (with_reducible refine (P6.out _).mono ?_); rintro e w9 ⟨rfl, hb⟩; replace Hf := Lib.hid (Hf.out.below hb Hf.out.lt); replace HB := Lib.hid (HB.out.trans (hb.mono HB.out.size)); replace HLr := Lib.hid (dReads_on HLr.out hb); clear hb P6; replace Hf := Lib.hid (Hf.out.alloc (.cells #[.int .i64 x, .int .i64 y, .int .i64 z] 23)); replace HB := Lib.hid (HB.out.alloc HB.out.size (.cells #[.int .i64 x, .int .i64 y, .int .i64 z] 23)); replace HLr := Lib.hid (dReads_on HLr.out ((Below.refl _ _).alloc (Nat.le_refl _) (.cells #[.int .i64 x, .int .i64 y, .int .i64 z] 23))))
    | (go_at_call 16; (with_reducible refine (P8.out _).mono ?_); rintro e w9 ⟨A8, c8, rfl, -, hr8, hb⟩; replace Hf := Lib.hid (Hf.out.below hb Hf.out.lt); replace HB := Lib.hid (HB.out.trans (hb.mono HB.out.size)); replace HLr := Lib.hid (dReads_on HLr.out hb); have HR8 := Lib.hid hr8; clear hr8 hb P8)
    | (go_at_call 14; (with_reducible refine (P9.out _ _ _ HR8.out).mono ?_); rintro e w9 ⟨rfl, hb⟩; replace Hf := Lib.hid (Hf.out.below hb Hf.out.lt); replace HB := Lib.hid (HB.out.trans (hb.mono HB.out.size)); replace HLr := Lib.hid (dReads_on HLr.out hb); clear hb P9)
    | (go_at_call 7; refine (awake21_any _).mono ?_; rintro e w9 ⟨rfl, hb⟩; replace HB := Lib.hid (HB.out.trans (hb.mono HB.out.size)); clear hb)
    | fail)
  go_ret
  exact ⟨rfl, HB.out⟩
set_option maxRecDepth 100000 in
set_option maxHeartbeats 16000000 in
theorem headBack_0000 (h : Hd) (l : List Mt) (A : Option Addr) (c : Nat) (s : List UInt8) (w : World) (hl : l.length ≤ maxLen) (hr : Reads w w.heap.size 7 A l.length (dcs mtc l)) (h1 : l.length ≤ 1200) (h2 : s.length ≤ 5000) (k1 : ¬ hdok h = true) (k2 : ¬ hrow l = true) (k3 : ¬ (hgetF s).2 = 0) (k4 : ¬ (hgfF s).2 = 0) : Calls Try.prog 5 #[.agg (hdc h), .slice A l.length c, .string ⟨s.toArray⟩] w fun e w' => e = .returned (.bool true) ∧ Below w.heap.size w w' := by
  have hi : ¬ (1200 : Int) < (l.length : Int) := by omega
  have hj : ¬ (5000 : Int) < (s.length : Int) := by omega
  have P1 := fun W => p_hput_any h W
  rw [show hputF h = ([], 210) from if_neg k1] at P1
  have P3 := fun W (hW : Reads W W.heap.size 7 A l.length (dcs mtc l)) => p_hpf_any l A l.length c W rfl (by omega) hW
  rw [show hpfF l = ([], 211) from if_neg k2] at P3
  have P6 := fun W => p_hget_any s W (by omega)
  have P8 := fun W => p_hgf_any s W (by omega)
  unfold HMP at P8
  generalize hgetF s = R6 at *
  obtain ⟨⟨x, y, z⟩, e6⟩ := R6
  generalize hgfF s = R8 at *
  obtain ⟨m8, e8⟩ := R8
  dsimp only at k3 k4 P8
  have g6 : ((e6 : Int) == 0) = false := by rw [beq_eq_false_iff_ne]; exact k3
  have g8 : ((e8 : Int) == 0) = false := by rw [beq_eq_false_iff_ne]; exact k4
  obtain ⟨a, b, d⟩ := h
  unfold hdc at P1 P6 ⊢
  dsimp only at P1 P6 ⊢
  replace P1 := Lib.hid P1
  replace P3 := Lib.hid P3
  replace P6 := Lib.hid P6
  replace P8 := Lib.hid P8
  have Hf := Lib.hid (Blk.new w 23 #[.int .i64 a, .int .i64 b, .int .i64 d])
  have HB := Lib.hid ((Below.refl w.heap.size w).alloc (Nat.le_refl _) (.cells #[.int .i64 a, .int .i64 b, .int .i64 d] 23))
  have HLr := Lib.hid (dReads_on hr HB.out)
  have heq := fun W => hh_equal a b d W
  have hgu := hh_guard
  have hss : (s != s) = false := by simp
  generalize l.length = n at *
  clear hr hl h1 h2 k1 k2
  go_enter Try.func5, Try.ntmps5
  go_wp2_with (first
    | (go_at_call 8; (with_reducible refine (P1.out _).mono ?_); rintro e w9 ⟨rfl, hb⟩; replace Hf := Lib.hid (Hf.out.below hb Hf.out.lt); replace HB := Lib.hid (HB.out.trans (hb.mono HB.out.size)); replace HLr := Lib.hid (dReads_on HLr.out hb); clear hb P1; have hlt := Hf.out.lt; have x0 := Hf.out.cell 0; have x1 := Hf.out.cell 1; have x2 := Hf.out.cell 2; simp only [List.getElem?_toArray, List.getElem?_cons_zero, List.getElem?_cons_succ] at x0 x1 x2)
    | (go_at_call 14; (with_reducible refine (P3.out _ HLr.out).mono ?_); rintro e w9 ⟨rfl, hb⟩; replace Hf := Lib.hid (Hf.out.below hb Hf.out.lt); replace HB := Lib.hid (HB.out.trans (hb.mono HB.out.size)); replace HLr := Lib.hid (dReads_on HLr.out hb); clear hb P3)
    | (go_at_call 10; (with_reducible refine (P6.out _).mono ?_); rintro e w9 ⟨rfl, hb⟩; replace Hf := Lib.hid (Hf.out.below hb Hf.out.lt); replace HB := Lib.hid (HB.out.trans (hb.mono HB.out.size)); replace HLr := Lib.hid (dReads_on HLr.out hb); clear hb P6; replace Hf := Lib.hid (Hf.out.alloc (.cells #[.int .i64 x, .int .i64 y, .int .i64 z] 23)); replace HB := Lib.hid (HB.out.alloc HB.out.size (.cells #[.int .i64 x, .int .i64 y, .int .i64 z] 23)); replace HLr := Lib.hid (dReads_on HLr.out ((Below.refl _ _).alloc (Nat.le_refl _) (.cells #[.int .i64 x, .int .i64 y, .int .i64 z] 23))))
    | (go_at_call 16; (with_reducible refine (P8.out _).mono ?_); rintro e w9 ⟨A8, c8, rfl, -, hr8, hb⟩; replace Hf := Lib.hid (Hf.out.below hb Hf.out.lt); replace HB := Lib.hid (HB.out.trans (hb.mono HB.out.size)); replace HLr := Lib.hid (dReads_on HLr.out hb); have HR8 := Lib.hid hr8; clear hr8 hb P8)
    | (go_at_call 7; refine (awake21_any _).mono ?_; rintro e w9 ⟨rfl, hb⟩; replace HB := Lib.hid (HB.out.trans (hb.mono HB.out.size)); clear hb)
    | fail)
  go_ret
  exact ⟨rfl, HB.out⟩
theorem headBack_walk (h : Hd) (l : List Mt) (A : Option Addr) (c : Nat) (s : List UInt8) (w : World) (hl : l.length ≤ maxLen) (hr : Reads w w.heap.size 7 A l.length (dcs mtc l)) : Calls Try.prog 5 #[.agg (hdc h), .slice A l.length c, .string ⟨s.toArray⟩] w fun e w' => e = .returned (.bool true) ∧ Below w.heap.size w w' := by
  by_cases h1 : 1200 < l.length
  · exact headBack_far h l A c s w hl hr (.inl h1)
  by_cases h2 : 5000 < s.length
  · exact headBack_far h l A c s w hl hr (.inr h2)
  have h3 : l.length ≤ 1200 := by omega
  have h4 : s.length ≤ 5000 := by omega
  by_cases k1 : hdok h = true <;> by_cases k2 : hrow l = true <;> by_cases k3 : (hgetF s).2 = 0 <;> by_cases k4 : (hgfF s).2 = 0
  · exact headBack_1111 h l A c s w hl hr h3 h4 k1 k2 k3 k4
  · exact headBack_1110 h l A c s w hl hr h3 h4 k1 k2 k3 k4
  · exact headBack_1101 h l A c s w hl hr h3 h4 k1 k2 k3 k4
  · exact headBack_1100 h l A c s w hl hr h3 h4 k1 k2 k3 k4
  · exact headBack_1011 h l A c s w hl hr h3 h4 k1 k2 k3 k4
  · exact headBack_1010 h l A c s w hl hr h3 h4 k1 k2 k3 k4
  · exact headBack_1001 h l A c s w hl hr h3 h4 k1 k2 k3 k4
  · exact headBack_1000 h l A c s w hl hr h3 h4 k1 k2 k3 k4
  · exact headBack_0111 h l A c s w hl hr h3 h4 k1 k2 k3 k4
  · exact headBack_0110 h l A c s w hl hr h3 h4 k1 k2 k3 k4
  · exact headBack_0101 h l A c s w hl hr h3 h4 k1 k2 k3 k4
  · exact headBack_0100 h l A c s w hl hr h3 h4 k1 k2 k3 k4
  · exact headBack_0011 h l A c s w hl hr h3 h4 k1 k2 k3 k4
  · exact headBack_0010 h l A c s w hl hr h3 h4 k1 k2 k3 k4
  · exact headBack_0001 h l A c s w hl hr h3 h4 k1 k2 k3 k4
  · exact headBack_0000 h l A c s w hl hr h3 h4 k1 k2 k3 k4
namespace HeadBack
set_option maxRecDepth 100000 in
theorem lifted (os : Os) (started : os.Started) (H : Type) (enc : TypeId × Value → H) :
    ReturnsInHanded {} Try.checked os 5 .any (Rows.headBackSpec.pre6 enc Try.prog Try.f5 Rows.headBackRow.domain false) (Rows.headBackSpec.post enc Try.prog Try.f5 false true false false) := by
  refine law_sized (C := Try.checked) (tb := 4) ownP started (by kernel_rfl) Try.func5
    (ChangeSpec.witness6 (enc := enc) (C := Try.checked) false ⟨#[], #[.agg #[.int .i64 0, .int .i64 0, .int .i64 0], .slice none 0 0, .string ⟨#[]⟩], []⟩ 8 (by kernel_rfl) (by kernel_rfl) (by kernel_rfl) (by kernel_rfl))
    laidP (by kernel_rfl) rfl (by kernel_rfl) Try.underlying4 (by intro ds h; match ds, h with | [_, _, _], _ => rfl) ?_
  intro W base args ds p hval0 hA0 hlt _
  have hval : ∀ (j : Nat) t v, Try.f5.params[j]? = some t → args[j]? = some v → Value.okWide Try.prog W .any base t v := hval0
  have hA : DataW.TrodAll enc Try.prog W 0 (fun _ => true) true Try.f5.params.toList args.toList ds p := hA0
  rw [Try.params5] at hA hval
  obtain ⟨v0, v1, v2, d0, d1, d2, p0, p1, p2, rfl, rfl, rfl, h0, h1, h2⟩ := trodAll_three hA
  obtain ⟨h, rfl⟩ := open_head (hval 0 23 v0 rfl rfl) h0
  obtain ⟨Al, l, cl, rfl, ml, -, rl⟩ := open_metas (hval 1 37 v1 rfl rfl) h1
  obtain ⟨s, rfl, rfl⟩ := open_bytes Try.underlying9 (hval 2 9 v2 rfl rfl) h2
  exact headBack_walk h l Al cl s W ml rl
theorem holds : Rows.HeadBackSaid :=
  OpenClaim.holds_of_wide 5 Try.f5 rfl rfl rfl rfl rfl rfl rfl ⟨rfl, rfl, rfl, rfl, rfl⟩ rfl rfl rfl rfl rfl (by kernel_rfl) Try.func5 (by kernel_rfl)
    (of_decide_eq_true (by kernel_rfl)) (by unfold Func.isWrapper; first | (rw [if_pos (by decide +kernel)]; kernel_rfl) | (rw [if_neg (by decide +kernel)]; exact ⟨rfl, rfl⟩))
    (fun os started H enc _ => lifted os started H enc)
end HeadBack
end Go.Proofs.Ytjodckinfoldgaa
