/-
  Segments' names may be, are in the order of their numbers, then of their generations, and none is the manifest's; the layer's probe holds (NameOne). No condition.
-/
import Derived.Test.YtmejcckbbcgmnaaDoorNamL2
import Derived.Test.YtmejcckbbcgmnaaDoorMore
import Derived.Laws.BitsLemmas
import Derived.Test.YtmejcckbbcgmnaaDoorRows
import Derived.Deep.MidRow
import Derived.Deep.WholeRow
import Derived.Laws.CopyOwn
import Derived.Laws.EntriesVeiled
import Derived.Deep.OwnRows
import Derived.Test.YtmejcckbbcgmnaaDoorLaid
import Derived.Laws.StructEq
namespace Go.Proofs.YtmejcckbbcgmnaaDoor
set_option linter.unusedSimpArgs false
set_option linter.unusedVariables false
open Go.ChangeShapes Go.WideShapes Go.ChangeAt Go.RowKit Go.Joins Go.Deep
theorem npair_equal (x0 x1 y0 y1 : Int) (w : World) : (Op.equalIn 10000 34 (.agg #[.int .i64 x0, .int .i64 x1]) (.agg #[.int .i64 y0, .int .i64 y1])).run Tryd.prog w = .ok (decide (x0 = y0 ∧ x1 = y1)) w := by
  have ht := Tryd.underlying34
  have he := Tryd.underlying3
  have hsz : ∀ w, (sizeOf 3).run Tryd.prog w = .ok 1 w := fun w => by simp [go_sem]
  have p0 : ∀ (a b : Int) (w : World), (part 3 #[.int .i64 a, .int .i64 b] (0 * 1)).run Tryd.prog w = .ok (.int .i64 a) w := fun a b w => by simp [part, isAgg, run_underlying he]
  have p1 : ∀ (a b : Int) (w : World), (part 3 #[.int .i64 a, .int .i64 b] (1 * 1)).run Tryd.prog w = .ok (.int .i64 b) w := fun a b w => by simp [part, isAgg, run_underlying he]
  have pe : ∀ (a b : Int) (w : World), (Op.equalIn 9999 3 (.int .i64 a) (.int .i64 b)).run Tryd.prog w = .ok (decide (a = b)) w := fun a b w => by
    rw [run_equalIn_int w 9998 3 .i64 .i64 _ _ he]
    by_cases h : a = b <;> simp [h]
  rw [Op.equalIn]
  simp only [Sem.run_bind, run_underlying ht, Result.andThen_ok, hsz, Std.Legacy.Range.forIn_eq_forIn_range', Std.Legacy.Range.size, Nat.sub_zero, Nat.add_sub_cancel, Nat.div_one]
  rw [show List.range' 0 2 1 = [0, 1] from rfl]
  by_cases h0 : x0 = y0 <;> by_cases h1 : x1 = y1 <;> simp only [List.forIn_cons, List.forIn_nil, Sem.run_bind, p0, p1, pe, h0, h1, Result.andThen_ok, decide_true, decide_false, Bool.not_true, Bool.not_false, Bool.false_eq_true, if_false, if_true, Sem.run_pure, and_self, and_true, and_false, false_and, true_and]
theorem npair_guard : Tryd.prog.eqGuardType Tryd.prog.depth 34 = false := by kernel_rfl
theorem nchk_temp : nchkF ntemp = 0 := by decide +kernel
set_option maxRecDepth 100000 in
set_option maxHeartbeats 4000000 in
theorem nameOne_no1 (a0 a1 b0 b1 : Int) (w : World) (ht : NTab w) (h1 : (nsegF a0 a1).2 ≠ 0) :
    Calls Tryd.prog 5 #[.agg #[.int .i64 a0, .int .i64 a1], .agg #[.int .i64 b0, .int .i64 b1]] w fun e w' => e = .returned (.bool true) ∧ Below w.heap.size w w' := by
  have Hb := Lib.hid (((Below.refl w.heap.size w).alloc (Nat.le_refl _) (.cells #[.int .i64 a0, .int .i64 a1] 34)).alloc (by simp) (.cells #[.int .i64 b0, .int .i64 b1] 34))
  have HA := Lib.hid ((Blk.new w 34 #[.int .i64 a0, .int .i64 a1]).alloc (.cells #[.int .i64 b0, .int .i64 b1] 34))
  have HC := Blk.new (w.alloc (.cells #[.int .i64 a0, .int .i64 a1] 34)) 34 #[.int .i64 b0, .int .i64 b1]
  rw [World.size_alloc] at HC
  replace HC := Lib.hid HC
  have HT := Lib.hid ht
  clear ht
  have P1 := fun W (hW : NTab W) => p_nseg_any a0 a1 W hW
  have P2 := fun W (hW : NTab W) => p_nseg_any b0 b1 W hW
  have q1 : ((nsegF a0 a1).2 != 0) = true := by rw [bne_iff_ne]; exact h1
  replace P1 := Lib.hid P1
  replace P2 := Lib.hid P2
  generalize (nsegF a0 a1).1 = X at *
  generalize (nsegF b0 b1).1 = Y at *
  generalize (nsegF a0 a1).2 = E at *
  generalize (nsegF b0 b1).2 = F at *
  go_enter Tryd.func5, Tryd.ntmps5
  go_wp2_with (first
    | (go_at_call 9; (with_reducible refine (P1.out _ (HT.out.of Hb.out)).mono ?_); rintro e w1 ⟨rfl, hb1⟩; replace HA := Lib.hid (HA.out.below hb1 HA.out.lt); replace HC := Lib.hid (HC.out.below hb1 HC.out.lt); have p10 : w1.cell? ⟨w.heap.size, 0, none⟩ = some (.int .i64 a0) := HA.out.cell 0; have p11 : w1.cell? ⟨w.heap.size, 1, none⟩ = some (.int .i64 a1) := HA.out.cell 1; have q10 : w1.cell? ⟨w.heap.size + 1, 0, none⟩ = some (.int .i64 b0) := HC.out.cell 0; have q11 : w1.cell? ⟨w.heap.size + 1, 1, none⟩ = some (.int .i64 b1) := HC.out.cell 1; replace Hb := Lib.hid (Hb.out.trans (hb1.mono Hb.out.size)); clear hb1; clear P1)
    | (go_at_call 9; (with_reducible refine (P2.out _ (HT.out.of Hb.out)).mono ?_); rintro e w2 ⟨rfl, hb2⟩; replace HA := Lib.hid (HA.out.below hb2 HA.out.lt); replace HC := Lib.hid (HC.out.below hb2 HC.out.lt); have p20 : w2.cell? ⟨w.heap.size, 0, none⟩ = some (.int .i64 a0) := HA.out.cell 0; have p21 : w2.cell? ⟨w.heap.size, 1, none⟩ = some (.int .i64 a1) := HA.out.cell 1; have q20 : w2.cell? ⟨w.heap.size + 1, 0, none⟩ = some (.int .i64 b0) := HC.out.cell 0; have q21 : w2.cell? ⟨w.heap.size + 1, 1, none⟩ = some (.int .i64 b1) := HC.out.cell 1; replace Hb := Lib.hid (Hb.out.trans (hb2.mono Hb.out.size)); clear hb2; clear P2)
    | (go_at_call 6; refine (awake18_any _ (HT.out.of Hb.out)).mono ?_; rintro e w9 ⟨rfl, hb9⟩; replace Hb := Lib.hid (Hb.out.trans (hb9.mono Hb.out.size)); clear hb9))
  go_ret
  exact ⟨rfl, Hb.out⟩
set_option maxRecDepth 100000 in
set_option maxHeartbeats 4000000 in
theorem nameOne_no2 (a0 a1 b0 b1 : Int) (w : World) (ht : NTab w) (h1 : (nsegF a0 a1).2 = 0) (h2 : (nsegF b0 b1).2 ≠ 0) :
    Calls Tryd.prog 5 #[.agg #[.int .i64 a0, .int .i64 a1], .agg #[.int .i64 b0, .int .i64 b1]] w fun e w' => e = .returned (.bool true) ∧ Below w.heap.size w w' := by
  have Hb := Lib.hid (((Below.refl w.heap.size w).alloc (Nat.le_refl _) (.cells #[.int .i64 a0, .int .i64 a1] 34)).alloc (by simp) (.cells #[.int .i64 b0, .int .i64 b1] 34))
  have HA := Lib.hid ((Blk.new w 34 #[.int .i64 a0, .int .i64 a1]).alloc (.cells #[.int .i64 b0, .int .i64 b1] 34))
  have HC := Blk.new (w.alloc (.cells #[.int .i64 a0, .int .i64 a1] 34)) 34 #[.int .i64 b0, .int .i64 b1]
  rw [World.size_alloc] at HC
  replace HC := Lib.hid HC
  have HT := Lib.hid ht
  clear ht
  have P1 := fun W (hW : NTab W) => p_nseg_any a0 a1 W hW
  have P2 := fun W (hW : NTab W) => p_nseg_any b0 b1 W hW
  have q1 : ((nsegF b0 b1).2 != 0) = true := by rw [bne_iff_ne]; exact h2
  rw [h1] at P1
  replace P1 := Lib.hid P1
  replace P2 := Lib.hid P2
  generalize (nsegF a0 a1).1 = X at *
  generalize (nsegF b0 b1).1 = Y at *
  generalize (nsegF a0 a1).2 = E at *
  generalize (nsegF b0 b1).2 = F at *
  go_enter Tryd.func5, Tryd.ntmps5
  go_wp2_with (first
    | (go_at_call 9; (with_reducible refine (P1.out _ (HT.out.of Hb.out)).mono ?_); rintro e w1 ⟨rfl, hb1⟩; replace HA := Lib.hid (HA.out.below hb1 HA.out.lt); replace HC := Lib.hid (HC.out.below hb1 HC.out.lt); have p10 : w1.cell? ⟨w.heap.size, 0, none⟩ = some (.int .i64 a0) := HA.out.cell 0; have p11 : w1.cell? ⟨w.heap.size, 1, none⟩ = some (.int .i64 a1) := HA.out.cell 1; have q10 : w1.cell? ⟨w.heap.size + 1, 0, none⟩ = some (.int .i64 b0) := HC.out.cell 0; have q11 : w1.cell? ⟨w.heap.size + 1, 1, none⟩ = some (.int .i64 b1) := HC.out.cell 1; replace Hb := Lib.hid (Hb.out.trans (hb1.mono Hb.out.size)); clear hb1; clear P1)
    | (go_at_call 9; (with_reducible refine (P2.out _ (HT.out.of Hb.out)).mono ?_); rintro e w2 ⟨rfl, hb2⟩; replace HA := Lib.hid (HA.out.below hb2 HA.out.lt); replace HC := Lib.hid (HC.out.below hb2 HC.out.lt); have p20 : w2.cell? ⟨w.heap.size, 0, none⟩ = some (.int .i64 a0) := HA.out.cell 0; have p21 : w2.cell? ⟨w.heap.size, 1, none⟩ = some (.int .i64 a1) := HA.out.cell 1; have q20 : w2.cell? ⟨w.heap.size + 1, 0, none⟩ = some (.int .i64 b0) := HC.out.cell 0; have q21 : w2.cell? ⟨w.heap.size + 1, 1, none⟩ = some (.int .i64 b1) := HC.out.cell 1; replace Hb := Lib.hid (Hb.out.trans (hb2.mono Hb.out.size)); clear hb2; clear P2)
    | (go_at_call 6; refine (awake18_any _ (HT.out.of Hb.out)).mono ?_; rintro e w9 ⟨rfl, hb9⟩; replace Hb := Lib.hid (Hb.out.trans (hb9.mono Hb.out.size)); clear hb9))
  go_ret
  exact ⟨rfl, Hb.out⟩
set_option maxRecDepth 100000 in
set_option maxHeartbeats 4000000 in
theorem nameOne_yes0 (p q r s : Nat) (hp : 1 ≤ p ∧ p ≤ 999999) (hq : 1 ≤ q ∧ q ≤ 999999) (hr : 1 ≤ r ∧ r ≤ 999999) (hs : 1 ≤ s ∧ s ≤ 999999) (w : World) (ht : NTab w) (h : p < r) :
    Calls Tryd.prog 5 #[.agg #[.int .i64 (p : Int), .int .i64 (q : Int)], .agg #[.int .i64 (r : Int), .int .i64 (s : Int)]] w fun e w' => e = .returned (.bool true) ∧ Below w.heap.size w w' := by
  have L1 : Op.bytesLess (nmB p q) (nmB r s) = true := by
    have hh := nlt_B p q r s hp.2 hq.2 hr.2 hs.2
    exact hh.2 (by omega)
  have L2 : (nmB p q == nmB r s) = false := by
    rw [beq_eq_false_iff_ne]; intro e; have := ninj_B p q r s hp.2 hq.2 hr.2 hs.2 e; omega
  have L3 : decide ((p : Int) = (r : Int) ∧ (q : Int) = (s : Int)) = false := by exact decide_eq_false (by omega)
  have f1 : (p : Int) < (r : Int) := by omega
  have Hb := Lib.hid (((Below.refl w.heap.size w).alloc (Nat.le_refl _) (.cells #[.int .i64 (p : Int), .int .i64 (q : Int)] 34)).alloc (by simp) (.cells #[.int .i64 (r : Int), .int .i64 (s : Int)] 34))
  have HA := Lib.hid ((Blk.new w 34 #[.int .i64 (p : Int), .int .i64 (q : Int)]).alloc (.cells #[.int .i64 (r : Int), .int .i64 (s : Int)] 34))
  have HC := Blk.new (w.alloc (.cells #[.int .i64 (p : Int), .int .i64 (q : Int)] 34)) 34 #[.int .i64 (r : Int), .int .i64 (s : Int)]
  rw [World.size_alloc] at HC
  replace HC := Lib.hid HC
  have E3 := fun W => npair_equal (p : Int) (q : Int) (r : Int) (s : Int) W
  rw [L3] at E3
  have E4 := npair_guard
  have HT := Lib.hid ht
  clear ht
  have P1 := fun W (hW : NTab W) => p_nseg_any (p : Int) (q : Int) W hW
  have P2 := fun W (hW : NTab W) => p_nseg_any (r : Int) (s : Int) W hW
  rw [nseg_of p q hp hq] at P1
  rw [nseg_of r s (by omega) (by omega)] at P2
  have P3 := fun W => p_nchk_any (nmB p q) W (by rw [nmB_len]; omega)
  rw [nchk_B] at P3
  have P4 := Lib.hid p_nmani_any
  have P5 := Lib.hid p_ntemp_any
  have P7 := Lib.hid p_ntemp_any
  have P6 := fun W => p_nchk_any ntemp W (by decide)
  rw [nchk_temp] at P6
  obtain ⟨m1, m2⟩ := nmB_mani p q
  have q1 : (nmB p q == [109, 97, 110, 105, 102, 101, 115, 116]) = false := by rw [beq_eq_false_iff_ne]; exact m1
  have q2 : (nmB p q == [109, 97, 110, 105, 102, 101, 115, 116, 46, 110, 101, 119]) = false := by rw [beq_eq_false_iff_ne]; exact m2
  unfold nmani at P4
  unfold ntemp at P5 P6 P7
  dsimp only at P1 P2
  replace P1 := Lib.hid P1
  replace P2 := Lib.hid P2
  replace P3 := Lib.hid P3
  replace P6 := Lib.hid P6
  clear m1 m2 L3
  generalize nmB r s = Y at *
  generalize nmB p q = X at *
  go_enter Tryd.func5, Tryd.ntmps5
  go_wp2_with (first
    | (go_at_call 9; (with_reducible refine (P1.out _ (HT.out.of Hb.out)).mono ?_); rintro e w1 ⟨rfl, hb1⟩; replace HA := Lib.hid (HA.out.below hb1 HA.out.lt); replace HC := Lib.hid (HC.out.below hb1 HC.out.lt); have p10 : w1.cell? ⟨w.heap.size, 0, none⟩ = some (.int .i64 (p : Int)) := HA.out.cell 0; have p11 : w1.cell? ⟨w.heap.size, 1, none⟩ = some (.int .i64 (q : Int)) := HA.out.cell 1; have q10 : w1.cell? ⟨w.heap.size + 1, 0, none⟩ = some (.int .i64 (r : Int)) := HC.out.cell 0; have q11 : w1.cell? ⟨w.heap.size + 1, 1, none⟩ = some (.int .i64 (s : Int)) := HC.out.cell 1; replace Hb := Lib.hid (Hb.out.trans (hb1.mono Hb.out.size)); clear hb1; clear P1)
    | (go_at_call 9; (with_reducible refine (P2.out _ (HT.out.of Hb.out)).mono ?_); rintro e w2 ⟨rfl, hb2⟩; replace HA := Lib.hid (HA.out.below hb2 HA.out.lt); replace HC := Lib.hid (HC.out.below hb2 HC.out.lt); have p20 : w2.cell? ⟨w.heap.size, 0, none⟩ = some (.int .i64 (p : Int)) := HA.out.cell 0; have p21 : w2.cell? ⟨w.heap.size, 1, none⟩ = some (.int .i64 (q : Int)) := HA.out.cell 1; have q20 : w2.cell? ⟨w.heap.size + 1, 0, none⟩ = some (.int .i64 (r : Int)) := HC.out.cell 0; have q21 : w2.cell? ⟨w.heap.size + 1, 1, none⟩ = some (.int .i64 (s : Int)) := HC.out.cell 1; replace Hb := Lib.hid (Hb.out.trans (hb2.mono Hb.out.size)); clear hb2; clear P2)
    | (go_at_call 11; (with_reducible refine (P3.out _).mono ?_); rintro e w3 ⟨rfl, hb3⟩; replace Hb := Lib.hid (Hb.out.trans (hb3.mono Hb.out.size)); clear hb3; clear P3)
    | (go_at_call 15; (with_reducible refine (P4.out _).mono ?_); rintro e w4 ⟨rfl, hb4⟩; replace Hb := Lib.hid (Hb.out.trans (hb4.mono Hb.out.size)); clear hb4; clear P4)
    | (go_at_call 16; (with_reducible refine (P5.out _).mono ?_); rintro e w5 ⟨rfl, hb5⟩; replace Hb := Lib.hid (Hb.out.trans (hb5.mono Hb.out.size)); clear hb5; clear P5)
    | (go_at_call 16; (with_reducible refine (P7.out _).mono ?_); rintro e w7 ⟨rfl, hb7⟩; replace Hb := Lib.hid (Hb.out.trans (hb7.mono Hb.out.size)); clear hb7; clear P7)
    | (go_at_call 11; (with_reducible refine (P6.out _).mono ?_); rintro e w6 ⟨rfl, hb6⟩; replace Hb := Lib.hid (Hb.out.trans (hb6.mono Hb.out.size)); clear hb6; clear P6)
    | (go_at_call 6; refine (awake18_any _ (HT.out.of Hb.out)).mono ?_; rintro e w9 ⟨rfl, hb9⟩; replace Hb := Lib.hid (Hb.out.trans (hb9.mono Hb.out.size)); clear hb9))
  go_ret
  exact ⟨rfl, Hb.out⟩
set_option maxRecDepth 100000 in
set_option maxHeartbeats 4000000 in
theorem nameOne_yes1 (p q r s : Nat) (hp : 1 ≤ p ∧ p ≤ 999999) (hq : 1 ≤ q ∧ q ≤ 999999) (hr : 1 ≤ r ∧ r ≤ 999999) (hs : 1 ≤ s ∧ s ≤ 999999) (w : World) (ht : NTab w) (h : p = r ∧ q < s) :
    Calls Tryd.prog 5 #[.agg #[.int .i64 (p : Int), .int .i64 (q : Int)], .agg #[.int .i64 (r : Int), .int .i64 (s : Int)]] w fun e w' => e = .returned (.bool true) ∧ Below w.heap.size w w' := by
  have L1 : Op.bytesLess (nmB p q) (nmB r s) = true := by
    have hh := nlt_B p q r s hp.2 hq.2 hr.2 hs.2
    exact hh.2 (by omega)
  have L2 : (nmB p q == nmB r s) = false := by
    rw [beq_eq_false_iff_ne]; intro e; have := ninj_B p q r s hp.2 hq.2 hr.2 hs.2 e; omega
  have L3 : decide ((p : Int) = (r : Int) ∧ (q : Int) = (s : Int)) = false := by exact decide_eq_false (by omega)
  have f1 : (q : Int) < (s : Int) := by omega
  obtain rfl : p = r := h.1
  have f2 : ¬ (p : Int) < (p : Int) := by omega
  have Hb := Lib.hid (((Below.refl w.heap.size w).alloc (Nat.le_refl _) (.cells #[.int .i64 (p : Int), .int .i64 (q : Int)] 34)).alloc (by simp) (.cells #[.int .i64 (p : Int), .int .i64 (s : Int)] 34))
  have HA := Lib.hid ((Blk.new w 34 #[.int .i64 (p : Int), .int .i64 (q : Int)]).alloc (.cells #[.int .i64 (p : Int), .int .i64 (s : Int)] 34))
  have HC := Blk.new (w.alloc (.cells #[.int .i64 (p : Int), .int .i64 (q : Int)] 34)) 34 #[.int .i64 (p : Int), .int .i64 (s : Int)]
  rw [World.size_alloc] at HC
  replace HC := Lib.hid HC
  have E3 := fun W => npair_equal (p : Int) (q : Int) (p : Int) (s : Int) W
  rw [L3] at E3
  have E4 := npair_guard
  have HT := Lib.hid ht
  clear ht
  have P1 := fun W (hW : NTab W) => p_nseg_any (p : Int) (q : Int) W hW
  have P2 := fun W (hW : NTab W) => p_nseg_any (p : Int) (s : Int) W hW
  rw [nseg_of p q hp hq] at P1
  rw [nseg_of p s (by omega) (by omega)] at P2
  have P3 := fun W => p_nchk_any (nmB p q) W (by rw [nmB_len]; omega)
  rw [nchk_B] at P3
  have P4 := Lib.hid p_nmani_any
  have P5 := Lib.hid p_ntemp_any
  have P7 := Lib.hid p_ntemp_any
  have P6 := fun W => p_nchk_any ntemp W (by decide)
  rw [nchk_temp] at P6
  obtain ⟨m1, m2⟩ := nmB_mani p q
  have q1 : (nmB p q == [109, 97, 110, 105, 102, 101, 115, 116]) = false := by rw [beq_eq_false_iff_ne]; exact m1
  have q2 : (nmB p q == [109, 97, 110, 105, 102, 101, 115, 116, 46, 110, 101, 119]) = false := by rw [beq_eq_false_iff_ne]; exact m2
  unfold nmani at P4
  unfold ntemp at P5 P6 P7
  dsimp only at P1 P2
  replace P1 := Lib.hid P1
  replace P2 := Lib.hid P2
  replace P3 := Lib.hid P3
  replace P6 := Lib.hid P6
  clear m1 m2 L3
  generalize nmB p s = Y at *
  generalize nmB p q = X at *
  go_enter Tryd.func5, Tryd.ntmps5
  go_wp2_with (first
    | (go_at_call 9; (with_reducible refine (P1.out _ (HT.out.of Hb.out)).mono ?_); rintro e w1 ⟨rfl, hb1⟩; replace HA := Lib.hid (HA.out.below hb1 HA.out.lt); replace HC := Lib.hid (HC.out.below hb1 HC.out.lt); have p10 : w1.cell? ⟨w.heap.size, 0, none⟩ = some (.int .i64 (p : Int)) := HA.out.cell 0; have p11 : w1.cell? ⟨w.heap.size, 1, none⟩ = some (.int .i64 (q : Int)) := HA.out.cell 1; have q10 : w1.cell? ⟨w.heap.size + 1, 0, none⟩ = some (.int .i64 (p : Int)) := HC.out.cell 0; have q11 : w1.cell? ⟨w.heap.size + 1, 1, none⟩ = some (.int .i64 (s : Int)) := HC.out.cell 1; replace Hb := Lib.hid (Hb.out.trans (hb1.mono Hb.out.size)); clear hb1; clear P1)
    | (go_at_call 9; (with_reducible refine (P2.out _ (HT.out.of Hb.out)).mono ?_); rintro e w2 ⟨rfl, hb2⟩; replace HA := Lib.hid (HA.out.below hb2 HA.out.lt); replace HC := Lib.hid (HC.out.below hb2 HC.out.lt); have p20 : w2.cell? ⟨w.heap.size, 0, none⟩ = some (.int .i64 (p : Int)) := HA.out.cell 0; have p21 : w2.cell? ⟨w.heap.size, 1, none⟩ = some (.int .i64 (q : Int)) := HA.out.cell 1; have q20 : w2.cell? ⟨w.heap.size + 1, 0, none⟩ = some (.int .i64 (p : Int)) := HC.out.cell 0; have q21 : w2.cell? ⟨w.heap.size + 1, 1, none⟩ = some (.int .i64 (s : Int)) := HC.out.cell 1; replace Hb := Lib.hid (Hb.out.trans (hb2.mono Hb.out.size)); clear hb2; clear P2)
    | (go_at_call 11; (with_reducible refine (P3.out _).mono ?_); rintro e w3 ⟨rfl, hb3⟩; replace Hb := Lib.hid (Hb.out.trans (hb3.mono Hb.out.size)); clear hb3; clear P3)
    | (go_at_call 15; (with_reducible refine (P4.out _).mono ?_); rintro e w4 ⟨rfl, hb4⟩; replace Hb := Lib.hid (Hb.out.trans (hb4.mono Hb.out.size)); clear hb4; clear P4)
    | (go_at_call 16; (with_reducible refine (P5.out _).mono ?_); rintro e w5 ⟨rfl, hb5⟩; replace Hb := Lib.hid (Hb.out.trans (hb5.mono Hb.out.size)); clear hb5; clear P5)
    | (go_at_call 16; (with_reducible refine (P7.out _).mono ?_); rintro e w7 ⟨rfl, hb7⟩; replace Hb := Lib.hid (Hb.out.trans (hb7.mono Hb.out.size)); clear hb7; clear P7)
    | (go_at_call 11; (with_reducible refine (P6.out _).mono ?_); rintro e w6 ⟨rfl, hb6⟩; replace Hb := Lib.hid (Hb.out.trans (hb6.mono Hb.out.size)); clear hb6; clear P6)
    | (go_at_call 6; refine (awake18_any _ (HT.out.of Hb.out)).mono ?_; rintro e w9 ⟨rfl, hb9⟩; replace Hb := Lib.hid (Hb.out.trans (hb9.mono Hb.out.size)); clear hb9))
  go_ret
  exact ⟨rfl, Hb.out⟩
set_option maxRecDepth 100000 in
set_option maxHeartbeats 4000000 in
theorem nameOne_yes2 (p q r s : Nat) (hp : 1 ≤ p ∧ p ≤ 999999) (hq : 1 ≤ q ∧ q ≤ 999999) (hr : 1 ≤ r ∧ r ≤ 999999) (hs : 1 ≤ s ∧ s ≤ 999999) (w : World) (ht : NTab w) (h : p = r ∧ q = s) :
    Calls Tryd.prog 5 #[.agg #[.int .i64 (p : Int), .int .i64 (q : Int)], .agg #[.int .i64 (r : Int), .int .i64 (s : Int)]] w fun e w' => e = .returned (.bool true) ∧ Below w.heap.size w w' := by
  have L1 : Op.bytesLess (nmB p q) (nmB r s) = false := by
    have hh := nlt_B p q r s hp.2 hq.2 hr.2 hs.2
    cases e : Op.bytesLess (nmB p q) (nmB r s) with
    | false => rfl
    | true => have := hh.1 e; omega
  have L2 : (nmB p q == nmB r s) = true := by
    obtain ⟨rfl, rfl⟩ := h; exact beq_self_eq_true _
  have L3 : decide ((p : Int) = (r : Int) ∧ (q : Int) = (s : Int)) = true := by exact decide_eq_true (by omega)
  obtain rfl : p = r := h.1
  have f2 : ¬ (p : Int) < (p : Int) := by omega
  obtain rfl : q = s := h.2
  have f3 : ¬ (q : Int) < (q : Int) := by omega
  have Hb := Lib.hid (((Below.refl w.heap.size w).alloc (Nat.le_refl _) (.cells #[.int .i64 (p : Int), .int .i64 (q : Int)] 34)).alloc (by simp) (.cells #[.int .i64 (p : Int), .int .i64 (q : Int)] 34))
  have HA := Lib.hid ((Blk.new w 34 #[.int .i64 (p : Int), .int .i64 (q : Int)]).alloc (.cells #[.int .i64 (p : Int), .int .i64 (q : Int)] 34))
  have HC := Blk.new (w.alloc (.cells #[.int .i64 (p : Int), .int .i64 (q : Int)] 34)) 34 #[.int .i64 (p : Int), .int .i64 (q : Int)]
  rw [World.size_alloc] at HC
  replace HC := Lib.hid HC
  have E3 := fun W => npair_equal (p : Int) (q : Int) (p : Int) (q : Int) W
  rw [L3] at E3
  have E4 := npair_guard
  have HT := Lib.hid ht
  clear ht
  have P1 := fun W (hW : NTab W) => p_nseg_any (p : Int) (q : Int) W hW
  have P2 := fun W (hW : NTab W) => p_nseg_any (p : Int) (q : Int) W hW
  rw [nseg_of p q hp hq] at P1
  rw [nseg_of p q (by omega) (by omega)] at P2
  have P3 := fun W => p_nchk_any (nmB p q) W (by rw [nmB_len]; omega)
  rw [nchk_B] at P3
  have P4 := Lib.hid p_nmani_any
  have P5 := Lib.hid p_ntemp_any
  have P7 := Lib.hid p_ntemp_any
  have P6 := fun W => p_nchk_any ntemp W (by decide)
  rw [nchk_temp] at P6
  obtain ⟨m1, m2⟩ := nmB_mani p q
  have q1 : (nmB p q == [109, 97, 110, 105, 102, 101, 115, 116]) = false := by rw [beq_eq_false_iff_ne]; exact m1
  have q2 : (nmB p q == [109, 97, 110, 105, 102, 101, 115, 116, 46, 110, 101, 119]) = false := by rw [beq_eq_false_iff_ne]; exact m2
  unfold nmani at P4
  unfold ntemp at P5 P6 P7
  dsimp only at P1 P2
  replace P1 := Lib.hid P1
  replace P2 := Lib.hid P2
  replace P3 := Lib.hid P3
  replace P6 := Lib.hid P6
  clear m1 m2 L3
  generalize nmB p q = X at *
  go_enter Tryd.func5, Tryd.ntmps5
  go_wp2_with (first
    | (go_at_call 9; (with_reducible refine (P1.out _ (HT.out.of Hb.out)).mono ?_); rintro e w1 ⟨rfl, hb1⟩; replace HA := Lib.hid (HA.out.below hb1 HA.out.lt); replace HC := Lib.hid (HC.out.below hb1 HC.out.lt); have p10 : w1.cell? ⟨w.heap.size, 0, none⟩ = some (.int .i64 (p : Int)) := HA.out.cell 0; have p11 : w1.cell? ⟨w.heap.size, 1, none⟩ = some (.int .i64 (q : Int)) := HA.out.cell 1; have q10 : w1.cell? ⟨w.heap.size + 1, 0, none⟩ = some (.int .i64 (p : Int)) := HC.out.cell 0; have q11 : w1.cell? ⟨w.heap.size + 1, 1, none⟩ = some (.int .i64 (q : Int)) := HC.out.cell 1; replace Hb := Lib.hid (Hb.out.trans (hb1.mono Hb.out.size)); clear hb1; clear P1)
    | (go_at_call 9; (with_reducible refine (P2.out _ (HT.out.of Hb.out)).mono ?_); rintro e w2 ⟨rfl, hb2⟩; replace HA := Lib.hid (HA.out.below hb2 HA.out.lt); replace HC := Lib.hid (HC.out.below hb2 HC.out.lt); have p20 : w2.cell? ⟨w.heap.size, 0, none⟩ = some (.int .i64 (p : Int)) := HA.out.cell 0; have p21 : w2.cell? ⟨w.heap.size, 1, none⟩ = some (.int .i64 (q : Int)) := HA.out.cell 1; have q20 : w2.cell? ⟨w.heap.size + 1, 0, none⟩ = some (.int .i64 (p : Int)) := HC.out.cell 0; have q21 : w2.cell? ⟨w.heap.size + 1, 1, none⟩ = some (.int .i64 (q : Int)) := HC.out.cell 1; replace Hb := Lib.hid (Hb.out.trans (hb2.mono Hb.out.size)); clear hb2; clear P2)
    | (go_at_call 11; (with_reducible refine (P3.out _).mono ?_); rintro e w3 ⟨rfl, hb3⟩; replace Hb := Lib.hid (Hb.out.trans (hb3.mono Hb.out.size)); clear hb3; clear P3)
    | (go_at_call 15; (with_reducible refine (P4.out _).mono ?_); rintro e w4 ⟨rfl, hb4⟩; replace Hb := Lib.hid (Hb.out.trans (hb4.mono Hb.out.size)); clear hb4; clear P4)
    | (go_at_call 16; (with_reducible refine (P5.out _).mono ?_); rintro e w5 ⟨rfl, hb5⟩; replace Hb := Lib.hid (Hb.out.trans (hb5.mono Hb.out.size)); clear hb5; clear P5)
    | (go_at_call 16; (with_reducible refine (P7.out _).mono ?_); rintro e w7 ⟨rfl, hb7⟩; replace Hb := Lib.hid (Hb.out.trans (hb7.mono Hb.out.size)); clear hb7; clear P7)
    | (go_at_call 11; (with_reducible refine (P6.out _).mono ?_); rintro e w6 ⟨rfl, hb6⟩; replace Hb := Lib.hid (Hb.out.trans (hb6.mono Hb.out.size)); clear hb6; clear P6)
    | (go_at_call 6; refine (awake18_any _ (HT.out.of Hb.out)).mono ?_; rintro e w9 ⟨rfl, hb9⟩; replace Hb := Lib.hid (Hb.out.trans (hb9.mono Hb.out.size)); clear hb9))
  go_ret
  exact ⟨rfl, Hb.out⟩
set_option maxRecDepth 100000 in
set_option maxHeartbeats 4000000 in
theorem nameOne_yes3 (p q r s : Nat) (hp : 1 ≤ p ∧ p ≤ 999999) (hq : 1 ≤ q ∧ q ≤ 999999) (hr : 1 ≤ r ∧ r ≤ 999999) (hs : 1 ≤ s ∧ s ≤ 999999) (w : World) (ht : NTab w) (h : p = r ∧ s < q) :
    Calls Tryd.prog 5 #[.agg #[.int .i64 (p : Int), .int .i64 (q : Int)], .agg #[.int .i64 (r : Int), .int .i64 (s : Int)]] w fun e w' => e = .returned (.bool true) ∧ Below w.heap.size w w' := by
  have L1 : Op.bytesLess (nmB p q) (nmB r s) = false := by
    have hh := nlt_B p q r s hp.2 hq.2 hr.2 hs.2
    cases e : Op.bytesLess (nmB p q) (nmB r s) with
    | false => rfl
    | true => have := hh.1 e; omega
  have L2 : (nmB p q == nmB r s) = false := by
    rw [beq_eq_false_iff_ne]; intro e; have := ninj_B p q r s hp.2 hq.2 hr.2 hs.2 e; omega
  have L3 : decide ((p : Int) = (r : Int) ∧ (q : Int) = (s : Int)) = false := by exact decide_eq_false (by omega)
  have f1 : ¬ (q : Int) < (s : Int) := by omega
  obtain rfl : p = r := h.1
  have f2 : ¬ (p : Int) < (p : Int) := by omega
  have Hb := Lib.hid (((Below.refl w.heap.size w).alloc (Nat.le_refl _) (.cells #[.int .i64 (p : Int), .int .i64 (q : Int)] 34)).alloc (by simp) (.cells #[.int .i64 (p : Int), .int .i64 (s : Int)] 34))
  have HA := Lib.hid ((Blk.new w 34 #[.int .i64 (p : Int), .int .i64 (q : Int)]).alloc (.cells #[.int .i64 (p : Int), .int .i64 (s : Int)] 34))
  have HC := Blk.new (w.alloc (.cells #[.int .i64 (p : Int), .int .i64 (q : Int)] 34)) 34 #[.int .i64 (p : Int), .int .i64 (s : Int)]
  rw [World.size_alloc] at HC
  replace HC := Lib.hid HC
  have E3 := fun W => npair_equal (p : Int) (q : Int) (p : Int) (s : Int) W
  rw [L3] at E3
  have E4 := npair_guard
  have HT := Lib.hid ht
  clear ht
  have P1 := fun W (hW : NTab W) => p_nseg_any (p : Int) (q : Int) W hW
  have P2 := fun W (hW : NTab W) => p_nseg_any (p : Int) (s : Int) W hW
  rw [nseg_of p q hp hq] at P1
  rw [nseg_of p s (by omega) (by omega)] at P2
  have P3 := fun W => p_nchk_any (nmB p q) W (by rw [nmB_len]; omega)
  rw [nchk_B] at P3
  have P4 := Lib.hid p_nmani_any
  have P5 := Lib.hid p_ntemp_any
  have P7 := Lib.hid p_ntemp_any
  have P6 := fun W => p_nchk_any ntemp W (by decide)
  rw [nchk_temp] at P6
  obtain ⟨m1, m2⟩ := nmB_mani p q
  have q1 : (nmB p q == [109, 97, 110, 105, 102, 101, 115, 116]) = false := by rw [beq_eq_false_iff_ne]; exact m1
  have q2 : (nmB p q == [109, 97, 110, 105, 102, 101, 115, 116, 46, 110, 101, 119]) = false := by rw [beq_eq_false_iff_ne]; exact m2
  unfold nmani at P4
  unfold ntemp at P5 P6 P7
  dsimp only at P1 P2
  replace P1 := Lib.hid P1
  replace P2 := Lib.hid P2
  replace P3 := Lib.hid P3
  replace P6 := Lib.hid P6
  clear m1 m2 L3
  generalize nmB p s = Y at *
  generalize nmB p q = X at *
  go_enter Tryd.func5, Tryd.ntmps5
  go_wp2_with (first
    | (go_at_call 9; (with_reducible refine (P1.out _ (HT.out.of Hb.out)).mono ?_); rintro e w1 ⟨rfl, hb1⟩; replace HA := Lib.hid (HA.out.below hb1 HA.out.lt); replace HC := Lib.hid (HC.out.below hb1 HC.out.lt); have p10 : w1.cell? ⟨w.heap.size, 0, none⟩ = some (.int .i64 (p : Int)) := HA.out.cell 0; have p11 : w1.cell? ⟨w.heap.size, 1, none⟩ = some (.int .i64 (q : Int)) := HA.out.cell 1; have q10 : w1.cell? ⟨w.heap.size + 1, 0, none⟩ = some (.int .i64 (p : Int)) := HC.out.cell 0; have q11 : w1.cell? ⟨w.heap.size + 1, 1, none⟩ = some (.int .i64 (s : Int)) := HC.out.cell 1; replace Hb := Lib.hid (Hb.out.trans (hb1.mono Hb.out.size)); clear hb1; clear P1)
    | (go_at_call 9; (with_reducible refine (P2.out _ (HT.out.of Hb.out)).mono ?_); rintro e w2 ⟨rfl, hb2⟩; replace HA := Lib.hid (HA.out.below hb2 HA.out.lt); replace HC := Lib.hid (HC.out.below hb2 HC.out.lt); have p20 : w2.cell? ⟨w.heap.size, 0, none⟩ = some (.int .i64 (p : Int)) := HA.out.cell 0; have p21 : w2.cell? ⟨w.heap.size, 1, none⟩ = some (.int .i64 (q : Int)) := HA.out.cell 1; have q20 : w2.cell? ⟨w.heap.size + 1, 0, none⟩ = some (.int .i64 (p : Int)) := HC.out.cell 0; have q21 : w2.cell? ⟨w.heap.size + 1, 1, none⟩ = some (.int .i64 (s : Int)) := HC.out.cell 1; replace Hb := Lib.hid (Hb.out.trans (hb2.mono Hb.out.size)); clear hb2; clear P2)
    | (go_at_call 11; (with_reducible refine (P3.out _).mono ?_); rintro e w3 ⟨rfl, hb3⟩; replace Hb := Lib.hid (Hb.out.trans (hb3.mono Hb.out.size)); clear hb3; clear P3)
    | (go_at_call 15; (with_reducible refine (P4.out _).mono ?_); rintro e w4 ⟨rfl, hb4⟩; replace Hb := Lib.hid (Hb.out.trans (hb4.mono Hb.out.size)); clear hb4; clear P4)
    | (go_at_call 16; (with_reducible refine (P5.out _).mono ?_); rintro e w5 ⟨rfl, hb5⟩; replace Hb := Lib.hid (Hb.out.trans (hb5.mono Hb.out.size)); clear hb5; clear P5)
    | (go_at_call 16; (with_reducible refine (P7.out _).mono ?_); rintro e w7 ⟨rfl, hb7⟩; replace Hb := Lib.hid (Hb.out.trans (hb7.mono Hb.out.size)); clear hb7; clear P7)
    | (go_at_call 11; (with_reducible refine (P6.out _).mono ?_); rintro e w6 ⟨rfl, hb6⟩; replace Hb := Lib.hid (Hb.out.trans (hb6.mono Hb.out.size)); clear hb6; clear P6)
    | (go_at_call 6; refine (awake18_any _ (HT.out.of Hb.out)).mono ?_; rintro e w9 ⟨rfl, hb9⟩; replace Hb := Lib.hid (Hb.out.trans (hb9.mono Hb.out.size)); clear hb9))
  go_ret
  exact ⟨rfl, Hb.out⟩
set_option maxRecDepth 100000 in
set_option maxHeartbeats 4000000 in
theorem nameOne_yes4 (p q r s : Nat) (hp : 1 ≤ p ∧ p ≤ 999999) (hq : 1 ≤ q ∧ q ≤ 999999) (hr : 1 ≤ r ∧ r ≤ 999999) (hs : 1 ≤ s ∧ s ≤ 999999) (w : World) (ht : NTab w) (h : r < p) :
    Calls Tryd.prog 5 #[.agg #[.int .i64 (p : Int), .int .i64 (q : Int)], .agg #[.int .i64 (r : Int), .int .i64 (s : Int)]] w fun e w' => e = .returned (.bool true) ∧ Below w.heap.size w w' := by
  have L1 : Op.bytesLess (nmB p q) (nmB r s) = false := by
    have hh := nlt_B p q r s hp.2 hq.2 hr.2 hs.2
    cases e : Op.bytesLess (nmB p q) (nmB r s) with
    | false => rfl
    | true => have := hh.1 e; omega
  have L2 : (nmB p q == nmB r s) = false := by
    rw [beq_eq_false_iff_ne]; intro e; have := ninj_B p q r s hp.2 hq.2 hr.2 hs.2 e; omega
  have L3 : decide ((p : Int) = (r : Int) ∧ (q : Int) = (s : Int)) = false := by exact decide_eq_false (by omega)
  have f1 : ¬ (p : Int) < (r : Int) := by omega
  have f2 : ((p : Int) == (r : Int)) = false := by rw [beq_eq_false_iff_ne]; omega
  have f3 : ¬ (p : Int) = (r : Int) := by omega
  have Hb := Lib.hid (((Below.refl w.heap.size w).alloc (Nat.le_refl _) (.cells #[.int .i64 (p : Int), .int .i64 (q : Int)] 34)).alloc (by simp) (.cells #[.int .i64 (r : Int), .int .i64 (s : Int)] 34))
  have HA := Lib.hid ((Blk.new w 34 #[.int .i64 (p : Int), .int .i64 (q : Int)]).alloc (.cells #[.int .i64 (r : Int), .int .i64 (s : Int)] 34))
  have HC := Blk.new (w.alloc (.cells #[.int .i64 (p : Int), .int .i64 (q : Int)] 34)) 34 #[.int .i64 (r : Int), .int .i64 (s : Int)]
  rw [World.size_alloc] at HC
  replace HC := Lib.hid HC
  have E3 := fun W => npair_equal (p : Int) (q : Int) (r : Int) (s : Int) W
  rw [L3] at E3
  have E4 := npair_guard
  have HT := Lib.hid ht
  clear ht
  have P1 := fun W (hW : NTab W) => p_nseg_any (p : Int) (q : Int) W hW
  have P2 := fun W (hW : NTab W) => p_nseg_any (r : Int) (s : Int) W hW
  rw [nseg_of p q hp hq] at P1
  rw [nseg_of r s (by omega) (by omega)] at P2
  have P3 := fun W => p_nchk_any (nmB p q) W (by rw [nmB_len]; omega)
  rw [nchk_B] at P3
  have P4 := Lib.hid p_nmani_any
  have P5 := Lib.hid p_ntemp_any
  have P7 := Lib.hid p_ntemp_any
  have P6 := fun W => p_nchk_any ntemp W (by decide)
  rw [nchk_temp] at P6
  obtain ⟨m1, m2⟩ := nmB_mani p q
  have q1 : (nmB p q == [109, 97, 110, 105, 102, 101, 115, 116]) = false := by rw [beq_eq_false_iff_ne]; exact m1
  have q2 : (nmB p q == [109, 97, 110, 105, 102, 101, 115, 116, 46, 110, 101, 119]) = false := by rw [beq_eq_false_iff_ne]; exact m2
  unfold nmani at P4
  unfold ntemp at P5 P6 P7
  dsimp only at P1 P2
  replace P1 := Lib.hid P1
  replace P2 := Lib.hid P2
  replace P3 := Lib.hid P3
  replace P6 := Lib.hid P6
  clear m1 m2 L3
  generalize nmB r s = Y at *
  generalize nmB p q = X at *
  go_enter Tryd.func5, Tryd.ntmps5
  go_wp2_with (first
    | (go_at_call 9; (with_reducible refine (P1.out _ (HT.out.of Hb.out)).mono ?_); rintro e w1 ⟨rfl, hb1⟩; replace HA := Lib.hid (HA.out.below hb1 HA.out.lt); replace HC := Lib.hid (HC.out.below hb1 HC.out.lt); have p10 : w1.cell? ⟨w.heap.size, 0, none⟩ = some (.int .i64 (p : Int)) := HA.out.cell 0; have p11 : w1.cell? ⟨w.heap.size, 1, none⟩ = some (.int .i64 (q : Int)) := HA.out.cell 1; have q10 : w1.cell? ⟨w.heap.size + 1, 0, none⟩ = some (.int .i64 (r : Int)) := HC.out.cell 0; have q11 : w1.cell? ⟨w.heap.size + 1, 1, none⟩ = some (.int .i64 (s : Int)) := HC.out.cell 1; replace Hb := Lib.hid (Hb.out.trans (hb1.mono Hb.out.size)); clear hb1; clear P1)
    | (go_at_call 9; (with_reducible refine (P2.out _ (HT.out.of Hb.out)).mono ?_); rintro e w2 ⟨rfl, hb2⟩; replace HA := Lib.hid (HA.out.below hb2 HA.out.lt); replace HC := Lib.hid (HC.out.below hb2 HC.out.lt); have p20 : w2.cell? ⟨w.heap.size, 0, none⟩ = some (.int .i64 (p : Int)) := HA.out.cell 0; have p21 : w2.cell? ⟨w.heap.size, 1, none⟩ = some (.int .i64 (q : Int)) := HA.out.cell 1; have q20 : w2.cell? ⟨w.heap.size + 1, 0, none⟩ = some (.int .i64 (r : Int)) := HC.out.cell 0; have q21 : w2.cell? ⟨w.heap.size + 1, 1, none⟩ = some (.int .i64 (s : Int)) := HC.out.cell 1; replace Hb := Lib.hid (Hb.out.trans (hb2.mono Hb.out.size)); clear hb2; clear P2)
    | (go_at_call 11; (with_reducible refine (P3.out _).mono ?_); rintro e w3 ⟨rfl, hb3⟩; replace Hb := Lib.hid (Hb.out.trans (hb3.mono Hb.out.size)); clear hb3; clear P3)
    | (go_at_call 15; (with_reducible refine (P4.out _).mono ?_); rintro e w4 ⟨rfl, hb4⟩; replace Hb := Lib.hid (Hb.out.trans (hb4.mono Hb.out.size)); clear hb4; clear P4)
    | (go_at_call 16; (with_reducible refine (P5.out _).mono ?_); rintro e w5 ⟨rfl, hb5⟩; replace Hb := Lib.hid (Hb.out.trans (hb5.mono Hb.out.size)); clear hb5; clear P5)
    | (go_at_call 16; (with_reducible refine (P7.out _).mono ?_); rintro e w7 ⟨rfl, hb7⟩; replace Hb := Lib.hid (Hb.out.trans (hb7.mono Hb.out.size)); clear hb7; clear P7)
    | (go_at_call 11; (with_reducible refine (P6.out _).mono ?_); rintro e w6 ⟨rfl, hb6⟩; replace Hb := Lib.hid (Hb.out.trans (hb6.mono Hb.out.size)); clear hb6; clear P6)
    | (go_at_call 6; refine (awake18_any _ (HT.out.of Hb.out)).mono ?_; rintro e w9 ⟨rfl, hb9⟩; replace Hb := Lib.hid (Hb.out.trans (hb9.mono Hb.out.size)); clear hb9))
  go_ret
  exact ⟨rfl, Hb.out⟩
theorem nameOne_walk (a0 a1 b0 b1 : Int) (w : World) (ht : NTab w) : Calls Tryd.prog 5 #[.agg #[.int .i64 a0, .int .i64 a1], .agg #[.int .i64 b0, .int .i64 b1]] w fun e w' => e = .returned (.bool true) ∧ Below w.heap.size w w' := by
  by_cases h1 : (nsegF a0 a1).2 = 0
  · by_cases h2 : (nsegF b0 b1).2 = 0
    · obtain ⟨p, q, rfl, rfl, hp, hq, _⟩ := nseg_ok h1
      obtain ⟨r, s, rfl, rfl, hr, hs, _⟩ := nseg_ok h2
      have h : p < r ∨ (p = r ∧ q < s) ∨ (p = r ∧ q = s) ∨ (p = r ∧ s < q) ∨ r < p := by omega
      rcases h with h | h | h | h | h
      · exact nameOne_yes0 p q r s hp hq hr hs w ht h
      · exact nameOne_yes1 p q r s hp hq hr hs w ht h
      · exact nameOne_yes2 p q r s hp hq hr hs w ht h
      · exact nameOne_yes3 p q r s hp hq hr hs w ht h
      · exact nameOne_yes4 p q r s hp hq hr hs w ht h
    · exact nameOne_no2 a0 a1 b0 b1 w ht h1 h2
  · exact nameOne_no1 a0 a1 b0 b1 w ht h1
namespace NameOne
noncomputable def start (os : Os) : World := World.doorLaid Tryd.prog 400 os
theorem start_met (os : Os) : laidMetH Tryd.prog Rows.nameOneRow.laid ((start os).forCall (fun _ _ => 0) ⟨#[], #[.agg #[.int .i64 0, .int .i64 0], .agg #[.int .i64 0, .int .i64 0]], []⟩).memory :=
  laidMetH_of_parts3 (fuel := 8) (laidMet_of_run' 8 (by kernel_rfl) (by kernel_rfl)) (by kernel_rfl) (by kernel_rfl)
set_option maxRecDepth 100000 in
theorem lifted (os : Os) (started : os.Started) (H : Type) (enc : TypeId × Value → H) (F : Stop.Interp) :
    ReturnsInHanded {} Tryd.checked os 5 .any ((OpenSpec.ofChange Rows.nameOneSpec).preRow enc Tryd.prog Tryd.f5 Rows.nameOneRow.domain false Rows.nameOneRow.laid) (((OpenSpec.ofChange Rows.nameOneSpec).at F).post enc Tryd.prog Tryd.f5 false true false false) := by
  refine law_laid (C := Tryd.checked) (tb := 4) ownP started (by kernel_rfl) Tryd.func5
    (witness_row_shaped (enc := enc) (C := Tryd.checked) (start os) #[.agg #[.int .i64 0, .int .i64 0], .agg #[.int .i64 0, .int .i64 0]] rfl (World.shaped_of_RefB (by kernel_rfl) (by kernel_rfl)) (by kernel_rfl)
      (preRow_plain 8 (by kernel_rfl) rfl (by kernel_rfl) (start_met os)))
    laidP (by kernel_rfl) rfl (by kernel_rfl) Tryd.underlying4 (by intro ds h; match ds, h with | [_, _], _ => rfl) ?_
  intro W base args ds p hval0 hA0 hlt _ hL
  have hT : NTab W := ntab_laid hL
  have hval : ∀ (j : Nat) t v, Tryd.f5.params[j]? = some t → args[j]? = some v → Value.okWide Tryd.prog W .any base t v := hval0
  have hA : DataW.TrodAll enc Tryd.prog W 0 (fun _ => true) true Tryd.f5.params.toList args.toList ds p := hA0
  rw [Tryd.params5] at hA hval
  obtain ⟨v0, v1, d0, d1, p0, p1, rfl, rfl, rfl, h0, h1⟩ := trodAll_two hA
  obtain ⟨a0, a1, rfl, wa0, wa1⟩ := open_two Tryd.underlying34 Tryd.underlying3 (by kernel_rfl) (by kernel_rfl) (hval 0 34 v0 rfl rfl) h0
  obtain ⟨b0, b1, rfl, wb0, wb1⟩ := open_two Tryd.underlying34 Tryd.underlying3 (by kernel_rfl) (by kernel_rfl) (hval 1 34 v1 rfl rfl) h1
  exact nameOne_walk a0 a1 b0 b1 W hT
theorem said : Rows.NameOneSaid :=
  OpenClaim.holds_of_cond 5 Tryd.f5 rfl rfl rfl rfl rfl rfl rfl ⟨rfl, rfl, rfl, rfl, rfl⟩ rfl rfl rfl rfl rfl (by kernel_rfl) Tryd.func5 (by kernel_rfl)
    (of_decide_eq_true (by kernel_rfl)) (by unfold Func.isWrapper; first | (rw [if_pos (by decide +kernel)]; kernel_rfl) | (rw [if_neg (by decide +kernel)]; exact ⟨rfl, rfl⟩))
    (fun os started H enc _ F => by rw [OpenClaim.pre_eq_preRow]; exact lifted os started H enc F)
theorem plain (f : FuncId) (fn : Func) (hf : Tryd.pinned.checked.prog.funcNamed "varve/varvelaw18.NameOne" = some f) (hfn : Tryd.pinned.checked.prog.funcs[f]? = some fn) :
    false = Tryd.pinned.checked.prog.looks [] ∧ ∀ (j : Nat) t, fn.params[j]? = some t → Tryd.pinned.checked.prog.wantsStandIn t = false := by
  obtain rfl : f = 5 := Option.some.inj ((show Tryd.prog.funcNamed "varve/varvelaw18.NameOne" = some 5 by kernel_rfl).symm.trans hf) |>.symm
  obtain rfl : fn = Tryd.f5 := (Option.some.inj (Tryd.func5.symm.trans hfn)).symm
  refine ⟨by kernel_rfl, fun j t ht => ?_⟩
  have hall : (Tryd.f5.params.toList.all fun u => !Tryd.prog.wantsStandIn u) = true := by kernel_rfl
  have := List.all_eq_true.1 hall t (Array.mem_toList_iff.2 (Array.mem_of_getElem? ht))
  exact (show Tryd.prog.wantsStandIn t = false by simpa using this)
theorem holds : Rows.NameOneCardSaid :=
  Claim7.holds_tied_plain_at .later [] _ _ _ _ said (fun _ h => by cases h) (by kernel_rfl) (fun _ h => by cases h) nameOne_row_tie rfl ⟨rfl, rfl⟩ (by kernel_rfl) rfl plain (by kernel_rfl)
end NameOne
end Go.Proofs.YtmejcckbbcgmnaaDoor
