/-
  A record is taken as it was put, wherever it stands; records come back of their bytes, bytes of their records; the layer's probe holds (RecordBack). No condition.
-/
import Derived.Test.YtckengcphaaohaaRecL2
namespace Go.Proofs.Ytckengcphaaohaa
set_option linter.unusedSimpArgs false
set_option linter.unusedVariables false
open Go.ChangeShapes Go.WideShapes Go.ChangeAt Go.RowKit Go.Joins Go.Deep
set_option maxHeartbeats 2000000 in
theorem recordBack_far0 (r : Rc) (l : List Rc) (A : Option Addr) (n c : Nat) (hl : l.length = n) (s : List UInt8) (w : World) (h : fewF [r] = false) (hr : Reads w w.heap.size 3 A n (rcs l)) :
    Calls Try.prog 5 #[.agg #[.int .i64 r.1, .int .i64 r.2.1, .string ⟨r.2.2.toArray⟩], .slice A n c, .string ⟨s.toArray⟩] w fun e w' => e = .returned (.bool true) ∧ Below w.heap.size w w' := by
  have Hb := Lib.hid (Below.refl w.heap.size w)
  have HB0 := Lib.hid ((Below.refl w.heap.size w).alloc (Nat.le_refl _) (.cells #[.int .i64 r.1, .int .i64 r.2.1, .string ⟨r.2.2.toArray⟩] 23))
  have HR0 := Lib.hid (Blk.new w 23 #[.int .i64 r.1, .int .i64 r.2.1, .string ⟨r.2.2.toArray⟩])
  have hf1 := Lib.hid (rfew_any r false h (w.alloc (.cells #[.int .i64 r.1, .int .i64 r.2.1, .string ⟨r.2.2.toArray⟩] 23)))
  simp only [World.size_alloc] at hf1
  go_enter Try.func5, Try.ntmps5
  go_wp2_with (first
    | (go_at_call 7; (with_reducible refine hf1.out.mono ?_); rintro e w1 ⟨rfl, hb1⟩; replace Hb := Lib.hid (HB0.out.trans (hb1.mono (Nat.le_succ _))); have HR1 := Lib.hid (HR0.out.below hb1 (Nat.lt_succ_self _)); clear hb1 hf1)
    | (go_at_call 8; refine (awake15_any _).mono ?_; rintro e w9 ⟨rfl, hb9⟩; replace Hb := Lib.hid (Hb.out.trans (hb9.mono Hb.out.size)); clear hb9))
  go_ret
  exact ⟨rfl, Hb.out⟩
set_option maxHeartbeats 2000000 in
theorem recordBack_far1 (r : Rc) (l : List Rc) (A : Option Addr) (n c : Nat) (hl : l.length = n) (s : List UInt8) (w : World) (h : fewF [r] = true) (h0 : fewF l = false) (hr : Reads w w.heap.size 3 A n (rcs l)) :
    Calls Try.prog 5 #[.agg #[.int .i64 r.1, .int .i64 r.2.1, .string ⟨r.2.2.toArray⟩], .slice A n c, .string ⟨s.toArray⟩] w fun e w' => e = .returned (.bool true) ∧ Below w.heap.size w w' := by
  have Hb := Lib.hid (Below.refl w.heap.size w)
  have HB0 := Lib.hid ((Below.refl w.heap.size w).alloc (Nat.le_refl _) (.cells #[.int .i64 r.1, .int .i64 r.2.1, .string ⟨r.2.2.toArray⟩] 23))
  have HR0 := Lib.hid (Blk.new w 23 #[.int .i64 r.1, .int .i64 r.2.1, .string ⟨r.2.2.toArray⟩])
  have hf1 := Lib.hid (rfew_any r true h (w.alloc (.cells #[.int .i64 r.1, .int .i64 r.2.1, .string ⟨r.2.2.toArray⟩] 23)))
  simp only [World.size_alloc] at hf1
  have hf2 := Lib.hid fun W (hb : Below w.heap.size w W) => few_any l A n c W hl ((hr.below hb).more hb.size)
  rw [h0] at hf2
  go_enter Try.func5, Try.ntmps5
  go_wp2_with (first
    | (go_at_call 7; (with_reducible refine hf1.out.mono ?_); rintro e w1 ⟨rfl, hb1⟩; replace Hb := Lib.hid (HB0.out.trans (hb1.mono (Nat.le_succ _))); have HR1 := Lib.hid (HR0.out.below hb1 (Nat.lt_succ_self _)); clear hb1 hf1)
    | (go_at_call 7; (with_reducible refine (hf2.out _ Hb.out).mono ?_); rintro e w0 ⟨rfl, rfl⟩; clear hf2)
    | (go_at_call 8; refine (awake15_any _).mono ?_; rintro e w9 ⟨rfl, hb9⟩; replace Hb := Lib.hid (Hb.out.trans (hb9.mono Hb.out.size)); clear hb9))
  go_ret
  exact ⟨rfl, Hb.out⟩
set_option maxHeartbeats 2000000 in
theorem recordBack_far2 (r : Rc) (l : List Rc) (A : Option Addr) (n c : Nat) (hl : l.length = n) (s : List UInt8) (w : World) (h : fewF [r] = true) (h0 : fewF l = true) (h2 : 5000 < s.length) (hr : Reads w w.heap.size 3 A n (rcs l)) :
    Calls Try.prog 5 #[.agg #[.int .i64 r.1, .int .i64 r.2.1, .string ⟨r.2.2.toArray⟩], .slice A n c, .string ⟨s.toArray⟩] w fun e w' => e = .returned (.bool true) ∧ Below w.heap.size w w' := by
  have Hb := Lib.hid (Below.refl w.heap.size w)
  have HB0 := Lib.hid ((Below.refl w.heap.size w).alloc (Nat.le_refl _) (.cells #[.int .i64 r.1, .int .i64 r.2.1, .string ⟨r.2.2.toArray⟩] 23))
  have HR0 := Lib.hid (Blk.new w 23 #[.int .i64 r.1, .int .i64 r.2.1, .string ⟨r.2.2.toArray⟩])
  have hf1 := Lib.hid (rfew_any r true h (w.alloc (.cells #[.int .i64 r.1, .int .i64 r.2.1, .string ⟨r.2.2.toArray⟩] 23)))
  simp only [World.size_alloc] at hf1
  have hf2 := Lib.hid fun W (hb : Below w.heap.size w W) => few_any l A n c W hl ((hr.below hb).more hb.size)
  rw [h0] at hf2
  have h1 : (5000 : Int) < s.length := by omega
  go_enter Try.func5, Try.ntmps5
  go_wp2_with (first
    | (go_at_call 7; (with_reducible refine hf1.out.mono ?_); rintro e w1 ⟨rfl, hb1⟩; replace Hb := Lib.hid (HB0.out.trans (hb1.mono (Nat.le_succ _))); have HR1 := Lib.hid (HR0.out.below hb1 (Nat.lt_succ_self _)); clear hb1 hf1)
    | (go_at_call 7; (with_reducible refine (hf2.out _ Hb.out).mono ?_); rintro e w0 ⟨rfl, rfl⟩; clear hf2)
    | (go_at_call 8; refine (awake15_any _).mono ?_; rintro e w9 ⟨rfl, hb9⟩; replace Hb := Lib.hid (Hb.out.trans (hb9.mono Hb.out.size)); clear hb9))
  go_ret
  exact ⟨rfl, Hb.out⟩
set_option maxRecDepth 100000 in
set_option maxHeartbeats 8000000 in
theorem recordBack_111 (r : Rc) (l : List Rc) (A : Option Addr) (n c : Nat) (hl : l.length = n) (s : List UInt8) (w : World) (h : fewF [r] = true) (h0 : fewF l = true) (h2 : s.length ≤ 5000) (hm : rmay r = true) (hj : (rjoinF l).2 = 0) (hq : (rsplitF s).2 = 0) (hr : Reads w w.heap.size 3 A n (rcs l)) :
    Calls Try.prog 5 #[.agg #[.int .i64 r.1, .int .i64 r.2.1, .string ⟨r.2.2.toArray⟩], .slice A n c, .string ⟨s.toArray⟩] w fun e w' => e = .returned (.bool true) ∧ Below w.heap.size w w' := by
  have Hb := Lib.hid (Below.refl w.heap.size w)
  have HB0 := Lib.hid ((Below.refl w.heap.size w).alloc (Nat.le_refl _) (.cells #[.int .i64 r.1, .int .i64 r.2.1, .string ⟨r.2.2.toArray⟩] 23))
  have HR0 := Lib.hid (Blk.new w 23 #[.int .i64 r.1, .int .i64 r.2.1, .string ⟨r.2.2.toArray⟩])
  have hf1 := Lib.hid (rfew_any r true h (w.alloc (.cells #[.int .i64 r.1, .int .i64 r.2.1, .string ⟨r.2.2.toArray⟩] 23)))
  simp only [World.size_alloc] at hf1
  have hf2 := Lib.hid fun W (hb : Below w.heap.size w W) => few_any l A n c W hl ((hr.below hb).more hb.size)
  rw [h0] at hf2
  have h1 : ¬ (5000 : Int) < s.length := by omega
  have hn : n ≤ 1000000 := by have := few_len h0; omega
  have P1 := fun W => p_rput_any r.1 r.2.1 r.2.2 W
  have e1 : rputF (r.1, r.2.1, r.2.2) = (rB r, 0) := (rchk_yes hm).2
  rw [e1] at P1
  have hB := rB_len hm
  have hsz := fun W => p_rsize_any r.1 r.2.1 r.2.2 W
  have e2 : rsizeF (r.1, r.2.1, r.2.2) = (rB r).length := by unfold rsizeF; rw [e1]
  rw [e2] at hsz
  have hg := rget_put [98, 101, 102, 111, 114, 101] s r hm 6 rfl
  have g1 := fun W => rstr_add [98, 101, 102, 111, 114, 101] (rB r) (by rw [List.length_cons, List.length_cons, List.length_cons, List.length_cons, List.length_cons, List.length_cons, List.length_nil]; omega) W
  have g2 := fun W => rstr_add ([98, 101, 102, 111, 114, 101] ++ rB r) s (by rw [List.length_append, List.length_cons, List.length_cons, List.length_cons, List.length_cons, List.length_cons, List.length_cons, List.length_nil]; omega) W
  have G1 := fun W => p_rget_any ([98, 101, 102, 111, 114, 101] ++ (rB r ++ s)) 6 W (by rw [List.length_append, List.length_append, List.length_cons, List.length_cons, List.length_cons, List.length_cons, List.length_cons, List.length_cons, List.length_nil]; omega)
  rw [hg] at G1
  unfold RGPost at G1
  rw [← List.append_assoc] at G1
  have heq := fun W => rrec_same r.1 r.2.1 r.2.2 W
  have hgu := rrec_guard
  have hBi : (0 : Int) ≤ ((rB r).length : Int) ∧ ((rB r).length : Int) ≤ 2027 := by omega
  dsimp only [List.length_cons, List.length_nil] at G1
  replace G1 := Lib.hid G1
  replace hsz := Lib.hid hsz
  clear e1 e2 hg hB hm
  generalize [98, 101, 102, 111, 114, 101] ++ rB r ++ s = T at *
  generalize hT1 : [98, 101, 102, 111, 114, 101] ++ rB r = T1 at *
  clear hT1
  generalize rB r = B1 at *
  replace P1 := Lib.hid P1
  have J1 := fun W (hb : Below w.heap.size w W) => p_rjoin_any l A n c W hl hn ((hr.below hb).more hb.size)
  obtain ⟨e3, e4, e5⟩ := rback hj
  have S1 := fun W => p_rsplit_any (rjoinF l).1 W (by rw [e4]; dsimp only; omega)
  rw [e3] at S1
  rw [e4] at S1 J1
  unfold RSPost at S1
  dsimp only at S1 J1
  rw [hl] at S1
  have hs := fun A1 c1 W (h1 : Reads W W.heap.size 3 A1 n (rcs l)) (hb : Below w.heap.size w W) => rref_same_any l l A1 A n n c1 c W hl hl (by omega) (by omega) h1 ((hr.below hb).more hb.size)
  have e9 : decide (l = l) = true := decide_eq_true rfl
  simp only [e9] at hs
  replace S1 := Lib.hid S1
  replace hs := Lib.hid hs
  clear e3 e4 e5 e9 hj
  generalize rjB l = X at *
  replace J1 := Lib.hid J1
  have Z1 := fun W => p_rsplit_any s W (by omega)
  unfold RSPost at Z1
  have hcn := rsplit_count s
  have K1 := fun A1 c1 W h1 => p_rjoin_any (rsplitF s).1 A1 (rsplitF s).1.length c1 W rfl (by omega) h1
  rw [rforth hq] at K1
  rw [hq] at Z1
  dsimp only at K1
  replace K1 := Lib.hid K1
  clear hcn hq
  generalize (rsplitF s).1.length = q at *
  generalize rcs (rsplitF s).1 = Q at *
  replace Z1 := Lib.hid Z1
  clear hr h h0 h2 hn hl
  obtain ⟨x, y, d⟩ := r
  dsimp only at *
  go_enter Try.func5, Try.ntmps5
  go_wp2_with (first
    | (go_at_call 7; (with_reducible refine hf1.out.mono ?_); rintro e w1 ⟨rfl, hb1⟩; replace Hb := Lib.hid (HB0.out.trans (hb1.mono (Nat.le_succ _))); have HR1 := Lib.hid (HR0.out.below hb1 (Nat.lt_succ_self _)); clear hb1 hf1; have t0 : w1.cell? ⟨w.heap.size, 0, none⟩ = some (.int .i64 x) := HR1.out.cell 0; have t1 : w1.cell? ⟨w.heap.size, 1, none⟩ = some (.int .i64 y) := HR1.out.cell 1; have t2 : w1.cell? ⟨w.heap.size, 2, none⟩ = some (.string ⟨d.toArray⟩) := HR1.out.cell 2)
    | (go_at_call 7; (with_reducible refine (hf2.out _ Hb.out).mono ?_); rintro e w0 ⟨rfl, rfl⟩; clear hf2)
    | (go_at_call 9; (with_reducible refine (P1.out _).mono ?_); rintro e w2 ⟨rfl, hb2⟩; have hb2' := hb2; replace Hb := Lib.hid (Hb.out.trans (hb2.mono Hb.out.size)); clear hb2; have HR2 := Lib.hid (HR1.out.below hb2' HR1.out.lt); clear hb2' P1)
    | (go_at_call 11; (with_reducible refine (G1.out _).mono ?_); rintro e w3 ⟨rfl, hb3⟩; have HR3 := Lib.hid ((HR2.out.below hb3 HR2.out.lt).alloc (.cells #[.int .i64 x, .int .i64 y, .string ⟨d.toArray⟩] 23)); replace Hb := Lib.hid (Hb.out.trans (hb3.mono Hb.out.size)); clear hb3; replace Hb := Lib.hid (Hb.out.alloc Hb.out.size (.cells #[.int .i64 x, .int .i64 y, .string ⟨d.toArray⟩] 23)); have u0 : (w3.alloc (.cells #[.int .i64 x, .int .i64 y, .string ⟨d.toArray⟩] 23)).cell? ⟨w.heap.size, 0, none⟩ = some (.int .i64 x) := HR3.out.cell 0; have u1 : (w3.alloc (.cells #[.int .i64 x, .int .i64 y, .string ⟨d.toArray⟩] 23)).cell? ⟨w.heap.size, 1, none⟩ = some (.int .i64 y) := HR3.out.cell 1; have u2 : (w3.alloc (.cells #[.int .i64 x, .int .i64 y, .string ⟨d.toArray⟩] 23)).cell? ⟨w.heap.size, 2, none⟩ = some (.string ⟨d.toArray⟩) := HR3.out.cell 2; clear G1)
    | (go_at_call 15; (with_reducible refine (hsz.out _).mono ?_); rintro e w4 ⟨rfl, hb4⟩; replace Hb := Lib.hid (Hb.out.trans (hb4.mono Hb.out.size)); clear hb4; clear hsz)
    | (go_at_call 17; (with_reducible refine (J1.out _ Hb.out).mono ?_); rintro e w5 ⟨rfl, hb5⟩; replace Hb := Lib.hid (Hb.out.trans (hb5.mono Hb.out.size)); clear hb5; clear J1)
    | (go_at_call 19; (with_reducible refine (S1.out _).mono ?_); rintro e w6 ⟨A6, c6, rfl, _, hr6, hb6⟩; replace Hb := Lib.hid (Hb.out.trans (hb6.mono Hb.out.size)); clear hb6; have Hr6 := Lib.hid hr6; clear hr6 S1)
    | (go_at_call 23; (with_reducible refine (hs.out _ _ _ Hr6.out Hb.out).mono ?_); rintro e w7 ⟨rfl, hb7⟩; replace Hb := Lib.hid (Hb.out.trans (hb7.mono Hb.out.size)); clear hb7; clear hs Hr6)
    | (go_at_call 19; (with_reducible refine (Z1.out _).mono ?_); rintro e w8 ⟨A8, c8, rfl, _, hr8, hb8⟩; replace Hb := Lib.hid (Hb.out.trans (hb8.mono Hb.out.size)); clear hb8; have Hr8 := Lib.hid hr8; clear hr8 Z1)
    | (go_at_call 17; (with_reducible refine (K1.out _ _ _ Hr8.out).mono ?_); rintro e w10 ⟨rfl, hb10⟩; replace Hb := Lib.hid (Hb.out.trans (hb10.mono Hb.out.size)); clear hb10; clear K1)
    | (go_at_call 8; refine (awake15_any _).mono ?_; rintro e w9 ⟨rfl, hb9⟩; replace Hb := Lib.hid (Hb.out.trans (hb9.mono Hb.out.size)); clear hb9))
  go_ret
  exact ⟨rfl, Hb.out⟩
set_option maxRecDepth 100000 in
set_option maxHeartbeats 8000000 in
theorem recordBack_110 (r : Rc) (l : List Rc) (A : Option Addr) (n c : Nat) (hl : l.length = n) (s : List UInt8) (w : World) (h : fewF [r] = true) (h0 : fewF l = true) (h2 : s.length ≤ 5000) (hm : rmay r = true) (hj : (rjoinF l).2 = 0) (hq : (rsplitF s).2 ≠ 0) (hr : Reads w w.heap.size 3 A n (rcs l)) :
    Calls Try.prog 5 #[.agg #[.int .i64 r.1, .int .i64 r.2.1, .string ⟨r.2.2.toArray⟩], .slice A n c, .string ⟨s.toArray⟩] w fun e w' => e = .returned (.bool true) ∧ Below w.heap.size w w' := by
  have Hb := Lib.hid (Below.refl w.heap.size w)
  have HB0 := Lib.hid ((Below.refl w.heap.size w).alloc (Nat.le_refl _) (.cells #[.int .i64 r.1, .int .i64 r.2.1, .string ⟨r.2.2.toArray⟩] 23))
  have HR0 := Lib.hid (Blk.new w 23 #[.int .i64 r.1, .int .i64 r.2.1, .string ⟨r.2.2.toArray⟩])
  have hf1 := Lib.hid (rfew_any r true h (w.alloc (.cells #[.int .i64 r.1, .int .i64 r.2.1, .string ⟨r.2.2.toArray⟩] 23)))
  simp only [World.size_alloc] at hf1
  have hf2 := Lib.hid fun W (hb : Below w.heap.size w W) => few_any l A n c W hl ((hr.below hb).more hb.size)
  rw [h0] at hf2
  have h1 : ¬ (5000 : Int) < s.length := by omega
  have hn : n ≤ 1000000 := by have := few_len h0; omega
  have P1 := fun W => p_rput_any r.1 r.2.1 r.2.2 W
  have e1 : rputF (r.1, r.2.1, r.2.2) = (rB r, 0) := (rchk_yes hm).2
  rw [e1] at P1
  have hB := rB_len hm
  have hsz := fun W => p_rsize_any r.1 r.2.1 r.2.2 W
  have e2 : rsizeF (r.1, r.2.1, r.2.2) = (rB r).length := by unfold rsizeF; rw [e1]
  rw [e2] at hsz
  have hg := rget_put [98, 101, 102, 111, 114, 101] s r hm 6 rfl
  have g1 := fun W => rstr_add [98, 101, 102, 111, 114, 101] (rB r) (by rw [List.length_cons, List.length_cons, List.length_cons, List.length_cons, List.length_cons, List.length_cons, List.length_nil]; omega) W
  have g2 := fun W => rstr_add ([98, 101, 102, 111, 114, 101] ++ rB r) s (by rw [List.length_append, List.length_cons, List.length_cons, List.length_cons, List.length_cons, List.length_cons, List.length_cons, List.length_nil]; omega) W
  have G1 := fun W => p_rget_any ([98, 101, 102, 111, 114, 101] ++ (rB r ++ s)) 6 W (by rw [List.length_append, List.length_append, List.length_cons, List.length_cons, List.length_cons, List.length_cons, List.length_cons, List.length_cons, List.length_nil]; omega)
  rw [hg] at G1
  unfold RGPost at G1
  rw [← List.append_assoc] at G1
  have heq := fun W => rrec_same r.1 r.2.1 r.2.2 W
  have hgu := rrec_guard
  have hBi : (0 : Int) ≤ ((rB r).length : Int) ∧ ((rB r).length : Int) ≤ 2027 := by omega
  dsimp only [List.length_cons, List.length_nil] at G1
  replace G1 := Lib.hid G1
  replace hsz := Lib.hid hsz
  clear e1 e2 hg hB hm
  generalize [98, 101, 102, 111, 114, 101] ++ rB r ++ s = T at *
  generalize hT1 : [98, 101, 102, 111, 114, 101] ++ rB r = T1 at *
  clear hT1
  generalize rB r = B1 at *
  replace P1 := Lib.hid P1
  have J1 := fun W (hb : Below w.heap.size w W) => p_rjoin_any l A n c W hl hn ((hr.below hb).more hb.size)
  obtain ⟨e3, e4, e5⟩ := rback hj
  have S1 := fun W => p_rsplit_any (rjoinF l).1 W (by rw [e4]; dsimp only; omega)
  rw [e3] at S1
  rw [e4] at S1 J1
  unfold RSPost at S1
  dsimp only at S1 J1
  rw [hl] at S1
  have hs := fun A1 c1 W (h1 : Reads W W.heap.size 3 A1 n (rcs l)) (hb : Below w.heap.size w W) => rref_same_any l l A1 A n n c1 c W hl hl (by omega) (by omega) h1 ((hr.below hb).more hb.size)
  have e9 : decide (l = l) = true := decide_eq_true rfl
  simp only [e9] at hs
  replace S1 := Lib.hid S1
  replace hs := Lib.hid hs
  clear e3 e4 e5 e9 hj
  generalize rjB l = X at *
  replace J1 := Lib.hid J1
  have Z1 := fun W => p_rsplit_any s W (by omega)
  unfold RSPost at Z1
  rw [rsplit_no hq] at Z1
  have z1 : ((rsplitF s).2 != 0) = true := by simpa using hq
  clear hq
  generalize (rsplitF s).2 = E8 at *
  dsimp only [List.length_nil] at Z1
  replace Z1 := Lib.hid Z1
  clear hr h h0 h2 hn hl
  obtain ⟨x, y, d⟩ := r
  dsimp only at *
  go_enter Try.func5, Try.ntmps5
  go_wp2_with (first
    | (go_at_call 7; (with_reducible refine hf1.out.mono ?_); rintro e w1 ⟨rfl, hb1⟩; replace Hb := Lib.hid (HB0.out.trans (hb1.mono (Nat.le_succ _))); have HR1 := Lib.hid (HR0.out.below hb1 (Nat.lt_succ_self _)); clear hb1 hf1; have t0 : w1.cell? ⟨w.heap.size, 0, none⟩ = some (.int .i64 x) := HR1.out.cell 0; have t1 : w1.cell? ⟨w.heap.size, 1, none⟩ = some (.int .i64 y) := HR1.out.cell 1; have t2 : w1.cell? ⟨w.heap.size, 2, none⟩ = some (.string ⟨d.toArray⟩) := HR1.out.cell 2)
    | (go_at_call 7; (with_reducible refine (hf2.out _ Hb.out).mono ?_); rintro e w0 ⟨rfl, rfl⟩; clear hf2)
    | (go_at_call 9; (with_reducible refine (P1.out _).mono ?_); rintro e w2 ⟨rfl, hb2⟩; have hb2' := hb2; replace Hb := Lib.hid (Hb.out.trans (hb2.mono Hb.out.size)); clear hb2; have HR2 := Lib.hid (HR1.out.below hb2' HR1.out.lt); clear hb2' P1)
    | (go_at_call 11; (with_reducible refine (G1.out _).mono ?_); rintro e w3 ⟨rfl, hb3⟩; have HR3 := Lib.hid ((HR2.out.below hb3 HR2.out.lt).alloc (.cells #[.int .i64 x, .int .i64 y, .string ⟨d.toArray⟩] 23)); replace Hb := Lib.hid (Hb.out.trans (hb3.mono Hb.out.size)); clear hb3; replace Hb := Lib.hid (Hb.out.alloc Hb.out.size (.cells #[.int .i64 x, .int .i64 y, .string ⟨d.toArray⟩] 23)); have u0 : (w3.alloc (.cells #[.int .i64 x, .int .i64 y, .string ⟨d.toArray⟩] 23)).cell? ⟨w.heap.size, 0, none⟩ = some (.int .i64 x) := HR3.out.cell 0; have u1 : (w3.alloc (.cells #[.int .i64 x, .int .i64 y, .string ⟨d.toArray⟩] 23)).cell? ⟨w.heap.size, 1, none⟩ = some (.int .i64 y) := HR3.out.cell 1; have u2 : (w3.alloc (.cells #[.int .i64 x, .int .i64 y, .string ⟨d.toArray⟩] 23)).cell? ⟨w.heap.size, 2, none⟩ = some (.string ⟨d.toArray⟩) := HR3.out.cell 2; clear G1)
    | (go_at_call 15; (with_reducible refine (hsz.out _).mono ?_); rintro e w4 ⟨rfl, hb4⟩; replace Hb := Lib.hid (Hb.out.trans (hb4.mono Hb.out.size)); clear hb4; clear hsz)
    | (go_at_call 17; (with_reducible refine (J1.out _ Hb.out).mono ?_); rintro e w5 ⟨rfl, hb5⟩; replace Hb := Lib.hid (Hb.out.trans (hb5.mono Hb.out.size)); clear hb5; clear J1)
    | (go_at_call 19; (with_reducible refine (S1.out _).mono ?_); rintro e w6 ⟨A6, c6, rfl, _, hr6, hb6⟩; replace Hb := Lib.hid (Hb.out.trans (hb6.mono Hb.out.size)); clear hb6; have Hr6 := Lib.hid hr6; clear hr6 S1)
    | (go_at_call 23; (with_reducible refine (hs.out _ _ _ Hr6.out Hb.out).mono ?_); rintro e w7 ⟨rfl, hb7⟩; replace Hb := Lib.hid (Hb.out.trans (hb7.mono Hb.out.size)); clear hb7; clear hs Hr6)
    | (go_at_call 19; (with_reducible refine (Z1.out _).mono ?_); rintro e w8 ⟨A8, c8, rfl, _, _, hb8⟩; replace Hb := Lib.hid (Hb.out.trans (hb8.mono Hb.out.size)); clear hb8; clear Z1)
    | (go_at_call 8; refine (awake15_any _).mono ?_; rintro e w9 ⟨rfl, hb9⟩; replace Hb := Lib.hid (Hb.out.trans (hb9.mono Hb.out.size)); clear hb9))
  go_ret
  exact ⟨rfl, Hb.out⟩
set_option maxRecDepth 100000 in
set_option maxHeartbeats 8000000 in
theorem recordBack_101 (r : Rc) (l : List Rc) (A : Option Addr) (n c : Nat) (hl : l.length = n) (s : List UInt8) (w : World) (h : fewF [r] = true) (h0 : fewF l = true) (h2 : s.length ≤ 5000) (hm : rmay r = true) (hj : (rjoinF l).2 ≠ 0) (hq : (rsplitF s).2 = 0) (hr : Reads w w.heap.size 3 A n (rcs l)) :
    Calls Try.prog 5 #[.agg #[.int .i64 r.1, .int .i64 r.2.1, .string ⟨r.2.2.toArray⟩], .slice A n c, .string ⟨s.toArray⟩] w fun e w' => e = .returned (.bool true) ∧ Below w.heap.size w w' := by
  have Hb := Lib.hid (Below.refl w.heap.size w)
  have HB0 := Lib.hid ((Below.refl w.heap.size w).alloc (Nat.le_refl _) (.cells #[.int .i64 r.1, .int .i64 r.2.1, .string ⟨r.2.2.toArray⟩] 23))
  have HR0 := Lib.hid (Blk.new w 23 #[.int .i64 r.1, .int .i64 r.2.1, .string ⟨r.2.2.toArray⟩])
  have hf1 := Lib.hid (rfew_any r true h (w.alloc (.cells #[.int .i64 r.1, .int .i64 r.2.1, .string ⟨r.2.2.toArray⟩] 23)))
  simp only [World.size_alloc] at hf1
  have hf2 := Lib.hid fun W (hb : Below w.heap.size w W) => few_any l A n c W hl ((hr.below hb).more hb.size)
  rw [h0] at hf2
  have h1 : ¬ (5000 : Int) < s.length := by omega
  have hn : n ≤ 1000000 := by have := few_len h0; omega
  have P1 := fun W => p_rput_any r.1 r.2.1 r.2.2 W
  have e1 : rputF (r.1, r.2.1, r.2.2) = (rB r, 0) := (rchk_yes hm).2
  rw [e1] at P1
  have hB := rB_len hm
  have hsz := fun W => p_rsize_any r.1 r.2.1 r.2.2 W
  have e2 : rsizeF (r.1, r.2.1, r.2.2) = (rB r).length := by unfold rsizeF; rw [e1]
  rw [e2] at hsz
  have hg := rget_put [98, 101, 102, 111, 114, 101] s r hm 6 rfl
  have g1 := fun W => rstr_add [98, 101, 102, 111, 114, 101] (rB r) (by rw [List.length_cons, List.length_cons, List.length_cons, List.length_cons, List.length_cons, List.length_cons, List.length_nil]; omega) W
  have g2 := fun W => rstr_add ([98, 101, 102, 111, 114, 101] ++ rB r) s (by rw [List.length_append, List.length_cons, List.length_cons, List.length_cons, List.length_cons, List.length_cons, List.length_cons, List.length_nil]; omega) W
  have G1 := fun W => p_rget_any ([98, 101, 102, 111, 114, 101] ++ (rB r ++ s)) 6 W (by rw [List.length_append, List.length_append, List.length_cons, List.length_cons, List.length_cons, List.length_cons, List.length_cons, List.length_cons, List.length_nil]; omega)
  rw [hg] at G1
  unfold RGPost at G1
  rw [← List.append_assoc] at G1
  have heq := fun W => rrec_same r.1 r.2.1 r.2.2 W
  have hgu := rrec_guard
  have hBi : (0 : Int) ≤ ((rB r).length : Int) ∧ ((rB r).length : Int) ≤ 2027 := by omega
  dsimp only [List.length_cons, List.length_nil] at G1
  replace G1 := Lib.hid G1
  replace hsz := Lib.hid hsz
  clear e1 e2 hg hB hm
  generalize [98, 101, 102, 111, 114, 101] ++ rB r ++ s = T at *
  generalize hT1 : [98, 101, 102, 111, 114, 101] ++ rB r = T1 at *
  clear hT1
  generalize rB r = B1 at *
  replace P1 := Lib.hid P1
  have J1 := fun W (hb : Below w.heap.size w W) => p_rjoin_any l A n c W hl hn ((hr.below hb).more hb.size)
  rw [rjoin_no hj] at J1
  have j1 : ((rjoinF l).2 == 0) = false := by simpa using hj
  clear hj
  generalize (rjoinF l).2 = E5 at *
  replace J1 := Lib.hid J1
  have Z1 := fun W => p_rsplit_any s W (by omega)
  unfold RSPost at Z1
  have hcn := rsplit_count s
  have K1 := fun A1 c1 W h1 => p_rjoin_any (rsplitF s).1 A1 (rsplitF s).1.length c1 W rfl (by omega) h1
  rw [rforth hq] at K1
  rw [hq] at Z1
  dsimp only at K1
  replace K1 := Lib.hid K1
  clear hcn hq
  generalize (rsplitF s).1.length = q at *
  generalize rcs (rsplitF s).1 = Q at *
  replace Z1 := Lib.hid Z1
  clear hr h h0 h2 hn hl
  obtain ⟨x, y, d⟩ := r
  dsimp only at *
  go_enter Try.func5, Try.ntmps5
  go_wp2_with (first
    | (go_at_call 7; (with_reducible refine hf1.out.mono ?_); rintro e w1 ⟨rfl, hb1⟩; replace Hb := Lib.hid (HB0.out.trans (hb1.mono (Nat.le_succ _))); have HR1 := Lib.hid (HR0.out.below hb1 (Nat.lt_succ_self _)); clear hb1 hf1; have t0 : w1.cell? ⟨w.heap.size, 0, none⟩ = some (.int .i64 x) := HR1.out.cell 0; have t1 : w1.cell? ⟨w.heap.size, 1, none⟩ = some (.int .i64 y) := HR1.out.cell 1; have t2 : w1.cell? ⟨w.heap.size, 2, none⟩ = some (.string ⟨d.toArray⟩) := HR1.out.cell 2)
    | (go_at_call 7; (with_reducible refine (hf2.out _ Hb.out).mono ?_); rintro e w0 ⟨rfl, rfl⟩; clear hf2)
    | (go_at_call 9; (with_reducible refine (P1.out _).mono ?_); rintro e w2 ⟨rfl, hb2⟩; have hb2' := hb2; replace Hb := Lib.hid (Hb.out.trans (hb2.mono Hb.out.size)); clear hb2; have HR2 := Lib.hid (HR1.out.below hb2' HR1.out.lt); clear hb2' P1)
    | (go_at_call 11; (with_reducible refine (G1.out _).mono ?_); rintro e w3 ⟨rfl, hb3⟩; have HR3 := Lib.hid ((HR2.out.below hb3 HR2.out.lt).alloc (.cells #[.int .i64 x, .int .i64 y, .string ⟨d.toArray⟩] 23)); replace Hb := Lib.hid (Hb.out.trans (hb3.mono Hb.out.size)); clear hb3; replace Hb := Lib.hid (Hb.out.alloc Hb.out.size (.cells #[.int .i64 x, .int .i64 y, .string ⟨d.toArray⟩] 23)); have u0 : (w3.alloc (.cells #[.int .i64 x, .int .i64 y, .string ⟨d.toArray⟩] 23)).cell? ⟨w.heap.size, 0, none⟩ = some (.int .i64 x) := HR3.out.cell 0; have u1 : (w3.alloc (.cells #[.int .i64 x, .int .i64 y, .string ⟨d.toArray⟩] 23)).cell? ⟨w.heap.size, 1, none⟩ = some (.int .i64 y) := HR3.out.cell 1; have u2 : (w3.alloc (.cells #[.int .i64 x, .int .i64 y, .string ⟨d.toArray⟩] 23)).cell? ⟨w.heap.size, 2, none⟩ = some (.string ⟨d.toArray⟩) := HR3.out.cell 2; clear G1)
    | (go_at_call 15; (with_reducible refine (hsz.out _).mono ?_); rintro e w4 ⟨rfl, hb4⟩; replace Hb := Lib.hid (Hb.out.trans (hb4.mono Hb.out.size)); clear hb4; clear hsz)
    | (go_at_call 17; (with_reducible refine (J1.out _ Hb.out).mono ?_); rintro e w5 ⟨rfl, hb5⟩; replace Hb := Lib.hid (Hb.out.trans (hb5.mono Hb.out.size)); clear hb5; clear J1)
    | (go_at_call 19; (with_reducible refine (Z1.out _).mono ?_); rintro e w8 ⟨A8, c8, rfl, _, hr8, hb8⟩; replace Hb := Lib.hid (Hb.out.trans (hb8.mono Hb.out.size)); clear hb8; have Hr8 := Lib.hid hr8; clear hr8 Z1)
    | (go_at_call 17; (with_reducible refine (K1.out _ _ _ Hr8.out).mono ?_); rintro e w10 ⟨rfl, hb10⟩; replace Hb := Lib.hid (Hb.out.trans (hb10.mono Hb.out.size)); clear hb10; clear K1)
    | (go_at_call 8; refine (awake15_any _).mono ?_; rintro e w9 ⟨rfl, hb9⟩; replace Hb := Lib.hid (Hb.out.trans (hb9.mono Hb.out.size)); clear hb9))
  go_ret
  exact ⟨rfl, Hb.out⟩
set_option maxRecDepth 100000 in
set_option maxHeartbeats 8000000 in
theorem recordBack_100 (r : Rc) (l : List Rc) (A : Option Addr) (n c : Nat) (hl : l.length = n) (s : List UInt8) (w : World) (h : fewF [r] = true) (h0 : fewF l = true) (h2 : s.length ≤ 5000) (hm : rmay r = true) (hj : (rjoinF l).2 ≠ 0) (hq : (rsplitF s).2 ≠ 0) (hr : Reads w w.heap.size 3 A n (rcs l)) :
    Calls Try.prog 5 #[.agg #[.int .i64 r.1, .int .i64 r.2.1, .string ⟨r.2.2.toArray⟩], .slice A n c, .string ⟨s.toArray⟩] w fun e w' => e = .returned (.bool true) ∧ Below w.heap.size w w' := by
  have Hb := Lib.hid (Below.refl w.heap.size w)
  have HB0 := Lib.hid ((Below.refl w.heap.size w).alloc (Nat.le_refl _) (.cells #[.int .i64 r.1, .int .i64 r.2.1, .string ⟨r.2.2.toArray⟩] 23))
  have HR0 := Lib.hid (Blk.new w 23 #[.int .i64 r.1, .int .i64 r.2.1, .string ⟨r.2.2.toArray⟩])
  have hf1 := Lib.hid (rfew_any r true h (w.alloc (.cells #[.int .i64 r.1, .int .i64 r.2.1, .string ⟨r.2.2.toArray⟩] 23)))
  simp only [World.size_alloc] at hf1
  have hf2 := Lib.hid fun W (hb : Below w.heap.size w W) => few_any l A n c W hl ((hr.below hb).more hb.size)
  rw [h0] at hf2
  have h1 : ¬ (5000 : Int) < s.length := by omega
  have hn : n ≤ 1000000 := by have := few_len h0; omega
  have P1 := fun W => p_rput_any r.1 r.2.1 r.2.2 W
  have e1 : rputF (r.1, r.2.1, r.2.2) = (rB r, 0) := (rchk_yes hm).2
  rw [e1] at P1
  have hB := rB_len hm
  have hsz := fun W => p_rsize_any r.1 r.2.1 r.2.2 W
  have e2 : rsizeF (r.1, r.2.1, r.2.2) = (rB r).length := by unfold rsizeF; rw [e1]
  rw [e2] at hsz
  have hg := rget_put [98, 101, 102, 111, 114, 101] s r hm 6 rfl
  have g1 := fun W => rstr_add [98, 101, 102, 111, 114, 101] (rB r) (by rw [List.length_cons, List.length_cons, List.length_cons, List.length_cons, List.length_cons, List.length_cons, List.length_nil]; omega) W
  have g2 := fun W => rstr_add ([98, 101, 102, 111, 114, 101] ++ rB r) s (by rw [List.length_append, List.length_cons, List.length_cons, List.length_cons, List.length_cons, List.length_cons, List.length_cons, List.length_nil]; omega) W
  have G1 := fun W => p_rget_any ([98, 101, 102, 111, 114, 101] ++ (rB r ++ s)) 6 W (by rw [List.length_append, List.length_append, List.length_cons, List.length_cons, List.length_cons, List.length_cons, List.length_cons, List.length_cons, List.length_nil]; omega)
  rw [hg] at G1
  unfold RGPost at G1
  rw [← List.append_assoc] at G1
  have heq := fun W => rrec_same r.1 r.2.1 r.2.2 W
  have hgu := rrec_guard
  have hBi : (0 : Int) ≤ ((rB r).length : Int) ∧ ((rB r).length : Int) ≤ 2027 := by omega
  dsimp only [List.length_cons, List.length_nil] at G1
  replace G1 := Lib.hid G1
  replace hsz := Lib.hid hsz
  clear e1 e2 hg hB hm
  generalize [98, 101, 102, 111, 114, 101] ++ rB r ++ s = T at *
  generalize hT1 : [98, 101, 102, 111, 114, 101] ++ rB r = T1 at *
  clear hT1
  generalize rB r = B1 at *
  replace P1 := Lib.hid P1
  have J1 := fun W (hb : Below w.heap.size w W) => p_rjoin_any l A n c W hl hn ((hr.below hb).more hb.size)
  rw [rjoin_no hj] at J1
  have j1 : ((rjoinF l).2 == 0) = false := by simpa using hj
  clear hj
  generalize (rjoinF l).2 = E5 at *
  replace J1 := Lib.hid J1
  have Z1 := fun W => p_rsplit_any s W (by omega)
  unfold RSPost at Z1
  rw [rsplit_no hq] at Z1
  have z1 : ((rsplitF s).2 != 0) = true := by simpa using hq
  clear hq
  generalize (rsplitF s).2 = E8 at *
  dsimp only [List.length_nil] at Z1
  replace Z1 := Lib.hid Z1
  clear hr h h0 h2 hn hl
  obtain ⟨x, y, d⟩ := r
  dsimp only at *
  go_enter Try.func5, Try.ntmps5
  go_wp2_with (first
    | (go_at_call 7; (with_reducible refine hf1.out.mono ?_); rintro e w1 ⟨rfl, hb1⟩; replace Hb := Lib.hid (HB0.out.trans (hb1.mono (Nat.le_succ _))); have HR1 := Lib.hid (HR0.out.below hb1 (Nat.lt_succ_self _)); clear hb1 hf1; have t0 : w1.cell? ⟨w.heap.size, 0, none⟩ = some (.int .i64 x) := HR1.out.cell 0; have t1 : w1.cell? ⟨w.heap.size, 1, none⟩ = some (.int .i64 y) := HR1.out.cell 1; have t2 : w1.cell? ⟨w.heap.size, 2, none⟩ = some (.string ⟨d.toArray⟩) := HR1.out.cell 2)
    | (go_at_call 7; (with_reducible refine (hf2.out _ Hb.out).mono ?_); rintro e w0 ⟨rfl, rfl⟩; clear hf2)
    | (go_at_call 9; (with_reducible refine (P1.out _).mono ?_); rintro e w2 ⟨rfl, hb2⟩; have hb2' := hb2; replace Hb := Lib.hid (Hb.out.trans (hb2.mono Hb.out.size)); clear hb2; have HR2 := Lib.hid (HR1.out.below hb2' HR1.out.lt); clear hb2' P1)
    | (go_at_call 11; (with_reducible refine (G1.out _).mono ?_); rintro e w3 ⟨rfl, hb3⟩; have HR3 := Lib.hid ((HR2.out.below hb3 HR2.out.lt).alloc (.cells #[.int .i64 x, .int .i64 y, .string ⟨d.toArray⟩] 23)); replace Hb := Lib.hid (Hb.out.trans (hb3.mono Hb.out.size)); clear hb3; replace Hb := Lib.hid (Hb.out.alloc Hb.out.size (.cells #[.int .i64 x, .int .i64 y, .string ⟨d.toArray⟩] 23)); have u0 : (w3.alloc (.cells #[.int .i64 x, .int .i64 y, .string ⟨d.toArray⟩] 23)).cell? ⟨w.heap.size, 0, none⟩ = some (.int .i64 x) := HR3.out.cell 0; have u1 : (w3.alloc (.cells #[.int .i64 x, .int .i64 y, .string ⟨d.toArray⟩] 23)).cell? ⟨w.heap.size, 1, none⟩ = some (.int .i64 y) := HR3.out.cell 1; have u2 : (w3.alloc (.cells #[.int .i64 x, .int .i64 y, .string ⟨d.toArray⟩] 23)).cell? ⟨w.heap.size, 2, none⟩ = some (.string ⟨d.toArray⟩) := HR3.out.cell 2; clear G1)
    | (go_at_call 15; (with_reducible refine (hsz.out _).mono ?_); rintro e w4 ⟨rfl, hb4⟩; replace Hb := Lib.hid (Hb.out.trans (hb4.mono Hb.out.size)); clear hb4; clear hsz)
    | (go_at_call 17; (with_reducible refine (J1.out _ Hb.out).mono ?_); rintro e w5 ⟨rfl, hb5⟩; replace Hb := Lib.hid (Hb.out.trans (hb5.mono Hb.out.size)); clear hb5; clear J1)
    | (go_at_call 19; (with_reducible refine (Z1.out _).mono ?_); rintro e w8 ⟨A8, c8, rfl, _, _, hb8⟩; replace Hb := Lib.hid (Hb.out.trans (hb8.mono Hb.out.size)); clear hb8; clear Z1)
    | (go_at_call 8; refine (awake15_any _).mono ?_; rintro e w9 ⟨rfl, hb9⟩; replace Hb := Lib.hid (Hb.out.trans (hb9.mono Hb.out.size)); clear hb9))
  go_ret
  exact ⟨rfl, Hb.out⟩
set_option maxRecDepth 100000 in
set_option maxHeartbeats 8000000 in
theorem recordBack_011 (r : Rc) (l : List Rc) (A : Option Addr) (n c : Nat) (hl : l.length = n) (s : List UInt8) (w : World) (h : fewF [r] = true) (h0 : fewF l = true) (h2 : s.length ≤ 5000) (hm : ¬ rmay r = true) (hj : (rjoinF l).2 = 0) (hq : (rsplitF s).2 = 0) (hr : Reads w w.heap.size 3 A n (rcs l)) :
    Calls Try.prog 5 #[.agg #[.int .i64 r.1, .int .i64 r.2.1, .string ⟨r.2.2.toArray⟩], .slice A n c, .string ⟨s.toArray⟩] w fun e w' => e = .returned (.bool true) ∧ Below w.heap.size w w' := by
  have Hb := Lib.hid (Below.refl w.heap.size w)
  have HB0 := Lib.hid ((Below.refl w.heap.size w).alloc (Nat.le_refl _) (.cells #[.int .i64 r.1, .int .i64 r.2.1, .string ⟨r.2.2.toArray⟩] 23))
  have HR0 := Lib.hid (Blk.new w 23 #[.int .i64 r.1, .int .i64 r.2.1, .string ⟨r.2.2.toArray⟩])
  have hf1 := Lib.hid (rfew_any r true h (w.alloc (.cells #[.int .i64 r.1, .int .i64 r.2.1, .string ⟨r.2.2.toArray⟩] 23)))
  simp only [World.size_alloc] at hf1
  have hf2 := Lib.hid fun W (hb : Below w.heap.size w W) => few_any l A n c W hl ((hr.below hb).more hb.size)
  rw [h0] at hf2
  have h1 : ¬ (5000 : Int) < s.length := by omega
  have hn : n ≤ 1000000 := by have := few_len h0; omega
  have P1 := fun W => p_rput_any r.1 r.2.1 r.2.2 W
  have e1 : rputF (r.1, r.2.1, r.2.2) = ([], 150) := (rchk_no hm).2
  rw [e1] at P1
  clear e1 hm
  replace P1 := Lib.hid P1
  have J1 := fun W (hb : Below w.heap.size w W) => p_rjoin_any l A n c W hl hn ((hr.below hb).more hb.size)
  obtain ⟨e3, e4, e5⟩ := rback hj
  have S1 := fun W => p_rsplit_any (rjoinF l).1 W (by rw [e4]; dsimp only; omega)
  rw [e3] at S1
  rw [e4] at S1 J1
  unfold RSPost at S1
  dsimp only at S1 J1
  rw [hl] at S1
  have hs := fun A1 c1 W (h1 : Reads W W.heap.size 3 A1 n (rcs l)) (hb : Below w.heap.size w W) => rref_same_any l l A1 A n n c1 c W hl hl (by omega) (by omega) h1 ((hr.below hb).more hb.size)
  have e9 : decide (l = l) = true := decide_eq_true rfl
  simp only [e9] at hs
  replace S1 := Lib.hid S1
  replace hs := Lib.hid hs
  clear e3 e4 e5 e9 hj
  generalize rjB l = X at *
  replace J1 := Lib.hid J1
  have Z1 := fun W => p_rsplit_any s W (by omega)
  unfold RSPost at Z1
  have hcn := rsplit_count s
  have K1 := fun A1 c1 W h1 => p_rjoin_any (rsplitF s).1 A1 (rsplitF s).1.length c1 W rfl (by omega) h1
  rw [rforth hq] at K1
  rw [hq] at Z1
  dsimp only at K1
  replace K1 := Lib.hid K1
  clear hcn hq
  generalize (rsplitF s).1.length = q at *
  generalize rcs (rsplitF s).1 = Q at *
  replace Z1 := Lib.hid Z1
  clear hr h h0 h2 hn hl
  obtain ⟨x, y, d⟩ := r
  dsimp only at *
  go_enter Try.func5, Try.ntmps5
  go_wp2_with (first
    | (go_at_call 7; (with_reducible refine hf1.out.mono ?_); rintro e w1 ⟨rfl, hb1⟩; replace Hb := Lib.hid (HB0.out.trans (hb1.mono (Nat.le_succ _))); have HR1 := Lib.hid (HR0.out.below hb1 (Nat.lt_succ_self _)); clear hb1 hf1; have t0 : w1.cell? ⟨w.heap.size, 0, none⟩ = some (.int .i64 x) := HR1.out.cell 0; have t1 : w1.cell? ⟨w.heap.size, 1, none⟩ = some (.int .i64 y) := HR1.out.cell 1; have t2 : w1.cell? ⟨w.heap.size, 2, none⟩ = some (.string ⟨d.toArray⟩) := HR1.out.cell 2)
    | (go_at_call 7; (with_reducible refine (hf2.out _ Hb.out).mono ?_); rintro e w0 ⟨rfl, rfl⟩; clear hf2)
    | (go_at_call 9; (with_reducible refine (P1.out _).mono ?_); rintro e w2 ⟨rfl, hb2⟩; have hb2' := hb2; replace Hb := Lib.hid (Hb.out.trans (hb2.mono Hb.out.size)); clear hb2; have HR2 := Lib.hid (HR1.out.below hb2' HR1.out.lt); clear hb2' P1)
    | (go_at_call 17; (with_reducible refine (J1.out _ Hb.out).mono ?_); rintro e w5 ⟨rfl, hb5⟩; replace Hb := Lib.hid (Hb.out.trans (hb5.mono Hb.out.size)); clear hb5; clear J1)
    | (go_at_call 19; (with_reducible refine (S1.out _).mono ?_); rintro e w6 ⟨A6, c6, rfl, _, hr6, hb6⟩; replace Hb := Lib.hid (Hb.out.trans (hb6.mono Hb.out.size)); clear hb6; have Hr6 := Lib.hid hr6; clear hr6 S1)
    | (go_at_call 23; (with_reducible refine (hs.out _ _ _ Hr6.out Hb.out).mono ?_); rintro e w7 ⟨rfl, hb7⟩; replace Hb := Lib.hid (Hb.out.trans (hb7.mono Hb.out.size)); clear hb7; clear hs Hr6)
    | (go_at_call 19; (with_reducible refine (Z1.out _).mono ?_); rintro e w8 ⟨A8, c8, rfl, _, hr8, hb8⟩; replace Hb := Lib.hid (Hb.out.trans (hb8.mono Hb.out.size)); clear hb8; have Hr8 := Lib.hid hr8; clear hr8 Z1)
    | (go_at_call 17; (with_reducible refine (K1.out _ _ _ Hr8.out).mono ?_); rintro e w10 ⟨rfl, hb10⟩; replace Hb := Lib.hid (Hb.out.trans (hb10.mono Hb.out.size)); clear hb10; clear K1)
    | (go_at_call 8; refine (awake15_any _).mono ?_; rintro e w9 ⟨rfl, hb9⟩; replace Hb := Lib.hid (Hb.out.trans (hb9.mono Hb.out.size)); clear hb9))
  go_ret
  exact ⟨rfl, Hb.out⟩
set_option maxRecDepth 100000 in
set_option maxHeartbeats 8000000 in
theorem recordBack_010 (r : Rc) (l : List Rc) (A : Option Addr) (n c : Nat) (hl : l.length = n) (s : List UInt8) (w : World) (h : fewF [r] = true) (h0 : fewF l = true) (h2 : s.length ≤ 5000) (hm : ¬ rmay r = true) (hj : (rjoinF l).2 = 0) (hq : (rsplitF s).2 ≠ 0) (hr : Reads w w.heap.size 3 A n (rcs l)) :
    Calls Try.prog 5 #[.agg #[.int .i64 r.1, .int .i64 r.2.1, .string ⟨r.2.2.toArray⟩], .slice A n c, .string ⟨s.toArray⟩] w fun e w' => e = .returned (.bool true) ∧ Below w.heap.size w w' := by
  have Hb := Lib.hid (Below.refl w.heap.size w)
  have HB0 := Lib.hid ((Below.refl w.heap.size w).alloc (Nat.le_refl _) (.cells #[.int .i64 r.1, .int .i64 r.2.1, .string ⟨r.2.2.toArray⟩] 23))
  have HR0 := Lib.hid (Blk.new w 23 #[.int .i64 r.1, .int .i64 r.2.1, .string ⟨r.2.2.toArray⟩])
  have hf1 := Lib.hid (rfew_any r true h (w.alloc (.cells #[.int .i64 r.1, .int .i64 r.2.1, .string ⟨r.2.2.toArray⟩] 23)))
  simp only [World.size_alloc] at hf1
  have hf2 := Lib.hid fun W (hb : Below w.heap.size w W) => few_any l A n c W hl ((hr.below hb).more hb.size)
  rw [h0] at hf2
  have h1 : ¬ (5000 : Int) < s.length := by omega
  have hn : n ≤ 1000000 := by have := few_len h0; omega
  have P1 := fun W => p_rput_any r.1 r.2.1 r.2.2 W
  have e1 : rputF (r.1, r.2.1, r.2.2) = ([], 150) := (rchk_no hm).2
  rw [e1] at P1
  clear e1 hm
  replace P1 := Lib.hid P1
  have J1 := fun W (hb : Below w.heap.size w W) => p_rjoin_any l A n c W hl hn ((hr.below hb).more hb.size)
  obtain ⟨e3, e4, e5⟩ := rback hj
  have S1 := fun W => p_rsplit_any (rjoinF l).1 W (by rw [e4]; dsimp only; omega)
  rw [e3] at S1
  rw [e4] at S1 J1
  unfold RSPost at S1
  dsimp only at S1 J1
  rw [hl] at S1
  have hs := fun A1 c1 W (h1 : Reads W W.heap.size 3 A1 n (rcs l)) (hb : Below w.heap.size w W) => rref_same_any l l A1 A n n c1 c W hl hl (by omega) (by omega) h1 ((hr.below hb).more hb.size)
  have e9 : decide (l = l) = true := decide_eq_true rfl
  simp only [e9] at hs
  replace S1 := Lib.hid S1
  replace hs := Lib.hid hs
  clear e3 e4 e5 e9 hj
  generalize rjB l = X at *
  replace J1 := Lib.hid J1
  have Z1 := fun W => p_rsplit_any s W (by omega)
  unfold RSPost at Z1
  rw [rsplit_no hq] at Z1
  have z1 : ((rsplitF s).2 != 0) = true := by simpa using hq
  clear hq
  generalize (rsplitF s).2 = E8 at *
  dsimp only [List.length_nil] at Z1
  replace Z1 := Lib.hid Z1
  clear hr h h0 h2 hn hl
  obtain ⟨x, y, d⟩ := r
  dsimp only at *
  go_enter Try.func5, Try.ntmps5
  go_wp2_with (first
    | (go_at_call 7; (with_reducible refine hf1.out.mono ?_); rintro e w1 ⟨rfl, hb1⟩; replace Hb := Lib.hid (HB0.out.trans (hb1.mono (Nat.le_succ _))); have HR1 := Lib.hid (HR0.out.below hb1 (Nat.lt_succ_self _)); clear hb1 hf1; have t0 : w1.cell? ⟨w.heap.size, 0, none⟩ = some (.int .i64 x) := HR1.out.cell 0; have t1 : w1.cell? ⟨w.heap.size, 1, none⟩ = some (.int .i64 y) := HR1.out.cell 1; have t2 : w1.cell? ⟨w.heap.size, 2, none⟩ = some (.string ⟨d.toArray⟩) := HR1.out.cell 2)
    | (go_at_call 7; (with_reducible refine (hf2.out _ Hb.out).mono ?_); rintro e w0 ⟨rfl, rfl⟩; clear hf2)
    | (go_at_call 9; (with_reducible refine (P1.out _).mono ?_); rintro e w2 ⟨rfl, hb2⟩; have hb2' := hb2; replace Hb := Lib.hid (Hb.out.trans (hb2.mono Hb.out.size)); clear hb2; have HR2 := Lib.hid (HR1.out.below hb2' HR1.out.lt); clear hb2' P1)
    | (go_at_call 17; (with_reducible refine (J1.out _ Hb.out).mono ?_); rintro e w5 ⟨rfl, hb5⟩; replace Hb := Lib.hid (Hb.out.trans (hb5.mono Hb.out.size)); clear hb5; clear J1)
    | (go_at_call 19; (with_reducible refine (S1.out _).mono ?_); rintro e w6 ⟨A6, c6, rfl, _, hr6, hb6⟩; replace Hb := Lib.hid (Hb.out.trans (hb6.mono Hb.out.size)); clear hb6; have Hr6 := Lib.hid hr6; clear hr6 S1)
    | (go_at_call 23; (with_reducible refine (hs.out _ _ _ Hr6.out Hb.out).mono ?_); rintro e w7 ⟨rfl, hb7⟩; replace Hb := Lib.hid (Hb.out.trans (hb7.mono Hb.out.size)); clear hb7; clear hs Hr6)
    | (go_at_call 19; (with_reducible refine (Z1.out _).mono ?_); rintro e w8 ⟨A8, c8, rfl, _, _, hb8⟩; replace Hb := Lib.hid (Hb.out.trans (hb8.mono Hb.out.size)); clear hb8; clear Z1)
    | (go_at_call 8; refine (awake15_any _).mono ?_; rintro e w9 ⟨rfl, hb9⟩; replace Hb := Lib.hid (Hb.out.trans (hb9.mono Hb.out.size)); clear hb9))
  go_ret
  exact ⟨rfl, Hb.out⟩
set_option maxRecDepth 100000 in
set_option maxHeartbeats 8000000 in
theorem recordBack_001 (r : Rc) (l : List Rc) (A : Option Addr) (n c : Nat) (hl : l.length = n) (s : List UInt8) (w : World) (h : fewF [r] = true) (h0 : fewF l = true) (h2 : s.length ≤ 5000) (hm : ¬ rmay r = true) (hj : (rjoinF l).2 ≠ 0) (hq : (rsplitF s).2 = 0) (hr : Reads w w.heap.size 3 A n (rcs l)) :
    Calls Try.prog 5 #[.agg #[.int .i64 r.1, .int .i64 r.2.1, .string ⟨r.2.2.toArray⟩], .slice A n c, .string ⟨s.toArray⟩] w fun e w' => e = .returned (.bool true) ∧ Below w.heap.size w w' := by
  have Hb := Lib.hid (Below.refl w.heap.size w)
  have HB0 := Lib.hid ((Below.refl w.heap.size w).alloc (Nat.le_refl _) (.cells #[.int .i64 r.1, .int .i64 r.2.1, .string ⟨r.2.2.toArray⟩] 23))
  have HR0 := Lib.hid (Blk.new w 23 #[.int .i64 r.1, .int .i64 r.2.1, .string ⟨r.2.2.toArray⟩])
  have hf1 := Lib.hid (rfew_any r true h (w.alloc (.cells #[.int .i64 r.1, .int .i64 r.2.1, .string ⟨r.2.2.toArray⟩] 23)))
  simp only [World.size_alloc] at hf1
  have hf2 := Lib.hid fun W (hb : Below w.heap.size w W) => few_any l A n c W hl ((hr.below hb).more hb.size)
  rw [h0] at hf2
  have h1 : ¬ (5000 : Int) < s.length := by omega
  have hn : n ≤ 1000000 := by have := few_len h0; omega
  have P1 := fun W => p_rput_any r.1 r.2.1 r.2.2 W
  have e1 : rputF (r.1, r.2.1, r.2.2) = ([], 150) := (rchk_no hm).2
  rw [e1] at P1
  clear e1 hm
  replace P1 := Lib.hid P1
  have J1 := fun W (hb : Below w.heap.size w W) => p_rjoin_any l A n c W hl hn ((hr.below hb).more hb.size)
  rw [rjoin_no hj] at J1
  have j1 : ((rjoinF l).2 == 0) = false := by simpa using hj
  clear hj
  generalize (rjoinF l).2 = E5 at *
  replace J1 := Lib.hid J1
  have Z1 := fun W => p_rsplit_any s W (by omega)
  unfold RSPost at Z1
  have hcn := rsplit_count s
  have K1 := fun A1 c1 W h1 => p_rjoin_any (rsplitF s).1 A1 (rsplitF s).1.length c1 W rfl (by omega) h1
  rw [rforth hq] at K1
  rw [hq] at Z1
  dsimp only at K1
  replace K1 := Lib.hid K1
  clear hcn hq
  generalize (rsplitF s).1.length = q at *
  generalize rcs (rsplitF s).1 = Q at *
  replace Z1 := Lib.hid Z1
  clear hr h h0 h2 hn hl
  obtain ⟨x, y, d⟩ := r
  dsimp only at *
  go_enter Try.func5, Try.ntmps5
  go_wp2_with (first
    | (go_at_call 7; (with_reducible refine hf1.out.mono ?_); rintro e w1 ⟨rfl, hb1⟩; replace Hb := Lib.hid (HB0.out.trans (hb1.mono (Nat.le_succ _))); have HR1 := Lib.hid (HR0.out.below hb1 (Nat.lt_succ_self _)); clear hb1 hf1; have t0 : w1.cell? ⟨w.heap.size, 0, none⟩ = some (.int .i64 x) := HR1.out.cell 0; have t1 : w1.cell? ⟨w.heap.size, 1, none⟩ = some (.int .i64 y) := HR1.out.cell 1; have t2 : w1.cell? ⟨w.heap.size, 2, none⟩ = some (.string ⟨d.toArray⟩) := HR1.out.cell 2)
    | (go_at_call 7; (with_reducible refine (hf2.out _ Hb.out).mono ?_); rintro e w0 ⟨rfl, rfl⟩; clear hf2)
    | (go_at_call 9; (with_reducible refine (P1.out _).mono ?_); rintro e w2 ⟨rfl, hb2⟩; have hb2' := hb2; replace Hb := Lib.hid (Hb.out.trans (hb2.mono Hb.out.size)); clear hb2; have HR2 := Lib.hid (HR1.out.below hb2' HR1.out.lt); clear hb2' P1)
    | (go_at_call 17; (with_reducible refine (J1.out _ Hb.out).mono ?_); rintro e w5 ⟨rfl, hb5⟩; replace Hb := Lib.hid (Hb.out.trans (hb5.mono Hb.out.size)); clear hb5; clear J1)
    | (go_at_call 19; (with_reducible refine (Z1.out _).mono ?_); rintro e w8 ⟨A8, c8, rfl, _, hr8, hb8⟩; replace Hb := Lib.hid (Hb.out.trans (hb8.mono Hb.out.size)); clear hb8; have Hr8 := Lib.hid hr8; clear hr8 Z1)
    | (go_at_call 17; (with_reducible refine (K1.out _ _ _ Hr8.out).mono ?_); rintro e w10 ⟨rfl, hb10⟩; replace Hb := Lib.hid (Hb.out.trans (hb10.mono Hb.out.size)); clear hb10; clear K1)
    | (go_at_call 8; refine (awake15_any _).mono ?_; rintro e w9 ⟨rfl, hb9⟩; replace Hb := Lib.hid (Hb.out.trans (hb9.mono Hb.out.size)); clear hb9))
  go_ret
  exact ⟨rfl, Hb.out⟩
set_option maxRecDepth 100000 in
set_option maxHeartbeats 8000000 in
theorem recordBack_000 (r : Rc) (l : List Rc) (A : Option Addr) (n c : Nat) (hl : l.length = n) (s : List UInt8) (w : World) (h : fewF [r] = true) (h0 : fewF l = true) (h2 : s.length ≤ 5000) (hm : ¬ rmay r = true) (hj : (rjoinF l).2 ≠ 0) (hq : (rsplitF s).2 ≠ 0) (hr : Reads w w.heap.size 3 A n (rcs l)) :
    Calls Try.prog 5 #[.agg #[.int .i64 r.1, .int .i64 r.2.1, .string ⟨r.2.2.toArray⟩], .slice A n c, .string ⟨s.toArray⟩] w fun e w' => e = .returned (.bool true) ∧ Below w.heap.size w w' := by
  have Hb := Lib.hid (Below.refl w.heap.size w)
  have HB0 := Lib.hid ((Below.refl w.heap.size w).alloc (Nat.le_refl _) (.cells #[.int .i64 r.1, .int .i64 r.2.1, .string ⟨r.2.2.toArray⟩] 23))
  have HR0 := Lib.hid (Blk.new w 23 #[.int .i64 r.1, .int .i64 r.2.1, .string ⟨r.2.2.toArray⟩])
  have hf1 := Lib.hid (rfew_any r true h (w.alloc (.cells #[.int .i64 r.1, .int .i64 r.2.1, .string ⟨r.2.2.toArray⟩] 23)))
  simp only [World.size_alloc] at hf1
  have hf2 := Lib.hid fun W (hb : Below w.heap.size w W) => few_any l A n c W hl ((hr.below hb).more hb.size)
  rw [h0] at hf2
  have h1 : ¬ (5000 : Int) < s.length := by omega
  have hn : n ≤ 1000000 := by have := few_len h0; omega
  have P1 := fun W => p_rput_any r.1 r.2.1 r.2.2 W
  have e1 : rputF (r.1, r.2.1, r.2.2) = ([], 150) := (rchk_no hm).2
  rw [e1] at P1
  clear e1 hm
  replace P1 := Lib.hid P1
  have J1 := fun W (hb : Below w.heap.size w W) => p_rjoin_any l A n c W hl hn ((hr.below hb).more hb.size)
  rw [rjoin_no hj] at J1
  have j1 : ((rjoinF l).2 == 0) = false := by simpa using hj
  clear hj
  generalize (rjoinF l).2 = E5 at *
  replace J1 := Lib.hid J1
  have Z1 := fun W => p_rsplit_any s W (by omega)
  unfold RSPost at Z1
  rw [rsplit_no hq] at Z1
  have z1 : ((rsplitF s).2 != 0) = true := by simpa using hq
  clear hq
  generalize (rsplitF s).2 = E8 at *
  dsimp only [List.length_nil] at Z1
  replace Z1 := Lib.hid Z1
  clear hr h h0 h2 hn hl
  obtain ⟨x, y, d⟩ := r
  dsimp only at *
  go_enter Try.func5, Try.ntmps5
  go_wp2_with (first
    | (go_at_call 7; (with_reducible refine hf1.out.mono ?_); rintro e w1 ⟨rfl, hb1⟩; replace Hb := Lib.hid (HB0.out.trans (hb1.mono (Nat.le_succ _))); have HR1 := Lib.hid (HR0.out.below hb1 (Nat.lt_succ_self _)); clear hb1 hf1; have t0 : w1.cell? ⟨w.heap.size, 0, none⟩ = some (.int .i64 x) := HR1.out.cell 0; have t1 : w1.cell? ⟨w.heap.size, 1, none⟩ = some (.int .i64 y) := HR1.out.cell 1; have t2 : w1.cell? ⟨w.heap.size, 2, none⟩ = some (.string ⟨d.toArray⟩) := HR1.out.cell 2)
    | (go_at_call 7; (with_reducible refine (hf2.out _ Hb.out).mono ?_); rintro e w0 ⟨rfl, rfl⟩; clear hf2)
    | (go_at_call 9; (with_reducible refine (P1.out _).mono ?_); rintro e w2 ⟨rfl, hb2⟩; have hb2' := hb2; replace Hb := Lib.hid (Hb.out.trans (hb2.mono Hb.out.size)); clear hb2; have HR2 := Lib.hid (HR1.out.below hb2' HR1.out.lt); clear hb2' P1)
    | (go_at_call 17; (with_reducible refine (J1.out _ Hb.out).mono ?_); rintro e w5 ⟨rfl, hb5⟩; replace Hb := Lib.hid (Hb.out.trans (hb5.mono Hb.out.size)); clear hb5; clear J1)
    | (go_at_call 19; (with_reducible refine (Z1.out _).mono ?_); rintro e w8 ⟨A8, c8, rfl, _, _, hb8⟩; replace Hb := Lib.hid (Hb.out.trans (hb8.mono Hb.out.size)); clear hb8; clear Z1)
    | (go_at_call 8; refine (awake15_any _).mono ?_; rintro e w9 ⟨rfl, hb9⟩; replace Hb := Lib.hid (Hb.out.trans (hb9.mono Hb.out.size)); clear hb9))
  go_ret
  exact ⟨rfl, Hb.out⟩
theorem recordBack_walk (r : Rc) (l : List Rc) (A : Option Addr) (n c : Nat) (hl : l.length = n) (s : List UInt8) (w : World) (hr : Reads w w.heap.size 3 A n (rcs l)) :
    Calls Try.prog 5 #[.agg #[.int .i64 r.1, .int .i64 r.2.1, .string ⟨r.2.2.toArray⟩], .slice A n c, .string ⟨s.toArray⟩] w fun e w' => e = .returned (.bool true) ∧ Below w.heap.size w w' := by
  cases h : fewF [r] with
  | false => exact recordBack_far0 r l A n c hl s w h hr
  | true =>
    cases h0 : fewF l with
    | false => exact recordBack_far1 r l A n c hl s w h h0 hr
    | true =>
      by_cases h2 : s.length ≤ 5000
      · by_cases hm : rmay r = true <;> by_cases hj : (rjoinF l).2 = 0 <;> by_cases hq : (rsplitF s).2 = 0
        · exact recordBack_111 r l A n c hl s w h h0 h2 hm hj hq hr
        · exact recordBack_110 r l A n c hl s w h h0 h2 hm hj hq hr
        · exact recordBack_101 r l A n c hl s w h h0 h2 hm hj hq hr
        · exact recordBack_100 r l A n c hl s w h h0 h2 hm hj hq hr
        · exact recordBack_011 r l A n c hl s w h h0 h2 hm hj hq hr
        · exact recordBack_010 r l A n c hl s w h h0 h2 hm hj hq hr
        · exact recordBack_001 r l A n c hl s w h h0 h2 hm hj hq hr
        · exact recordBack_000 r l A n c hl s w h h0 h2 hm hj hq hr
      · exact recordBack_far2 r l A n c hl s w h h0 (by omega) hr
namespace RecordBack
set_option maxRecDepth 100000 in
theorem lifted (os : Os) (started : os.Started) (H : Type) (enc : TypeId × Value → H) :
    ReturnsInHanded {} Try.checked os 5 .any (Rows.recordBackSpec.pre6 enc Try.prog Try.f5 Rows.recordBackRow.domain false) (Rows.recordBackSpec.post enc Try.prog Try.f5 false true false false) := by
  refine law_sized (C := Try.checked) (tb := 4) ownP started (by kernel_rfl) Try.func5
    (ChangeSpec.witness6 (enc := enc) (C := Try.checked) false ⟨#[], #[.agg #[.int .i64 0, .int .i64 0, .string ⟨#[]⟩], .slice none 0 0, .string ⟨#[]⟩], []⟩ 8 (by kernel_rfl) (by kernel_rfl) (by kernel_rfl) (by kernel_rfl))
    laidP (by kernel_rfl) rfl (by kernel_rfl) Try.underlying4 (by intro ds h; match ds, h with | [_, _, _], _ => rfl) ?_
  intro W base args ds p hval0 hA0 hlt _
  have hval : ∀ (j : Nat) t v, Try.f5.params[j]? = some t → args[j]? = some v → Value.okWide Try.prog W .any base t v := hval0
  have hA : DataW.TrodAll enc Try.prog W 0 (fun _ => true) true Try.f5.params.toList args.toList ds p := hA0
  rw [Try.params5] at hA hval
  obtain ⟨v0, v1, v2, d0, d1, d2, p0, p1, p2, rfl, rfl, rfl, h0, h1, h2⟩ := trodAll_three hA
  obtain ⟨r, rfl, _, _⟩ := open_rec Try.underlying23 (by kernel_rfl) (by kernel_rfl) Try.underlying3 Try.underlying3 Try.underlying9 (hval 0 23 v0 rfl rfl) h0
  obtain ⟨Al, nl, cl, l, rfl, el, hnl, hml, hrl, hbl⟩ := open_recs Try.underlying25 Try.underlying23 (by kernel_rfl) (by kernel_rfl) Try.underlying3 Try.underlying3 Try.underlying9 (hval 1 25 v1 rfl rfl) h1
  obtain ⟨s, rfl, rfl⟩ := open_bytes Try.underlying9 (hval 2 9 v2 rfl rfl) h2
  exact recordBack_walk r l Al nl cl el s W hrl
theorem holds : Rows.RecordBackSaid :=
  OpenClaim.holds_of_wide 5 Try.f5 rfl rfl rfl rfl rfl rfl rfl ⟨rfl, rfl, rfl, rfl, rfl⟩ rfl rfl rfl rfl rfl (by kernel_rfl) Try.func5 (by kernel_rfl)
    (of_decide_eq_true (by kernel_rfl)) (by unfold Func.isWrapper; first | (rw [if_pos (by decide +kernel)]; kernel_rfl) | (rw [if_neg (by decide +kernel)]; exact ⟨rfl, rfl⟩))
    (fun os started H enc _ => lifted os started H enc)
end RecordBack
end Go.Proofs.Ytckengcphaaohaa
