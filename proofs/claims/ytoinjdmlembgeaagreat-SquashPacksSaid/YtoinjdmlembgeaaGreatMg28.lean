/-
 What the law of the last of these texts stands on, part 28.
-/
import Derived.Test.YtoinjdmlembgeaaGreatMg23
import Derived.Test.YtoinjdmlembgeaaGreatMg24
import Derived.Test.YtoinjdmlembgeaaGreatMg25
import Derived.Test.YtoinjdmlembgeaaGreatMg27
namespace Go.Proofs.YtoinjdmlembgeaaGreat
set_option linter.unusedSimpArgs false
set_option linter.unusedVariables false
open Go.ChangeShapes Go.WideShapes Go.ChangeAt Go.RowKit Go.Joins Go.Deep
theorem q_add (a b : List UInt8) (h : a.length + b.length ≤ 9223372036854775807) (w : World) : (Op.stringOp .add ⟨a.toArray⟩ ⟨b.toArray⟩).run Tryz.prog w = .ok (.string ⟨(a ++ b).toArray⟩) w := by
 rw [run_string_add_sum w _ _ (by rw [ByteArray.size_mk', ByteArray.size_mk', List.size_toArray, List.size_toArray]; exact h), ByteArray.mk_append_mk]
def qpre (a b c : Int) : Nat → List UInt8
 | 0 => []
 | 1 => [] ++ putB a
 | 2 => ([] ++ putB a) ++ putB b
 | _ => (([] ++ putB a) ++ putB b) ++ putB c
theorem qpre_end (a b c : Int) : qpre a b c 3 = qhd a b c := by
 show (([] ++ putB a) ++ putB b) ++ putB c = _
 rw [List.nil_append, List.append_assoc]
 rfl
theorem ybH (n : Int) : (putB n).length ≤ 9 := by
 unfold putB
 split
 ·exact Nat.zero_le _
 ·exact dg_le 9 _
def qnth (a b c : Int) : Nat → Int
 | 0 => a
 | 1 => b
 | _ => c
theorem qpre_step (a b c : Int) (k : Nat) (hk : k < 3) : qpre a b c (k + 1) = qpre a b c k ++ putB (qnth a b c k) ∧ (qpre a b c k).length ≤ 9 * k := by
 have h1 := ybH a
 have h2 := ybH b
 match k, hk with
 | 0, _ => exact ⟨rfl, Nat.le_refl _⟩
 | 1, _ => exact ⟨rfl, by simp [qpre]; omega⟩
 | 2, _ => exact ⟨rfl, by simp [qpre]; omega⟩
theorem qnth_at (a b c : Int) (k : Nat) (hk : k < 3) (w : World) : (Instr.index 67 (.agg #[.int .i64 a, .int .i64 b, .int .i64 c]) (.int .i64 (k : Int))).run Tryz.prog w = .ok (.int .i64 (qnth a b c k)) w := by
 refine ycY (P := Tryz.prog) w 67 3 3 Tryz.underlying67 Tryz.underlying3 Tryz.sizeOf3 [.int .i64 a, .int .i64 b, .int .i64 c] k hk (qnth a b c k) ?_
 match k, hk with
 | 0, _ => rfl
 | 1, _ => rfl
 | 2, _ => rfl
set_option maxRecDepth 100000 in
set_option maxHeartbeats 1000000 in
theorem q_text_any (a b c : Int) (w : World) (ha : a < 9223372036854775808) (hb : b < 9223372036854775808) (hc : c < 9223372036854775808) :
  Calls Tryz.prog 15 #[.agg #[.int .i64 a, .int .i64 b, .int .i64 c]] w fun e w' => e = .returned (.string ⟨(qhd a b c).toArray⟩) ∧ Below w.heap.size w w' := by
 have Hst := Lib.hid (qpre_step a b c)
 have Hix := Lib.hid (qnth_at a b c)
 have Hn : Hid (∀ k, k < 3 → qnth a b c k < 9223372036854775808) := Lib.hid fun k hk => by
  match k, hk with
  | 0, _ => exact ha
  | 1, _ => exact hb
  | 2, _ => exact hc
 have He := Lib.hid (qpre_end a b c)
 have hb0 : Below w.heap.size w (w.alloc (.cells #[.int .i64 a, .int .i64 b, .int .i64 c] 40)) := (Below.refl _ _).alloc (Nat.le_refl _) _
 have Hb0 := Lib.hid hb0
 have hB := Blk.new w 40 #[.int .i64 a, .int .i64 b, .int .i64 c]
 have c0 : (w.alloc (.cells #[.int .i64 a, .int .i64 b, .int .i64 c] 40)).cell? ⟨w.heap.size, 0, none⟩ = some (.int .i64 a) := hB.cell 0
 have c1 : (w.alloc (.cells #[.int .i64 a, .int .i64 b, .int .i64 c] 40)).cell? ⟨w.heap.size, 1, none⟩ = some (.int .i64 b) := hB.cell 1
 have c2 : (w.alloc (.cells #[.int .i64 a, .int .i64 b, .int .i64 c] 40)).cell? ⟨w.heap.size, 2, none⟩ = some (.int .i64 c) := hB.cell 2
 clear hb0 hB ha hb hc
 go_enter Tryz.func15, Tryz.ntmps15
 go_wp2
 go_loopw [3, 15] (fun s i wr => ∃ k : Nat, k ≤ 3 ∧ i = .int .i64 (k : Int) ∧ s = .string ⟨(qpre a b c k).toArray⟩ ∧ Hid (Below w.heap.size w wr)) (fun _ i _ => 3 - (intOf i).toNat)
 case atStart => exact ⟨0, by omega, rfl, rfl, Hb0⟩
 case round =>
  obtain ⟨k, hk, rfl, rfl, Hw⟩ := hrel
  by_cases hlt : k < 3
  ·obtain ⟨e1, e2⟩ := Hst.out k hlt
   have hix := fun W => Hix.out k hlt W
   have hput := Lib.hid fun W => put_any (qnth a b c k) W (Hn.out k hlt)
   have hadd := fun W => q_add (qpre a b c k) (putB (qnth a b c k)) (by have := ybH (qnth a b c k); omega) W
   rw [← e1] at hadd
   have hki : (k : Int) < 3 := by omega
   clear e1 e2
   unfold yhM at hput
   generalize qnth a b c k = x at *
   obtain ⟨V, hV⟩ : ∃ V, qpre a b c (k + 1) = V := ⟨_, rfl⟩
   rw [hV] at hadd
   have HV := Lib.hid hV
   clear hV
   generalize qpre a b c k = U at *
   generalize putB x = X at *
   generalize putE x = Y at *
   go_wp2_with (go_at_call 32; (with_reducible refine (hput.out _).mono ?_); rintro e w1 ⟨rfl, hb1⟩; have Hb1 := Lib.hid (Hw.out.trans (hb1.mono Hw.out.size)); clear hb1)
   go_roundw
   case rel => exact ⟨k + 1, by omega, iv (by omega), by rw [HV.out], Hb1⟩
   case measure => simp only [intOf]; omega
  ·obtain rfl : k = 3 := by omega
   rw [He.out]
   go_wp2
   go_ret
   exact ⟨rfl, Hw.out⟩
theorem q_fault_is (v : Value) (w : World) : (Instr.typeAssert (.iface 132 v) 20 132 false).run Tryz.prog w = .ok v w := by kernel_rfl
theorem q_fault_f0 (a b : Value) (w : World) : (Instr.field 132 (.agg #[a, b]) 0).run Tryz.prog w = .ok a w := by kernel_rfl
theorem q_idle (a : Addr) (w : World) : CallsD Tryz.prog 86 #[.pointer (some a)] .returning w fun e u' w' => e = .returned (.tuple #[]) ∧ u' = .returning ∧ w' = w := by
 refine callsD_of_wpS Tryz.func86 rfl fun c₀ cs hu => ?_
 apply wpS_seq
 apply wpS_region
 simp [wpOpsS, go_sem, recoverD, hu, Tryz.ntmps86, Exit.thenS]
 apply wpS_seq
 apply wpS_region
 simp [wpOpsS, go_sem, Exit.thenS, Array.replicate]
 refine wpS_cond (t := false) (by simp [Act.eval]) ?_
 simp only [Bool.false_eq_true, if_false]
 refine wpS_of_wp (wp_skip ?_)
 cases c₀
 simp_all [bodyPostS, results, Tryz.results86]
theorem q_fault (N : Nat) (x e p : Int) (older : List PanicEntry) (w : World) (hN : Blk w N 23 #[.int .i64 x]) :
  CallsD Tryz.prog 86 #[.pointer (some ⟨N, 0, none⟩)] (.panicking ({ v := .iface 132 (.agg #[.int .i64 e, .int .i64 p]), recovered := false } :: older)) w fun r u' w' =>
   r = .returned (.tuple #[]) ∧ u' = .panicking ({ v := .iface 132 (.agg #[.int .i64 e, .int .i64 p]), recovered := true } :: older) ∧ w' = w.setCell ⟨N, 0, none⟩ (.int .i64 e) := by
 have c1 : w.cell? ⟨N, 0, none⟩ = some (.int .i64 x) := hN.cell 0
 have z1 := hN.frozen 0
 refine callsD_of_wpS Tryz.func86 rfl fun c₀ cs hu => ?_
 apply wpS_seq
 apply wpS_region
 simp [wpOpsS, go_sem, recoverD, hu, Tryz.ntmps86, Exit.thenS, Array.replicate]
 apply wpS_seq
 apply wpS_region
 simp [wpOpsS, go_sem, Exit.thenS, Array.replicate]
 refine wpS_cond (t := true) (by simp [Act.eval]) ?_
 simp only [if_true]
 refine wpS_of_wp ?_
 have hta := q_fault_is
 have hf0 := q_fault_f0
 go_wp2
 exact ⟨rfl, _, rfl, .tuple #[], by simp [results, Tryz.results86], rfl, rfl, rfl⟩
theorem q_num_is (l : List UInt8) (p : Int) : yb9 l p 2 0 = (((getF l p).1, []), (getF l p).2.1, (getF l p).2.2) := by simp [yb9]
theorem q_rest_is (l : List UInt8) (p : Int) : yb9 l p 5 0 = (((0 : Int), l.drop p.toNat), (l.length : Int), (0 : Int)) := by simp [yb9]
section
variable (l : List UInt8) (g : Nat) (hl : l.length ≤ 4611686018427387904)
include hl
theorem ycC (p : Int) (w : World) (h0 : 0 ≤ p) (hp : p ≤ l.length) (hB : Blk w g 125 #[.string ⟨l.toArray⟩, .int .i64 p]) (x q : Int) (hr : getF l p = (x, q, 0)) :
  Calls Tryz.prog 50 #[.pointer (some ⟨g, 0, none⟩)] w fun e w' => e = .returned (.int .i64 x) ∧ w.grownBy w' (some g) ∧ Blk w' g 125 #[.string ⟨l.toArray⟩, .int .i64 q] :=
 num_ok l p g w hl h0 hp hB x [] q (by rw [q_num_is, hr])
theorem q_num_no (p : Int) (w : World) (h0 : 0 ≤ p) (hp : p ≤ l.length) (hB : Blk w g 125 #[.string ⟨l.toArray⟩, .int .i64 p]) (x q E : Int) (hE : E ≠ 0) (hr : getF l p = (x, q, E)) :
  Calls Tryz.prog 50 #[.pointer (some ⟨g, 0, none⟩)] w fun r w' => r = .panicked [{ v := .iface 132 (.agg #[.int .i64 E, .int .i64 p]), recovered := false }] ∧ Below w.heap.size w w' := by
 have ht := Lib.hid fun w hB => take_no l p 2 0 g w hl h0 hp hB x [] q E (by rw [q_num_is, hr]) hE
 clear hr
 go_enter Tryz.func50, Tryz.ntmps50
 go_wp2_with (refine (ht.out _ hB).mono ?_; rintro e w1 ⟨rfl, h1⟩)
 exact ⟨rfl, rfl, h1⟩
theorem q_rest_any (p : Int) (w : World) (h0 : 0 ≤ p) (hp : p ≤ l.length) (hB : Blk w g 125 #[.string ⟨l.toArray⟩, .int .i64 p]) :
  Calls Tryz.prog 53 #[.pointer (some ⟨g, 0, none⟩)] w fun e w' => e = .returned (.string ⟨(l.drop p.toNat).toArray⟩) ∧ w.grownBy w' (some g) ∧ Blk w' g 125 #[.string ⟨l.toArray⟩, .int .i64 l.length] :=
 rest_ok l p g w hl h0 hp hB 0 (l.drop p.toNat) l.length (q_rest_is l p)
end
theorem ycg {W w1 : World} {S : Nat → Prop} (h : Touch W.drew w1 S) : Touch W w1 S := ⟨h.os, h.tape, h.output, h.size, h.block⟩
theorem q_panic {P : Program} {fn : Func} {R : Ending → World → Prop} {a : Act} {w : World} {ps : List PanicEntry} (hd : a.defers = []) (hR : R (.panicked ps) w) : bodyPost P fn R (.panic ps) a w := ⟨hd, hR⟩
def QHold (W : World) (n hb tb rb g : Nat) (x0 x1 x2 : Int) (v : ByteArray) : Prop :=
 Blk W n 84 #[.func (.func 50) #[.pointer (some ⟨g, 0, none⟩)] #[]] ∧ Blk W hb 40 #[.int .i64 x0, .int .i64 x1, .int .i64 x2] ∧ Blk W tb 82 #[.pointer (some ⟨g, 0, none⟩)] ∧ Blk W rb 9 #[.string v]
def QCells (W : World) (n hb : Nat) (f : Value) (x0 x1 x2 : Int) : Prop :=
 W.cell? ⟨n, 0, none⟩ = some f ∧ W.cell? ⟨hb, 0, none⟩ = some (.int .i64 x0) ∧ W.cell? ⟨hb, 1, none⟩ = some (.int .i64 x1) ∧ W.cell? ⟨hb, 2, none⟩ = some (.int .i64 x2) ∧ W.frozen? ⟨hb, 0, none⟩ = false ∧ W.frozen? ⟨hb, 1, none⟩ = false ∧ W.frozen? ⟨hb, 2, none⟩ = false
section
variable {W W' : World} {n hb tb rb g : Nat} {x0 x1 x2 : Int} {v : ByteArray}
theorem QHold.cells (h : QHold W n hb tb rb g x0 x1 x2 v) : QCells W n hb (.func (.func 50) #[.pointer (some ⟨g, 0, none⟩)] #[]) x0 x1 x2 :=
 ⟨h.1.cell 0, h.2.1.cell 0, h.2.1.cell 1, h.2.1.cell 2, h.2.1.frozen 0, h.2.1.frozen 1, h.2.1.frozen 2⟩
theorem QHold.grow (h : QHold W n hb tb rb g x0 x1 x2 v) (hg : W.grownBy W' (some g)) (hn : n ≠ g) (hh : hb ≠ g) (ht : tb ≠ g) (hr : rb ≠ g) : QHold W' n hb tb rb g x0 x1 x2 v :=
 ⟨h.1.grow hg hn, h.2.1.grow hg hh, h.2.2.1.grow hg ht, h.2.2.2.grow hg hr⟩
end

-- CUT
section
variable {W W' : World} {n hb tb rb g : Nat} {x0 x1 x2 : Int} {v : ByteArray}
theorem QHold.drew (h : QHold W n hb tb rb g x0 x1 x2 v) : QHold W.drew n hb tb rb g x0 x1 x2 v := ⟨h.1.drew, h.2.1.drew, h.2.2.1.drew, h.2.2.2.drew⟩
theorem QHold.set (h : QHold W n hb tb rb g x0 x1 x2 v) (a b c : Int) (hn : n ≠ hb) (ht : tb ≠ hb) (hr : rb ≠ hb) : QHold (((W.setCell ⟨hb, 0, none⟩ (.int .i64 a)).setCell ⟨hb, 1, none⟩ (.int .i64 b)).setCell ⟨hb, 2, none⟩ (.int .i64 c)) n hb tb rb g a b c v :=
 ⟨((h.1.far hn _).far hn _).far hn _, by simpa using ((h.2.1.set_ 0 (.int .i64 a)).set_ 1 (.int .i64 b)).set_ 2 (.int .i64 c), ((h.2.2.1.far ht _).far ht _).far ht _, ((h.2.2.2.far hr _).far hr _).far hr _⟩
theorem yhi {i g : Nat} (e : some i = some g) : i = g := by injection e
theorem q_touch_set (h : Touch W W' (fun k => k = g)) (a b c : Value) : Touch W (((W'.setCell ⟨hb, 0, none⟩ a).setCell ⟨hb, 1, none⟩ b).setCell ⟨hb, 2, none⟩ c) (fun k => k = g ∨ k = hb) :=
 (((h.mono (S' := fun k => k = g ∨ k = hb) (fun k _ e => Or.inl e)).set (p := ⟨hb, 0, none⟩) (Or.inl (Or.inr rfl)) a).set (p := ⟨hb, 1, none⟩) (Or.inl (Or.inr rfl)) b).set (p := ⟨hb, 2, none⟩) (Or.inl (Or.inr rfl)) c
theorem q_touch_end {X : World} (h : Touch W X (fun k => k = g ∨ k = hb)) (hg : X.grownBy W' (some g)) (u : Value) : Touch W (W'.setCell ⟨rb, 0, none⟩ u) (fun k => k = g ∨ k = hb ∨ k = rb) :=
 ((h.mono (S' := fun k => k = g ∨ k = hb ∨ k = rb) (fun k _ e => e.elim Or.inl (fun e => Or.inr (Or.inl e)))).next (yaq hg) (fun i _ e => Or.inl (yhi e))).set (p := ⟨rb, 0, none⟩) (Or.inl (Or.inr (Or.inr rfl))) u
end
section
variable (l : List UInt8) (W : World) (n hb tb rb g : Nat) (x0 x1 x2 : Int) (v : ByteArray) (hl : l.length ≤ 4611686018427387904) (hn : n ≠ g) (hh : hb ≠ g) (ht : tb ≠ g) (hr : rb ≠ g)
 (hH : QHold W n hb tb rb g x0 x1 x2 v) (hB : Blk W g 125 #[.string ⟨l.toArray⟩, .int .i64 0])
include hl hn hh ht hr hH hB
omit hn hh ht hr in
set_option maxRecDepth 100000 in
set_option maxHeartbeats 2000000 in
theorem q_take_no1 (x q E : Int) (hE : E ≠ 0)  (h1 : getF l 0 = (x, q, E)) :
  Calls Tryz.prog 52 #[.pointer (some ⟨n, 0, none⟩), .pointer (some ⟨hb, 0, none⟩), .pointer (some ⟨tb, 0, none⟩), .pointer (some ⟨rb, 0, none⟩)] W fun r w' =>
   (∃ p : Int, r = .panicked [{ v := .iface 132 (.agg #[.int .i64 E, .int .i64 p]), recovered := false }]) ∧ Touch W w' (fun k => k = g) := by
 have N1 := Lib.hid fun W2 (hB2 : Blk W2 g 125 #[.string ⟨l.toArray⟩, .int .i64 0]) => q_num_no l g hl 0 W2 (by omega) (by omega) hB2 x q E hE h1
 have HH : Hid (QHold W.drew n hb tb rb g x0 x1 x2 v) := Lib.hid hH.drew
 have HB : Hid (Blk W.drew g 125 #[.string ⟨l.toArray⟩, .int .i64 0]) := Lib.hid hB.drew
 have HT : Hid (Touch W W.drew (fun k => k = g)) := Lib.hid (ycg (Touch.refl _ _))
 clear hB h1 hl hE
 go_enter Tryz.func52, Tryz.ntmps52
 go_wp2
 refine wp_region_held_drew (S := (fun W2 => W2.cell? ⟨n, 0, none⟩ = some (.func (.func 50) #[.pointer (some ⟨g, 0, none⟩)] #[]))) (by kernel_rfl) (HH.out.1.cell 0) (fun hHeld => ?_)
 refine wpAnyH_take (i := 0) (oi := ⟨some 4, Op.load 84 (Operand.tmp 0), 84, _, #[], none⟩) (v := ?_) rfl (by kernel_rfl) (by kernel_rfl) (by kernel_rfl) (fun _ _ _ h => h) (Or.inl ⟨by rfl, ?_⟩) hHeld ?_
 rotate_left
 ·(intro wz hSw; go_simp; try (with_reducible rfl))
 try simp only [Act.put, List.setIfInBounds_toArray, List.set_cons_zero, List.set_cons_succ]
 refine wpAnyH_take (i := 2) (oi := ⟨some 6, Op.load 84 (Operand.tmp 0), 84, _, #[], none⟩) (v := ?_) rfl (by kernel_rfl) (by kernel_rfl) (by kernel_rfl) (fun _ _ _ h => h) (Or.inl ⟨by rfl, ?_⟩) hHeld ?_
 rotate_left
 ·(intro wz hSw; go_simp; try (with_reducible rfl))
 try simp only [Act.put, List.setIfInBounds_toArray, List.set_cons_zero, List.set_cons_succ]
 refine wpAnyH_take (i := 4) (oi := ⟨some 8, Op.load 84 (Operand.tmp 0), 84, _, #[], none⟩) (v := ?_) rfl (by kernel_rfl) (by kernel_rfl) (by kernel_rfl) (fun _ _ _ h => h) (Or.inl ⟨by rfl, ?_⟩) hHeld ?_
 rotate_left
 ·(intro wz hSw; go_simp; try (with_reducible rfl))
 try simp only [Act.put, List.setIfInBounds_toArray, List.set_cons_zero, List.set_cons_succ]
 refine wpAnyH_ready (rs := [1]) (by kernel_rfl) (by simp) ?_
 refine AllReadyH.cons (o := ⟨some 5, Op.call { callee := Callee.value (Operand.tmp 4), args := #[], argTypes := #[] }, 3, _, #[{ on := 0, ground := Ground.data }], none⟩) rfl (fun K hK => ?_) AllReadyH.nil
 go_simp
 go_at_call 50
 (with_reducible refine (N1.out _ HB.out).mono ?_)
 rintro e w1 ⟨rfl, hb1⟩
 go_simp
 exact q_panic rfl ⟨⟨_, rfl⟩, HT.out.next (yak hb1 (Nat.le_refl _)) (fun i _ e => e)⟩
set_option maxRecDepth 100000 in
set_option maxHeartbeats 2000000 in
theorem q_take_no2 (a p1 : Int) (x q E : Int) (hE : E ≠ 0) (h1 : getF l 0 = (a, p1, 0)) (h2 : getF l p1 = (x, q, E)) :
  Calls Tryz.prog 52 #[.pointer (some ⟨n, 0, none⟩), .pointer (some ⟨hb, 0, none⟩), .pointer (some ⟨tb, 0, none⟩), .pointer (some ⟨rb, 0, none⟩)] W fun r w' =>
   (∃ p : Int, r = .panicked [{ v := .iface 132 (.agg #[.int .i64 E, .int .i64 p]), recovered := false }]) ∧ Touch W w' (fun k => k = g) := by
 have N1 := Lib.hid fun W2 (hB2 : Blk W2 g 125 #[.string ⟨l.toArray⟩, .int .i64 0]) => ycC l g hl 0 W2 (by omega) (by omega) hB2 a p1 h1
 have g1 := yd7 (l := l) (p := 0) (by rw [h1])
 rw [h1] at g1
 dsimp only at g1
 have N2 := Lib.hid fun W2 (hB2 : Blk W2 g 125 #[.string ⟨l.toArray⟩, .int .i64 p1]) => q_num_no l g hl p1 W2 (by omega) (by omega) hB2 x q E hE h2
 have HH : Hid (QHold W.drew n hb tb rb g x0 x1 x2 v) := Lib.hid hH.drew
 have HB : Hid (Blk W.drew g 125 #[.string ⟨l.toArray⟩, .int .i64 0]) := Lib.hid hB.drew
 have HT : Hid (Touch W W.drew (fun k => k = g)) := Lib.hid (ycg (Touch.refl _ _))
 clear hB h1 h2 g1 hl hE
 go_enter Tryz.func52, Tryz.ntmps52
 go_wp2
 refine wp_region_held_drew (S := (fun W2 => W2.cell? ⟨n, 0, none⟩ = some (.func (.func 50) #[.pointer (some ⟨g, 0, none⟩)] #[]))) (by kernel_rfl) (HH.out.1.cell 0) (fun hHeld => ?_)
 refine wpAnyH_take (i := 0) (oi := ⟨some 4, Op.load 84 (Operand.tmp 0), 84, _, #[], none⟩) (v := ?_) rfl (by kernel_rfl) (by kernel_rfl) (by kernel_rfl) (fun _ _ _ h => h) (Or.inl ⟨by rfl, ?_⟩) hHeld ?_
 rotate_left
 ·(intro wz hSw; go_simp; try (with_reducible rfl))
 try simp only [Act.put, List.setIfInBounds_toArray, List.set_cons_zero, List.set_cons_succ]
 refine wpAnyH_take (i := 2) (oi := ⟨some 6, Op.load 84 (Operand.tmp 0), 84, _, #[], none⟩) (v := ?_) rfl (by kernel_rfl) (by kernel_rfl) (by kernel_rfl) (fun _ _ _ h => h) (Or.inl ⟨by rfl, ?_⟩) hHeld ?_
 rotate_left
 ·(intro wz hSw; go_simp; try (with_reducible rfl))
 try simp only [Act.put, List.setIfInBounds_toArray, List.set_cons_zero, List.set_cons_succ]
 refine wpAnyH_take (i := 4) (oi := ⟨some 8, Op.load 84 (Operand.tmp 0), 84, _, #[], none⟩) (v := ?_) rfl (by kernel_rfl) (by kernel_rfl) (by kernel_rfl) (fun _ _ _ h => h) (Or.inl ⟨by rfl, ?_⟩) hHeld ?_
 rotate_left
 ·(intro wz hSw; go_simp; try (with_reducible rfl))
 try simp only [Act.put, List.setIfInBounds_toArray, List.set_cons_zero, List.set_cons_succ]
 refine wpAnyH_ready (rs := [1]) (by kernel_rfl) (by simp) ?_
 refine AllReadyH.cons (o := ⟨some 5, Op.call { callee := Callee.value (Operand.tmp 4), args := #[], argTypes := #[] }, 3, _, #[{ on := 0, ground := Ground.data }], none⟩) rfl (fun K hK => ?_) AllReadyH.nil
 go_simp
 go_at_call 50
 (with_reducible refine (N1.out _ HB.out).mono ?_)
 rintro e w1 ⟨rfl, hb1, hB1⟩
 have HB1 := Lib.hid hB1
 have HH1 := Lib.hid (HH.out.grow hb1 hn hh ht hr)
 have HT1 := Lib.hid (HT.out.next (yaq hb1) (fun i _ e => yhi e))
 have HS := HH1.out.1.cell 0
 clear hB1
 refine hK.out _ _ (HS) (fun hH => ?_)
 clear hHeld hK K hb1
 have hHeld := hH
 clear hH
 try simp only [Act.put, List.setIfInBounds_toArray, List.set_cons_zero, List.set_cons_succ]
 refine wpAnyH_ready (rs := [3]) (by kernel_rfl) (by simp) ?_
 refine AllReadyH.cons (o := ⟨some 7, Op.call { callee := Callee.value (Operand.tmp 6), args := #[], argTypes := #[] }, 3, _, #[{ on := 2, ground := Ground.data }, { on := 1, ground := Ground.chain }], none⟩) rfl (fun K hK => ?_) AllReadyH.nil
 go_simp
 go_at_call 50
 (with_reducible refine (N2.out _ HB1.out).mono ?_)
 rintro e w2 ⟨rfl, hb1⟩
 go_simp
 exact q_panic rfl ⟨⟨_, rfl⟩, HT1.out.next (yak hb1 (Nat.le_refl _)) (fun i _ e => e)⟩
set_option maxRecDepth 100000 in
set_option maxHeartbeats 2000000 in
theorem q_take_no3 (a b p1 p2 : Int) (x q E : Int) (hE : E ≠ 0) (h1 : getF l 0 = (a, p1, 0)) (h2 : getF l p1 = (b, p2, 0)) (h3 : getF l p2 = (x, q, E)) :
  Calls Tryz.prog 52 #[.pointer (some ⟨n, 0, none⟩), .pointer (some ⟨hb, 0, none⟩), .pointer (some ⟨tb, 0, none⟩), .pointer (some ⟨rb, 0, none⟩)] W fun r w' =>
   (∃ p : Int, r = .panicked [{ v := .iface 132 (.agg #[.int .i64 E, .int .i64 p]), recovered := false }]) ∧ Touch W w' (fun k => k = g) := by
 have N1 := Lib.hid fun W2 (hB2 : Blk W2 g 125 #[.string ⟨l.toArray⟩, .int .i64 0]) => ycC l g hl 0 W2 (by omega) (by omega) hB2 a p1 h1
 have g1 := yd7 (l := l) (p := 0) (by rw [h1])
 rw [h1] at g1
 dsimp only at g1
 have N2 := Lib.hid fun W2 (hB2 : Blk W2 g 125 #[.string ⟨l.toArray⟩, .int .i64 p1]) => ycC l g hl p1 W2 (by omega) (by omega) hB2 b p2 h2
 have g2 := yd7 (l := l) (p := p1) (by rw [h2])
 rw [h2] at g2
 dsimp only at g2
 have N3 := Lib.hid fun W2 (hB2 : Blk W2 g 125 #[.string ⟨l.toArray⟩, .int .i64 p2]) => q_num_no l g hl p2 W2 (by omega) (by omega) hB2 x q E hE h3
 have HH : Hid (QHold W.drew n hb tb rb g x0 x1 x2 v) := Lib.hid hH.drew
 have HB : Hid (Blk W.drew g 125 #[.string ⟨l.toArray⟩, .int .i64 0]) := Lib.hid hB.drew
 have HT : Hid (Touch W W.drew (fun k => k = g)) := Lib.hid (ycg (Touch.refl _ _))
 clear hB h1 h2 h3 g1 g2 hl hE
 go_enter Tryz.func52, Tryz.ntmps52
 go_wp2
 refine wp_region_held_drew (S := (fun W2 => W2.cell? ⟨n, 0, none⟩ = some (.func (.func 50) #[.pointer (some ⟨g, 0, none⟩)] #[]))) (by kernel_rfl) (HH.out.1.cell 0) (fun hHeld => ?_)
 refine wpAnyH_take (i := 0) (oi := ⟨some 4, Op.load 84 (Operand.tmp 0), 84, _, #[], none⟩) (v := ?_) rfl (by kernel_rfl) (by kernel_rfl) (by kernel_rfl) (fun _ _ _ h => h) (Or.inl ⟨by rfl, ?_⟩) hHeld ?_
 rotate_left
 ·(intro wz hSw; go_simp; try (with_reducible rfl))
 try simp only [Act.put, List.setIfInBounds_toArray, List.set_cons_zero, List.set_cons_succ]
 refine wpAnyH_take (i := 2) (oi := ⟨some 6, Op.load 84 (Operand.tmp 0), 84, _, #[], none⟩) (v := ?_) rfl (by kernel_rfl) (by kernel_rfl) (by kernel_rfl) (fun _ _ _ h => h) (Or.inl ⟨by rfl, ?_⟩) hHeld ?_
 rotate_left
 ·(intro wz hSw; go_simp; try (with_reducible rfl))
 try simp only [Act.put, List.setIfInBounds_toArray, List.set_cons_zero, List.set_cons_succ]
 refine wpAnyH_take (i := 4) (oi := ⟨some 8, Op.load 84 (Operand.tmp 0), 84, _, #[], none⟩) (v := ?_) rfl (by kernel_rfl) (by kernel_rfl) (by kernel_rfl) (fun _ _ _ h => h) (Or.inl ⟨by rfl, ?_⟩) hHeld ?_
 rotate_left
 ·(intro wz hSw; go_simp; try (with_reducible rfl))
 try simp only [Act.put, List.setIfInBounds_toArray, List.set_cons_zero, List.set_cons_succ]
 refine wpAnyH_ready (rs := [1]) (by kernel_rfl) (by simp) ?_
 refine AllReadyH.cons (o := ⟨some 5, Op.call { callee := Callee.value (Operand.tmp 4), args := #[], argTypes := #[] }, 3, _, #[{ on := 0, ground := Ground.data }], none⟩) rfl (fun K hK => ?_) AllReadyH.nil
 go_simp
 go_at_call 50
 (with_reducible refine (N1.out _ HB.out).mono ?_)
 rintro e w1 ⟨rfl, hb1, hB1⟩
 have HB1 := Lib.hid hB1
 have HH1 := Lib.hid (HH.out.grow hb1 hn hh ht hr)
 have HT1 := Lib.hid (HT.out.next (yaq hb1) (fun i _ e => yhi e))
 have HS := HH1.out.1.cell 0
 clear hB1
 refine hK.out _ _ (HS) (fun hH => ?_)
 clear hHeld hK K hb1
 have hHeld := hH
 clear hH
 try simp only [Act.put, List.setIfInBounds_toArray, List.set_cons_zero, List.set_cons_succ]
 refine wpAnyH_ready (rs := [3]) (by kernel_rfl) (by simp) ?_
 refine AllReadyH.cons (o := ⟨some 7, Op.call { callee := Callee.value (Operand.tmp 6), args := #[], argTypes := #[] }, 3, _, #[{ on := 2, ground := Ground.data }, { on := 1, ground := Ground.chain }], none⟩) rfl (fun K hK => ?_) AllReadyH.nil
 go_simp
 go_at_call 50
 (with_reducible refine (N2.out _ HB1.out).mono ?_)
 rintro e w2 ⟨rfl, hb1, hB1⟩
 have HB2 := Lib.hid hB1
 have HH2 := Lib.hid (HH1.out.grow hb1 hn hh ht hr)
 have HT2 := Lib.hid (HT1.out.next (yaq hb1) (fun i _ e => yhi e))
 have HS := HH2.out.1.cell 0
 clear hB1
 refine hK.out _ _ (HS) (fun hH => ?_)
 clear hHeld hK K hb1
 have hHeld := hH
 clear hH
 try simp only [Act.put, List.setIfInBounds_toArray, List.set_cons_zero, List.set_cons_succ]
 refine wpAnyH_ready (rs := [5]) (by kernel_rfl) (by simp) ?_
 refine AllReadyH.cons (o := ⟨some 9, Op.call { callee := Callee.value (Operand.tmp 8), args := #[], argTypes := #[] }, 3, _, #[{ on := 4, ground := Ground.data }, { on := 3, ground := Ground.chain }], none⟩) rfl (fun K hK => ?_) AllReadyH.nil
 go_simp
 go_at_call 50
 (with_reducible refine (N3.out _ HB2.out).mono ?_)
 rintro e w3 ⟨rfl, hb1⟩
 go_simp
 exact q_panic rfl ⟨⟨_, rfl⟩, HT2.out.next (yak hb1 (Nat.le_refl _)) (fun i _ e => e)⟩
set_option maxRecDepth 100000 in
set_option maxHeartbeats 4000000 in
theorem q_take_yes (a b c p1 p2 p3 : Int) (hn2 : n ≠ hb) (ht2 : tb ≠ hb) (hr2 : rb ≠ hb) (hg2 : g ≠ hb) (h1 : getF l 0 = (a, p1, 0)) (h2 : getF l p1 = (b, p2, 0)) (h3 : getF l p2 = (c, p3, 0)) :
  Calls Tryz.prog 52 #[.pointer (some ⟨n, 0, none⟩), .pointer (some ⟨hb, 0, none⟩), .pointer (some ⟨tb, 0, none⟩), .pointer (some ⟨rb, 0, none⟩)] W fun r w' =>
   (∃ u, r = .returned u) ∧ Blk w' hb 40 #[.int .i64 a, .int .i64 b, .int .i64 c] ∧ Blk w' rb 9 #[.string ⟨(l.drop p3.toNat).toArray⟩] ∧ Touch W w' (fun k => k = g ∨ k = hb ∨ k = rb) := by
 have N1 := Lib.hid fun W2 (hB2 : Blk W2 g 125 #[.string ⟨l.toArray⟩, .int .i64 0]) => ycC l g hl 0 W2 (by omega) (by omega) hB2 a p1 h1
 have g1 := yd7 (l := l) (p := 0) (by rw [h1])
 rw [h1] at g1
 dsimp only at g1
 have N2 := Lib.hid fun W2 (hB2 : Blk W2 g 125 #[.string ⟨l.toArray⟩, .int .i64 p1]) => ycC l g hl p1 W2 (by omega) (by omega) hB2 b p2 h2
 have g2 := yd7 (l := l) (p := p1) (by rw [h2])
 rw [h2] at g2
 dsimp only at g2
 have N3 := Lib.hid fun W2 (hB2 : Blk W2 g 125 #[.string ⟨l.toArray⟩, .int .i64 p2]) => ycC l g hl p2 W2 (by omega) (by omega) hB2 c p3 h3
 have g3 := yd7 (l := l) (p := p2) (by rw [h3])
 rw [h3] at g3
 dsimp only at g3
 have N4 := Lib.hid fun W2 (hB2 : Blk W2 g 125 #[.string ⟨l.toArray⟩, .int .i64 p3]) => q_rest_any l g hl p3 W2 (by omega) (by omega) hB2
 have HH : Hid (QHold W.drew n hb tb rb g x0 x1 x2 v) := Lib.hid hH.drew
 have HB : Hid (Blk W.drew g 125 #[.string ⟨l.toArray⟩, .int .i64 0]) := Lib.hid hB.drew
 have HT : Hid (Touch W W.drew (fun k => k = g)) := Lib.hid (ycg (Touch.refl _ _))
 clear hB h1 h2 h3 g1 g2 g3 hl
 go_enter Tryz.func52, Tryz.ntmps52
 go_wp2
 refine wp_region_held_drew (S := (fun W2 => W2.cell? ⟨n, 0, none⟩ = some (.func (.func 50) #[.pointer (some ⟨g, 0, none⟩)] #[]))) (by kernel_rfl) (HH.out.1.cell 0) (fun hHeld => ?_)
 refine wpAnyH_take (i := 0) (oi := ⟨some 4, Op.load 84 (Operand.tmp 0), 84, _, #[], none⟩) (v := ?_) rfl (by kernel_rfl) (by kernel_rfl) (by kernel_rfl) (fun _ _ _ h => h) (Or.inl ⟨by rfl, ?_⟩) hHeld ?_
 rotate_left
 ·(intro wz hSw; go_simp; try (with_reducible rfl))
 try simp only [Act.put, List.setIfInBounds_toArray, List.set_cons_zero, List.set_cons_succ]
 refine wpAnyH_take (i := 2) (oi := ⟨some 6, Op.load 84 (Operand.tmp 0), 84, _, #[], none⟩) (v := ?_) rfl (by kernel_rfl) (by kernel_rfl) (by kernel_rfl) (fun _ _ _ h => h) (Or.inl ⟨by rfl, ?_⟩) hHeld ?_
 rotate_left
 ·(intro wz hSw; go_simp; try (with_reducible rfl))
 try simp only [Act.put, List.setIfInBounds_toArray, List.set_cons_zero, List.set_cons_succ]
 refine wpAnyH_take (i := 4) (oi := ⟨some 8, Op.load 84 (Operand.tmp 0), 84, _, #[], none⟩) (v := ?_) rfl (by kernel_rfl) (by kernel_rfl) (by kernel_rfl) (fun _ _ _ h => h) (Or.inl ⟨by rfl, ?_⟩) hHeld ?_
 rotate_left
 ·(intro wz hSw; go_simp; try (with_reducible rfl))
 try simp only [Act.put, List.setIfInBounds_toArray, List.set_cons_zero, List.set_cons_succ]
 refine wpAnyH_ready (rs := [1]) (by kernel_rfl) (by simp) ?_
 refine AllReadyH.cons (o := ⟨some 5, Op.call { callee := Callee.value (Operand.tmp 4), args := #[], argTypes := #[] }, 3, _, #[{ on := 0, ground := Ground.data }], none⟩) rfl (fun K hK => ?_) AllReadyH.nil
 go_simp
 go_at_call 50
 (with_reducible refine (N1.out _ HB.out).mono ?_)
 rintro e w1 ⟨rfl, hb1, hB1⟩
 have HB1 := Lib.hid hB1
 have HH1 := Lib.hid (HH.out.grow hb1 hn hh ht hr)
 have HT1 := Lib.hid (HT.out.next (yaq hb1) (fun i _ e => yhi e))
 have HS := HH1.out.1.cell 0
 clear hB1
 refine hK.out _ _ (HS) (fun hH => ?_)
 clear hHeld hK K hb1
 have hHeld := hH
 clear hH
 try simp only [Act.put, List.setIfInBounds_toArray, List.set_cons_zero, List.set_cons_succ]
 refine wpAnyH_ready (rs := [3]) (by kernel_rfl) (by simp) ?_
 refine AllReadyH.cons (o := ⟨some 7, Op.call { callee := Callee.value (Operand.tmp 6), args := #[], argTypes := #[] }, 3, _, #[{ on := 2, ground := Ground.data }, { on := 1, ground := Ground.chain }], none⟩) rfl (fun K hK => ?_) AllReadyH.nil
 go_simp
 go_at_call 50
 (with_reducible refine (N2.out _ HB1.out).mono ?_)
 rintro e w2 ⟨rfl, hb1, hB1⟩
 have HB2 := Lib.hid hB1
 have HH2 := Lib.hid (HH1.out.grow hb1 hn hh ht hr)
 have HT2 := Lib.hid (HT1.out.next (yaq hb1) (fun i _ e => yhi e))
 have HS := HH2.out.1.cell 0
 clear hB1
 refine hK.out _ _ (HS) (fun hH => ?_)
 clear hHeld hK K hb1
 have hHeld := hH
 clear hH
 try simp only [Act.put, List.setIfInBounds_toArray, List.set_cons_zero, List.set_cons_succ]
 refine wpAnyH_ready (rs := [5]) (by kernel_rfl) (by simp) ?_
 refine AllReadyH.cons (o := ⟨some 9, Op.call { callee := Callee.value (Operand.tmp 8), args := #[], argTypes := #[] }, 3, _, #[{ on := 4, ground := Ground.data }, { on := 3, ground := Ground.chain }], none⟩) rfl (fun K hK => ?_) AllReadyH.nil
 go_simp
 go_at_call 50
 (with_reducible refine (N3.out _ HB2.out).mono ?_)
 rintro e w3 ⟨rfl, hb1, hB1⟩
 have HB3 := Lib.hid hB1
 have HH3 := Lib.hid (HH2.out.grow hb1 hn hh ht hr)
 have HT3 := Lib.hid (HT2.out.next (yaq hb1) (fun i _ e => yhi e))
 have HS := HH3.out.1.cell 0
 clear hB1
 refine hK.out _ _ (HS) (fun hH => ?_)
 clear hHeld hK K hb1
 have hHeld := hH
 clear hH
 try simp only [Act.put, List.setIfInBounds_toArray, List.set_cons_zero, List.set_cons_succ]
 refine wpAnyH_take (i := 6) (oi := ⟨some 10, Op.build 40 #[(0, Operand.tmp 5), (1, Operand.tmp 7), (2, Operand.tmp 9)], 40, _, #[{ on := 1, ground := Ground.data }, { on := 3, ground := Ground.data }, { on := 5, ground := Ground.data }], none⟩) (v := ?_) rfl (by kernel_rfl) (by kernel_rfl) (by kernel_rfl) (fun _ _ _ h => h) (Or.inl ⟨by rfl, ?_⟩) hHeld ?_
 rotate_left
 ·(intro wz hSw; go_simp; try (with_reducible rfl))
 try simp only [Act.put, List.setIfInBounds_toArray, List.set_cons_zero, List.set_cons_succ]
 refine wpAnyH_ready (rs := [7]) (by kernel_rfl) (by simp) ?_
 refine AllReadyH.cons (o := ⟨none, Op.store 40 (Operand.tmp 1) (Operand.tmp 10), 0, _, #[{ on := 6, ground := Ground.data }, { on := 5, ground := Ground.chain }, { on := 0, ground := Ground.phase }, { on := 1, ground := Ground.phase }, { on := 2, ground := Ground.phase }, { on := 3, ground := Ground.phase }, { on := 4, ground := Ground.phase }, { on := 5, ground := Ground.phase }, { on := 6, ground := Ground.phase }], none⟩) rfl (fun K hK => ?_) AllReadyH.nil
 have k0 := HH3.out.2.1.cell 0
 have k1 := HH3.out.2.1.cell 1
 have k2 := HH3.out.2.1.cell 2
 have z0 := HH3.out.2.1.frozen 0
 have z1 := HH3.out.2.1.frozen 1
 have z2 := HH3.out.2.1.frozen 2
 go_simp
 refine hK.out _ _ ((HH3.out.set a b c hn2 ht2 hr2).1.cell 0) (fun hH => ?_)
 clear hK K hHeld
 have hHeld := hH
 clear hH k0 k1 k2 z0 z1 z2
 try simp only [Act.put, List.setIfInBounds_toArray, List.set_cons_zero, List.set_cons_succ]
 refine wpAnyH_done (by kernel_rfl) ?_ _
 have HX := Lib.hid (HH3.out.set a b c hn2 ht2 hr2)
 have HBX := Lib.hid (((HB3.out.far (p := ⟨hb, 0, none⟩) hg2 (.int .i64 a)).far (p := ⟨hb, 1, none⟩) hg2 (.int .i64 b)).far (p := ⟨hb, 2, none⟩) hg2 (.int .i64 c))
 have HTX := Lib.hid (q_touch_set (HT3.out) (hb := hb) (.int .i64 a) (.int .i64 b) (.int .i64 c))
 clear hHeld HH3 HB3 HT3 HH2 HB2 HT2 HH1 HB1 HT1 HH HB HT HS
 generalize ((w3.setCell ⟨hb, 0, none⟩ (.int .i64 a)).setCell ⟨hb, 1, none⟩ (.int .i64 b)).setCell ⟨hb, 2, none⟩ (.int .i64 c) = X at HX HBX HTX ⊢
 have t1 := HX.out.2.2.1.cell 0
 simp only [List.getElem?_toArray, List.getElem?_cons_zero] at t1
 go_wp2_with (go_at_call 53; (with_reducible refine (N4.out _ HBX.out).mono ?_); rintro e w4 ⟨rfl, hg4, hB4⟩; have r1 := (HX.out.2.2.2.grow hg4 hr).cell 0; have z4 := (HX.out.2.2.2.grow hg4 hr).frozen 0)
 go_end0
 exact ⟨⟨_, rfl⟩, (HX.out.2.1.grow hg4 hh).far (fun e => hr2 e.symm) _, by simpa using (HX.out.2.2.2.grow hg4 hr).set_ 0 (.string ⟨(l.drop p3.toNat).toArray⟩), q_touch_end HTX.out hg4 _⟩
end
end Go.Proofs.YtoinjdmlembgeaaGreat
