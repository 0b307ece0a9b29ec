/-
  Layer 3: the methods of a taker, where there is no fault; the call that Run defers.
-/
import Derived.Test.YtbibjcgnaibhlaaTakeB
import Derived.Defers
import Derived.Recover
namespace Go.Proofs.Ytbibjcgnaibhlaa
set_option linter.unusedSimpArgs false
set_option linter.unusedVariables false
open Go.ChangeShapes Go.WideShapes Go.ChangeAt Go.RowKit Go.Joins Go.Deep

theorem got_f0 (v1 v2 : Value) (w : World) : (Instr.field 44 (.agg #[v1, v2]) 0).run Try.prog w = .ok v1 w := by kernel_rfl
theorem got_f1 (v1 v2 : Value) (w : World) : (Instr.field 44 (.agg #[v1, v2]) 1).run Try.prog w = .ok v2 w := by kernel_rfl
section
variable (l : List UInt8) (p : Int) (g : Nat) (w : World) (hl : l.length ≤ 4611686018427387904) (h0 : 0 ≤ p) (hp : p ≤ l.length) (hB : Blk w g 53 #[.string ⟨l.toArray⟩, .int .i64 p])
include hl h0 hp hB
theorem byte_ok (x : Int) (s : List UInt8) (q : Int) (hr : pieceF l p 1 0 = ((x, s), q, 0)) :
    Calls Try.prog 13 #[.pointer (some ⟨g, 0, none⟩)] w fun e w' => e = .returned (.int .i64 x) ∧ w.grownBy w' (some g) ∧ Blk w' g 53 #[.string ⟨l.toArray⟩, .int .i64 q] := by
  have ht := fun w hB => take_ok l p 1 0 g w hl h0 hp hB x s q hr
  have f0 := got_f0
  have f1 := got_f1
  clear hr
  go_enter Try.func13, Try.ntmps13
  go_wp2_with (refine (ht _ hB).mono ?_; rintro e w1 ⟨rfl, h1, h2⟩)
  go_ret
  exact ⟨rfl, h1, h2⟩
theorem num_ok (x : Int) (s : List UInt8) (q : Int) (hr : pieceF l p 2 0 = ((x, s), q, 0)) :
    Calls Try.prog 14 #[.pointer (some ⟨g, 0, none⟩)] w fun e w' => e = .returned (.int .i64 x) ∧ w.grownBy w' (some g) ∧ Blk w' g 53 #[.string ⟨l.toArray⟩, .int .i64 q] := by
  have ht := fun w hB => take_ok l p 2 0 g w hl h0 hp hB x s q hr
  have f0 := got_f0
  have f1 := got_f1
  clear hr
  go_enter Try.func14, Try.ntmps14
  go_wp2_with (refine (ht _ hB).mono ?_; rintro e w1 ⟨rfl, h1, h2⟩)
  go_ret
  exact ⟨rfl, h1, h2⟩
theorem fix_ok (n : Int) (x : Int) (s : List UInt8) (q : Int) (hr : pieceF l p 3 n = ((x, s), q, 0)) :
    Calls Try.prog 15 #[.pointer (some ⟨g, 0, none⟩), .int .i64 n] w fun e w' => e = .returned (.int .i64 x) ∧ w.grownBy w' (some g) ∧ Blk w' g 53 #[.string ⟨l.toArray⟩, .int .i64 q] := by
  have ht := fun w hB => take_ok l p 3 n g w hl h0 hp hB x s q hr
  have f0 := got_f0
  have f1 := got_f1
  clear hr
  go_enter Try.func15, Try.ntmps15
  go_wp2_with (refine (ht _ hB).mono ?_; rintro e w1 ⟨rfl, h1, h2⟩)
  go_ret
  exact ⟨rfl, h1, h2⟩
theorem text_ok (n : Int) (x : Int) (s : List UInt8) (q : Int) (hr : pieceF l p 4 n = ((x, s), q, 0)) :
    Calls Try.prog 16 #[.pointer (some ⟨g, 0, none⟩), .int .i64 n] w fun e w' => e = .returned (.string ⟨s.toArray⟩) ∧ w.grownBy w' (some g) ∧ Blk w' g 53 #[.string ⟨l.toArray⟩, .int .i64 q] := by
  have ht := fun w hB => take_ok l p 4 n g w hl h0 hp hB x s q hr
  have f0 := got_f0
  have f1 := got_f1
  clear hr
  go_enter Try.func16, Try.ntmps16
  go_wp2_with (refine (ht _ hB).mono ?_; rintro e w1 ⟨rfl, h1, h2⟩)
  go_ret
  exact ⟨rfl, h1, h2⟩
theorem rest_ok (x : Int) (s : List UInt8) (q : Int) (hr : pieceF l p 5 0 = ((x, s), q, 0)) :
    Calls Try.prog 17 #[.pointer (some ⟨g, 0, none⟩)] w fun e w' => e = .returned (.string ⟨s.toArray⟩) ∧ w.grownBy w' (some g) ∧ Blk w' g 53 #[.string ⟨l.toArray⟩, .int .i64 q] := by
  have ht := fun w hB => take_ok l p 5 0 g w hl h0 hp hB x s q hr
  have f0 := got_f0
  have f1 := got_f1
  clear hr
  go_enter Try.func17, Try.ntmps17
  go_wp2_with (refine (ht _ hB).mono ?_; rintro e w1 ⟨rfl, h1, h2⟩)
  go_ret
  exact ⟨rfl, h1, h2⟩
theorem end_ok (x : Int) (s : List UInt8) (q : Int) (hr : pieceF l p 6 0 = ((x, s), q, 0)) :
    Calls Try.prog 18 #[.pointer (some ⟨g, 0, none⟩)] w fun e w' => e = .returned (.tuple #[]) ∧ w.grownBy w' (some g) ∧ Blk w' g 53 #[.string ⟨l.toArray⟩, .int .i64 q] := by
  have ht := fun w hB => take_ok l p 6 0 g w hl h0 hp hB x s q hr
  have f0 := got_f0
  have f1 := got_f1
  clear hr
  go_enter Try.func18, Try.ntmps18
  go_wp2_with (refine (ht _ hB).mono ?_; rintro e w1 ⟨rfl, h1, h2⟩)
  go_end0
  exact ⟨rfl, h1, h2⟩
omit hl h0 hp in
theorem at_any : Calls Try.prog 19 #[.pointer (some ⟨g, 0, none⟩)] w fun e w' => e = .returned (.int .i64 p) ∧ w = w' := by
  have h := hB.two
  clear hB
  go_enter Try.func19, Try.ntmps19
  go_wp2
  go_ret
  exact ⟨rfl, rfl⟩
theorem left_any : Calls Try.prog 20 #[.pointer (some ⟨g, 0, none⟩)] w fun e w' => e = .returned (.int .i64 (l.length - p)) ∧ ∃ n, w' = w.drewN n := by
  have h := hB.two
  clear hB
  go_enter Try.func20, Try.ntmps20
  go_wp2
  go_quiet (fail)
  go_wp2
  go_ret
  exact ⟨rfl, _, rfl⟩
end

/-! ### The call that Run defers -/
theorem catch_idle (a b : Addr) (w : World) : CallsD Try.prog 21 #[.pointer (some a), .pointer (some b)] .returning w fun e u' w' => e = .returned (.tuple #[]) ∧ u' = .returning ∧ w' = w := by
  refine callsD_of_wpS Try.func21 rfl fun c₀ cs hu => ?_
  apply wpS_seq
  apply wpS_region
  simp [wpOpsS, go_sem, recoverD, hu, Try.ntmps21, Exit.thenS]
  apply wpS_seq
  apply wpS_region
  simp [wpOpsS, go_sem, Exit.thenS, Array.replicate]
  refine wpS_cond (t := false) (by simp [Act.eval]) ?_
  simp only [Bool.false_eq_true, if_false]
  refine wpS_of_wp (wp_skip ?_)
  cases c₀
  simp_all [bodyPostS, results, Try.results21]

theorem fault_is (v : Value) (w : World) : (Instr.typeAssert (.iface 48 v) 20 48 false).run Try.prog w = .ok v w := by kernel_rfl
theorem catch_fault (N M : Nat) (x y e p : Int) (older : List PanicEntry) (w : World) (hNM : ¬ N = M) (hN : Blk w N 3 #[.int .i64 x]) (hM : Blk w M 26 #[.int .i64 y]) :
    CallsD Try.prog 21 #[.pointer (some ⟨N, 0, none⟩), .pointer (some ⟨M, 0, none⟩)] (.panicking ({ v := .iface 48 (.agg #[.int .i64 e, .int .i64 p]), recovered := false } :: older)) w fun r u' w' =>
      r = .returned (.tuple #[]) ∧ u' = .panicking ({ v := .iface 48 (.agg #[.int .i64 e, .int .i64 p]), recovered := true } :: older) ∧ w'.cell? ⟨N, 0, none⟩ = some (.int .i64 p) ∧ w'.cell? ⟨M, 0, none⟩ = some (.int .i64 e) ∧ ∃ w1, w.grownBy w1 (some N) ∧ w1.grownBy w' (some M) := by
  have c1 : w.cell? ⟨N, 0, none⟩ = some (.int .i64 x) := hN.cell 0
  have c2 : w.cell? ⟨M, 0, none⟩ = some (.int .i64 y) := hM.cell 0
  have z1 := hN.frozen 0
  have z2 := hM.frozen 0
  have n1 : ¬ N = w.heap.size := by have := hN.lt; omega
  have n2 : ¬ M = w.heap.size := by have := hM.lt; omega
  have n3 : ¬ M = N := fun e => hNM e.symm
  refine callsD_of_wpS Try.func21 rfl fun c₀ cs hu => ?_
  apply wpS_seq
  apply wpS_region
  simp [wpOpsS, go_sem, recoverD, hu, Try.ntmps21, Exit.thenS, Array.replicate]
  apply wpS_seq
  apply wpS_region
  simp [wpOpsS, go_sem, Exit.thenS, Array.replicate]
  refine wpS_cond (t := true) (by simp [Act.eval]) ?_
  simp only [if_true]
  refine wpS_of_wp ?_
  have hta := fault_is
  go_wp2
  have hX1 := (hN.alloc (.cells #[.int .i64 e, .int .i64 p] 48))
  have hX2 := (hM.alloc (.cells #[.int .i64 e, .int .i64 p] 48))
  have hX3 := (Blk.new w 48 #[.int .i64 e, .int .i64 p]).two
  have hX4 : w.grownBy (w.alloc (.cells #[.int .i64 e, .int .i64 p] 48)) (some N) := World.grownBy_alloc _ _ _
  have hX5 : w.grownBy (w.alloc (.cells #[.int .i64 e, .int .i64 p] 48)) (some M) := World.grownBy_alloc _ _ _
  clear c1 c2 z1 z2
  generalize w.alloc (.cells #[.int .i64 e, .int .i64 p] 48) = X at hX1 hX2 hX3 hX4 hX5 ⊢
  generalize w.heap.size = H at n1 n2 hX3 ⊢
  have c1 : X.cell? ⟨N, 0, none⟩ = some (.int .i64 x) := hX1.cell 0
  have c2 : X.cell? ⟨M, 0, none⟩ = some (.int .i64 y) := hX2.cell 0
  have z1 := hX1.frozen 0
  have z2 := hX2.frozen 0
  clear hX1 hX2
  have h4 := Lib.hid hX4
  have h5 := Lib.hid hX5
  clear hX4 hX5
  go_region
  have q1 : (((X.setCell ⟨N, 0, none⟩ (.int .i64 p)).setCell ⟨M, 0, none⟩ (.int .i64 e)).drew).cell? ⟨N, 0, none⟩ = some (.int .i64 p) := by go_simp
  have q2 : (((X.setCell ⟨N, 0, none⟩ (.int .i64 p)).setCell ⟨M, 0, none⟩ (.int .i64 e)).drew).cell? ⟨M, 0, none⟩ = some (.int .i64 e) := by go_simp
  have q3 : ∃ w1, w.grownBy w1 (some N) ∧ w1.grownBy (((X.setCell ⟨N, 0, none⟩ (.int .i64 p)).setCell ⟨M, 0, none⟩ (.int .i64 e)).drew) (some M) :=
    ⟨_, grow_set h4.out (Or.inl rfl) _, grow_drewN (grow_set (grow_refl _ _) (Or.inl rfl) _) 1⟩
  exact ⟨rfl, _, rfl, .tuple #[], by simp [results, Try.results21], rfl, rfl, q1, q2, q3⟩
end Go.Proofs.Ytbibjcgnaibhlaa
