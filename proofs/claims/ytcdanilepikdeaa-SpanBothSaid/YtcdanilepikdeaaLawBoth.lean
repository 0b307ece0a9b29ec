/-
  For any two ranges a, b and any number n: n is in Both of them just if both have it; it is empty just if they do not meet; it lies within each, has no more numbers than a, is the same the other way round, and the layer's probe holds (SpanBoth). No condition.
-/
import Derived.Test.YtcdanilepikdeaaHeld
namespace Go.Proofs.Ytcdanilepikdeaa
set_option linter.unusedSimpArgs false
set_option linter.unusedVariables false
open Go.ChangeShapes Go.WideShapes Go.ChangeAt Go.RowKit Go.Joins Go.Deep

set_option maxHeartbeats 4000000 in
theorem both_walk_ff_true (a b q : Int × Int) (n : Int) (w : World) (ha : In64 a) (hq64 : In64 q) (hq : bothF [a, b] = q) (hs : bothF [b, a] = q) (hwl : withinF q a = true) (hwr : withinF q b = true) (hsz : sizeF q ≤ sizeF a) (hA : hasF a n = false) (hC : hasF q n = false) (hE : emptyF q = true) :
    Calls Try.prog 5 #[.agg #[.int .i64 a.1, .int .i64 a.2], .agg #[.int .i64 b.1, .int .i64 b.2], .int .i64 n] w fun e w' => e = .returned (.bool true) ∧ Below w.heap.size w w' := by
  have Hq := Lib.hid hq
  have Hs := Lib.hid hs
  have Ha := Lib.hid ha
  have Hq64 := Lib.hid hq64
  clear hq hs ha hq64
  go_enter Try.func5, Try.ntmps5
  go_wp2_with fail
  refine (both_any _ _ _ [a, b] _ rfl ?_ ?_ (reads_two _ _ ?_ _ a b)).mono ?_
  · exact Nat.le_refl 2
  · decide
  · simp
  rw [Hq.out]
  rintro e w1 ⟨rfl, hb⟩
  have h1 : Held w w1 w.heap.size (w.heap.size + 1) 23 (.int .i64 a.1) (.int .i64 a.2) (.int .i64 b.1) (.int .i64 b.2) :=
    Held.step_alloc (wi := (w.alloc (.cells #[.int .i64 a.1, .int .i64 a.2] 23)).alloc (.cells #[.int .i64 b.1, .int .i64 b.2] 23))
      ⟨by omega, by omega, by go_grown, (Blk.new _ _ _).alloc _, by simpa using Blk.new (w.alloc _) _ _⟩ hb
  clear hb
  have h0 : Held3 w (w1.alloc (.cells #[.int .i64 q.1, .int .i64 q.2] 23)) w.heap.size (w.heap.size + 1) w1.heap.size 23 (.int .i64 a.1) (.int .i64 a.2) (.int .i64 b.1) (.int .i64 b.2) (.int .i64 q.1) (.int .i64 q.2) :=
    ⟨h1.alloc _, h1.2.2.1.size, Blk.new _ _ _⟩
  generalize hgc : w1.heap.size = gc at h0
  go_wp2_with fail
  clear hgc h1
  refine wp_region_held_drew (S := (fun w' => w'.cell? ⟨w.heap.size, 0, none⟩ = some (.int .i64 a.1) ∧ w'.cell? ⟨w.heap.size, 1, none⟩ = some (.int .i64 a.2) ∧ w'.cell? ⟨w.heap.size + 1, 0, none⟩ = some (.int .i64 b.1) ∧ w'.cell? ⟨w.heap.size + 1, 1, none⟩ = some (.int .i64 b.2) ∧ w'.cell? ⟨gc, 0, none⟩ = some (.int .i64 q.1) ∧ w'.cell? ⟨gc, 1, none⟩ = some (.int .i64 q.2) ∧ Held3 w w' (w.heap.size) (w.heap.size + 1) (gc) 23 (.int .i64 a.1) (.int .i64 a.2) (.int .i64 b.1) (.int .i64 b.2) (.int .i64 q.1) (.int .i64 q.2))) (by kernel_rfl) ((by first | exact (Held3.drew h0).conds | exact (Held3.drew h1).conds)) (fun hHeld => ?_)
  refine wpAnyH_take (i := 0) (oi := ⟨some 12, Op.load 23 (Operand.tmp 7), 23, _, #[], none⟩) (v := ?_) rfl (by kernel_rfl) (by kernel_rfl) (by kernel_rfl) (fun _ _ _ h => h) (Or.inl ⟨by rfl, ?_⟩) hHeld ?_
  rotate_left
  · (intro w1 hSw; (try dsimp only at hSw); go_simp; try (with_reducible rfl))
  try simp only [Act.put, List.setIfInBounds_toArray, List.set_cons_zero, List.set_cons_succ]
  refine wpAnyH_take (i := 1) (oi := ⟨some 13, Op.move (Operand.tmp 2), 3, _, #[], none⟩) (v := ?_) rfl (by kernel_rfl) (by kernel_rfl) (by kernel_rfl) (fun _ _ _ h => h) (Or.inl ⟨by rfl, ?_⟩) hHeld ?_
  rotate_left
  · (intro w1 hSw; (try dsimp only at hSw); go_simp; try (with_reducible rfl))
  try simp only [Act.put, List.setIfInBounds_toArray, List.set_cons_zero, List.set_cons_succ]
  refine wpAnyH_take (i := 3) (oi := ⟨some 15, Op.load 23 (Operand.tmp 3), 23, _, #[], none⟩) (v := ?_) rfl (by kernel_rfl) (by kernel_rfl) (by kernel_rfl) (fun _ _ _ h => h) (Or.inl ⟨by rfl, ?_⟩) hHeld ?_
  rotate_left
  · (intro w1 hSw; (try dsimp only at hSw); go_simp; try (with_reducible rfl))
  try simp only [Act.put, List.setIfInBounds_toArray, List.set_cons_zero, List.set_cons_succ]
  refine wpAnyH_take (i := 4) (oi := ⟨some 16, Op.move (Operand.tmp 2), 3, _, #[], none⟩) (v := ?_) rfl (by kernel_rfl) (by kernel_rfl) (by kernel_rfl) (fun _ _ _ h => h) (Or.inl ⟨by rfl, ?_⟩) hHeld ?_
  rotate_left
  · (intro w1 hSw; (try dsimp only at hSw); go_simp; try (with_reducible rfl))
  try simp only [Act.put, List.setIfInBounds_toArray, List.set_cons_zero, List.set_cons_succ]
  refine wpAnyH_ready (rs := [2]) (by kernel_rfl) (by simp) ?_
  refine AllReadyH.cons (o := ⟨some 14, Op.call { callee := Callee.value (Operand.func 7), args := #[Operand.tmp 12, Operand.tmp 13], argTypes := #[23, 3] }, 4, _, #[{ on := 0, ground := Ground.data }, { on := 1, ground := Ground.data }], none⟩) rfl (fun K hK => ?_) AllReadyH.nil
  go_simp
  refine (has_r q n _).mono ?_
  rintro e w1 ⟨rfl, hb1⟩
  refine hK.out _ _ (Held3.next hHeld hb1) (fun hH => ?_)
  clear hHeld hK K hb1
  have hHeld := hH
  clear hH
  try simp only [Act.put, List.setIfInBounds_toArray, List.set_cons_zero, List.set_cons_succ]
  refine wpAnyH_ready (rs := [5]) (by kernel_rfl) (by simp) ?_
  refine AllReadyH.cons (o := ⟨some 17, Op.call { callee := Callee.value (Operand.func 7), args := #[Operand.tmp 15, Operand.tmp 16], argTypes := #[23, 3] }, 4, _, #[{ on := 3, ground := Ground.data }, { on := 4, ground := Ground.data }, { on := 2, ground := Ground.chain }], none⟩) rfl (fun K hK => ?_) AllReadyH.nil
  go_simp
  refine (has_r a n _).mono ?_
  rintro e w1 ⟨rfl, hb1⟩
  refine hK.out _ _ (Held3.next hHeld hb1) (fun hH => ?_)
  clear hHeld hK K hb1
  have hHeld := hH
  clear hH
  try simp only [Act.put, List.setIfInBounds_toArray, List.set_cons_zero, List.set_cons_succ]
  refine wpAnyH_take (i := 6) (oi := ⟨some 18, Op.move (Operand.tmp 17), 4, _, #[{ on := 5, ground := Ground.data }, { on := 5, ground := Ground.chain }], none⟩) (v := ?_) rfl (by kernel_rfl) (by kernel_rfl) (by kernel_rfl) (fun _ _ _ h => h) (Or.inl ⟨by rfl, ?_⟩) hHeld ?_
  rotate_left
  · (intro w1 hSw; (try dsimp only at hSw); go_simp; try (with_reducible rfl))
  try simp only [Act.put, List.setIfInBounds_toArray, List.set_cons_zero, List.set_cons_succ]
  refine wpAnyH_take (i := 7) (oi := ⟨some 19, Op.load 23 (Operand.tmp 4), 23, _, #[{ on := 6, ground := Ground.guard }], some (6, true)⟩) (v := undef) rfl (by kernel_rfl) (by kernel_rfl) (by kernel_rfl) (fun _ _ _ h => h) (Or.inr ⟨by rfl, rfl⟩) hHeld ?_
  try simp only [Act.put, List.setIfInBounds_toArray, List.set_cons_zero, List.set_cons_succ]
  refine wpAnyH_take (i := 8) (oi := ⟨some 20, Op.move (Operand.tmp 2), 3, _, #[{ on := 6, ground := Ground.guard }], some (6, true)⟩) (v := undef) rfl (by kernel_rfl) (by kernel_rfl) (by kernel_rfl) (fun _ _ _ h => h) (Or.inr ⟨by rfl, rfl⟩) hHeld ?_
  try simp only [Act.put, List.setIfInBounds_toArray, List.set_cons_zero, List.set_cons_succ]
  refine wpAnyH_ready (rs := [9]) (by kernel_rfl) (by simp) ?_
  refine AllReadyH.cons (o := ⟨some 21, Op.call { callee := Callee.value (Operand.func 7), args := #[Operand.tmp 19, Operand.tmp 20], argTypes := #[23, 3] }, 4, _, #[{ on := 7, ground := Ground.data }, { on := 8, ground := Ground.data }, { on := 6, ground := Ground.chain }, { on := 6, ground := Ground.guard }], some (6, true)⟩) rfl (fun K hK => ?_) AllReadyH.nil
  go_simp
  refine hK.out _ _ hHeld (fun _ => ?_)
  clear hK K
  try simp only [Act.put, List.setIfInBounds_toArray, List.set_cons_zero, List.set_cons_succ]
  refine wpAnyH_take (i := 10) (oi := ⟨some 22, Op.pick (Operand.tmp 18) (Operand.tmp 21) (Operand.const (Value.bool false)), 4, _, #[{ on := 6, ground := Ground.data }, { on := 9, ground := Ground.data }], none⟩) (v := ?_) rfl (by kernel_rfl) (by kernel_rfl) (by kernel_rfl) (fun _ _ _ h => h) (Or.inl ⟨by rfl, ?_⟩) hHeld ?_
  rotate_left
  · (intro w1 hSw; (try dsimp only at hSw); go_simp; try (with_reducible rfl))
  try simp only [Act.put, List.setIfInBounds_toArray, List.set_cons_zero, List.set_cons_succ]
  refine wpAnyH_take (i := 11) (oi := ⟨some 23, Op.binOp BinOp.neq 4 (Operand.tmp 14) (Operand.tmp 22) 4, 4, _, #[{ on := 2, ground := Ground.data }, { on := 10, ground := Ground.data }], none⟩) (v := ?_) rfl (by kernel_rfl) (by kernel_rfl) (by kernel_rfl) (fun _ _ _ h => h) (Or.inl ⟨by rfl, ?_⟩) hHeld ?_
  rotate_left
  · (intro w1 hSw; (try dsimp only at hSw); go_simp; try (with_reducible rfl))
  try simp only [Act.put, List.setIfInBounds_toArray, List.set_cons_zero, List.set_cons_succ]
  refine wpAnyH_take (i := 12) (oi := ⟨some 24, Op.move (Operand.tmp 23), 4, _, #[{ on := 11, ground := Ground.data }, { on := 9, ground := Ground.chain }], none⟩) (v := ?_) rfl (by kernel_rfl) (by kernel_rfl) (by kernel_rfl) (fun _ _ _ h => h) (Or.inl ⟨by rfl, ?_⟩) hHeld ?_
  rotate_left
  · (intro w1 hSw; (try dsimp only at hSw); go_simp; try (with_reducible rfl))
  try simp only [Act.put, List.setIfInBounds_toArray, List.set_cons_zero, List.set_cons_succ]
  refine wpAnyH_take (i := 13) (oi := ⟨some 25, Op.load 23 (Operand.tmp 7), 23, _, #[{ on := 12, ground := Ground.guard }], some (12, false)⟩) (v := ?_) rfl (by kernel_rfl) (by kernel_rfl) (by kernel_rfl) (fun _ _ _ h => h) (Or.inl ⟨by rfl, ?_⟩) hHeld ?_
  rotate_left
  · (intro w1 hSw; (try dsimp only at hSw); go_simp; try (with_reducible rfl))
  try simp only [Act.put, List.setIfInBounds_toArray, List.set_cons_zero, List.set_cons_succ]
  refine wpAnyH_take (i := 15) (oi := ⟨some 27, Op.load 23 (Operand.tmp 3), 23, _, #[{ on := 12, ground := Ground.guard }], some (12, false)⟩) (v := ?_) rfl (by kernel_rfl) (by kernel_rfl) (by kernel_rfl) (fun _ _ _ h => h) (Or.inl ⟨by rfl, ?_⟩) hHeld ?_
  rotate_left
  · (intro w1 hSw; (try dsimp only at hSw); go_simp; try (with_reducible rfl))
  try simp only [Act.put, List.setIfInBounds_toArray, List.set_cons_zero, List.set_cons_succ]
  refine wpAnyH_take (i := 16) (oi := ⟨some 28, Op.load 23 (Operand.tmp 4), 23, _, #[{ on := 12, ground := Ground.guard }], some (12, false)⟩) (v := ?_) rfl (by kernel_rfl) (by kernel_rfl) (by kernel_rfl) (fun _ _ _ h => h) (Or.inl ⟨by rfl, ?_⟩) hHeld ?_
  rotate_left
  · (intro w1 hSw; (try dsimp only at hSw); go_simp; try (with_reducible rfl))
  try simp only [Act.put, List.setIfInBounds_toArray, List.set_cons_zero, List.set_cons_succ]
  refine wpAnyH_ready (rs := [14]) (by kernel_rfl) (by simp) ?_
  refine AllReadyH.cons (o := ⟨some 26, Op.call { callee := Callee.value (Operand.func 9), args := #[Operand.tmp 25], argTypes := #[23] }, 4, _, #[{ on := 13, ground := Ground.data }, { on := 12, ground := Ground.chain }, { on := 12, ground := Ground.guard }], some (12, false)⟩) rfl (fun K hK => ?_) AllReadyH.nil
  go_simp
  refine (empty_r q _).mono ?_
  rintro e w1 ⟨rfl, hb1⟩
  refine hK.out _ _ (Held3.next hHeld hb1) (fun hH => ?_)
  clear hHeld hK K hb1
  have hHeld := hH
  clear hH
  try simp only [Act.put, List.setIfInBounds_toArray, List.set_cons_zero, List.set_cons_succ]
  refine wpAnyH_ready (rs := [17]) (by kernel_rfl) (by simp) ?_
  refine AllReadyH.cons (o := ⟨some 29, Op.call { callee := Callee.value (Operand.func 20), args := #[Operand.tmp 27, Operand.tmp 28], argTypes := #[23, 23] }, 4, _, #[{ on := 15, ground := Ground.data }, { on := 16, ground := Ground.data }, { on := 14, ground := Ground.chain }, { on := 12, ground := Ground.guard }], some (12, false)⟩) rfl (fun K hK => ?_) AllReadyH.nil
  go_simp
  refine (meets_any a b _).mono ?_
  rw [Hq.out]
  rintro e w1 ⟨rfl, hb1⟩
  refine hK.out _ _ (Held3.next hHeld hb1) (fun hH => ?_)
  clear hHeld hK K hb1
  have hHeld := hH
  clear hH
  try simp only [Act.put, List.setIfInBounds_toArray, List.set_cons_zero, List.set_cons_succ]
  refine wpAnyH_take (i := 18) (oi := ⟨some 30, Op.binOp BinOp.eql 4 (Operand.tmp 26) (Operand.tmp 29) 4, 4, _, #[{ on := 14, ground := Ground.data }, { on := 17, ground := Ground.data }, { on := 12, ground := Ground.guard }], some (12, false)⟩) (v := ?_) rfl (by kernel_rfl) (by kernel_rfl) (by kernel_rfl) (fun _ _ _ h => h) (Or.inl ⟨by rfl, ?_⟩) hHeld ?_
  rotate_left
  · (intro w1 hSw; (try dsimp only at hSw); go_simp; try (with_reducible rfl))
  try simp only [Act.put, List.setIfInBounds_toArray, List.set_cons_zero, List.set_cons_succ]
  refine wpAnyH_take (i := 19) (oi := ⟨some 31, Op.pick (Operand.tmp 24) (Operand.const (Value.bool true)) (Operand.tmp 30), 4, _, #[{ on := 12, ground := Ground.data }, { on := 18, ground := Ground.data }], none⟩) (v := ?_) rfl (by kernel_rfl) (by kernel_rfl) (by kernel_rfl) (fun _ _ _ h => h) (Or.inl ⟨by rfl, ?_⟩) hHeld ?_
  rotate_left
  · (intro w1 hSw; (try dsimp only at hSw); go_simp; try (with_reducible rfl))
  try simp only [Act.put, List.setIfInBounds_toArray, List.set_cons_zero, List.set_cons_succ]
  refine wpAnyH_done (by kernel_rfl) ?_ _
  have h1 := hHeld.2.2.2.2.2.2
  clear hHeld
  go_wp2_with fail
  refine wp_region_held_drew (S := (fun w' => w'.cell? ⟨w.heap.size, 0, none⟩ = some (.int .i64 a.1) ∧ w'.cell? ⟨w.heap.size, 1, none⟩ = some (.int .i64 a.2) ∧ w'.cell? ⟨w.heap.size + 1, 0, none⟩ = some (.int .i64 b.1) ∧ w'.cell? ⟨w.heap.size + 1, 1, none⟩ = some (.int .i64 b.2) ∧ w'.cell? ⟨gc, 0, none⟩ = some (.int .i64 q.1) ∧ w'.cell? ⟨gc, 1, none⟩ = some (.int .i64 q.2) ∧ Held3 w w' (w.heap.size) (w.heap.size + 1) (gc) 23 (.int .i64 a.1) (.int .i64 a.2) (.int .i64 b.1) (.int .i64 b.2) (.int .i64 q.1) (.int .i64 q.2))) (by kernel_rfl) ((by first | exact (Held3.drew h0).conds | exact (Held3.drew h1).conds)) (fun hHeld => ?_)
  refine wpAnyH_take (i := 0) (oi := ⟨some 32, Op.load 23 (Operand.tmp 7), 23, _, #[], none⟩) (v := ?_) rfl (by kernel_rfl) (by kernel_rfl) (by kernel_rfl) (fun _ _ _ h => h) (Or.inl ⟨by rfl, ?_⟩) hHeld ?_
  rotate_left
  · (intro w1 hSw; (try dsimp only at hSw); go_simp; try (with_reducible rfl))
  try simp only [Act.put, List.setIfInBounds_toArray, List.set_cons_zero, List.set_cons_succ]
  refine wpAnyH_take (i := 1) (oi := ⟨some 33, Op.load 23 (Operand.tmp 3), 23, _, #[], none⟩) (v := ?_) rfl (by kernel_rfl) (by kernel_rfl) (by kernel_rfl) (fun _ _ _ h => h) (Or.inl ⟨by rfl, ?_⟩) hHeld ?_
  rotate_left
  · (intro w1 hSw; (try dsimp only at hSw); go_simp; try (with_reducible rfl))
  try simp only [Act.put, List.setIfInBounds_toArray, List.set_cons_zero, List.set_cons_succ]
  refine wpAnyH_ready (rs := [2]) (by kernel_rfl) (by simp) ?_
  refine AllReadyH.cons (o := ⟨some 34, Op.call { callee := Callee.value (Operand.func 22), args := #[Operand.tmp 32, Operand.tmp 33], argTypes := #[23, 23] }, 4, _, #[{ on := 0, ground := Ground.data }, { on := 1, ground := Ground.data }], none⟩) rfl (fun K hK => ?_) AllReadyH.nil
  go_simp
  refine (within_r q a _).mono ?_
  rintro e w1 ⟨rfl, hb1⟩
  refine hK.out _ _ (Held3.next hHeld hb1) (fun hH => ?_)
  clear hHeld hK K hb1
  have hHeld := hH
  clear hH
  try simp only [Act.put, List.setIfInBounds_toArray, List.set_cons_zero, List.set_cons_succ]
  refine wpAnyH_take (i := 3) (oi := ⟨some 35, Op.move (Operand.tmp 34), 4, _, #[{ on := 2, ground := Ground.data }, { on := 2, ground := Ground.chain }], none⟩) (v := ?_) rfl (by kernel_rfl) (by kernel_rfl) (by kernel_rfl) (fun _ _ _ h => h) (Or.inl ⟨by rfl, ?_⟩) hHeld ?_
  rotate_left
  · (intro w1 hSw; (try dsimp only at hSw); go_simp; try (with_reducible rfl))
  try simp only [Act.put, List.setIfInBounds_toArray, List.set_cons_zero, List.set_cons_succ]
  refine wpAnyH_take (i := 4) (oi := ⟨some 36, Op.load 23 (Operand.tmp 7), 23, _, #[{ on := 3, ground := Ground.guard }], some (3, true)⟩) (v := ?_) rfl (by kernel_rfl) (by kernel_rfl) (by kernel_rfl) (fun _ _ _ h => h) (Or.inl ⟨by rfl, ?_⟩) hHeld ?_
  rotate_left
  · (intro w1 hSw; (try dsimp only at hSw); go_simp; try (with_reducible rfl))
  try simp only [Act.put, List.setIfInBounds_toArray, List.set_cons_zero, List.set_cons_succ]
  refine wpAnyH_take (i := 5) (oi := ⟨some 37, Op.load 23 (Operand.tmp 4), 23, _, #[{ on := 3, ground := Ground.guard }], some (3, true)⟩) (v := ?_) rfl (by kernel_rfl) (by kernel_rfl) (by kernel_rfl) (fun _ _ _ h => h) (Or.inl ⟨by rfl, ?_⟩) hHeld ?_
  rotate_left
  · (intro w1 hSw; (try dsimp only at hSw); go_simp; try (with_reducible rfl))
  try simp only [Act.put, List.setIfInBounds_toArray, List.set_cons_zero, List.set_cons_succ]
  refine wpAnyH_ready (rs := [6]) (by kernel_rfl) (by simp) ?_
  refine AllReadyH.cons (o := ⟨some 38, Op.call { callee := Callee.value (Operand.func 22), args := #[Operand.tmp 36, Operand.tmp 37], argTypes := #[23, 23] }, 4, _, #[{ on := 4, ground := Ground.data }, { on := 5, ground := Ground.data }, { on := 3, ground := Ground.chain }, { on := 3, ground := Ground.guard }], some (3, true)⟩) rfl (fun K hK => ?_) AllReadyH.nil
  go_simp
  refine (within_r q b _).mono ?_
  rintro e w1 ⟨rfl, hb1⟩
  refine hK.out _ _ (Held3.next hHeld hb1) (fun hH => ?_)
  clear hHeld hK K hb1
  have hHeld := hH
  clear hH
  try simp only [Act.put, List.setIfInBounds_toArray, List.set_cons_zero, List.set_cons_succ]
  refine wpAnyH_take (i := 7) (oi := ⟨some 39, Op.pick (Operand.tmp 35) (Operand.tmp 38) (Operand.const (Value.bool false)), 4, _, #[{ on := 3, ground := Ground.data }, { on := 6, ground := Ground.data }], none⟩) (v := ?_) rfl (by kernel_rfl) (by kernel_rfl) (by kernel_rfl) (fun _ _ _ h => h) (Or.inl ⟨by rfl, ?_⟩) hHeld ?_
  rotate_left
  · (intro w1 hSw; (try dsimp only at hSw); go_simp; try (with_reducible rfl))
  try simp only [Act.put, List.setIfInBounds_toArray, List.set_cons_zero, List.set_cons_succ]
  refine wpAnyH_take (i := 8) (oi := ⟨some 40, Op.move (Operand.tmp 39), 4, _, #[{ on := 7, ground := Ground.data }, { on := 6, ground := Ground.chain }], none⟩) (v := ?_) rfl (by kernel_rfl) (by kernel_rfl) (by kernel_rfl) (fun _ _ _ h => h) (Or.inl ⟨by rfl, ?_⟩) hHeld ?_
  rotate_left
  · (intro w1 hSw; (try dsimp only at hSw); go_simp; try (with_reducible rfl))
  try simp only [Act.put, List.setIfInBounds_toArray, List.set_cons_zero, List.set_cons_succ]
  refine wpAnyH_take (i := 9) (oi := ⟨some 41, Op.load 23 (Operand.tmp 7), 23, _, #[{ on := 8, ground := Ground.guard }], some (8, true)⟩) (v := ?_) rfl (by kernel_rfl) (by kernel_rfl) (by kernel_rfl) (fun _ _ _ h => h) (Or.inl ⟨by rfl, ?_⟩) hHeld ?_
  rotate_left
  · (intro w1 hSw; (try dsimp only at hSw); go_simp; try (with_reducible rfl))
  try simp only [Act.put, List.setIfInBounds_toArray, List.set_cons_zero, List.set_cons_succ]
  refine wpAnyH_take (i := 11) (oi := ⟨some 43, Op.load 23 (Operand.tmp 3), 23, _, #[{ on := 8, ground := Ground.guard }], some (8, true)⟩) (v := ?_) rfl (by kernel_rfl) (by kernel_rfl) (by kernel_rfl) (fun _ _ _ h => h) (Or.inl ⟨by rfl, ?_⟩) hHeld ?_
  rotate_left
  · (intro w1 hSw; (try dsimp only at hSw); go_simp; try (with_reducible rfl))
  try simp only [Act.put, List.setIfInBounds_toArray, List.set_cons_zero, List.set_cons_succ]
  refine wpAnyH_ready (rs := [10]) (by kernel_rfl) (by simp) ?_
  refine AllReadyH.cons (o := ⟨some 42, Op.call { callee := Callee.value (Operand.func 11), args := #[Operand.tmp 41], argTypes := #[23] }, 3, _, #[{ on := 9, ground := Ground.data }, { on := 8, ground := Ground.chain }, { on := 8, ground := Ground.guard }], some (8, true)⟩) rfl (fun K hK => ?_) AllReadyH.nil
  go_simp
  refine (size_r q Hq64.out _).mono ?_
  rintro e w1 ⟨rfl, hb1⟩
  refine hK.out _ _ (Held3.next hHeld hb1) (fun hH => ?_)
  clear hHeld hK K hb1
  have hHeld := hH
  clear hH
  try simp only [Act.put, List.setIfInBounds_toArray, List.set_cons_zero, List.set_cons_succ]
  refine wpAnyH_ready (rs := [12]) (by kernel_rfl) (by simp) ?_
  refine AllReadyH.cons (o := ⟨some 44, Op.call { callee := Callee.value (Operand.func 11), args := #[Operand.tmp 43], argTypes := #[23] }, 3, _, #[{ on := 11, ground := Ground.data }, { on := 10, ground := Ground.chain }, { on := 8, ground := Ground.guard }], some (8, true)⟩) rfl (fun K hK => ?_) AllReadyH.nil
  go_simp
  refine (size_r a Ha.out _).mono ?_
  rintro e w1 ⟨rfl, hb1⟩
  refine hK.out _ _ (Held3.next hHeld hb1) (fun hH => ?_)
  clear hHeld hK K hb1
  have hHeld := hH
  clear hH
  try simp only [Act.put, List.setIfInBounds_toArray, List.set_cons_zero, List.set_cons_succ]
  refine wpAnyH_take (i := 13) (oi := ⟨some 45, Op.binOp BinOp.leq 3 (Operand.tmp 42) (Operand.tmp 44) 3, 4, _, #[{ on := 10, ground := Ground.data }, { on := 12, ground := Ground.data }, { on := 8, ground := Ground.guard }], some (8, true)⟩) (v := ?_) rfl (by kernel_rfl) (by kernel_rfl) (by kernel_rfl) (fun _ _ _ h => h) (Or.inl ⟨by rfl, ?_⟩) hHeld ?_
  rotate_left
  · (intro w1 hSw; (try dsimp only at hSw); go_simp; try (with_reducible rfl))
  try simp only [Act.put, List.setIfInBounds_toArray, List.set_cons_zero, List.set_cons_succ]
  refine wpAnyH_take (i := 14) (oi := ⟨some 46, Op.pick (Operand.tmp 40) (Operand.tmp 45) (Operand.const (Value.bool false)), 4, _, #[{ on := 8, ground := Ground.data }, { on := 13, ground := Ground.data }], none⟩) (v := ?_) rfl (by kernel_rfl) (by kernel_rfl) (by kernel_rfl) (fun _ _ _ h => h) (Or.inl ⟨by rfl, ?_⟩) hHeld ?_
  rotate_left
  · (intro w1 hSw; (try dsimp only at hSw); go_simp; try (with_reducible rfl))
  try simp only [Act.put, List.setIfInBounds_toArray, List.set_cons_zero, List.set_cons_succ]
  refine wpAnyH_take (i := 15) (oi := ⟨some 47, Op.move (Operand.tmp 46), 4, _, #[{ on := 14, ground := Ground.data }, { on := 12, ground := Ground.chain }], none⟩) (v := ?_) rfl (by kernel_rfl) (by kernel_rfl) (by kernel_rfl) (fun _ _ _ h => h) (Or.inl ⟨by rfl, ?_⟩) hHeld ?_
  rotate_left
  · (intro w1 hSw; (try dsimp only at hSw); go_simp; try (with_reducible rfl))
  try simp only [Act.put, List.setIfInBounds_toArray, List.set_cons_zero, List.set_cons_succ]
  refine wpAnyH_take (i := 16) (oi := ⟨some 48, Op.load 23 (Operand.tmp 4), 23, _, #[{ on := 15, ground := Ground.guard }], some (15, true)⟩) (v := ?_) rfl (by kernel_rfl) (by kernel_rfl) (by kernel_rfl) (fun _ _ _ h => h) (Or.inl ⟨by rfl, ?_⟩) hHeld ?_
  rotate_left
  · (intro w1 hSw; (try dsimp only at hSw); go_simp; try (with_reducible rfl))
  try simp only [Act.put, List.setIfInBounds_toArray, List.set_cons_zero, List.set_cons_succ]
  refine wpAnyH_take (i := 17) (oi := ⟨some 49, Op.load 23 (Operand.tmp 3), 23, _, #[{ on := 15, ground := Ground.guard }], some (15, true)⟩) (v := ?_) rfl (by kernel_rfl) (by kernel_rfl) (by kernel_rfl) (fun _ _ _ h => h) (Or.inl ⟨by rfl, ?_⟩) hHeld ?_
  rotate_left
  · (intro w1 hSw; (try dsimp only at hSw); go_simp; try (with_reducible rfl))
  try simp only [Act.put, List.setIfInBounds_toArray, List.set_cons_zero, List.set_cons_succ]
  refine wpAnyH_take (i := 20) (oi := ⟨some 52, Op.load 23 (Operand.tmp 7), 23, _, #[{ on := 15, ground := Ground.guard }], some (15, true)⟩) (v := ?_) rfl (by kernel_rfl) (by kernel_rfl) (by kernel_rfl) (fun _ _ _ h => h) (Or.inl ⟨by rfl, ?_⟩) hHeld ?_
  rotate_left
  · (intro w1 hSw; (try dsimp only at hSw); go_simp; try (with_reducible rfl))
  try simp only [Act.put, List.setIfInBounds_toArray, List.set_cons_zero, List.set_cons_succ]
  refine wpAnyH_ready (rs := [18]) (by kernel_rfl) (by simp) ?_
  refine AllReadyH.cons (o := ⟨some 50, Op.buildSlice 29 2 #[(0, Operand.tmp 48), (1, Operand.tmp 49)], 29, _, #[{ on := 16, ground := Ground.data }, { on := 17, ground := Ground.data }, { on := 15, ground := Ground.guard }], some (15, true)⟩) rfl (fun K hK => ?_) AllReadyH.nil
  go_simp
  refine hK.out _ _ (Held3.grow hHeld) (fun hH => ?_)
  clear hHeld hK K
  have hHeld := hH
  clear hH
  try simp only [Act.put, List.setIfInBounds_toArray, List.set_cons_zero, List.set_cons_succ]
  refine wpAnyH_ready (rs := [19]) (by kernel_rfl) (by simp) ?_
  refine AllReadyH.cons (o := ⟨some 51, Op.call { callee := Callee.value (Operand.func 16), args := #[Operand.tmp 50], argTypes := #[29] }, 23, _, #[{ on := 18, ground := Ground.data }, { on := 15, ground := Ground.chain }, { on := 15, ground := Ground.guard }], some (15, true)⟩) rfl (fun K hK => ?_) AllReadyH.nil
  go_simp
  refine (both_any _ _ _ [b, a] _ rfl (Nat.le_refl 2) (by decide) (reads_two _ _ rfl _ b a)).mono ?_
  rw [Hs.out]
  rintro e w1 ⟨rfl, hb1⟩
  refine hK.out _ _ (Held3.next hHeld hb1) (fun hH => ?_)
  clear hHeld hK K hb1
  have hHeld := hH
  clear hH
  try simp only [Act.put, List.setIfInBounds_toArray, List.set_cons_zero, List.set_cons_succ]
  refine wpAnyH_take (i := 21) (oi := ⟨some 53, Op.binOp BinOp.eql 23 (Operand.tmp 51) (Operand.tmp 52) 23, 4, _, #[{ on := 19, ground := Ground.data }, { on := 20, ground := Ground.data }, { on := 15, ground := Ground.guard }], some (15, true)⟩) (v := ?_) rfl (by kernel_rfl) (by kernel_rfl) (by kernel_rfl) (fun _ _ _ h => h) (Or.inl ⟨by rfl, ?_⟩) hHeld ?_
  rotate_left
  · (intro w1 hSw; (try dsimp only at hSw); go_simp; try (with_reducible rfl))
  try simp only [Act.put, List.setIfInBounds_toArray, List.set_cons_zero, List.set_cons_succ]
  refine wpAnyH_take (i := 22) (oi := ⟨some 54, Op.pick (Operand.tmp 47) (Operand.tmp 53) (Operand.const (Value.bool false)), 4, _, #[{ on := 15, ground := Ground.data }, { on := 21, ground := Ground.data }], none⟩) (v := ?_) rfl (by kernel_rfl) (by kernel_rfl) (by kernel_rfl) (fun _ _ _ h => h) (Or.inl ⟨by rfl, ?_⟩) hHeld ?_
  rotate_left
  · (intro w1 hSw; (try dsimp only at hSw); go_simp; try (with_reducible rfl))
  try simp only [Act.put, List.setIfInBounds_toArray, List.set_cons_zero, List.set_cons_succ]
  refine wpAnyH_take (i := 23) (oi := ⟨some 55, Op.move (Operand.tmp 54), 4, _, #[{ on := 22, ground := Ground.data }, { on := 19, ground := Ground.chain }], none⟩) (v := ?_) rfl (by kernel_rfl) (by kernel_rfl) (by kernel_rfl) (fun _ _ _ h => h) (Or.inl ⟨by rfl, ?_⟩) hHeld ?_
  rotate_left
  · (intro w1 hSw; (try dsimp only at hSw); go_simp; try (with_reducible rfl))
  try simp only [Act.put, List.setIfInBounds_toArray, List.set_cons_zero, List.set_cons_succ]
  refine wpAnyH_ready (rs := [24]) (by kernel_rfl) (by simp) ?_
  refine AllReadyH.cons (o := ⟨some 56, Op.call { callee := Callee.value (Operand.func 15), args := #[], argTypes := #[] }, 4, _, #[{ on := 23, ground := Ground.chain }, { on := 23, ground := Ground.guard }], some (23, true)⟩) rfl (fun K hK => ?_) AllReadyH.nil
  go_simp
  refine (awake_any _).mono ?_
  rintro e w1 ⟨rfl, hb1⟩
  refine hK.out _ _ (Held3.next hHeld hb1) (fun hH => ?_)
  clear hHeld hK K hb1
  have hHeld := hH
  clear hH
  try simp only [Act.put, List.setIfInBounds_toArray, List.set_cons_zero, List.set_cons_succ]
  refine wpAnyH_take (i := 25) (oi := ⟨some 57, Op.pick (Operand.tmp 55) (Operand.tmp 56) (Operand.const (Value.bool false)), 4, _, #[{ on := 23, ground := Ground.data }, { on := 24, ground := Ground.data }], none⟩) (v := ?_) rfl (by kernel_rfl) (by kernel_rfl) (by kernel_rfl) (fun _ _ _ h => h) (Or.inl ⟨by rfl, ?_⟩) hHeld ?_
  rotate_left
  · (intro w1 hSw; (try dsimp only at hSw); go_simp; try (with_reducible rfl))
  try simp only [Act.put, List.setIfInBounds_toArray, List.set_cons_zero, List.set_cons_succ]
  refine wpAnyH_take (i := 26) (oi := ⟨some 6, Op.assign (Operand.tmp 57), 4, _, #[{ on := 25, ground := Ground.data }, { on := 24, ground := Ground.chain }, { on := 0, ground := Ground.phase }, { on := 1, ground := Ground.phase }, { on := 2, ground := Ground.phase }, { on := 3, ground := Ground.phase }, { on := 4, ground := Ground.phase }, { on := 5, ground := Ground.phase }, { on := 6, ground := Ground.phase }, { on := 7, ground := Ground.phase }, { on := 8, ground := Ground.phase }, { on := 9, ground := Ground.phase }, { on := 10, ground := Ground.phase }, { on := 11, ground := Ground.phase }, { on := 12, ground := Ground.phase }, { on := 13, ground := Ground.phase }, { on := 14, ground := Ground.phase }, { on := 15, ground := Ground.phase }, { on := 16, ground := Ground.phase }, { on := 17, ground := Ground.phase }, { on := 18, ground := Ground.phase }, { on := 19, ground := Ground.phase }, { on := 20, ground := Ground.phase }, { on := 21, ground := Ground.phase }, { on := 22, ground := Ground.phase }, { on := 23, ground := Ground.phase }, { on := 24, ground := Ground.phase }, { on := 25, ground := Ground.phase }], none⟩) (v := ?_) rfl (by kernel_rfl) (by kernel_rfl) (by kernel_rfl) (fun _ _ _ h => h) (Or.inl ⟨by rfl, ?_⟩) hHeld ?_
  rotate_left
  · (intro w1 hSw; (try dsimp only at hSw); go_simp; try (with_reducible rfl))
  try simp only [Act.put, List.setIfInBounds_toArray, List.set_cons_zero, List.set_cons_succ]
  refine wpAnyH_done (by kernel_rfl) ?_ _
  go_wp2
  go_ret
  exact ⟨rfl, Held3.last hHeld⟩

set_option maxHeartbeats 4000000 in
theorem both_walk_ff_false (a b q : Int × Int) (n : Int) (w : World) (ha : In64 a) (hq64 : In64 q) (hq : bothF [a, b] = q) (hs : bothF [b, a] = q) (hwl : withinF q a = true) (hwr : withinF q b = true) (hsz : sizeF q ≤ sizeF a) (hA : hasF a n = false) (hC : hasF q n = false) (hE : emptyF q = false) :
    Calls Try.prog 5 #[.agg #[.int .i64 a.1, .int .i64 a.2], .agg #[.int .i64 b.1, .int .i64 b.2], .int .i64 n] w fun e w' => e = .returned (.bool true) ∧ Below w.heap.size w w' := by
  have Hq := Lib.hid hq
  have Hs := Lib.hid hs
  have Ha := Lib.hid ha
  have Hq64 := Lib.hid hq64
  clear hq hs ha hq64
  go_enter Try.func5, Try.ntmps5
  go_wp2_with fail
  refine (both_any _ _ _ [a, b] _ rfl ?_ ?_ (reads_two _ _ ?_ _ a b)).mono ?_
  · exact Nat.le_refl 2
  · decide
  · simp
  rw [Hq.out]
  rintro e w1 ⟨rfl, hb⟩
  have h1 : Held w w1 w.heap.size (w.heap.size + 1) 23 (.int .i64 a.1) (.int .i64 a.2) (.int .i64 b.1) (.int .i64 b.2) :=
    Held.step_alloc (wi := (w.alloc (.cells #[.int .i64 a.1, .int .i64 a.2] 23)).alloc (.cells #[.int .i64 b.1, .int .i64 b.2] 23))
      ⟨by omega, by omega, by go_grown, (Blk.new _ _ _).alloc _, by simpa using Blk.new (w.alloc _) _ _⟩ hb
  clear hb
  have h0 : Held3 w (w1.alloc (.cells #[.int .i64 q.1, .int .i64 q.2] 23)) w.heap.size (w.heap.size + 1) w1.heap.size 23 (.int .i64 a.1) (.int .i64 a.2) (.int .i64 b.1) (.int .i64 b.2) (.int .i64 q.1) (.int .i64 q.2) :=
    ⟨h1.alloc _, h1.2.2.1.size, Blk.new _ _ _⟩
  generalize hgc : w1.heap.size = gc at h0
  go_wp2_with fail
  clear hgc h1
  refine wp_region_held_drew (S := (fun w' => w'.cell? ⟨w.heap.size, 0, none⟩ = some (.int .i64 a.1) ∧ w'.cell? ⟨w.heap.size, 1, none⟩ = some (.int .i64 a.2) ∧ w'.cell? ⟨w.heap.size + 1, 0, none⟩ = some (.int .i64 b.1) ∧ w'.cell? ⟨w.heap.size + 1, 1, none⟩ = some (.int .i64 b.2) ∧ w'.cell? ⟨gc, 0, none⟩ = some (.int .i64 q.1) ∧ w'.cell? ⟨gc, 1, none⟩ = some (.int .i64 q.2) ∧ Held3 w w' (w.heap.size) (w.heap.size + 1) (gc) 23 (.int .i64 a.1) (.int .i64 a.2) (.int .i64 b.1) (.int .i64 b.2) (.int .i64 q.1) (.int .i64 q.2))) (by kernel_rfl) ((by first | exact (Held3.drew h0).conds | exact (Held3.drew h1).conds)) (fun hHeld => ?_)
  refine wpAnyH_take (i := 0) (oi := ⟨some 12, Op.load 23 (Operand.tmp 7), 23, _, #[], none⟩) (v := ?_) rfl (by kernel_rfl) (by kernel_rfl) (by kernel_rfl) (fun _ _ _ h => h) (Or.inl ⟨by rfl, ?_⟩) hHeld ?_
  rotate_left
  · (intro w1 hSw; (try dsimp only at hSw); go_simp; try (with_reducible rfl))
  try simp only [Act.put, List.setIfInBounds_toArray, List.set_cons_zero, List.set_cons_succ]
  refine wpAnyH_take (i := 1) (oi := ⟨some 13, Op.move (Operand.tmp 2), 3, _, #[], none⟩) (v := ?_) rfl (by kernel_rfl) (by kernel_rfl) (by kernel_rfl) (fun _ _ _ h => h) (Or.inl ⟨by rfl, ?_⟩) hHeld ?_
  rotate_left
  · (intro w1 hSw; (try dsimp only at hSw); go_simp; try (with_reducible rfl))
  try simp only [Act.put, List.setIfInBounds_toArray, List.set_cons_zero, List.set_cons_succ]
  refine wpAnyH_take (i := 3) (oi := ⟨some 15, Op.load 23 (Operand.tmp 3), 23, _, #[], none⟩) (v := ?_) rfl (by kernel_rfl) (by kernel_rfl) (by kernel_rfl) (fun _ _ _ h => h) (Or.inl ⟨by rfl, ?_⟩) hHeld ?_
  rotate_left
  · (intro w1 hSw; (try dsimp only at hSw); go_simp; try (with_reducible rfl))
  try simp only [Act.put, List.setIfInBounds_toArray, List.set_cons_zero, List.set_cons_succ]
  refine wpAnyH_take (i := 4) (oi := ⟨some 16, Op.move (Operand.tmp 2), 3, _, #[], none⟩) (v := ?_) rfl (by kernel_rfl) (by kernel_rfl) (by kernel_rfl) (fun _ _ _ h => h) (Or.inl ⟨by rfl, ?_⟩) hHeld ?_
  rotate_left
  · (intro w1 hSw; (try dsimp only at hSw); go_simp; try (with_reducible rfl))
  try simp only [Act.put, List.setIfInBounds_toArray, List.set_cons_zero, List.set_cons_succ]
  refine wpAnyH_ready (rs := [2]) (by kernel_rfl) (by simp) ?_
  refine AllReadyH.cons (o := ⟨some 14, Op.call { callee := Callee.value (Operand.func 7), args := #[Operand.tmp 12, Operand.tmp 13], argTypes := #[23, 3] }, 4, _, #[{ on := 0, ground := Ground.data }, { on := 1, ground := Ground.data }], none⟩) rfl (fun K hK => ?_) AllReadyH.nil
  go_simp
  refine (has_r q n _).mono ?_
  rintro e w1 ⟨rfl, hb1⟩
  refine hK.out _ _ (Held3.next hHeld hb1) (fun hH => ?_)
  clear hHeld hK K hb1
  have hHeld := hH
  clear hH
  try simp only [Act.put, List.setIfInBounds_toArray, List.set_cons_zero, List.set_cons_succ]
  refine wpAnyH_ready (rs := [5]) (by kernel_rfl) (by simp) ?_
  refine AllReadyH.cons (o := ⟨some 17, Op.call { callee := Callee.value (Operand.func 7), args := #[Operand.tmp 15, Operand.tmp 16], argTypes := #[23, 3] }, 4, _, #[{ on := 3, ground := Ground.data }, { on := 4, ground := Ground.data }, { on := 2, ground := Ground.chain }], none⟩) rfl (fun K hK => ?_) AllReadyH.nil
  go_simp
  refine (has_r a n _).mono ?_
  rintro e w1 ⟨rfl, hb1⟩
  refine hK.out _ _ (Held3.next hHeld hb1) (fun hH => ?_)
  clear hHeld hK K hb1
  have hHeld := hH
  clear hH
  try simp only [Act.put, List.setIfInBounds_toArray, List.set_cons_zero, List.set_cons_succ]
  refine wpAnyH_take (i := 6) (oi := ⟨some 18, Op.move (Operand.tmp 17), 4, _, #[{ on := 5, ground := Ground.data }, { on := 5, ground := Ground.chain }], none⟩) (v := ?_) rfl (by kernel_rfl) (by kernel_rfl) (by kernel_rfl) (fun _ _ _ h => h) (Or.inl ⟨by rfl, ?_⟩) hHeld ?_
  rotate_left
  · (intro w1 hSw; (try dsimp only at hSw); go_simp; try (with_reducible rfl))
  try simp only [Act.put, List.setIfInBounds_toArray, List.set_cons_zero, List.set_cons_succ]
  refine wpAnyH_take (i := 7) (oi := ⟨some 19, Op.load 23 (Operand.tmp 4), 23, _, #[{ on := 6, ground := Ground.guard }], some (6, true)⟩) (v := undef) rfl (by kernel_rfl) (by kernel_rfl) (by kernel_rfl) (fun _ _ _ h => h) (Or.inr ⟨by rfl, rfl⟩) hHeld ?_
  try simp only [Act.put, List.setIfInBounds_toArray, List.set_cons_zero, List.set_cons_succ]
  refine wpAnyH_take (i := 8) (oi := ⟨some 20, Op.move (Operand.tmp 2), 3, _, #[{ on := 6, ground := Ground.guard }], some (6, true)⟩) (v := undef) rfl (by kernel_rfl) (by kernel_rfl) (by kernel_rfl) (fun _ _ _ h => h) (Or.inr ⟨by rfl, rfl⟩) hHeld ?_
  try simp only [Act.put, List.setIfInBounds_toArray, List.set_cons_zero, List.set_cons_succ]
  refine wpAnyH_ready (rs := [9]) (by kernel_rfl) (by simp) ?_
  refine AllReadyH.cons (o := ⟨some 21, Op.call { callee := Callee.value (Operand.func 7), args := #[Operand.tmp 19, Operand.tmp 20], argTypes := #[23, 3] }, 4, _, #[{ on := 7, ground := Ground.data }, { on := 8, ground := Ground.data }, { on := 6, ground := Ground.chain }, { on := 6, ground := Ground.guard }], some (6, true)⟩) rfl (fun K hK => ?_) AllReadyH.nil
  go_simp
  refine hK.out _ _ hHeld (fun _ => ?_)
  clear hK K
  try simp only [Act.put, List.setIfInBounds_toArray, List.set_cons_zero, List.set_cons_succ]
  refine wpAnyH_take (i := 10) (oi := ⟨some 22, Op.pick (Operand.tmp 18) (Operand.tmp 21) (Operand.const (Value.bool false)), 4, _, #[{ on := 6, ground := Ground.data }, { on := 9, ground := Ground.data }], none⟩) (v := ?_) rfl (by kernel_rfl) (by kernel_rfl) (by kernel_rfl) (fun _ _ _ h => h) (Or.inl ⟨by rfl, ?_⟩) hHeld ?_
  rotate_left
  · (intro w1 hSw; (try dsimp only at hSw); go_simp; try (with_reducible rfl))
  try simp only [Act.put, List.setIfInBounds_toArray, List.set_cons_zero, List.set_cons_succ]
  refine wpAnyH_take (i := 11) (oi := ⟨some 23, Op.binOp BinOp.neq 4 (Operand.tmp 14) (Operand.tmp 22) 4, 4, _, #[{ on := 2, ground := Ground.data }, { on := 10, ground := Ground.data }], none⟩) (v := ?_) rfl (by kernel_rfl) (by kernel_rfl) (by kernel_rfl) (fun _ _ _ h => h) (Or.inl ⟨by rfl, ?_⟩) hHeld ?_
  rotate_left
  · (intro w1 hSw; (try dsimp only at hSw); go_simp; try (with_reducible rfl))
  try simp only [Act.put, List.setIfInBounds_toArray, List.set_cons_zero, List.set_cons_succ]
  refine wpAnyH_take (i := 12) (oi := ⟨some 24, Op.move (Operand.tmp 23), 4, _, #[{ on := 11, ground := Ground.data }, { on := 9, ground := Ground.chain }], none⟩) (v := ?_) rfl (by kernel_rfl) (by kernel_rfl) (by kernel_rfl) (fun _ _ _ h => h) (Or.inl ⟨by rfl, ?_⟩) hHeld ?_
  rotate_left
  · (intro w1 hSw; (try dsimp only at hSw); go_simp; try (with_reducible rfl))
  try simp only [Act.put, List.setIfInBounds_toArray, List.set_cons_zero, List.set_cons_succ]
  refine wpAnyH_take (i := 13) (oi := ⟨some 25, Op.load 23 (Operand.tmp 7), 23, _, #[{ on := 12, ground := Ground.guard }], some (12, false)⟩) (v := ?_) rfl (by kernel_rfl) (by kernel_rfl) (by kernel_rfl) (fun _ _ _ h => h) (Or.inl ⟨by rfl, ?_⟩) hHeld ?_
  rotate_left
  · (intro w1 hSw; (try dsimp only at hSw); go_simp; try (with_reducible rfl))
  try simp only [Act.put, List.setIfInBounds_toArray, List.set_cons_zero, List.set_cons_succ]
  refine wpAnyH_take (i := 15) (oi := ⟨some 27, Op.load 23 (Operand.tmp 3), 23, _, #[{ on := 12, ground := Ground.guard }], some (12, false)⟩) (v := ?_) rfl (by kernel_rfl) (by kernel_rfl) (by kernel_rfl) (fun _ _ _ h => h) (Or.inl ⟨by rfl, ?_⟩) hHeld ?_
  rotate_left
  · (intro w1 hSw; (try dsimp only at hSw); go_simp; try (with_reducible rfl))
  try simp only [Act.put, List.setIfInBounds_toArray, List.set_cons_zero, List.set_cons_succ]
  refine wpAnyH_take (i := 16) (oi := ⟨some 28, Op.load 23 (Operand.tmp 4), 23, _, #[{ on := 12, ground := Ground.guard }], some (12, false)⟩) (v := ?_) rfl (by kernel_rfl) (by kernel_rfl) (by kernel_rfl) (fun _ _ _ h => h) (Or.inl ⟨by rfl, ?_⟩) hHeld ?_
  rotate_left
  · (intro w1 hSw; (try dsimp only at hSw); go_simp; try (with_reducible rfl))
  try simp only [Act.put, List.setIfInBounds_toArray, List.set_cons_zero, List.set_cons_succ]
  refine wpAnyH_ready (rs := [14]) (by kernel_rfl) (by simp) ?_
  refine AllReadyH.cons (o := ⟨some 26, Op.call { callee := Callee.value (Operand.func 9), args := #[Operand.tmp 25], argTypes := #[23] }, 4, _, #[{ on := 13, ground := Ground.data }, { on := 12, ground := Ground.chain }, { on := 12, ground := Ground.guard }], some (12, false)⟩) rfl (fun K hK => ?_) AllReadyH.nil
  go_simp
  refine (empty_r q _).mono ?_
  rintro e w1 ⟨rfl, hb1⟩
  refine hK.out _ _ (Held3.next hHeld hb1) (fun hH => ?_)
  clear hHeld hK K hb1
  have hHeld := hH
  clear hH
  try simp only [Act.put, List.setIfInBounds_toArray, List.set_cons_zero, List.set_cons_succ]
  refine wpAnyH_ready (rs := [17]) (by kernel_rfl) (by simp) ?_
  refine AllReadyH.cons (o := ⟨some 29, Op.call { callee := Callee.value (Operand.func 20), args := #[Operand.tmp 27, Operand.tmp 28], argTypes := #[23, 23] }, 4, _, #[{ on := 15, ground := Ground.data }, { on := 16, ground := Ground.data }, { on := 14, ground := Ground.chain }, { on := 12, ground := Ground.guard }], some (12, false)⟩) rfl (fun K hK => ?_) AllReadyH.nil
  go_simp
  refine (meets_any a b _).mono ?_
  rw [Hq.out]
  rintro e w1 ⟨rfl, hb1⟩
  refine hK.out _ _ (Held3.next hHeld hb1) (fun hH => ?_)
  clear hHeld hK K hb1
  have hHeld := hH
  clear hH
  try simp only [Act.put, List.setIfInBounds_toArray, List.set_cons_zero, List.set_cons_succ]
  refine wpAnyH_take (i := 18) (oi := ⟨some 30, Op.binOp BinOp.eql 4 (Operand.tmp 26) (Operand.tmp 29) 4, 4, _, #[{ on := 14, ground := Ground.data }, { on := 17, ground := Ground.data }, { on := 12, ground := Ground.guard }], some (12, false)⟩) (v := ?_) rfl (by kernel_rfl) (by kernel_rfl) (by kernel_rfl) (fun _ _ _ h => h) (Or.inl ⟨by rfl, ?_⟩) hHeld ?_
  rotate_left
  · (intro w1 hSw; (try dsimp only at hSw); go_simp; try (with_reducible rfl))
  try simp only [Act.put, List.setIfInBounds_toArray, List.set_cons_zero, List.set_cons_succ]
  refine wpAnyH_take (i := 19) (oi := ⟨some 31, Op.pick (Operand.tmp 24) (Operand.const (Value.bool true)) (Operand.tmp 30), 4, _, #[{ on := 12, ground := Ground.data }, { on := 18, ground := Ground.data }], none⟩) (v := ?_) rfl (by kernel_rfl) (by kernel_rfl) (by kernel_rfl) (fun _ _ _ h => h) (Or.inl ⟨by rfl, ?_⟩) hHeld ?_
  rotate_left
  · (intro w1 hSw; (try dsimp only at hSw); go_simp; try (with_reducible rfl))
  try simp only [Act.put, List.setIfInBounds_toArray, List.set_cons_zero, List.set_cons_succ]
  refine wpAnyH_done (by kernel_rfl) ?_ _
  have h1 := hHeld.2.2.2.2.2.2
  clear hHeld
  go_wp2_with fail
  refine wp_region_held_drew (S := (fun w' => w'.cell? ⟨w.heap.size, 0, none⟩ = some (.int .i64 a.1) ∧ w'.cell? ⟨w.heap.size, 1, none⟩ = some (.int .i64 a.2) ∧ w'.cell? ⟨w.heap.size + 1, 0, none⟩ = some (.int .i64 b.1) ∧ w'.cell? ⟨w.heap.size + 1, 1, none⟩ = some (.int .i64 b.2) ∧ w'.cell? ⟨gc, 0, none⟩ = some (.int .i64 q.1) ∧ w'.cell? ⟨gc, 1, none⟩ = some (.int .i64 q.2) ∧ Held3 w w' (w.heap.size) (w.heap.size + 1) (gc) 23 (.int .i64 a.1) (.int .i64 a.2) (.int .i64 b.1) (.int .i64 b.2) (.int .i64 q.1) (.int .i64 q.2))) (by kernel_rfl) ((by first | exact (Held3.drew h0).conds | exact (Held3.drew h1).conds)) (fun hHeld => ?_)
  refine wpAnyH_take (i := 0) (oi := ⟨some 32, Op.load 23 (Operand.tmp 7), 23, _, #[], none⟩) (v := ?_) rfl (by kernel_rfl) (by kernel_rfl) (by kernel_rfl) (fun _ _ _ h => h) (Or.inl ⟨by rfl, ?_⟩) hHeld ?_
  rotate_left
  · (intro w1 hSw; (try dsimp only at hSw); go_simp; try (with_reducible rfl))
  try simp only [Act.put, List.setIfInBounds_toArray, List.set_cons_zero, List.set_cons_succ]
  refine wpAnyH_take (i := 1) (oi := ⟨some 33, Op.load 23 (Operand.tmp 3), 23, _, #[], none⟩) (v := ?_) rfl (by kernel_rfl) (by kernel_rfl) (by kernel_rfl) (fun _ _ _ h => h) (Or.inl ⟨by rfl, ?_⟩) hHeld ?_
  rotate_left
  · (intro w1 hSw; (try dsimp only at hSw); go_simp; try (with_reducible rfl))
  try simp only [Act.put, List.setIfInBounds_toArray, List.set_cons_zero, List.set_cons_succ]
  refine wpAnyH_ready (rs := [2]) (by kernel_rfl) (by simp) ?_
  refine AllReadyH.cons (o := ⟨some 34, Op.call { callee := Callee.value (Operand.func 22), args := #[Operand.tmp 32, Operand.tmp 33], argTypes := #[23, 23] }, 4, _, #[{ on := 0, ground := Ground.data }, { on := 1, ground := Ground.data }], none⟩) rfl (fun K hK => ?_) AllReadyH.nil
  go_simp
  refine (within_r q a _).mono ?_
  rintro e w1 ⟨rfl, hb1⟩
  refine hK.out _ _ (Held3.next hHeld hb1) (fun hH => ?_)
  clear hHeld hK K hb1
  have hHeld := hH
  clear hH
  try simp only [Act.put, List.setIfInBounds_toArray, List.set_cons_zero, List.set_cons_succ]
  refine wpAnyH_take (i := 3) (oi := ⟨some 35, Op.move (Operand.tmp 34), 4, _, #[{ on := 2, ground := Ground.data }, { on := 2, ground := Ground.chain }], none⟩) (v := ?_) rfl (by kernel_rfl) (by kernel_rfl) (by kernel_rfl) (fun _ _ _ h => h) (Or.inl ⟨by rfl, ?_⟩) hHeld ?_
  rotate_left
  · (intro w1 hSw; (try dsimp only at hSw); go_simp; try (with_reducible rfl))
  try simp only [Act.put, List.setIfInBounds_toArray, List.set_cons_zero, List.set_cons_succ]
  refine wpAnyH_take (i := 4) (oi := ⟨some 36, Op.load 23 (Operand.tmp 7), 23, _, #[{ on := 3, ground := Ground.guard }], some (3, true)⟩) (v := ?_) rfl (by kernel_rfl) (by kernel_rfl) (by kernel_rfl) (fun _ _ _ h => h) (Or.inl ⟨by rfl, ?_⟩) hHeld ?_
  rotate_left
  · (intro w1 hSw; (try dsimp only at hSw); go_simp; try (with_reducible rfl))
  try simp only [Act.put, List.setIfInBounds_toArray, List.set_cons_zero, List.set_cons_succ]
  refine wpAnyH_take (i := 5) (oi := ⟨some 37, Op.load 23 (Operand.tmp 4), 23, _, #[{ on := 3, ground := Ground.guard }], some (3, true)⟩) (v := ?_) rfl (by kernel_rfl) (by kernel_rfl) (by kernel_rfl) (fun _ _ _ h => h) (Or.inl ⟨by rfl, ?_⟩) hHeld ?_
  rotate_left
  · (intro w1 hSw; (try dsimp only at hSw); go_simp; try (with_reducible rfl))
  try simp only [Act.put, List.setIfInBounds_toArray, List.set_cons_zero, List.set_cons_succ]
  refine wpAnyH_ready (rs := [6]) (by kernel_rfl) (by simp) ?_
  refine AllReadyH.cons (o := ⟨some 38, Op.call { callee := Callee.value (Operand.func 22), args := #[Operand.tmp 36, Operand.tmp 37], argTypes := #[23, 23] }, 4, _, #[{ on := 4, ground := Ground.data }, { on := 5, ground := Ground.data }, { on := 3, ground := Ground.chain }, { on := 3, ground := Ground.guard }], some (3, true)⟩) rfl (fun K hK => ?_) AllReadyH.nil
  go_simp
  refine (within_r q b _).mono ?_
  rintro e w1 ⟨rfl, hb1⟩
  refine hK.out _ _ (Held3.next hHeld hb1) (fun hH => ?_)
  clear hHeld hK K hb1
  have hHeld := hH
  clear hH
  try simp only [Act.put, List.setIfInBounds_toArray, List.set_cons_zero, List.set_cons_succ]
  refine wpAnyH_take (i := 7) (oi := ⟨some 39, Op.pick (Operand.tmp 35) (Operand.tmp 38) (Operand.const (Value.bool false)), 4, _, #[{ on := 3, ground := Ground.data }, { on := 6, ground := Ground.data }], none⟩) (v := ?_) rfl (by kernel_rfl) (by kernel_rfl) (by kernel_rfl) (fun _ _ _ h => h) (Or.inl ⟨by rfl, ?_⟩) hHeld ?_
  rotate_left
  · (intro w1 hSw; (try dsimp only at hSw); go_simp; try (with_reducible rfl))
  try simp only [Act.put, List.setIfInBounds_toArray, List.set_cons_zero, List.set_cons_succ]
  refine wpAnyH_take (i := 8) (oi := ⟨some 40, Op.move (Operand.tmp 39), 4, _, #[{ on := 7, ground := Ground.data }, { on := 6, ground := Ground.chain }], none⟩) (v := ?_) rfl (by kernel_rfl) (by kernel_rfl) (by kernel_rfl) (fun _ _ _ h => h) (Or.inl ⟨by rfl, ?_⟩) hHeld ?_
  rotate_left
  · (intro w1 hSw; (try dsimp only at hSw); go_simp; try (with_reducible rfl))
  try simp only [Act.put, List.setIfInBounds_toArray, List.set_cons_zero, List.set_cons_succ]
  refine wpAnyH_take (i := 9) (oi := ⟨some 41, Op.load 23 (Operand.tmp 7), 23, _, #[{ on := 8, ground := Ground.guard }], some (8, true)⟩) (v := ?_) rfl (by kernel_rfl) (by kernel_rfl) (by kernel_rfl) (fun _ _ _ h => h) (Or.inl ⟨by rfl, ?_⟩) hHeld ?_
  rotate_left
  · (intro w1 hSw; (try dsimp only at hSw); go_simp; try (with_reducible rfl))
  try simp only [Act.put, List.setIfInBounds_toArray, List.set_cons_zero, List.set_cons_succ]
  refine wpAnyH_take (i := 11) (oi := ⟨some 43, Op.load 23 (Operand.tmp 3), 23, _, #[{ on := 8, ground := Ground.guard }], some (8, true)⟩) (v := ?_) rfl (by kernel_rfl) (by kernel_rfl) (by kernel_rfl) (fun _ _ _ h => h) (Or.inl ⟨by rfl, ?_⟩) hHeld ?_
  rotate_left
  · (intro w1 hSw; (try dsimp only at hSw); go_simp; try (with_reducible rfl))
  try simp only [Act.put, List.setIfInBounds_toArray, List.set_cons_zero, List.set_cons_succ]
  refine wpAnyH_ready (rs := [10]) (by kernel_rfl) (by simp) ?_
  refine AllReadyH.cons (o := ⟨some 42, Op.call { callee := Callee.value (Operand.func 11), args := #[Operand.tmp 41], argTypes := #[23] }, 3, _, #[{ on := 9, ground := Ground.data }, { on := 8, ground := Ground.chain }, { on := 8, ground := Ground.guard }], some (8, true)⟩) rfl (fun K hK => ?_) AllReadyH.nil
  go_simp
  refine (size_r q Hq64.out _).mono ?_
  rintro e w1 ⟨rfl, hb1⟩
  refine hK.out _ _ (Held3.next hHeld hb1) (fun hH => ?_)
  clear hHeld hK K hb1
  have hHeld := hH
  clear hH
  try simp only [Act.put, List.setIfInBounds_toArray, List.set_cons_zero, List.set_cons_succ]
  refine wpAnyH_ready (rs := [12]) (by kernel_rfl) (by simp) ?_
  refine AllReadyH.cons (o := ⟨some 44, Op.call { callee := Callee.value (Operand.func 11), args := #[Operand.tmp 43], argTypes := #[23] }, 3, _, #[{ on := 11, ground := Ground.data }, { on := 10, ground := Ground.chain }, { on := 8, ground := Ground.guard }], some (8, true)⟩) rfl (fun K hK => ?_) AllReadyH.nil
  go_simp
  refine (size_r a Ha.out _).mono ?_
  rintro e w1 ⟨rfl, hb1⟩
  refine hK.out _ _ (Held3.next hHeld hb1) (fun hH => ?_)
  clear hHeld hK K hb1
  have hHeld := hH
  clear hH
  try simp only [Act.put, List.setIfInBounds_toArray, List.set_cons_zero, List.set_cons_succ]
  refine wpAnyH_take (i := 13) (oi := ⟨some 45, Op.binOp BinOp.leq 3 (Operand.tmp 42) (Operand.tmp 44) 3, 4, _, #[{ on := 10, ground := Ground.data }, { on := 12, ground := Ground.data }, { on := 8, ground := Ground.guard }], some (8, true)⟩) (v := ?_) rfl (by kernel_rfl) (by kernel_rfl) (by kernel_rfl) (fun _ _ _ h => h) (Or.inl ⟨by rfl, ?_⟩) hHeld ?_
  rotate_left
  · (intro w1 hSw; (try dsimp only at hSw); go_simp; try (with_reducible rfl))
  try simp only [Act.put, List.setIfInBounds_toArray, List.set_cons_zero, List.set_cons_succ]
  refine wpAnyH_take (i := 14) (oi := ⟨some 46, Op.pick (Operand.tmp 40) (Operand.tmp 45) (Operand.const (Value.bool false)), 4, _, #[{ on := 8, ground := Ground.data }, { on := 13, ground := Ground.data }], none⟩) (v := ?_) rfl (by kernel_rfl) (by kernel_rfl) (by kernel_rfl) (fun _ _ _ h => h) (Or.inl ⟨by rfl, ?_⟩) hHeld ?_
  rotate_left
  · (intro w1 hSw; (try dsimp only at hSw); go_simp; try (with_reducible rfl))
  try simp only [Act.put, List.setIfInBounds_toArray, List.set_cons_zero, List.set_cons_succ]
  refine wpAnyH_take (i := 15) (oi := ⟨some 47, Op.move (Operand.tmp 46), 4, _, #[{ on := 14, ground := Ground.data }, { on := 12, ground := Ground.chain }], none⟩) (v := ?_) rfl (by kernel_rfl) (by kernel_rfl) (by kernel_rfl) (fun _ _ _ h => h) (Or.inl ⟨by rfl, ?_⟩) hHeld ?_
  rotate_left
  · (intro w1 hSw; (try dsimp only at hSw); go_simp; try (with_reducible rfl))
  try simp only [Act.put, List.setIfInBounds_toArray, List.set_cons_zero, List.set_cons_succ]
  refine wpAnyH_take (i := 16) (oi := ⟨some 48, Op.load 23 (Operand.tmp 4), 23, _, #[{ on := 15, ground := Ground.guard }], some (15, true)⟩) (v := ?_) rfl (by kernel_rfl) (by kernel_rfl) (by kernel_rfl) (fun _ _ _ h => h) (Or.inl ⟨by rfl, ?_⟩) hHeld ?_
  rotate_left
  · (intro w1 hSw; (try dsimp only at hSw); go_simp; try (with_reducible rfl))
  try simp only [Act.put, List.setIfInBounds_toArray, List.set_cons_zero, List.set_cons_succ]
  refine wpAnyH_take (i := 17) (oi := ⟨some 49, Op.load 23 (Operand.tmp 3), 23, _, #[{ on := 15, ground := Ground.guard }], some (15, true)⟩) (v := ?_) rfl (by kernel_rfl) (by kernel_rfl) (by kernel_rfl) (fun _ _ _ h => h) (Or.inl ⟨by rfl, ?_⟩) hHeld ?_
  rotate_left
  · (intro w1 hSw; (try dsimp only at hSw); go_simp; try (with_reducible rfl))
  try simp only [Act.put, List.setIfInBounds_toArray, List.set_cons_zero, List.set_cons_succ]
  refine wpAnyH_take (i := 20) (oi := ⟨some 52, Op.load 23 (Operand.tmp 7), 23, _, #[{ on := 15, ground := Ground.guard }], some (15, true)⟩) (v := ?_) rfl (by kernel_rfl) (by kernel_rfl) (by kernel_rfl) (fun _ _ _ h => h) (Or.inl ⟨by rfl, ?_⟩) hHeld ?_
  rotate_left
  · (intro w1 hSw; (try dsimp only at hSw); go_simp; try (with_reducible rfl))
  try simp only [Act.put, List.setIfInBounds_toArray, List.set_cons_zero, List.set_cons_succ]
  refine wpAnyH_ready (rs := [18]) (by kernel_rfl) (by simp) ?_
  refine AllReadyH.cons (o := ⟨some 50, Op.buildSlice 29 2 #[(0, Operand.tmp 48), (1, Operand.tmp 49)], 29, _, #[{ on := 16, ground := Ground.data }, { on := 17, ground := Ground.data }, { on := 15, ground := Ground.guard }], some (15, true)⟩) rfl (fun K hK => ?_) AllReadyH.nil
  go_simp
  refine hK.out _ _ (Held3.grow hHeld) (fun hH => ?_)
  clear hHeld hK K
  have hHeld := hH
  clear hH
  try simp only [Act.put, List.setIfInBounds_toArray, List.set_cons_zero, List.set_cons_succ]
  refine wpAnyH_ready (rs := [19]) (by kernel_rfl) (by simp) ?_
  refine AllReadyH.cons (o := ⟨some 51, Op.call { callee := Callee.value (Operand.func 16), args := #[Operand.tmp 50], argTypes := #[29] }, 23, _, #[{ on := 18, ground := Ground.data }, { on := 15, ground := Ground.chain }, { on := 15, ground := Ground.guard }], some (15, true)⟩) rfl (fun K hK => ?_) AllReadyH.nil
  go_simp
  refine (both_any _ _ _ [b, a] _ rfl (Nat.le_refl 2) (by decide) (reads_two _ _ rfl _ b a)).mono ?_
  rw [Hs.out]
  rintro e w1 ⟨rfl, hb1⟩
  refine hK.out _ _ (Held3.next hHeld hb1) (fun hH => ?_)
  clear hHeld hK K hb1
  have hHeld := hH
  clear hH
  try simp only [Act.put, List.setIfInBounds_toArray, List.set_cons_zero, List.set_cons_succ]
  refine wpAnyH_take (i := 21) (oi := ⟨some 53, Op.binOp BinOp.eql 23 (Operand.tmp 51) (Operand.tmp 52) 23, 4, _, #[{ on := 19, ground := Ground.data }, { on := 20, ground := Ground.data }, { on := 15, ground := Ground.guard }], some (15, true)⟩) (v := ?_) rfl (by kernel_rfl) (by kernel_rfl) (by kernel_rfl) (fun _ _ _ h => h) (Or.inl ⟨by rfl, ?_⟩) hHeld ?_
  rotate_left
  · (intro w1 hSw; (try dsimp only at hSw); go_simp; try (with_reducible rfl))
  try simp only [Act.put, List.setIfInBounds_toArray, List.set_cons_zero, List.set_cons_succ]
  refine wpAnyH_take (i := 22) (oi := ⟨some 54, Op.pick (Operand.tmp 47) (Operand.tmp 53) (Operand.const (Value.bool false)), 4, _, #[{ on := 15, ground := Ground.data }, { on := 21, ground := Ground.data }], none⟩) (v := ?_) rfl (by kernel_rfl) (by kernel_rfl) (by kernel_rfl) (fun _ _ _ h => h) (Or.inl ⟨by rfl, ?_⟩) hHeld ?_
  rotate_left
  · (intro w1 hSw; (try dsimp only at hSw); go_simp; try (with_reducible rfl))
  try simp only [Act.put, List.setIfInBounds_toArray, List.set_cons_zero, List.set_cons_succ]
  refine wpAnyH_take (i := 23) (oi := ⟨some 55, Op.move (Operand.tmp 54), 4, _, #[{ on := 22, ground := Ground.data }, { on := 19, ground := Ground.chain }], none⟩) (v := ?_) rfl (by kernel_rfl) (by kernel_rfl) (by kernel_rfl) (fun _ _ _ h => h) (Or.inl ⟨by rfl, ?_⟩) hHeld ?_
  rotate_left
  · (intro w1 hSw; (try dsimp only at hSw); go_simp; try (with_reducible rfl))
  try simp only [Act.put, List.setIfInBounds_toArray, List.set_cons_zero, List.set_cons_succ]
  refine wpAnyH_ready (rs := [24]) (by kernel_rfl) (by simp) ?_
  refine AllReadyH.cons (o := ⟨some 56, Op.call { callee := Callee.value (Operand.func 15), args := #[], argTypes := #[] }, 4, _, #[{ on := 23, ground := Ground.chain }, { on := 23, ground := Ground.guard }], some (23, true)⟩) rfl (fun K hK => ?_) AllReadyH.nil
  go_simp
  refine (awake_any _).mono ?_
  rintro e w1 ⟨rfl, hb1⟩
  refine hK.out _ _ (Held3.next hHeld hb1) (fun hH => ?_)
  clear hHeld hK K hb1
  have hHeld := hH
  clear hH
  try simp only [Act.put, List.setIfInBounds_toArray, List.set_cons_zero, List.set_cons_succ]
  refine wpAnyH_take (i := 25) (oi := ⟨some 57, Op.pick (Operand.tmp 55) (Operand.tmp 56) (Operand.const (Value.bool false)), 4, _, #[{ on := 23, ground := Ground.data }, { on := 24, ground := Ground.data }], none⟩) (v := ?_) rfl (by kernel_rfl) (by kernel_rfl) (by kernel_rfl) (fun _ _ _ h => h) (Or.inl ⟨by rfl, ?_⟩) hHeld ?_
  rotate_left
  · (intro w1 hSw; (try dsimp only at hSw); go_simp; try (with_reducible rfl))
  try simp only [Act.put, List.setIfInBounds_toArray, List.set_cons_zero, List.set_cons_succ]
  refine wpAnyH_take (i := 26) (oi := ⟨some 6, Op.assign (Operand.tmp 57), 4, _, #[{ on := 25, ground := Ground.data }, { on := 24, ground := Ground.chain }, { on := 0, ground := Ground.phase }, { on := 1, ground := Ground.phase }, { on := 2, ground := Ground.phase }, { on := 3, ground := Ground.phase }, { on := 4, ground := Ground.phase }, { on := 5, ground := Ground.phase }, { on := 6, ground := Ground.phase }, { on := 7, ground := Ground.phase }, { on := 8, ground := Ground.phase }, { on := 9, ground := Ground.phase }, { on := 10, ground := Ground.phase }, { on := 11, ground := Ground.phase }, { on := 12, ground := Ground.phase }, { on := 13, ground := Ground.phase }, { on := 14, ground := Ground.phase }, { on := 15, ground := Ground.phase }, { on := 16, ground := Ground.phase }, { on := 17, ground := Ground.phase }, { on := 18, ground := Ground.phase }, { on := 19, ground := Ground.phase }, { on := 20, ground := Ground.phase }, { on := 21, ground := Ground.phase }, { on := 22, ground := Ground.phase }, { on := 23, ground := Ground.phase }, { on := 24, ground := Ground.phase }, { on := 25, ground := Ground.phase }], none⟩) (v := ?_) rfl (by kernel_rfl) (by kernel_rfl) (by kernel_rfl) (fun _ _ _ h => h) (Or.inl ⟨by rfl, ?_⟩) hHeld ?_
  rotate_left
  · (intro w1 hSw; (try dsimp only at hSw); go_simp; try (with_reducible rfl))
  try simp only [Act.put, List.setIfInBounds_toArray, List.set_cons_zero, List.set_cons_succ]
  refine wpAnyH_done (by kernel_rfl) ?_ _
  go_wp2
  go_ret
  exact ⟨rfl, Held3.last hHeld⟩

set_option maxHeartbeats 4000000 in
theorem both_walk_tf_true (a b q : Int × Int) (n : Int) (w : World) (ha : In64 a) (hq64 : In64 q) (hq : bothF [a, b] = q) (hs : bothF [b, a] = q) (hwl : withinF q a = true) (hwr : withinF q b = true) (hsz : sizeF q ≤ sizeF a) (hA : hasF a n = true) (hB : hasF b n = false) (hC : hasF q n = false) (hE : emptyF q = true) :
    Calls Try.prog 5 #[.agg #[.int .i64 a.1, .int .i64 a.2], .agg #[.int .i64 b.1, .int .i64 b.2], .int .i64 n] w fun e w' => e = .returned (.bool true) ∧ Below w.heap.size w w' := by
  have Hq := Lib.hid hq
  have Hs := Lib.hid hs
  have Ha := Lib.hid ha
  have Hq64 := Lib.hid hq64
  clear hq hs ha hq64
  go_enter Try.func5, Try.ntmps5
  go_wp2_with fail
  refine (both_any _ _ _ [a, b] _ rfl ?_ ?_ (reads_two _ _ ?_ _ a b)).mono ?_
  · exact Nat.le_refl 2
  · decide
  · simp
  rw [Hq.out]
  rintro e w1 ⟨rfl, hb⟩
  have h1 : Held w w1 w.heap.size (w.heap.size + 1) 23 (.int .i64 a.1) (.int .i64 a.2) (.int .i64 b.1) (.int .i64 b.2) :=
    Held.step_alloc (wi := (w.alloc (.cells #[.int .i64 a.1, .int .i64 a.2] 23)).alloc (.cells #[.int .i64 b.1, .int .i64 b.2] 23))
      ⟨by omega, by omega, by go_grown, (Blk.new _ _ _).alloc _, by simpa using Blk.new (w.alloc _) _ _⟩ hb
  clear hb
  have h0 : Held3 w (w1.alloc (.cells #[.int .i64 q.1, .int .i64 q.2] 23)) w.heap.size (w.heap.size + 1) w1.heap.size 23 (.int .i64 a.1) (.int .i64 a.2) (.int .i64 b.1) (.int .i64 b.2) (.int .i64 q.1) (.int .i64 q.2) :=
    ⟨h1.alloc _, h1.2.2.1.size, Blk.new _ _ _⟩
  generalize hgc : w1.heap.size = gc at h0
  go_wp2_with fail
  clear hgc h1
  refine wp_region_held_drew (S := (fun w' => w'.cell? ⟨w.heap.size, 0, none⟩ = some (.int .i64 a.1) ∧ w'.cell? ⟨w.heap.size, 1, none⟩ = some (.int .i64 a.2) ∧ w'.cell? ⟨w.heap.size + 1, 0, none⟩ = some (.int .i64 b.1) ∧ w'.cell? ⟨w.heap.size + 1, 1, none⟩ = some (.int .i64 b.2) ∧ w'.cell? ⟨gc, 0, none⟩ = some (.int .i64 q.1) ∧ w'.cell? ⟨gc, 1, none⟩ = some (.int .i64 q.2) ∧ Held3 w w' (w.heap.size) (w.heap.size + 1) (gc) 23 (.int .i64 a.1) (.int .i64 a.2) (.int .i64 b.1) (.int .i64 b.2) (.int .i64 q.1) (.int .i64 q.2))) (by kernel_rfl) ((by first | exact (Held3.drew h0).conds | exact (Held3.drew h1).conds)) (fun hHeld => ?_)
  refine wpAnyH_take (i := 0) (oi := ⟨some 12, Op.load 23 (Operand.tmp 7), 23, _, #[], none⟩) (v := ?_) rfl (by kernel_rfl) (by kernel_rfl) (by kernel_rfl) (fun _ _ _ h => h) (Or.inl ⟨by rfl, ?_⟩) hHeld ?_
  rotate_left
  · (intro w1 hSw; (try dsimp only at hSw); go_simp; try (with_reducible rfl))
  try simp only [Act.put, List.setIfInBounds_toArray, List.set_cons_zero, List.set_cons_succ]
  refine wpAnyH_take (i := 1) (oi := ⟨some 13, Op.move (Operand.tmp 2), 3, _, #[], none⟩) (v := ?_) rfl (by kernel_rfl) (by kernel_rfl) (by kernel_rfl) (fun _ _ _ h => h) (Or.inl ⟨by rfl, ?_⟩) hHeld ?_
  rotate_left
  · (intro w1 hSw; (try dsimp only at hSw); go_simp; try (with_reducible rfl))
  try simp only [Act.put, List.setIfInBounds_toArray, List.set_cons_zero, List.set_cons_succ]
  refine wpAnyH_take (i := 3) (oi := ⟨some 15, Op.load 23 (Operand.tmp 3), 23, _, #[], none⟩) (v := ?_) rfl (by kernel_rfl) (by kernel_rfl) (by kernel_rfl) (fun _ _ _ h => h) (Or.inl ⟨by rfl, ?_⟩) hHeld ?_
  rotate_left
  · (intro w1 hSw; (try dsimp only at hSw); go_simp; try (with_reducible rfl))
  try simp only [Act.put, List.setIfInBounds_toArray, List.set_cons_zero, List.set_cons_succ]
  refine wpAnyH_take (i := 4) (oi := ⟨some 16, Op.move (Operand.tmp 2), 3, _, #[], none⟩) (v := ?_) rfl (by kernel_rfl) (by kernel_rfl) (by kernel_rfl) (fun _ _ _ h => h) (Or.inl ⟨by rfl, ?_⟩) hHeld ?_
  rotate_left
  · (intro w1 hSw; (try dsimp only at hSw); go_simp; try (with_reducible rfl))
  try simp only [Act.put, List.setIfInBounds_toArray, List.set_cons_zero, List.set_cons_succ]
  refine wpAnyH_ready (rs := [2]) (by kernel_rfl) (by simp) ?_
  refine AllReadyH.cons (o := ⟨some 14, Op.call { callee := Callee.value (Operand.func 7), args := #[Operand.tmp 12, Operand.tmp 13], argTypes := #[23, 3] }, 4, _, #[{ on := 0, ground := Ground.data }, { on := 1, ground := Ground.data }], none⟩) rfl (fun K hK => ?_) AllReadyH.nil
  go_simp
  refine (has_r q n _).mono ?_
  rintro e w1 ⟨rfl, hb1⟩
  refine hK.out _ _ (Held3.next hHeld hb1) (fun hH => ?_)
  clear hHeld hK K hb1
  have hHeld := hH
  clear hH
  try simp only [Act.put, List.setIfInBounds_toArray, List.set_cons_zero, List.set_cons_succ]
  refine wpAnyH_ready (rs := [5]) (by kernel_rfl) (by simp) ?_
  refine AllReadyH.cons (o := ⟨some 17, Op.call { callee := Callee.value (Operand.func 7), args := #[Operand.tmp 15, Operand.tmp 16], argTypes := #[23, 3] }, 4, _, #[{ on := 3, ground := Ground.data }, { on := 4, ground := Ground.data }, { on := 2, ground := Ground.chain }], none⟩) rfl (fun K hK => ?_) AllReadyH.nil
  go_simp
  refine (has_r a n _).mono ?_
  rintro e w1 ⟨rfl, hb1⟩
  refine hK.out _ _ (Held3.next hHeld hb1) (fun hH => ?_)
  clear hHeld hK K hb1
  have hHeld := hH
  clear hH
  try simp only [Act.put, List.setIfInBounds_toArray, List.set_cons_zero, List.set_cons_succ]
  refine wpAnyH_take (i := 6) (oi := ⟨some 18, Op.move (Operand.tmp 17), 4, _, #[{ on := 5, ground := Ground.data }, { on := 5, ground := Ground.chain }], none⟩) (v := ?_) rfl (by kernel_rfl) (by kernel_rfl) (by kernel_rfl) (fun _ _ _ h => h) (Or.inl ⟨by rfl, ?_⟩) hHeld ?_
  rotate_left
  · (intro w1 hSw; (try dsimp only at hSw); go_simp; try (with_reducible rfl))
  try simp only [Act.put, List.setIfInBounds_toArray, List.set_cons_zero, List.set_cons_succ]
  refine wpAnyH_take (i := 7) (oi := ⟨some 19, Op.load 23 (Operand.tmp 4), 23, _, #[{ on := 6, ground := Ground.guard }], some (6, true)⟩) (v := ?_) rfl (by kernel_rfl) (by kernel_rfl) (by kernel_rfl) (fun _ _ _ h => h) (Or.inl ⟨by rfl, ?_⟩) hHeld ?_
  rotate_left
  · (intro w1 hSw; (try dsimp only at hSw); go_simp; try (with_reducible rfl))
  try simp only [Act.put, List.setIfInBounds_toArray, List.set_cons_zero, List.set_cons_succ]
  refine wpAnyH_take (i := 8) (oi := ⟨some 20, Op.move (Operand.tmp 2), 3, _, #[{ on := 6, ground := Ground.guard }], some (6, true)⟩) (v := ?_) rfl (by kernel_rfl) (by kernel_rfl) (by kernel_rfl) (fun _ _ _ h => h) (Or.inl ⟨by rfl, ?_⟩) hHeld ?_
  rotate_left
  · (intro w1 hSw; (try dsimp only at hSw); go_simp; try (with_reducible rfl))
  try simp only [Act.put, List.setIfInBounds_toArray, List.set_cons_zero, List.set_cons_succ]
  refine wpAnyH_ready (rs := [9]) (by kernel_rfl) (by simp) ?_
  refine AllReadyH.cons (o := ⟨some 21, Op.call { callee := Callee.value (Operand.func 7), args := #[Operand.tmp 19, Operand.tmp 20], argTypes := #[23, 3] }, 4, _, #[{ on := 7, ground := Ground.data }, { on := 8, ground := Ground.data }, { on := 6, ground := Ground.chain }, { on := 6, ground := Ground.guard }], some (6, true)⟩) rfl (fun K hK => ?_) AllReadyH.nil
  go_simp
  refine (has_r b n _).mono ?_
  rintro e w1 ⟨rfl, hb1⟩
  refine hK.out _ _ (Held3.next hHeld hb1) (fun hH => ?_)
  clear hHeld hK K hb1
  have hHeld := hH
  clear hH
  try simp only [Act.put, List.setIfInBounds_toArray, List.set_cons_zero, List.set_cons_succ]
  refine wpAnyH_take (i := 10) (oi := ⟨some 22, Op.pick (Operand.tmp 18) (Operand.tmp 21) (Operand.const (Value.bool false)), 4, _, #[{ on := 6, ground := Ground.data }, { on := 9, ground := Ground.data }], none⟩) (v := ?_) rfl (by kernel_rfl) (by kernel_rfl) (by kernel_rfl) (fun _ _ _ h => h) (Or.inl ⟨by rfl, ?_⟩) hHeld ?_
  rotate_left
  · (intro w1 hSw; (try dsimp only at hSw); go_simp; try (with_reducible rfl))
  try simp only [Act.put, List.setIfInBounds_toArray, List.set_cons_zero, List.set_cons_succ]
  refine wpAnyH_take (i := 11) (oi := ⟨some 23, Op.binOp BinOp.neq 4 (Operand.tmp 14) (Operand.tmp 22) 4, 4, _, #[{ on := 2, ground := Ground.data }, { on := 10, ground := Ground.data }], none⟩) (v := ?_) rfl (by kernel_rfl) (by kernel_rfl) (by kernel_rfl) (fun _ _ _ h => h) (Or.inl ⟨by rfl, ?_⟩) hHeld ?_
  rotate_left
  · (intro w1 hSw; (try dsimp only at hSw); go_simp; try (with_reducible rfl))
  try simp only [Act.put, List.setIfInBounds_toArray, List.set_cons_zero, List.set_cons_succ]
  refine wpAnyH_take (i := 12) (oi := ⟨some 24, Op.move (Operand.tmp 23), 4, _, #[{ on := 11, ground := Ground.data }, { on := 9, ground := Ground.chain }], none⟩) (v := ?_) rfl (by kernel_rfl) (by kernel_rfl) (by kernel_rfl) (fun _ _ _ h => h) (Or.inl ⟨by rfl, ?_⟩) hHeld ?_
  rotate_left
  · (intro w1 hSw; (try dsimp only at hSw); go_simp; try (with_reducible rfl))
  try simp only [Act.put, List.setIfInBounds_toArray, List.set_cons_zero, List.set_cons_succ]
  refine wpAnyH_take (i := 13) (oi := ⟨some 25, Op.load 23 (Operand.tmp 7), 23, _, #[{ on := 12, ground := Ground.guard }], some (12, false)⟩) (v := ?_) rfl (by kernel_rfl) (by kernel_rfl) (by kernel_rfl) (fun _ _ _ h => h) (Or.inl ⟨by rfl, ?_⟩) hHeld ?_
  rotate_left
  · (intro w1 hSw; (try dsimp only at hSw); go_simp; try (with_reducible rfl))
  try simp only [Act.put, List.setIfInBounds_toArray, List.set_cons_zero, List.set_cons_succ]
  refine wpAnyH_take (i := 15) (oi := ⟨some 27, Op.load 23 (Operand.tmp 3), 23, _, #[{ on := 12, ground := Ground.guard }], some (12, false)⟩) (v := ?_) rfl (by kernel_rfl) (by kernel_rfl) (by kernel_rfl) (fun _ _ _ h => h) (Or.inl ⟨by rfl, ?_⟩) hHeld ?_
  rotate_left
  · (intro w1 hSw; (try dsimp only at hSw); go_simp; try (with_reducible rfl))
  try simp only [Act.put, List.setIfInBounds_toArray, List.set_cons_zero, List.set_cons_succ]
  refine wpAnyH_take (i := 16) (oi := ⟨some 28, Op.load 23 (Operand.tmp 4), 23, _, #[{ on := 12, ground := Ground.guard }], some (12, false)⟩) (v := ?_) rfl (by kernel_rfl) (by kernel_rfl) (by kernel_rfl) (fun _ _ _ h => h) (Or.inl ⟨by rfl, ?_⟩) hHeld ?_
  rotate_left
  · (intro w1 hSw; (try dsimp only at hSw); go_simp; try (with_reducible rfl))
  try simp only [Act.put, List.setIfInBounds_toArray, List.set_cons_zero, List.set_cons_succ]
  refine wpAnyH_ready (rs := [14]) (by kernel_rfl) (by simp) ?_
  refine AllReadyH.cons (o := ⟨some 26, Op.call { callee := Callee.value (Operand.func 9), args := #[Operand.tmp 25], argTypes := #[23] }, 4, _, #[{ on := 13, ground := Ground.data }, { on := 12, ground := Ground.chain }, { on := 12, ground := Ground.guard }], some (12, false)⟩) rfl (fun K hK => ?_) AllReadyH.nil
  go_simp
  refine (empty_r q _).mono ?_
  rintro e w1 ⟨rfl, hb1⟩
  refine hK.out _ _ (Held3.next hHeld hb1) (fun hH => ?_)
  clear hHeld hK K hb1
  have hHeld := hH
  clear hH
  try simp only [Act.put, List.setIfInBounds_toArray, List.set_cons_zero, List.set_cons_succ]
  refine wpAnyH_ready (rs := [17]) (by kernel_rfl) (by simp) ?_
  refine AllReadyH.cons (o := ⟨some 29, Op.call { callee := Callee.value (Operand.func 20), args := #[Operand.tmp 27, Operand.tmp 28], argTypes := #[23, 23] }, 4, _, #[{ on := 15, ground := Ground.data }, { on := 16, ground := Ground.data }, { on := 14, ground := Ground.chain }, { on := 12, ground := Ground.guard }], some (12, false)⟩) rfl (fun K hK => ?_) AllReadyH.nil
  go_simp
  refine (meets_any a b _).mono ?_
  rw [Hq.out]
  rintro e w1 ⟨rfl, hb1⟩
  refine hK.out _ _ (Held3.next hHeld hb1) (fun hH => ?_)
  clear hHeld hK K hb1
  have hHeld := hH
  clear hH
  try simp only [Act.put, List.setIfInBounds_toArray, List.set_cons_zero, List.set_cons_succ]
  refine wpAnyH_take (i := 18) (oi := ⟨some 30, Op.binOp BinOp.eql 4 (Operand.tmp 26) (Operand.tmp 29) 4, 4, _, #[{ on := 14, ground := Ground.data }, { on := 17, ground := Ground.data }, { on := 12, ground := Ground.guard }], some (12, false)⟩) (v := ?_) rfl (by kernel_rfl) (by kernel_rfl) (by kernel_rfl) (fun _ _ _ h => h) (Or.inl ⟨by rfl, ?_⟩) hHeld ?_
  rotate_left
  · (intro w1 hSw; (try dsimp only at hSw); go_simp; try (with_reducible rfl))
  try simp only [Act.put, List.setIfInBounds_toArray, List.set_cons_zero, List.set_cons_succ]
  refine wpAnyH_take (i := 19) (oi := ⟨some 31, Op.pick (Operand.tmp 24) (Operand.const (Value.bool true)) (Operand.tmp 30), 4, _, #[{ on := 12, ground := Ground.data }, { on := 18, ground := Ground.data }], none⟩) (v := ?_) rfl (by kernel_rfl) (by kernel_rfl) (by kernel_rfl) (fun _ _ _ h => h) (Or.inl ⟨by rfl, ?_⟩) hHeld ?_
  rotate_left
  · (intro w1 hSw; (try dsimp only at hSw); go_simp; try (with_reducible rfl))
  try simp only [Act.put, List.setIfInBounds_toArray, List.set_cons_zero, List.set_cons_succ]
  refine wpAnyH_done (by kernel_rfl) ?_ _
  have h1 := hHeld.2.2.2.2.2.2
  clear hHeld
  go_wp2_with fail
  refine wp_region_held_drew (S := (fun w' => w'.cell? ⟨w.heap.size, 0, none⟩ = some (.int .i64 a.1) ∧ w'.cell? ⟨w.heap.size, 1, none⟩ = some (.int .i64 a.2) ∧ w'.cell? ⟨w.heap.size + 1, 0, none⟩ = some (.int .i64 b.1) ∧ w'.cell? ⟨w.heap.size + 1, 1, none⟩ = some (.int .i64 b.2) ∧ w'.cell? ⟨gc, 0, none⟩ = some (.int .i64 q.1) ∧ w'.cell? ⟨gc, 1, none⟩ = some (.int .i64 q.2) ∧ Held3 w w' (w.heap.size) (w.heap.size + 1) (gc) 23 (.int .i64 a.1) (.int .i64 a.2) (.int .i64 b.1) (.int .i64 b.2) (.int .i64 q.1) (.int .i64 q.2))) (by kernel_rfl) ((by first | exact (Held3.drew h0).conds | exact (Held3.drew h1).conds)) (fun hHeld => ?_)
  refine wpAnyH_take (i := 0) (oi := ⟨some 32, Op.load 23 (Operand.tmp 7), 23, _, #[], none⟩) (v := ?_) rfl (by kernel_rfl) (by kernel_rfl) (by kernel_rfl) (fun _ _ _ h => h) (Or.inl ⟨by rfl, ?_⟩) hHeld ?_
  rotate_left
  · (intro w1 hSw; (try dsimp only at hSw); go_simp; try (with_reducible rfl))
  try simp only [Act.put, List.setIfInBounds_toArray, List.set_cons_zero, List.set_cons_succ]
  refine wpAnyH_take (i := 1) (oi := ⟨some 33, Op.load 23 (Operand.tmp 3), 23, _, #[], none⟩) (v := ?_) rfl (by kernel_rfl) (by kernel_rfl) (by kernel_rfl) (fun _ _ _ h => h) (Or.inl ⟨by rfl, ?_⟩) hHeld ?_
  rotate_left
  · (intro w1 hSw; (try dsimp only at hSw); go_simp; try (with_reducible rfl))
  try simp only [Act.put, List.setIfInBounds_toArray, List.set_cons_zero, List.set_cons_succ]
  refine wpAnyH_ready (rs := [2]) (by kernel_rfl) (by simp) ?_
  refine AllReadyH.cons (o := ⟨some 34, Op.call { callee := Callee.value (Operand.func 22), args := #[Operand.tmp 32, Operand.tmp 33], argTypes := #[23, 23] }, 4, _, #[{ on := 0, ground := Ground.data }, { on := 1, ground := Ground.data }], none⟩) rfl (fun K hK => ?_) AllReadyH.nil
  go_simp
  refine (within_r q a _).mono ?_
  rintro e w1 ⟨rfl, hb1⟩
  refine hK.out _ _ (Held3.next hHeld hb1) (fun hH => ?_)
  clear hHeld hK K hb1
  have hHeld := hH
  clear hH
  try simp only [Act.put, List.setIfInBounds_toArray, List.set_cons_zero, List.set_cons_succ]
  refine wpAnyH_take (i := 3) (oi := ⟨some 35, Op.move (Operand.tmp 34), 4, _, #[{ on := 2, ground := Ground.data }, { on := 2, ground := Ground.chain }], none⟩) (v := ?_) rfl (by kernel_rfl) (by kernel_rfl) (by kernel_rfl) (fun _ _ _ h => h) (Or.inl ⟨by rfl, ?_⟩) hHeld ?_
  rotate_left
  · (intro w1 hSw; (try dsimp only at hSw); go_simp; try (with_reducible rfl))
  try simp only [Act.put, List.setIfInBounds_toArray, List.set_cons_zero, List.set_cons_succ]
  refine wpAnyH_take (i := 4) (oi := ⟨some 36, Op.load 23 (Operand.tmp 7), 23, _, #[{ on := 3, ground := Ground.guard }], some (3, true)⟩) (v := ?_) rfl (by kernel_rfl) (by kernel_rfl) (by kernel_rfl) (fun _ _ _ h => h) (Or.inl ⟨by rfl, ?_⟩) hHeld ?_
  rotate_left
  · (intro w1 hSw; (try dsimp only at hSw); go_simp; try (with_reducible rfl))
  try simp only [Act.put, List.setIfInBounds_toArray, List.set_cons_zero, List.set_cons_succ]
  refine wpAnyH_take (i := 5) (oi := ⟨some 37, Op.load 23 (Operand.tmp 4), 23, _, #[{ on := 3, ground := Ground.guard }], some (3, true)⟩) (v := ?_) rfl (by kernel_rfl) (by kernel_rfl) (by kernel_rfl) (fun _ _ _ h => h) (Or.inl ⟨by rfl, ?_⟩) hHeld ?_
  rotate_left
  · (intro w1 hSw; (try dsimp only at hSw); go_simp; try (with_reducible rfl))
  try simp only [Act.put, List.setIfInBounds_toArray, List.set_cons_zero, List.set_cons_succ]
  refine wpAnyH_ready (rs := [6]) (by kernel_rfl) (by simp) ?_
  refine AllReadyH.cons (o := ⟨some 38, Op.call { callee := Callee.value (Operand.func 22), args := #[Operand.tmp 36, Operand.tmp 37], argTypes := #[23, 23] }, 4, _, #[{ on := 4, ground := Ground.data }, { on := 5, ground := Ground.data }, { on := 3, ground := Ground.chain }, { on := 3, ground := Ground.guard }], some (3, true)⟩) rfl (fun K hK => ?_) AllReadyH.nil
  go_simp
  refine (within_r q b _).mono ?_
  rintro e w1 ⟨rfl, hb1⟩
  refine hK.out _ _ (Held3.next hHeld hb1) (fun hH => ?_)
  clear hHeld hK K hb1
  have hHeld := hH
  clear hH
  try simp only [Act.put, List.setIfInBounds_toArray, List.set_cons_zero, List.set_cons_succ]
  refine wpAnyH_take (i := 7) (oi := ⟨some 39, Op.pick (Operand.tmp 35) (Operand.tmp 38) (Operand.const (Value.bool false)), 4, _, #[{ on := 3, ground := Ground.data }, { on := 6, ground := Ground.data }], none⟩) (v := ?_) rfl (by kernel_rfl) (by kernel_rfl) (by kernel_rfl) (fun _ _ _ h => h) (Or.inl ⟨by rfl, ?_⟩) hHeld ?_
  rotate_left
  · (intro w1 hSw; (try dsimp only at hSw); go_simp; try (with_reducible rfl))
  try simp only [Act.put, List.setIfInBounds_toArray, List.set_cons_zero, List.set_cons_succ]
  refine wpAnyH_take (i := 8) (oi := ⟨some 40, Op.move (Operand.tmp 39), 4, _, #[{ on := 7, ground := Ground.data }, { on := 6, ground := Ground.chain }], none⟩) (v := ?_) rfl (by kernel_rfl) (by kernel_rfl) (by kernel_rfl) (fun _ _ _ h => h) (Or.inl ⟨by rfl, ?_⟩) hHeld ?_
  rotate_left
  · (intro w1 hSw; (try dsimp only at hSw); go_simp; try (with_reducible rfl))
  try simp only [Act.put, List.setIfInBounds_toArray, List.set_cons_zero, List.set_cons_succ]
  refine wpAnyH_take (i := 9) (oi := ⟨some 41, Op.load 23 (Operand.tmp 7), 23, _, #[{ on := 8, ground := Ground.guard }], some (8, true)⟩) (v := ?_) rfl (by kernel_rfl) (by kernel_rfl) (by kernel_rfl) (fun _ _ _ h => h) (Or.inl ⟨by rfl, ?_⟩) hHeld ?_
  rotate_left
  · (intro w1 hSw; (try dsimp only at hSw); go_simp; try (with_reducible rfl))
  try simp only [Act.put, List.setIfInBounds_toArray, List.set_cons_zero, List.set_cons_succ]
  refine wpAnyH_take (i := 11) (oi := ⟨some 43, Op.load 23 (Operand.tmp 3), 23, _, #[{ on := 8, ground := Ground.guard }], some (8, true)⟩) (v := ?_) rfl (by kernel_rfl) (by kernel_rfl) (by kernel_rfl) (fun _ _ _ h => h) (Or.inl ⟨by rfl, ?_⟩) hHeld ?_
  rotate_left
  · (intro w1 hSw; (try dsimp only at hSw); go_simp; try (with_reducible rfl))
  try simp only [Act.put, List.setIfInBounds_toArray, List.set_cons_zero, List.set_cons_succ]
  refine wpAnyH_ready (rs := [10]) (by kernel_rfl) (by simp) ?_
  refine AllReadyH.cons (o := ⟨some 42, Op.call { callee := Callee.value (Operand.func 11), args := #[Operand.tmp 41], argTypes := #[23] }, 3, _, #[{ on := 9, ground := Ground.data }, { on := 8, ground := Ground.chain }, { on := 8, ground := Ground.guard }], some (8, true)⟩) rfl (fun K hK => ?_) AllReadyH.nil
  go_simp
  refine (size_r q Hq64.out _).mono ?_
  rintro e w1 ⟨rfl, hb1⟩
  refine hK.out _ _ (Held3.next hHeld hb1) (fun hH => ?_)
  clear hHeld hK K hb1
  have hHeld := hH
  clear hH
  try simp only [Act.put, List.setIfInBounds_toArray, List.set_cons_zero, List.set_cons_succ]
  refine wpAnyH_ready (rs := [12]) (by kernel_rfl) (by simp) ?_
  refine AllReadyH.cons (o := ⟨some 44, Op.call { callee := Callee.value (Operand.func 11), args := #[Operand.tmp 43], argTypes := #[23] }, 3, _, #[{ on := 11, ground := Ground.data }, { on := 10, ground := Ground.chain }, { on := 8, ground := Ground.guard }], some (8, true)⟩) rfl (fun K hK => ?_) AllReadyH.nil
  go_simp
  refine (size_r a Ha.out _).mono ?_
  rintro e w1 ⟨rfl, hb1⟩
  refine hK.out _ _ (Held3.next hHeld hb1) (fun hH => ?_)
  clear hHeld hK K hb1
  have hHeld := hH
  clear hH
  try simp only [Act.put, List.setIfInBounds_toArray, List.set_cons_zero, List.set_cons_succ]
  refine wpAnyH_take (i := 13) (oi := ⟨some 45, Op.binOp BinOp.leq 3 (Operand.tmp 42) (Operand.tmp 44) 3, 4, _, #[{ on := 10, ground := Ground.data }, { on := 12, ground := Ground.data }, { on := 8, ground := Ground.guard }], some (8, true)⟩) (v := ?_) rfl (by kernel_rfl) (by kernel_rfl) (by kernel_rfl) (fun _ _ _ h => h) (Or.inl ⟨by rfl, ?_⟩) hHeld ?_
  rotate_left
  · (intro w1 hSw; (try dsimp only at hSw); go_simp; try (with_reducible rfl))
  try simp only [Act.put, List.setIfInBounds_toArray, List.set_cons_zero, List.set_cons_succ]
  refine wpAnyH_take (i := 14) (oi := ⟨some 46, Op.pick (Operand.tmp 40) (Operand.tmp 45) (Operand.const (Value.bool false)), 4, _, #[{ on := 8, ground := Ground.data }, { on := 13, ground := Ground.data }], none⟩) (v := ?_) rfl (by kernel_rfl) (by kernel_rfl) (by kernel_rfl) (fun _ _ _ h => h) (Or.inl ⟨by rfl, ?_⟩) hHeld ?_
  rotate_left
  · (intro w1 hSw; (try dsimp only at hSw); go_simp; try (with_reducible rfl))
  try simp only [Act.put, List.setIfInBounds_toArray, List.set_cons_zero, List.set_cons_succ]
  refine wpAnyH_take (i := 15) (oi := ⟨some 47, Op.move (Operand.tmp 46), 4, _, #[{ on := 14, ground := Ground.data }, { on := 12, ground := Ground.chain }], none⟩) (v := ?_) rfl (by kernel_rfl) (by kernel_rfl) (by kernel_rfl) (fun _ _ _ h => h) (Or.inl ⟨by rfl, ?_⟩) hHeld ?_
  rotate_left
  · (intro w1 hSw; (try dsimp only at hSw); go_simp; try (with_reducible rfl))
  try simp only [Act.put, List.setIfInBounds_toArray, List.set_cons_zero, List.set_cons_succ]
  refine wpAnyH_take (i := 16) (oi := ⟨some 48, Op.load 23 (Operand.tmp 4), 23, _, #[{ on := 15, ground := Ground.guard }], some (15, true)⟩) (v := ?_) rfl (by kernel_rfl) (by kernel_rfl) (by kernel_rfl) (fun _ _ _ h => h) (Or.inl ⟨by rfl, ?_⟩) hHeld ?_
  rotate_left
  · (intro w1 hSw; (try dsimp only at hSw); go_simp; try (with_reducible rfl))
  try simp only [Act.put, List.setIfInBounds_toArray, List.set_cons_zero, List.set_cons_succ]
  refine wpAnyH_take (i := 17) (oi := ⟨some 49, Op.load 23 (Operand.tmp 3), 23, _, #[{ on := 15, ground := Ground.guard }], some (15, true)⟩) (v := ?_) rfl (by kernel_rfl) (by kernel_rfl) (by kernel_rfl) (fun _ _ _ h => h) (Or.inl ⟨by rfl, ?_⟩) hHeld ?_
  rotate_left
  · (intro w1 hSw; (try dsimp only at hSw); go_simp; try (with_reducible rfl))
  try simp only [Act.put, List.setIfInBounds_toArray, List.set_cons_zero, List.set_cons_succ]
  refine wpAnyH_take (i := 20) (oi := ⟨some 52, Op.load 23 (Operand.tmp 7), 23, _, #[{ on := 15, ground := Ground.guard }], some (15, true)⟩) (v := ?_) rfl (by kernel_rfl) (by kernel_rfl) (by kernel_rfl) (fun _ _ _ h => h) (Or.inl ⟨by rfl, ?_⟩) hHeld ?_
  rotate_left
  · (intro w1 hSw; (try dsimp only at hSw); go_simp; try (with_reducible rfl))
  try simp only [Act.put, List.setIfInBounds_toArray, List.set_cons_zero, List.set_cons_succ]
  refine wpAnyH_ready (rs := [18]) (by kernel_rfl) (by simp) ?_
  refine AllReadyH.cons (o := ⟨some 50, Op.buildSlice 29 2 #[(0, Operand.tmp 48), (1, Operand.tmp 49)], 29, _, #[{ on := 16, ground := Ground.data }, { on := 17, ground := Ground.data }, { on := 15, ground := Ground.guard }], some (15, true)⟩) rfl (fun K hK => ?_) AllReadyH.nil
  go_simp
  refine hK.out _ _ (Held3.grow hHeld) (fun hH => ?_)
  clear hHeld hK K
  have hHeld := hH
  clear hH
  try simp only [Act.put, List.setIfInBounds_toArray, List.set_cons_zero, List.set_cons_succ]
  refine wpAnyH_ready (rs := [19]) (by kernel_rfl) (by simp) ?_
  refine AllReadyH.cons (o := ⟨some 51, Op.call { callee := Callee.value (Operand.func 16), args := #[Operand.tmp 50], argTypes := #[29] }, 23, _, #[{ on := 18, ground := Ground.data }, { on := 15, ground := Ground.chain }, { on := 15, ground := Ground.guard }], some (15, true)⟩) rfl (fun K hK => ?_) AllReadyH.nil
  go_simp
  refine (both_any _ _ _ [b, a] _ rfl (Nat.le_refl 2) (by decide) (reads_two _ _ rfl _ b a)).mono ?_
  rw [Hs.out]
  rintro e w1 ⟨rfl, hb1⟩
  refine hK.out _ _ (Held3.next hHeld hb1) (fun hH => ?_)
  clear hHeld hK K hb1
  have hHeld := hH
  clear hH
  try simp only [Act.put, List.setIfInBounds_toArray, List.set_cons_zero, List.set_cons_succ]
  refine wpAnyH_take (i := 21) (oi := ⟨some 53, Op.binOp BinOp.eql 23 (Operand.tmp 51) (Operand.tmp 52) 23, 4, _, #[{ on := 19, ground := Ground.data }, { on := 20, ground := Ground.data }, { on := 15, ground := Ground.guard }], some (15, true)⟩) (v := ?_) rfl (by kernel_rfl) (by kernel_rfl) (by kernel_rfl) (fun _ _ _ h => h) (Or.inl ⟨by rfl, ?_⟩) hHeld ?_
  rotate_left
  · (intro w1 hSw; (try dsimp only at hSw); go_simp; try (with_reducible rfl))
  try simp only [Act.put, List.setIfInBounds_toArray, List.set_cons_zero, List.set_cons_succ]
  refine wpAnyH_take (i := 22) (oi := ⟨some 54, Op.pick (Operand.tmp 47) (Operand.tmp 53) (Operand.const (Value.bool false)), 4, _, #[{ on := 15, ground := Ground.data }, { on := 21, ground := Ground.data }], none⟩) (v := ?_) rfl (by kernel_rfl) (by kernel_rfl) (by kernel_rfl) (fun _ _ _ h => h) (Or.inl ⟨by rfl, ?_⟩) hHeld ?_
  rotate_left
  · (intro w1 hSw; (try dsimp only at hSw); go_simp; try (with_reducible rfl))
  try simp only [Act.put, List.setIfInBounds_toArray, List.set_cons_zero, List.set_cons_succ]
  refine wpAnyH_take (i := 23) (oi := ⟨some 55, Op.move (Operand.tmp 54), 4, _, #[{ on := 22, ground := Ground.data }, { on := 19, ground := Ground.chain }], none⟩) (v := ?_) rfl (by kernel_rfl) (by kernel_rfl) (by kernel_rfl) (fun _ _ _ h => h) (Or.inl ⟨by rfl, ?_⟩) hHeld ?_
  rotate_left
  · (intro w1 hSw; (try dsimp only at hSw); go_simp; try (with_reducible rfl))
  try simp only [Act.put, List.setIfInBounds_toArray, List.set_cons_zero, List.set_cons_succ]
  refine wpAnyH_ready (rs := [24]) (by kernel_rfl) (by simp) ?_
  refine AllReadyH.cons (o := ⟨some 56, Op.call { callee := Callee.value (Operand.func 15), args := #[], argTypes := #[] }, 4, _, #[{ on := 23, ground := Ground.chain }, { on := 23, ground := Ground.guard }], some (23, true)⟩) rfl (fun K hK => ?_) AllReadyH.nil
  go_simp
  refine (awake_any _).mono ?_
  rintro e w1 ⟨rfl, hb1⟩
  refine hK.out _ _ (Held3.next hHeld hb1) (fun hH => ?_)
  clear hHeld hK K hb1
  have hHeld := hH
  clear hH
  try simp only [Act.put, List.setIfInBounds_toArray, List.set_cons_zero, List.set_cons_succ]
  refine wpAnyH_take (i := 25) (oi := ⟨some 57, Op.pick (Operand.tmp 55) (Operand.tmp 56) (Operand.const (Value.bool false)), 4, _, #[{ on := 23, ground := Ground.data }, { on := 24, ground := Ground.data }], none⟩) (v := ?_) rfl (by kernel_rfl) (by kernel_rfl) (by kernel_rfl) (fun _ _ _ h => h) (Or.inl ⟨by rfl, ?_⟩) hHeld ?_
  rotate_left
  · (intro w1 hSw; (try dsimp only at hSw); go_simp; try (with_reducible rfl))
  try simp only [Act.put, List.setIfInBounds_toArray, List.set_cons_zero, List.set_cons_succ]
  refine wpAnyH_take (i := 26) (oi := ⟨some 6, Op.assign (Operand.tmp 57), 4, _, #[{ on := 25, ground := Ground.data }, { on := 24, ground := Ground.chain }, { on := 0, ground := Ground.phase }, { on := 1, ground := Ground.phase }, { on := 2, ground := Ground.phase }, { on := 3, ground := Ground.phase }, { on := 4, ground := Ground.phase }, { on := 5, ground := Ground.phase }, { on := 6, ground := Ground.phase }, { on := 7, ground := Ground.phase }, { on := 8, ground := Ground.phase }, { on := 9, ground := Ground.phase }, { on := 10, ground := Ground.phase }, { on := 11, ground := Ground.phase }, { on := 12, ground := Ground.phase }, { on := 13, ground := Ground.phase }, { on := 14, ground := Ground.phase }, { on := 15, ground := Ground.phase }, { on := 16, ground := Ground.phase }, { on := 17, ground := Ground.phase }, { on := 18, ground := Ground.phase }, { on := 19, ground := Ground.phase }, { on := 20, ground := Ground.phase }, { on := 21, ground := Ground.phase }, { on := 22, ground := Ground.phase }, { on := 23, ground := Ground.phase }, { on := 24, ground := Ground.phase }, { on := 25, ground := Ground.phase }], none⟩) (v := ?_) rfl (by kernel_rfl) (by kernel_rfl) (by kernel_rfl) (fun _ _ _ h => h) (Or.inl ⟨by rfl, ?_⟩) hHeld ?_
  rotate_left
  · (intro w1 hSw; (try dsimp only at hSw); go_simp; try (with_reducible rfl))
  try simp only [Act.put, List.setIfInBounds_toArray, List.set_cons_zero, List.set_cons_succ]
  refine wpAnyH_done (by kernel_rfl) ?_ _
  go_wp2
  go_ret
  exact ⟨rfl, Held3.last hHeld⟩

set_option maxHeartbeats 4000000 in
theorem both_walk_tf_false (a b q : Int × Int) (n : Int) (w : World) (ha : In64 a) (hq64 : In64 q) (hq : bothF [a, b] = q) (hs : bothF [b, a] = q) (hwl : withinF q a = true) (hwr : withinF q b = true) (hsz : sizeF q ≤ sizeF a) (hA : hasF a n = true) (hB : hasF b n = false) (hC : hasF q n = false) (hE : emptyF q = false) :
    Calls Try.prog 5 #[.agg #[.int .i64 a.1, .int .i64 a.2], .agg #[.int .i64 b.1, .int .i64 b.2], .int .i64 n] w fun e w' => e = .returned (.bool true) ∧ Below w.heap.size w w' := by
  have Hq := Lib.hid hq
  have Hs := Lib.hid hs
  have Ha := Lib.hid ha
  have Hq64 := Lib.hid hq64
  clear hq hs ha hq64
  go_enter Try.func5, Try.ntmps5
  go_wp2_with fail
  refine (both_any _ _ _ [a, b] _ rfl ?_ ?_ (reads_two _ _ ?_ _ a b)).mono ?_
  · exact Nat.le_refl 2
  · decide
  · simp
  rw [Hq.out]
  rintro e w1 ⟨rfl, hb⟩
  have h1 : Held w w1 w.heap.size (w.heap.size + 1) 23 (.int .i64 a.1) (.int .i64 a.2) (.int .i64 b.1) (.int .i64 b.2) :=
    Held.step_alloc (wi := (w.alloc (.cells #[.int .i64 a.1, .int .i64 a.2] 23)).alloc (.cells #[.int .i64 b.1, .int .i64 b.2] 23))
      ⟨by omega, by omega, by go_grown, (Blk.new _ _ _).alloc _, by simpa using Blk.new (w.alloc _) _ _⟩ hb
  clear hb
  have h0 : Held3 w (w1.alloc (.cells #[.int .i64 q.1, .int .i64 q.2] 23)) w.heap.size (w.heap.size + 1) w1.heap.size 23 (.int .i64 a.1) (.int .i64 a.2) (.int .i64 b.1) (.int .i64 b.2) (.int .i64 q.1) (.int .i64 q.2) :=
    ⟨h1.alloc _, h1.2.2.1.size, Blk.new _ _ _⟩
  generalize hgc : w1.heap.size = gc at h0
  go_wp2_with fail
  clear hgc h1
  refine wp_region_held_drew (S := (fun w' => w'.cell? ⟨w.heap.size, 0, none⟩ = some (.int .i64 a.1) ∧ w'.cell? ⟨w.heap.size, 1, none⟩ = some (.int .i64 a.2) ∧ w'.cell? ⟨w.heap.size + 1, 0, none⟩ = some (.int .i64 b.1) ∧ w'.cell? ⟨w.heap.size + 1, 1, none⟩ = some (.int .i64 b.2) ∧ w'.cell? ⟨gc, 0, none⟩ = some (.int .i64 q.1) ∧ w'.cell? ⟨gc, 1, none⟩ = some (.int .i64 q.2) ∧ Held3 w w' (w.heap.size) (w.heap.size + 1) (gc) 23 (.int .i64 a.1) (.int .i64 a.2) (.int .i64 b.1) (.int .i64 b.2) (.int .i64 q.1) (.int .i64 q.2))) (by kernel_rfl) ((by first | exact (Held3.drew h0).conds | exact (Held3.drew h1).conds)) (fun hHeld => ?_)
  refine wpAnyH_take (i := 0) (oi := ⟨some 12, Op.load 23 (Operand.tmp 7), 23, _, #[], none⟩) (v := ?_) rfl (by kernel_rfl) (by kernel_rfl) (by kernel_rfl) (fun _ _ _ h => h) (Or.inl ⟨by rfl, ?_⟩) hHeld ?_
  rotate_left
  · (intro w1 hSw; (try dsimp only at hSw); go_simp; try (with_reducible rfl))
  try simp only [Act.put, List.setIfInBounds_toArray, List.set_cons_zero, List.set_cons_succ]
  refine wpAnyH_take (i := 1) (oi := ⟨some 13, Op.move (Operand.tmp 2), 3, _, #[], none⟩) (v := ?_) rfl (by kernel_rfl) (by kernel_rfl) (by kernel_rfl) (fun _ _ _ h => h) (Or.inl ⟨by rfl, ?_⟩) hHeld ?_
  rotate_left
  · (intro w1 hSw; (try dsimp only at hSw); go_simp; try (with_reducible rfl))
  try simp only [Act.put, List.setIfInBounds_toArray, List.set_cons_zero, List.set_cons_succ]
  refine wpAnyH_take (i := 3) (oi := ⟨some 15, Op.load 23 (Operand.tmp 3), 23, _, #[], none⟩) (v := ?_) rfl (by kernel_rfl) (by kernel_rfl) (by kernel_rfl) (fun _ _ _ h => h) (Or.inl ⟨by rfl, ?_⟩) hHeld ?_
  rotate_left
  · (intro w1 hSw; (try dsimp only at hSw); go_simp; try (with_reducible rfl))
  try simp only [Act.put, List.setIfInBounds_toArray, List.set_cons_zero, List.set_cons_succ]
  refine wpAnyH_take (i := 4) (oi := ⟨some 16, Op.move (Operand.tmp 2), 3, _, #[], none⟩) (v := ?_) rfl (by kernel_rfl) (by kernel_rfl) (by kernel_rfl) (fun _ _ _ h => h) (Or.inl ⟨by rfl, ?_⟩) hHeld ?_
  rotate_left
  · (intro w1 hSw; (try dsimp only at hSw); go_simp; try (with_reducible rfl))
  try simp only [Act.put, List.setIfInBounds_toArray, List.set_cons_zero, List.set_cons_succ]
  refine wpAnyH_ready (rs := [2]) (by kernel_rfl) (by simp) ?_
  refine AllReadyH.cons (o := ⟨some 14, Op.call { callee := Callee.value (Operand.func 7), args := #[Operand.tmp 12, Operand.tmp 13], argTypes := #[23, 3] }, 4, _, #[{ on := 0, ground := Ground.data }, { on := 1, ground := Ground.data }], none⟩) rfl (fun K hK => ?_) AllReadyH.nil
  go_simp
  refine (has_r q n _).mono ?_
  rintro e w1 ⟨rfl, hb1⟩
  refine hK.out _ _ (Held3.next hHeld hb1) (fun hH => ?_)
  clear hHeld hK K hb1
  have hHeld := hH
  clear hH
  try simp only [Act.put, List.setIfInBounds_toArray, List.set_cons_zero, List.set_cons_succ]
  refine wpAnyH_ready (rs := [5]) (by kernel_rfl) (by simp) ?_
  refine AllReadyH.cons (o := ⟨some 17, Op.call { callee := Callee.value (Operand.func 7), args := #[Operand.tmp 15, Operand.tmp 16], argTypes := #[23, 3] }, 4, _, #[{ on := 3, ground := Ground.data }, { on := 4, ground := Ground.data }, { on := 2, ground := Ground.chain }], none⟩) rfl (fun K hK => ?_) AllReadyH.nil
  go_simp
  refine (has_r a n _).mono ?_
  rintro e w1 ⟨rfl, hb1⟩
  refine hK.out _ _ (Held3.next hHeld hb1) (fun hH => ?_)
  clear hHeld hK K hb1
  have hHeld := hH
  clear hH
  try simp only [Act.put, List.setIfInBounds_toArray, List.set_cons_zero, List.set_cons_succ]
  refine wpAnyH_take (i := 6) (oi := ⟨some 18, Op.move (Operand.tmp 17), 4, _, #[{ on := 5, ground := Ground.data }, { on := 5, ground := Ground.chain }], none⟩) (v := ?_) rfl (by kernel_rfl) (by kernel_rfl) (by kernel_rfl) (fun _ _ _ h => h) (Or.inl ⟨by rfl, ?_⟩) hHeld ?_
  rotate_left
  · (intro w1 hSw; (try dsimp only at hSw); go_simp; try (with_reducible rfl))
  try simp only [Act.put, List.setIfInBounds_toArray, List.set_cons_zero, List.set_cons_succ]
  refine wpAnyH_take (i := 7) (oi := ⟨some 19, Op.load 23 (Operand.tmp 4), 23, _, #[{ on := 6, ground := Ground.guard }], some (6, true)⟩) (v := ?_) rfl (by kernel_rfl) (by kernel_rfl) (by kernel_rfl) (fun _ _ _ h => h) (Or.inl ⟨by rfl, ?_⟩) hHeld ?_
  rotate_left
  · (intro w1 hSw; (try dsimp only at hSw); go_simp; try (with_reducible rfl))
  try simp only [Act.put, List.setIfInBounds_toArray, List.set_cons_zero, List.set_cons_succ]
  refine wpAnyH_take (i := 8) (oi := ⟨some 20, Op.move (Operand.tmp 2), 3, _, #[{ on := 6, ground := Ground.guard }], some (6, true)⟩) (v := ?_) rfl (by kernel_rfl) (by kernel_rfl) (by kernel_rfl) (fun _ _ _ h => h) (Or.inl ⟨by rfl, ?_⟩) hHeld ?_
  rotate_left
  · (intro w1 hSw; (try dsimp only at hSw); go_simp; try (with_reducible rfl))
  try simp only [Act.put, List.setIfInBounds_toArray, List.set_cons_zero, List.set_cons_succ]
  refine wpAnyH_ready (rs := [9]) (by kernel_rfl) (by simp) ?_
  refine AllReadyH.cons (o := ⟨some 21, Op.call { callee := Callee.value (Operand.func 7), args := #[Operand.tmp 19, Operand.tmp 20], argTypes := #[23, 3] }, 4, _, #[{ on := 7, ground := Ground.data }, { on := 8, ground := Ground.data }, { on := 6, ground := Ground.chain }, { on := 6, ground := Ground.guard }], some (6, true)⟩) rfl (fun K hK => ?_) AllReadyH.nil
  go_simp
  refine (has_r b n _).mono ?_
  rintro e w1 ⟨rfl, hb1⟩
  refine hK.out _ _ (Held3.next hHeld hb1) (fun hH => ?_)
  clear hHeld hK K hb1
  have hHeld := hH
  clear hH
  try simp only [Act.put, List.setIfInBounds_toArray, List.set_cons_zero, List.set_cons_succ]
  refine wpAnyH_take (i := 10) (oi := ⟨some 22, Op.pick (Operand.tmp 18) (Operand.tmp 21) (Operand.const (Value.bool false)), 4, _, #[{ on := 6, ground := Ground.data }, { on := 9, ground := Ground.data }], none⟩) (v := ?_) rfl (by kernel_rfl) (by kernel_rfl) (by kernel_rfl) (fun _ _ _ h => h) (Or.inl ⟨by rfl, ?_⟩) hHeld ?_
  rotate_left
  · (intro w1 hSw; (try dsimp only at hSw); go_simp; try (with_reducible rfl))
  try simp only [Act.put, List.setIfInBounds_toArray, List.set_cons_zero, List.set_cons_succ]
  refine wpAnyH_take (i := 11) (oi := ⟨some 23, Op.binOp BinOp.neq 4 (Operand.tmp 14) (Operand.tmp 22) 4, 4, _, #[{ on := 2, ground := Ground.data }, { on := 10, ground := Ground.data }], none⟩) (v := ?_) rfl (by kernel_rfl) (by kernel_rfl) (by kernel_rfl) (fun _ _ _ h => h) (Or.inl ⟨by rfl, ?_⟩) hHeld ?_
  rotate_left
  · (intro w1 hSw; (try dsimp only at hSw); go_simp; try (with_reducible rfl))
  try simp only [Act.put, List.setIfInBounds_toArray, List.set_cons_zero, List.set_cons_succ]
  refine wpAnyH_take (i := 12) (oi := ⟨some 24, Op.move (Operand.tmp 23), 4, _, #[{ on := 11, ground := Ground.data }, { on := 9, ground := Ground.chain }], none⟩) (v := ?_) rfl (by kernel_rfl) (by kernel_rfl) (by kernel_rfl) (fun _ _ _ h => h) (Or.inl ⟨by rfl, ?_⟩) hHeld ?_
  rotate_left
  · (intro w1 hSw; (try dsimp only at hSw); go_simp; try (with_reducible rfl))
  try simp only [Act.put, List.setIfInBounds_toArray, List.set_cons_zero, List.set_cons_succ]
  refine wpAnyH_take (i := 13) (oi := ⟨some 25, Op.load 23 (Operand.tmp 7), 23, _, #[{ on := 12, ground := Ground.guard }], some (12, false)⟩) (v := ?_) rfl (by kernel_rfl) (by kernel_rfl) (by kernel_rfl) (fun _ _ _ h => h) (Or.inl ⟨by rfl, ?_⟩) hHeld ?_
  rotate_left
  · (intro w1 hSw; (try dsimp only at hSw); go_simp; try (with_reducible rfl))
  try simp only [Act.put, List.setIfInBounds_toArray, List.set_cons_zero, List.set_cons_succ]
  refine wpAnyH_take (i := 15) (oi := ⟨some 27, Op.load 23 (Operand.tmp 3), 23, _, #[{ on := 12, ground := Ground.guard }], some (12, false)⟩) (v := ?_) rfl (by kernel_rfl) (by kernel_rfl) (by kernel_rfl) (fun _ _ _ h => h) (Or.inl ⟨by rfl, ?_⟩) hHeld ?_
  rotate_left
  · (intro w1 hSw; (try dsimp only at hSw); go_simp; try (with_reducible rfl))
  try simp only [Act.put, List.setIfInBounds_toArray, List.set_cons_zero, List.set_cons_succ]
  refine wpAnyH_take (i := 16) (oi := ⟨some 28, Op.load 23 (Operand.tmp 4), 23, _, #[{ on := 12, ground := Ground.guard }], some (12, false)⟩) (v := ?_) rfl (by kernel_rfl) (by kernel_rfl) (by kernel_rfl) (fun _ _ _ h => h) (Or.inl ⟨by rfl, ?_⟩) hHeld ?_
  rotate_left
  · (intro w1 hSw; (try dsimp only at hSw); go_simp; try (with_reducible rfl))
  try simp only [Act.put, List.setIfInBounds_toArray, List.set_cons_zero, List.set_cons_succ]
  refine wpAnyH_ready (rs := [14]) (by kernel_rfl) (by simp) ?_
  refine AllReadyH.cons (o := ⟨some 26, Op.call { callee := Callee.value (Operand.func 9), args := #[Operand.tmp 25], argTypes := #[23] }, 4, _, #[{ on := 13, ground := Ground.data }, { on := 12, ground := Ground.chain }, { on := 12, ground := Ground.guard }], some (12, false)⟩) rfl (fun K hK => ?_) AllReadyH.nil
  go_simp
  refine (empty_r q _).mono ?_
  rintro e w1 ⟨rfl, hb1⟩
  refine hK.out _ _ (Held3.next hHeld hb1) (fun hH => ?_)
  clear hHeld hK K hb1
  have hHeld := hH
  clear hH
  try simp only [Act.put, List.setIfInBounds_toArray, List.set_cons_zero, List.set_cons_succ]
  refine wpAnyH_ready (rs := [17]) (by kernel_rfl) (by simp) ?_
  refine AllReadyH.cons (o := ⟨some 29, Op.call { callee := Callee.value (Operand.func 20), args := #[Operand.tmp 27, Operand.tmp 28], argTypes := #[23, 23] }, 4, _, #[{ on := 15, ground := Ground.data }, { on := 16, ground := Ground.data }, { on := 14, ground := Ground.chain }, { on := 12, ground := Ground.guard }], some (12, false)⟩) rfl (fun K hK => ?_) AllReadyH.nil
  go_simp
  refine (meets_any a b _).mono ?_
  rw [Hq.out]
  rintro e w1 ⟨rfl, hb1⟩
  refine hK.out _ _ (Held3.next hHeld hb1) (fun hH => ?_)
  clear hHeld hK K hb1
  have hHeld := hH
  clear hH
  try simp only [Act.put, List.setIfInBounds_toArray, List.set_cons_zero, List.set_cons_succ]
  refine wpAnyH_take (i := 18) (oi := ⟨some 30, Op.binOp BinOp.eql 4 (Operand.tmp 26) (Operand.tmp 29) 4, 4, _, #[{ on := 14, ground := Ground.data }, { on := 17, ground := Ground.data }, { on := 12, ground := Ground.guard }], some (12, false)⟩) (v := ?_) rfl (by kernel_rfl) (by kernel_rfl) (by kernel_rfl) (fun _ _ _ h => h) (Or.inl ⟨by rfl, ?_⟩) hHeld ?_
  rotate_left
  · (intro w1 hSw; (try dsimp only at hSw); go_simp; try (with_reducible rfl))
  try simp only [Act.put, List.setIfInBounds_toArray, List.set_cons_zero, List.set_cons_succ]
  refine wpAnyH_take (i := 19) (oi := ⟨some 31, Op.pick (Operand.tmp 24) (Operand.const (Value.bool true)) (Operand.tmp 30), 4, _, #[{ on := 12, ground := Ground.data }, { on := 18, ground := Ground.data }], none⟩) (v := ?_) rfl (by kernel_rfl) (by kernel_rfl) (by kernel_rfl) (fun _ _ _ h => h) (Or.inl ⟨by rfl, ?_⟩) hHeld ?_
  rotate_left
  · (intro w1 hSw; (try dsimp only at hSw); go_simp; try (with_reducible rfl))
  try simp only [Act.put, List.setIfInBounds_toArray, List.set_cons_zero, List.set_cons_succ]
  refine wpAnyH_done (by kernel_rfl) ?_ _
  have h1 := hHeld.2.2.2.2.2.2
  clear hHeld
  go_wp2_with fail
  refine wp_region_held_drew (S := (fun w' => w'.cell? ⟨w.heap.size, 0, none⟩ = some (.int .i64 a.1) ∧ w'.cell? ⟨w.heap.size, 1, none⟩ = some (.int .i64 a.2) ∧ w'.cell? ⟨w.heap.size + 1, 0, none⟩ = some (.int .i64 b.1) ∧ w'.cell? ⟨w.heap.size + 1, 1, none⟩ = some (.int .i64 b.2) ∧ w'.cell? ⟨gc, 0, none⟩ = some (.int .i64 q.1) ∧ w'.cell? ⟨gc, 1, none⟩ = some (.int .i64 q.2) ∧ Held3 w w' (w.heap.size) (w.heap.size + 1) (gc) 23 (.int .i64 a.1) (.int .i64 a.2) (.int .i64 b.1) (.int .i64 b.2) (.int .i64 q.1) (.int .i64 q.2))) (by kernel_rfl) ((by first | exact (Held3.drew h0).conds | exact (Held3.drew h1).conds)) (fun hHeld => ?_)
  refine wpAnyH_take (i := 0) (oi := ⟨some 32, Op.load 23 (Operand.tmp 7), 23, _, #[], none⟩) (v := ?_) rfl (by kernel_rfl) (by kernel_rfl) (by kernel_rfl) (fun _ _ _ h => h) (Or.inl ⟨by rfl, ?_⟩) hHeld ?_
  rotate_left
  · (intro w1 hSw; (try dsimp only at hSw); go_simp; try (with_reducible rfl))
  try simp only [Act.put, List.setIfInBounds_toArray, List.set_cons_zero, List.set_cons_succ]
  refine wpAnyH_take (i := 1) (oi := ⟨some 33, Op.load 23 (Operand.tmp 3), 23, _, #[], none⟩) (v := ?_) rfl (by kernel_rfl) (by kernel_rfl) (by kernel_rfl) (fun _ _ _ h => h) (Or.inl ⟨by rfl, ?_⟩) hHeld ?_
  rotate_left
  · (intro w1 hSw; (try dsimp only at hSw); go_simp; try (with_reducible rfl))
  try simp only [Act.put, List.setIfInBounds_toArray, List.set_cons_zero, List.set_cons_succ]
  refine wpAnyH_ready (rs := [2]) (by kernel_rfl) (by simp) ?_
  refine AllReadyH.cons (o := ⟨some 34, Op.call { callee := Callee.value (Operand.func 22), args := #[Operand.tmp 32, Operand.tmp 33], argTypes := #[23, 23] }, 4, _, #[{ on := 0, ground := Ground.data }, { on := 1, ground := Ground.data }], none⟩) rfl (fun K hK => ?_) AllReadyH.nil
  go_simp
  refine (within_r q a _).mono ?_
  rintro e w1 ⟨rfl, hb1⟩
  refine hK.out _ _ (Held3.next hHeld hb1) (fun hH => ?_)
  clear hHeld hK K hb1
  have hHeld := hH
  clear hH
  try simp only [Act.put, List.setIfInBounds_toArray, List.set_cons_zero, List.set_cons_succ]
  refine wpAnyH_take (i := 3) (oi := ⟨some 35, Op.move (Operand.tmp 34), 4, _, #[{ on := 2, ground := Ground.data }, { on := 2, ground := Ground.chain }], none⟩) (v := ?_) rfl (by kernel_rfl) (by kernel_rfl) (by kernel_rfl) (fun _ _ _ h => h) (Or.inl ⟨by rfl, ?_⟩) hHeld ?_
  rotate_left
  · (intro w1 hSw; (try dsimp only at hSw); go_simp; try (with_reducible rfl))
  try simp only [Act.put, List.setIfInBounds_toArray, List.set_cons_zero, List.set_cons_succ]
  refine wpAnyH_take (i := 4) (oi := ⟨some 36, Op.load 23 (Operand.tmp 7), 23, _, #[{ on := 3, ground := Ground.guard }], some (3, true)⟩) (v := ?_) rfl (by kernel_rfl) (by kernel_rfl) (by kernel_rfl) (fun _ _ _ h => h) (Or.inl ⟨by rfl, ?_⟩) hHeld ?_
  rotate_left
  · (intro w1 hSw; (try dsimp only at hSw); go_simp; try (with_reducible rfl))
  try simp only [Act.put, List.setIfInBounds_toArray, List.set_cons_zero, List.set_cons_succ]
  refine wpAnyH_take (i := 5) (oi := ⟨some 37, Op.load 23 (Operand.tmp 4), 23, _, #[{ on := 3, ground := Ground.guard }], some (3, true)⟩) (v := ?_) rfl (by kernel_rfl) (by kernel_rfl) (by kernel_rfl) (fun _ _ _ h => h) (Or.inl ⟨by rfl, ?_⟩) hHeld ?_
  rotate_left
  · (intro w1 hSw; (try dsimp only at hSw); go_simp; try (with_reducible rfl))
  try simp only [Act.put, List.setIfInBounds_toArray, List.set_cons_zero, List.set_cons_succ]
  refine wpAnyH_ready (rs := [6]) (by kernel_rfl) (by simp) ?_
  refine AllReadyH.cons (o := ⟨some 38, Op.call { callee := Callee.value (Operand.func 22), args := #[Operand.tmp 36, Operand.tmp 37], argTypes := #[23, 23] }, 4, _, #[{ on := 4, ground := Ground.data }, { on := 5, ground := Ground.data }, { on := 3, ground := Ground.chain }, { on := 3, ground := Ground.guard }], some (3, true)⟩) rfl (fun K hK => ?_) AllReadyH.nil
  go_simp
  refine (within_r q b _).mono ?_
  rintro e w1 ⟨rfl, hb1⟩
  refine hK.out _ _ (Held3.next hHeld hb1) (fun hH => ?_)
  clear hHeld hK K hb1
  have hHeld := hH
  clear hH
  try simp only [Act.put, List.setIfInBounds_toArray, List.set_cons_zero, List.set_cons_succ]
  refine wpAnyH_take (i := 7) (oi := ⟨some 39, Op.pick (Operand.tmp 35) (Operand.tmp 38) (Operand.const (Value.bool false)), 4, _, #[{ on := 3, ground := Ground.data }, { on := 6, ground := Ground.data }], none⟩) (v := ?_) rfl (by kernel_rfl) (by kernel_rfl) (by kernel_rfl) (fun _ _ _ h => h) (Or.inl ⟨by rfl, ?_⟩) hHeld ?_
  rotate_left
  · (intro w1 hSw; (try dsimp only at hSw); go_simp; try (with_reducible rfl))
  try simp only [Act.put, List.setIfInBounds_toArray, List.set_cons_zero, List.set_cons_succ]
  refine wpAnyH_take (i := 8) (oi := ⟨some 40, Op.move (Operand.tmp 39), 4, _, #[{ on := 7, ground := Ground.data }, { on := 6, ground := Ground.chain }], none⟩) (v := ?_) rfl (by kernel_rfl) (by kernel_rfl) (by kernel_rfl) (fun _ _ _ h => h) (Or.inl ⟨by rfl, ?_⟩) hHeld ?_
  rotate_left
  · (intro w1 hSw; (try dsimp only at hSw); go_simp; try (with_reducible rfl))
  try simp only [Act.put, List.setIfInBounds_toArray, List.set_cons_zero, List.set_cons_succ]
  refine wpAnyH_take (i := 9) (oi := ⟨some 41, Op.load 23 (Operand.tmp 7), 23, _, #[{ on := 8, ground := Ground.guard }], some (8, true)⟩) (v := ?_) rfl (by kernel_rfl) (by kernel_rfl) (by kernel_rfl) (fun _ _ _ h => h) (Or.inl ⟨by rfl, ?_⟩) hHeld ?_
  rotate_left
  · (intro w1 hSw; (try dsimp only at hSw); go_simp; try (with_reducible rfl))
  try simp only [Act.put, List.setIfInBounds_toArray, List.set_cons_zero, List.set_cons_succ]
  refine wpAnyH_take (i := 11) (oi := ⟨some 43, Op.load 23 (Operand.tmp 3), 23, _, #[{ on := 8, ground := Ground.guard }], some (8, true)⟩) (v := ?_) rfl (by kernel_rfl) (by kernel_rfl) (by kernel_rfl) (fun _ _ _ h => h) (Or.inl ⟨by rfl, ?_⟩) hHeld ?_
  rotate_left
  · (intro w1 hSw; (try dsimp only at hSw); go_simp; try (with_reducible rfl))
  try simp only [Act.put, List.setIfInBounds_toArray, List.set_cons_zero, List.set_cons_succ]
  refine wpAnyH_ready (rs := [10]) (by kernel_rfl) (by simp) ?_
  refine AllReadyH.cons (o := ⟨some 42, Op.call { callee := Callee.value (Operand.func 11), args := #[Operand.tmp 41], argTypes := #[23] }, 3, _, #[{ on := 9, ground := Ground.data }, { on := 8, ground := Ground.chain }, { on := 8, ground := Ground.guard }], some (8, true)⟩) rfl (fun K hK => ?_) AllReadyH.nil
  go_simp
  refine (size_r q Hq64.out _).mono ?_
  rintro e w1 ⟨rfl, hb1⟩
  refine hK.out _ _ (Held3.next hHeld hb1) (fun hH => ?_)
  clear hHeld hK K hb1
  have hHeld := hH
  clear hH
  try simp only [Act.put, List.setIfInBounds_toArray, List.set_cons_zero, List.set_cons_succ]
  refine wpAnyH_ready (rs := [12]) (by kernel_rfl) (by simp) ?_
  refine AllReadyH.cons (o := ⟨some 44, Op.call { callee := Callee.value (Operand.func 11), args := #[Operand.tmp 43], argTypes := #[23] }, 3, _, #[{ on := 11, ground := Ground.data }, { on := 10, ground := Ground.chain }, { on := 8, ground := Ground.guard }], some (8, true)⟩) rfl (fun K hK => ?_) AllReadyH.nil
  go_simp
  refine (size_r a Ha.out _).mono ?_
  rintro e w1 ⟨rfl, hb1⟩
  refine hK.out _ _ (Held3.next hHeld hb1) (fun hH => ?_)
  clear hHeld hK K hb1
  have hHeld := hH
  clear hH
  try simp only [Act.put, List.setIfInBounds_toArray, List.set_cons_zero, List.set_cons_succ]
  refine wpAnyH_take (i := 13) (oi := ⟨some 45, Op.binOp BinOp.leq 3 (Operand.tmp 42) (Operand.tmp 44) 3, 4, _, #[{ on := 10, ground := Ground.data }, { on := 12, ground := Ground.data }, { on := 8, ground := Ground.guard }], some (8, true)⟩) (v := ?_) rfl (by kernel_rfl) (by kernel_rfl) (by kernel_rfl) (fun _ _ _ h => h) (Or.inl ⟨by rfl, ?_⟩) hHeld ?_
  rotate_left
  · (intro w1 hSw; (try dsimp only at hSw); go_simp; try (with_reducible rfl))
  try simp only [Act.put, List.setIfInBounds_toArray, List.set_cons_zero, List.set_cons_succ]
  refine wpAnyH_take (i := 14) (oi := ⟨some 46, Op.pick (Operand.tmp 40) (Operand.tmp 45) (Operand.const (Value.bool false)), 4, _, #[{ on := 8, ground := Ground.data }, { on := 13, ground := Ground.data }], none⟩) (v := ?_) rfl (by kernel_rfl) (by kernel_rfl) (by kernel_rfl) (fun _ _ _ h => h) (Or.inl ⟨by rfl, ?_⟩) hHeld ?_
  rotate_left
  · (intro w1 hSw; (try dsimp only at hSw); go_simp; try (with_reducible rfl))
  try simp only [Act.put, List.setIfInBounds_toArray, List.set_cons_zero, List.set_cons_succ]
  refine wpAnyH_take (i := 15) (oi := ⟨some 47, Op.move (Operand.tmp 46), 4, _, #[{ on := 14, ground := Ground.data }, { on := 12, ground := Ground.chain }], none⟩) (v := ?_) rfl (by kernel_rfl) (by kernel_rfl) (by kernel_rfl) (fun _ _ _ h => h) (Or.inl ⟨by rfl, ?_⟩) hHeld ?_
  rotate_left
  · (intro w1 hSw; (try dsimp only at hSw); go_simp; try (with_reducible rfl))
  try simp only [Act.put, List.setIfInBounds_toArray, List.set_cons_zero, List.set_cons_succ]
  refine wpAnyH_take (i := 16) (oi := ⟨some 48, Op.load 23 (Operand.tmp 4), 23, _, #[{ on := 15, ground := Ground.guard }], some (15, true)⟩) (v := ?_) rfl (by kernel_rfl) (by kernel_rfl) (by kernel_rfl) (fun _ _ _ h => h) (Or.inl ⟨by rfl, ?_⟩) hHeld ?_
  rotate_left
  · (intro w1 hSw; (try dsimp only at hSw); go_simp; try (with_reducible rfl))
  try simp only [Act.put, List.setIfInBounds_toArray, List.set_cons_zero, List.set_cons_succ]
  refine wpAnyH_take (i := 17) (oi := ⟨some 49, Op.load 23 (Operand.tmp 3), 23, _, #[{ on := 15, ground := Ground.guard }], some (15, true)⟩) (v := ?_) rfl (by kernel_rfl) (by kernel_rfl) (by kernel_rfl) (fun _ _ _ h => h) (Or.inl ⟨by rfl, ?_⟩) hHeld ?_
  rotate_left
  · (intro w1 hSw; (try dsimp only at hSw); go_simp; try (with_reducible rfl))
  try simp only [Act.put, List.setIfInBounds_toArray, List.set_cons_zero, List.set_cons_succ]
  refine wpAnyH_take (i := 20) (oi := ⟨some 52, Op.load 23 (Operand.tmp 7), 23, _, #[{ on := 15, ground := Ground.guard }], some (15, true)⟩) (v := ?_) rfl (by kernel_rfl) (by kernel_rfl) (by kernel_rfl) (fun _ _ _ h => h) (Or.inl ⟨by rfl, ?_⟩) hHeld ?_
  rotate_left
  · (intro w1 hSw; (try dsimp only at hSw); go_simp; try (with_reducible rfl))
  try simp only [Act.put, List.setIfInBounds_toArray, List.set_cons_zero, List.set_cons_succ]
  refine wpAnyH_ready (rs := [18]) (by kernel_rfl) (by simp) ?_
  refine AllReadyH.cons (o := ⟨some 50, Op.buildSlice 29 2 #[(0, Operand.tmp 48), (1, Operand.tmp 49)], 29, _, #[{ on := 16, ground := Ground.data }, { on := 17, ground := Ground.data }, { on := 15, ground := Ground.guard }], some (15, true)⟩) rfl (fun K hK => ?_) AllReadyH.nil
  go_simp
  refine hK.out _ _ (Held3.grow hHeld) (fun hH => ?_)
  clear hHeld hK K
  have hHeld := hH
  clear hH
  try simp only [Act.put, List.setIfInBounds_toArray, List.set_cons_zero, List.set_cons_succ]
  refine wpAnyH_ready (rs := [19]) (by kernel_rfl) (by simp) ?_
  refine AllReadyH.cons (o := ⟨some 51, Op.call { callee := Callee.value (Operand.func 16), args := #[Operand.tmp 50], argTypes := #[29] }, 23, _, #[{ on := 18, ground := Ground.data }, { on := 15, ground := Ground.chain }, { on := 15, ground := Ground.guard }], some (15, true)⟩) rfl (fun K hK => ?_) AllReadyH.nil
  go_simp
  refine (both_any _ _ _ [b, a] _ rfl (Nat.le_refl 2) (by decide) (reads_two _ _ rfl _ b a)).mono ?_
  rw [Hs.out]
  rintro e w1 ⟨rfl, hb1⟩
  refine hK.out _ _ (Held3.next hHeld hb1) (fun hH => ?_)
  clear hHeld hK K hb1
  have hHeld := hH
  clear hH
  try simp only [Act.put, List.setIfInBounds_toArray, List.set_cons_zero, List.set_cons_succ]
  refine wpAnyH_take (i := 21) (oi := ⟨some 53, Op.binOp BinOp.eql 23 (Operand.tmp 51) (Operand.tmp 52) 23, 4, _, #[{ on := 19, ground := Ground.data }, { on := 20, ground := Ground.data }, { on := 15, ground := Ground.guard }], some (15, true)⟩) (v := ?_) rfl (by kernel_rfl) (by kernel_rfl) (by kernel_rfl) (fun _ _ _ h => h) (Or.inl ⟨by rfl, ?_⟩) hHeld ?_
  rotate_left
  · (intro w1 hSw; (try dsimp only at hSw); go_simp; try (with_reducible rfl))
  try simp only [Act.put, List.setIfInBounds_toArray, List.set_cons_zero, List.set_cons_succ]
  refine wpAnyH_take (i := 22) (oi := ⟨some 54, Op.pick (Operand.tmp 47) (Operand.tmp 53) (Operand.const (Value.bool false)), 4, _, #[{ on := 15, ground := Ground.data }, { on := 21, ground := Ground.data }], none⟩) (v := ?_) rfl (by kernel_rfl) (by kernel_rfl) (by kernel_rfl) (fun _ _ _ h => h) (Or.inl ⟨by rfl, ?_⟩) hHeld ?_
  rotate_left
  · (intro w1 hSw; (try dsimp only at hSw); go_simp; try (with_reducible rfl))
  try simp only [Act.put, List.setIfInBounds_toArray, List.set_cons_zero, List.set_cons_succ]
  refine wpAnyH_take (i := 23) (oi := ⟨some 55, Op.move (Operand.tmp 54), 4, _, #[{ on := 22, ground := Ground.data }, { on := 19, ground := Ground.chain }], none⟩) (v := ?_) rfl (by kernel_rfl) (by kernel_rfl) (by kernel_rfl) (fun _ _ _ h => h) (Or.inl ⟨by rfl, ?_⟩) hHeld ?_
  rotate_left
  · (intro w1 hSw; (try dsimp only at hSw); go_simp; try (with_reducible rfl))
  try simp only [Act.put, List.setIfInBounds_toArray, List.set_cons_zero, List.set_cons_succ]
  refine wpAnyH_ready (rs := [24]) (by kernel_rfl) (by simp) ?_
  refine AllReadyH.cons (o := ⟨some 56, Op.call { callee := Callee.value (Operand.func 15), args := #[], argTypes := #[] }, 4, _, #[{ on := 23, ground := Ground.chain }, { on := 23, ground := Ground.guard }], some (23, true)⟩) rfl (fun K hK => ?_) AllReadyH.nil
  go_simp
  refine (awake_any _).mono ?_
  rintro e w1 ⟨rfl, hb1⟩
  refine hK.out _ _ (Held3.next hHeld hb1) (fun hH => ?_)
  clear hHeld hK K hb1
  have hHeld := hH
  clear hH
  try simp only [Act.put, List.setIfInBounds_toArray, List.set_cons_zero, List.set_cons_succ]
  refine wpAnyH_take (i := 25) (oi := ⟨some 57, Op.pick (Operand.tmp 55) (Operand.tmp 56) (Operand.const (Value.bool false)), 4, _, #[{ on := 23, ground := Ground.data }, { on := 24, ground := Ground.data }], none⟩) (v := ?_) rfl (by kernel_rfl) (by kernel_rfl) (by kernel_rfl) (fun _ _ _ h => h) (Or.inl ⟨by rfl, ?_⟩) hHeld ?_
  rotate_left
  · (intro w1 hSw; (try dsimp only at hSw); go_simp; try (with_reducible rfl))
  try simp only [Act.put, List.setIfInBounds_toArray, List.set_cons_zero, List.set_cons_succ]
  refine wpAnyH_take (i := 26) (oi := ⟨some 6, Op.assign (Operand.tmp 57), 4, _, #[{ on := 25, ground := Ground.data }, { on := 24, ground := Ground.chain }, { on := 0, ground := Ground.phase }, { on := 1, ground := Ground.phase }, { on := 2, ground := Ground.phase }, { on := 3, ground := Ground.phase }, { on := 4, ground := Ground.phase }, { on := 5, ground := Ground.phase }, { on := 6, ground := Ground.phase }, { on := 7, ground := Ground.phase }, { on := 8, ground := Ground.phase }, { on := 9, ground := Ground.phase }, { on := 10, ground := Ground.phase }, { on := 11, ground := Ground.phase }, { on := 12, ground := Ground.phase }, { on := 13, ground := Ground.phase }, { on := 14, ground := Ground.phase }, { on := 15, ground := Ground.phase }, { on := 16, ground := Ground.phase }, { on := 17, ground := Ground.phase }, { on := 18, ground := Ground.phase }, { on := 19, ground := Ground.phase }, { on := 20, ground := Ground.phase }, { on := 21, ground := Ground.phase }, { on := 22, ground := Ground.phase }, { on := 23, ground := Ground.phase }, { on := 24, ground := Ground.phase }, { on := 25, ground := Ground.phase }], none⟩) (v := ?_) rfl (by kernel_rfl) (by kernel_rfl) (by kernel_rfl) (fun _ _ _ h => h) (Or.inl ⟨by rfl, ?_⟩) hHeld ?_
  rotate_left
  · (intro w1 hSw; (try dsimp only at hSw); go_simp; try (with_reducible rfl))
  try simp only [Act.put, List.setIfInBounds_toArray, List.set_cons_zero, List.set_cons_succ]
  refine wpAnyH_done (by kernel_rfl) ?_ _
  go_wp2
  go_ret
  exact ⟨rfl, Held3.last hHeld⟩

set_option maxHeartbeats 4000000 in
theorem both_walk_tt_true (a b q : Int × Int) (n : Int) (w : World) (ha : In64 a) (hq64 : In64 q) (hq : bothF [a, b] = q) (hs : bothF [b, a] = q) (hwl : withinF q a = true) (hwr : withinF q b = true) (hsz : sizeF q ≤ sizeF a) (hA : hasF a n = true) (hB : hasF b n = true) (hC : hasF q n = true) (hE : emptyF q = true) :
    Calls Try.prog 5 #[.agg #[.int .i64 a.1, .int .i64 a.2], .agg #[.int .i64 b.1, .int .i64 b.2], .int .i64 n] w fun e w' => e = .returned (.bool true) ∧ Below w.heap.size w w' := by
  have Hq := Lib.hid hq
  have Hs := Lib.hid hs
  have Ha := Lib.hid ha
  have Hq64 := Lib.hid hq64
  clear hq hs ha hq64
  go_enter Try.func5, Try.ntmps5
  go_wp2_with fail
  refine (both_any _ _ _ [a, b] _ rfl ?_ ?_ (reads_two _ _ ?_ _ a b)).mono ?_
  · exact Nat.le_refl 2
  · decide
  · simp
  rw [Hq.out]
  rintro e w1 ⟨rfl, hb⟩
  have h1 : Held w w1 w.heap.size (w.heap.size + 1) 23 (.int .i64 a.1) (.int .i64 a.2) (.int .i64 b.1) (.int .i64 b.2) :=
    Held.step_alloc (wi := (w.alloc (.cells #[.int .i64 a.1, .int .i64 a.2] 23)).alloc (.cells #[.int .i64 b.1, .int .i64 b.2] 23))
      ⟨by omega, by omega, by go_grown, (Blk.new _ _ _).alloc _, by simpa using Blk.new (w.alloc _) _ _⟩ hb
  clear hb
  have h0 : Held3 w (w1.alloc (.cells #[.int .i64 q.1, .int .i64 q.2] 23)) w.heap.size (w.heap.size + 1) w1.heap.size 23 (.int .i64 a.1) (.int .i64 a.2) (.int .i64 b.1) (.int .i64 b.2) (.int .i64 q.1) (.int .i64 q.2) :=
    ⟨h1.alloc _, h1.2.2.1.size, Blk.new _ _ _⟩
  generalize hgc : w1.heap.size = gc at h0
  go_wp2_with fail
  clear hgc h1
  refine wp_region_held_drew (S := (fun w' => w'.cell? ⟨w.heap.size, 0, none⟩ = some (.int .i64 a.1) ∧ w'.cell? ⟨w.heap.size, 1, none⟩ = some (.int .i64 a.2) ∧ w'.cell? ⟨w.heap.size + 1, 0, none⟩ = some (.int .i64 b.1) ∧ w'.cell? ⟨w.heap.size + 1, 1, none⟩ = some (.int .i64 b.2) ∧ w'.cell? ⟨gc, 0, none⟩ = some (.int .i64 q.1) ∧ w'.cell? ⟨gc, 1, none⟩ = some (.int .i64 q.2) ∧ Held3 w w' (w.heap.size) (w.heap.size + 1) (gc) 23 (.int .i64 a.1) (.int .i64 a.2) (.int .i64 b.1) (.int .i64 b.2) (.int .i64 q.1) (.int .i64 q.2))) (by kernel_rfl) ((by first | exact (Held3.drew h0).conds | exact (Held3.drew h1).conds)) (fun hHeld => ?_)
  refine wpAnyH_take (i := 0) (oi := ⟨some 12, Op.load 23 (Operand.tmp 7), 23, _, #[], none⟩) (v := ?_) rfl (by kernel_rfl) (by kernel_rfl) (by kernel_rfl) (fun _ _ _ h => h) (Or.inl ⟨by rfl, ?_⟩) hHeld ?_
  rotate_left
  · (intro w1 hSw; (try dsimp only at hSw); go_simp; try (with_reducible rfl))
  try simp only [Act.put, List.setIfInBounds_toArray, List.set_cons_zero, List.set_cons_succ]
  refine wpAnyH_take (i := 1) (oi := ⟨some 13, Op.move (Operand.tmp 2), 3, _, #[], none⟩) (v := ?_) rfl (by kernel_rfl) (by kernel_rfl) (by kernel_rfl) (fun _ _ _ h => h) (Or.inl ⟨by rfl, ?_⟩) hHeld ?_
  rotate_left
  · (intro w1 hSw; (try dsimp only at hSw); go_simp; try (with_reducible rfl))
  try simp only [Act.put, List.setIfInBounds_toArray, List.set_cons_zero, List.set_cons_succ]
  refine wpAnyH_take (i := 3) (oi := ⟨some 15, Op.load 23 (Operand.tmp 3), 23, _, #[], none⟩) (v := ?_) rfl (by kernel_rfl) (by kernel_rfl) (by kernel_rfl) (fun _ _ _ h => h) (Or.inl ⟨by rfl, ?_⟩) hHeld ?_
  rotate_left
  · (intro w1 hSw; (try dsimp only at hSw); go_simp; try (with_reducible rfl))
  try simp only [Act.put, List.setIfInBounds_toArray, List.set_cons_zero, List.set_cons_succ]
  refine wpAnyH_take (i := 4) (oi := ⟨some 16, Op.move (Operand.tmp 2), 3, _, #[], none⟩) (v := ?_) rfl (by kernel_rfl) (by kernel_rfl) (by kernel_rfl) (fun _ _ _ h => h) (Or.inl ⟨by rfl, ?_⟩) hHeld ?_
  rotate_left
  · (intro w1 hSw; (try dsimp only at hSw); go_simp; try (with_reducible rfl))
  try simp only [Act.put, List.setIfInBounds_toArray, List.set_cons_zero, List.set_cons_succ]
  refine wpAnyH_ready (rs := [2]) (by kernel_rfl) (by simp) ?_
  refine AllReadyH.cons (o := ⟨some 14, Op.call { callee := Callee.value (Operand.func 7), args := #[Operand.tmp 12, Operand.tmp 13], argTypes := #[23, 3] }, 4, _, #[{ on := 0, ground := Ground.data }, { on := 1, ground := Ground.data }], none⟩) rfl (fun K hK => ?_) AllReadyH.nil
  go_simp
  refine (has_r q n _).mono ?_
  rintro e w1 ⟨rfl, hb1⟩
  refine hK.out _ _ (Held3.next hHeld hb1) (fun hH => ?_)
  clear hHeld hK K hb1
  have hHeld := hH
  clear hH
  try simp only [Act.put, List.setIfInBounds_toArray, List.set_cons_zero, List.set_cons_succ]
  refine wpAnyH_ready (rs := [5]) (by kernel_rfl) (by simp) ?_
  refine AllReadyH.cons (o := ⟨some 17, Op.call { callee := Callee.value (Operand.func 7), args := #[Operand.tmp 15, Operand.tmp 16], argTypes := #[23, 3] }, 4, _, #[{ on := 3, ground := Ground.data }, { on := 4, ground := Ground.data }, { on := 2, ground := Ground.chain }], none⟩) rfl (fun K hK => ?_) AllReadyH.nil
  go_simp
  refine (has_r a n _).mono ?_
  rintro e w1 ⟨rfl, hb1⟩
  refine hK.out _ _ (Held3.next hHeld hb1) (fun hH => ?_)
  clear hHeld hK K hb1
  have hHeld := hH
  clear hH
  try simp only [Act.put, List.setIfInBounds_toArray, List.set_cons_zero, List.set_cons_succ]
  refine wpAnyH_take (i := 6) (oi := ⟨some 18, Op.move (Operand.tmp 17), 4, _, #[{ on := 5, ground := Ground.data }, { on := 5, ground := Ground.chain }], none⟩) (v := ?_) rfl (by kernel_rfl) (by kernel_rfl) (by kernel_rfl) (fun _ _ _ h => h) (Or.inl ⟨by rfl, ?_⟩) hHeld ?_
  rotate_left
  · (intro w1 hSw; (try dsimp only at hSw); go_simp; try (with_reducible rfl))
  try simp only [Act.put, List.setIfInBounds_toArray, List.set_cons_zero, List.set_cons_succ]
  refine wpAnyH_take (i := 7) (oi := ⟨some 19, Op.load 23 (Operand.tmp 4), 23, _, #[{ on := 6, ground := Ground.guard }], some (6, true)⟩) (v := ?_) rfl (by kernel_rfl) (by kernel_rfl) (by kernel_rfl) (fun _ _ _ h => h) (Or.inl ⟨by rfl, ?_⟩) hHeld ?_
  rotate_left
  · (intro w1 hSw; (try dsimp only at hSw); go_simp; try (with_reducible rfl))
  try simp only [Act.put, List.setIfInBounds_toArray, List.set_cons_zero, List.set_cons_succ]
  refine wpAnyH_take (i := 8) (oi := ⟨some 20, Op.move (Operand.tmp 2), 3, _, #[{ on := 6, ground := Ground.guard }], some (6, true)⟩) (v := ?_) rfl (by kernel_rfl) (by kernel_rfl) (by kernel_rfl) (fun _ _ _ h => h) (Or.inl ⟨by rfl, ?_⟩) hHeld ?_
  rotate_left
  · (intro w1 hSw; (try dsimp only at hSw); go_simp; try (with_reducible rfl))
  try simp only [Act.put, List.setIfInBounds_toArray, List.set_cons_zero, List.set_cons_succ]
  refine wpAnyH_ready (rs := [9]) (by kernel_rfl) (by simp) ?_
  refine AllReadyH.cons (o := ⟨some 21, Op.call { callee := Callee.value (Operand.func 7), args := #[Operand.tmp 19, Operand.tmp 20], argTypes := #[23, 3] }, 4, _, #[{ on := 7, ground := Ground.data }, { on := 8, ground := Ground.data }, { on := 6, ground := Ground.chain }, { on := 6, ground := Ground.guard }], some (6, true)⟩) rfl (fun K hK => ?_) AllReadyH.nil
  go_simp
  refine (has_r b n _).mono ?_
  rintro e w1 ⟨rfl, hb1⟩
  refine hK.out _ _ (Held3.next hHeld hb1) (fun hH => ?_)
  clear hHeld hK K hb1
  have hHeld := hH
  clear hH
  try simp only [Act.put, List.setIfInBounds_toArray, List.set_cons_zero, List.set_cons_succ]
  refine wpAnyH_take (i := 10) (oi := ⟨some 22, Op.pick (Operand.tmp 18) (Operand.tmp 21) (Operand.const (Value.bool false)), 4, _, #[{ on := 6, ground := Ground.data }, { on := 9, ground := Ground.data }], none⟩) (v := ?_) rfl (by kernel_rfl) (by kernel_rfl) (by kernel_rfl) (fun _ _ _ h => h) (Or.inl ⟨by rfl, ?_⟩) hHeld ?_
  rotate_left
  · (intro w1 hSw; (try dsimp only at hSw); go_simp; try (with_reducible rfl))
  try simp only [Act.put, List.setIfInBounds_toArray, List.set_cons_zero, List.set_cons_succ]
  refine wpAnyH_take (i := 11) (oi := ⟨some 23, Op.binOp BinOp.neq 4 (Operand.tmp 14) (Operand.tmp 22) 4, 4, _, #[{ on := 2, ground := Ground.data }, { on := 10, ground := Ground.data }], none⟩) (v := ?_) rfl (by kernel_rfl) (by kernel_rfl) (by kernel_rfl) (fun _ _ _ h => h) (Or.inl ⟨by rfl, ?_⟩) hHeld ?_
  rotate_left
  · (intro w1 hSw; (try dsimp only at hSw); go_simp; try (with_reducible rfl))
  try simp only [Act.put, List.setIfInBounds_toArray, List.set_cons_zero, List.set_cons_succ]
  refine wpAnyH_take (i := 12) (oi := ⟨some 24, Op.move (Operand.tmp 23), 4, _, #[{ on := 11, ground := Ground.data }, { on := 9, ground := Ground.chain }], none⟩) (v := ?_) rfl (by kernel_rfl) (by kernel_rfl) (by kernel_rfl) (fun _ _ _ h => h) (Or.inl ⟨by rfl, ?_⟩) hHeld ?_
  rotate_left
  · (intro w1 hSw; (try dsimp only at hSw); go_simp; try (with_reducible rfl))
  try simp only [Act.put, List.setIfInBounds_toArray, List.set_cons_zero, List.set_cons_succ]
  refine wpAnyH_take (i := 13) (oi := ⟨some 25, Op.load 23 (Operand.tmp 7), 23, _, #[{ on := 12, ground := Ground.guard }], some (12, false)⟩) (v := ?_) rfl (by kernel_rfl) (by kernel_rfl) (by kernel_rfl) (fun _ _ _ h => h) (Or.inl ⟨by rfl, ?_⟩) hHeld ?_
  rotate_left
  · (intro w1 hSw; (try dsimp only at hSw); go_simp; try (with_reducible rfl))
  try simp only [Act.put, List.setIfInBounds_toArray, List.set_cons_zero, List.set_cons_succ]
  refine wpAnyH_take (i := 15) (oi := ⟨some 27, Op.load 23 (Operand.tmp 3), 23, _, #[{ on := 12, ground := Ground.guard }], some (12, false)⟩) (v := ?_) rfl (by kernel_rfl) (by kernel_rfl) (by kernel_rfl) (fun _ _ _ h => h) (Or.inl ⟨by rfl, ?_⟩) hHeld ?_
  rotate_left
  · (intro w1 hSw; (try dsimp only at hSw); go_simp; try (with_reducible rfl))
  try simp only [Act.put, List.setIfInBounds_toArray, List.set_cons_zero, List.set_cons_succ]
  refine wpAnyH_take (i := 16) (oi := ⟨some 28, Op.load 23 (Operand.tmp 4), 23, _, #[{ on := 12, ground := Ground.guard }], some (12, false)⟩) (v := ?_) rfl (by kernel_rfl) (by kernel_rfl) (by kernel_rfl) (fun _ _ _ h => h) (Or.inl ⟨by rfl, ?_⟩) hHeld ?_
  rotate_left
  · (intro w1 hSw; (try dsimp only at hSw); go_simp; try (with_reducible rfl))
  try simp only [Act.put, List.setIfInBounds_toArray, List.set_cons_zero, List.set_cons_succ]
  refine wpAnyH_ready (rs := [14]) (by kernel_rfl) (by simp) ?_
  refine AllReadyH.cons (o := ⟨some 26, Op.call { callee := Callee.value (Operand.func 9), args := #[Operand.tmp 25], argTypes := #[23] }, 4, _, #[{ on := 13, ground := Ground.data }, { on := 12, ground := Ground.chain }, { on := 12, ground := Ground.guard }], some (12, false)⟩) rfl (fun K hK => ?_) AllReadyH.nil
  go_simp
  refine (empty_r q _).mono ?_
  rintro e w1 ⟨rfl, hb1⟩
  refine hK.out _ _ (Held3.next hHeld hb1) (fun hH => ?_)
  clear hHeld hK K hb1
  have hHeld := hH
  clear hH
  try simp only [Act.put, List.setIfInBounds_toArray, List.set_cons_zero, List.set_cons_succ]
  refine wpAnyH_ready (rs := [17]) (by kernel_rfl) (by simp) ?_
  refine AllReadyH.cons (o := ⟨some 29, Op.call { callee := Callee.value (Operand.func 20), args := #[Operand.tmp 27, Operand.tmp 28], argTypes := #[23, 23] }, 4, _, #[{ on := 15, ground := Ground.data }, { on := 16, ground := Ground.data }, { on := 14, ground := Ground.chain }, { on := 12, ground := Ground.guard }], some (12, false)⟩) rfl (fun K hK => ?_) AllReadyH.nil
  go_simp
  refine (meets_any a b _).mono ?_
  rw [Hq.out]
  rintro e w1 ⟨rfl, hb1⟩
  refine hK.out _ _ (Held3.next hHeld hb1) (fun hH => ?_)
  clear hHeld hK K hb1
  have hHeld := hH
  clear hH
  try simp only [Act.put, List.setIfInBounds_toArray, List.set_cons_zero, List.set_cons_succ]
  refine wpAnyH_take (i := 18) (oi := ⟨some 30, Op.binOp BinOp.eql 4 (Operand.tmp 26) (Operand.tmp 29) 4, 4, _, #[{ on := 14, ground := Ground.data }, { on := 17, ground := Ground.data }, { on := 12, ground := Ground.guard }], some (12, false)⟩) (v := ?_) rfl (by kernel_rfl) (by kernel_rfl) (by kernel_rfl) (fun _ _ _ h => h) (Or.inl ⟨by rfl, ?_⟩) hHeld ?_
  rotate_left
  · (intro w1 hSw; (try dsimp only at hSw); go_simp; try (with_reducible rfl))
  try simp only [Act.put, List.setIfInBounds_toArray, List.set_cons_zero, List.set_cons_succ]
  refine wpAnyH_take (i := 19) (oi := ⟨some 31, Op.pick (Operand.tmp 24) (Operand.const (Value.bool true)) (Operand.tmp 30), 4, _, #[{ on := 12, ground := Ground.data }, { on := 18, ground := Ground.data }], none⟩) (v := ?_) rfl (by kernel_rfl) (by kernel_rfl) (by kernel_rfl) (fun _ _ _ h => h) (Or.inl ⟨by rfl, ?_⟩) hHeld ?_
  rotate_left
  · (intro w1 hSw; (try dsimp only at hSw); go_simp; try (with_reducible rfl))
  try simp only [Act.put, List.setIfInBounds_toArray, List.set_cons_zero, List.set_cons_succ]
  refine wpAnyH_done (by kernel_rfl) ?_ _
  have h1 := hHeld.2.2.2.2.2.2
  clear hHeld
  go_wp2_with fail
  refine wp_region_held_drew (S := (fun w' => w'.cell? ⟨w.heap.size, 0, none⟩ = some (.int .i64 a.1) ∧ w'.cell? ⟨w.heap.size, 1, none⟩ = some (.int .i64 a.2) ∧ w'.cell? ⟨w.heap.size + 1, 0, none⟩ = some (.int .i64 b.1) ∧ w'.cell? ⟨w.heap.size + 1, 1, none⟩ = some (.int .i64 b.2) ∧ w'.cell? ⟨gc, 0, none⟩ = some (.int .i64 q.1) ∧ w'.cell? ⟨gc, 1, none⟩ = some (.int .i64 q.2) ∧ Held3 w w' (w.heap.size) (w.heap.size + 1) (gc) 23 (.int .i64 a.1) (.int .i64 a.2) (.int .i64 b.1) (.int .i64 b.2) (.int .i64 q.1) (.int .i64 q.2))) (by kernel_rfl) ((by first | exact (Held3.drew h0).conds | exact (Held3.drew h1).conds)) (fun hHeld => ?_)
  refine wpAnyH_take (i := 0) (oi := ⟨some 32, Op.load 23 (Operand.tmp 7), 23, _, #[], none⟩) (v := ?_) rfl (by kernel_rfl) (by kernel_rfl) (by kernel_rfl) (fun _ _ _ h => h) (Or.inl ⟨by rfl, ?_⟩) hHeld ?_
  rotate_left
  · (intro w1 hSw; (try dsimp only at hSw); go_simp; try (with_reducible rfl))
  try simp only [Act.put, List.setIfInBounds_toArray, List.set_cons_zero, List.set_cons_succ]
  refine wpAnyH_take (i := 1) (oi := ⟨some 33, Op.load 23 (Operand.tmp 3), 23, _, #[], none⟩) (v := ?_) rfl (by kernel_rfl) (by kernel_rfl) (by kernel_rfl) (fun _ _ _ h => h) (Or.inl ⟨by rfl, ?_⟩) hHeld ?_
  rotate_left
  · (intro w1 hSw; (try dsimp only at hSw); go_simp; try (with_reducible rfl))
  try simp only [Act.put, List.setIfInBounds_toArray, List.set_cons_zero, List.set_cons_succ]
  refine wpAnyH_ready (rs := [2]) (by kernel_rfl) (by simp) ?_
  refine AllReadyH.cons (o := ⟨some 34, Op.call { callee := Callee.value (Operand.func 22), args := #[Operand.tmp 32, Operand.tmp 33], argTypes := #[23, 23] }, 4, _, #[{ on := 0, ground := Ground.data }, { on := 1, ground := Ground.data }], none⟩) rfl (fun K hK => ?_) AllReadyH.nil
  go_simp
  refine (within_r q a _).mono ?_
  rintro e w1 ⟨rfl, hb1⟩
  refine hK.out _ _ (Held3.next hHeld hb1) (fun hH => ?_)
  clear hHeld hK K hb1
  have hHeld := hH
  clear hH
  try simp only [Act.put, List.setIfInBounds_toArray, List.set_cons_zero, List.set_cons_succ]
  refine wpAnyH_take (i := 3) (oi := ⟨some 35, Op.move (Operand.tmp 34), 4, _, #[{ on := 2, ground := Ground.data }, { on := 2, ground := Ground.chain }], none⟩) (v := ?_) rfl (by kernel_rfl) (by kernel_rfl) (by kernel_rfl) (fun _ _ _ h => h) (Or.inl ⟨by rfl, ?_⟩) hHeld ?_
  rotate_left
  · (intro w1 hSw; (try dsimp only at hSw); go_simp; try (with_reducible rfl))
  try simp only [Act.put, List.setIfInBounds_toArray, List.set_cons_zero, List.set_cons_succ]
  refine wpAnyH_take (i := 4) (oi := ⟨some 36, Op.load 23 (Operand.tmp 7), 23, _, #[{ on := 3, ground := Ground.guard }], some (3, true)⟩) (v := ?_) rfl (by kernel_rfl) (by kernel_rfl) (by kernel_rfl) (fun _ _ _ h => h) (Or.inl ⟨by rfl, ?_⟩) hHeld ?_
  rotate_left
  · (intro w1 hSw; (try dsimp only at hSw); go_simp; try (with_reducible rfl))
  try simp only [Act.put, List.setIfInBounds_toArray, List.set_cons_zero, List.set_cons_succ]
  refine wpAnyH_take (i := 5) (oi := ⟨some 37, Op.load 23 (Operand.tmp 4), 23, _, #[{ on := 3, ground := Ground.guard }], some (3, true)⟩) (v := ?_) rfl (by kernel_rfl) (by kernel_rfl) (by kernel_rfl) (fun _ _ _ h => h) (Or.inl ⟨by rfl, ?_⟩) hHeld ?_
  rotate_left
  · (intro w1 hSw; (try dsimp only at hSw); go_simp; try (with_reducible rfl))
  try simp only [Act.put, List.setIfInBounds_toArray, List.set_cons_zero, List.set_cons_succ]
  refine wpAnyH_ready (rs := [6]) (by kernel_rfl) (by simp) ?_
  refine AllReadyH.cons (o := ⟨some 38, Op.call { callee := Callee.value (Operand.func 22), args := #[Operand.tmp 36, Operand.tmp 37], argTypes := #[23, 23] }, 4, _, #[{ on := 4, ground := Ground.data }, { on := 5, ground := Ground.data }, { on := 3, ground := Ground.chain }, { on := 3, ground := Ground.guard }], some (3, true)⟩) rfl (fun K hK => ?_) AllReadyH.nil
  go_simp
  refine (within_r q b _).mono ?_
  rintro e w1 ⟨rfl, hb1⟩
  refine hK.out _ _ (Held3.next hHeld hb1) (fun hH => ?_)
  clear hHeld hK K hb1
  have hHeld := hH
  clear hH
  try simp only [Act.put, List.setIfInBounds_toArray, List.set_cons_zero, List.set_cons_succ]
  refine wpAnyH_take (i := 7) (oi := ⟨some 39, Op.pick (Operand.tmp 35) (Operand.tmp 38) (Operand.const (Value.bool false)), 4, _, #[{ on := 3, ground := Ground.data }, { on := 6, ground := Ground.data }], none⟩) (v := ?_) rfl (by kernel_rfl) (by kernel_rfl) (by kernel_rfl) (fun _ _ _ h => h) (Or.inl ⟨by rfl, ?_⟩) hHeld ?_
  rotate_left
  · (intro w1 hSw; (try dsimp only at hSw); go_simp; try (with_reducible rfl))
  try simp only [Act.put, List.setIfInBounds_toArray, List.set_cons_zero, List.set_cons_succ]
  refine wpAnyH_take (i := 8) (oi := ⟨some 40, Op.move (Operand.tmp 39), 4, _, #[{ on := 7, ground := Ground.data }, { on := 6, ground := Ground.chain }], none⟩) (v := ?_) rfl (by kernel_rfl) (by kernel_rfl) (by kernel_rfl) (fun _ _ _ h => h) (Or.inl ⟨by rfl, ?_⟩) hHeld ?_
  rotate_left
  · (intro w1 hSw; (try dsimp only at hSw); go_simp; try (with_reducible rfl))
  try simp only [Act.put, List.setIfInBounds_toArray, List.set_cons_zero, List.set_cons_succ]
  refine wpAnyH_take (i := 9) (oi := ⟨some 41, Op.load 23 (Operand.tmp 7), 23, _, #[{ on := 8, ground := Ground.guard }], some (8, true)⟩) (v := ?_) rfl (by kernel_rfl) (by kernel_rfl) (by kernel_rfl) (fun _ _ _ h => h) (Or.inl ⟨by rfl, ?_⟩) hHeld ?_
  rotate_left
  · (intro w1 hSw; (try dsimp only at hSw); go_simp; try (with_reducible rfl))
  try simp only [Act.put, List.setIfInBounds_toArray, List.set_cons_zero, List.set_cons_succ]
  refine wpAnyH_take (i := 11) (oi := ⟨some 43, Op.load 23 (Operand.tmp 3), 23, _, #[{ on := 8, ground := Ground.guard }], some (8, true)⟩) (v := ?_) rfl (by kernel_rfl) (by kernel_rfl) (by kernel_rfl) (fun _ _ _ h => h) (Or.inl ⟨by rfl, ?_⟩) hHeld ?_
  rotate_left
  · (intro w1 hSw; (try dsimp only at hSw); go_simp; try (with_reducible rfl))
  try simp only [Act.put, List.setIfInBounds_toArray, List.set_cons_zero, List.set_cons_succ]
  refine wpAnyH_ready (rs := [10]) (by kernel_rfl) (by simp) ?_
  refine AllReadyH.cons (o := ⟨some 42, Op.call { callee := Callee.value (Operand.func 11), args := #[Operand.tmp 41], argTypes := #[23] }, 3, _, #[{ on := 9, ground := Ground.data }, { on := 8, ground := Ground.chain }, { on := 8, ground := Ground.guard }], some (8, true)⟩) rfl (fun K hK => ?_) AllReadyH.nil
  go_simp
  refine (size_r q Hq64.out _).mono ?_
  rintro e w1 ⟨rfl, hb1⟩
  refine hK.out _ _ (Held3.next hHeld hb1) (fun hH => ?_)
  clear hHeld hK K hb1
  have hHeld := hH
  clear hH
  try simp only [Act.put, List.setIfInBounds_toArray, List.set_cons_zero, List.set_cons_succ]
  refine wpAnyH_ready (rs := [12]) (by kernel_rfl) (by simp) ?_
  refine AllReadyH.cons (o := ⟨some 44, Op.call { callee := Callee.value (Operand.func 11), args := #[Operand.tmp 43], argTypes := #[23] }, 3, _, #[{ on := 11, ground := Ground.data }, { on := 10, ground := Ground.chain }, { on := 8, ground := Ground.guard }], some (8, true)⟩) rfl (fun K hK => ?_) AllReadyH.nil
  go_simp
  refine (size_r a Ha.out _).mono ?_
  rintro e w1 ⟨rfl, hb1⟩
  refine hK.out _ _ (Held3.next hHeld hb1) (fun hH => ?_)
  clear hHeld hK K hb1
  have hHeld := hH
  clear hH
  try simp only [Act.put, List.setIfInBounds_toArray, List.set_cons_zero, List.set_cons_succ]
  refine wpAnyH_take (i := 13) (oi := ⟨some 45, Op.binOp BinOp.leq 3 (Operand.tmp 42) (Operand.tmp 44) 3, 4, _, #[{ on := 10, ground := Ground.data }, { on := 12, ground := Ground.data }, { on := 8, ground := Ground.guard }], some (8, true)⟩) (v := ?_) rfl (by kernel_rfl) (by kernel_rfl) (by kernel_rfl) (fun _ _ _ h => h) (Or.inl ⟨by rfl, ?_⟩) hHeld ?_
  rotate_left
  · (intro w1 hSw; (try dsimp only at hSw); go_simp; try (with_reducible rfl))
  try simp only [Act.put, List.setIfInBounds_toArray, List.set_cons_zero, List.set_cons_succ]
  refine wpAnyH_take (i := 14) (oi := ⟨some 46, Op.pick (Operand.tmp 40) (Operand.tmp 45) (Operand.const (Value.bool false)), 4, _, #[{ on := 8, ground := Ground.data }, { on := 13, ground := Ground.data }], none⟩) (v := ?_) rfl (by kernel_rfl) (by kernel_rfl) (by kernel_rfl) (fun _ _ _ h => h) (Or.inl ⟨by rfl, ?_⟩) hHeld ?_
  rotate_left
  · (intro w1 hSw; (try dsimp only at hSw); go_simp; try (with_reducible rfl))
  try simp only [Act.put, List.setIfInBounds_toArray, List.set_cons_zero, List.set_cons_succ]
  refine wpAnyH_take (i := 15) (oi := ⟨some 47, Op.move (Operand.tmp 46), 4, _, #[{ on := 14, ground := Ground.data }, { on := 12, ground := Ground.chain }], none⟩) (v := ?_) rfl (by kernel_rfl) (by kernel_rfl) (by kernel_rfl) (fun _ _ _ h => h) (Or.inl ⟨by rfl, ?_⟩) hHeld ?_
  rotate_left
  · (intro w1 hSw; (try dsimp only at hSw); go_simp; try (with_reducible rfl))
  try simp only [Act.put, List.setIfInBounds_toArray, List.set_cons_zero, List.set_cons_succ]
  refine wpAnyH_take (i := 16) (oi := ⟨some 48, Op.load 23 (Operand.tmp 4), 23, _, #[{ on := 15, ground := Ground.guard }], some (15, true)⟩) (v := ?_) rfl (by kernel_rfl) (by kernel_rfl) (by kernel_rfl) (fun _ _ _ h => h) (Or.inl ⟨by rfl, ?_⟩) hHeld ?_
  rotate_left
  · (intro w1 hSw; (try dsimp only at hSw); go_simp; try (with_reducible rfl))
  try simp only [Act.put, List.setIfInBounds_toArray, List.set_cons_zero, List.set_cons_succ]
  refine wpAnyH_take (i := 17) (oi := ⟨some 49, Op.load 23 (Operand.tmp 3), 23, _, #[{ on := 15, ground := Ground.guard }], some (15, true)⟩) (v := ?_) rfl (by kernel_rfl) (by kernel_rfl) (by kernel_rfl) (fun _ _ _ h => h) (Or.inl ⟨by rfl, ?_⟩) hHeld ?_
  rotate_left
  · (intro w1 hSw; (try dsimp only at hSw); go_simp; try (with_reducible rfl))
  try simp only [Act.put, List.setIfInBounds_toArray, List.set_cons_zero, List.set_cons_succ]
  refine wpAnyH_take (i := 20) (oi := ⟨some 52, Op.load 23 (Operand.tmp 7), 23, _, #[{ on := 15, ground := Ground.guard }], some (15, true)⟩) (v := ?_) rfl (by kernel_rfl) (by kernel_rfl) (by kernel_rfl) (fun _ _ _ h => h) (Or.inl ⟨by rfl, ?_⟩) hHeld ?_
  rotate_left
  · (intro w1 hSw; (try dsimp only at hSw); go_simp; try (with_reducible rfl))
  try simp only [Act.put, List.setIfInBounds_toArray, List.set_cons_zero, List.set_cons_succ]
  refine wpAnyH_ready (rs := [18]) (by kernel_rfl) (by simp) ?_
  refine AllReadyH.cons (o := ⟨some 50, Op.buildSlice 29 2 #[(0, Operand.tmp 48), (1, Operand.tmp 49)], 29, _, #[{ on := 16, ground := Ground.data }, { on := 17, ground := Ground.data }, { on := 15, ground := Ground.guard }], some (15, true)⟩) rfl (fun K hK => ?_) AllReadyH.nil
  go_simp
  refine hK.out _ _ (Held3.grow hHeld) (fun hH => ?_)
  clear hHeld hK K
  have hHeld := hH
  clear hH
  try simp only [Act.put, List.setIfInBounds_toArray, List.set_cons_zero, List.set_cons_succ]
  refine wpAnyH_ready (rs := [19]) (by kernel_rfl) (by simp) ?_
  refine AllReadyH.cons (o := ⟨some 51, Op.call { callee := Callee.value (Operand.func 16), args := #[Operand.tmp 50], argTypes := #[29] }, 23, _, #[{ on := 18, ground := Ground.data }, { on := 15, ground := Ground.chain }, { on := 15, ground := Ground.guard }], some (15, true)⟩) rfl (fun K hK => ?_) AllReadyH.nil
  go_simp
  refine (both_any _ _ _ [b, a] _ rfl (Nat.le_refl 2) (by decide) (reads_two _ _ rfl _ b a)).mono ?_
  rw [Hs.out]
  rintro e w1 ⟨rfl, hb1⟩
  refine hK.out _ _ (Held3.next hHeld hb1) (fun hH => ?_)
  clear hHeld hK K hb1
  have hHeld := hH
  clear hH
  try simp only [Act.put, List.setIfInBounds_toArray, List.set_cons_zero, List.set_cons_succ]
  refine wpAnyH_take (i := 21) (oi := ⟨some 53, Op.binOp BinOp.eql 23 (Operand.tmp 51) (Operand.tmp 52) 23, 4, _, #[{ on := 19, ground := Ground.data }, { on := 20, ground := Ground.data }, { on := 15, ground := Ground.guard }], some (15, true)⟩) (v := ?_) rfl (by kernel_rfl) (by kernel_rfl) (by kernel_rfl) (fun _ _ _ h => h) (Or.inl ⟨by rfl, ?_⟩) hHeld ?_
  rotate_left
  · (intro w1 hSw; (try dsimp only at hSw); go_simp; try (with_reducible rfl))
  try simp only [Act.put, List.setIfInBounds_toArray, List.set_cons_zero, List.set_cons_succ]
  refine wpAnyH_take (i := 22) (oi := ⟨some 54, Op.pick (Operand.tmp 47) (Operand.tmp 53) (Operand.const (Value.bool false)), 4, _, #[{ on := 15, ground := Ground.data }, { on := 21, ground := Ground.data }], none⟩) (v := ?_) rfl (by kernel_rfl) (by kernel_rfl) (by kernel_rfl) (fun _ _ _ h => h) (Or.inl ⟨by rfl, ?_⟩) hHeld ?_
  rotate_left
  · (intro w1 hSw; (try dsimp only at hSw); go_simp; try (with_reducible rfl))
  try simp only [Act.put, List.setIfInBounds_toArray, List.set_cons_zero, List.set_cons_succ]
  refine wpAnyH_take (i := 23) (oi := ⟨some 55, Op.move (Operand.tmp 54), 4, _, #[{ on := 22, ground := Ground.data }, { on := 19, ground := Ground.chain }], none⟩) (v := ?_) rfl (by kernel_rfl) (by kernel_rfl) (by kernel_rfl) (fun _ _ _ h => h) (Or.inl ⟨by rfl, ?_⟩) hHeld ?_
  rotate_left
  · (intro w1 hSw; (try dsimp only at hSw); go_simp; try (with_reducible rfl))
  try simp only [Act.put, List.setIfInBounds_toArray, List.set_cons_zero, List.set_cons_succ]
  refine wpAnyH_ready (rs := [24]) (by kernel_rfl) (by simp) ?_
  refine AllReadyH.cons (o := ⟨some 56, Op.call { callee := Callee.value (Operand.func 15), args := #[], argTypes := #[] }, 4, _, #[{ on := 23, ground := Ground.chain }, { on := 23, ground := Ground.guard }], some (23, true)⟩) rfl (fun K hK => ?_) AllReadyH.nil
  go_simp
  refine (awake_any _).mono ?_
  rintro e w1 ⟨rfl, hb1⟩
  refine hK.out _ _ (Held3.next hHeld hb1) (fun hH => ?_)
  clear hHeld hK K hb1
  have hHeld := hH
  clear hH
  try simp only [Act.put, List.setIfInBounds_toArray, List.set_cons_zero, List.set_cons_succ]
  refine wpAnyH_take (i := 25) (oi := ⟨some 57, Op.pick (Operand.tmp 55) (Operand.tmp 56) (Operand.const (Value.bool false)), 4, _, #[{ on := 23, ground := Ground.data }, { on := 24, ground := Ground.data }], none⟩) (v := ?_) rfl (by kernel_rfl) (by kernel_rfl) (by kernel_rfl) (fun _ _ _ h => h) (Or.inl ⟨by rfl, ?_⟩) hHeld ?_
  rotate_left
  · (intro w1 hSw; (try dsimp only at hSw); go_simp; try (with_reducible rfl))
  try simp only [Act.put, List.setIfInBounds_toArray, List.set_cons_zero, List.set_cons_succ]
  refine wpAnyH_take (i := 26) (oi := ⟨some 6, Op.assign (Operand.tmp 57), 4, _, #[{ on := 25, ground := Ground.data }, { on := 24, ground := Ground.chain }, { on := 0, ground := Ground.phase }, { on := 1, ground := Ground.phase }, { on := 2, ground := Ground.phase }, { on := 3, ground := Ground.phase }, { on := 4, ground := Ground.phase }, { on := 5, ground := Ground.phase }, { on := 6, ground := Ground.phase }, { on := 7, ground := Ground.phase }, { on := 8, ground := Ground.phase }, { on := 9, ground := Ground.phase }, { on := 10, ground := Ground.phase }, { on := 11, ground := Ground.phase }, { on := 12, ground := Ground.phase }, { on := 13, ground := Ground.phase }, { on := 14, ground := Ground.phase }, { on := 15, ground := Ground.phase }, { on := 16, ground := Ground.phase }, { on := 17, ground := Ground.phase }, { on := 18, ground := Ground.phase }, { on := 19, ground := Ground.phase }, { on := 20, ground := Ground.phase }, { on := 21, ground := Ground.phase }, { on := 22, ground := Ground.phase }, { on := 23, ground := Ground.phase }, { on := 24, ground := Ground.phase }, { on := 25, ground := Ground.phase }], none⟩) (v := ?_) rfl (by kernel_rfl) (by kernel_rfl) (by kernel_rfl) (fun _ _ _ h => h) (Or.inl ⟨by rfl, ?_⟩) hHeld ?_
  rotate_left
  · (intro w1 hSw; (try dsimp only at hSw); go_simp; try (with_reducible rfl))
  try simp only [Act.put, List.setIfInBounds_toArray, List.set_cons_zero, List.set_cons_succ]
  refine wpAnyH_done (by kernel_rfl) ?_ _
  go_wp2
  go_ret
  exact ⟨rfl, Held3.last hHeld⟩

set_option maxHeartbeats 4000000 in
theorem both_walk_tt_false (a b q : Int × Int) (n : Int) (w : World) (ha : In64 a) (hq64 : In64 q) (hq : bothF [a, b] = q) (hs : bothF [b, a] = q) (hwl : withinF q a = true) (hwr : withinF q b = true) (hsz : sizeF q ≤ sizeF a) (hA : hasF a n = true) (hB : hasF b n = true) (hC : hasF q n = true) (hE : emptyF q = false) :
    Calls Try.prog 5 #[.agg #[.int .i64 a.1, .int .i64 a.2], .agg #[.int .i64 b.1, .int .i64 b.2], .int .i64 n] w fun e w' => e = .returned (.bool true) ∧ Below w.heap.size w w' := by
  have Hq := Lib.hid hq
  have Hs := Lib.hid hs
  have Ha := Lib.hid ha
  have Hq64 := Lib.hid hq64
  clear hq hs ha hq64
  go_enter Try.func5, Try.ntmps5
  go_wp2_with fail
  refine (both_any _ _ _ [a, b] _ rfl ?_ ?_ (reads_two _ _ ?_ _ a b)).mono ?_
  · exact Nat.le_refl 2
  · decide
  · simp
  rw [Hq.out]
  rintro e w1 ⟨rfl, hb⟩
  have h1 : Held w w1 w.heap.size (w.heap.size + 1) 23 (.int .i64 a.1) (.int .i64 a.2) (.int .i64 b.1) (.int .i64 b.2) :=
    Held.step_alloc (wi := (w.alloc (.cells #[.int .i64 a.1, .int .i64 a.2] 23)).alloc (.cells #[.int .i64 b.1, .int .i64 b.2] 23))
      ⟨by omega, by omega, by go_grown, (Blk.new _ _ _).alloc _, by simpa using Blk.new (w.alloc _) _ _⟩ hb
  clear hb
  have h0 : Held3 w (w1.alloc (.cells #[.int .i64 q.1, .int .i64 q.2] 23)) w.heap.size (w.heap.size + 1) w1.heap.size 23 (.int .i64 a.1) (.int .i64 a.2) (.int .i64 b.1) (.int .i64 b.2) (.int .i64 q.1) (.int .i64 q.2) :=
    ⟨h1.alloc _, h1.2.2.1.size, Blk.new _ _ _⟩
  generalize hgc : w1.heap.size = gc at h0
  go_wp2_with fail
  clear hgc h1
  refine wp_region_held_drew (S := (fun w' => w'.cell? ⟨w.heap.size, 0, none⟩ = some (.int .i64 a.1) ∧ w'.cell? ⟨w.heap.size, 1, none⟩ = some (.int .i64 a.2) ∧ w'.cell? ⟨w.heap.size + 1, 0, none⟩ = some (.int .i64 b.1) ∧ w'.cell? ⟨w.heap.size + 1, 1, none⟩ = some (.int .i64 b.2) ∧ w'.cell? ⟨gc, 0, none⟩ = some (.int .i64 q.1) ∧ w'.cell? ⟨gc, 1, none⟩ = some (.int .i64 q.2) ∧ Held3 w w' (w.heap.size) (w.heap.size + 1) (gc) 23 (.int .i64 a.1) (.int .i64 a.2) (.int .i64 b.1) (.int .i64 b.2) (.int .i64 q.1) (.int .i64 q.2))) (by kernel_rfl) ((by first | exact (Held3.drew h0).conds | exact (Held3.drew h1).conds)) (fun hHeld => ?_)
  refine wpAnyH_take (i := 0) (oi := ⟨some 12, Op.load 23 (Operand.tmp 7), 23, _, #[], none⟩) (v := ?_) rfl (by kernel_rfl) (by kernel_rfl) (by kernel_rfl) (fun _ _ _ h => h) (Or.inl ⟨by rfl, ?_⟩) hHeld ?_
  rotate_left
  · (intro w1 hSw; (try dsimp only at hSw); go_simp; try (with_reducible rfl))
  try simp only [Act.put, List.setIfInBounds_toArray, List.set_cons_zero, List.set_cons_succ]
  refine wpAnyH_take (i := 1) (oi := ⟨some 13, Op.move (Operand.tmp 2), 3, _, #[], none⟩) (v := ?_) rfl (by kernel_rfl) (by kernel_rfl) (by kernel_rfl) (fun _ _ _ h => h) (Or.inl ⟨by rfl, ?_⟩) hHeld ?_
  rotate_left
  · (intro w1 hSw; (try dsimp only at hSw); go_simp; try (with_reducible rfl))
  try simp only [Act.put, List.setIfInBounds_toArray, List.set_cons_zero, List.set_cons_succ]
  refine wpAnyH_take (i := 3) (oi := ⟨some 15, Op.load 23 (Operand.tmp 3), 23, _, #[], none⟩) (v := ?_) rfl (by kernel_rfl) (by kernel_rfl) (by kernel_rfl) (fun _ _ _ h => h) (Or.inl ⟨by rfl, ?_⟩) hHeld ?_
  rotate_left
  · (intro w1 hSw; (try dsimp only at hSw); go_simp; try (with_reducible rfl))
  try simp only [Act.put, List.setIfInBounds_toArray, List.set_cons_zero, List.set_cons_succ]
  refine wpAnyH_take (i := 4) (oi := ⟨some 16, Op.move (Operand.tmp 2), 3, _, #[], none⟩) (v := ?_) rfl (by kernel_rfl) (by kernel_rfl) (by kernel_rfl) (fun _ _ _ h => h) (Or.inl ⟨by rfl, ?_⟩) hHeld ?_
  rotate_left
  · (intro w1 hSw; (try dsimp only at hSw); go_simp; try (with_reducible rfl))
  try simp only [Act.put, List.setIfInBounds_toArray, List.set_cons_zero, List.set_cons_succ]
  refine wpAnyH_ready (rs := [2]) (by kernel_rfl) (by simp) ?_
  refine AllReadyH.cons (o := ⟨some 14, Op.call { callee := Callee.value (Operand.func 7), args := #[Operand.tmp 12, Operand.tmp 13], argTypes := #[23, 3] }, 4, _, #[{ on := 0, ground := Ground.data }, { on := 1, ground := Ground.data }], none⟩) rfl (fun K hK => ?_) AllReadyH.nil
  go_simp
  refine (has_r q n _).mono ?_
  rintro e w1 ⟨rfl, hb1⟩
  refine hK.out _ _ (Held3.next hHeld hb1) (fun hH => ?_)
  clear hHeld hK K hb1
  have hHeld := hH
  clear hH
  try simp only [Act.put, List.setIfInBounds_toArray, List.set_cons_zero, List.set_cons_succ]
  refine wpAnyH_ready (rs := [5]) (by kernel_rfl) (by simp) ?_
  refine AllReadyH.cons (o := ⟨some 17, Op.call { callee := Callee.value (Operand.func 7), args := #[Operand.tmp 15, Operand.tmp 16], argTypes := #[23, 3] }, 4, _, #[{ on := 3, ground := Ground.data }, { on := 4, ground := Ground.data }, { on := 2, ground := Ground.chain }], none⟩) rfl (fun K hK => ?_) AllReadyH.nil
  go_simp
  refine (has_r a n _).mono ?_
  rintro e w1 ⟨rfl, hb1⟩
  refine hK.out _ _ (Held3.next hHeld hb1) (fun hH => ?_)
  clear hHeld hK K hb1
  have hHeld := hH
  clear hH
  try simp only [Act.put, List.setIfInBounds_toArray, List.set_cons_zero, List.set_cons_succ]
  refine wpAnyH_take (i := 6) (oi := ⟨some 18, Op.move (Operand.tmp 17), 4, _, #[{ on := 5, ground := Ground.data }, { on := 5, ground := Ground.chain }], none⟩) (v := ?_) rfl (by kernel_rfl) (by kernel_rfl) (by kernel_rfl) (fun _ _ _ h => h) (Or.inl ⟨by rfl, ?_⟩) hHeld ?_
  rotate_left
  · (intro w1 hSw; (try dsimp only at hSw); go_simp; try (with_reducible rfl))
  try simp only [Act.put, List.setIfInBounds_toArray, List.set_cons_zero, List.set_cons_succ]
  refine wpAnyH_take (i := 7) (oi := ⟨some 19, Op.load 23 (Operand.tmp 4), 23, _, #[{ on := 6, ground := Ground.guard }], some (6, true)⟩) (v := ?_) rfl (by kernel_rfl) (by kernel_rfl) (by kernel_rfl) (fun _ _ _ h => h) (Or.inl ⟨by rfl, ?_⟩) hHeld ?_
  rotate_left
  · (intro w1 hSw; (try dsimp only at hSw); go_simp; try (with_reducible rfl))
  try simp only [Act.put, List.setIfInBounds_toArray, List.set_cons_zero, List.set_cons_succ]
  refine wpAnyH_take (i := 8) (oi := ⟨some 20, Op.move (Operand.tmp 2), 3, _, #[{ on := 6, ground := Ground.guard }], some (6, true)⟩) (v := ?_) rfl (by kernel_rfl) (by kernel_rfl) (by kernel_rfl) (fun _ _ _ h => h) (Or.inl ⟨by rfl, ?_⟩) hHeld ?_
  rotate_left
  · (intro w1 hSw; (try dsimp only at hSw); go_simp; try (with_reducible rfl))
  try simp only [Act.put, List.setIfInBounds_toArray, List.set_cons_zero, List.set_cons_succ]
  refine wpAnyH_ready (rs := [9]) (by kernel_rfl) (by simp) ?_
  refine AllReadyH.cons (o := ⟨some 21, Op.call { callee := Callee.value (Operand.func 7), args := #[Operand.tmp 19, Operand.tmp 20], argTypes := #[23, 3] }, 4, _, #[{ on := 7, ground := Ground.data }, { on := 8, ground := Ground.data }, { on := 6, ground := Ground.chain }, { on := 6, ground := Ground.guard }], some (6, true)⟩) rfl (fun K hK => ?_) AllReadyH.nil
  go_simp
  refine (has_r b n _).mono ?_
  rintro e w1 ⟨rfl, hb1⟩
  refine hK.out _ _ (Held3.next hHeld hb1) (fun hH => ?_)
  clear hHeld hK K hb1
  have hHeld := hH
  clear hH
  try simp only [Act.put, List.setIfInBounds_toArray, List.set_cons_zero, List.set_cons_succ]
  refine wpAnyH_take (i := 10) (oi := ⟨some 22, Op.pick (Operand.tmp 18) (Operand.tmp 21) (Operand.const (Value.bool false)), 4, _, #[{ on := 6, ground := Ground.data }, { on := 9, ground := Ground.data }], none⟩) (v := ?_) rfl (by kernel_rfl) (by kernel_rfl) (by kernel_rfl) (fun _ _ _ h => h) (Or.inl ⟨by rfl, ?_⟩) hHeld ?_
  rotate_left
  · (intro w1 hSw; (try dsimp only at hSw); go_simp; try (with_reducible rfl))
  try simp only [Act.put, List.setIfInBounds_toArray, List.set_cons_zero, List.set_cons_succ]
  refine wpAnyH_take (i := 11) (oi := ⟨some 23, Op.binOp BinOp.neq 4 (Operand.tmp 14) (Operand.tmp 22) 4, 4, _, #[{ on := 2, ground := Ground.data }, { on := 10, ground := Ground.data }], none⟩) (v := ?_) rfl (by kernel_rfl) (by kernel_rfl) (by kernel_rfl) (fun _ _ _ h => h) (Or.inl ⟨by rfl, ?_⟩) hHeld ?_
  rotate_left
  · (intro w1 hSw; (try dsimp only at hSw); go_simp; try (with_reducible rfl))
  try simp only [Act.put, List.setIfInBounds_toArray, List.set_cons_zero, List.set_cons_succ]
  refine wpAnyH_take (i := 12) (oi := ⟨some 24, Op.move (Operand.tmp 23), 4, _, #[{ on := 11, ground := Ground.data }, { on := 9, ground := Ground.chain }], none⟩) (v := ?_) rfl (by kernel_rfl) (by kernel_rfl) (by kernel_rfl) (fun _ _ _ h => h) (Or.inl ⟨by rfl, ?_⟩) hHeld ?_
  rotate_left
  · (intro w1 hSw; (try dsimp only at hSw); go_simp; try (with_reducible rfl))
  try simp only [Act.put, List.setIfInBounds_toArray, List.set_cons_zero, List.set_cons_succ]
  refine wpAnyH_take (i := 13) (oi := ⟨some 25, Op.load 23 (Operand.tmp 7), 23, _, #[{ on := 12, ground := Ground.guard }], some (12, false)⟩) (v := ?_) rfl (by kernel_rfl) (by kernel_rfl) (by kernel_rfl) (fun _ _ _ h => h) (Or.inl ⟨by rfl, ?_⟩) hHeld ?_
  rotate_left
  · (intro w1 hSw; (try dsimp only at hSw); go_simp; try (with_reducible rfl))
  try simp only [Act.put, List.setIfInBounds_toArray, List.set_cons_zero, List.set_cons_succ]
  refine wpAnyH_take (i := 15) (oi := ⟨some 27, Op.load 23 (Operand.tmp 3), 23, _, #[{ on := 12, ground := Ground.guard }], some (12, false)⟩) (v := ?_) rfl (by kernel_rfl) (by kernel_rfl) (by kernel_rfl) (fun _ _ _ h => h) (Or.inl ⟨by rfl, ?_⟩) hHeld ?_
  rotate_left
  · (intro w1 hSw; (try dsimp only at hSw); go_simp; try (with_reducible rfl))
  try simp only [Act.put, List.setIfInBounds_toArray, List.set_cons_zero, List.set_cons_succ]
  refine wpAnyH_take (i := 16) (oi := ⟨some 28, Op.load 23 (Operand.tmp 4), 23, _, #[{ on := 12, ground := Ground.guard }], some (12, false)⟩) (v := ?_) rfl (by kernel_rfl) (by kernel_rfl) (by kernel_rfl) (fun _ _ _ h => h) (Or.inl ⟨by rfl, ?_⟩) hHeld ?_
  rotate_left
  · (intro w1 hSw; (try dsimp only at hSw); go_simp; try (with_reducible rfl))
  try simp only [Act.put, List.setIfInBounds_toArray, List.set_cons_zero, List.set_cons_succ]
  refine wpAnyH_ready (rs := [14]) (by kernel_rfl) (by simp) ?_
  refine AllReadyH.cons (o := ⟨some 26, Op.call { callee := Callee.value (Operand.func 9), args := #[Operand.tmp 25], argTypes := #[23] }, 4, _, #[{ on := 13, ground := Ground.data }, { on := 12, ground := Ground.chain }, { on := 12, ground := Ground.guard }], some (12, false)⟩) rfl (fun K hK => ?_) AllReadyH.nil
  go_simp
  refine (empty_r q _).mono ?_
  rintro e w1 ⟨rfl, hb1⟩
  refine hK.out _ _ (Held3.next hHeld hb1) (fun hH => ?_)
  clear hHeld hK K hb1
  have hHeld := hH
  clear hH
  try simp only [Act.put, List.setIfInBounds_toArray, List.set_cons_zero, List.set_cons_succ]
  refine wpAnyH_ready (rs := [17]) (by kernel_rfl) (by simp) ?_
  refine AllReadyH.cons (o := ⟨some 29, Op.call { callee := Callee.value (Operand.func 20), args := #[Operand.tmp 27, Operand.tmp 28], argTypes := #[23, 23] }, 4, _, #[{ on := 15, ground := Ground.data }, { on := 16, ground := Ground.data }, { on := 14, ground := Ground.chain }, { on := 12, ground := Ground.guard }], some (12, false)⟩) rfl (fun K hK => ?_) AllReadyH.nil
  go_simp
  refine (meets_any a b _).mono ?_
  rw [Hq.out]
  rintro e w1 ⟨rfl, hb1⟩
  refine hK.out _ _ (Held3.next hHeld hb1) (fun hH => ?_)
  clear hHeld hK K hb1
  have hHeld := hH
  clear hH
  try simp only [Act.put, List.setIfInBounds_toArray, List.set_cons_zero, List.set_cons_succ]
  refine wpAnyH_take (i := 18) (oi := ⟨some 30, Op.binOp BinOp.eql 4 (Operand.tmp 26) (Operand.tmp 29) 4, 4, _, #[{ on := 14, ground := Ground.data }, { on := 17, ground := Ground.data }, { on := 12, ground := Ground.guard }], some (12, false)⟩) (v := ?_) rfl (by kernel_rfl) (by kernel_rfl) (by kernel_rfl) (fun _ _ _ h => h) (Or.inl ⟨by rfl, ?_⟩) hHeld ?_
  rotate_left
  · (intro w1 hSw; (try dsimp only at hSw); go_simp; try (with_reducible rfl))
  try simp only [Act.put, List.setIfInBounds_toArray, List.set_cons_zero, List.set_cons_succ]
  refine wpAnyH_take (i := 19) (oi := ⟨some 31, Op.pick (Operand.tmp 24) (Operand.const (Value.bool true)) (Operand.tmp 30), 4, _, #[{ on := 12, ground := Ground.data }, { on := 18, ground := Ground.data }], none⟩) (v := ?_) rfl (by kernel_rfl) (by kernel_rfl) (by kernel_rfl) (fun _ _ _ h => h) (Or.inl ⟨by rfl, ?_⟩) hHeld ?_
  rotate_left
  · (intro w1 hSw; (try dsimp only at hSw); go_simp; try (with_reducible rfl))
  try simp only [Act.put, List.setIfInBounds_toArray, List.set_cons_zero, List.set_cons_succ]
  refine wpAnyH_done (by kernel_rfl) ?_ _
  have h1 := hHeld.2.2.2.2.2.2
  clear hHeld
  go_wp2_with fail
  refine wp_region_held_drew (S := (fun w' => w'.cell? ⟨w.heap.size, 0, none⟩ = some (.int .i64 a.1) ∧ w'.cell? ⟨w.heap.size, 1, none⟩ = some (.int .i64 a.2) ∧ w'.cell? ⟨w.heap.size + 1, 0, none⟩ = some (.int .i64 b.1) ∧ w'.cell? ⟨w.heap.size + 1, 1, none⟩ = some (.int .i64 b.2) ∧ w'.cell? ⟨gc, 0, none⟩ = some (.int .i64 q.1) ∧ w'.cell? ⟨gc, 1, none⟩ = some (.int .i64 q.2) ∧ Held3 w w' (w.heap.size) (w.heap.size + 1) (gc) 23 (.int .i64 a.1) (.int .i64 a.2) (.int .i64 b.1) (.int .i64 b.2) (.int .i64 q.1) (.int .i64 q.2))) (by kernel_rfl) ((by first | exact (Held3.drew h0).conds | exact (Held3.drew h1).conds)) (fun hHeld => ?_)
  refine wpAnyH_take (i := 0) (oi := ⟨some 32, Op.load 23 (Operand.tmp 7), 23, _, #[], none⟩) (v := ?_) rfl (by kernel_rfl) (by kernel_rfl) (by kernel_rfl) (fun _ _ _ h => h) (Or.inl ⟨by rfl, ?_⟩) hHeld ?_
  rotate_left
  · (intro w1 hSw; (try dsimp only at hSw); go_simp; try (with_reducible rfl))
  try simp only [Act.put, List.setIfInBounds_toArray, List.set_cons_zero, List.set_cons_succ]
  refine wpAnyH_take (i := 1) (oi := ⟨some 33, Op.load 23 (Operand.tmp 3), 23, _, #[], none⟩) (v := ?_) rfl (by kernel_rfl) (by kernel_rfl) (by kernel_rfl) (fun _ _ _ h => h) (Or.inl ⟨by rfl, ?_⟩) hHeld ?_
  rotate_left
  · (intro w1 hSw; (try dsimp only at hSw); go_simp; try (with_reducible rfl))
  try simp only [Act.put, List.setIfInBounds_toArray, List.set_cons_zero, List.set_cons_succ]
  refine wpAnyH_ready (rs := [2]) (by kernel_rfl) (by simp) ?_
  refine AllReadyH.cons (o := ⟨some 34, Op.call { callee := Callee.value (Operand.func 22), args := #[Operand.tmp 32, Operand.tmp 33], argTypes := #[23, 23] }, 4, _, #[{ on := 0, ground := Ground.data }, { on := 1, ground := Ground.data }], none⟩) rfl (fun K hK => ?_) AllReadyH.nil
  go_simp
  refine (within_r q a _).mono ?_
  rintro e w1 ⟨rfl, hb1⟩
  refine hK.out _ _ (Held3.next hHeld hb1) (fun hH => ?_)
  clear hHeld hK K hb1
  have hHeld := hH
  clear hH
  try simp only [Act.put, List.setIfInBounds_toArray, List.set_cons_zero, List.set_cons_succ]
  refine wpAnyH_take (i := 3) (oi := ⟨some 35, Op.move (Operand.tmp 34), 4, _, #[{ on := 2, ground := Ground.data }, { on := 2, ground := Ground.chain }], none⟩) (v := ?_) rfl (by kernel_rfl) (by kernel_rfl) (by kernel_rfl) (fun _ _ _ h => h) (Or.inl ⟨by rfl, ?_⟩) hHeld ?_
  rotate_left
  · (intro w1 hSw; (try dsimp only at hSw); go_simp; try (with_reducible rfl))
  try simp only [Act.put, List.setIfInBounds_toArray, List.set_cons_zero, List.set_cons_succ]
  refine wpAnyH_take (i := 4) (oi := ⟨some 36, Op.load 23 (Operand.tmp 7), 23, _, #[{ on := 3, ground := Ground.guard }], some (3, true)⟩) (v := ?_) rfl (by kernel_rfl) (by kernel_rfl) (by kernel_rfl) (fun _ _ _ h => h) (Or.inl ⟨by rfl, ?_⟩) hHeld ?_
  rotate_left
  · (intro w1 hSw; (try dsimp only at hSw); go_simp; try (with_reducible rfl))
  try simp only [Act.put, List.setIfInBounds_toArray, List.set_cons_zero, List.set_cons_succ]
  refine wpAnyH_take (i := 5) (oi := ⟨some 37, Op.load 23 (Operand.tmp 4), 23, _, #[{ on := 3, ground := Ground.guard }], some (3, true)⟩) (v := ?_) rfl (by kernel_rfl) (by kernel_rfl) (by kernel_rfl) (fun _ _ _ h => h) (Or.inl ⟨by rfl, ?_⟩) hHeld ?_
  rotate_left
  · (intro w1 hSw; (try dsimp only at hSw); go_simp; try (with_reducible rfl))
  try simp only [Act.put, List.setIfInBounds_toArray, List.set_cons_zero, List.set_cons_succ]
  refine wpAnyH_ready (rs := [6]) (by kernel_rfl) (by simp) ?_
  refine AllReadyH.cons (o := ⟨some 38, Op.call { callee := Callee.value (Operand.func 22), args := #[Operand.tmp 36, Operand.tmp 37], argTypes := #[23, 23] }, 4, _, #[{ on := 4, ground := Ground.data }, { on := 5, ground := Ground.data }, { on := 3, ground := Ground.chain }, { on := 3, ground := Ground.guard }], some (3, true)⟩) rfl (fun K hK => ?_) AllReadyH.nil
  go_simp
  refine (within_r q b _).mono ?_
  rintro e w1 ⟨rfl, hb1⟩
  refine hK.out _ _ (Held3.next hHeld hb1) (fun hH => ?_)
  clear hHeld hK K hb1
  have hHeld := hH
  clear hH
  try simp only [Act.put, List.setIfInBounds_toArray, List.set_cons_zero, List.set_cons_succ]
  refine wpAnyH_take (i := 7) (oi := ⟨some 39, Op.pick (Operand.tmp 35) (Operand.tmp 38) (Operand.const (Value.bool false)), 4, _, #[{ on := 3, ground := Ground.data }, { on := 6, ground := Ground.data }], none⟩) (v := ?_) rfl (by kernel_rfl) (by kernel_rfl) (by kernel_rfl) (fun _ _ _ h => h) (Or.inl ⟨by rfl, ?_⟩) hHeld ?_
  rotate_left
  · (intro w1 hSw; (try dsimp only at hSw); go_simp; try (with_reducible rfl))
  try simp only [Act.put, List.setIfInBounds_toArray, List.set_cons_zero, List.set_cons_succ]
  refine wpAnyH_take (i := 8) (oi := ⟨some 40, Op.move (Operand.tmp 39), 4, _, #[{ on := 7, ground := Ground.data }, { on := 6, ground := Ground.chain }], none⟩) (v := ?_) rfl (by kernel_rfl) (by kernel_rfl) (by kernel_rfl) (fun _ _ _ h => h) (Or.inl ⟨by rfl, ?_⟩) hHeld ?_
  rotate_left
  · (intro w1 hSw; (try dsimp only at hSw); go_simp; try (with_reducible rfl))
  try simp only [Act.put, List.setIfInBounds_toArray, List.set_cons_zero, List.set_cons_succ]
  refine wpAnyH_take (i := 9) (oi := ⟨some 41, Op.load 23 (Operand.tmp 7), 23, _, #[{ on := 8, ground := Ground.guard }], some (8, true)⟩) (v := ?_) rfl (by kernel_rfl) (by kernel_rfl) (by kernel_rfl) (fun _ _ _ h => h) (Or.inl ⟨by rfl, ?_⟩) hHeld ?_
  rotate_left
  · (intro w1 hSw; (try dsimp only at hSw); go_simp; try (with_reducible rfl))
  try simp only [Act.put, List.setIfInBounds_toArray, List.set_cons_zero, List.set_cons_succ]
  refine wpAnyH_take (i := 11) (oi := ⟨some 43, Op.load 23 (Operand.tmp 3), 23, _, #[{ on := 8, ground := Ground.guard }], some (8, true)⟩) (v := ?_) rfl (by kernel_rfl) (by kernel_rfl) (by kernel_rfl) (fun _ _ _ h => h) (Or.inl ⟨by rfl, ?_⟩) hHeld ?_
  rotate_left
  · (intro w1 hSw; (try dsimp only at hSw); go_simp; try (with_reducible rfl))
  try simp only [Act.put, List.setIfInBounds_toArray, List.set_cons_zero, List.set_cons_succ]
  refine wpAnyH_ready (rs := [10]) (by kernel_rfl) (by simp) ?_
  refine AllReadyH.cons (o := ⟨some 42, Op.call { callee := Callee.value (Operand.func 11), args := #[Operand.tmp 41], argTypes := #[23] }, 3, _, #[{ on := 9, ground := Ground.data }, { on := 8, ground := Ground.chain }, { on := 8, ground := Ground.guard }], some (8, true)⟩) rfl (fun K hK => ?_) AllReadyH.nil
  go_simp
  refine (size_r q Hq64.out _).mono ?_
  rintro e w1 ⟨rfl, hb1⟩
  refine hK.out _ _ (Held3.next hHeld hb1) (fun hH => ?_)
  clear hHeld hK K hb1
  have hHeld := hH
  clear hH
  try simp only [Act.put, List.setIfInBounds_toArray, List.set_cons_zero, List.set_cons_succ]
  refine wpAnyH_ready (rs := [12]) (by kernel_rfl) (by simp) ?_
  refine AllReadyH.cons (o := ⟨some 44, Op.call { callee := Callee.value (Operand.func 11), args := #[Operand.tmp 43], argTypes := #[23] }, 3, _, #[{ on := 11, ground := Ground.data }, { on := 10, ground := Ground.chain }, { on := 8, ground := Ground.guard }], some (8, true)⟩) rfl (fun K hK => ?_) AllReadyH.nil
  go_simp
  refine (size_r a Ha.out _).mono ?_
  rintro e w1 ⟨rfl, hb1⟩
  refine hK.out _ _ (Held3.next hHeld hb1) (fun hH => ?_)
  clear hHeld hK K hb1
  have hHeld := hH
  clear hH
  try simp only [Act.put, List.setIfInBounds_toArray, List.set_cons_zero, List.set_cons_succ]
  refine wpAnyH_take (i := 13) (oi := ⟨some 45, Op.binOp BinOp.leq 3 (Operand.tmp 42) (Operand.tmp 44) 3, 4, _, #[{ on := 10, ground := Ground.data }, { on := 12, ground := Ground.data }, { on := 8, ground := Ground.guard }], some (8, true)⟩) (v := ?_) rfl (by kernel_rfl) (by kernel_rfl) (by kernel_rfl) (fun _ _ _ h => h) (Or.inl ⟨by rfl, ?_⟩) hHeld ?_
  rotate_left
  · (intro w1 hSw; (try dsimp only at hSw); go_simp; try (with_reducible rfl))
  try simp only [Act.put, List.setIfInBounds_toArray, List.set_cons_zero, List.set_cons_succ]
  refine wpAnyH_take (i := 14) (oi := ⟨some 46, Op.pick (Operand.tmp 40) (Operand.tmp 45) (Operand.const (Value.bool false)), 4, _, #[{ on := 8, ground := Ground.data }, { on := 13, ground := Ground.data }], none⟩) (v := ?_) rfl (by kernel_rfl) (by kernel_rfl) (by kernel_rfl) (fun _ _ _ h => h) (Or.inl ⟨by rfl, ?_⟩) hHeld ?_
  rotate_left
  · (intro w1 hSw; (try dsimp only at hSw); go_simp; try (with_reducible rfl))
  try simp only [Act.put, List.setIfInBounds_toArray, List.set_cons_zero, List.set_cons_succ]
  refine wpAnyH_take (i := 15) (oi := ⟨some 47, Op.move (Operand.tmp 46), 4, _, #[{ on := 14, ground := Ground.data }, { on := 12, ground := Ground.chain }], none⟩) (v := ?_) rfl (by kernel_rfl) (by kernel_rfl) (by kernel_rfl) (fun _ _ _ h => h) (Or.inl ⟨by rfl, ?_⟩) hHeld ?_
  rotate_left
  · (intro w1 hSw; (try dsimp only at hSw); go_simp; try (with_reducible rfl))
  try simp only [Act.put, List.setIfInBounds_toArray, List.set_cons_zero, List.set_cons_succ]
  refine wpAnyH_take (i := 16) (oi := ⟨some 48, Op.load 23 (Operand.tmp 4), 23, _, #[{ on := 15, ground := Ground.guard }], some (15, true)⟩) (v := ?_) rfl (by kernel_rfl) (by kernel_rfl) (by kernel_rfl) (fun _ _ _ h => h) (Or.inl ⟨by rfl, ?_⟩) hHeld ?_
  rotate_left
  · (intro w1 hSw; (try dsimp only at hSw); go_simp; try (with_reducible rfl))
  try simp only [Act.put, List.setIfInBounds_toArray, List.set_cons_zero, List.set_cons_succ]
  refine wpAnyH_take (i := 17) (oi := ⟨some 49, Op.load 23 (Operand.tmp 3), 23, _, #[{ on := 15, ground := Ground.guard }], some (15, true)⟩) (v := ?_) rfl (by kernel_rfl) (by kernel_rfl) (by kernel_rfl) (fun _ _ _ h => h) (Or.inl ⟨by rfl, ?_⟩) hHeld ?_
  rotate_left
  · (intro w1 hSw; (try dsimp only at hSw); go_simp; try (with_reducible rfl))
  try simp only [Act.put, List.setIfInBounds_toArray, List.set_cons_zero, List.set_cons_succ]
  refine wpAnyH_take (i := 20) (oi := ⟨some 52, Op.load 23 (Operand.tmp 7), 23, _, #[{ on := 15, ground := Ground.guard }], some (15, true)⟩) (v := ?_) rfl (by kernel_rfl) (by kernel_rfl) (by kernel_rfl) (fun _ _ _ h => h) (Or.inl ⟨by rfl, ?_⟩) hHeld ?_
  rotate_left
  · (intro w1 hSw; (try dsimp only at hSw); go_simp; try (with_reducible rfl))
  try simp only [Act.put, List.setIfInBounds_toArray, List.set_cons_zero, List.set_cons_succ]
  refine wpAnyH_ready (rs := [18]) (by kernel_rfl) (by simp) ?_
  refine AllReadyH.cons (o := ⟨some 50, Op.buildSlice 29 2 #[(0, Operand.tmp 48), (1, Operand.tmp 49)], 29, _, #[{ on := 16, ground := Ground.data }, { on := 17, ground := Ground.data }, { on := 15, ground := Ground.guard }], some (15, true)⟩) rfl (fun K hK => ?_) AllReadyH.nil
  go_simp
  refine hK.out _ _ (Held3.grow hHeld) (fun hH => ?_)
  clear hHeld hK K
  have hHeld := hH
  clear hH
  try simp only [Act.put, List.setIfInBounds_toArray, List.set_cons_zero, List.set_cons_succ]
  refine wpAnyH_ready (rs := [19]) (by kernel_rfl) (by simp) ?_
  refine AllReadyH.cons (o := ⟨some 51, Op.call { callee := Callee.value (Operand.func 16), args := #[Operand.tmp 50], argTypes := #[29] }, 23, _, #[{ on := 18, ground := Ground.data }, { on := 15, ground := Ground.chain }, { on := 15, ground := Ground.guard }], some (15, true)⟩) rfl (fun K hK => ?_) AllReadyH.nil
  go_simp
  refine (both_any _ _ _ [b, a] _ rfl (Nat.le_refl 2) (by decide) (reads_two _ _ rfl _ b a)).mono ?_
  rw [Hs.out]
  rintro e w1 ⟨rfl, hb1⟩
  refine hK.out _ _ (Held3.next hHeld hb1) (fun hH => ?_)
  clear hHeld hK K hb1
  have hHeld := hH
  clear hH
  try simp only [Act.put, List.setIfInBounds_toArray, List.set_cons_zero, List.set_cons_succ]
  refine wpAnyH_take (i := 21) (oi := ⟨some 53, Op.binOp BinOp.eql 23 (Operand.tmp 51) (Operand.tmp 52) 23, 4, _, #[{ on := 19, ground := Ground.data }, { on := 20, ground := Ground.data }, { on := 15, ground := Ground.guard }], some (15, true)⟩) (v := ?_) rfl (by kernel_rfl) (by kernel_rfl) (by kernel_rfl) (fun _ _ _ h => h) (Or.inl ⟨by rfl, ?_⟩) hHeld ?_
  rotate_left
  · (intro w1 hSw; (try dsimp only at hSw); go_simp; try (with_reducible rfl))
  try simp only [Act.put, List.setIfInBounds_toArray, List.set_cons_zero, List.set_cons_succ]
  refine wpAnyH_take (i := 22) (oi := ⟨some 54, Op.pick (Operand.tmp 47) (Operand.tmp 53) (Operand.const (Value.bool false)), 4, _, #[{ on := 15, ground := Ground.data }, { on := 21, ground := Ground.data }], none⟩) (v := ?_) rfl (by kernel_rfl) (by kernel_rfl) (by kernel_rfl) (fun _ _ _ h => h) (Or.inl ⟨by rfl, ?_⟩) hHeld ?_
  rotate_left
  · (intro w1 hSw; (try dsimp only at hSw); go_simp; try (with_reducible rfl))
  try simp only [Act.put, List.setIfInBounds_toArray, List.set_cons_zero, List.set_cons_succ]
  refine wpAnyH_take (i := 23) (oi := ⟨some 55, Op.move (Operand.tmp 54), 4, _, #[{ on := 22, ground := Ground.data }, { on := 19, ground := Ground.chain }], none⟩) (v := ?_) rfl (by kernel_rfl) (by kernel_rfl) (by kernel_rfl) (fun _ _ _ h => h) (Or.inl ⟨by rfl, ?_⟩) hHeld ?_
  rotate_left
  · (intro w1 hSw; (try dsimp only at hSw); go_simp; try (with_reducible rfl))
  try simp only [Act.put, List.setIfInBounds_toArray, List.set_cons_zero, List.set_cons_succ]
  refine wpAnyH_ready (rs := [24]) (by kernel_rfl) (by simp) ?_
  refine AllReadyH.cons (o := ⟨some 56, Op.call { callee := Callee.value (Operand.func 15), args := #[], argTypes := #[] }, 4, _, #[{ on := 23, ground := Ground.chain }, { on := 23, ground := Ground.guard }], some (23, true)⟩) rfl (fun K hK => ?_) AllReadyH.nil
  go_simp
  refine (awake_any _).mono ?_
  rintro e w1 ⟨rfl, hb1⟩
  refine hK.out _ _ (Held3.next hHeld hb1) (fun hH => ?_)
  clear hHeld hK K hb1
  have hHeld := hH
  clear hH
  try simp only [Act.put, List.setIfInBounds_toArray, List.set_cons_zero, List.set_cons_succ]
  refine wpAnyH_take (i := 25) (oi := ⟨some 57, Op.pick (Operand.tmp 55) (Operand.tmp 56) (Operand.const (Value.bool false)), 4, _, #[{ on := 23, ground := Ground.data }, { on := 24, ground := Ground.data }], none⟩) (v := ?_) rfl (by kernel_rfl) (by kernel_rfl) (by kernel_rfl) (fun _ _ _ h => h) (Or.inl ⟨by rfl, ?_⟩) hHeld ?_
  rotate_left
  · (intro w1 hSw; (try dsimp only at hSw); go_simp; try (with_reducible rfl))
  try simp only [Act.put, List.setIfInBounds_toArray, List.set_cons_zero, List.set_cons_succ]
  refine wpAnyH_take (i := 26) (oi := ⟨some 6, Op.assign (Operand.tmp 57), 4, _, #[{ on := 25, ground := Ground.data }, { on := 24, ground := Ground.chain }, { on := 0, ground := Ground.phase }, { on := 1, ground := Ground.phase }, { on := 2, ground := Ground.phase }, { on := 3, ground := Ground.phase }, { on := 4, ground := Ground.phase }, { on := 5, ground := Ground.phase }, { on := 6, ground := Ground.phase }, { on := 7, ground := Ground.phase }, { on := 8, ground := Ground.phase }, { on := 9, ground := Ground.phase }, { on := 10, ground := Ground.phase }, { on := 11, ground := Ground.phase }, { on := 12, ground := Ground.phase }, { on := 13, ground := Ground.phase }, { on := 14, ground := Ground.phase }, { on := 15, ground := Ground.phase }, { on := 16, ground := Ground.phase }, { on := 17, ground := Ground.phase }, { on := 18, ground := Ground.phase }, { on := 19, ground := Ground.phase }, { on := 20, ground := Ground.phase }, { on := 21, ground := Ground.phase }, { on := 22, ground := Ground.phase }, { on := 23, ground := Ground.phase }, { on := 24, ground := Ground.phase }, { on := 25, ground := Ground.phase }], none⟩) (v := ?_) rfl (by kernel_rfl) (by kernel_rfl) (by kernel_rfl) (fun _ _ _ h => h) (Or.inl ⟨by rfl, ?_⟩) hHeld ?_
  rotate_left
  · (intro w1 hSw; (try dsimp only at hSw); go_simp; try (with_reducible rfl))
  try simp only [Act.put, List.setIfInBounds_toArray, List.set_cons_zero, List.set_cons_succ]
  refine wpAnyH_done (by kernel_rfl) ?_ _
  go_wp2
  go_ret
  exact ⟨rfl, Held3.last hHeld⟩

theorem both_walk (a b : Int × Int) (n : Int) (w : World) (ha : In64 a) (hb : In64 b) :
    Calls Try.prog 5 #[.agg #[.int .i64 a.1, .int .i64 a.2], .agg #[.int .i64 b.1, .int .i64 b.2], .int .i64 n] w fun e w' => e = .returned (.bool true) ∧ Below w.heap.size w w' := by
  have h := both_has a b n
  cases hA : hasF a n
  · rw [hA, Bool.false_and] at h
    cases hE : emptyF (bothF [a, b])
    · exact both_walk_ff_false a b _ n w ha (both_in64 ha hb) rfl (both_swap a b) (both_within_l a b) (both_within_r a b) (both_size a b) hA h hE
    · exact both_walk_ff_true a b _ n w ha (both_in64 ha hb) rfl (both_swap a b) (both_within_l a b) (both_within_r a b) (both_size a b) hA h hE
  · cases hB : hasF b n
    · rw [hA, hB, Bool.and_false] at h
      cases hE : emptyF (bothF [a, b])
      · exact both_walk_tf_false a b _ n w ha (both_in64 ha hb) rfl (both_swap a b) (both_within_l a b) (both_within_r a b) (both_size a b) hA hB h hE
      · exact both_walk_tf_true a b _ n w ha (both_in64 ha hb) rfl (both_swap a b) (both_within_l a b) (both_within_r a b) (both_size a b) hA hB h hE
    · rw [hA, hB, Bool.and_true] at h
      cases hE : emptyF (bothF [a, b])
      · exact both_walk_tt_false a b _ n w ha (both_in64 ha hb) rfl (both_swap a b) (both_within_l a b) (both_within_r a b) (both_size a b) hA hB h hE
      · exact both_walk_tt_true a b _ n w ha (both_in64 ha hb) rfl (both_swap a b) (both_within_l a b) (both_within_r a b) (both_size a b) hA hB h hE

namespace SpanBoth
set_option maxRecDepth 100000 in
theorem lifted (os : Os) (started : os.Started) (H : Type) (enc : TypeId × Value → H) :
    ReturnsInHanded {} Try.checked os 5 .any (Rows.spanBothSpec.pre6 enc Try.prog Try.f5 Rows.spanBothRow.domain false) (Rows.spanBothSpec.post enc Try.prog Try.f5 false true false false) := by
  refine law_sized (C := Try.checked) (tb := 4) own started (by kernel_rfl) Try.func5
    (ChangeSpec.witness6 (enc := enc) (C := Try.checked) false ⟨#[], #[.agg #[.int .i64 0, .int .i64 0], .agg #[.int .i64 0, .int .i64 0], .int .i64 0], []⟩ 8 (by kernel_rfl) (by kernel_rfl) (by kernel_rfl) (by kernel_rfl))
    laid (by kernel_rfl) rfl (by kernel_rfl) Try.underlying4 (by intro ds h; match ds, h with | [_, _, _], _ => rfl) ?_
  intro W base args ds p hval0 hA0 hlt _
  have hval : ∀ (j : Nat) t v, Try.f5.params[j]? = some t → args[j]? = some v → Value.okWide Try.prog W .any base t v := hval0
  have hA : DataW.TrodAll enc Try.prog W 0 (fun _ => true) true Try.f5.params.toList args.toList ds p := hA0
  rw [Try.params5] at hA hval
  obtain ⟨v0, v1, v2, d0, d1, d2, p0, p1, p2, rfl, rfl, rfl, h0, h1, h2⟩ := trodAll_three hA
  obtain ⟨a, a', rfl, wa, wa'⟩ := open_pair Try.underlying23 (by kernel_rfl) rangeCells Try.underlying3 Try.underlying3 (hval 0 23 v0 rfl rfl) h0
  obtain ⟨b, b', rfl, wb, wb'⟩ := open_pair Try.underlying23 (by kernel_rfl) rangeCells Try.underlying3 Try.underlying3 (hval 1 23 v1 rfl rfl) h1
  obtain ⟨n, rfl, rfl, rfl, wn⟩ := open_int Try.underlying3 (hval 2 3 v2 rfl rfl) h2
  exact both_walk (a, a') (b, b') n W ⟨bounds_i64 wa, bounds_i64 wa'⟩ ⟨bounds_i64 wb, bounds_i64 wb'⟩

theorem holds : Rows.SpanBothSaid :=
  OpenClaim.holds_of_wide 5 Try.f5 rfl rfl rfl rfl rfl rfl rfl ⟨rfl, rfl, rfl, rfl, rfl⟩ rfl rfl rfl rfl rfl (by kernel_rfl) Try.func5 (by kernel_rfl)
    (of_decide_eq_true (by kernel_rfl)) (by unfold Func.isWrapper; first | (rw [if_pos (by decide +kernel)]; kernel_rfl) | (rw [if_neg (by decide +kernel)]; exact ⟨rfl, rfl⟩))
    (fun os started H enc _ => lifted os started H enc)
end SpanBoth
end Go.Proofs.Ytcdanilepikdeaa
