/-
  For any two ranges a, b and any number n: the walk through the law SpanCover where n is in a, in b, or in none of them (case ff).
-/
import Derived.Test.YtcdanilepikdeaaHeld
namespace Go.Proofs.Ytcdanilepikdeaa
set_option linter.unusedSimpArgs false
set_option linter.unusedVariables false
open Go.ChangeShapes Go.WideShapes Go.ChangeAt Go.RowKit Go.Joins Go.Deep

set_option maxHeartbeats 4000000 in
theorem cover_ff_ee (a b q : Int × Int) (n : Int) (w : World) (hq : coverF [a, b] = q) (hs : coverF [b, a] = q) (hwl : withinF a q = true) (hwr : withinF b q = true) (hA : hasF a n = false) (hB : hasF b n = false) (eA : emptyF a = true) (eB : emptyF b = true) (eQ : emptyF q = true) :
    Calls Try.prog 6 #[.agg #[.int .i64 a.1, .int .i64 a.2], .agg #[.int .i64 b.1, .int .i64 b.2], .int .i64 n] w fun e w' => e = .returned (.bool true) ∧ Below w.heap.size w w' := by
  have Hq := Lib.hid hq
  have Hs := Lib.hid hs
  clear hq hs
  go_enter Try.func6, Try.ntmps6
  go_wp2_with fail
  refine (cover_any _ _ _ [a, b] _ rfl ?_ ?_ (reads_two _ _ ?_ _ a b)).mono ?_
  · exact Nat.le_refl 2
  · decide
  · simp
  rw [Hq.out]
  rintro e w0 ⟨rfl, hb⟩
  have h1 : Held w w0 w.heap.size (w.heap.size + 1) 23 (.int .i64 a.1) (.int .i64 a.2) (.int .i64 b.1) (.int .i64 b.2) :=
    Held.step_alloc (wi := (w.alloc (.cells #[.int .i64 a.1, .int .i64 a.2] 23)).alloc (.cells #[.int .i64 b.1, .int .i64 b.2] 23))
      ⟨by omega, by omega, by go_grown, (Blk.new _ _ _).alloc _, by simpa using Blk.new (w.alloc _) _ _⟩ hb
  clear hb
  have h0 : Held3 w (w0.alloc (.cells #[.int .i64 q.1, .int .i64 q.2] 23)) w.heap.size (w.heap.size + 1) w0.heap.size 23 (.int .i64 a.1) (.int .i64 a.2) (.int .i64 b.1) (.int .i64 b.2) (.int .i64 q.1) (.int .i64 q.2) :=
    ⟨h1.alloc _, h1.2.2.1.size, Blk.new _ _ _⟩
  clear h1
  generalize hgc : w0.heap.size = gc at h0
  obtain ⟨c1, c2, c3, c4, c5, c6, _⟩ := h0.conds
  have H1 := Lib.hid h0
  clear h0
  go_wp2_with fail
  refine (within_r a q _).mono ?_
  rintro e w2 ⟨rfl, hb⟩
  have h2 := H1.out.step hb
  clear hb
  obtain ⟨c1, c2, c3, c4, c5, c6, _⟩ := h2.conds
  have H2 := Lib.hid h2
  clear h2
  go_wp2_with fail
  refine (within_r b q _).mono ?_
  rintro e w3 ⟨rfl, hb⟩
  have h3 := H2.out.step hb
  clear hb
  obtain ⟨c1, c2, c3, c4, c5, c6, _⟩ := h3.conds
  have H3 := Lib.hid h3
  clear h3
  go_wp2_with fail
  refine (has_r a n _).mono ?_
  rintro e w4 ⟨rfl, hb⟩
  have h4 := H3.out.step hb
  clear hb
  obtain ⟨c1, c2, c3, c4, c5, c6, _⟩ := h4.conds
  have H4 := Lib.hid h4
  clear h4
  go_wp2_with fail
  refine (has_r b n _).mono ?_
  rintro e w5 ⟨rfl, hb⟩
  have h5 := H4.out.step hb
  clear hb
  obtain ⟨c1, c2, c3, c4, c5, c6, _⟩ := h5.conds
  have H5 := Lib.hid h5
  clear h5
  go_wp2_with fail
  refine (empty_r a _).mono ?_
  rintro e w6 ⟨rfl, hb⟩
  have h6 := H5.out.step hb
  clear hb
  obtain ⟨c1, c2, c3, c4, c5, c6, _⟩ := h6.conds
  have H6 := Lib.hid h6
  clear h6
  go_wp2_with fail
  refine (empty_r b _).mono ?_
  rintro e w7 ⟨rfl, hb⟩
  have h7 := H6.out.step hb
  clear hb
  obtain ⟨c1, c2, c3, c4, c5, c6, _⟩ := h7.conds
  have H7 := Lib.hid h7
  clear h7
  go_wp2_with fail
  refine (empty_r q _).mono ?_
  rintro e w8 ⟨rfl, hb⟩
  have h8 := H7.out.step hb
  clear hb
  obtain ⟨c1, c2, c3, c4, c5, c6, _⟩ := h8.conds
  have H8 := Lib.hid h8
  clear h8
  go_wp2_with fail
  refine (awake_any _).mono ?_
  rintro e w9 ⟨rfl, hb⟩
  have h9 := H8.out.step hb
  clear hb
  obtain ⟨c1, c2, c3, c4, c5, c6, _⟩ := h9.conds
  have H9 := Lib.hid h9
  clear h9
  go_wp2
  go_ret
  exact ⟨rfl, H9.out.1.2.2.1⟩

set_option maxHeartbeats 4000000 in
theorem cover_ff_nll (a b q : Int × Int) (n : Int) (w : World) (hq : coverF [a, b] = q) (hs : coverF [b, a] = q) (hwl : withinF a q = true) (hwr : withinF b q = true) (hA : hasF a n = false) (hB : hasF b n = false) (eA : emptyF a = false) (h1a : (q.1 == a.1) = true) (h2a : (q.2 == a.2) = true) :
    Calls Try.prog 6 #[.agg #[.int .i64 a.1, .int .i64 a.2], .agg #[.int .i64 b.1, .int .i64 b.2], .int .i64 n] w fun e w' => e = .returned (.bool true) ∧ Below w.heap.size w w' := by
  have Hq := Lib.hid hq
  have Hs := Lib.hid hs
  clear hq hs
  go_enter Try.func6, Try.ntmps6
  go_wp2_with fail
  refine (cover_any _ _ _ [a, b] _ rfl ?_ ?_ (reads_two _ _ ?_ _ a b)).mono ?_
  · exact Nat.le_refl 2
  · decide
  · simp
  rw [Hq.out]
  rintro e w0 ⟨rfl, hb⟩
  have h1 : Held w w0 w.heap.size (w.heap.size + 1) 23 (.int .i64 a.1) (.int .i64 a.2) (.int .i64 b.1) (.int .i64 b.2) :=
    Held.step_alloc (wi := (w.alloc (.cells #[.int .i64 a.1, .int .i64 a.2] 23)).alloc (.cells #[.int .i64 b.1, .int .i64 b.2] 23))
      ⟨by omega, by omega, by go_grown, (Blk.new _ _ _).alloc _, by simpa using Blk.new (w.alloc _) _ _⟩ hb
  clear hb
  have h0 : Held3 w (w0.alloc (.cells #[.int .i64 q.1, .int .i64 q.2] 23)) w.heap.size (w.heap.size + 1) w0.heap.size 23 (.int .i64 a.1) (.int .i64 a.2) (.int .i64 b.1) (.int .i64 b.2) (.int .i64 q.1) (.int .i64 q.2) :=
    ⟨h1.alloc _, h1.2.2.1.size, Blk.new _ _ _⟩
  clear h1
  generalize hgc : w0.heap.size = gc at h0
  obtain ⟨c1, c2, c3, c4, c5, c6, _⟩ := h0.conds
  have H1 := Lib.hid h0
  clear h0
  go_wp2_with fail
  refine (within_r a q _).mono ?_
  rintro e w2 ⟨rfl, hb⟩
  have h2 := H1.out.step hb
  clear hb
  obtain ⟨c1, c2, c3, c4, c5, c6, _⟩ := h2.conds
  have H2 := Lib.hid h2
  clear h2
  go_wp2_with fail
  refine (within_r b q _).mono ?_
  rintro e w3 ⟨rfl, hb⟩
  have h3 := H2.out.step hb
  clear hb
  obtain ⟨c1, c2, c3, c4, c5, c6, _⟩ := h3.conds
  have H3 := Lib.hid h3
  clear h3
  go_wp2_with fail
  refine (has_r a n _).mono ?_
  rintro e w4 ⟨rfl, hb⟩
  have h4 := H3.out.step hb
  clear hb
  obtain ⟨c1, c2, c3, c4, c5, c6, _⟩ := h4.conds
  have H4 := Lib.hid h4
  clear h4
  go_wp2_with fail
  refine (has_r b n _).mono ?_
  rintro e w5 ⟨rfl, hb⟩
  have h5 := H4.out.step hb
  clear hb
  obtain ⟨c1, c2, c3, c4, c5, c6, _⟩ := h5.conds
  have H5 := Lib.hid h5
  clear h5
  go_wp2_with fail
  refine (empty_r a _).mono ?_
  rintro e w6 ⟨rfl, hb⟩
  have h6 := H5.out.step hb
  clear hb
  obtain ⟨c1, c2, c3, c4, c5, c6, _⟩ := h6.conds
  have H6 := Lib.hid h6
  clear h6
  go_wp2_with fail
  refine (empty_r a _).mono ?_
  rintro e w7 ⟨rfl, hb⟩
  have h7 := H6.out.step hb
  clear hb
  obtain ⟨c1, c2, c3, c4, c5, c6, _⟩ := h7.conds
  have H7 := Lib.hid h7
  clear h7
  go_wp2_with fail
  refine (empty_r a _).mono ?_
  rintro e w8 ⟨rfl, hb⟩
  have h8 := H7.out.step hb
  clear hb
  obtain ⟨c1, c2, c3, c4, c5, c6, _⟩ := h8.conds
  have H8 := Lib.hid h8
  clear h8
  go_wp2_with fail
  have h0 := H8.out
  refine wp_region_held_drew (S := (fun w' => w'.cell? ⟨w.heap.size, 0, none⟩ = some (.int .i64 a.1) ∧ w'.cell? ⟨w.heap.size, 1, none⟩ = some (.int .i64 a.2) ∧ w'.cell? ⟨w.heap.size + 1, 0, none⟩ = some (.int .i64 b.1) ∧ w'.cell? ⟨w.heap.size + 1, 1, none⟩ = some (.int .i64 b.2) ∧ w'.cell? ⟨gc, 0, none⟩ = some (.int .i64 q.1) ∧ w'.cell? ⟨gc, 1, none⟩ = some (.int .i64 q.2) ∧ Held3 w w' (w.heap.size) (w.heap.size + 1) (gc) 23 (.int .i64 a.1) (.int .i64 a.2) (.int .i64 b.1) (.int .i64 b.2) (.int .i64 q.1) (.int .i64 q.2))) (by kernel_rfl) ((Held3.drew h0).conds) (fun hHeld => ?_)
  refine wpAnyH_take (i := 0) (oi := ⟨some 95, Op.move (Operand.tmp 8), 4, _, #[], none⟩) (v := ?_) rfl (by kernel_rfl) (by kernel_rfl) (by kernel_rfl) (fun _ _ _ h => h) (Or.inl ⟨by rfl, ?_⟩) hHeld ?_
  rotate_left
  · (intro w1 hSw; (try dsimp only at hSw); go_simp; try (with_reducible rfl))
  try simp only [Act.put, List.setIfInBounds_toArray, List.set_cons_zero, List.set_cons_succ]
  refine wpAnyH_take (i := 1) (oi := ⟨some 96, Op.move (Operand.tmp 95), 4, _, #[{ on := 0, ground := Ground.data }], none⟩) (v := ?_) rfl (by kernel_rfl) (by kernel_rfl) (by kernel_rfl) (fun _ _ _ h => h) (Or.inl ⟨by rfl, ?_⟩) hHeld ?_
  rotate_left
  · (intro w1 hSw; (try dsimp only at hSw); go_simp; try (with_reducible rfl))
  try simp only [Act.put, List.setIfInBounds_toArray, List.set_cons_zero, List.set_cons_succ]
  refine wpAnyH_take (i := 2) (oi := ⟨some 97, Op.move (Operand.tmp 9), 4, _, #[{ on := 1, ground := Ground.guard }], some (1, true)⟩) (v := ?_) rfl (by kernel_rfl) (by kernel_rfl) (by kernel_rfl) (fun _ _ _ h => h) (Or.inl ⟨by rfl, ?_⟩) hHeld ?_
  rotate_left
  · (intro w1 hSw; (try dsimp only at hSw); go_simp; try (with_reducible rfl))
  try simp only [Act.put, List.setIfInBounds_toArray, List.set_cons_zero, List.set_cons_succ]
  refine wpAnyH_take (i := 3) (oi := ⟨some 98, Op.pick (Operand.tmp 96) (Operand.tmp 97) (Operand.const (Value.bool false)), 4, _, #[{ on := 1, ground := Ground.data }, { on := 2, ground := Ground.data }], none⟩) (v := ?_) rfl (by kernel_rfl) (by kernel_rfl) (by kernel_rfl) (fun _ _ _ h => h) (Or.inl ⟨by rfl, ?_⟩) hHeld ?_
  rotate_left
  · (intro w1 hSw; (try dsimp only at hSw); go_simp; try (with_reducible rfl))
  try simp only [Act.put, List.setIfInBounds_toArray, List.set_cons_zero, List.set_cons_succ]
  refine wpAnyH_take (i := 4) (oi := ⟨some 99, Op.move (Operand.tmp 98), 4, _, #[{ on := 3, ground := Ground.data }, { on := 1, ground := Ground.chain }], none⟩) (v := ?_) rfl (by kernel_rfl) (by kernel_rfl) (by kernel_rfl) (fun _ _ _ h => h) (Or.inl ⟨by rfl, ?_⟩) hHeld ?_
  rotate_left
  · (intro w1 hSw; (try dsimp only at hSw); go_simp; try (with_reducible rfl))
  try simp only [Act.put, List.setIfInBounds_toArray, List.set_cons_zero, List.set_cons_succ]
  refine wpAnyH_take (i := 5) (oi := ⟨some 100, Op.load 23 (Operand.tmp 4), 23, _, #[{ on := 4, ground := Ground.guard }], some (4, true)⟩) (v := ?_) rfl (by kernel_rfl) (by kernel_rfl) (by kernel_rfl) (fun _ _ _ h => h) (Or.inl ⟨by rfl, ?_⟩) hHeld ?_
  rotate_left
  · (intro w1 hSw; (try dsimp only at hSw); go_simp; try (with_reducible rfl))
  try simp only [Act.put, List.setIfInBounds_toArray, List.set_cons_zero, List.set_cons_succ]
  refine wpAnyH_take (i := 6) (oi := ⟨some 101, Op.load 23 (Operand.tmp 3), 23, _, #[{ on := 4, ground := Ground.guard }], some (4, true)⟩) (v := ?_) rfl (by kernel_rfl) (by kernel_rfl) (by kernel_rfl) (fun _ _ _ h => h) (Or.inl ⟨by rfl, ?_⟩) hHeld ?_
  rotate_left
  · (intro w1 hSw; (try dsimp only at hSw); go_simp; try (with_reducible rfl))
  try simp only [Act.put, List.setIfInBounds_toArray, List.set_cons_zero, List.set_cons_succ]
  refine wpAnyH_take (i := 9) (oi := ⟨some 104, Op.load 23 (Operand.tmp 7), 23, _, #[{ on := 4, ground := Ground.guard }], some (4, true)⟩) (v := ?_) rfl (by kernel_rfl) (by kernel_rfl) (by kernel_rfl) (fun _ _ _ h => h) (Or.inl ⟨by rfl, ?_⟩) hHeld ?_
  rotate_left
  · (intro w1 hSw; (try dsimp only at hSw); go_simp; try (with_reducible rfl))
  try simp only [Act.put, List.setIfInBounds_toArray, List.set_cons_zero, List.set_cons_succ]
  refine wpAnyH_ready (rs := [7]) (by kernel_rfl) (by simp) ?_
  refine AllReadyH.cons (o := ⟨some 102, Op.buildSlice 29 2 #[(0, Operand.tmp 100), (1, Operand.tmp 101)], 29, _, #[{ on := 5, ground := Ground.data }, { on := 6, ground := Ground.data }, { on := 4, ground := Ground.guard }], some (4, true)⟩) rfl (fun K hK => ?_) AllReadyH.nil
  go_simp
  refine hK.out _ _ (Held3.grow hHeld) (fun hH => ?_)
  clear hHeld hK K
  have hHeld := hH
  clear hH
  try simp only [Act.put, List.setIfInBounds_toArray, List.set_cons_zero, List.set_cons_succ]
  refine wpAnyH_ready (rs := [8]) (by kernel_rfl) (by simp) ?_
  refine AllReadyH.cons (o := ⟨some 103, Op.call { callee := Callee.value (Operand.func 18), args := #[Operand.tmp 102], argTypes := #[29] }, 23, _, #[{ on := 7, ground := Ground.data }, { on := 4, ground := Ground.chain }, { on := 4, ground := Ground.guard }], some (4, true)⟩) rfl (fun K hK => ?_) AllReadyH.nil
  go_simp
  refine (cover_any _ _ _ [b, a] _ rfl (Nat.le_refl 2) (by decide) (reads_two _ _ rfl _ b a).drew).mono ?_
  rw [Hs.out]
  rintro e w1 ⟨rfl, hb1⟩
  refine hK.out _ _ (Held3.next hHeld hb1) (fun hH => ?_)
  clear hHeld hK K hb1
  have hHeld := hH
  clear hH
  try simp only [Act.put, List.setIfInBounds_toArray, List.set_cons_zero, List.set_cons_succ]
  refine wpAnyH_take (i := 10) (oi := ⟨some 105, Op.binOp BinOp.eql 23 (Operand.tmp 103) (Operand.tmp 104) 23, 4, _, #[{ on := 8, ground := Ground.data }, { on := 9, ground := Ground.data }, { on := 4, ground := Ground.guard }], some (4, true)⟩) (v := ?_) rfl (by kernel_rfl) (by kernel_rfl) (by kernel_rfl) (fun _ _ _ h => h) (Or.inl ⟨by rfl, ?_⟩) hHeld ?_
  rotate_left
  · (intro w1 hSw; (try dsimp only at hSw); go_simp; try (with_reducible rfl))
  try simp only [Act.put, List.setIfInBounds_toArray, List.set_cons_zero, List.set_cons_succ]
  refine wpAnyH_take (i := 11) (oi := ⟨some 106, Op.pick (Operand.tmp 99) (Operand.tmp 105) (Operand.const (Value.bool false)), 4, _, #[{ on := 4, ground := Ground.data }, { on := 10, ground := Ground.data }], none⟩) (v := ?_) rfl (by kernel_rfl) (by kernel_rfl) (by kernel_rfl) (fun _ _ _ h => h) (Or.inl ⟨by rfl, ?_⟩) hHeld ?_
  rotate_left
  · (intro w1 hSw; (try dsimp only at hSw); go_simp; try (with_reducible rfl))
  try simp only [Act.put, List.setIfInBounds_toArray, List.set_cons_zero, List.set_cons_succ]
  refine wpAnyH_take (i := 12) (oi := ⟨some 107, Op.move (Operand.tmp 106), 4, _, #[{ on := 11, ground := Ground.data }, { on := 8, ground := Ground.chain }], none⟩) (v := ?_) rfl (by kernel_rfl) (by kernel_rfl) (by kernel_rfl) (fun _ _ _ h => h) (Or.inl ⟨by rfl, ?_⟩) hHeld ?_
  rotate_left
  · (intro w1 hSw; (try dsimp only at hSw); go_simp; try (with_reducible rfl))
  try simp only [Act.put, List.setIfInBounds_toArray, List.set_cons_zero, List.set_cons_succ]
  refine wpAnyH_ready (rs := [13]) (by kernel_rfl) (by simp) ?_
  refine AllReadyH.cons (o := ⟨some 108, Op.call { callee := Callee.value (Operand.func 15), args := #[], argTypes := #[] }, 4, _, #[{ on := 12, ground := Ground.chain }, { on := 12, ground := Ground.guard }], some (12, true)⟩) rfl (fun K hK => ?_) AllReadyH.nil
  go_simp
  refine (awake_any _).mono ?_
  rintro e w1 ⟨rfl, hb1⟩
  refine hK.out _ _ (Held3.next hHeld hb1) (fun hH => ?_)
  clear hHeld hK K hb1
  have hHeld := hH
  clear hH
  try simp only [Act.put, List.setIfInBounds_toArray, List.set_cons_zero, List.set_cons_succ]
  refine wpAnyH_take (i := 14) (oi := ⟨some 109, Op.pick (Operand.tmp 107) (Operand.tmp 108) (Operand.const (Value.bool false)), 4, _, #[{ on := 12, ground := Ground.data }, { on := 13, ground := Ground.data }], none⟩) (v := ?_) rfl (by kernel_rfl) (by kernel_rfl) (by kernel_rfl) (fun _ _ _ h => h) (Or.inl ⟨by rfl, ?_⟩) hHeld ?_
  rotate_left
  · (intro w1 hSw; (try dsimp only at hSw); go_simp; try (with_reducible rfl))
  try simp only [Act.put, List.setIfInBounds_toArray, List.set_cons_zero, List.set_cons_succ]
  refine wpAnyH_take (i := 15) (oi := ⟨some 6, Op.assign (Operand.tmp 109), 4, _, #[{ on := 14, ground := Ground.data }, { on := 13, ground := Ground.chain }, { on := 0, ground := Ground.phase }, { on := 1, ground := Ground.phase }, { on := 2, ground := Ground.phase }, { on := 3, ground := Ground.phase }, { on := 4, ground := Ground.phase }, { on := 5, ground := Ground.phase }, { on := 6, ground := Ground.phase }, { on := 7, ground := Ground.phase }, { on := 8, ground := Ground.phase }, { on := 9, ground := Ground.phase }, { on := 10, ground := Ground.phase }, { on := 11, ground := Ground.phase }, { on := 12, ground := Ground.phase }, { on := 13, ground := Ground.phase }, { on := 14, ground := Ground.phase }], none⟩) (v := ?_) rfl (by kernel_rfl) (by kernel_rfl) (by kernel_rfl) (fun _ _ _ h => h) (Or.inl ⟨by rfl, ?_⟩) hHeld ?_
  rotate_left
  · (intro w1 hSw; (try dsimp only at hSw); go_simp; try (with_reducible rfl))
  try simp only [Act.put, List.setIfInBounds_toArray, List.set_cons_zero, List.set_cons_succ]
  refine wpAnyH_done (by kernel_rfl) ?_ _
  go_wp2
  go_ret
  exact ⟨rfl, Held3.last hHeld⟩

set_option maxHeartbeats 4000000 in
theorem cover_ff_nlr (a b q : Int × Int) (n : Int) (w : World) (hq : coverF [a, b] = q) (hs : coverF [b, a] = q) (hwl : withinF a q = true) (hwr : withinF b q = true) (hA : hasF a n = false) (hB : hasF b n = false) (eA : emptyF a = false) (eB : emptyF b = false) (h1a : (q.1 == a.1) = true) (h2a : (q.2 == a.2) = false) (h2b : (q.2 == b.2) = true) :
    Calls Try.prog 6 #[.agg #[.int .i64 a.1, .int .i64 a.2], .agg #[.int .i64 b.1, .int .i64 b.2], .int .i64 n] w fun e w' => e = .returned (.bool true) ∧ Below w.heap.size w w' := by
  have Hq := Lib.hid hq
  have Hs := Lib.hid hs
  clear hq hs
  go_enter Try.func6, Try.ntmps6
  go_wp2_with fail
  refine (cover_any _ _ _ [a, b] _ rfl ?_ ?_ (reads_two _ _ ?_ _ a b)).mono ?_
  · exact Nat.le_refl 2
  · decide
  · simp
  rw [Hq.out]
  rintro e w0 ⟨rfl, hb⟩
  have h1 : Held w w0 w.heap.size (w.heap.size + 1) 23 (.int .i64 a.1) (.int .i64 a.2) (.int .i64 b.1) (.int .i64 b.2) :=
    Held.step_alloc (wi := (w.alloc (.cells #[.int .i64 a.1, .int .i64 a.2] 23)).alloc (.cells #[.int .i64 b.1, .int .i64 b.2] 23))
      ⟨by omega, by omega, by go_grown, (Blk.new _ _ _).alloc _, by simpa using Blk.new (w.alloc _) _ _⟩ hb
  clear hb
  have h0 : Held3 w (w0.alloc (.cells #[.int .i64 q.1, .int .i64 q.2] 23)) w.heap.size (w.heap.size + 1) w0.heap.size 23 (.int .i64 a.1) (.int .i64 a.2) (.int .i64 b.1) (.int .i64 b.2) (.int .i64 q.1) (.int .i64 q.2) :=
    ⟨h1.alloc _, h1.2.2.1.size, Blk.new _ _ _⟩
  clear h1
  generalize hgc : w0.heap.size = gc at h0
  obtain ⟨c1, c2, c3, c4, c5, c6, _⟩ := h0.conds
  have H1 := Lib.hid h0
  clear h0
  go_wp2_with fail
  refine (within_r a q _).mono ?_
  rintro e w2 ⟨rfl, hb⟩
  have h2 := H1.out.step hb
  clear hb
  obtain ⟨c1, c2, c3, c4, c5, c6, _⟩ := h2.conds
  have H2 := Lib.hid h2
  clear h2
  go_wp2_with fail
  refine (within_r b q _).mono ?_
  rintro e w3 ⟨rfl, hb⟩
  have h3 := H2.out.step hb
  clear hb
  obtain ⟨c1, c2, c3, c4, c5, c6, _⟩ := h3.conds
  have H3 := Lib.hid h3
  clear h3
  go_wp2_with fail
  refine (has_r a n _).mono ?_
  rintro e w4 ⟨rfl, hb⟩
  have h4 := H3.out.step hb
  clear hb
  obtain ⟨c1, c2, c3, c4, c5, c6, _⟩ := h4.conds
  have H4 := Lib.hid h4
  clear h4
  go_wp2_with fail
  refine (has_r b n _).mono ?_
  rintro e w5 ⟨rfl, hb⟩
  have h5 := H4.out.step hb
  clear hb
  obtain ⟨c1, c2, c3, c4, c5, c6, _⟩ := h5.conds
  have H5 := Lib.hid h5
  clear h5
  go_wp2_with fail
  refine (empty_r a _).mono ?_
  rintro e w6 ⟨rfl, hb⟩
  have h6 := H5.out.step hb
  clear hb
  obtain ⟨c1, c2, c3, c4, c5, c6, _⟩ := h6.conds
  have H6 := Lib.hid h6
  clear h6
  go_wp2_with fail
  refine (empty_r a _).mono ?_
  rintro e w7 ⟨rfl, hb⟩
  have h7 := H6.out.step hb
  clear hb
  obtain ⟨c1, c2, c3, c4, c5, c6, _⟩ := h7.conds
  have H7 := Lib.hid h7
  clear h7
  go_wp2_with fail
  refine (empty_r b _).mono ?_
  rintro e w8 ⟨rfl, hb⟩
  have h8 := H7.out.step hb
  clear hb
  obtain ⟨c1, c2, c3, c4, c5, c6, _⟩ := h8.conds
  have H8 := Lib.hid h8
  clear h8
  go_wp2_with fail
  have h0 := H8.out
  refine wp_region_held_drew (S := (fun w' => w'.cell? ⟨w.heap.size, 0, none⟩ = some (.int .i64 a.1) ∧ w'.cell? ⟨w.heap.size, 1, none⟩ = some (.int .i64 a.2) ∧ w'.cell? ⟨w.heap.size + 1, 0, none⟩ = some (.int .i64 b.1) ∧ w'.cell? ⟨w.heap.size + 1, 1, none⟩ = some (.int .i64 b.2) ∧ w'.cell? ⟨gc, 0, none⟩ = some (.int .i64 q.1) ∧ w'.cell? ⟨gc, 1, none⟩ = some (.int .i64 q.2) ∧ Held3 w w' (w.heap.size) (w.heap.size + 1) (gc) 23 (.int .i64 a.1) (.int .i64 a.2) (.int .i64 b.1) (.int .i64 b.2) (.int .i64 q.1) (.int .i64 q.2))) (by kernel_rfl) ((Held3.drew h0).conds) (fun hHeld => ?_)
  refine wpAnyH_take (i := 0) (oi := ⟨some 95, Op.move (Operand.tmp 8), 4, _, #[], none⟩) (v := ?_) rfl (by kernel_rfl) (by kernel_rfl) (by kernel_rfl) (fun _ _ _ h => h) (Or.inl ⟨by rfl, ?_⟩) hHeld ?_
  rotate_left
  · (intro w1 hSw; (try dsimp only at hSw); go_simp; try (with_reducible rfl))
  try simp only [Act.put, List.setIfInBounds_toArray, List.set_cons_zero, List.set_cons_succ]
  refine wpAnyH_take (i := 1) (oi := ⟨some 96, Op.move (Operand.tmp 95), 4, _, #[{ on := 0, ground := Ground.data }], none⟩) (v := ?_) rfl (by kernel_rfl) (by kernel_rfl) (by kernel_rfl) (fun _ _ _ h => h) (Or.inl ⟨by rfl, ?_⟩) hHeld ?_
  rotate_left
  · (intro w1 hSw; (try dsimp only at hSw); go_simp; try (with_reducible rfl))
  try simp only [Act.put, List.setIfInBounds_toArray, List.set_cons_zero, List.set_cons_succ]
  refine wpAnyH_take (i := 2) (oi := ⟨some 97, Op.move (Operand.tmp 9), 4, _, #[{ on := 1, ground := Ground.guard }], some (1, true)⟩) (v := ?_) rfl (by kernel_rfl) (by kernel_rfl) (by kernel_rfl) (fun _ _ _ h => h) (Or.inl ⟨by rfl, ?_⟩) hHeld ?_
  rotate_left
  · (intro w1 hSw; (try dsimp only at hSw); go_simp; try (with_reducible rfl))
  try simp only [Act.put, List.setIfInBounds_toArray, List.set_cons_zero, List.set_cons_succ]
  refine wpAnyH_take (i := 3) (oi := ⟨some 98, Op.pick (Operand.tmp 96) (Operand.tmp 97) (Operand.const (Value.bool false)), 4, _, #[{ on := 1, ground := Ground.data }, { on := 2, ground := Ground.data }], none⟩) (v := ?_) rfl (by kernel_rfl) (by kernel_rfl) (by kernel_rfl) (fun _ _ _ h => h) (Or.inl ⟨by rfl, ?_⟩) hHeld ?_
  rotate_left
  · (intro w1 hSw; (try dsimp only at hSw); go_simp; try (with_reducible rfl))
  try simp only [Act.put, List.setIfInBounds_toArray, List.set_cons_zero, List.set_cons_succ]
  refine wpAnyH_take (i := 4) (oi := ⟨some 99, Op.move (Operand.tmp 98), 4, _, #[{ on := 3, ground := Ground.data }, { on := 1, ground := Ground.chain }], none⟩) (v := ?_) rfl (by kernel_rfl) (by kernel_rfl) (by kernel_rfl) (fun _ _ _ h => h) (Or.inl ⟨by rfl, ?_⟩) hHeld ?_
  rotate_left
  · (intro w1 hSw; (try dsimp only at hSw); go_simp; try (with_reducible rfl))
  try simp only [Act.put, List.setIfInBounds_toArray, List.set_cons_zero, List.set_cons_succ]
  refine wpAnyH_take (i := 5) (oi := ⟨some 100, Op.load 23 (Operand.tmp 4), 23, _, #[{ on := 4, ground := Ground.guard }], some (4, true)⟩) (v := ?_) rfl (by kernel_rfl) (by kernel_rfl) (by kernel_rfl) (fun _ _ _ h => h) (Or.inl ⟨by rfl, ?_⟩) hHeld ?_
  rotate_left
  · (intro w1 hSw; (try dsimp only at hSw); go_simp; try (with_reducible rfl))
  try simp only [Act.put, List.setIfInBounds_toArray, List.set_cons_zero, List.set_cons_succ]
  refine wpAnyH_take (i := 6) (oi := ⟨some 101, Op.load 23 (Operand.tmp 3), 23, _, #[{ on := 4, ground := Ground.guard }], some (4, true)⟩) (v := ?_) rfl (by kernel_rfl) (by kernel_rfl) (by kernel_rfl) (fun _ _ _ h => h) (Or.inl ⟨by rfl, ?_⟩) hHeld ?_
  rotate_left
  · (intro w1 hSw; (try dsimp only at hSw); go_simp; try (with_reducible rfl))
  try simp only [Act.put, List.setIfInBounds_toArray, List.set_cons_zero, List.set_cons_succ]
  refine wpAnyH_take (i := 9) (oi := ⟨some 104, Op.load 23 (Operand.tmp 7), 23, _, #[{ on := 4, ground := Ground.guard }], some (4, true)⟩) (v := ?_) rfl (by kernel_rfl) (by kernel_rfl) (by kernel_rfl) (fun _ _ _ h => h) (Or.inl ⟨by rfl, ?_⟩) hHeld ?_
  rotate_left
  · (intro w1 hSw; (try dsimp only at hSw); go_simp; try (with_reducible rfl))
  try simp only [Act.put, List.setIfInBounds_toArray, List.set_cons_zero, List.set_cons_succ]
  refine wpAnyH_ready (rs := [7]) (by kernel_rfl) (by simp) ?_
  refine AllReadyH.cons (o := ⟨some 102, Op.buildSlice 29 2 #[(0, Operand.tmp 100), (1, Operand.tmp 101)], 29, _, #[{ on := 5, ground := Ground.data }, { on := 6, ground := Ground.data }, { on := 4, ground := Ground.guard }], some (4, true)⟩) rfl (fun K hK => ?_) AllReadyH.nil
  go_simp
  refine hK.out _ _ (Held3.grow hHeld) (fun hH => ?_)
  clear hHeld hK K
  have hHeld := hH
  clear hH
  try simp only [Act.put, List.setIfInBounds_toArray, List.set_cons_zero, List.set_cons_succ]
  refine wpAnyH_ready (rs := [8]) (by kernel_rfl) (by simp) ?_
  refine AllReadyH.cons (o := ⟨some 103, Op.call { callee := Callee.value (Operand.func 18), args := #[Operand.tmp 102], argTypes := #[29] }, 23, _, #[{ on := 7, ground := Ground.data }, { on := 4, ground := Ground.chain }, { on := 4, ground := Ground.guard }], some (4, true)⟩) rfl (fun K hK => ?_) AllReadyH.nil
  go_simp
  refine (cover_any _ _ _ [b, a] _ rfl (Nat.le_refl 2) (by decide) (reads_two _ _ rfl _ b a).drew).mono ?_
  rw [Hs.out]
  rintro e w1 ⟨rfl, hb1⟩
  refine hK.out _ _ (Held3.next hHeld hb1) (fun hH => ?_)
  clear hHeld hK K hb1
  have hHeld := hH
  clear hH
  try simp only [Act.put, List.setIfInBounds_toArray, List.set_cons_zero, List.set_cons_succ]
  refine wpAnyH_take (i := 10) (oi := ⟨some 105, Op.binOp BinOp.eql 23 (Operand.tmp 103) (Operand.tmp 104) 23, 4, _, #[{ on := 8, ground := Ground.data }, { on := 9, ground := Ground.data }, { on := 4, ground := Ground.guard }], some (4, true)⟩) (v := ?_) rfl (by kernel_rfl) (by kernel_rfl) (by kernel_rfl) (fun _ _ _ h => h) (Or.inl ⟨by rfl, ?_⟩) hHeld ?_
  rotate_left
  · (intro w1 hSw; (try dsimp only at hSw); go_simp; try (with_reducible rfl))
  try simp only [Act.put, List.setIfInBounds_toArray, List.set_cons_zero, List.set_cons_succ]
  refine wpAnyH_take (i := 11) (oi := ⟨some 106, Op.pick (Operand.tmp 99) (Operand.tmp 105) (Operand.const (Value.bool false)), 4, _, #[{ on := 4, ground := Ground.data }, { on := 10, ground := Ground.data }], none⟩) (v := ?_) rfl (by kernel_rfl) (by kernel_rfl) (by kernel_rfl) (fun _ _ _ h => h) (Or.inl ⟨by rfl, ?_⟩) hHeld ?_
  rotate_left
  · (intro w1 hSw; (try dsimp only at hSw); go_simp; try (with_reducible rfl))
  try simp only [Act.put, List.setIfInBounds_toArray, List.set_cons_zero, List.set_cons_succ]
  refine wpAnyH_take (i := 12) (oi := ⟨some 107, Op.move (Operand.tmp 106), 4, _, #[{ on := 11, ground := Ground.data }, { on := 8, ground := Ground.chain }], none⟩) (v := ?_) rfl (by kernel_rfl) (by kernel_rfl) (by kernel_rfl) (fun _ _ _ h => h) (Or.inl ⟨by rfl, ?_⟩) hHeld ?_
  rotate_left
  · (intro w1 hSw; (try dsimp only at hSw); go_simp; try (with_reducible rfl))
  try simp only [Act.put, List.setIfInBounds_toArray, List.set_cons_zero, List.set_cons_succ]
  refine wpAnyH_ready (rs := [13]) (by kernel_rfl) (by simp) ?_
  refine AllReadyH.cons (o := ⟨some 108, Op.call { callee := Callee.value (Operand.func 15), args := #[], argTypes := #[] }, 4, _, #[{ on := 12, ground := Ground.chain }, { on := 12, ground := Ground.guard }], some (12, true)⟩) rfl (fun K hK => ?_) AllReadyH.nil
  go_simp
  refine (awake_any _).mono ?_
  rintro e w1 ⟨rfl, hb1⟩
  refine hK.out _ _ (Held3.next hHeld hb1) (fun hH => ?_)
  clear hHeld hK K hb1
  have hHeld := hH
  clear hH
  try simp only [Act.put, List.setIfInBounds_toArray, List.set_cons_zero, List.set_cons_succ]
  refine wpAnyH_take (i := 14) (oi := ⟨some 109, Op.pick (Operand.tmp 107) (Operand.tmp 108) (Operand.const (Value.bool false)), 4, _, #[{ on := 12, ground := Ground.data }, { on := 13, ground := Ground.data }], none⟩) (v := ?_) rfl (by kernel_rfl) (by kernel_rfl) (by kernel_rfl) (fun _ _ _ h => h) (Or.inl ⟨by rfl, ?_⟩) hHeld ?_
  rotate_left
  · (intro w1 hSw; (try dsimp only at hSw); go_simp; try (with_reducible rfl))
  try simp only [Act.put, List.setIfInBounds_toArray, List.set_cons_zero, List.set_cons_succ]
  refine wpAnyH_take (i := 15) (oi := ⟨some 6, Op.assign (Operand.tmp 109), 4, _, #[{ on := 14, ground := Ground.data }, { on := 13, ground := Ground.chain }, { on := 0, ground := Ground.phase }, { on := 1, ground := Ground.phase }, { on := 2, ground := Ground.phase }, { on := 3, ground := Ground.phase }, { on := 4, ground := Ground.phase }, { on := 5, ground := Ground.phase }, { on := 6, ground := Ground.phase }, { on := 7, ground := Ground.phase }, { on := 8, ground := Ground.phase }, { on := 9, ground := Ground.phase }, { on := 10, ground := Ground.phase }, { on := 11, ground := Ground.phase }, { on := 12, ground := Ground.phase }, { on := 13, ground := Ground.phase }, { on := 14, ground := Ground.phase }], none⟩) (v := ?_) rfl (by kernel_rfl) (by kernel_rfl) (by kernel_rfl) (fun _ _ _ h => h) (Or.inl ⟨by rfl, ?_⟩) hHeld ?_
  rotate_left
  · (intro w1 hSw; (try dsimp only at hSw); go_simp; try (with_reducible rfl))
  try simp only [Act.put, List.setIfInBounds_toArray, List.set_cons_zero, List.set_cons_succ]
  refine wpAnyH_done (by kernel_rfl) ?_ _
  go_wp2
  go_ret
  exact ⟨rfl, Held3.last hHeld⟩

set_option maxHeartbeats 4000000 in
theorem cover_ff_nrl (a b q : Int × Int) (n : Int) (w : World) (hq : coverF [a, b] = q) (hs : coverF [b, a] = q) (hwl : withinF a q = true) (hwr : withinF b q = true) (hA : hasF a n = false) (hB : hasF b n = false) (eA : emptyF a = false) (eB : emptyF b = false) (h1a : (q.1 == a.1) = false) (h1b : (q.1 == b.1) = true) (h2a : (q.2 == a.2) = true) :
    Calls Try.prog 6 #[.agg #[.int .i64 a.1, .int .i64 a.2], .agg #[.int .i64 b.1, .int .i64 b.2], .int .i64 n] w fun e w' => e = .returned (.bool true) ∧ Below w.heap.size w w' := by
  have Hq := Lib.hid hq
  have Hs := Lib.hid hs
  clear hq hs
  go_enter Try.func6, Try.ntmps6
  go_wp2_with fail
  refine (cover_any _ _ _ [a, b] _ rfl ?_ ?_ (reads_two _ _ ?_ _ a b)).mono ?_
  · exact Nat.le_refl 2
  · decide
  · simp
  rw [Hq.out]
  rintro e w0 ⟨rfl, hb⟩
  have h1 : Held w w0 w.heap.size (w.heap.size + 1) 23 (.int .i64 a.1) (.int .i64 a.2) (.int .i64 b.1) (.int .i64 b.2) :=
    Held.step_alloc (wi := (w.alloc (.cells #[.int .i64 a.1, .int .i64 a.2] 23)).alloc (.cells #[.int .i64 b.1, .int .i64 b.2] 23))
      ⟨by omega, by omega, by go_grown, (Blk.new _ _ _).alloc _, by simpa using Blk.new (w.alloc _) _ _⟩ hb
  clear hb
  have h0 : Held3 w (w0.alloc (.cells #[.int .i64 q.1, .int .i64 q.2] 23)) w.heap.size (w.heap.size + 1) w0.heap.size 23 (.int .i64 a.1) (.int .i64 a.2) (.int .i64 b.1) (.int .i64 b.2) (.int .i64 q.1) (.int .i64 q.2) :=
    ⟨h1.alloc _, h1.2.2.1.size, Blk.new _ _ _⟩
  clear h1
  generalize hgc : w0.heap.size = gc at h0
  obtain ⟨c1, c2, c3, c4, c5, c6, _⟩ := h0.conds
  have H1 := Lib.hid h0
  clear h0
  go_wp2_with fail
  refine (within_r a q _).mono ?_
  rintro e w2 ⟨rfl, hb⟩
  have h2 := H1.out.step hb
  clear hb
  obtain ⟨c1, c2, c3, c4, c5, c6, _⟩ := h2.conds
  have H2 := Lib.hid h2
  clear h2
  go_wp2_with fail
  refine (within_r b q _).mono ?_
  rintro e w3 ⟨rfl, hb⟩
  have h3 := H2.out.step hb
  clear hb
  obtain ⟨c1, c2, c3, c4, c5, c6, _⟩ := h3.conds
  have H3 := Lib.hid h3
  clear h3
  go_wp2_with fail
  refine (has_r a n _).mono ?_
  rintro e w4 ⟨rfl, hb⟩
  have h4 := H3.out.step hb
  clear hb
  obtain ⟨c1, c2, c3, c4, c5, c6, _⟩ := h4.conds
  have H4 := Lib.hid h4
  clear h4
  go_wp2_with fail
  refine (has_r b n _).mono ?_
  rintro e w5 ⟨rfl, hb⟩
  have h5 := H4.out.step hb
  clear hb
  obtain ⟨c1, c2, c3, c4, c5, c6, _⟩ := h5.conds
  have H5 := Lib.hid h5
  clear h5
  go_wp2_with fail
  refine (empty_r a _).mono ?_
  rintro e w6 ⟨rfl, hb⟩
  have h6 := H5.out.step hb
  clear hb
  obtain ⟨c1, c2, c3, c4, c5, c6, _⟩ := h6.conds
  have H6 := Lib.hid h6
  clear h6
  go_wp2_with fail
  refine (empty_r b _).mono ?_
  rintro e w7 ⟨rfl, hb⟩
  have h7 := H6.out.step hb
  clear hb
  obtain ⟨c1, c2, c3, c4, c5, c6, _⟩ := h7.conds
  have H7 := Lib.hid h7
  clear h7
  go_wp2_with fail
  refine (empty_r a _).mono ?_
  rintro e w8 ⟨rfl, hb⟩
  have h8 := H7.out.step hb
  clear hb
  obtain ⟨c1, c2, c3, c4, c5, c6, _⟩ := h8.conds
  have H8 := Lib.hid h8
  clear h8
  go_wp2_with fail
  have h0 := H8.out
  refine wp_region_held_drew (S := (fun w' => w'.cell? ⟨w.heap.size, 0, none⟩ = some (.int .i64 a.1) ∧ w'.cell? ⟨w.heap.size, 1, none⟩ = some (.int .i64 a.2) ∧ w'.cell? ⟨w.heap.size + 1, 0, none⟩ = some (.int .i64 b.1) ∧ w'.cell? ⟨w.heap.size + 1, 1, none⟩ = some (.int .i64 b.2) ∧ w'.cell? ⟨gc, 0, none⟩ = some (.int .i64 q.1) ∧ w'.cell? ⟨gc, 1, none⟩ = some (.int .i64 q.2) ∧ Held3 w w' (w.heap.size) (w.heap.size + 1) (gc) 23 (.int .i64 a.1) (.int .i64 a.2) (.int .i64 b.1) (.int .i64 b.2) (.int .i64 q.1) (.int .i64 q.2))) (by kernel_rfl) ((Held3.drew h0).conds) (fun hHeld => ?_)
  refine wpAnyH_take (i := 0) (oi := ⟨some 95, Op.move (Operand.tmp 8), 4, _, #[], none⟩) (v := ?_) rfl (by kernel_rfl) (by kernel_rfl) (by kernel_rfl) (fun _ _ _ h => h) (Or.inl ⟨by rfl, ?_⟩) hHeld ?_
  rotate_left
  · (intro w1 hSw; (try dsimp only at hSw); go_simp; try (with_reducible rfl))
  try simp only [Act.put, List.setIfInBounds_toArray, List.set_cons_zero, List.set_cons_succ]
  refine wpAnyH_take (i := 1) (oi := ⟨some 96, Op.move (Operand.tmp 95), 4, _, #[{ on := 0, ground := Ground.data }], none⟩) (v := ?_) rfl (by kernel_rfl) (by kernel_rfl) (by kernel_rfl) (fun _ _ _ h => h) (Or.inl ⟨by rfl, ?_⟩) hHeld ?_
  rotate_left
  · (intro w1 hSw; (try dsimp only at hSw); go_simp; try (with_reducible rfl))
  try simp only [Act.put, List.setIfInBounds_toArray, List.set_cons_zero, List.set_cons_succ]
  refine wpAnyH_take (i := 2) (oi := ⟨some 97, Op.move (Operand.tmp 9), 4, _, #[{ on := 1, ground := Ground.guard }], some (1, true)⟩) (v := ?_) rfl (by kernel_rfl) (by kernel_rfl) (by kernel_rfl) (fun _ _ _ h => h) (Or.inl ⟨by rfl, ?_⟩) hHeld ?_
  rotate_left
  · (intro w1 hSw; (try dsimp only at hSw); go_simp; try (with_reducible rfl))
  try simp only [Act.put, List.setIfInBounds_toArray, List.set_cons_zero, List.set_cons_succ]
  refine wpAnyH_take (i := 3) (oi := ⟨some 98, Op.pick (Operand.tmp 96) (Operand.tmp 97) (Operand.const (Value.bool false)), 4, _, #[{ on := 1, ground := Ground.data }, { on := 2, ground := Ground.data }], none⟩) (v := ?_) rfl (by kernel_rfl) (by kernel_rfl) (by kernel_rfl) (fun _ _ _ h => h) (Or.inl ⟨by rfl, ?_⟩) hHeld ?_
  rotate_left
  · (intro w1 hSw; (try dsimp only at hSw); go_simp; try (with_reducible rfl))
  try simp only [Act.put, List.setIfInBounds_toArray, List.set_cons_zero, List.set_cons_succ]
  refine wpAnyH_take (i := 4) (oi := ⟨some 99, Op.move (Operand.tmp 98), 4, _, #[{ on := 3, ground := Ground.data }, { on := 1, ground := Ground.chain }], none⟩) (v := ?_) rfl (by kernel_rfl) (by kernel_rfl) (by kernel_rfl) (fun _ _ _ h => h) (Or.inl ⟨by rfl, ?_⟩) hHeld ?_
  rotate_left
  · (intro w1 hSw; (try dsimp only at hSw); go_simp; try (with_reducible rfl))
  try simp only [Act.put, List.setIfInBounds_toArray, List.set_cons_zero, List.set_cons_succ]
  refine wpAnyH_take (i := 5) (oi := ⟨some 100, Op.load 23 (Operand.tmp 4), 23, _, #[{ on := 4, ground := Ground.guard }], some (4, true)⟩) (v := ?_) rfl (by kernel_rfl) (by kernel_rfl) (by kernel_rfl) (fun _ _ _ h => h) (Or.inl ⟨by rfl, ?_⟩) hHeld ?_
  rotate_left
  · (intro w1 hSw; (try dsimp only at hSw); go_simp; try (with_reducible rfl))
  try simp only [Act.put, List.setIfInBounds_toArray, List.set_cons_zero, List.set_cons_succ]
  refine wpAnyH_take (i := 6) (oi := ⟨some 101, Op.load 23 (Operand.tmp 3), 23, _, #[{ on := 4, ground := Ground.guard }], some (4, true)⟩) (v := ?_) rfl (by kernel_rfl) (by kernel_rfl) (by kernel_rfl) (fun _ _ _ h => h) (Or.inl ⟨by rfl, ?_⟩) hHeld ?_
  rotate_left
  · (intro w1 hSw; (try dsimp only at hSw); go_simp; try (with_reducible rfl))
  try simp only [Act.put, List.setIfInBounds_toArray, List.set_cons_zero, List.set_cons_succ]
  refine wpAnyH_take (i := 9) (oi := ⟨some 104, Op.load 23 (Operand.tmp 7), 23, _, #[{ on := 4, ground := Ground.guard }], some (4, true)⟩) (v := ?_) rfl (by kernel_rfl) (by kernel_rfl) (by kernel_rfl) (fun _ _ _ h => h) (Or.inl ⟨by rfl, ?_⟩) hHeld ?_
  rotate_left
  · (intro w1 hSw; (try dsimp only at hSw); go_simp; try (with_reducible rfl))
  try simp only [Act.put, List.setIfInBounds_toArray, List.set_cons_zero, List.set_cons_succ]
  refine wpAnyH_ready (rs := [7]) (by kernel_rfl) (by simp) ?_
  refine AllReadyH.cons (o := ⟨some 102, Op.buildSlice 29 2 #[(0, Operand.tmp 100), (1, Operand.tmp 101)], 29, _, #[{ on := 5, ground := Ground.data }, { on := 6, ground := Ground.data }, { on := 4, ground := Ground.guard }], some (4, true)⟩) rfl (fun K hK => ?_) AllReadyH.nil
  go_simp
  refine hK.out _ _ (Held3.grow hHeld) (fun hH => ?_)
  clear hHeld hK K
  have hHeld := hH
  clear hH
  try simp only [Act.put, List.setIfInBounds_toArray, List.set_cons_zero, List.set_cons_succ]
  refine wpAnyH_ready (rs := [8]) (by kernel_rfl) (by simp) ?_
  refine AllReadyH.cons (o := ⟨some 103, Op.call { callee := Callee.value (Operand.func 18), args := #[Operand.tmp 102], argTypes := #[29] }, 23, _, #[{ on := 7, ground := Ground.data }, { on := 4, ground := Ground.chain }, { on := 4, ground := Ground.guard }], some (4, true)⟩) rfl (fun K hK => ?_) AllReadyH.nil
  go_simp
  refine (cover_any _ _ _ [b, a] _ rfl (Nat.le_refl 2) (by decide) (reads_two _ _ rfl _ b a).drew).mono ?_
  rw [Hs.out]
  rintro e w1 ⟨rfl, hb1⟩
  refine hK.out _ _ (Held3.next hHeld hb1) (fun hH => ?_)
  clear hHeld hK K hb1
  have hHeld := hH
  clear hH
  try simp only [Act.put, List.setIfInBounds_toArray, List.set_cons_zero, List.set_cons_succ]
  refine wpAnyH_take (i := 10) (oi := ⟨some 105, Op.binOp BinOp.eql 23 (Operand.tmp 103) (Operand.tmp 104) 23, 4, _, #[{ on := 8, ground := Ground.data }, { on := 9, ground := Ground.data }, { on := 4, ground := Ground.guard }], some (4, true)⟩) (v := ?_) rfl (by kernel_rfl) (by kernel_rfl) (by kernel_rfl) (fun _ _ _ h => h) (Or.inl ⟨by rfl, ?_⟩) hHeld ?_
  rotate_left
  · (intro w1 hSw; (try dsimp only at hSw); go_simp; try (with_reducible rfl))
  try simp only [Act.put, List.setIfInBounds_toArray, List.set_cons_zero, List.set_cons_succ]
  refine wpAnyH_take (i := 11) (oi := ⟨some 106, Op.pick (Operand.tmp 99) (Operand.tmp 105) (Operand.const (Value.bool false)), 4, _, #[{ on := 4, ground := Ground.data }, { on := 10, ground := Ground.data }], none⟩) (v := ?_) rfl (by kernel_rfl) (by kernel_rfl) (by kernel_rfl) (fun _ _ _ h => h) (Or.inl ⟨by rfl, ?_⟩) hHeld ?_
  rotate_left
  · (intro w1 hSw; (try dsimp only at hSw); go_simp; try (with_reducible rfl))
  try simp only [Act.put, List.setIfInBounds_toArray, List.set_cons_zero, List.set_cons_succ]
  refine wpAnyH_take (i := 12) (oi := ⟨some 107, Op.move (Operand.tmp 106), 4, _, #[{ on := 11, ground := Ground.data }, { on := 8, ground := Ground.chain }], none⟩) (v := ?_) rfl (by kernel_rfl) (by kernel_rfl) (by kernel_rfl) (fun _ _ _ h => h) (Or.inl ⟨by rfl, ?_⟩) hHeld ?_
  rotate_left
  · (intro w1 hSw; (try dsimp only at hSw); go_simp; try (with_reducible rfl))
  try simp only [Act.put, List.setIfInBounds_toArray, List.set_cons_zero, List.set_cons_succ]
  refine wpAnyH_ready (rs := [13]) (by kernel_rfl) (by simp) ?_
  refine AllReadyH.cons (o := ⟨some 108, Op.call { callee := Callee.value (Operand.func 15), args := #[], argTypes := #[] }, 4, _, #[{ on := 12, ground := Ground.chain }, { on := 12, ground := Ground.guard }], some (12, true)⟩) rfl (fun K hK => ?_) AllReadyH.nil
  go_simp
  refine (awake_any _).mono ?_
  rintro e w1 ⟨rfl, hb1⟩
  refine hK.out _ _ (Held3.next hHeld hb1) (fun hH => ?_)
  clear hHeld hK K hb1
  have hHeld := hH
  clear hH
  try simp only [Act.put, List.setIfInBounds_toArray, List.set_cons_zero, List.set_cons_succ]
  refine wpAnyH_take (i := 14) (oi := ⟨some 109, Op.pick (Operand.tmp 107) (Operand.tmp 108) (Operand.const (Value.bool false)), 4, _, #[{ on := 12, ground := Ground.data }, { on := 13, ground := Ground.data }], none⟩) (v := ?_) rfl (by kernel_rfl) (by kernel_rfl) (by kernel_rfl) (fun _ _ _ h => h) (Or.inl ⟨by rfl, ?_⟩) hHeld ?_
  rotate_left
  · (intro w1 hSw; (try dsimp only at hSw); go_simp; try (with_reducible rfl))
  try simp only [Act.put, List.setIfInBounds_toArray, List.set_cons_zero, List.set_cons_succ]
  refine wpAnyH_take (i := 15) (oi := ⟨some 6, Op.assign (Operand.tmp 109), 4, _, #[{ on := 14, ground := Ground.data }, { on := 13, ground := Ground.chain }, { on := 0, ground := Ground.phase }, { on := 1, ground := Ground.phase }, { on := 2, ground := Ground.phase }, { on := 3, ground := Ground.phase }, { on := 4, ground := Ground.phase }, { on := 5, ground := Ground.phase }, { on := 6, ground := Ground.phase }, { on := 7, ground := Ground.phase }, { on := 8, ground := Ground.phase }, { on := 9, ground := Ground.phase }, { on := 10, ground := Ground.phase }, { on := 11, ground := Ground.phase }, { on := 12, ground := Ground.phase }, { on := 13, ground := Ground.phase }, { on := 14, ground := Ground.phase }], none⟩) (v := ?_) rfl (by kernel_rfl) (by kernel_rfl) (by kernel_rfl) (fun _ _ _ h => h) (Or.inl ⟨by rfl, ?_⟩) hHeld ?_
  rotate_left
  · (intro w1 hSw; (try dsimp only at hSw); go_simp; try (with_reducible rfl))
  try simp only [Act.put, List.setIfInBounds_toArray, List.set_cons_zero, List.set_cons_succ]
  refine wpAnyH_done (by kernel_rfl) ?_ _
  go_wp2
  go_ret
  exact ⟨rfl, Held3.last hHeld⟩

set_option maxHeartbeats 4000000 in
theorem cover_ff_nrr (a b q : Int × Int) (n : Int) (w : World) (hq : coverF [a, b] = q) (hs : coverF [b, a] = q) (hwl : withinF a q = true) (hwr : withinF b q = true) (hA : hasF a n = false) (hB : hasF b n = false) (eA : emptyF a = false) (eB : emptyF b = false) (h1a : (q.1 == a.1) = false) (h1b : (q.1 == b.1) = true) (h2a : (q.2 == a.2) = false) (h2b : (q.2 == b.2) = true) :
    Calls Try.prog 6 #[.agg #[.int .i64 a.1, .int .i64 a.2], .agg #[.int .i64 b.1, .int .i64 b.2], .int .i64 n] w fun e w' => e = .returned (.bool true) ∧ Below w.heap.size w w' := by
  have Hq := Lib.hid hq
  have Hs := Lib.hid hs
  clear hq hs
  go_enter Try.func6, Try.ntmps6
  go_wp2_with fail
  refine (cover_any _ _ _ [a, b] _ rfl ?_ ?_ (reads_two _ _ ?_ _ a b)).mono ?_
  · exact Nat.le_refl 2
  · decide
  · simp
  rw [Hq.out]
  rintro e w0 ⟨rfl, hb⟩
  have h1 : Held w w0 w.heap.size (w.heap.size + 1) 23 (.int .i64 a.1) (.int .i64 a.2) (.int .i64 b.1) (.int .i64 b.2) :=
    Held.step_alloc (wi := (w.alloc (.cells #[.int .i64 a.1, .int .i64 a.2] 23)).alloc (.cells #[.int .i64 b.1, .int .i64 b.2] 23))
      ⟨by omega, by omega, by go_grown, (Blk.new _ _ _).alloc _, by simpa using Blk.new (w.alloc _) _ _⟩ hb
  clear hb
  have h0 : Held3 w (w0.alloc (.cells #[.int .i64 q.1, .int .i64 q.2] 23)) w.heap.size (w.heap.size + 1) w0.heap.size 23 (.int .i64 a.1) (.int .i64 a.2) (.int .i64 b.1) (.int .i64 b.2) (.int .i64 q.1) (.int .i64 q.2) :=
    ⟨h1.alloc _, h1.2.2.1.size, Blk.new _ _ _⟩
  clear h1
  generalize hgc : w0.heap.size = gc at h0
  obtain ⟨c1, c2, c3, c4, c5, c6, _⟩ := h0.conds
  have H1 := Lib.hid h0
  clear h0
  go_wp2_with fail
  refine (within_r a q _).mono ?_
  rintro e w2 ⟨rfl, hb⟩
  have h2 := H1.out.step hb
  clear hb
  obtain ⟨c1, c2, c3, c4, c5, c6, _⟩ := h2.conds
  have H2 := Lib.hid h2
  clear h2
  go_wp2_with fail
  refine (within_r b q _).mono ?_
  rintro e w3 ⟨rfl, hb⟩
  have h3 := H2.out.step hb
  clear hb
  obtain ⟨c1, c2, c3, c4, c5, c6, _⟩ := h3.conds
  have H3 := Lib.hid h3
  clear h3
  go_wp2_with fail
  refine (has_r a n _).mono ?_
  rintro e w4 ⟨rfl, hb⟩
  have h4 := H3.out.step hb
  clear hb
  obtain ⟨c1, c2, c3, c4, c5, c6, _⟩ := h4.conds
  have H4 := Lib.hid h4
  clear h4
  go_wp2_with fail
  refine (has_r b n _).mono ?_
  rintro e w5 ⟨rfl, hb⟩
  have h5 := H4.out.step hb
  clear hb
  obtain ⟨c1, c2, c3, c4, c5, c6, _⟩ := h5.conds
  have H5 := Lib.hid h5
  clear h5
  go_wp2_with fail
  refine (empty_r a _).mono ?_
  rintro e w6 ⟨rfl, hb⟩
  have h6 := H5.out.step hb
  clear hb
  obtain ⟨c1, c2, c3, c4, c5, c6, _⟩ := h6.conds
  have H6 := Lib.hid h6
  clear h6
  go_wp2_with fail
  refine (empty_r b _).mono ?_
  rintro e w7 ⟨rfl, hb⟩
  have h7 := H6.out.step hb
  clear hb
  obtain ⟨c1, c2, c3, c4, c5, c6, _⟩ := h7.conds
  have H7 := Lib.hid h7
  clear h7
  go_wp2_with fail
  refine (empty_r b _).mono ?_
  rintro e w8 ⟨rfl, hb⟩
  have h8 := H7.out.step hb
  clear hb
  obtain ⟨c1, c2, c3, c4, c5, c6, _⟩ := h8.conds
  have H8 := Lib.hid h8
  clear h8
  go_wp2_with fail
  have h0 := H8.out
  refine wp_region_held_drew (S := (fun w' => w'.cell? ⟨w.heap.size, 0, none⟩ = some (.int .i64 a.1) ∧ w'.cell? ⟨w.heap.size, 1, none⟩ = some (.int .i64 a.2) ∧ w'.cell? ⟨w.heap.size + 1, 0, none⟩ = some (.int .i64 b.1) ∧ w'.cell? ⟨w.heap.size + 1, 1, none⟩ = some (.int .i64 b.2) ∧ w'.cell? ⟨gc, 0, none⟩ = some (.int .i64 q.1) ∧ w'.cell? ⟨gc, 1, none⟩ = some (.int .i64 q.2) ∧ Held3 w w' (w.heap.size) (w.heap.size + 1) (gc) 23 (.int .i64 a.1) (.int .i64 a.2) (.int .i64 b.1) (.int .i64 b.2) (.int .i64 q.1) (.int .i64 q.2))) (by kernel_rfl) ((Held3.drew h0).conds) (fun hHeld => ?_)
  refine wpAnyH_take (i := 0) (oi := ⟨some 95, Op.move (Operand.tmp 8), 4, _, #[], none⟩) (v := ?_) rfl (by kernel_rfl) (by kernel_rfl) (by kernel_rfl) (fun _ _ _ h => h) (Or.inl ⟨by rfl, ?_⟩) hHeld ?_
  rotate_left
  · (intro w1 hSw; (try dsimp only at hSw); go_simp; try (with_reducible rfl))
  try simp only [Act.put, List.setIfInBounds_toArray, List.set_cons_zero, List.set_cons_succ]
  refine wpAnyH_take (i := 1) (oi := ⟨some 96, Op.move (Operand.tmp 95), 4, _, #[{ on := 0, ground := Ground.data }], none⟩) (v := ?_) rfl (by kernel_rfl) (by kernel_rfl) (by kernel_rfl) (fun _ _ _ h => h) (Or.inl ⟨by rfl, ?_⟩) hHeld ?_
  rotate_left
  · (intro w1 hSw; (try dsimp only at hSw); go_simp; try (with_reducible rfl))
  try simp only [Act.put, List.setIfInBounds_toArray, List.set_cons_zero, List.set_cons_succ]
  refine wpAnyH_take (i := 2) (oi := ⟨some 97, Op.move (Operand.tmp 9), 4, _, #[{ on := 1, ground := Ground.guard }], some (1, true)⟩) (v := ?_) rfl (by kernel_rfl) (by kernel_rfl) (by kernel_rfl) (fun _ _ _ h => h) (Or.inl ⟨by rfl, ?_⟩) hHeld ?_
  rotate_left
  · (intro w1 hSw; (try dsimp only at hSw); go_simp; try (with_reducible rfl))
  try simp only [Act.put, List.setIfInBounds_toArray, List.set_cons_zero, List.set_cons_succ]
  refine wpAnyH_take (i := 3) (oi := ⟨some 98, Op.pick (Operand.tmp 96) (Operand.tmp 97) (Operand.const (Value.bool false)), 4, _, #[{ on := 1, ground := Ground.data }, { on := 2, ground := Ground.data }], none⟩) (v := ?_) rfl (by kernel_rfl) (by kernel_rfl) (by kernel_rfl) (fun _ _ _ h => h) (Or.inl ⟨by rfl, ?_⟩) hHeld ?_
  rotate_left
  · (intro w1 hSw; (try dsimp only at hSw); go_simp; try (with_reducible rfl))
  try simp only [Act.put, List.setIfInBounds_toArray, List.set_cons_zero, List.set_cons_succ]
  refine wpAnyH_take (i := 4) (oi := ⟨some 99, Op.move (Operand.tmp 98), 4, _, #[{ on := 3, ground := Ground.data }, { on := 1, ground := Ground.chain }], none⟩) (v := ?_) rfl (by kernel_rfl) (by kernel_rfl) (by kernel_rfl) (fun _ _ _ h => h) (Or.inl ⟨by rfl, ?_⟩) hHeld ?_
  rotate_left
  · (intro w1 hSw; (try dsimp only at hSw); go_simp; try (with_reducible rfl))
  try simp only [Act.put, List.setIfInBounds_toArray, List.set_cons_zero, List.set_cons_succ]
  refine wpAnyH_take (i := 5) (oi := ⟨some 100, Op.load 23 (Operand.tmp 4), 23, _, #[{ on := 4, ground := Ground.guard }], some (4, true)⟩) (v := ?_) rfl (by kernel_rfl) (by kernel_rfl) (by kernel_rfl) (fun _ _ _ h => h) (Or.inl ⟨by rfl, ?_⟩) hHeld ?_
  rotate_left
  · (intro w1 hSw; (try dsimp only at hSw); go_simp; try (with_reducible rfl))
  try simp only [Act.put, List.setIfInBounds_toArray, List.set_cons_zero, List.set_cons_succ]
  refine wpAnyH_take (i := 6) (oi := ⟨some 101, Op.load 23 (Operand.tmp 3), 23, _, #[{ on := 4, ground := Ground.guard }], some (4, true)⟩) (v := ?_) rfl (by kernel_rfl) (by kernel_rfl) (by kernel_rfl) (fun _ _ _ h => h) (Or.inl ⟨by rfl, ?_⟩) hHeld ?_
  rotate_left
  · (intro w1 hSw; (try dsimp only at hSw); go_simp; try (with_reducible rfl))
  try simp only [Act.put, List.setIfInBounds_toArray, List.set_cons_zero, List.set_cons_succ]
  refine wpAnyH_take (i := 9) (oi := ⟨some 104, Op.load 23 (Operand.tmp 7), 23, _, #[{ on := 4, ground := Ground.guard }], some (4, true)⟩) (v := ?_) rfl (by kernel_rfl) (by kernel_rfl) (by kernel_rfl) (fun _ _ _ h => h) (Or.inl ⟨by rfl, ?_⟩) hHeld ?_
  rotate_left
  · (intro w1 hSw; (try dsimp only at hSw); go_simp; try (with_reducible rfl))
  try simp only [Act.put, List.setIfInBounds_toArray, List.set_cons_zero, List.set_cons_succ]
  refine wpAnyH_ready (rs := [7]) (by kernel_rfl) (by simp) ?_
  refine AllReadyH.cons (o := ⟨some 102, Op.buildSlice 29 2 #[(0, Operand.tmp 100), (1, Operand.tmp 101)], 29, _, #[{ on := 5, ground := Ground.data }, { on := 6, ground := Ground.data }, { on := 4, ground := Ground.guard }], some (4, true)⟩) rfl (fun K hK => ?_) AllReadyH.nil
  go_simp
  refine hK.out _ _ (Held3.grow hHeld) (fun hH => ?_)
  clear hHeld hK K
  have hHeld := hH
  clear hH
  try simp only [Act.put, List.setIfInBounds_toArray, List.set_cons_zero, List.set_cons_succ]
  refine wpAnyH_ready (rs := [8]) (by kernel_rfl) (by simp) ?_
  refine AllReadyH.cons (o := ⟨some 103, Op.call { callee := Callee.value (Operand.func 18), args := #[Operand.tmp 102], argTypes := #[29] }, 23, _, #[{ on := 7, ground := Ground.data }, { on := 4, ground := Ground.chain }, { on := 4, ground := Ground.guard }], some (4, true)⟩) rfl (fun K hK => ?_) AllReadyH.nil
  go_simp
  refine (cover_any _ _ _ [b, a] _ rfl (Nat.le_refl 2) (by decide) (reads_two _ _ rfl _ b a).drew).mono ?_
  rw [Hs.out]
  rintro e w1 ⟨rfl, hb1⟩
  refine hK.out _ _ (Held3.next hHeld hb1) (fun hH => ?_)
  clear hHeld hK K hb1
  have hHeld := hH
  clear hH
  try simp only [Act.put, List.setIfInBounds_toArray, List.set_cons_zero, List.set_cons_succ]
  refine wpAnyH_take (i := 10) (oi := ⟨some 105, Op.binOp BinOp.eql 23 (Operand.tmp 103) (Operand.tmp 104) 23, 4, _, #[{ on := 8, ground := Ground.data }, { on := 9, ground := Ground.data }, { on := 4, ground := Ground.guard }], some (4, true)⟩) (v := ?_) rfl (by kernel_rfl) (by kernel_rfl) (by kernel_rfl) (fun _ _ _ h => h) (Or.inl ⟨by rfl, ?_⟩) hHeld ?_
  rotate_left
  · (intro w1 hSw; (try dsimp only at hSw); go_simp; try (with_reducible rfl))
  try simp only [Act.put, List.setIfInBounds_toArray, List.set_cons_zero, List.set_cons_succ]
  refine wpAnyH_take (i := 11) (oi := ⟨some 106, Op.pick (Operand.tmp 99) (Operand.tmp 105) (Operand.const (Value.bool false)), 4, _, #[{ on := 4, ground := Ground.data }, { on := 10, ground := Ground.data }], none⟩) (v := ?_) rfl (by kernel_rfl) (by kernel_rfl) (by kernel_rfl) (fun _ _ _ h => h) (Or.inl ⟨by rfl, ?_⟩) hHeld ?_
  rotate_left
  · (intro w1 hSw; (try dsimp only at hSw); go_simp; try (with_reducible rfl))
  try simp only [Act.put, List.setIfInBounds_toArray, List.set_cons_zero, List.set_cons_succ]
  refine wpAnyH_take (i := 12) (oi := ⟨some 107, Op.move (Operand.tmp 106), 4, _, #[{ on := 11, ground := Ground.data }, { on := 8, ground := Ground.chain }], none⟩) (v := ?_) rfl (by kernel_rfl) (by kernel_rfl) (by kernel_rfl) (fun _ _ _ h => h) (Or.inl ⟨by rfl, ?_⟩) hHeld ?_
  rotate_left
  · (intro w1 hSw; (try dsimp only at hSw); go_simp; try (with_reducible rfl))
  try simp only [Act.put, List.setIfInBounds_toArray, List.set_cons_zero, List.set_cons_succ]
  refine wpAnyH_ready (rs := [13]) (by kernel_rfl) (by simp) ?_
  refine AllReadyH.cons (o := ⟨some 108, Op.call { callee := Callee.value (Operand.func 15), args := #[], argTypes := #[] }, 4, _, #[{ on := 12, ground := Ground.chain }, { on := 12, ground := Ground.guard }], some (12, true)⟩) rfl (fun K hK => ?_) AllReadyH.nil
  go_simp
  refine (awake_any _).mono ?_
  rintro e w1 ⟨rfl, hb1⟩
  refine hK.out _ _ (Held3.next hHeld hb1) (fun hH => ?_)
  clear hHeld hK K hb1
  have hHeld := hH
  clear hH
  try simp only [Act.put, List.setIfInBounds_toArray, List.set_cons_zero, List.set_cons_succ]
  refine wpAnyH_take (i := 14) (oi := ⟨some 109, Op.pick (Operand.tmp 107) (Operand.tmp 108) (Operand.const (Value.bool false)), 4, _, #[{ on := 12, ground := Ground.data }, { on := 13, ground := Ground.data }], none⟩) (v := ?_) rfl (by kernel_rfl) (by kernel_rfl) (by kernel_rfl) (fun _ _ _ h => h) (Or.inl ⟨by rfl, ?_⟩) hHeld ?_
  rotate_left
  · (intro w1 hSw; (try dsimp only at hSw); go_simp; try (with_reducible rfl))
  try simp only [Act.put, List.setIfInBounds_toArray, List.set_cons_zero, List.set_cons_succ]
  refine wpAnyH_take (i := 15) (oi := ⟨some 6, Op.assign (Operand.tmp 109), 4, _, #[{ on := 14, ground := Ground.data }, { on := 13, ground := Ground.chain }, { on := 0, ground := Ground.phase }, { on := 1, ground := Ground.phase }, { on := 2, ground := Ground.phase }, { on := 3, ground := Ground.phase }, { on := 4, ground := Ground.phase }, { on := 5, ground := Ground.phase }, { on := 6, ground := Ground.phase }, { on := 7, ground := Ground.phase }, { on := 8, ground := Ground.phase }, { on := 9, ground := Ground.phase }, { on := 10, ground := Ground.phase }, { on := 11, ground := Ground.phase }, { on := 12, ground := Ground.phase }, { on := 13, ground := Ground.phase }, { on := 14, ground := Ground.phase }], none⟩) (v := ?_) rfl (by kernel_rfl) (by kernel_rfl) (by kernel_rfl) (fun _ _ _ h => h) (Or.inl ⟨by rfl, ?_⟩) hHeld ?_
  rotate_left
  · (intro w1 hSw; (try dsimp only at hSw); go_simp; try (with_reducible rfl))
  try simp only [Act.put, List.setIfInBounds_toArray, List.set_cons_zero, List.set_cons_succ]
  refine wpAnyH_done (by kernel_rfl) ?_ _
  go_wp2
  go_ret
  exact ⟨rfl, Held3.last hHeld⟩

set_option maxHeartbeats 4000000 in
theorem cover_ff_ell (a b q : Int × Int) (n : Int) (w : World) (hq : coverF [a, b] = q) (hs : coverF [b, a] = q) (hwl : withinF a q = true) (hwr : withinF b q = true) (hA : hasF a n = false) (hB : hasF b n = false) (eA : emptyF a = true) (eB : emptyF b = false) (h1a : (q.1 == a.1) = true) (h1b : (q.1 == b.1) = true) (h2a : (q.2 == a.2) = true) (h2b : (q.2 == b.2) = true) :
    Calls Try.prog 6 #[.agg #[.int .i64 a.1, .int .i64 a.2], .agg #[.int .i64 b.1, .int .i64 b.2], .int .i64 n] w fun e w' => e = .returned (.bool true) ∧ Below w.heap.size w w' := by
  have Hq := Lib.hid hq
  have Hs := Lib.hid hs
  clear hq hs
  go_enter Try.func6, Try.ntmps6
  go_wp2_with fail
  refine (cover_any _ _ _ [a, b] _ rfl ?_ ?_ (reads_two _ _ ?_ _ a b)).mono ?_
  · exact Nat.le_refl 2
  · decide
  · simp
  rw [Hq.out]
  rintro e w0 ⟨rfl, hb⟩
  have h1 : Held w w0 w.heap.size (w.heap.size + 1) 23 (.int .i64 a.1) (.int .i64 a.2) (.int .i64 b.1) (.int .i64 b.2) :=
    Held.step_alloc (wi := (w.alloc (.cells #[.int .i64 a.1, .int .i64 a.2] 23)).alloc (.cells #[.int .i64 b.1, .int .i64 b.2] 23))
      ⟨by omega, by omega, by go_grown, (Blk.new _ _ _).alloc _, by simpa using Blk.new (w.alloc _) _ _⟩ hb
  clear hb
  have h0 : Held3 w (w0.alloc (.cells #[.int .i64 q.1, .int .i64 q.2] 23)) w.heap.size (w.heap.size + 1) w0.heap.size 23 (.int .i64 a.1) (.int .i64 a.2) (.int .i64 b.1) (.int .i64 b.2) (.int .i64 q.1) (.int .i64 q.2) :=
    ⟨h1.alloc _, h1.2.2.1.size, Blk.new _ _ _⟩
  clear h1
  generalize hgc : w0.heap.size = gc at h0
  obtain ⟨c1, c2, c3, c4, c5, c6, _⟩ := h0.conds
  have H1 := Lib.hid h0
  clear h0
  go_wp2_with fail
  refine (within_r a q _).mono ?_
  rintro e w2 ⟨rfl, hb⟩
  have h2 := H1.out.step hb
  clear hb
  obtain ⟨c1, c2, c3, c4, c5, c6, _⟩ := h2.conds
  have H2 := Lib.hid h2
  clear h2
  go_wp2_with fail
  refine (within_r b q _).mono ?_
  rintro e w3 ⟨rfl, hb⟩
  have h3 := H2.out.step hb
  clear hb
  obtain ⟨c1, c2, c3, c4, c5, c6, _⟩ := h3.conds
  have H3 := Lib.hid h3
  clear h3
  go_wp2_with fail
  refine (has_r a n _).mono ?_
  rintro e w4 ⟨rfl, hb⟩
  have h4 := H3.out.step hb
  clear hb
  obtain ⟨c1, c2, c3, c4, c5, c6, _⟩ := h4.conds
  have H4 := Lib.hid h4
  clear h4
  go_wp2_with fail
  refine (has_r b n _).mono ?_
  rintro e w5 ⟨rfl, hb⟩
  have h5 := H4.out.step hb
  clear hb
  obtain ⟨c1, c2, c3, c4, c5, c6, _⟩ := h5.conds
  have H5 := Lib.hid h5
  clear h5
  go_wp2_with fail
  refine (empty_r a _).mono ?_
  rintro e w6 ⟨rfl, hb⟩
  have h6 := H5.out.step hb
  clear hb
  obtain ⟨c1, c2, c3, c4, c5, c6, _⟩ := h6.conds
  have H6 := Lib.hid h6
  clear h6
  go_wp2_with fail
  refine (empty_r b _).mono ?_
  rintro e w7 ⟨rfl, hb⟩
  have h7 := H6.out.step hb
  clear hb
  obtain ⟨c1, c2, c3, c4, c5, c6, _⟩ := h7.conds
  have H7 := Lib.hid h7
  clear h7
  go_wp2_with fail
  refine (empty_r a _).mono ?_
  rintro e w8 ⟨rfl, hb⟩
  have h8 := H7.out.step hb
  clear hb
  obtain ⟨c1, c2, c3, c4, c5, c6, _⟩ := h8.conds
  have H8 := Lib.hid h8
  clear h8
  go_wp2_with fail
  refine (empty_r b _).mono ?_
  rintro e w9 ⟨rfl, hb⟩
  have h9 := H8.out.step hb
  clear hb
  obtain ⟨c1, c2, c3, c4, c5, c6, _⟩ := h9.conds
  have H9 := Lib.hid h9
  clear h9
  go_wp2_with fail
  refine (empty_r a _).mono ?_
  rintro e w10 ⟨rfl, hb⟩
  have h10 := H9.out.step hb
  clear hb
  obtain ⟨c1, c2, c3, c4, c5, c6, _⟩ := h10.conds
  have H10 := Lib.hid h10
  clear h10
  go_wp2_with fail
  refine (empty_r b _).mono ?_
  rintro e w11 ⟨rfl, hb⟩
  have h11 := H10.out.step hb
  clear hb
  obtain ⟨c1, c2, c3, c4, c5, c6, _⟩ := h11.conds
  have H11 := Lib.hid h11
  clear h11
  go_wp2_with fail
  have h0 := H11.out
  refine wp_region_held_drew (S := (fun w' => w'.cell? ⟨w.heap.size, 0, none⟩ = some (.int .i64 a.1) ∧ w'.cell? ⟨w.heap.size, 1, none⟩ = some (.int .i64 a.2) ∧ w'.cell? ⟨w.heap.size + 1, 0, none⟩ = some (.int .i64 b.1) ∧ w'.cell? ⟨w.heap.size + 1, 1, none⟩ = some (.int .i64 b.2) ∧ w'.cell? ⟨gc, 0, none⟩ = some (.int .i64 q.1) ∧ w'.cell? ⟨gc, 1, none⟩ = some (.int .i64 q.2) ∧ Held3 w w' (w.heap.size) (w.heap.size + 1) (gc) 23 (.int .i64 a.1) (.int .i64 a.2) (.int .i64 b.1) (.int .i64 b.2) (.int .i64 q.1) (.int .i64 q.2))) (by kernel_rfl) ((Held3.drew h0).conds) (fun hHeld => ?_)
  refine wpAnyH_take (i := 0) (oi := ⟨some 95, Op.move (Operand.tmp 8), 4, _, #[], none⟩) (v := ?_) rfl (by kernel_rfl) (by kernel_rfl) (by kernel_rfl) (fun _ _ _ h => h) (Or.inl ⟨by rfl, ?_⟩) hHeld ?_
  rotate_left
  · (intro w1 hSw; (try dsimp only at hSw); go_simp; try (with_reducible rfl))
  try simp only [Act.put, List.setIfInBounds_toArray, List.set_cons_zero, List.set_cons_succ]
  refine wpAnyH_take (i := 1) (oi := ⟨some 96, Op.move (Operand.tmp 95), 4, _, #[{ on := 0, ground := Ground.data }], none⟩) (v := ?_) rfl (by kernel_rfl) (by kernel_rfl) (by kernel_rfl) (fun _ _ _ h => h) (Or.inl ⟨by rfl, ?_⟩) hHeld ?_
  rotate_left
  · (intro w1 hSw; (try dsimp only at hSw); go_simp; try (with_reducible rfl))
  try simp only [Act.put, List.setIfInBounds_toArray, List.set_cons_zero, List.set_cons_succ]
  refine wpAnyH_take (i := 2) (oi := ⟨some 97, Op.move (Operand.tmp 9), 4, _, #[{ on := 1, ground := Ground.guard }], some (1, true)⟩) (v := ?_) rfl (by kernel_rfl) (by kernel_rfl) (by kernel_rfl) (fun _ _ _ h => h) (Or.inl ⟨by rfl, ?_⟩) hHeld ?_
  rotate_left
  · (intro w1 hSw; (try dsimp only at hSw); go_simp; try (with_reducible rfl))
  try simp only [Act.put, List.setIfInBounds_toArray, List.set_cons_zero, List.set_cons_succ]
  refine wpAnyH_take (i := 3) (oi := ⟨some 98, Op.pick (Operand.tmp 96) (Operand.tmp 97) (Operand.const (Value.bool false)), 4, _, #[{ on := 1, ground := Ground.data }, { on := 2, ground := Ground.data }], none⟩) (v := ?_) rfl (by kernel_rfl) (by kernel_rfl) (by kernel_rfl) (fun _ _ _ h => h) (Or.inl ⟨by rfl, ?_⟩) hHeld ?_
  rotate_left
  · (intro w1 hSw; (try dsimp only at hSw); go_simp; try (with_reducible rfl))
  try simp only [Act.put, List.setIfInBounds_toArray, List.set_cons_zero, List.set_cons_succ]
  refine wpAnyH_take (i := 4) (oi := ⟨some 99, Op.move (Operand.tmp 98), 4, _, #[{ on := 3, ground := Ground.data }, { on := 1, ground := Ground.chain }], none⟩) (v := ?_) rfl (by kernel_rfl) (by kernel_rfl) (by kernel_rfl) (fun _ _ _ h => h) (Or.inl ⟨by rfl, ?_⟩) hHeld ?_
  rotate_left
  · (intro w1 hSw; (try dsimp only at hSw); go_simp; try (with_reducible rfl))
  try simp only [Act.put, List.setIfInBounds_toArray, List.set_cons_zero, List.set_cons_succ]
  refine wpAnyH_take (i := 5) (oi := ⟨some 100, Op.load 23 (Operand.tmp 4), 23, _, #[{ on := 4, ground := Ground.guard }], some (4, true)⟩) (v := ?_) rfl (by kernel_rfl) (by kernel_rfl) (by kernel_rfl) (fun _ _ _ h => h) (Or.inl ⟨by rfl, ?_⟩) hHeld ?_
  rotate_left
  · (intro w1 hSw; (try dsimp only at hSw); go_simp; try (with_reducible rfl))
  try simp only [Act.put, List.setIfInBounds_toArray, List.set_cons_zero, List.set_cons_succ]
  refine wpAnyH_take (i := 6) (oi := ⟨some 101, Op.load 23 (Operand.tmp 3), 23, _, #[{ on := 4, ground := Ground.guard }], some (4, true)⟩) (v := ?_) rfl (by kernel_rfl) (by kernel_rfl) (by kernel_rfl) (fun _ _ _ h => h) (Or.inl ⟨by rfl, ?_⟩) hHeld ?_
  rotate_left
  · (intro w1 hSw; (try dsimp only at hSw); go_simp; try (with_reducible rfl))
  try simp only [Act.put, List.setIfInBounds_toArray, List.set_cons_zero, List.set_cons_succ]
  refine wpAnyH_take (i := 9) (oi := ⟨some 104, Op.load 23 (Operand.tmp 7), 23, _, #[{ on := 4, ground := Ground.guard }], some (4, true)⟩) (v := ?_) rfl (by kernel_rfl) (by kernel_rfl) (by kernel_rfl) (fun _ _ _ h => h) (Or.inl ⟨by rfl, ?_⟩) hHeld ?_
  rotate_left
  · (intro w1 hSw; (try dsimp only at hSw); go_simp; try (with_reducible rfl))
  try simp only [Act.put, List.setIfInBounds_toArray, List.set_cons_zero, List.set_cons_succ]
  refine wpAnyH_ready (rs := [7]) (by kernel_rfl) (by simp) ?_
  refine AllReadyH.cons (o := ⟨some 102, Op.buildSlice 29 2 #[(0, Operand.tmp 100), (1, Operand.tmp 101)], 29, _, #[{ on := 5, ground := Ground.data }, { on := 6, ground := Ground.data }, { on := 4, ground := Ground.guard }], some (4, true)⟩) rfl (fun K hK => ?_) AllReadyH.nil
  go_simp
  refine hK.out _ _ (Held3.grow hHeld) (fun hH => ?_)
  clear hHeld hK K
  have hHeld := hH
  clear hH
  try simp only [Act.put, List.setIfInBounds_toArray, List.set_cons_zero, List.set_cons_succ]
  refine wpAnyH_ready (rs := [8]) (by kernel_rfl) (by simp) ?_
  refine AllReadyH.cons (o := ⟨some 103, Op.call { callee := Callee.value (Operand.func 18), args := #[Operand.tmp 102], argTypes := #[29] }, 23, _, #[{ on := 7, ground := Ground.data }, { on := 4, ground := Ground.chain }, { on := 4, ground := Ground.guard }], some (4, true)⟩) rfl (fun K hK => ?_) AllReadyH.nil
  go_simp
  refine (cover_any _ _ _ [b, a] _ rfl (Nat.le_refl 2) (by decide) (reads_two _ _ rfl _ b a).drew).mono ?_
  rw [Hs.out]
  rintro e w1 ⟨rfl, hb1⟩
  refine hK.out _ _ (Held3.next hHeld hb1) (fun hH => ?_)
  clear hHeld hK K hb1
  have hHeld := hH
  clear hH
  try simp only [Act.put, List.setIfInBounds_toArray, List.set_cons_zero, List.set_cons_succ]
  refine wpAnyH_take (i := 10) (oi := ⟨some 105, Op.binOp BinOp.eql 23 (Operand.tmp 103) (Operand.tmp 104) 23, 4, _, #[{ on := 8, ground := Ground.data }, { on := 9, ground := Ground.data }, { on := 4, ground := Ground.guard }], some (4, true)⟩) (v := ?_) rfl (by kernel_rfl) (by kernel_rfl) (by kernel_rfl) (fun _ _ _ h => h) (Or.inl ⟨by rfl, ?_⟩) hHeld ?_
  rotate_left
  · (intro w1 hSw; (try dsimp only at hSw); go_simp; try (with_reducible rfl))
  try simp only [Act.put, List.setIfInBounds_toArray, List.set_cons_zero, List.set_cons_succ]
  refine wpAnyH_take (i := 11) (oi := ⟨some 106, Op.pick (Operand.tmp 99) (Operand.tmp 105) (Operand.const (Value.bool false)), 4, _, #[{ on := 4, ground := Ground.data }, { on := 10, ground := Ground.data }], none⟩) (v := ?_) rfl (by kernel_rfl) (by kernel_rfl) (by kernel_rfl) (fun _ _ _ h => h) (Or.inl ⟨by rfl, ?_⟩) hHeld ?_
  rotate_left
  · (intro w1 hSw; (try dsimp only at hSw); go_simp; try (with_reducible rfl))
  try simp only [Act.put, List.setIfInBounds_toArray, List.set_cons_zero, List.set_cons_succ]
  refine wpAnyH_take (i := 12) (oi := ⟨some 107, Op.move (Operand.tmp 106), 4, _, #[{ on := 11, ground := Ground.data }, { on := 8, ground := Ground.chain }], none⟩) (v := ?_) rfl (by kernel_rfl) (by kernel_rfl) (by kernel_rfl) (fun _ _ _ h => h) (Or.inl ⟨by rfl, ?_⟩) hHeld ?_
  rotate_left
  · (intro w1 hSw; (try dsimp only at hSw); go_simp; try (with_reducible rfl))
  try simp only [Act.put, List.setIfInBounds_toArray, List.set_cons_zero, List.set_cons_succ]
  refine wpAnyH_ready (rs := [13]) (by kernel_rfl) (by simp) ?_
  refine AllReadyH.cons (o := ⟨some 108, Op.call { callee := Callee.value (Operand.func 15), args := #[], argTypes := #[] }, 4, _, #[{ on := 12, ground := Ground.chain }, { on := 12, ground := Ground.guard }], some (12, true)⟩) rfl (fun K hK => ?_) AllReadyH.nil
  go_simp
  refine (awake_any _).mono ?_
  rintro e w1 ⟨rfl, hb1⟩
  refine hK.out _ _ (Held3.next hHeld hb1) (fun hH => ?_)
  clear hHeld hK K hb1
  have hHeld := hH
  clear hH
  try simp only [Act.put, List.setIfInBounds_toArray, List.set_cons_zero, List.set_cons_succ]
  refine wpAnyH_take (i := 14) (oi := ⟨some 109, Op.pick (Operand.tmp 107) (Operand.tmp 108) (Operand.const (Value.bool false)), 4, _, #[{ on := 12, ground := Ground.data }, { on := 13, ground := Ground.data }], none⟩) (v := ?_) rfl (by kernel_rfl) (by kernel_rfl) (by kernel_rfl) (fun _ _ _ h => h) (Or.inl ⟨by rfl, ?_⟩) hHeld ?_
  rotate_left
  · (intro w1 hSw; (try dsimp only at hSw); go_simp; try (with_reducible rfl))
  try simp only [Act.put, List.setIfInBounds_toArray, List.set_cons_zero, List.set_cons_succ]
  refine wpAnyH_take (i := 15) (oi := ⟨some 6, Op.assign (Operand.tmp 109), 4, _, #[{ on := 14, ground := Ground.data }, { on := 13, ground := Ground.chain }, { on := 0, ground := Ground.phase }, { on := 1, ground := Ground.phase }, { on := 2, ground := Ground.phase }, { on := 3, ground := Ground.phase }, { on := 4, ground := Ground.phase }, { on := 5, ground := Ground.phase }, { on := 6, ground := Ground.phase }, { on := 7, ground := Ground.phase }, { on := 8, ground := Ground.phase }, { on := 9, ground := Ground.phase }, { on := 10, ground := Ground.phase }, { on := 11, ground := Ground.phase }, { on := 12, ground := Ground.phase }, { on := 13, ground := Ground.phase }, { on := 14, ground := Ground.phase }], none⟩) (v := ?_) rfl (by kernel_rfl) (by kernel_rfl) (by kernel_rfl) (fun _ _ _ h => h) (Or.inl ⟨by rfl, ?_⟩) hHeld ?_
  rotate_left
  · (intro w1 hSw; (try dsimp only at hSw); go_simp; try (with_reducible rfl))
  try simp only [Act.put, List.setIfInBounds_toArray, List.set_cons_zero, List.set_cons_succ]
  refine wpAnyH_done (by kernel_rfl) ?_ _
  go_wp2
  go_ret
  exact ⟨rfl, Held3.last hHeld⟩

set_option maxHeartbeats 4000000 in
theorem cover_ff_elr (a b q : Int × Int) (n : Int) (w : World) (hq : coverF [a, b] = q) (hs : coverF [b, a] = q) (hwl : withinF a q = true) (hwr : withinF b q = true) (hA : hasF a n = false) (hB : hasF b n = false) (eA : emptyF a = true) (eB : emptyF b = false) (h1a : (q.1 == a.1) = true) (h1b : (q.1 == b.1) = true) (h2a : (q.2 == a.2) = false) (h2b : (q.2 == b.2) = true) :
    Calls Try.prog 6 #[.agg #[.int .i64 a.1, .int .i64 a.2], .agg #[.int .i64 b.1, .int .i64 b.2], .int .i64 n] w fun e w' => e = .returned (.bool true) ∧ Below w.heap.size w w' := by
  have Hq := Lib.hid hq
  have Hs := Lib.hid hs
  clear hq hs
  go_enter Try.func6, Try.ntmps6
  go_wp2_with fail
  refine (cover_any _ _ _ [a, b] _ rfl ?_ ?_ (reads_two _ _ ?_ _ a b)).mono ?_
  · exact Nat.le_refl 2
  · decide
  · simp
  rw [Hq.out]
  rintro e w0 ⟨rfl, hb⟩
  have h1 : Held w w0 w.heap.size (w.heap.size + 1) 23 (.int .i64 a.1) (.int .i64 a.2) (.int .i64 b.1) (.int .i64 b.2) :=
    Held.step_alloc (wi := (w.alloc (.cells #[.int .i64 a.1, .int .i64 a.2] 23)).alloc (.cells #[.int .i64 b.1, .int .i64 b.2] 23))
      ⟨by omega, by omega, by go_grown, (Blk.new _ _ _).alloc _, by simpa using Blk.new (w.alloc _) _ _⟩ hb
  clear hb
  have h0 : Held3 w (w0.alloc (.cells #[.int .i64 q.1, .int .i64 q.2] 23)) w.heap.size (w.heap.size + 1) w0.heap.size 23 (.int .i64 a.1) (.int .i64 a.2) (.int .i64 b.1) (.int .i64 b.2) (.int .i64 q.1) (.int .i64 q.2) :=
    ⟨h1.alloc _, h1.2.2.1.size, Blk.new _ _ _⟩
  clear h1
  generalize hgc : w0.heap.size = gc at h0
  obtain ⟨c1, c2, c3, c4, c5, c6, _⟩ := h0.conds
  have H1 := Lib.hid h0
  clear h0
  go_wp2_with fail
  refine (within_r a q _).mono ?_
  rintro e w2 ⟨rfl, hb⟩
  have h2 := H1.out.step hb
  clear hb
  obtain ⟨c1, c2, c3, c4, c5, c6, _⟩ := h2.conds
  have H2 := Lib.hid h2
  clear h2
  go_wp2_with fail
  refine (within_r b q _).mono ?_
  rintro e w3 ⟨rfl, hb⟩
  have h3 := H2.out.step hb
  clear hb
  obtain ⟨c1, c2, c3, c4, c5, c6, _⟩ := h3.conds
  have H3 := Lib.hid h3
  clear h3
  go_wp2_with fail
  refine (has_r a n _).mono ?_
  rintro e w4 ⟨rfl, hb⟩
  have h4 := H3.out.step hb
  clear hb
  obtain ⟨c1, c2, c3, c4, c5, c6, _⟩ := h4.conds
  have H4 := Lib.hid h4
  clear h4
  go_wp2_with fail
  refine (has_r b n _).mono ?_
  rintro e w5 ⟨rfl, hb⟩
  have h5 := H4.out.step hb
  clear hb
  obtain ⟨c1, c2, c3, c4, c5, c6, _⟩ := h5.conds
  have H5 := Lib.hid h5
  clear h5
  go_wp2_with fail
  refine (empty_r a _).mono ?_
  rintro e w6 ⟨rfl, hb⟩
  have h6 := H5.out.step hb
  clear hb
  obtain ⟨c1, c2, c3, c4, c5, c6, _⟩ := h6.conds
  have H6 := Lib.hid h6
  clear h6
  go_wp2_with fail
  refine (empty_r b _).mono ?_
  rintro e w7 ⟨rfl, hb⟩
  have h7 := H6.out.step hb
  clear hb
  obtain ⟨c1, c2, c3, c4, c5, c6, _⟩ := h7.conds
  have H7 := Lib.hid h7
  clear h7
  go_wp2_with fail
  refine (empty_r a _).mono ?_
  rintro e w8 ⟨rfl, hb⟩
  have h8 := H7.out.step hb
  clear hb
  obtain ⟨c1, c2, c3, c4, c5, c6, _⟩ := h8.conds
  have H8 := Lib.hid h8
  clear h8
  go_wp2_with fail
  refine (empty_r b _).mono ?_
  rintro e w9 ⟨rfl, hb⟩
  have h9 := H8.out.step hb
  clear hb
  obtain ⟨c1, c2, c3, c4, c5, c6, _⟩ := h9.conds
  have H9 := Lib.hid h9
  clear h9
  go_wp2_with fail
  refine (empty_r b _).mono ?_
  rintro e w10 ⟨rfl, hb⟩
  have h10 := H9.out.step hb
  clear hb
  obtain ⟨c1, c2, c3, c4, c5, c6, _⟩ := h10.conds
  have H10 := Lib.hid h10
  clear h10
  go_wp2_with fail
  have h0 := H10.out
  refine wp_region_held_drew (S := (fun w' => w'.cell? ⟨w.heap.size, 0, none⟩ = some (.int .i64 a.1) ∧ w'.cell? ⟨w.heap.size, 1, none⟩ = some (.int .i64 a.2) ∧ w'.cell? ⟨w.heap.size + 1, 0, none⟩ = some (.int .i64 b.1) ∧ w'.cell? ⟨w.heap.size + 1, 1, none⟩ = some (.int .i64 b.2) ∧ w'.cell? ⟨gc, 0, none⟩ = some (.int .i64 q.1) ∧ w'.cell? ⟨gc, 1, none⟩ = some (.int .i64 q.2) ∧ Held3 w w' (w.heap.size) (w.heap.size + 1) (gc) 23 (.int .i64 a.1) (.int .i64 a.2) (.int .i64 b.1) (.int .i64 b.2) (.int .i64 q.1) (.int .i64 q.2))) (by kernel_rfl) ((Held3.drew h0).conds) (fun hHeld => ?_)
  refine wpAnyH_take (i := 0) (oi := ⟨some 95, Op.move (Operand.tmp 8), 4, _, #[], none⟩) (v := ?_) rfl (by kernel_rfl) (by kernel_rfl) (by kernel_rfl) (fun _ _ _ h => h) (Or.inl ⟨by rfl, ?_⟩) hHeld ?_
  rotate_left
  · (intro w1 hSw; (try dsimp only at hSw); go_simp; try (with_reducible rfl))
  try simp only [Act.put, List.setIfInBounds_toArray, List.set_cons_zero, List.set_cons_succ]
  refine wpAnyH_take (i := 1) (oi := ⟨some 96, Op.move (Operand.tmp 95), 4, _, #[{ on := 0, ground := Ground.data }], none⟩) (v := ?_) rfl (by kernel_rfl) (by kernel_rfl) (by kernel_rfl) (fun _ _ _ h => h) (Or.inl ⟨by rfl, ?_⟩) hHeld ?_
  rotate_left
  · (intro w1 hSw; (try dsimp only at hSw); go_simp; try (with_reducible rfl))
  try simp only [Act.put, List.setIfInBounds_toArray, List.set_cons_zero, List.set_cons_succ]
  refine wpAnyH_take (i := 2) (oi := ⟨some 97, Op.move (Operand.tmp 9), 4, _, #[{ on := 1, ground := Ground.guard }], some (1, true)⟩) (v := ?_) rfl (by kernel_rfl) (by kernel_rfl) (by kernel_rfl) (fun _ _ _ h => h) (Or.inl ⟨by rfl, ?_⟩) hHeld ?_
  rotate_left
  · (intro w1 hSw; (try dsimp only at hSw); go_simp; try (with_reducible rfl))
  try simp only [Act.put, List.setIfInBounds_toArray, List.set_cons_zero, List.set_cons_succ]
  refine wpAnyH_take (i := 3) (oi := ⟨some 98, Op.pick (Operand.tmp 96) (Operand.tmp 97) (Operand.const (Value.bool false)), 4, _, #[{ on := 1, ground := Ground.data }, { on := 2, ground := Ground.data }], none⟩) (v := ?_) rfl (by kernel_rfl) (by kernel_rfl) (by kernel_rfl) (fun _ _ _ h => h) (Or.inl ⟨by rfl, ?_⟩) hHeld ?_
  rotate_left
  · (intro w1 hSw; (try dsimp only at hSw); go_simp; try (with_reducible rfl))
  try simp only [Act.put, List.setIfInBounds_toArray, List.set_cons_zero, List.set_cons_succ]
  refine wpAnyH_take (i := 4) (oi := ⟨some 99, Op.move (Operand.tmp 98), 4, _, #[{ on := 3, ground := Ground.data }, { on := 1, ground := Ground.chain }], none⟩) (v := ?_) rfl (by kernel_rfl) (by kernel_rfl) (by kernel_rfl) (fun _ _ _ h => h) (Or.inl ⟨by rfl, ?_⟩) hHeld ?_
  rotate_left
  · (intro w1 hSw; (try dsimp only at hSw); go_simp; try (with_reducible rfl))
  try simp only [Act.put, List.setIfInBounds_toArray, List.set_cons_zero, List.set_cons_succ]
  refine wpAnyH_take (i := 5) (oi := ⟨some 100, Op.load 23 (Operand.tmp 4), 23, _, #[{ on := 4, ground := Ground.guard }], some (4, true)⟩) (v := ?_) rfl (by kernel_rfl) (by kernel_rfl) (by kernel_rfl) (fun _ _ _ h => h) (Or.inl ⟨by rfl, ?_⟩) hHeld ?_
  rotate_left
  · (intro w1 hSw; (try dsimp only at hSw); go_simp; try (with_reducible rfl))
  try simp only [Act.put, List.setIfInBounds_toArray, List.set_cons_zero, List.set_cons_succ]
  refine wpAnyH_take (i := 6) (oi := ⟨some 101, Op.load 23 (Operand.tmp 3), 23, _, #[{ on := 4, ground := Ground.guard }], some (4, true)⟩) (v := ?_) rfl (by kernel_rfl) (by kernel_rfl) (by kernel_rfl) (fun _ _ _ h => h) (Or.inl ⟨by rfl, ?_⟩) hHeld ?_
  rotate_left
  · (intro w1 hSw; (try dsimp only at hSw); go_simp; try (with_reducible rfl))
  try simp only [Act.put, List.setIfInBounds_toArray, List.set_cons_zero, List.set_cons_succ]
  refine wpAnyH_take (i := 9) (oi := ⟨some 104, Op.load 23 (Operand.tmp 7), 23, _, #[{ on := 4, ground := Ground.guard }], some (4, true)⟩) (v := ?_) rfl (by kernel_rfl) (by kernel_rfl) (by kernel_rfl) (fun _ _ _ h => h) (Or.inl ⟨by rfl, ?_⟩) hHeld ?_
  rotate_left
  · (intro w1 hSw; (try dsimp only at hSw); go_simp; try (with_reducible rfl))
  try simp only [Act.put, List.setIfInBounds_toArray, List.set_cons_zero, List.set_cons_succ]
  refine wpAnyH_ready (rs := [7]) (by kernel_rfl) (by simp) ?_
  refine AllReadyH.cons (o := ⟨some 102, Op.buildSlice 29 2 #[(0, Operand.tmp 100), (1, Operand.tmp 101)], 29, _, #[{ on := 5, ground := Ground.data }, { on := 6, ground := Ground.data }, { on := 4, ground := Ground.guard }], some (4, true)⟩) rfl (fun K hK => ?_) AllReadyH.nil
  go_simp
  refine hK.out _ _ (Held3.grow hHeld) (fun hH => ?_)
  clear hHeld hK K
  have hHeld := hH
  clear hH
  try simp only [Act.put, List.setIfInBounds_toArray, List.set_cons_zero, List.set_cons_succ]
  refine wpAnyH_ready (rs := [8]) (by kernel_rfl) (by simp) ?_
  refine AllReadyH.cons (o := ⟨some 103, Op.call { callee := Callee.value (Operand.func 18), args := #[Operand.tmp 102], argTypes := #[29] }, 23, _, #[{ on := 7, ground := Ground.data }, { on := 4, ground := Ground.chain }, { on := 4, ground := Ground.guard }], some (4, true)⟩) rfl (fun K hK => ?_) AllReadyH.nil
  go_simp
  refine (cover_any _ _ _ [b, a] _ rfl (Nat.le_refl 2) (by decide) (reads_two _ _ rfl _ b a).drew).mono ?_
  rw [Hs.out]
  rintro e w1 ⟨rfl, hb1⟩
  refine hK.out _ _ (Held3.next hHeld hb1) (fun hH => ?_)
  clear hHeld hK K hb1
  have hHeld := hH
  clear hH
  try simp only [Act.put, List.setIfInBounds_toArray, List.set_cons_zero, List.set_cons_succ]
  refine wpAnyH_take (i := 10) (oi := ⟨some 105, Op.binOp BinOp.eql 23 (Operand.tmp 103) (Operand.tmp 104) 23, 4, _, #[{ on := 8, ground := Ground.data }, { on := 9, ground := Ground.data }, { on := 4, ground := Ground.guard }], some (4, true)⟩) (v := ?_) rfl (by kernel_rfl) (by kernel_rfl) (by kernel_rfl) (fun _ _ _ h => h) (Or.inl ⟨by rfl, ?_⟩) hHeld ?_
  rotate_left
  · (intro w1 hSw; (try dsimp only at hSw); go_simp; try (with_reducible rfl))
  try simp only [Act.put, List.setIfInBounds_toArray, List.set_cons_zero, List.set_cons_succ]
  refine wpAnyH_take (i := 11) (oi := ⟨some 106, Op.pick (Operand.tmp 99) (Operand.tmp 105) (Operand.const (Value.bool false)), 4, _, #[{ on := 4, ground := Ground.data }, { on := 10, ground := Ground.data }], none⟩) (v := ?_) rfl (by kernel_rfl) (by kernel_rfl) (by kernel_rfl) (fun _ _ _ h => h) (Or.inl ⟨by rfl, ?_⟩) hHeld ?_
  rotate_left
  · (intro w1 hSw; (try dsimp only at hSw); go_simp; try (with_reducible rfl))
  try simp only [Act.put, List.setIfInBounds_toArray, List.set_cons_zero, List.set_cons_succ]
  refine wpAnyH_take (i := 12) (oi := ⟨some 107, Op.move (Operand.tmp 106), 4, _, #[{ on := 11, ground := Ground.data }, { on := 8, ground := Ground.chain }], none⟩) (v := ?_) rfl (by kernel_rfl) (by kernel_rfl) (by kernel_rfl) (fun _ _ _ h => h) (Or.inl ⟨by rfl, ?_⟩) hHeld ?_
  rotate_left
  · (intro w1 hSw; (try dsimp only at hSw); go_simp; try (with_reducible rfl))
  try simp only [Act.put, List.setIfInBounds_toArray, List.set_cons_zero, List.set_cons_succ]
  refine wpAnyH_ready (rs := [13]) (by kernel_rfl) (by simp) ?_
  refine AllReadyH.cons (o := ⟨some 108, Op.call { callee := Callee.value (Operand.func 15), args := #[], argTypes := #[] }, 4, _, #[{ on := 12, ground := Ground.chain }, { on := 12, ground := Ground.guard }], some (12, true)⟩) rfl (fun K hK => ?_) AllReadyH.nil
  go_simp
  refine (awake_any _).mono ?_
  rintro e w1 ⟨rfl, hb1⟩
  refine hK.out _ _ (Held3.next hHeld hb1) (fun hH => ?_)
  clear hHeld hK K hb1
  have hHeld := hH
  clear hH
  try simp only [Act.put, List.setIfInBounds_toArray, List.set_cons_zero, List.set_cons_succ]
  refine wpAnyH_take (i := 14) (oi := ⟨some 109, Op.pick (Operand.tmp 107) (Operand.tmp 108) (Operand.const (Value.bool false)), 4, _, #[{ on := 12, ground := Ground.data }, { on := 13, ground := Ground.data }], none⟩) (v := ?_) rfl (by kernel_rfl) (by kernel_rfl) (by kernel_rfl) (fun _ _ _ h => h) (Or.inl ⟨by rfl, ?_⟩) hHeld ?_
  rotate_left
  · (intro w1 hSw; (try dsimp only at hSw); go_simp; try (with_reducible rfl))
  try simp only [Act.put, List.setIfInBounds_toArray, List.set_cons_zero, List.set_cons_succ]
  refine wpAnyH_take (i := 15) (oi := ⟨some 6, Op.assign (Operand.tmp 109), 4, _, #[{ on := 14, ground := Ground.data }, { on := 13, ground := Ground.chain }, { on := 0, ground := Ground.phase }, { on := 1, ground := Ground.phase }, { on := 2, ground := Ground.phase }, { on := 3, ground := Ground.phase }, { on := 4, ground := Ground.phase }, { on := 5, ground := Ground.phase }, { on := 6, ground := Ground.phase }, { on := 7, ground := Ground.phase }, { on := 8, ground := Ground.phase }, { on := 9, ground := Ground.phase }, { on := 10, ground := Ground.phase }, { on := 11, ground := Ground.phase }, { on := 12, ground := Ground.phase }, { on := 13, ground := Ground.phase }, { on := 14, ground := Ground.phase }], none⟩) (v := ?_) rfl (by kernel_rfl) (by kernel_rfl) (by kernel_rfl) (fun _ _ _ h => h) (Or.inl ⟨by rfl, ?_⟩) hHeld ?_
  rotate_left
  · (intro w1 hSw; (try dsimp only at hSw); go_simp; try (with_reducible rfl))
  try simp only [Act.put, List.setIfInBounds_toArray, List.set_cons_zero, List.set_cons_succ]
  refine wpAnyH_done (by kernel_rfl) ?_ _
  go_wp2
  go_ret
  exact ⟨rfl, Held3.last hHeld⟩

set_option maxHeartbeats 4000000 in
theorem cover_ff_erl (a b q : Int × Int) (n : Int) (w : World) (hq : coverF [a, b] = q) (hs : coverF [b, a] = q) (hwl : withinF a q = true) (hwr : withinF b q = true) (hA : hasF a n = false) (hB : hasF b n = false) (eA : emptyF a = true) (eB : emptyF b = false) (h1a : (q.1 == a.1) = false) (h1b : (q.1 == b.1) = true) (h2a : (q.2 == a.2) = true) (h2b : (q.2 == b.2) = true) :
    Calls Try.prog 6 #[.agg #[.int .i64 a.1, .int .i64 a.2], .agg #[.int .i64 b.1, .int .i64 b.2], .int .i64 n] w fun e w' => e = .returned (.bool true) ∧ Below w.heap.size w w' := by
  have Hq := Lib.hid hq
  have Hs := Lib.hid hs
  clear hq hs
  go_enter Try.func6, Try.ntmps6
  go_wp2_with fail
  refine (cover_any _ _ _ [a, b] _ rfl ?_ ?_ (reads_two _ _ ?_ _ a b)).mono ?_
  · exact Nat.le_refl 2
  · decide
  · simp
  rw [Hq.out]
  rintro e w0 ⟨rfl, hb⟩
  have h1 : Held w w0 w.heap.size (w.heap.size + 1) 23 (.int .i64 a.1) (.int .i64 a.2) (.int .i64 b.1) (.int .i64 b.2) :=
    Held.step_alloc (wi := (w.alloc (.cells #[.int .i64 a.1, .int .i64 a.2] 23)).alloc (.cells #[.int .i64 b.1, .int .i64 b.2] 23))
      ⟨by omega, by omega, by go_grown, (Blk.new _ _ _).alloc _, by simpa using Blk.new (w.alloc _) _ _⟩ hb
  clear hb
  have h0 : Held3 w (w0.alloc (.cells #[.int .i64 q.1, .int .i64 q.2] 23)) w.heap.size (w.heap.size + 1) w0.heap.size 23 (.int .i64 a.1) (.int .i64 a.2) (.int .i64 b.1) (.int .i64 b.2) (.int .i64 q.1) (.int .i64 q.2) :=
    ⟨h1.alloc _, h1.2.2.1.size, Blk.new _ _ _⟩
  clear h1
  generalize hgc : w0.heap.size = gc at h0
  obtain ⟨c1, c2, c3, c4, c5, c6, _⟩ := h0.conds
  have H1 := Lib.hid h0
  clear h0
  go_wp2_with fail
  refine (within_r a q _).mono ?_
  rintro e w2 ⟨rfl, hb⟩
  have h2 := H1.out.step hb
  clear hb
  obtain ⟨c1, c2, c3, c4, c5, c6, _⟩ := h2.conds
  have H2 := Lib.hid h2
  clear h2
  go_wp2_with fail
  refine (within_r b q _).mono ?_
  rintro e w3 ⟨rfl, hb⟩
  have h3 := H2.out.step hb
  clear hb
  obtain ⟨c1, c2, c3, c4, c5, c6, _⟩ := h3.conds
  have H3 := Lib.hid h3
  clear h3
  go_wp2_with fail
  refine (has_r a n _).mono ?_
  rintro e w4 ⟨rfl, hb⟩
  have h4 := H3.out.step hb
  clear hb
  obtain ⟨c1, c2, c3, c4, c5, c6, _⟩ := h4.conds
  have H4 := Lib.hid h4
  clear h4
  go_wp2_with fail
  refine (has_r b n _).mono ?_
  rintro e w5 ⟨rfl, hb⟩
  have h5 := H4.out.step hb
  clear hb
  obtain ⟨c1, c2, c3, c4, c5, c6, _⟩ := h5.conds
  have H5 := Lib.hid h5
  clear h5
  go_wp2_with fail
  refine (empty_r a _).mono ?_
  rintro e w6 ⟨rfl, hb⟩
  have h6 := H5.out.step hb
  clear hb
  obtain ⟨c1, c2, c3, c4, c5, c6, _⟩ := h6.conds
  have H6 := Lib.hid h6
  clear h6
  go_wp2_with fail
  refine (empty_r b _).mono ?_
  rintro e w7 ⟨rfl, hb⟩
  have h7 := H6.out.step hb
  clear hb
  obtain ⟨c1, c2, c3, c4, c5, c6, _⟩ := h7.conds
  have H7 := Lib.hid h7
  clear h7
  go_wp2_with fail
  refine (empty_r b _).mono ?_
  rintro e w8 ⟨rfl, hb⟩
  have h8 := H7.out.step hb
  clear hb
  obtain ⟨c1, c2, c3, c4, c5, c6, _⟩ := h8.conds
  have H8 := Lib.hid h8
  clear h8
  go_wp2_with fail
  refine (empty_r a _).mono ?_
  rintro e w9 ⟨rfl, hb⟩
  have h9 := H8.out.step hb
  clear hb
  obtain ⟨c1, c2, c3, c4, c5, c6, _⟩ := h9.conds
  have H9 := Lib.hid h9
  clear h9
  go_wp2_with fail
  refine (empty_r b _).mono ?_
  rintro e w10 ⟨rfl, hb⟩
  have h10 := H9.out.step hb
  clear hb
  obtain ⟨c1, c2, c3, c4, c5, c6, _⟩ := h10.conds
  have H10 := Lib.hid h10
  clear h10
  go_wp2_with fail
  have h0 := H10.out
  refine wp_region_held_drew (S := (fun w' => w'.cell? ⟨w.heap.size, 0, none⟩ = some (.int .i64 a.1) ∧ w'.cell? ⟨w.heap.size, 1, none⟩ = some (.int .i64 a.2) ∧ w'.cell? ⟨w.heap.size + 1, 0, none⟩ = some (.int .i64 b.1) ∧ w'.cell? ⟨w.heap.size + 1, 1, none⟩ = some (.int .i64 b.2) ∧ w'.cell? ⟨gc, 0, none⟩ = some (.int .i64 q.1) ∧ w'.cell? ⟨gc, 1, none⟩ = some (.int .i64 q.2) ∧ Held3 w w' (w.heap.size) (w.heap.size + 1) (gc) 23 (.int .i64 a.1) (.int .i64 a.2) (.int .i64 b.1) (.int .i64 b.2) (.int .i64 q.1) (.int .i64 q.2))) (by kernel_rfl) ((Held3.drew h0).conds) (fun hHeld => ?_)
  refine wpAnyH_take (i := 0) (oi := ⟨some 95, Op.move (Operand.tmp 8), 4, _, #[], none⟩) (v := ?_) rfl (by kernel_rfl) (by kernel_rfl) (by kernel_rfl) (fun _ _ _ h => h) (Or.inl ⟨by rfl, ?_⟩) hHeld ?_
  rotate_left
  · (intro w1 hSw; (try dsimp only at hSw); go_simp; try (with_reducible rfl))
  try simp only [Act.put, List.setIfInBounds_toArray, List.set_cons_zero, List.set_cons_succ]
  refine wpAnyH_take (i := 1) (oi := ⟨some 96, Op.move (Operand.tmp 95), 4, _, #[{ on := 0, ground := Ground.data }], none⟩) (v := ?_) rfl (by kernel_rfl) (by kernel_rfl) (by kernel_rfl) (fun _ _ _ h => h) (Or.inl ⟨by rfl, ?_⟩) hHeld ?_
  rotate_left
  · (intro w1 hSw; (try dsimp only at hSw); go_simp; try (with_reducible rfl))
  try simp only [Act.put, List.setIfInBounds_toArray, List.set_cons_zero, List.set_cons_succ]
  refine wpAnyH_take (i := 2) (oi := ⟨some 97, Op.move (Operand.tmp 9), 4, _, #[{ on := 1, ground := Ground.guard }], some (1, true)⟩) (v := ?_) rfl (by kernel_rfl) (by kernel_rfl) (by kernel_rfl) (fun _ _ _ h => h) (Or.inl ⟨by rfl, ?_⟩) hHeld ?_
  rotate_left
  · (intro w1 hSw; (try dsimp only at hSw); go_simp; try (with_reducible rfl))
  try simp only [Act.put, List.setIfInBounds_toArray, List.set_cons_zero, List.set_cons_succ]
  refine wpAnyH_take (i := 3) (oi := ⟨some 98, Op.pick (Operand.tmp 96) (Operand.tmp 97) (Operand.const (Value.bool false)), 4, _, #[{ on := 1, ground := Ground.data }, { on := 2, ground := Ground.data }], none⟩) (v := ?_) rfl (by kernel_rfl) (by kernel_rfl) (by kernel_rfl) (fun _ _ _ h => h) (Or.inl ⟨by rfl, ?_⟩) hHeld ?_
  rotate_left
  · (intro w1 hSw; (try dsimp only at hSw); go_simp; try (with_reducible rfl))
  try simp only [Act.put, List.setIfInBounds_toArray, List.set_cons_zero, List.set_cons_succ]
  refine wpAnyH_take (i := 4) (oi := ⟨some 99, Op.move (Operand.tmp 98), 4, _, #[{ on := 3, ground := Ground.data }, { on := 1, ground := Ground.chain }], none⟩) (v := ?_) rfl (by kernel_rfl) (by kernel_rfl) (by kernel_rfl) (fun _ _ _ h => h) (Or.inl ⟨by rfl, ?_⟩) hHeld ?_
  rotate_left
  · (intro w1 hSw; (try dsimp only at hSw); go_simp; try (with_reducible rfl))
  try simp only [Act.put, List.setIfInBounds_toArray, List.set_cons_zero, List.set_cons_succ]
  refine wpAnyH_take (i := 5) (oi := ⟨some 100, Op.load 23 (Operand.tmp 4), 23, _, #[{ on := 4, ground := Ground.guard }], some (4, true)⟩) (v := ?_) rfl (by kernel_rfl) (by kernel_rfl) (by kernel_rfl) (fun _ _ _ h => h) (Or.inl ⟨by rfl, ?_⟩) hHeld ?_
  rotate_left
  · (intro w1 hSw; (try dsimp only at hSw); go_simp; try (with_reducible rfl))
  try simp only [Act.put, List.setIfInBounds_toArray, List.set_cons_zero, List.set_cons_succ]
  refine wpAnyH_take (i := 6) (oi := ⟨some 101, Op.load 23 (Operand.tmp 3), 23, _, #[{ on := 4, ground := Ground.guard }], some (4, true)⟩) (v := ?_) rfl (by kernel_rfl) (by kernel_rfl) (by kernel_rfl) (fun _ _ _ h => h) (Or.inl ⟨by rfl, ?_⟩) hHeld ?_
  rotate_left
  · (intro w1 hSw; (try dsimp only at hSw); go_simp; try (with_reducible rfl))
  try simp only [Act.put, List.setIfInBounds_toArray, List.set_cons_zero, List.set_cons_succ]
  refine wpAnyH_take (i := 9) (oi := ⟨some 104, Op.load 23 (Operand.tmp 7), 23, _, #[{ on := 4, ground := Ground.guard }], some (4, true)⟩) (v := ?_) rfl (by kernel_rfl) (by kernel_rfl) (by kernel_rfl) (fun _ _ _ h => h) (Or.inl ⟨by rfl, ?_⟩) hHeld ?_
  rotate_left
  · (intro w1 hSw; (try dsimp only at hSw); go_simp; try (with_reducible rfl))
  try simp only [Act.put, List.setIfInBounds_toArray, List.set_cons_zero, List.set_cons_succ]
  refine wpAnyH_ready (rs := [7]) (by kernel_rfl) (by simp) ?_
  refine AllReadyH.cons (o := ⟨some 102, Op.buildSlice 29 2 #[(0, Operand.tmp 100), (1, Operand.tmp 101)], 29, _, #[{ on := 5, ground := Ground.data }, { on := 6, ground := Ground.data }, { on := 4, ground := Ground.guard }], some (4, true)⟩) rfl (fun K hK => ?_) AllReadyH.nil
  go_simp
  refine hK.out _ _ (Held3.grow hHeld) (fun hH => ?_)
  clear hHeld hK K
  have hHeld := hH
  clear hH
  try simp only [Act.put, List.setIfInBounds_toArray, List.set_cons_zero, List.set_cons_succ]
  refine wpAnyH_ready (rs := [8]) (by kernel_rfl) (by simp) ?_
  refine AllReadyH.cons (o := ⟨some 103, Op.call { callee := Callee.value (Operand.func 18), args := #[Operand.tmp 102], argTypes := #[29] }, 23, _, #[{ on := 7, ground := Ground.data }, { on := 4, ground := Ground.chain }, { on := 4, ground := Ground.guard }], some (4, true)⟩) rfl (fun K hK => ?_) AllReadyH.nil
  go_simp
  refine (cover_any _ _ _ [b, a] _ rfl (Nat.le_refl 2) (by decide) (reads_two _ _ rfl _ b a).drew).mono ?_
  rw [Hs.out]
  rintro e w1 ⟨rfl, hb1⟩
  refine hK.out _ _ (Held3.next hHeld hb1) (fun hH => ?_)
  clear hHeld hK K hb1
  have hHeld := hH
  clear hH
  try simp only [Act.put, List.setIfInBounds_toArray, List.set_cons_zero, List.set_cons_succ]
  refine wpAnyH_take (i := 10) (oi := ⟨some 105, Op.binOp BinOp.eql 23 (Operand.tmp 103) (Operand.tmp 104) 23, 4, _, #[{ on := 8, ground := Ground.data }, { on := 9, ground := Ground.data }, { on := 4, ground := Ground.guard }], some (4, true)⟩) (v := ?_) rfl (by kernel_rfl) (by kernel_rfl) (by kernel_rfl) (fun _ _ _ h => h) (Or.inl ⟨by rfl, ?_⟩) hHeld ?_
  rotate_left
  · (intro w1 hSw; (try dsimp only at hSw); go_simp; try (with_reducible rfl))
  try simp only [Act.put, List.setIfInBounds_toArray, List.set_cons_zero, List.set_cons_succ]
  refine wpAnyH_take (i := 11) (oi := ⟨some 106, Op.pick (Operand.tmp 99) (Operand.tmp 105) (Operand.const (Value.bool false)), 4, _, #[{ on := 4, ground := Ground.data }, { on := 10, ground := Ground.data }], none⟩) (v := ?_) rfl (by kernel_rfl) (by kernel_rfl) (by kernel_rfl) (fun _ _ _ h => h) (Or.inl ⟨by rfl, ?_⟩) hHeld ?_
  rotate_left
  · (intro w1 hSw; (try dsimp only at hSw); go_simp; try (with_reducible rfl))
  try simp only [Act.put, List.setIfInBounds_toArray, List.set_cons_zero, List.set_cons_succ]
  refine wpAnyH_take (i := 12) (oi := ⟨some 107, Op.move (Operand.tmp 106), 4, _, #[{ on := 11, ground := Ground.data }, { on := 8, ground := Ground.chain }], none⟩) (v := ?_) rfl (by kernel_rfl) (by kernel_rfl) (by kernel_rfl) (fun _ _ _ h => h) (Or.inl ⟨by rfl, ?_⟩) hHeld ?_
  rotate_left
  · (intro w1 hSw; (try dsimp only at hSw); go_simp; try (with_reducible rfl))
  try simp only [Act.put, List.setIfInBounds_toArray, List.set_cons_zero, List.set_cons_succ]
  refine wpAnyH_ready (rs := [13]) (by kernel_rfl) (by simp) ?_
  refine AllReadyH.cons (o := ⟨some 108, Op.call { callee := Callee.value (Operand.func 15), args := #[], argTypes := #[] }, 4, _, #[{ on := 12, ground := Ground.chain }, { on := 12, ground := Ground.guard }], some (12, true)⟩) rfl (fun K hK => ?_) AllReadyH.nil
  go_simp
  refine (awake_any _).mono ?_
  rintro e w1 ⟨rfl, hb1⟩
  refine hK.out _ _ (Held3.next hHeld hb1) (fun hH => ?_)
  clear hHeld hK K hb1
  have hHeld := hH
  clear hH
  try simp only [Act.put, List.setIfInBounds_toArray, List.set_cons_zero, List.set_cons_succ]
  refine wpAnyH_take (i := 14) (oi := ⟨some 109, Op.pick (Operand.tmp 107) (Operand.tmp 108) (Operand.const (Value.bool false)), 4, _, #[{ on := 12, ground := Ground.data }, { on := 13, ground := Ground.data }], none⟩) (v := ?_) rfl (by kernel_rfl) (by kernel_rfl) (by kernel_rfl) (fun _ _ _ h => h) (Or.inl ⟨by rfl, ?_⟩) hHeld ?_
  rotate_left
  · (intro w1 hSw; (try dsimp only at hSw); go_simp; try (with_reducible rfl))
  try simp only [Act.put, List.setIfInBounds_toArray, List.set_cons_zero, List.set_cons_succ]
  refine wpAnyH_take (i := 15) (oi := ⟨some 6, Op.assign (Operand.tmp 109), 4, _, #[{ on := 14, ground := Ground.data }, { on := 13, ground := Ground.chain }, { on := 0, ground := Ground.phase }, { on := 1, ground := Ground.phase }, { on := 2, ground := Ground.phase }, { on := 3, ground := Ground.phase }, { on := 4, ground := Ground.phase }, { on := 5, ground := Ground.phase }, { on := 6, ground := Ground.phase }, { on := 7, ground := Ground.phase }, { on := 8, ground := Ground.phase }, { on := 9, ground := Ground.phase }, { on := 10, ground := Ground.phase }, { on := 11, ground := Ground.phase }, { on := 12, ground := Ground.phase }, { on := 13, ground := Ground.phase }, { on := 14, ground := Ground.phase }], none⟩) (v := ?_) rfl (by kernel_rfl) (by kernel_rfl) (by kernel_rfl) (fun _ _ _ h => h) (Or.inl ⟨by rfl, ?_⟩) hHeld ?_
  rotate_left
  · (intro w1 hSw; (try dsimp only at hSw); go_simp; try (with_reducible rfl))
  try simp only [Act.put, List.setIfInBounds_toArray, List.set_cons_zero, List.set_cons_succ]
  refine wpAnyH_done (by kernel_rfl) ?_ _
  go_wp2
  go_ret
  exact ⟨rfl, Held3.last hHeld⟩

set_option maxHeartbeats 4000000 in
theorem cover_ff_err (a b q : Int × Int) (n : Int) (w : World) (hq : coverF [a, b] = q) (hs : coverF [b, a] = q) (hwl : withinF a q = true) (hwr : withinF b q = true) (hA : hasF a n = false) (hB : hasF b n = false) (eA : emptyF a = true) (eB : emptyF b = false) (h1a : (q.1 == a.1) = false) (h1b : (q.1 == b.1) = true) (h2a : (q.2 == a.2) = false) (h2b : (q.2 == b.2) = true) :
    Calls Try.prog 6 #[.agg #[.int .i64 a.1, .int .i64 a.2], .agg #[.int .i64 b.1, .int .i64 b.2], .int .i64 n] w fun e w' => e = .returned (.bool true) ∧ Below w.heap.size w w' := by
  have Hq := Lib.hid hq
  have Hs := Lib.hid hs
  clear hq hs
  go_enter Try.func6, Try.ntmps6
  go_wp2_with fail
  refine (cover_any _ _ _ [a, b] _ rfl ?_ ?_ (reads_two _ _ ?_ _ a b)).mono ?_
  · exact Nat.le_refl 2
  · decide
  · simp
  rw [Hq.out]
  rintro e w0 ⟨rfl, hb⟩
  have h1 : Held w w0 w.heap.size (w.heap.size + 1) 23 (.int .i64 a.1) (.int .i64 a.2) (.int .i64 b.1) (.int .i64 b.2) :=
    Held.step_alloc (wi := (w.alloc (.cells #[.int .i64 a.1, .int .i64 a.2] 23)).alloc (.cells #[.int .i64 b.1, .int .i64 b.2] 23))
      ⟨by omega, by omega, by go_grown, (Blk.new _ _ _).alloc _, by simpa using Blk.new (w.alloc _) _ _⟩ hb
  clear hb
  have h0 : Held3 w (w0.alloc (.cells #[.int .i64 q.1, .int .i64 q.2] 23)) w.heap.size (w.heap.size + 1) w0.heap.size 23 (.int .i64 a.1) (.int .i64 a.2) (.int .i64 b.1) (.int .i64 b.2) (.int .i64 q.1) (.int .i64 q.2) :=
    ⟨h1.alloc _, h1.2.2.1.size, Blk.new _ _ _⟩
  clear h1
  generalize hgc : w0.heap.size = gc at h0
  obtain ⟨c1, c2, c3, c4, c5, c6, _⟩ := h0.conds
  have H1 := Lib.hid h0
  clear h0
  go_wp2_with fail
  refine (within_r a q _).mono ?_
  rintro e w2 ⟨rfl, hb⟩
  have h2 := H1.out.step hb
  clear hb
  obtain ⟨c1, c2, c3, c4, c5, c6, _⟩ := h2.conds
  have H2 := Lib.hid h2
  clear h2
  go_wp2_with fail
  refine (within_r b q _).mono ?_
  rintro e w3 ⟨rfl, hb⟩
  have h3 := H2.out.step hb
  clear hb
  obtain ⟨c1, c2, c3, c4, c5, c6, _⟩ := h3.conds
  have H3 := Lib.hid h3
  clear h3
  go_wp2_with fail
  refine (has_r a n _).mono ?_
  rintro e w4 ⟨rfl, hb⟩
  have h4 := H3.out.step hb
  clear hb
  obtain ⟨c1, c2, c3, c4, c5, c6, _⟩ := h4.conds
  have H4 := Lib.hid h4
  clear h4
  go_wp2_with fail
  refine (has_r b n _).mono ?_
  rintro e w5 ⟨rfl, hb⟩
  have h5 := H4.out.step hb
  clear hb
  obtain ⟨c1, c2, c3, c4, c5, c6, _⟩ := h5.conds
  have H5 := Lib.hid h5
  clear h5
  go_wp2_with fail
  refine (empty_r a _).mono ?_
  rintro e w6 ⟨rfl, hb⟩
  have h6 := H5.out.step hb
  clear hb
  obtain ⟨c1, c2, c3, c4, c5, c6, _⟩ := h6.conds
  have H6 := Lib.hid h6
  clear h6
  go_wp2_with fail
  refine (empty_r b _).mono ?_
  rintro e w7 ⟨rfl, hb⟩
  have h7 := H6.out.step hb
  clear hb
  obtain ⟨c1, c2, c3, c4, c5, c6, _⟩ := h7.conds
  have H7 := Lib.hid h7
  clear h7
  go_wp2_with fail
  refine (empty_r b _).mono ?_
  rintro e w8 ⟨rfl, hb⟩
  have h8 := H7.out.step hb
  clear hb
  obtain ⟨c1, c2, c3, c4, c5, c6, _⟩ := h8.conds
  have H8 := Lib.hid h8
  clear h8
  go_wp2_with fail
  refine (empty_r b _).mono ?_
  rintro e w9 ⟨rfl, hb⟩
  have h9 := H8.out.step hb
  clear hb
  obtain ⟨c1, c2, c3, c4, c5, c6, _⟩ := h9.conds
  have H9 := Lib.hid h9
  clear h9
  go_wp2_with fail
  have h0 := H9.out
  refine wp_region_held_drew (S := (fun w' => w'.cell? ⟨w.heap.size, 0, none⟩ = some (.int .i64 a.1) ∧ w'.cell? ⟨w.heap.size, 1, none⟩ = some (.int .i64 a.2) ∧ w'.cell? ⟨w.heap.size + 1, 0, none⟩ = some (.int .i64 b.1) ∧ w'.cell? ⟨w.heap.size + 1, 1, none⟩ = some (.int .i64 b.2) ∧ w'.cell? ⟨gc, 0, none⟩ = some (.int .i64 q.1) ∧ w'.cell? ⟨gc, 1, none⟩ = some (.int .i64 q.2) ∧ Held3 w w' (w.heap.size) (w.heap.size + 1) (gc) 23 (.int .i64 a.1) (.int .i64 a.2) (.int .i64 b.1) (.int .i64 b.2) (.int .i64 q.1) (.int .i64 q.2))) (by kernel_rfl) ((Held3.drew h0).conds) (fun hHeld => ?_)
  refine wpAnyH_take (i := 0) (oi := ⟨some 95, Op.move (Operand.tmp 8), 4, _, #[], none⟩) (v := ?_) rfl (by kernel_rfl) (by kernel_rfl) (by kernel_rfl) (fun _ _ _ h => h) (Or.inl ⟨by rfl, ?_⟩) hHeld ?_
  rotate_left
  · (intro w1 hSw; (try dsimp only at hSw); go_simp; try (with_reducible rfl))
  try simp only [Act.put, List.setIfInBounds_toArray, List.set_cons_zero, List.set_cons_succ]
  refine wpAnyH_take (i := 1) (oi := ⟨some 96, Op.move (Operand.tmp 95), 4, _, #[{ on := 0, ground := Ground.data }], none⟩) (v := ?_) rfl (by kernel_rfl) (by kernel_rfl) (by kernel_rfl) (fun _ _ _ h => h) (Or.inl ⟨by rfl, ?_⟩) hHeld ?_
  rotate_left
  · (intro w1 hSw; (try dsimp only at hSw); go_simp; try (with_reducible rfl))
  try simp only [Act.put, List.setIfInBounds_toArray, List.set_cons_zero, List.set_cons_succ]
  refine wpAnyH_take (i := 2) (oi := ⟨some 97, Op.move (Operand.tmp 9), 4, _, #[{ on := 1, ground := Ground.guard }], some (1, true)⟩) (v := ?_) rfl (by kernel_rfl) (by kernel_rfl) (by kernel_rfl) (fun _ _ _ h => h) (Or.inl ⟨by rfl, ?_⟩) hHeld ?_
  rotate_left
  · (intro w1 hSw; (try dsimp only at hSw); go_simp; try (with_reducible rfl))
  try simp only [Act.put, List.setIfInBounds_toArray, List.set_cons_zero, List.set_cons_succ]
  refine wpAnyH_take (i := 3) (oi := ⟨some 98, Op.pick (Operand.tmp 96) (Operand.tmp 97) (Operand.const (Value.bool false)), 4, _, #[{ on := 1, ground := Ground.data }, { on := 2, ground := Ground.data }], none⟩) (v := ?_) rfl (by kernel_rfl) (by kernel_rfl) (by kernel_rfl) (fun _ _ _ h => h) (Or.inl ⟨by rfl, ?_⟩) hHeld ?_
  rotate_left
  · (intro w1 hSw; (try dsimp only at hSw); go_simp; try (with_reducible rfl))
  try simp only [Act.put, List.setIfInBounds_toArray, List.set_cons_zero, List.set_cons_succ]
  refine wpAnyH_take (i := 4) (oi := ⟨some 99, Op.move (Operand.tmp 98), 4, _, #[{ on := 3, ground := Ground.data }, { on := 1, ground := Ground.chain }], none⟩) (v := ?_) rfl (by kernel_rfl) (by kernel_rfl) (by kernel_rfl) (fun _ _ _ h => h) (Or.inl ⟨by rfl, ?_⟩) hHeld ?_
  rotate_left
  · (intro w1 hSw; (try dsimp only at hSw); go_simp; try (with_reducible rfl))
  try simp only [Act.put, List.setIfInBounds_toArray, List.set_cons_zero, List.set_cons_succ]
  refine wpAnyH_take (i := 5) (oi := ⟨some 100, Op.load 23 (Operand.tmp 4), 23, _, #[{ on := 4, ground := Ground.guard }], some (4, true)⟩) (v := ?_) rfl (by kernel_rfl) (by kernel_rfl) (by kernel_rfl) (fun _ _ _ h => h) (Or.inl ⟨by rfl, ?_⟩) hHeld ?_
  rotate_left
  · (intro w1 hSw; (try dsimp only at hSw); go_simp; try (with_reducible rfl))
  try simp only [Act.put, List.setIfInBounds_toArray, List.set_cons_zero, List.set_cons_succ]
  refine wpAnyH_take (i := 6) (oi := ⟨some 101, Op.load 23 (Operand.tmp 3), 23, _, #[{ on := 4, ground := Ground.guard }], some (4, true)⟩) (v := ?_) rfl (by kernel_rfl) (by kernel_rfl) (by kernel_rfl) (fun _ _ _ h => h) (Or.inl ⟨by rfl, ?_⟩) hHeld ?_
  rotate_left
  · (intro w1 hSw; (try dsimp only at hSw); go_simp; try (with_reducible rfl))
  try simp only [Act.put, List.setIfInBounds_toArray, List.set_cons_zero, List.set_cons_succ]
  refine wpAnyH_take (i := 9) (oi := ⟨some 104, Op.load 23 (Operand.tmp 7), 23, _, #[{ on := 4, ground := Ground.guard }], some (4, true)⟩) (v := ?_) rfl (by kernel_rfl) (by kernel_rfl) (by kernel_rfl) (fun _ _ _ h => h) (Or.inl ⟨by rfl, ?_⟩) hHeld ?_
  rotate_left
  · (intro w1 hSw; (try dsimp only at hSw); go_simp; try (with_reducible rfl))
  try simp only [Act.put, List.setIfInBounds_toArray, List.set_cons_zero, List.set_cons_succ]
  refine wpAnyH_ready (rs := [7]) (by kernel_rfl) (by simp) ?_
  refine AllReadyH.cons (o := ⟨some 102, Op.buildSlice 29 2 #[(0, Operand.tmp 100), (1, Operand.tmp 101)], 29, _, #[{ on := 5, ground := Ground.data }, { on := 6, ground := Ground.data }, { on := 4, ground := Ground.guard }], some (4, true)⟩) rfl (fun K hK => ?_) AllReadyH.nil
  go_simp
  refine hK.out _ _ (Held3.grow hHeld) (fun hH => ?_)
  clear hHeld hK K
  have hHeld := hH
  clear hH
  try simp only [Act.put, List.setIfInBounds_toArray, List.set_cons_zero, List.set_cons_succ]
  refine wpAnyH_ready (rs := [8]) (by kernel_rfl) (by simp) ?_
  refine AllReadyH.cons (o := ⟨some 103, Op.call { callee := Callee.value (Operand.func 18), args := #[Operand.tmp 102], argTypes := #[29] }, 23, _, #[{ on := 7, ground := Ground.data }, { on := 4, ground := Ground.chain }, { on := 4, ground := Ground.guard }], some (4, true)⟩) rfl (fun K hK => ?_) AllReadyH.nil
  go_simp
  refine (cover_any _ _ _ [b, a] _ rfl (Nat.le_refl 2) (by decide) (reads_two _ _ rfl _ b a).drew).mono ?_
  rw [Hs.out]
  rintro e w1 ⟨rfl, hb1⟩
  refine hK.out _ _ (Held3.next hHeld hb1) (fun hH => ?_)
  clear hHeld hK K hb1
  have hHeld := hH
  clear hH
  try simp only [Act.put, List.setIfInBounds_toArray, List.set_cons_zero, List.set_cons_succ]
  refine wpAnyH_take (i := 10) (oi := ⟨some 105, Op.binOp BinOp.eql 23 (Operand.tmp 103) (Operand.tmp 104) 23, 4, _, #[{ on := 8, ground := Ground.data }, { on := 9, ground := Ground.data }, { on := 4, ground := Ground.guard }], some (4, true)⟩) (v := ?_) rfl (by kernel_rfl) (by kernel_rfl) (by kernel_rfl) (fun _ _ _ h => h) (Or.inl ⟨by rfl, ?_⟩) hHeld ?_
  rotate_left
  · (intro w1 hSw; (try dsimp only at hSw); go_simp; try (with_reducible rfl))
  try simp only [Act.put, List.setIfInBounds_toArray, List.set_cons_zero, List.set_cons_succ]
  refine wpAnyH_take (i := 11) (oi := ⟨some 106, Op.pick (Operand.tmp 99) (Operand.tmp 105) (Operand.const (Value.bool false)), 4, _, #[{ on := 4, ground := Ground.data }, { on := 10, ground := Ground.data }], none⟩) (v := ?_) rfl (by kernel_rfl) (by kernel_rfl) (by kernel_rfl) (fun _ _ _ h => h) (Or.inl ⟨by rfl, ?_⟩) hHeld ?_
  rotate_left
  · (intro w1 hSw; (try dsimp only at hSw); go_simp; try (with_reducible rfl))
  try simp only [Act.put, List.setIfInBounds_toArray, List.set_cons_zero, List.set_cons_succ]
  refine wpAnyH_take (i := 12) (oi := ⟨some 107, Op.move (Operand.tmp 106), 4, _, #[{ on := 11, ground := Ground.data }, { on := 8, ground := Ground.chain }], none⟩) (v := ?_) rfl (by kernel_rfl) (by kernel_rfl) (by kernel_rfl) (fun _ _ _ h => h) (Or.inl ⟨by rfl, ?_⟩) hHeld ?_
  rotate_left
  · (intro w1 hSw; (try dsimp only at hSw); go_simp; try (with_reducible rfl))
  try simp only [Act.put, List.setIfInBounds_toArray, List.set_cons_zero, List.set_cons_succ]
  refine wpAnyH_ready (rs := [13]) (by kernel_rfl) (by simp) ?_
  refine AllReadyH.cons (o := ⟨some 108, Op.call { callee := Callee.value (Operand.func 15), args := #[], argTypes := #[] }, 4, _, #[{ on := 12, ground := Ground.chain }, { on := 12, ground := Ground.guard }], some (12, true)⟩) rfl (fun K hK => ?_) AllReadyH.nil
  go_simp
  refine (awake_any _).mono ?_
  rintro e w1 ⟨rfl, hb1⟩
  refine hK.out _ _ (Held3.next hHeld hb1) (fun hH => ?_)
  clear hHeld hK K hb1
  have hHeld := hH
  clear hH
  try simp only [Act.put, List.setIfInBounds_toArray, List.set_cons_zero, List.set_cons_succ]
  refine wpAnyH_take (i := 14) (oi := ⟨some 109, Op.pick (Operand.tmp 107) (Operand.tmp 108) (Operand.const (Value.bool false)), 4, _, #[{ on := 12, ground := Ground.data }, { on := 13, ground := Ground.data }], none⟩) (v := ?_) rfl (by kernel_rfl) (by kernel_rfl) (by kernel_rfl) (fun _ _ _ h => h) (Or.inl ⟨by rfl, ?_⟩) hHeld ?_
  rotate_left
  · (intro w1 hSw; (try dsimp only at hSw); go_simp; try (with_reducible rfl))
  try simp only [Act.put, List.setIfInBounds_toArray, List.set_cons_zero, List.set_cons_succ]
  refine wpAnyH_take (i := 15) (oi := ⟨some 6, Op.assign (Operand.tmp 109), 4, _, #[{ on := 14, ground := Ground.data }, { on := 13, ground := Ground.chain }, { on := 0, ground := Ground.phase }, { on := 1, ground := Ground.phase }, { on := 2, ground := Ground.phase }, { on := 3, ground := Ground.phase }, { on := 4, ground := Ground.phase }, { on := 5, ground := Ground.phase }, { on := 6, ground := Ground.phase }, { on := 7, ground := Ground.phase }, { on := 8, ground := Ground.phase }, { on := 9, ground := Ground.phase }, { on := 10, ground := Ground.phase }, { on := 11, ground := Ground.phase }, { on := 12, ground := Ground.phase }, { on := 13, ground := Ground.phase }, { on := 14, ground := Ground.phase }], none⟩) (v := ?_) rfl (by kernel_rfl) (by kernel_rfl) (by kernel_rfl) (fun _ _ _ h => h) (Or.inl ⟨by rfl, ?_⟩) hHeld ?_
  rotate_left
  · (intro w1 hSw; (try dsimp only at hSw); go_simp; try (with_reducible rfl))
  try simp only [Act.put, List.setIfInBounds_toArray, List.set_cons_zero, List.set_cons_succ]
  refine wpAnyH_done (by kernel_rfl) ?_ _
  go_wp2
  go_ret
  exact ⟨rfl, Held3.last hHeld⟩
end Go.Proofs.Ytcdanilepikdeaa
