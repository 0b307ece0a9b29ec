/-
  Layer 5: the probe that each statement of the layer asks beside itself returns true; how each law begins: the table in a variable of its own.
-/
import Derived.Test.YtajhenjjhbecoaaCrcW
namespace Go.Proofs.Ytajhenjjhbecoaa
set_option linter.unusedSimpArgs false
set_option linter.unusedVariables false
open Go.ChangeShapes Go.WideShapes Go.ChangeAt Go.RowKit Go.Joins Go.Deep

/-- The table lies in a new variable behind the call that made it. -/
theorem tholds_next {w w1 : World} (hb : Below w.heap.size w w1) (C : List Value) (t : TypeId) : THolds w (w1.alloc (.cells C.toArray t)) w1.heap.size C :=
  ⟨hb.size, by simp, range_new w1 C t, hb.alloc hb.size _⟩
/-- The zero table, under one name. -/
theorem zero_tab' : ∃ Z : List Value, Z.length = 256 ∧ ∀ w, (zeroValue 24).run Try.prog w = .ok (.agg Z.toArray) w := ⟨tab (ents 0), by rw [tab_length, ents_len], zero_tab.1⟩
theorem size_eq {Z C : List Value} (h : Z.length = 256) (k : C.length = 256) : Z.toArray.size = C.toArray.size := by simp [h, k]
theorem info_arr {C : List Value} (h : C.length = 256) : (Try.prog.info? 24).map (·.size) = some C.toArray.size := by rw [hi_tab h]; simp

theorem aw_c1 : (tab T0)[1]? = some (.int .u32 1996959894) := by kernel_rfl
theorem aw_c2 : (tab T0)[255]? = some (.int .u32 755167117) := by kernel_rfl
theorem ofT_T0 (l : List UInt8) : ofT T0 l = ~~~(rest (~~~0#32) l) := by
  unfold ofT moreT
  rw [rest_T0]
theorem moreT_T0 (c : BitVec 32) (l : List UInt8) : moreT T0 c l = ~~~(rest (~~~c) l) := by
  unfold moreT
  rw [rest_T0]
theorem aw_9 : ((ofT T0 [49, 50, 51, 52, 53, 54, 55, 56, 57]).toNat : Int) = 3421780262 := by rw [ofT_T0]; kernel_rfl
theorem aw_45 : ((moreT T0 (ofT T0 [49, 50, 51, 52]) [53, 54, 55, 56, 57]).toNat : Int) = 3421780262 := by rw [moreT_T0, ofT_T0]; kernel_rfl
theorem aw_0 : ((ofT T0 []).toNat : Int) = 0 := by rw [ofT_T0]; decide
theorem aw_n : ((noughtsT T0 7#32 0).toNat : Int) = 7 := by
  unfold noughtsT
  rw [moreT_T0, show no (cnt 0) = [] from rfl]
  decide

set_option maxRecDepth 100000 in
set_option maxHeartbeats 8000000 in
theorem awake_any (w : World) : Calls Try.prog 8 #[] w fun e w' => e = .returned (.bool true) ∧ Below w.heap.size w w' := by
  have Htab := Lib.hid fun w => table_any w
  have h9 : ∀ w, Calls Try.prog 11 #[.agg (tab T0).toArray, .string ⟨#[49, 50, 51, 52, 53, 54, 55, 56, 57]⟩] w fun e w' => e = .returned (.int .u32 ((ofT T0 [49, 50, 51, 52, 53, 54, 55, 56, 57]).toNat : Int)) ∧ Below w.heap.size w w' := fun w => of_any T0 T0_len [49, 50, 51, 52, 53, 54, 55, 56, 57] (by decide) w
  have h4 : ∀ w, Calls Try.prog 11 #[.agg (tab T0).toArray, .string ⟨#[49, 50, 51, 52]⟩] w fun e w' => e = .returned (.int .u32 ((ofT T0 [49, 50, 51, 52]).toNat : Int)) ∧ Below w.heap.size w w' := fun w => of_any T0 T0_len [49, 50, 51, 52] (by decide) w
  have h0 : ∀ w, Calls Try.prog 11 #[.agg (tab T0).toArray, .string ⟨#[]⟩] w fun e w' => e = .returned (.int .u32 ((ofT T0 []).toNat : Int)) ∧ Below w.heap.size w w' := fun w => of_any T0 T0_len [] (by decide) w
  have h45 : ∀ w, Calls Try.prog 13 #[.agg (tab T0).toArray, .int .u32 ((ofT T0 [49, 50, 51, 52]).toNat : Int), .string ⟨#[53, 54, 55, 56, 57]⟩] w fun e w' => e = .returned (.int .u32 ((moreT T0 (ofT T0 [49, 50, 51, 52]) [53, 54, 55, 56, 57]).toNat : Int)) ∧ Below w.heap.size w w' :=
    fun w => more_any T0 T0_len _ [53, 54, 55, 56, 57] (by decide) w
  have hn : ∀ w, Calls Try.prog 15 #[.agg (tab T0).toArray, .int .u32 7, .int .i64 0] w fun e w' => e = .returned (.int .u32 ((noughtsT T0 7#32 0).toNat : Int)) ∧ Below w.heap.size w w' := fun w => noughts_any T0 T0_len 7#32 0 w
  rw [aw_9] at h9
  rw [aw_0] at h0
  rw [aw_45] at h45
  rw [aw_n] at hn
  have H9 := Lib.hid h9
  have H4 := Lib.hid h4
  have H0s := Lib.hid h0
  have H45 := Lib.hid h45
  have Hn := Lib.hid hn
  have hC1 := aw_c1
  have hC2 := aw_c2
  have hlen := tab_256 T0_len
  have hone := tab_one T0
  obtain ⟨Z, hZl, hz⟩ := zero_tab'
  have Hsz := Lib.hid (size_eq hZl hlen)
  have Hia := Lib.hid (info_arr hlen)
  have Hone := Lib.hid hone
  have hi := hi_tab hlen
  have Hi := Lib.hid hi
  clear h9 h4 h0 h45 hn hlen hone hZl hi
  generalize ((ofT T0 [49, 50, 51, 52]).toNat : Int) = d4 at *
  generalize tab T0 = C at *
  have HC1 := Lib.hid hC1
  have HC2 := Lib.hid hC2
  clear hC1 hC2
  go_enter Try.func8, Try.ntmps8
  go_wp2_with (first
    | (go_at_call 9; refine (Htab.out _).mono ?_; rintro e w1 ⟨rfl, hb1⟩; have H0 := Lib.hid (tholds_next hb1 C 24); clear hb1)
    | (refine wpList_store_new rfl 24 _ _ rfl _ Z.toArray C.toArray rfl rfl Hia.out Hsz.out Hone.out ?_))
  have hC1 := HC1.out
  have hC2 := HC2.out
  have hi := Hi.out
  have hu := Try.underlying24
  generalize w1.heap.size = g at *
  refine wp_region_held_drew (S := (fun w9 => THolds w w9 g C)) (by kernel_rfl) (H0.out.drew) (fun hHeld => ?_)
  refine wpAnyH_take (i := 0) (oi := ⟨some 3, Op.indexAddr 24 (Operand.tmp 1) (Operand.const (Value.int IntKind.i64 1)), 0, _, #[], none⟩) (v := ?_) rfl (by kernel_rfl) (by kernel_rfl) (by kernel_rfl) (fun _ _ _ h => h) (Or.inl ⟨by rfl, ?_⟩) hHeld ?_
  rotate_left
  · (intro wz hSw; go_simp; try (with_reducible rfl))
  try simp only [Act.put, List.setIfInBounds_toArray, List.set_cons_zero, List.set_cons_succ]
  refine wpAnyH_take (i := 1) (oi := ⟨some 4, Op.load 22 (Operand.tmp 3), 22, _, #[{ on := 0, ground := Ground.data }], none⟩) (v := ?_) rfl (by kernel_rfl) (by kernel_rfl) (by kernel_rfl) (fun _ _ _ h => h) (Or.inl ⟨by rfl, ?_⟩) hHeld ?_
  rotate_left
  · (intro wz hSw; have q1 := hSw.cells 1 _ hC1; have q2 := hSw.cells 255 _ hC2; simp only [Nat.zero_add] at q1 q2; go_simp; try (with_reducible rfl))
  try simp only [Act.put, List.setIfInBounds_toArray, List.set_cons_zero, List.set_cons_succ]
  refine wpAnyH_take (i := 2) (oi := ⟨some 5, Op.binOp BinOp.eql 22 (Operand.tmp 4) (Operand.const (Value.int IntKind.u32 1996959894)) 22, 4, _, #[{ on := 1, ground := Ground.data }], none⟩) (v := ?_) rfl (by kernel_rfl) (by kernel_rfl) (by kernel_rfl) (fun _ _ _ h => h) (Or.inl ⟨by rfl, ?_⟩) hHeld ?_
  rotate_left
  · (intro wz hSw; go_simp; try (with_reducible rfl))
  try simp only [Act.put, List.setIfInBounds_toArray, List.set_cons_zero, List.set_cons_succ]
  refine wpAnyH_take (i := 3) (oi := ⟨some 6, Op.move (Operand.tmp 5), 4, _, #[{ on := 2, ground := Ground.data }], none⟩) (v := ?_) rfl (by kernel_rfl) (by kernel_rfl) (by kernel_rfl) (fun _ _ _ h => h) (Or.inl ⟨by rfl, ?_⟩) hHeld ?_
  rotate_left
  · (intro wz hSw; go_simp; try (with_reducible rfl))
  try simp only [Act.put, List.setIfInBounds_toArray, List.set_cons_zero, List.set_cons_succ]
  refine wpAnyH_take (i := 4) (oi := ⟨some 7, Op.indexAddr 24 (Operand.tmp 1) (Operand.const (Value.int IntKind.i64 255)), 0, _, #[{ on := 3, ground := Ground.guard }], some (3, true)⟩) (v := ?_) rfl (by kernel_rfl) (by kernel_rfl) (by kernel_rfl) (fun _ _ _ h => h) (Or.inl ⟨by rfl, ?_⟩) hHeld ?_
  rotate_left
  · (intro wz hSw; go_simp; try (with_reducible rfl))
  try simp only [Act.put, List.setIfInBounds_toArray, List.set_cons_zero, List.set_cons_succ]
  refine wpAnyH_take (i := 5) (oi := ⟨some 8, Op.load 22 (Operand.tmp 7), 22, _, #[{ on := 4, ground := Ground.data }, { on := 3, ground := Ground.guard }], some (3, true)⟩) (v := ?_) rfl (by kernel_rfl) (by kernel_rfl) (by kernel_rfl) (fun _ _ _ h => h) (Or.inl ⟨by rfl, ?_⟩) hHeld ?_
  rotate_left
  · (intro wz hSw; have q1 := hSw.cells 1 _ hC1; have q2 := hSw.cells 255 _ hC2; simp only [Nat.zero_add] at q1 q2; go_simp; try (with_reducible rfl))
  try simp only [Act.put, List.setIfInBounds_toArray, List.set_cons_zero, List.set_cons_succ]
  refine wpAnyH_take (i := 6) (oi := ⟨some 9, Op.binOp BinOp.eql 22 (Operand.tmp 8) (Operand.const (Value.int IntKind.u32 755167117)) 22, 4, _, #[{ on := 5, ground := Ground.data }, { on := 3, ground := Ground.guard }], some (3, true)⟩) (v := ?_) rfl (by kernel_rfl) (by kernel_rfl) (by kernel_rfl) (fun _ _ _ h => h) (Or.inl ⟨by rfl, ?_⟩) hHeld ?_
  rotate_left
  · (intro wz hSw; go_simp; try (with_reducible rfl))
  try simp only [Act.put, List.setIfInBounds_toArray, List.set_cons_zero, List.set_cons_succ]
  refine wpAnyH_take (i := 7) (oi := ⟨some 10, Op.pick (Operand.tmp 6) (Operand.tmp 9) (Operand.const (Value.bool false)), 4, _, #[{ on := 3, ground := Ground.data }, { on := 6, ground := Ground.data }], none⟩) (v := ?_) rfl (by kernel_rfl) (by kernel_rfl) (by kernel_rfl) (fun _ _ _ h => h) (Or.inl ⟨by rfl, ?_⟩) hHeld ?_
  rotate_left
  · (intro wz hSw; go_simp; try (with_reducible rfl))
  try simp only [Act.put, List.setIfInBounds_toArray, List.set_cons_zero, List.set_cons_succ]
  refine wpAnyH_take (i := 8) (oi := ⟨some 11, Op.move (Operand.tmp 10), 4, _, #[{ on := 7, ground := Ground.data }, { on := 3, ground := Ground.chain }], none⟩) (v := ?_) rfl (by kernel_rfl) (by kernel_rfl) (by kernel_rfl) (fun _ _ _ h => h) (Or.inl ⟨by rfl, ?_⟩) hHeld ?_
  rotate_left
  · (intro wz hSw; go_simp; try (with_reducible rfl))
  try simp only [Act.put, List.setIfInBounds_toArray, List.set_cons_zero, List.set_cons_succ]
  refine wpAnyH_take (i := 9) (oi := ⟨some 12, Op.load 24 (Operand.tmp 1), 24, _, #[{ on := 8, ground := Ground.guard }], some (8, true)⟩) (v := .agg C.toArray) rfl (by kernel_rfl) (by kernel_rfl) (by kernel_rfl) (fun _ _ _ h => h) (yieldsIf_load_mid (by rfl) _ _ rfl _ _ rfl _ _ (fun _ h => h.cells) hu rfl hi) hHeld ?_
  try simp only [Act.put, List.setIfInBounds_toArray, List.set_cons_zero, List.set_cons_succ]
  refine wpAnyH_ready (rs := [10]) (by kernel_rfl) (by simp) ?_
  refine AllReadyH.cons (o := ⟨some 13, Op.call { callee := Callee.value (Operand.func 11), args := #[Operand.tmp 12, Operand.const (Value.string { data := #[49, 50, 51, 52, 53, 54, 55, 56, 57] })], argTypes := #[24, 9] }, 22, _, #[{ on := 9, ground := Ground.data }, { on := 8, ground := Ground.chain }, { on := 8, ground := Ground.guard }], some (8, true)⟩) rfl (fun K hK => ?_) AllReadyH.nil
  go_simp
  go_at_call 11
  with_reducible refine (H9.out _).mono ?_
  rintro e w9 ⟨rfl, hb1⟩
  refine hK.out _ _ (THolds.next hHeld hb1) (fun hH => ?_)
  clear hHeld hK K hb1
  have hHeld := hH
  clear hH
  try simp only [Act.put, List.setIfInBounds_toArray, List.set_cons_zero, List.set_cons_succ]
  refine wpAnyH_take (i := 11) (oi := ⟨some 14, Op.binOp BinOp.eql 22 (Operand.tmp 13) (Operand.const (Value.int IntKind.u32 3421780262)) 22, 4, _, #[{ on := 10, ground := Ground.data }, { on := 8, ground := Ground.guard }], some (8, true)⟩) (v := ?_) rfl (by kernel_rfl) (by kernel_rfl) (by kernel_rfl) (fun _ _ _ h => h) (Or.inl ⟨by rfl, ?_⟩) hHeld ?_
  rotate_left
  · (intro wz hSw; go_simp; try (with_reducible rfl))
  try simp only [Act.put, List.setIfInBounds_toArray, List.set_cons_zero, List.set_cons_succ]
  refine wpAnyH_take (i := 12) (oi := ⟨some 15, Op.pick (Operand.tmp 11) (Operand.tmp 14) (Operand.const (Value.bool false)), 4, _, #[{ on := 8, ground := Ground.data }, { on := 11, ground := Ground.data }], none⟩) (v := ?_) rfl (by kernel_rfl) (by kernel_rfl) (by kernel_rfl) (fun _ _ _ h => h) (Or.inl ⟨by rfl, ?_⟩) hHeld ?_
  rotate_left
  · (intro wz hSw; go_simp; try (with_reducible rfl))
  try simp only [Act.put, List.setIfInBounds_toArray, List.set_cons_zero, List.set_cons_succ]
  refine wpAnyH_take (i := 13) (oi := ⟨some 16, Op.move (Operand.tmp 15), 4, _, #[{ on := 12, ground := Ground.data }, { on := 10, ground := Ground.chain }], none⟩) (v := ?_) rfl (by kernel_rfl) (by kernel_rfl) (by kernel_rfl) (fun _ _ _ h => h) (Or.inl ⟨by rfl, ?_⟩) hHeld ?_
  rotate_left
  · (intro wz hSw; go_simp; try (with_reducible rfl))
  try simp only [Act.put, List.setIfInBounds_toArray, List.set_cons_zero, List.set_cons_succ]
  refine wpAnyH_take (i := 14) (oi := ⟨some 17, Op.load 24 (Operand.tmp 1), 24, _, #[{ on := 13, ground := Ground.guard }], some (13, true)⟩) (v := .agg C.toArray) rfl (by kernel_rfl) (by kernel_rfl) (by kernel_rfl) (fun _ _ _ h => h) (yieldsIf_load_mid (by rfl) _ _ rfl _ _ rfl _ _ (fun _ h => h.cells) hu rfl hi) hHeld ?_
  try simp only [Act.put, List.setIfInBounds_toArray, List.set_cons_zero, List.set_cons_succ]
  refine wpAnyH_ready (rs := [15]) (by kernel_rfl) (by simp) ?_
  refine AllReadyH.cons (o := ⟨some 18, Op.call { callee := Callee.value (Operand.func 11), args := #[Operand.tmp 17, Operand.const (Value.string { data := #[] })], argTypes := #[24, 9] }, 22, _, #[{ on := 14, ground := Ground.data }, { on := 13, ground := Ground.chain }, { on := 13, ground := Ground.guard }], some (13, true)⟩) rfl (fun K hK => ?_) AllReadyH.nil
  go_simp
  go_at_call 11
  with_reducible refine (H0s.out _).mono ?_
  rintro e w9 ⟨rfl, hb1⟩
  refine hK.out _ _ (THolds.next hHeld hb1) (fun hH => ?_)
  clear hHeld hK K hb1
  have hHeld := hH
  clear hH
  try simp only [Act.put, List.setIfInBounds_toArray, List.set_cons_zero, List.set_cons_succ]
  refine wpAnyH_take (i := 16) (oi := ⟨some 19, Op.binOp BinOp.eql 22 (Operand.tmp 18) (Operand.const (Value.int IntKind.u32 0)) 22, 4, _, #[{ on := 15, ground := Ground.data }, { on := 13, ground := Ground.guard }], some (13, true)⟩) (v := ?_) rfl (by kernel_rfl) (by kernel_rfl) (by kernel_rfl) (fun _ _ _ h => h) (Or.inl ⟨by rfl, ?_⟩) hHeld ?_
  rotate_left
  · (intro wz hSw; go_simp; try (with_reducible rfl))
  try simp only [Act.put, List.setIfInBounds_toArray, List.set_cons_zero, List.set_cons_succ]
  refine wpAnyH_take (i := 17) (oi := ⟨some 20, Op.pick (Operand.tmp 16) (Operand.tmp 19) (Operand.const (Value.bool false)), 4, _, #[{ on := 13, ground := Ground.data }, { on := 16, ground := Ground.data }], none⟩) (v := ?_) rfl (by kernel_rfl) (by kernel_rfl) (by kernel_rfl) (fun _ _ _ h => h) (Or.inl ⟨by rfl, ?_⟩) hHeld ?_
  rotate_left
  · (intro wz hSw; go_simp; try (with_reducible rfl))
  try simp only [Act.put, List.setIfInBounds_toArray, List.set_cons_zero, List.set_cons_succ]
  refine wpAnyH_take (i := 18) (oi := ⟨some 21, Op.move (Operand.tmp 20), 4, _, #[{ on := 17, ground := Ground.data }, { on := 15, ground := Ground.chain }], none⟩) (v := ?_) rfl (by kernel_rfl) (by kernel_rfl) (by kernel_rfl) (fun _ _ _ h => h) (Or.inl ⟨by rfl, ?_⟩) hHeld ?_
  rotate_left
  · (intro wz hSw; go_simp; try (with_reducible rfl))
  try simp only [Act.put, List.setIfInBounds_toArray, List.set_cons_zero, List.set_cons_succ]
  refine wpAnyH_take (i := 19) (oi := ⟨some 22, Op.load 24 (Operand.tmp 1), 24, _, #[{ on := 18, ground := Ground.guard }], some (18, true)⟩) (v := .agg C.toArray) rfl (by kernel_rfl) (by kernel_rfl) (by kernel_rfl) (fun _ _ _ h => h) (yieldsIf_load_mid (by rfl) _ _ rfl _ _ rfl _ _ (fun _ h => h.cells) hu rfl hi) hHeld ?_
  try simp only [Act.put, List.setIfInBounds_toArray, List.set_cons_zero, List.set_cons_succ]
  refine wpAnyH_take (i := 20) (oi := ⟨some 23, Op.load 24 (Operand.tmp 1), 24, _, #[{ on := 18, ground := Ground.guard }], some (18, true)⟩) (v := .agg C.toArray) rfl (by kernel_rfl) (by kernel_rfl) (by kernel_rfl) (fun _ _ _ h => h) (yieldsIf_load_mid (by rfl) _ _ rfl _ _ rfl _ _ (fun _ h => h.cells) hu rfl hi) hHeld ?_
  try simp only [Act.put, List.setIfInBounds_toArray, List.set_cons_zero, List.set_cons_succ]
  refine wpAnyH_ready (rs := [21]) (by kernel_rfl) (by simp) ?_
  refine AllReadyH.cons (o := ⟨some 24, Op.call { callee := Callee.value (Operand.func 11), args := #[Operand.tmp 23, Operand.const (Value.string { data := #[49, 50, 51, 52] })], argTypes := #[24, 9] }, 22, _, #[{ on := 20, ground := Ground.data }, { on := 18, ground := Ground.chain }, { on := 18, ground := Ground.guard }], some (18, true)⟩) rfl (fun K hK => ?_) AllReadyH.nil
  go_simp
  go_at_call 11
  with_reducible refine (H4.out _).mono ?_
  rintro e w9 ⟨rfl, hb1⟩
  refine hK.out _ _ (THolds.next hHeld hb1) (fun hH => ?_)
  clear hHeld hK K hb1
  have hHeld := hH
  clear hH
  try simp only [Act.put, List.setIfInBounds_toArray, List.set_cons_zero, List.set_cons_succ]
  refine wpAnyH_ready (rs := [22]) (by kernel_rfl) (by simp) ?_
  refine AllReadyH.cons (o := ⟨some 25, Op.call { callee := Callee.value (Operand.func 13), args := #[Operand.tmp 22, Operand.tmp 24, Operand.const (Value.string { data := #[53, 54, 55, 56, 57] })], argTypes := #[24, 22, 9] }, 22, _, #[{ on := 19, ground := Ground.data }, { on := 21, ground := Ground.data }, { on := 21, ground := Ground.chain }, { on := 18, ground := Ground.guard }], some (18, true)⟩) rfl (fun K hK => ?_) AllReadyH.nil
  go_simp
  go_at_call 13
  with_reducible refine (H45.out _).mono ?_
  rintro e w9 ⟨rfl, hb1⟩
  refine hK.out _ _ (THolds.next hHeld hb1) (fun hH => ?_)
  clear hHeld hK K hb1
  have hHeld := hH
  clear hH
  try simp only [Act.put, List.setIfInBounds_toArray, List.set_cons_zero, List.set_cons_succ]
  refine wpAnyH_take (i := 23) (oi := ⟨some 26, Op.binOp BinOp.eql 22 (Operand.tmp 25) (Operand.const (Value.int IntKind.u32 3421780262)) 22, 4, _, #[{ on := 22, ground := Ground.data }, { on := 18, ground := Ground.guard }], some (18, true)⟩) (v := ?_) rfl (by kernel_rfl) (by kernel_rfl) (by kernel_rfl) (fun _ _ _ h => h) (Or.inl ⟨by rfl, ?_⟩) hHeld ?_
  rotate_left
  · (intro wz hSw; go_simp; try (with_reducible rfl))
  try simp only [Act.put, List.setIfInBounds_toArray, List.set_cons_zero, List.set_cons_succ]
  refine wpAnyH_take (i := 24) (oi := ⟨some 27, Op.pick (Operand.tmp 21) (Operand.tmp 26) (Operand.const (Value.bool false)), 4, _, #[{ on := 18, ground := Ground.data }, { on := 23, ground := Ground.data }], none⟩) (v := ?_) rfl (by kernel_rfl) (by kernel_rfl) (by kernel_rfl) (fun _ _ _ h => h) (Or.inl ⟨by rfl, ?_⟩) hHeld ?_
  rotate_left
  · (intro wz hSw; go_simp; try (with_reducible rfl))
  try simp only [Act.put, List.setIfInBounds_toArray, List.set_cons_zero, List.set_cons_succ]
  refine wpAnyH_take (i := 25) (oi := ⟨some 28, Op.move (Operand.tmp 27), 4, _, #[{ on := 24, ground := Ground.data }, { on := 22, ground := Ground.chain }], none⟩) (v := ?_) rfl (by kernel_rfl) (by kernel_rfl) (by kernel_rfl) (fun _ _ _ h => h) (Or.inl ⟨by rfl, ?_⟩) hHeld ?_
  rotate_left
  · (intro wz hSw; go_simp; try (with_reducible rfl))
  try simp only [Act.put, List.setIfInBounds_toArray, List.set_cons_zero, List.set_cons_succ]
  refine wpAnyH_take (i := 26) (oi := ⟨some 29, Op.load 24 (Operand.tmp 1), 24, _, #[{ on := 25, ground := Ground.guard }], some (25, true)⟩) (v := .agg C.toArray) rfl (by kernel_rfl) (by kernel_rfl) (by kernel_rfl) (fun _ _ _ h => h) (yieldsIf_load_mid (by rfl) _ _ rfl _ _ rfl _ _ (fun _ h => h.cells) hu rfl hi) hHeld ?_
  try simp only [Act.put, List.setIfInBounds_toArray, List.set_cons_zero, List.set_cons_succ]
  refine wpAnyH_ready (rs := [27]) (by kernel_rfl) (by simp) ?_
  refine AllReadyH.cons (o := ⟨some 30, Op.call { callee := Callee.value (Operand.func 15), args := #[Operand.tmp 29, Operand.const (Value.int IntKind.u32 7), Operand.const (Value.int IntKind.i64 0)], argTypes := #[24, 22, 3] }, 22, _, #[{ on := 26, ground := Ground.data }, { on := 25, ground := Ground.chain }, { on := 25, ground := Ground.guard }], some (25, true)⟩) rfl (fun K hK => ?_) AllReadyH.nil
  go_simp
  go_at_call 15
  with_reducible refine (Hn.out _).mono ?_
  rintro e w9 ⟨rfl, hb1⟩
  refine hK.out _ _ (THolds.next hHeld hb1) (fun hH => ?_)
  clear hHeld hK K hb1
  have hHeld := hH
  clear hH
  try simp only [Act.put, List.setIfInBounds_toArray, List.set_cons_zero, List.set_cons_succ]
  refine wpAnyH_take (i := 28) (oi := ⟨some 31, Op.binOp BinOp.eql 22 (Operand.tmp 30) (Operand.const (Value.int IntKind.u32 7)) 22, 4, _, #[{ on := 27, ground := Ground.data }, { on := 25, ground := Ground.guard }], some (25, true)⟩) (v := ?_) rfl (by kernel_rfl) (by kernel_rfl) (by kernel_rfl) (fun _ _ _ h => h) (Or.inl ⟨by rfl, ?_⟩) hHeld ?_
  rotate_left
  · (intro wz hSw; go_simp; try (with_reducible rfl))
  try simp only [Act.put, List.setIfInBounds_toArray, List.set_cons_zero, List.set_cons_succ]
  refine wpAnyH_take (i := 29) (oi := ⟨some 32, Op.pick (Operand.tmp 28) (Operand.tmp 31) (Operand.const (Value.bool false)), 4, _, #[{ on := 25, ground := Ground.data }, { on := 28, ground := Ground.data }], none⟩) (v := ?_) rfl (by kernel_rfl) (by kernel_rfl) (by kernel_rfl) (fun _ _ _ h => h) (Or.inl ⟨by rfl, ?_⟩) hHeld ?_
  rotate_left
  · (intro wz hSw; go_simp; try (with_reducible rfl))
  try simp only [Act.put, List.setIfInBounds_toArray, List.set_cons_zero, List.set_cons_succ]
  refine wpAnyH_take (i := 30) (oi := ⟨some 0, Op.assign (Operand.tmp 32), 4, _, #[{ on := 29, ground := Ground.data }, { on := 27, ground := Ground.chain }, { on := 0, ground := Ground.phase }, { on := 1, ground := Ground.phase }, { on := 2, ground := Ground.phase }, { on := 3, ground := Ground.phase }, { on := 4, ground := Ground.phase }, { on := 5, ground := Ground.phase }, { on := 6, ground := Ground.phase }, { on := 7, ground := Ground.phase }, { on := 8, ground := Ground.phase }, { on := 9, ground := Ground.phase }, { on := 10, ground := Ground.phase }, { on := 11, ground := Ground.phase }, { on := 12, ground := Ground.phase }, { on := 13, ground := Ground.phase }, { on := 14, ground := Ground.phase }, { on := 15, ground := Ground.phase }, { on := 16, ground := Ground.phase }, { on := 17, ground := Ground.phase }, { on := 18, ground := Ground.phase }, { on := 19, ground := Ground.phase }, { on := 20, ground := Ground.phase }, { on := 21, ground := Ground.phase }, { on := 22, ground := Ground.phase }, { on := 23, ground := Ground.phase }, { on := 24, ground := Ground.phase }, { on := 25, ground := Ground.phase }, { on := 26, ground := Ground.phase }, { on := 27, ground := Ground.phase }, { on := 28, ground := Ground.phase }, { on := 29, ground := Ground.phase }], none⟩) (v := ?_) rfl (by kernel_rfl) (by kernel_rfl) (by kernel_rfl) (fun _ _ _ h => h) (Or.inl ⟨by rfl, ?_⟩) hHeld ?_
  rotate_left
  · (intro wz hSw; go_simp; try (with_reducible rfl))
  try simp only [Act.put, List.setIfInBounds_toArray, List.set_cons_zero, List.set_cons_succ]
  refine wpAnyH_done (by kernel_rfl) ?_ _
  skip
  go_wp2
  go_ret
  exact ⟨rfl, hHeld.below⟩
end Go.Proofs.Ytajhenjjhbecoaa
