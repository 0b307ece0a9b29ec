/-
  For any two texts: the sum of both, one behind the other, is More of the first one's and the second; Noughts is the sum with bytes 00 behind; and the layer's probe holds (CrcParts). No condition.
-/
import Derived.Test.YtajhenjjhbecoaaCrcL2
namespace Go.Proofs.Ytajhenjjhbecoaa
set_option linter.unusedSimpArgs false
set_option linter.unusedVariables false
open Go.ChangeShapes Go.WideShapes Go.ChangeAt Go.RowKit Go.Joins Go.Deep
set_option maxHeartbeats 2000000 in
/-- Beyond the sizes that the statement looks at: the probe alone. -/
theorem crcParts_far0 (l1 l2 : List UInt8) (w : World) (h : 5000 < l1.length) :
    Calls Try.prog 5 #[.string ⟨l1.toArray⟩, .string ⟨l2.toArray⟩] w fun e w' => e = .returned (.bool true) ∧ Below w.heap.size w w' := by
  have h1 : (5000 : Int) < l1.length := by omega
  go_enter Try.func5, Try.ntmps5
  go_wp2_with (go_at_call 8; refine (awake_any _).mono ?_; rintro e w9 ⟨rfl, hb9⟩)
  go_ret
  exact ⟨rfl, hb9⟩
set_option maxHeartbeats 2000000 in
/-- Beyond the sizes that the statement looks at: the probe alone. -/
theorem crcParts_far1 (l1 l2 : List UInt8) (w : World) (h : l1.length ≤ 5000) (k : 5000 < l2.length) :
    Calls Try.prog 5 #[.string ⟨l1.toArray⟩, .string ⟨l2.toArray⟩] w fun e w' => e = .returned (.bool true) ∧ Below w.heap.size w w' := by
  have h1 : ¬ (5000 : Int) < l1.length := by omega
  have h2 : (5000 : Int) < l2.length := by omega
  go_enter Try.func5, Try.ntmps5
  go_wp2_with (go_at_call 8; refine (awake_any _).mono ?_; rintro e w9 ⟨rfl, hb9⟩)
  go_ret
  exact ⟨rfl, hb9⟩

section
variable {P : Program}
theorem yieldsIf_str {ops : Array Oper} {S : World → Prop} {op : Oper} {a : Act} (hw : Region.wanted op (yielded ops a.tmps) = true) (s d : TypeId) (x : Operand) (ho : op.op = .convert s d x) (g n c : Nat) (l : List UInt8)
    (hx : a.eval x = .slice (some ⟨g, 0, none⟩) n c) (hS : ∀ w, S w → (convert s d (.slice (some ⟨g, 0, none⟩) n c)).run P w = .ok (.string ⟨l.toArray⟩) w) : YieldsIf P ops S op (.string ⟨l.toArray⟩) a :=
  .inl ⟨hw, fun w hw' => by
    unfold execOp
    simp only [ho, hx, Sem.run_bind, hS w hw', Result.andThen_ok, Sem.run_pure]⟩
end
theorem add_bytes (a b : List UInt8) (h : a.length + b.length ≤ 9223372036854775807) (w : World) : (Op.stringOp .add ⟨a.toArray⟩ ⟨b.toArray⟩).run Try.prog w = .ok (.string ⟨(a ++ b).toArray⟩) w := by
  rw [run_string_add_sum w _ _ (by rw [ByteArray.size_mk', ByteArray.size_mk', List.size_toArray, List.size_toArray]; exact h), ByteArray.mk_append_mk]
theorem not_not (c : BitVec 32) : ~~~(~~~c) = c := by simp
/-- The sum of two texts, one behind the other. -/
theorem ofT_parts (T : List (BitVec 32)) (a b : List UInt8) : moreT T (ofT T a) b = ofT T (a ++ b) := by
  unfold ofT moreT
  rw [not_not, restT_append]
theorem noughts_parts (T : List (BitVec 32)) (a : List UInt8) (n : Nat) (h : n ≤ 5000) : noughtsT T (ofT T a) (n : Int) = ofT T (a ++ no n) := by
  unfold noughtsT
  rw [show cnt (n : Int) = n from by unfold cnt; omega, ofT_parts]

set_option maxRecDepth 100000 in
set_option maxHeartbeats 8000000 in
theorem crcParts_near (l1 l2 : List UInt8) (w : World) (h : l1.length ≤ 5000) (k : l2.length ≤ 5000) :
    Calls Try.prog 5 #[.string ⟨l1.toArray⟩, .string ⟨l2.toArray⟩] w fun e w' => e = .returned (.bool true) ∧ Below w.heap.size w w' := by
  have h1 : ¬ (5000 : Int) < l1.length := by omega
  have h2 : ¬ (5000 : Int) < l2.length := by omega
  have H12 := Lib.hid fun w => of_any T0 T0_len (l1 ++ l2) (by rw [List.length_append]; omega) w
  have H1 := Lib.hid fun w => of_any T0 T0_len l1 (by omega) w
  have hm := fun w => more_any T0 T0_len (ofT T0 l1) l2 (by omega) w
  have hn := fun w => noughts_any T0 T0_len (ofT T0 l1) (l2.length : Int) w
  have H1D := Lib.hid fun w => of_any T0 T0_len (l1 ++ no l2.length) (by rw [List.length_append, no_length]; omega) w
  rw [ofT_parts] at hm
  rw [noughts_parts _ _ _ k] at hn
  have Hm := Lib.hid hm
  have Hn := Lib.hid hn
  have hadd1 := fun w => add_bytes l1 l2 (by omega) w
  have hadd2 := fun w => add_bytes l1 (no l2.length) (by rw [no_length]; omega) w
  have hmk : ∀ W, (Instr.makeSlice 34 (.int .i64 (l2.length : Int)) (.int .i64 (l2.length : Int))).run Try.prog W = .ok (.slice (some ⟨W.heap.size, 0, none⟩) l2.length l2.length) (W.alloc (.cells (bc (no l2.length)) 5)) := fun W => mk_bytes _ l2.length rfl (by omega) W
  have hDl : Hid ((no l2.length).length = l2.length) := Lib.hid (no_length _)
  have Htab := Lib.hid fun w => table_any w
  have hlen := tab_256 T0_len
  obtain ⟨Z, hZl, hz⟩ := zero_tab'
  have Hsz := Lib.hid (size_eq hZl hlen)
  have Hia := Lib.hid (info_arr hlen)
  have Hone := Lib.hid (tab_one T0)
  have Hi := Lib.hid (hi_tab hlen)
  clear hlen hZl h k hm hn
  generalize ofT T0 (l1 ++ l2) = s12 at *
  generalize ofT T0 (l1 ++ no l2.length) = s1D at *
  generalize ofT T0 l1 = s1 at *
  generalize l1 ++ l2 = l12 at *
  generalize l1 ++ no l2.length = l1D at *
  generalize no l2.length = D at *
  generalize tab T0 = C at *
  go_enter Try.func5, Try.ntmps5
  go_wp2_with (first
    | (go_at_call 9; refine (Htab.out _).mono ?_; rintro e w1 ⟨rfl, hb1⟩; have H0 := Lib.hid (tholds_next hb1 C 24); clear hb1)
    | (refine wpList_store_new rfl 24 _ _ rfl _ Z.toArray C.toArray rfl rfl Hia.out Hsz.out Hone.out ?_))
  have hi := Hi.out
  have hu := Try.underlying24
  generalize w1.heap.size = g at *
  refine wp_region_held_drew (S := (fun w9 => THolds w w9 g C)) (by kernel_rfl) (H0.out.drew) (fun hHeld => ?_)
  refine wpAnyH_take (i := 0) (oi := ⟨some 16, Op.load 24 (Operand.tmp 5), 24, _, #[], none⟩) (v := .agg C.toArray) rfl (by kernel_rfl) (by kernel_rfl) (by kernel_rfl) (fun _ _ _ h => h) (yieldsIf_load_mid (by rfl) _ _ rfl _ _ rfl _ _ (fun _ h => h.cells) hu rfl hi) hHeld ?_
  try simp only [Act.put, List.setIfInBounds_toArray, List.set_cons_zero, List.set_cons_succ]
  refine wpAnyH_take (i := 5) (oi := ⟨some 21, Op.load 24 (Operand.tmp 5), 24, _, #[], none⟩) (v := .agg C.toArray) rfl (by kernel_rfl) (by kernel_rfl) (by kernel_rfl) (fun _ _ _ h => h) (yieldsIf_load_mid (by rfl) _ _ rfl _ _ rfl _ _ (fun _ h => h.cells) hu rfl hi) hHeld ?_
  try simp only [Act.put, List.setIfInBounds_toArray, List.set_cons_zero, List.set_cons_succ]
  refine wpAnyH_take (i := 6) (oi := ⟨some 22, Op.load 24 (Operand.tmp 5), 24, _, #[], none⟩) (v := .agg C.toArray) rfl (by kernel_rfl) (by kernel_rfl) (by kernel_rfl) (fun _ _ _ h => h) (yieldsIf_load_mid (by rfl) _ _ rfl _ _ rfl _ _ (fun _ h => h.cells) hu rfl hi) hHeld ?_
  try simp only [Act.put, List.setIfInBounds_toArray, List.set_cons_zero, List.set_cons_succ]
  refine wpAnyH_take (i := 1) (oi := ⟨some 17, Op.move (Operand.tmp 0), 9, _, #[], none⟩) (v := ?_) rfl (by kernel_rfl) (by kernel_rfl) (by kernel_rfl) (fun _ _ _ h => h) (Or.inl ⟨by rfl, ?_⟩) hHeld ?_
  rotate_left
  · (intro wz hSw; go_simp; try (with_reducible rfl))
  try simp only [Act.put, List.setIfInBounds_toArray, List.set_cons_zero, List.set_cons_succ]
  refine wpAnyH_take (i := 2) (oi := ⟨some 18, Op.move (Operand.tmp 1), 9, _, #[], none⟩) (v := ?_) rfl (by kernel_rfl) (by kernel_rfl) (by kernel_rfl) (fun _ _ _ h => h) (Or.inl ⟨by rfl, ?_⟩) hHeld ?_
  rotate_left
  · (intro wz hSw; go_simp; try (with_reducible rfl))
  try simp only [Act.put, List.setIfInBounds_toArray, List.set_cons_zero, List.set_cons_succ]
  refine wpAnyH_take (i := 3) (oi := ⟨some 19, Op.binOp BinOp.add 9 (Operand.tmp 17) (Operand.tmp 18) 9, 9, _, #[{ on := 1, ground := Ground.data }, { on := 2, ground := Ground.data }], none⟩) (v := ?_) rfl (by kernel_rfl) (by kernel_rfl) (by kernel_rfl) (fun _ _ _ h => h) (Or.inl ⟨by rfl, ?_⟩) hHeld ?_
  rotate_left
  · (intro wz hSw; go_simp; try (with_reducible rfl))
  try simp only [Act.put, List.setIfInBounds_toArray, List.set_cons_zero, List.set_cons_succ]
  refine wpAnyH_take (i := 7) (oi := ⟨some 23, Op.move (Operand.tmp 0), 9, _, #[], none⟩) (v := ?_) rfl (by kernel_rfl) (by kernel_rfl) (by kernel_rfl) (fun _ _ _ h => h) (Or.inl ⟨by rfl, ?_⟩) hHeld ?_
  rotate_left
  · (intro wz hSw; go_simp; try (with_reducible rfl))
  try simp only [Act.put, List.setIfInBounds_toArray, List.set_cons_zero, List.set_cons_succ]
  refine wpAnyH_take (i := 9) (oi := ⟨some 25, Op.move (Operand.tmp 1), 9, _, #[], none⟩) (v := ?_) rfl (by kernel_rfl) (by kernel_rfl) (by kernel_rfl) (fun _ _ _ h => h) (Or.inl ⟨by rfl, ?_⟩) hHeld ?_
  rotate_left
  · (intro wz hSw; go_simp; try (with_reducible rfl))
  try simp only [Act.put, List.setIfInBounds_toArray, List.set_cons_zero, List.set_cons_succ]
  refine wpAnyH_ready (rs := [4]) (by kernel_rfl) (by simp) ?_
  refine AllReadyH.cons (o := ⟨some 20, Op.call { callee := Callee.value (Operand.func 11), args := #[Operand.tmp 16, Operand.tmp 19], argTypes := #[24, 9] }, 22, _, #[{ on := 0, ground := Ground.data }, { on := 3, ground := Ground.data }], none⟩) rfl (fun K hK => ?_) AllReadyH.nil
  go_simp
  go_at_call 11
  with_reducible refine (H12.out _).mono ?_
  rintro e w9 ⟨rfl, hb1⟩
  refine hK.out _ _ (THolds.next hHeld hb1) (fun hH => ?_)
  clear hHeld hK K hb1
  have hHeld := hH
  clear hH
  try simp only [Act.put, List.setIfInBounds_toArray, List.set_cons_zero, List.set_cons_succ]
  refine wpAnyH_ready (rs := [8]) (by kernel_rfl) (by simp) ?_
  refine AllReadyH.cons (o := ⟨some 24, Op.call { callee := Callee.value (Operand.func 11), args := #[Operand.tmp 22, Operand.tmp 23], argTypes := #[24, 9] }, 22, _, #[{ on := 6, ground := Ground.data }, { on := 7, ground := Ground.data }, { on := 4, ground := Ground.chain }], none⟩) rfl (fun K hK => ?_) AllReadyH.nil
  go_simp
  go_at_call 11
  with_reducible refine (H1.out _).mono ?_
  rintro e w9 ⟨rfl, hb1⟩
  refine hK.out _ _ (THolds.next hHeld hb1) (fun hH => ?_)
  clear hHeld hK K hb1
  have hHeld := hH
  clear hH
  try simp only [Act.put, List.setIfInBounds_toArray, List.set_cons_zero, List.set_cons_succ]
  refine wpAnyH_ready (rs := [10]) (by kernel_rfl) (by simp) ?_
  refine AllReadyH.cons (o := ⟨some 26, Op.call { callee := Callee.value (Operand.func 13), args := #[Operand.tmp 21, Operand.tmp 24, Operand.tmp 25], argTypes := #[24, 22, 9] }, 22, _, #[{ on := 5, ground := Ground.data }, { on := 8, ground := Ground.data }, { on := 9, ground := Ground.data }, { on := 8, ground := Ground.chain }], none⟩) rfl (fun K hK => ?_) AllReadyH.nil
  go_simp
  go_at_call 13
  with_reducible refine (Hm.out _).mono ?_
  rintro e w9 ⟨rfl, hb1⟩
  refine hK.out _ _ (THolds.next hHeld hb1) (fun hH => ?_)
  clear hHeld hK K hb1
  have hHeld := hH
  clear hH
  try simp only [Act.put, List.setIfInBounds_toArray, List.set_cons_zero, List.set_cons_succ]
  refine wpAnyH_take (i := 11) (oi := ⟨some 27, Op.binOp BinOp.eql 22 (Operand.tmp 20) (Operand.tmp 26) 22, 4, _, #[{ on := 4, ground := Ground.data }, { on := 10, ground := Ground.data }], none⟩) (v := ?_) rfl (by kernel_rfl) (by kernel_rfl) (by kernel_rfl) (fun _ _ _ h => h) (Or.inl ⟨by rfl, ?_⟩) hHeld ?_
  rotate_left
  · (intro wz hSw; go_simp; try (with_reducible rfl))
  try simp only [Act.put, List.setIfInBounds_toArray, List.set_cons_zero, List.set_cons_succ]
  refine wpAnyH_take (i := 12) (oi := ⟨some 28, Op.move (Operand.tmp 27), 4, _, #[{ on := 11, ground := Ground.data }, { on := 10, ground := Ground.chain }], none⟩) (v := ?_) rfl (by kernel_rfl) (by kernel_rfl) (by kernel_rfl) (fun _ _ _ h => h) (Or.inl ⟨by rfl, ?_⟩) hHeld ?_
  rotate_left
  · (intro wz hSw; go_simp; try (with_reducible rfl))
  try simp only [Act.put, List.setIfInBounds_toArray, List.set_cons_zero, List.set_cons_succ]
  refine wpAnyH_take (i := 13) (oi := ⟨some 29, Op.load 24 (Operand.tmp 5), 24, _, #[{ on := 12, ground := Ground.guard }], some (12, true)⟩) (v := .agg C.toArray) rfl (by kernel_rfl) (by kernel_rfl) (by kernel_rfl) (fun _ _ _ h => h) (yieldsIf_load_mid (by rfl) _ _ rfl _ _ rfl _ _ (fun _ h => h.cells) hu rfl hi) hHeld ?_
  try simp only [Act.put, List.setIfInBounds_toArray, List.set_cons_zero, List.set_cons_succ]
  refine wpAnyH_take (i := 14) (oi := ⟨some 30, Op.load 24 (Operand.tmp 5), 24, _, #[{ on := 12, ground := Ground.guard }], some (12, true)⟩) (v := .agg C.toArray) rfl (by kernel_rfl) (by kernel_rfl) (by kernel_rfl) (fun _ _ _ h => h) (yieldsIf_load_mid (by rfl) _ _ rfl _ _ rfl _ _ (fun _ h => h.cells) hu rfl hi) hHeld ?_
  try simp only [Act.put, List.setIfInBounds_toArray, List.set_cons_zero, List.set_cons_succ]
  refine wpAnyH_take (i := 20) (oi := ⟨some 36, Op.load 24 (Operand.tmp 5), 24, _, #[{ on := 12, ground := Ground.guard }], some (12, true)⟩) (v := .agg C.toArray) rfl (by kernel_rfl) (by kernel_rfl) (by kernel_rfl) (fun _ _ _ h => h) (yieldsIf_load_mid (by rfl) _ _ rfl _ _ rfl _ _ (fun _ h => h.cells) hu rfl hi) hHeld ?_
  try simp only [Act.put, List.setIfInBounds_toArray, List.set_cons_zero, List.set_cons_succ]
  refine wpAnyH_take (i := 15) (oi := ⟨some 31, Op.move (Operand.tmp 0), 9, _, #[{ on := 12, ground := Ground.guard }], some (12, true)⟩) (v := ?_) rfl (by kernel_rfl) (by kernel_rfl) (by kernel_rfl) (fun _ _ _ h => h) (Or.inl ⟨by rfl, ?_⟩) hHeld ?_
  rotate_left
  · (intro wz hSw; go_simp; try (with_reducible rfl))
  try simp only [Act.put, List.setIfInBounds_toArray, List.set_cons_zero, List.set_cons_succ]
  refine wpAnyH_take (i := 17) (oi := ⟨some 33, Op.move (Operand.tmp 1), 9, _, #[{ on := 12, ground := Ground.guard }], some (12, true)⟩) (v := ?_) rfl (by kernel_rfl) (by kernel_rfl) (by kernel_rfl) (fun _ _ _ h => h) (Or.inl ⟨by rfl, ?_⟩) hHeld ?_
  rotate_left
  · (intro wz hSw; go_simp; try (with_reducible rfl))
  try simp only [Act.put, List.setIfInBounds_toArray, List.set_cons_zero, List.set_cons_succ]
  refine wpAnyH_take (i := 18) (oi := ⟨some 34, Op.call { callee := Callee.builtin Builtin.len, args := #[Operand.tmp 33], argTypes := #[9] }, 3, _, #[{ on := 17, ground := Ground.data }, { on := 12, ground := Ground.guard }], some (12, true)⟩) (v := ?_) rfl (by kernel_rfl) (by kernel_rfl) (by kernel_rfl) (fun _ _ _ h => h) (Or.inl ⟨by rfl, ?_⟩) hHeld ?_
  rotate_left
  · (intro wz hSw; go_simp; try (with_reducible rfl))
  try simp only [Act.put, List.setIfInBounds_toArray, List.set_cons_zero, List.set_cons_succ]
  refine wpAnyH_take (i := 21) (oi := ⟨some 37, Op.move (Operand.tmp 0), 9, _, #[{ on := 12, ground := Ground.guard }], some (12, true)⟩) (v := ?_) rfl (by kernel_rfl) (by kernel_rfl) (by kernel_rfl) (fun _ _ _ h => h) (Or.inl ⟨by rfl, ?_⟩) hHeld ?_
  rotate_left
  · (intro wz hSw; go_simp; try (with_reducible rfl))
  try simp only [Act.put, List.setIfInBounds_toArray, List.set_cons_zero, List.set_cons_succ]
  refine wpAnyH_take (i := 22) (oi := ⟨some 38, Op.move (Operand.tmp 1), 9, _, #[{ on := 12, ground := Ground.guard }], some (12, true)⟩) (v := ?_) rfl (by kernel_rfl) (by kernel_rfl) (by kernel_rfl) (fun _ _ _ h => h) (Or.inl ⟨by rfl, ?_⟩) hHeld ?_
  rotate_left
  · (intro wz hSw; go_simp; try (with_reducible rfl))
  try simp only [Act.put, List.setIfInBounds_toArray, List.set_cons_zero, List.set_cons_succ]
  refine wpAnyH_take (i := 23) (oi := ⟨some 39, Op.call { callee := Callee.builtin Builtin.len, args := #[Operand.tmp 38], argTypes := #[9] }, 3, _, #[{ on := 22, ground := Ground.data }, { on := 12, ground := Ground.guard }], some (12, true)⟩) (v := ?_) rfl (by kernel_rfl) (by kernel_rfl) (by kernel_rfl) (fun _ _ _ h => h) (Or.inl ⟨by rfl, ?_⟩) hHeld ?_
  rotate_left
  · (intro wz hSw; go_simp; try (with_reducible rfl))
  try simp only [Act.put, List.setIfInBounds_toArray, List.set_cons_zero, List.set_cons_succ]
  refine wpAnyH_ready (rs := [16, 24]) (by kernel_rfl) (by simp) ?_
  refine AllReadyH.cons (o := ⟨some 32, Op.call { callee := Callee.value (Operand.func 11), args := #[Operand.tmp 30, Operand.tmp 31], argTypes := #[24, 9] }, 22, _, #[{ on := 14, ground := Ground.data }, { on := 15, ground := Ground.data }, { on := 12, ground := Ground.chain }, { on := 12, ground := Ground.guard }], some (12, true)⟩) rfl (fun K hK => ?_) ?_
  · skip
    go_simp
    go_at_call 11
    with_reducible refine (H1.out _).mono ?_
    rintro e w9 ⟨rfl, hb1⟩
    refine hK.out _ _ (THolds.next hHeld hb1) (fun hH => ?_)
    clear hHeld hK K hb1
    have hHeld := hH
    clear hH
    try simp only [Act.put, List.setIfInBounds_toArray, List.set_cons_zero, List.set_cons_succ]
    refine wpAnyH_ready (rs := [19, 24]) (by kernel_rfl) (by simp) ?_
    refine AllReadyH.cons (o := ⟨some 35, Op.call { callee := Callee.value (Operand.func 15), args := #[Operand.tmp 29, Operand.tmp 32, Operand.tmp 34], argTypes := #[24, 22, 3] }, 22, _, #[{ on := 13, ground := Ground.data }, { on := 16, ground := Ground.data }, { on := 18, ground := Ground.data }, { on := 16, ground := Ground.chain }, { on := 12, ground := Ground.guard }], some (12, true)⟩) rfl (fun K hK => ?_) ?_
    · skip
      go_simp
      go_at_call 15
      with_reducible refine (Hn.out _).mono ?_
      rintro e w9 ⟨rfl, hb1⟩
      refine hK.out _ _ (THolds.next hHeld hb1) (fun hH => ?_)
      clear hHeld hK K hb1
      have hHeld := hH
      clear hH
      try simp only [Act.put, List.setIfInBounds_toArray, List.set_cons_zero, List.set_cons_succ]
      refine wpAnyH_ready (rs := [24]) (by kernel_rfl) (by simp) ?_
      refine AllReadyH.cons (o := ⟨some 40, Op.makeSlice 34 (Operand.tmp 39) (Operand.tmp 39), 34, _, #[{ on := 23, ground := Ground.data }, { on := 23, ground := Ground.data }, { on := 12, ground := Ground.guard }], some (12, true)⟩) rfl (fun K hK => ?_) AllReadyH.nil
      go_simp
      refine hK.out _ _ (hHeld.grow _) (fun hH => ?_)
      clear hK K hHeld
      have hB := Blk.new w9 5 (bc D)
      generalize w9.heap.size = gN at hB ⊢
      refine wpAnyH_stronger (S2 := fun w9 => THolds w w9 g C ∧ Blk w9 gN 5 (bc D)) (fun _ h => h.1) ?_
      have hHeld : THolds w _ g C ∧ Blk _ gN 5 (bc D) := ⟨hH, hB⟩
      clear hH hB
      try simp only [Act.put, List.setIfInBounds_toArray, List.set_cons_zero, List.set_cons_succ]
      refine wpAnyH_take (i := 25) (oi := ⟨some 41, Op.convert 34 9 (Operand.tmp 40), 9, _, #[{ on := 24, ground := Ground.data }, { on := 12, ground := Ground.guard }], some (12, true)⟩) (v := .string ⟨D.toArray⟩) rfl (by kernel_rfl) (by kernel_rfl) (by kernel_rfl) (fun _ _ _ h => h) (yieldsIf_str (by rfl) _ _ _ rfl _ _ _ D rfl (fun w9 h => str_blk w9 _ _ _ _ D hDl.out h.2)) hHeld ?_
      try simp only [Act.put, List.setIfInBounds_toArray, List.set_cons_zero, List.set_cons_succ]
      refine wpAnyH_take (i := 26) (oi := ⟨some 42, Op.binOp BinOp.add 9 (Operand.tmp 37) (Operand.tmp 41) 9, 9, _, #[{ on := 21, ground := Ground.data }, { on := 25, ground := Ground.data }, { on := 12, ground := Ground.guard }], some (12, true)⟩) (v := ?_) rfl (by kernel_rfl) (by kernel_rfl) (by kernel_rfl) (fun _ _ _ h => h) (Or.inl ⟨by rfl, ?_⟩) hHeld ?_
      rotate_left
      · (intro wz hSw; go_simp; try (with_reducible rfl))
      try simp only [Act.put, List.setIfInBounds_toArray, List.set_cons_zero, List.set_cons_succ]
      refine wpAnyH_ready (rs := [27]) (by kernel_rfl) (by simp) ?_
      refine AllReadyH.cons (o := ⟨some 43, Op.call { callee := Callee.value (Operand.func 11), args := #[Operand.tmp 36, Operand.tmp 42], argTypes := #[24, 9] }, 22, _, #[{ on := 20, ground := Ground.data }, { on := 26, ground := Ground.data }, { on := 19, ground := Ground.chain }, { on := 12, ground := Ground.guard }], some (12, true)⟩) rfl (fun K hK => ?_) AllReadyH.nil
      go_simp
      go_at_call 11
      with_reducible refine (H1D.out _).mono ?_
      rintro e w9 ⟨rfl, hb1⟩
      refine hK.out _ _ (⟨THolds.next hHeld.1 hb1, hHeld.2.below hb1 hHeld.2.lt⟩) (fun hH => ?_)
      clear hHeld hK K hb1
      have hHeld := hH
      clear hH
      try simp only [Act.put, List.setIfInBounds_toArray, List.set_cons_zero, List.set_cons_succ]
      refine wpAnyH_take (i := 28) (oi := ⟨some 44, Op.binOp BinOp.eql 22 (Operand.tmp 35) (Operand.tmp 43) 22, 4, _, #[{ on := 19, ground := Ground.data }, { on := 27, ground := Ground.data }, { on := 12, ground := Ground.guard }], some (12, true)⟩) (v := ?_) rfl (by kernel_rfl) (by kernel_rfl) (by kernel_rfl) (fun _ _ _ h => h) (Or.inl ⟨by rfl, ?_⟩) hHeld ?_
      rotate_left
      · (intro wz hSw; go_simp; try (with_reducible rfl))
      try simp only [Act.put, List.setIfInBounds_toArray, List.set_cons_zero, List.set_cons_succ]
      refine wpAnyH_take (i := 29) (oi := ⟨some 45, Op.pick (Operand.tmp 28) (Operand.tmp 44) (Operand.const (Value.bool false)), 4, _, #[{ on := 12, ground := Ground.data }, { on := 28, ground := Ground.data }], none⟩) (v := ?_) rfl (by kernel_rfl) (by kernel_rfl) (by kernel_rfl) (fun _ _ _ h => h) (Or.inl ⟨by rfl, ?_⟩) hHeld ?_
      rotate_left
      · (intro wz hSw; go_simp; try (with_reducible rfl))
      try simp only [Act.put, List.setIfInBounds_toArray, List.set_cons_zero, List.set_cons_succ]
      refine wpAnyH_take (i := 30) (oi := ⟨some 46, Op.move (Operand.tmp 45), 4, _, #[{ on := 29, ground := Ground.data }, { on := 27, ground := Ground.chain }], none⟩) (v := ?_) rfl (by kernel_rfl) (by kernel_rfl) (by kernel_rfl) (fun _ _ _ h => h) (Or.inl ⟨by rfl, ?_⟩) hHeld ?_
      rotate_left
      · (intro wz hSw; go_simp; try (with_reducible rfl))
      try simp only [Act.put, List.setIfInBounds_toArray, List.set_cons_zero, List.set_cons_succ]
      refine wpAnyH_ready (rs := [31]) (by kernel_rfl) (by simp) ?_
      refine AllReadyH.cons (o := ⟨some 47, Op.call { callee := Callee.value (Operand.func 8), args := #[], argTypes := #[] }, 4, _, #[{ on := 30, ground := Ground.chain }, { on := 30, ground := Ground.guard }], some (30, true)⟩) rfl (fun K hK => ?_) AllReadyH.nil
      go_simp
      go_at_call 8
      with_reducible refine (awake_any _).mono ?_
      rintro e w9 ⟨rfl, hb1⟩
      refine hK.out _ _ (⟨THolds.next hHeld.1 hb1, hHeld.2.below hb1 hHeld.2.lt⟩) (fun hH => ?_)
      clear hHeld hK K hb1
      have hHeld := hH
      clear hH
      try simp only [Act.put, List.setIfInBounds_toArray, List.set_cons_zero, List.set_cons_succ]
      refine wpAnyH_take (i := 32) (oi := ⟨some 48, Op.pick (Operand.tmp 46) (Operand.tmp 47) (Operand.const (Value.bool false)), 4, _, #[{ on := 30, ground := Ground.data }, { on := 31, ground := Ground.data }], none⟩) (v := ?_) rfl (by kernel_rfl) (by kernel_rfl) (by kernel_rfl) (fun _ _ _ h => h) (Or.inl ⟨by rfl, ?_⟩) hHeld ?_
      rotate_left
      · (intro wz hSw; go_simp; try (with_reducible rfl))
      try simp only [Act.put, List.setIfInBounds_toArray, List.set_cons_zero, List.set_cons_succ]
      refine wpAnyH_take (i := 33) (oi := ⟨some 4, Op.assign (Operand.tmp 48), 4, _, #[{ on := 32, ground := Ground.data }, { on := 31, ground := Ground.chain }, { on := 0, ground := Ground.phase }, { on := 1, ground := Ground.phase }, { on := 2, ground := Ground.phase }, { on := 3, ground := Ground.phase }, { on := 4, ground := Ground.phase }, { on := 5, ground := Ground.phase }, { on := 6, ground := Ground.phase }, { on := 7, ground := Ground.phase }, { on := 8, ground := Ground.phase }, { on := 9, ground := Ground.phase }, { on := 10, ground := Ground.phase }, { on := 11, ground := Ground.phase }, { on := 12, ground := Ground.phase }, { on := 13, ground := Ground.phase }, { on := 14, ground := Ground.phase }, { on := 15, ground := Ground.phase }, { on := 16, ground := Ground.phase }, { on := 17, ground := Ground.phase }, { on := 18, ground := Ground.phase }, { on := 19, ground := Ground.phase }, { on := 20, ground := Ground.phase }, { on := 21, ground := Ground.phase }, { on := 22, ground := Ground.phase }, { on := 23, ground := Ground.phase }, { on := 24, ground := Ground.phase }, { on := 25, ground := Ground.phase }, { on := 26, ground := Ground.phase }, { on := 27, ground := Ground.phase }, { on := 28, ground := Ground.phase }, { on := 29, ground := Ground.phase }, { on := 30, ground := Ground.phase }, { on := 31, ground := Ground.phase }, { on := 32, ground := Ground.phase }], none⟩) (v := ?_) rfl (by kernel_rfl) (by kernel_rfl) (by kernel_rfl) (fun _ _ _ h => h) (Or.inl ⟨by rfl, ?_⟩) hHeld ?_
      rotate_left
      · (intro wz hSw; go_simp; try (with_reducible rfl))
      try simp only [Act.put, List.setIfInBounds_toArray, List.set_cons_zero, List.set_cons_succ]
      refine wpAnyH_done (by kernel_rfl) ?_ _
      go_wp2
      go_ret
      exact ⟨rfl, hHeld.1.below⟩
    refine AllReadyH.cons (o := ⟨some 40, Op.makeSlice 34 (Operand.tmp 39) (Operand.tmp 39), 34, _, #[{ on := 23, ground := Ground.data }, { on := 23, ground := Ground.data }, { on := 12, ground := Ground.guard }], some (12, true)⟩) rfl (fun K hK => ?_) AllReadyH.nil
    go_simp
    refine hK.out _ _ (hHeld.grow _) (fun hH => ?_)
    clear hK K hHeld
    have hB := Blk.new w9 5 (bc D)
    generalize w9.heap.size = gN at hB ⊢
    refine wpAnyH_stronger (S2 := fun w9 => THolds w w9 g C ∧ Blk w9 gN 5 (bc D)) (fun _ h => h.1) ?_
    have hHeld : THolds w _ g C ∧ Blk _ gN 5 (bc D) := ⟨hH, hB⟩
    clear hH hB
    try simp only [Act.put, List.setIfInBounds_toArray, List.set_cons_zero, List.set_cons_succ]
    refine wpAnyH_take (i := 25) (oi := ⟨some 41, Op.convert 34 9 (Operand.tmp 40), 9, _, #[{ on := 24, ground := Ground.data }, { on := 12, ground := Ground.guard }], some (12, true)⟩) (v := .string ⟨D.toArray⟩) rfl (by kernel_rfl) (by kernel_rfl) (by kernel_rfl) (fun _ _ _ h => h) (yieldsIf_str (by rfl) _ _ _ rfl _ _ _ D rfl (fun w9 h => str_blk w9 _ _ _ _ D hDl.out h.2)) hHeld ?_
    try simp only [Act.put, List.setIfInBounds_toArray, List.set_cons_zero, List.set_cons_succ]
    refine wpAnyH_take (i := 26) (oi := ⟨some 42, Op.binOp BinOp.add 9 (Operand.tmp 37) (Operand.tmp 41) 9, 9, _, #[{ on := 21, ground := Ground.data }, { on := 25, ground := Ground.data }, { on := 12, ground := Ground.guard }], some (12, true)⟩) (v := ?_) rfl (by kernel_rfl) (by kernel_rfl) (by kernel_rfl) (fun _ _ _ h => h) (Or.inl ⟨by rfl, ?_⟩) hHeld ?_
    rotate_left
    · (intro wz hSw; go_simp; try (with_reducible rfl))
    try simp only [Act.put, List.setIfInBounds_toArray, List.set_cons_zero, List.set_cons_succ]
    refine wpAnyH_ready (rs := [19]) (by kernel_rfl) (by simp) ?_
    refine AllReadyH.cons (o := ⟨some 35, Op.call { callee := Callee.value (Operand.func 15), args := #[Operand.tmp 29, Operand.tmp 32, Operand.tmp 34], argTypes := #[24, 22, 3] }, 22, _, #[{ on := 13, ground := Ground.data }, { on := 16, ground := Ground.data }, { on := 18, ground := Ground.data }, { on := 16, ground := Ground.chain }, { on := 12, ground := Ground.guard }], some (12, true)⟩) rfl (fun K hK => ?_) AllReadyH.nil
    go_simp
    go_at_call 15
    with_reducible refine (Hn.out _).mono ?_
    rintro e w9 ⟨rfl, hb1⟩
    refine hK.out _ _ (⟨THolds.next hHeld.1 hb1, hHeld.2.below hb1 hHeld.2.lt⟩) (fun hH => ?_)
    clear hHeld hK K hb1
    have hHeld := hH
    clear hH
    try simp only [Act.put, List.setIfInBounds_toArray, List.set_cons_zero, List.set_cons_succ]
    refine wpAnyH_ready (rs := [27]) (by kernel_rfl) (by simp) ?_
    refine AllReadyH.cons (o := ⟨some 43, Op.call { callee := Callee.value (Operand.func 11), args := #[Operand.tmp 36, Operand.tmp 42], argTypes := #[24, 9] }, 22, _, #[{ on := 20, ground := Ground.data }, { on := 26, ground := Ground.data }, { on := 19, ground := Ground.chain }, { on := 12, ground := Ground.guard }], some (12, true)⟩) rfl (fun K hK => ?_) AllReadyH.nil
    go_simp
    go_at_call 11
    with_reducible refine (H1D.out _).mono ?_
    rintro e w9 ⟨rfl, hb1⟩
    refine hK.out _ _ (⟨THolds.next hHeld.1 hb1, hHeld.2.below hb1 hHeld.2.lt⟩) (fun hH => ?_)
    clear hHeld hK K hb1
    have hHeld := hH
    clear hH
    try simp only [Act.put, List.setIfInBounds_toArray, List.set_cons_zero, List.set_cons_succ]
    refine wpAnyH_take (i := 28) (oi := ⟨some 44, Op.binOp BinOp.eql 22 (Operand.tmp 35) (Operand.tmp 43) 22, 4, _, #[{ on := 19, ground := Ground.data }, { on := 27, ground := Ground.data }, { on := 12, ground := Ground.guard }], some (12, true)⟩) (v := ?_) rfl (by kernel_rfl) (by kernel_rfl) (by kernel_rfl) (fun _ _ _ h => h) (Or.inl ⟨by rfl, ?_⟩) hHeld ?_
    rotate_left
    · (intro wz hSw; go_simp; try (with_reducible rfl))
    try simp only [Act.put, List.setIfInBounds_toArray, List.set_cons_zero, List.set_cons_succ]
    refine wpAnyH_take (i := 29) (oi := ⟨some 45, Op.pick (Operand.tmp 28) (Operand.tmp 44) (Operand.const (Value.bool false)), 4, _, #[{ on := 12, ground := Ground.data }, { on := 28, ground := Ground.data }], none⟩) (v := ?_) rfl (by kernel_rfl) (by kernel_rfl) (by kernel_rfl) (fun _ _ _ h => h) (Or.inl ⟨by rfl, ?_⟩) hHeld ?_
    rotate_left
    · (intro wz hSw; go_simp; try (with_reducible rfl))
    try simp only [Act.put, List.setIfInBounds_toArray, List.set_cons_zero, List.set_cons_succ]
    refine wpAnyH_take (i := 30) (oi := ⟨some 46, Op.move (Operand.tmp 45), 4, _, #[{ on := 29, ground := Ground.data }, { on := 27, ground := Ground.chain }], none⟩) (v := ?_) rfl (by kernel_rfl) (by kernel_rfl) (by kernel_rfl) (fun _ _ _ h => h) (Or.inl ⟨by rfl, ?_⟩) hHeld ?_
    rotate_left
    · (intro wz hSw; go_simp; try (with_reducible rfl))
    try simp only [Act.put, List.setIfInBounds_toArray, List.set_cons_zero, List.set_cons_succ]
    refine wpAnyH_ready (rs := [31]) (by kernel_rfl) (by simp) ?_
    refine AllReadyH.cons (o := ⟨some 47, Op.call { callee := Callee.value (Operand.func 8), args := #[], argTypes := #[] }, 4, _, #[{ on := 30, ground := Ground.chain }, { on := 30, ground := Ground.guard }], some (30, true)⟩) rfl (fun K hK => ?_) AllReadyH.nil
    go_simp
    go_at_call 8
    with_reducible refine (awake_any _).mono ?_
    rintro e w9 ⟨rfl, hb1⟩
    refine hK.out _ _ (⟨THolds.next hHeld.1 hb1, hHeld.2.below hb1 hHeld.2.lt⟩) (fun hH => ?_)
    clear hHeld hK K hb1
    have hHeld := hH
    clear hH
    try simp only [Act.put, List.setIfInBounds_toArray, List.set_cons_zero, List.set_cons_succ]
    refine wpAnyH_take (i := 32) (oi := ⟨some 48, Op.pick (Operand.tmp 46) (Operand.tmp 47) (Operand.const (Value.bool false)), 4, _, #[{ on := 30, ground := Ground.data }, { on := 31, ground := Ground.data }], none⟩) (v := ?_) rfl (by kernel_rfl) (by kernel_rfl) (by kernel_rfl) (fun _ _ _ h => h) (Or.inl ⟨by rfl, ?_⟩) hHeld ?_
    rotate_left
    · (intro wz hSw; go_simp; try (with_reducible rfl))
    try simp only [Act.put, List.setIfInBounds_toArray, List.set_cons_zero, List.set_cons_succ]
    refine wpAnyH_take (i := 33) (oi := ⟨some 4, Op.assign (Operand.tmp 48), 4, _, #[{ on := 32, ground := Ground.data }, { on := 31, ground := Ground.chain }, { on := 0, ground := Ground.phase }, { on := 1, ground := Ground.phase }, { on := 2, ground := Ground.phase }, { on := 3, ground := Ground.phase }, { on := 4, ground := Ground.phase }, { on := 5, ground := Ground.phase }, { on := 6, ground := Ground.phase }, { on := 7, ground := Ground.phase }, { on := 8, ground := Ground.phase }, { on := 9, ground := Ground.phase }, { on := 10, ground := Ground.phase }, { on := 11, ground := Ground.phase }, { on := 12, ground := Ground.phase }, { on := 13, ground := Ground.phase }, { on := 14, ground := Ground.phase }, { on := 15, ground := Ground.phase }, { on := 16, ground := Ground.phase }, { on := 17, ground := Ground.phase }, { on := 18, ground := Ground.phase }, { on := 19, ground := Ground.phase }, { on := 20, ground := Ground.phase }, { on := 21, ground := Ground.phase }, { on := 22, ground := Ground.phase }, { on := 23, ground := Ground.phase }, { on := 24, ground := Ground.phase }, { on := 25, ground := Ground.phase }, { on := 26, ground := Ground.phase }, { on := 27, ground := Ground.phase }, { on := 28, ground := Ground.phase }, { on := 29, ground := Ground.phase }, { on := 30, ground := Ground.phase }, { on := 31, ground := Ground.phase }, { on := 32, ground := Ground.phase }], none⟩) (v := ?_) rfl (by kernel_rfl) (by kernel_rfl) (by kernel_rfl) (fun _ _ _ h => h) (Or.inl ⟨by rfl, ?_⟩) hHeld ?_
    rotate_left
    · (intro wz hSw; go_simp; try (with_reducible rfl))
    try simp only [Act.put, List.setIfInBounds_toArray, List.set_cons_zero, List.set_cons_succ]
    refine wpAnyH_done (by kernel_rfl) ?_ _
    go_wp2
    go_ret
    exact ⟨rfl, hHeld.1.below⟩
  refine AllReadyH.cons (o := ⟨some 40, Op.makeSlice 34 (Operand.tmp 39) (Operand.tmp 39), 34, _, #[{ on := 23, ground := Ground.data }, { on := 23, ground := Ground.data }, { on := 12, ground := Ground.guard }], some (12, true)⟩) rfl (fun K hK => ?_) AllReadyH.nil
  go_simp
  refine hK.out _ _ (hHeld.grow _) (fun hH => ?_)
  clear hK K hHeld
  have hB := Blk.new w9 5 (bc D)
  generalize w9.heap.size = gN at hB ⊢
  refine wpAnyH_stronger (S2 := fun w9 => THolds w w9 g C ∧ Blk w9 gN 5 (bc D)) (fun _ h => h.1) ?_
  have hHeld : THolds w _ g C ∧ Blk _ gN 5 (bc D) := ⟨hH, hB⟩
  clear hH hB
  try simp only [Act.put, List.setIfInBounds_toArray, List.set_cons_zero, List.set_cons_succ]
  refine wpAnyH_take (i := 25) (oi := ⟨some 41, Op.convert 34 9 (Operand.tmp 40), 9, _, #[{ on := 24, ground := Ground.data }, { on := 12, ground := Ground.guard }], some (12, true)⟩) (v := .string ⟨D.toArray⟩) rfl (by kernel_rfl) (by kernel_rfl) (by kernel_rfl) (fun _ _ _ h => h) (yieldsIf_str (by rfl) _ _ _ rfl _ _ _ D rfl (fun w9 h => str_blk w9 _ _ _ _ D hDl.out h.2)) hHeld ?_
  try simp only [Act.put, List.setIfInBounds_toArray, List.set_cons_zero, List.set_cons_succ]
  refine wpAnyH_take (i := 26) (oi := ⟨some 42, Op.binOp BinOp.add 9 (Operand.tmp 37) (Operand.tmp 41) 9, 9, _, #[{ on := 21, ground := Ground.data }, { on := 25, ground := Ground.data }, { on := 12, ground := Ground.guard }], some (12, true)⟩) (v := ?_) rfl (by kernel_rfl) (by kernel_rfl) (by kernel_rfl) (fun _ _ _ h => h) (Or.inl ⟨by rfl, ?_⟩) hHeld ?_
  rotate_left
  · (intro wz hSw; go_simp; try (with_reducible rfl))
  try simp only [Act.put, List.setIfInBounds_toArray, List.set_cons_zero, List.set_cons_succ]
  refine wpAnyH_ready (rs := [16]) (by kernel_rfl) (by simp) ?_
  refine AllReadyH.cons (o := ⟨some 32, Op.call { callee := Callee.value (Operand.func 11), args := #[Operand.tmp 30, Operand.tmp 31], argTypes := #[24, 9] }, 22, _, #[{ on := 14, ground := Ground.data }, { on := 15, ground := Ground.data }, { on := 12, ground := Ground.chain }, { on := 12, ground := Ground.guard }], some (12, true)⟩) rfl (fun K hK => ?_) AllReadyH.nil
  go_simp
  go_at_call 11
  with_reducible refine (H1.out _).mono ?_
  rintro e w9 ⟨rfl, hb1⟩
  refine hK.out _ _ (⟨THolds.next hHeld.1 hb1, hHeld.2.below hb1 hHeld.2.lt⟩) (fun hH => ?_)
  clear hHeld hK K hb1
  have hHeld := hH
  clear hH
  try simp only [Act.put, List.setIfInBounds_toArray, List.set_cons_zero, List.set_cons_succ]
  refine wpAnyH_ready (rs := [19]) (by kernel_rfl) (by simp) ?_
  refine AllReadyH.cons (o := ⟨some 35, Op.call { callee := Callee.value (Operand.func 15), args := #[Operand.tmp 29, Operand.tmp 32, Operand.tmp 34], argTypes := #[24, 22, 3] }, 22, _, #[{ on := 13, ground := Ground.data }, { on := 16, ground := Ground.data }, { on := 18, ground := Ground.data }, { on := 16, ground := Ground.chain }, { on := 12, ground := Ground.guard }], some (12, true)⟩) rfl (fun K hK => ?_) AllReadyH.nil
  go_simp
  go_at_call 15
  with_reducible refine (Hn.out _).mono ?_
  rintro e w9 ⟨rfl, hb1⟩
  refine hK.out _ _ (⟨THolds.next hHeld.1 hb1, hHeld.2.below hb1 hHeld.2.lt⟩) (fun hH => ?_)
  clear hHeld hK K hb1
  have hHeld := hH
  clear hH
  try simp only [Act.put, List.setIfInBounds_toArray, List.set_cons_zero, List.set_cons_succ]
  refine wpAnyH_ready (rs := [27]) (by kernel_rfl) (by simp) ?_
  refine AllReadyH.cons (o := ⟨some 43, Op.call { callee := Callee.value (Operand.func 11), args := #[Operand.tmp 36, Operand.tmp 42], argTypes := #[24, 9] }, 22, _, #[{ on := 20, ground := Ground.data }, { on := 26, ground := Ground.data }, { on := 19, ground := Ground.chain }, { on := 12, ground := Ground.guard }], some (12, true)⟩) rfl (fun K hK => ?_) AllReadyH.nil
  go_simp
  go_at_call 11
  with_reducible refine (H1D.out _).mono ?_
  rintro e w9 ⟨rfl, hb1⟩
  refine hK.out _ _ (⟨THolds.next hHeld.1 hb1, hHeld.2.below hb1 hHeld.2.lt⟩) (fun hH => ?_)
  clear hHeld hK K hb1
  have hHeld := hH
  clear hH
  try simp only [Act.put, List.setIfInBounds_toArray, List.set_cons_zero, List.set_cons_succ]
  refine wpAnyH_take (i := 28) (oi := ⟨some 44, Op.binOp BinOp.eql 22 (Operand.tmp 35) (Operand.tmp 43) 22, 4, _, #[{ on := 19, ground := Ground.data }, { on := 27, ground := Ground.data }, { on := 12, ground := Ground.guard }], some (12, true)⟩) (v := ?_) rfl (by kernel_rfl) (by kernel_rfl) (by kernel_rfl) (fun _ _ _ h => h) (Or.inl ⟨by rfl, ?_⟩) hHeld ?_
  rotate_left
  · (intro wz hSw; go_simp; try (with_reducible rfl))
  try simp only [Act.put, List.setIfInBounds_toArray, List.set_cons_zero, List.set_cons_succ]
  refine wpAnyH_take (i := 29) (oi := ⟨some 45, Op.pick (Operand.tmp 28) (Operand.tmp 44) (Operand.const (Value.bool false)), 4, _, #[{ on := 12, ground := Ground.data }, { on := 28, ground := Ground.data }], none⟩) (v := ?_) rfl (by kernel_rfl) (by kernel_rfl) (by kernel_rfl) (fun _ _ _ h => h) (Or.inl ⟨by rfl, ?_⟩) hHeld ?_
  rotate_left
  · (intro wz hSw; go_simp; try (with_reducible rfl))
  try simp only [Act.put, List.setIfInBounds_toArray, List.set_cons_zero, List.set_cons_succ]
  refine wpAnyH_take (i := 30) (oi := ⟨some 46, Op.move (Operand.tmp 45), 4, _, #[{ on := 29, ground := Ground.data }, { on := 27, ground := Ground.chain }], none⟩) (v := ?_) rfl (by kernel_rfl) (by kernel_rfl) (by kernel_rfl) (fun _ _ _ h => h) (Or.inl ⟨by rfl, ?_⟩) hHeld ?_
  rotate_left
  · (intro wz hSw; go_simp; try (with_reducible rfl))
  try simp only [Act.put, List.setIfInBounds_toArray, List.set_cons_zero, List.set_cons_succ]
  refine wpAnyH_ready (rs := [31]) (by kernel_rfl) (by simp) ?_
  refine AllReadyH.cons (o := ⟨some 47, Op.call { callee := Callee.value (Operand.func 8), args := #[], argTypes := #[] }, 4, _, #[{ on := 30, ground := Ground.chain }, { on := 30, ground := Ground.guard }], some (30, true)⟩) rfl (fun K hK => ?_) AllReadyH.nil
  go_simp
  go_at_call 8
  with_reducible refine (awake_any _).mono ?_
  rintro e w9 ⟨rfl, hb1⟩
  refine hK.out _ _ (⟨THolds.next hHeld.1 hb1, hHeld.2.below hb1 hHeld.2.lt⟩) (fun hH => ?_)
  clear hHeld hK K hb1
  have hHeld := hH
  clear hH
  try simp only [Act.put, List.setIfInBounds_toArray, List.set_cons_zero, List.set_cons_succ]
  refine wpAnyH_take (i := 32) (oi := ⟨some 48, Op.pick (Operand.tmp 46) (Operand.tmp 47) (Operand.const (Value.bool false)), 4, _, #[{ on := 30, ground := Ground.data }, { on := 31, ground := Ground.data }], none⟩) (v := ?_) rfl (by kernel_rfl) (by kernel_rfl) (by kernel_rfl) (fun _ _ _ h => h) (Or.inl ⟨by rfl, ?_⟩) hHeld ?_
  rotate_left
  · (intro wz hSw; go_simp; try (with_reducible rfl))
  try simp only [Act.put, List.setIfInBounds_toArray, List.set_cons_zero, List.set_cons_succ]
  refine wpAnyH_take (i := 33) (oi := ⟨some 4, Op.assign (Operand.tmp 48), 4, _, #[{ on := 32, ground := Ground.data }, { on := 31, ground := Ground.chain }, { on := 0, ground := Ground.phase }, { on := 1, ground := Ground.phase }, { on := 2, ground := Ground.phase }, { on := 3, ground := Ground.phase }, { on := 4, ground := Ground.phase }, { on := 5, ground := Ground.phase }, { on := 6, ground := Ground.phase }, { on := 7, ground := Ground.phase }, { on := 8, ground := Ground.phase }, { on := 9, ground := Ground.phase }, { on := 10, ground := Ground.phase }, { on := 11, ground := Ground.phase }, { on := 12, ground := Ground.phase }, { on := 13, ground := Ground.phase }, { on := 14, ground := Ground.phase }, { on := 15, ground := Ground.phase }, { on := 16, ground := Ground.phase }, { on := 17, ground := Ground.phase }, { on := 18, ground := Ground.phase }, { on := 19, ground := Ground.phase }, { on := 20, ground := Ground.phase }, { on := 21, ground := Ground.phase }, { on := 22, ground := Ground.phase }, { on := 23, ground := Ground.phase }, { on := 24, ground := Ground.phase }, { on := 25, ground := Ground.phase }, { on := 26, ground := Ground.phase }, { on := 27, ground := Ground.phase }, { on := 28, ground := Ground.phase }, { on := 29, ground := Ground.phase }, { on := 30, ground := Ground.phase }, { on := 31, ground := Ground.phase }, { on := 32, ground := Ground.phase }], none⟩) (v := ?_) rfl (by kernel_rfl) (by kernel_rfl) (by kernel_rfl) (fun _ _ _ h => h) (Or.inl ⟨by rfl, ?_⟩) hHeld ?_
  rotate_left
  · (intro wz hSw; go_simp; try (with_reducible rfl))
  try simp only [Act.put, List.setIfInBounds_toArray, List.set_cons_zero, List.set_cons_succ]
  refine wpAnyH_done (by kernel_rfl) ?_ _
  go_wp2
  go_ret
  exact ⟨rfl, hHeld.1.below⟩
theorem crcParts_walk (l1 l2 : List UInt8) (w : World) :
    Calls Try.prog 5 #[.string ⟨l1.toArray⟩, .string ⟨l2.toArray⟩] w fun e w' => e = .returned (.bool true) ∧ Below w.heap.size w w' := by
  by_cases h : l1.length ≤ 5000
  · by_cases k : l2.length ≤ 5000
    · exact crcParts_near l1 l2 w h k
    · exact crcParts_far1 l1 l2 w h (by omega)
  · exact crcParts_far0 l1 l2 w (by omega)

namespace CrcParts
set_option maxRecDepth 100000 in
theorem lifted (os : Os) (started : os.Started) (H : Type) (enc : TypeId × Value → H) :
    ReturnsInHanded {} Try.checked os 5 .any (Rows.crcPartsSpec.pre6 enc Try.prog Try.f5 Rows.crcPartsRow.domain false) (Rows.crcPartsSpec.post enc Try.prog Try.f5 false true false false) := by
  refine law_sized (C := Try.checked) (tb := 4) ownP started (by kernel_rfl) Try.func5
    (ChangeSpec.witness6 (enc := enc) (C := Try.checked) false ⟨#[], #[.string ⟨#[]⟩, .string ⟨#[]⟩], []⟩ 8 (by kernel_rfl) (by kernel_rfl) (by kernel_rfl) (by kernel_rfl))
    laidP (by kernel_rfl) rfl (by kernel_rfl) Try.underlying4 (by intro ds h; match ds, h with | [_, _], _ => rfl) ?_
  intro W base args ds p hval0 hA0 hlt _
  have hval : ∀ (j : Nat) t v, Try.f5.params[j]? = some t → args[j]? = some v → Value.okWide Try.prog W .any base t v := hval0
  have hA : DataW.TrodAll enc Try.prog W 0 (fun _ => true) true Try.f5.params.toList args.toList ds p := hA0
  rw [Try.params5] at hA hval
  obtain ⟨v0, v1, d0, d1, p0, p1, rfl, rfl, rfl, h0, h1⟩ := trodAll_two hA
  obtain ⟨l1, rfl, rfl⟩ := open_bytes Try.underlying9 (hval 0 9 v0 rfl rfl) h0
  obtain ⟨l2, rfl, rfl⟩ := open_bytes Try.underlying9 (hval 1 9 v1 rfl rfl) h1
  exact crcParts_walk l1 l2 W

theorem holds : Rows.CrcPartsSaid :=
  OpenClaim.holds_of_wide 5 Try.f5 rfl rfl rfl rfl rfl rfl rfl ⟨rfl, rfl, rfl, rfl, rfl⟩ rfl rfl rfl rfl rfl (by kernel_rfl) Try.func5 (by kernel_rfl)
    (of_decide_eq_true (by kernel_rfl)) (by unfold Func.isWrapper; first | (rw [if_pos (by decide +kernel)]; kernel_rfl) | (rw [if_neg (by decide +kernel)]; exact ⟨rfl, rfl⟩))
    (fun os started H enc _ => lifted os started H enc)
end CrcParts
end Go.Proofs.Ytajhenjjhbecoaa
