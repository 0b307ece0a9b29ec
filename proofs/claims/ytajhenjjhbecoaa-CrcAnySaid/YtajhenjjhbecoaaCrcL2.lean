/-
  For any table at all, any bytes and any two numbers: Of, Noughts and Turned answer as the document's own do, and the layer's probe holds (CrcAny). No condition.
-/
import Derived.Test.YtajhenjjhbecoaaCrcL1
import Derived.Test.YtajhenjjhbecoaaArr
namespace Go.Proofs.Ytajhenjjhbecoaa
set_option linter.unusedSimpArgs false
set_option linter.unusedVariables false
open Go.ChangeShapes Go.WideShapes Go.ChangeAt Go.RowKit Go.Joins Go.Deep
set_option maxHeartbeats 2000000 in
/-- Beyond the sizes that the statement looks at: the probe alone. -/
theorem crcAny_far0 (T : List (BitVec 32)) (hT : T.length = 256) (l : List UInt8) (a b : Int) (w : World) (h : 5000 < l.length) :
    Calls Try.prog 4 #[.agg (tab T).toArray, .string ⟨l.toArray⟩, .agg #[.int .i64 a, .int .i64 b]] w fun e w' => e = .returned (.bool true) ∧ Below w.heap.size w w' := by
  have h1 : (5000 : Int) < l.length := by omega
  generalize tab T = C at *
  go_enter Try.func4, Try.ntmps4
  go_wp2_with (go_at_call 8; refine (awake_any _).mono ?_; rintro e w9 ⟨rfl, hb9⟩)
  go_ret
  exact ⟨rfl, below_box (below_box hb9)⟩
set_option maxHeartbeats 2000000 in
/-- Beyond the sizes that the statement looks at: the probe alone. -/
theorem crcAny_far1 (T : List (BitVec 32)) (hT : T.length = 256) (l : List UInt8) (a b : Int) (w : World) (h : l.length ≤ 5000) (k : 3000 < a) :
    Calls Try.prog 4 #[.agg (tab T).toArray, .string ⟨l.toArray⟩, .agg #[.int .i64 a, .int .i64 b]] w fun e w' => e = .returned (.bool true) ∧ Below w.heap.size w w' := by
  have h1 : ¬ (5000 : Int) < l.length := by omega
  generalize tab T = C at *
  go_enter Try.func4, Try.ntmps4
  go_wp2_with (go_at_call 8; refine (awake_any _).mono ?_; rintro e w9 ⟨rfl, hb9⟩)
  go_ret
  exact ⟨rfl, below_box (below_box hb9)⟩

structure TH2 (w wi : World) (g g2 : Nat) (C : List Value) (t : TypeId) (cs : Array Value) : Prop where
  one : THolds w wi g C
  two : Blk wi g2 t cs
section
variable {w wi w' : World} {g g2 : Nat} {C : List Value} {t : TypeId} {cs : Array Value}
theorem TH2.next (h : TH2 w wi g g2 C t cs) (hb : Below wi.heap.size wi w') : TH2 w w' g g2 C t cs := ⟨h.1.next hb, h.2.below hb h.2.lt⟩
theorem TH2.drew (h : TH2 w wi g g2 C t cs) : TH2 w wi.drew g g2 C t cs := ⟨h.1.drew, h.2⟩
end
theorem and_mask (b : Int) : ∃ c : BitVec 32, bits .and .i64 b 4294967295 = (c.toNat : Int) := by
  refine ⟨(BitVec.ofInt 64 b &&& BitVec.ofInt 64 4294967295).truncate 32, ?_⟩
  have e : bits .and .i64 b 4294967295 = IntKind.i64.wrap ((BitVec.ofInt 64 b &&& BitVec.ofInt 64 4294967295).toNat : Int) := rfl
  have h1 : (BitVec.ofInt 64 4294967295).toNat = 2 ^ 32 - 1 := by decide
  have h2 : (BitVec.ofInt 64 b &&& BitVec.ofInt 64 4294967295).toNat < 4294967296 := by
    rw [BitVec.toNat_and, h1, Nat.and_two_pow_sub_one_eq_mod]
    omega
  rw [e, IntKind.wrap_i64, BitVec.truncate, BitVec.toNat_setWidth]
  generalize (BitVec.ofInt 64 b &&& BitVec.ofInt 64 4294967295).toNat = x at *
  omega

set_option maxRecDepth 100000 in
set_option maxHeartbeats 8000000 in
theorem crcAny_near (T : List (BitVec 32)) (hT : T.length = 256) (l : List UInt8) (a b : Int) (w : World) (h : l.length ≤ 5000) (k : a ≤ 3000) :
    Calls Try.prog 4 #[.agg (tab T).toArray, .string ⟨l.toArray⟩, .agg #[.int .i64 a, .int .i64 b]] w fun e w' => e = .returned (.bool true) ∧ Below w.heap.size w w' := by
  have h1 : ¬ (5000 : Int) < l.length := by omega
  obtain ⟨c, hand⟩ := and_mask b
  have hz := w_lt c
  have Hof := Lib.hid fun w => of_any T hT l (by omega) w
  have hrm : ∀ w, Calls Try.prog 14 #[.agg (tab T).toArray, .int .u32 0, .string ⟨l.toArray⟩] w fun e w' => e = .returned (.int .u32 ((ofT T l).toNat : Int)) ∧ Below w.heap.size w w' := fun w => refMore_any T hT 0#32 l (by omega) w
  have Hrmore := Lib.hid hrm
  have Hn := Lib.hid fun w => noughts_any T hT c a w
  have Hrn := Lib.hid fun w => refNoughts_any T hT c a w
  have Ht := Lib.hid fun w => turned_any T hT c l a (by omega) w
  have Hrt := Lib.hid fun w => refTurned_any T hT c l a (by omega) w
  have Hi := Lib.hid (hi_tab (tab_256 hT))
  clear hrm hT h
  generalize ofT T l = s at *
  generalize noughtsT T c a = m at *
  generalize turnedT T c l a = m2 at *
  generalize tab T = C at *
  have hz0 : (0 : Int) ≤ (c.toNat : Int) := by omega
  generalize (c.toNat : Int) = z at *
  have H0 : Hid (TH2 w ((w.alloc (.cells C.toArray 24)).alloc (.cells #[.int .i64 a, .int .i64 b] 30)) w.heap.size (w.heap.size + 1) C 30 #[.int .i64 a, .int .i64 b]) :=
    Lib.hid ⟨(tholds_new w C _).grow _, by simpa using Blk.new (w.alloc (.cells C.toArray 24)) 30 #[.int .i64 a, .int .i64 b]⟩
  go_enter Try.func4, Try.ntmps4
  go_wp2_with fail
  have hi := Hi.out
  have hu := Try.underlying24
  generalize hg : w.heap.size = g at H0 ⊢
  have Hg := Lib.hid hg
  clear hg
  refine wp_region_held_drew (S := (fun w9 => TH2 w w9 g (g + 1) C 30 #[.int .i64 a, .int .i64 b])) (by kernel_rfl) (H0.out.drew) (fun hHeld => ?_)
  refine wpAnyH_take (i := 0) (oi := ⟨some 21, Op.load 24 (Operand.tmp 3), 24, _, #[], none⟩) (v := .agg C.toArray) rfl (by kernel_rfl) (by kernel_rfl) (by kernel_rfl) (fun _ _ _ h => h) (yieldsIf_load_mid (by rfl) _ _ rfl _ _ rfl _ _ (fun _ h => h.1.cells) hu rfl hi) hHeld ?_
  try simp only [Act.put, List.setIfInBounds_toArray, List.set_cons_zero, List.set_cons_succ]
  refine wpAnyH_take (i := 3) (oi := ⟨some 24, Op.load 24 (Operand.tmp 3), 24, _, #[], none⟩) (v := .agg C.toArray) rfl (by kernel_rfl) (by kernel_rfl) (by kernel_rfl) (fun _ _ _ h => h) (yieldsIf_load_mid (by rfl) _ _ rfl _ _ rfl _ _ (fun _ h => h.1.cells) hu rfl hi) hHeld ?_
  try simp only [Act.put, List.setIfInBounds_toArray, List.set_cons_zero, List.set_cons_succ]
  refine wpAnyH_take (i := 1) (oi := ⟨some 22, Op.move (Operand.tmp 1), 9, _, #[], none⟩) (v := ?_) rfl (by kernel_rfl) (by kernel_rfl) (by kernel_rfl) (fun _ _ _ h => h) (Or.inl ⟨by rfl, ?_⟩) hHeld ?_
  rotate_left
  · (intro wz hSw; go_simp; try (with_reducible rfl))
  try simp only [Act.put, List.setIfInBounds_toArray, List.set_cons_zero, List.set_cons_succ]
  refine wpAnyH_take (i := 4) (oi := ⟨some 25, Op.move (Operand.tmp 1), 9, _, #[], none⟩) (v := ?_) rfl (by kernel_rfl) (by kernel_rfl) (by kernel_rfl) (fun _ _ _ h => h) (Or.inl ⟨by rfl, ?_⟩) hHeld ?_
  rotate_left
  · (intro wz hSw; go_simp; try (with_reducible rfl))
  try simp only [Act.put, List.setIfInBounds_toArray, List.set_cons_zero, List.set_cons_succ]
  refine wpAnyH_ready (rs := [2]) (by kernel_rfl) (by simp) ?_
  refine AllReadyH.cons (o := ⟨some 23, Op.call { callee := Callee.value (Operand.func 11), args := #[Operand.tmp 21, Operand.tmp 22], argTypes := #[24, 9] }, 22, _, #[{ on := 0, ground := Ground.data }, { on := 1, ground := Ground.data }], none⟩) rfl (fun K hK => ?_) AllReadyH.nil
  go_simp
  go_at_call 11
  with_reducible refine (Hof.out _).mono ?_
  rintro e w9 ⟨rfl, hb1⟩
  refine hK.out _ _ (hHeld.next hb1) (fun hH => ?_)
  clear hHeld hK K hb1
  have hHeld := hH
  clear hH
  try simp only [Act.put, List.setIfInBounds_toArray, List.set_cons_zero, List.set_cons_succ]
  refine wpAnyH_ready (rs := [5]) (by kernel_rfl) (by simp) ?_
  refine AllReadyH.cons (o := ⟨some 26, Op.call { callee := Callee.value (Operand.func 14), args := #[Operand.tmp 24, Operand.const (Value.int IntKind.u32 0), Operand.tmp 25], argTypes := #[24, 22, 9] }, 22, _, #[{ on := 3, ground := Ground.data }, { on := 4, ground := Ground.data }, { on := 2, ground := Ground.chain }], none⟩) rfl (fun K hK => ?_) AllReadyH.nil
  go_simp
  go_at_call 14
  with_reducible refine (Hrmore.out _).mono ?_
  rintro e w9 ⟨rfl, hb1⟩
  refine hK.out _ _ (hHeld.next hb1) (fun hH => ?_)
  clear hHeld hK K hb1
  have hHeld := hH
  clear hH
  try simp only [Act.put, List.setIfInBounds_toArray, List.set_cons_zero, List.set_cons_succ]
  refine wpAnyH_take (i := 6) (oi := ⟨some 27, Op.binOp BinOp.eql 22 (Operand.tmp 23) (Operand.tmp 26) 22, 4, _, #[{ on := 2, ground := Ground.data }, { on := 5, ground := Ground.data }], none⟩) (v := ?_) rfl (by kernel_rfl) (by kernel_rfl) (by kernel_rfl) (fun _ _ _ h => h) (Or.inl ⟨by rfl, ?_⟩) hHeld ?_
  rotate_left
  · (intro wz hSw; go_simp; try (with_reducible rfl))
  try simp only [Act.put, List.setIfInBounds_toArray, List.set_cons_zero, List.set_cons_succ]
  refine wpAnyH_take (i := 7) (oi := ⟨some 28, Op.move (Operand.tmp 27), 4, _, #[{ on := 6, ground := Ground.data }, { on := 5, ground := Ground.chain }], none⟩) (v := ?_) rfl (by kernel_rfl) (by kernel_rfl) (by kernel_rfl) (fun _ _ _ h => h) (Or.inl ⟨by rfl, ?_⟩) hHeld ?_
  rotate_left
  · (intro wz hSw; go_simp; try (with_reducible rfl))
  try simp only [Act.put, List.setIfInBounds_toArray, List.set_cons_zero, List.set_cons_succ]
  refine wpAnyH_take (i := 8) (oi := ⟨some 29, Op.load 24 (Operand.tmp 3), 24, _, #[{ on := 7, ground := Ground.guard }], some (7, true)⟩) (v := .agg C.toArray) rfl (by kernel_rfl) (by kernel_rfl) (by kernel_rfl) (fun _ _ _ h => h) (yieldsIf_load_mid (by rfl) _ _ rfl _ _ rfl _ _ (fun _ h => h.1.cells) hu rfl hi) hHeld ?_
  try simp only [Act.put, List.setIfInBounds_toArray, List.set_cons_zero, List.set_cons_succ]
  refine wpAnyH_take (i := 13) (oi := ⟨some 34, Op.load 24 (Operand.tmp 3), 24, _, #[{ on := 7, ground := Ground.guard }], some (7, true)⟩) (v := .agg C.toArray) rfl (by kernel_rfl) (by kernel_rfl) (by kernel_rfl) (fun _ _ _ h => h) (yieldsIf_load_mid (by rfl) _ _ rfl _ _ rfl _ _ (fun _ h => h.1.cells) hu rfl hi) hHeld ?_
  try simp only [Act.put, List.setIfInBounds_toArray, List.set_cons_zero, List.set_cons_succ]
  refine wpAnyH_take (i := 9) (oi := ⟨some 30, Op.move (Operand.tmp 7), 22, _, #[{ on := 7, ground := Ground.guard }], some (7, true)⟩) (v := ?_) rfl (by kernel_rfl) (by kernel_rfl) (by kernel_rfl) (fun _ _ _ h => h) (Or.inl ⟨by rfl, ?_⟩) hHeld ?_
  rotate_left
  · (intro wz hSw; go_simp; try (with_reducible rfl))
  try simp only [Act.put, List.setIfInBounds_toArray, List.set_cons_zero, List.set_cons_succ]
  refine wpAnyH_take (i := 10) (oi := ⟨some 31, Op.indexAddr 30 (Operand.tmp 5) (Operand.const (Value.int IntKind.i64 0)), 0, _, #[{ on := 7, ground := Ground.guard }], some (7, true)⟩) (v := ?_) rfl (by kernel_rfl) (by kernel_rfl) (by kernel_rfl) (fun _ _ _ h => h) (Or.inl ⟨by rfl, ?_⟩) hHeld ?_
  rotate_left
  · (intro wz hSw; go_simp; try (with_reducible rfl))
  try simp only [Act.put, List.setIfInBounds_toArray, List.set_cons_zero, List.set_cons_succ]
  refine wpAnyH_take (i := 11) (oi := ⟨some 32, Op.load 3 (Operand.tmp 31), 3, _, #[{ on := 10, ground := Ground.data }, { on := 7, ground := Ground.guard }], some (7, true)⟩) (v := ?_) rfl (by kernel_rfl) (by kernel_rfl) (by kernel_rfl) (fun _ _ _ h => h) (Or.inl ⟨by rfl, ?_⟩) hHeld ?_
  rotate_left
  · (intro wz hSw; have q1 := hSw.2.two.1; go_simp; try (with_reducible rfl))
  try simp only [Act.put, List.setIfInBounds_toArray, List.set_cons_zero, List.set_cons_succ]
  refine wpAnyH_take (i := 14) (oi := ⟨some 35, Op.move (Operand.tmp 7), 22, _, #[{ on := 7, ground := Ground.guard }], some (7, true)⟩) (v := ?_) rfl (by kernel_rfl) (by kernel_rfl) (by kernel_rfl) (fun _ _ _ h => h) (Or.inl ⟨by rfl, ?_⟩) hHeld ?_
  rotate_left
  · (intro wz hSw; go_simp; try (with_reducible rfl))
  try simp only [Act.put, List.setIfInBounds_toArray, List.set_cons_zero, List.set_cons_succ]
  refine wpAnyH_take (i := 15) (oi := ⟨some 36, Op.indexAddr 30 (Operand.tmp 5) (Operand.const (Value.int IntKind.i64 0)), 0, _, #[{ on := 7, ground := Ground.guard }], some (7, true)⟩) (v := ?_) rfl (by kernel_rfl) (by kernel_rfl) (by kernel_rfl) (fun _ _ _ h => h) (Or.inl ⟨by rfl, ?_⟩) hHeld ?_
  rotate_left
  · (intro wz hSw; go_simp; try (with_reducible rfl))
  try simp only [Act.put, List.setIfInBounds_toArray, List.set_cons_zero, List.set_cons_succ]
  refine wpAnyH_take (i := 16) (oi := ⟨some 37, Op.load 3 (Operand.tmp 36), 3, _, #[{ on := 15, ground := Ground.data }, { on := 7, ground := Ground.guard }], some (7, true)⟩) (v := ?_) rfl (by kernel_rfl) (by kernel_rfl) (by kernel_rfl) (fun _ _ _ h => h) (Or.inl ⟨by rfl, ?_⟩) hHeld ?_
  rotate_left
  · (intro wz hSw; have q1 := hSw.2.two.1; go_simp; try (with_reducible rfl))
  try simp only [Act.put, List.setIfInBounds_toArray, List.set_cons_zero, List.set_cons_succ]
  refine wpAnyH_ready (rs := [12]) (by kernel_rfl) (by simp) ?_
  refine AllReadyH.cons (o := ⟨some 33, Op.call { callee := Callee.value (Operand.func 15), args := #[Operand.tmp 29, Operand.tmp 30, Operand.tmp 32], argTypes := #[24, 22, 3] }, 22, _, #[{ on := 8, ground := Ground.data }, { on := 9, ground := Ground.data }, { on := 11, ground := Ground.data }, { on := 7, ground := Ground.chain }, { on := 7, ground := Ground.guard }], some (7, true)⟩) rfl (fun K hK => ?_) AllReadyH.nil
  go_simp
  go_at_call 15
  with_reducible refine (Hn.out _).mono ?_
  rintro e w9 ⟨rfl, hb1⟩
  refine hK.out _ _ (hHeld.next hb1) (fun hH => ?_)
  clear hHeld hK K hb1
  have hHeld := hH
  clear hH
  try simp only [Act.put, List.setIfInBounds_toArray, List.set_cons_zero, List.set_cons_succ]
  refine wpAnyH_ready (rs := [17]) (by kernel_rfl) (by simp) ?_
  refine AllReadyH.cons (o := ⟨some 38, Op.call { callee := Callee.value (Operand.func 16), args := #[Operand.tmp 34, Operand.tmp 35, Operand.tmp 37], argTypes := #[24, 22, 3] }, 22, _, #[{ on := 13, ground := Ground.data }, { on := 14, ground := Ground.data }, { on := 16, ground := Ground.data }, { on := 12, ground := Ground.chain }, { on := 7, ground := Ground.guard }], some (7, true)⟩) rfl (fun K hK => ?_) AllReadyH.nil
  go_simp
  go_at_call 16
  with_reducible refine (Hrn.out _).mono ?_
  rintro e w9 ⟨rfl, hb1⟩
  refine hK.out _ _ (hHeld.next hb1) (fun hH => ?_)
  clear hHeld hK K hb1
  have hHeld := hH
  clear hH
  try simp only [Act.put, List.setIfInBounds_toArray, List.set_cons_zero, List.set_cons_succ]
  refine wpAnyH_take (i := 18) (oi := ⟨some 39, Op.binOp BinOp.eql 22 (Operand.tmp 33) (Operand.tmp 38) 22, 4, _, #[{ on := 12, ground := Ground.data }, { on := 17, ground := Ground.data }, { on := 7, ground := Ground.guard }], some (7, true)⟩) (v := ?_) rfl (by kernel_rfl) (by kernel_rfl) (by kernel_rfl) (fun _ _ _ h => h) (Or.inl ⟨by rfl, ?_⟩) hHeld ?_
  rotate_left
  · (intro wz hSw; go_simp; try (with_reducible rfl))
  try simp only [Act.put, List.setIfInBounds_toArray, List.set_cons_zero, List.set_cons_succ]
  refine wpAnyH_take (i := 19) (oi := ⟨some 40, Op.pick (Operand.tmp 28) (Operand.tmp 39) (Operand.const (Value.bool false)), 4, _, #[{ on := 7, ground := Ground.data }, { on := 18, ground := Ground.data }], none⟩) (v := ?_) rfl (by kernel_rfl) (by kernel_rfl) (by kernel_rfl) (fun _ _ _ h => h) (Or.inl ⟨by rfl, ?_⟩) hHeld ?_
  rotate_left
  · (intro wz hSw; go_simp; try (with_reducible rfl))
  try simp only [Act.put, List.setIfInBounds_toArray, List.set_cons_zero, List.set_cons_succ]
  refine wpAnyH_take (i := 20) (oi := ⟨some 41, Op.move (Operand.tmp 40), 4, _, #[{ on := 19, ground := Ground.data }, { on := 17, ground := Ground.chain }], none⟩) (v := ?_) rfl (by kernel_rfl) (by kernel_rfl) (by kernel_rfl) (fun _ _ _ h => h) (Or.inl ⟨by rfl, ?_⟩) hHeld ?_
  rotate_left
  · (intro wz hSw; go_simp; try (with_reducible rfl))
  try simp only [Act.put, List.setIfInBounds_toArray, List.set_cons_zero, List.set_cons_succ]
  refine wpAnyH_take (i := 21) (oi := ⟨some 42, Op.load 24 (Operand.tmp 3), 24, _, #[{ on := 20, ground := Ground.guard }], some (20, true)⟩) (v := .agg C.toArray) rfl (by kernel_rfl) (by kernel_rfl) (by kernel_rfl) (fun _ _ _ h => h) (yieldsIf_load_mid (by rfl) _ _ rfl _ _ rfl _ _ (fun _ h => h.1.cells) hu rfl hi) hHeld ?_
  try simp only [Act.put, List.setIfInBounds_toArray, List.set_cons_zero, List.set_cons_succ]
  refine wpAnyH_take (i := 27) (oi := ⟨some 48, Op.load 24 (Operand.tmp 3), 24, _, #[{ on := 20, ground := Ground.guard }], some (20, true)⟩) (v := .agg C.toArray) rfl (by kernel_rfl) (by kernel_rfl) (by kernel_rfl) (fun _ _ _ h => h) (yieldsIf_load_mid (by rfl) _ _ rfl _ _ rfl _ _ (fun _ h => h.1.cells) hu rfl hi) hHeld ?_
  try simp only [Act.put, List.setIfInBounds_toArray, List.set_cons_zero, List.set_cons_succ]
  refine wpAnyH_take (i := 22) (oi := ⟨some 43, Op.move (Operand.tmp 7), 22, _, #[{ on := 20, ground := Ground.guard }], some (20, true)⟩) (v := ?_) rfl (by kernel_rfl) (by kernel_rfl) (by kernel_rfl) (fun _ _ _ h => h) (Or.inl ⟨by rfl, ?_⟩) hHeld ?_
  rotate_left
  · (intro wz hSw; go_simp; try (with_reducible rfl))
  try simp only [Act.put, List.setIfInBounds_toArray, List.set_cons_zero, List.set_cons_succ]
  refine wpAnyH_take (i := 23) (oi := ⟨some 44, Op.move (Operand.tmp 1), 9, _, #[{ on := 20, ground := Ground.guard }], some (20, true)⟩) (v := ?_) rfl (by kernel_rfl) (by kernel_rfl) (by kernel_rfl) (fun _ _ _ h => h) (Or.inl ⟨by rfl, ?_⟩) hHeld ?_
  rotate_left
  · (intro wz hSw; go_simp; try (with_reducible rfl))
  try simp only [Act.put, List.setIfInBounds_toArray, List.set_cons_zero, List.set_cons_succ]
  refine wpAnyH_take (i := 24) (oi := ⟨some 45, Op.indexAddr 30 (Operand.tmp 5) (Operand.const (Value.int IntKind.i64 0)), 0, _, #[{ on := 20, ground := Ground.guard }], some (20, true)⟩) (v := ?_) rfl (by kernel_rfl) (by kernel_rfl) (by kernel_rfl) (fun _ _ _ h => h) (Or.inl ⟨by rfl, ?_⟩) hHeld ?_
  rotate_left
  · (intro wz hSw; go_simp; try (with_reducible rfl))
  try simp only [Act.put, List.setIfInBounds_toArray, List.set_cons_zero, List.set_cons_succ]
  refine wpAnyH_take (i := 25) (oi := ⟨some 46, Op.load 3 (Operand.tmp 45), 3, _, #[{ on := 24, ground := Ground.data }, { on := 20, ground := Ground.guard }], some (20, true)⟩) (v := ?_) rfl (by kernel_rfl) (by kernel_rfl) (by kernel_rfl) (fun _ _ _ h => h) (Or.inl ⟨by rfl, ?_⟩) hHeld ?_
  rotate_left
  · (intro wz hSw; have q1 := hSw.2.two.1; go_simp; try (with_reducible rfl))
  try simp only [Act.put, List.setIfInBounds_toArray, List.set_cons_zero, List.set_cons_succ]
  refine wpAnyH_take (i := 28) (oi := ⟨some 49, Op.move (Operand.tmp 7), 22, _, #[{ on := 20, ground := Ground.guard }], some (20, true)⟩) (v := ?_) rfl (by kernel_rfl) (by kernel_rfl) (by kernel_rfl) (fun _ _ _ h => h) (Or.inl ⟨by rfl, ?_⟩) hHeld ?_
  rotate_left
  · (intro wz hSw; go_simp; try (with_reducible rfl))
  try simp only [Act.put, List.setIfInBounds_toArray, List.set_cons_zero, List.set_cons_succ]
  refine wpAnyH_take (i := 29) (oi := ⟨some 50, Op.move (Operand.tmp 1), 9, _, #[{ on := 20, ground := Ground.guard }], some (20, true)⟩) (v := ?_) rfl (by kernel_rfl) (by kernel_rfl) (by kernel_rfl) (fun _ _ _ h => h) (Or.inl ⟨by rfl, ?_⟩) hHeld ?_
  rotate_left
  · (intro wz hSw; go_simp; try (with_reducible rfl))
  try simp only [Act.put, List.setIfInBounds_toArray, List.set_cons_zero, List.set_cons_succ]
  refine wpAnyH_take (i := 30) (oi := ⟨some 51, Op.indexAddr 30 (Operand.tmp 5) (Operand.const (Value.int IntKind.i64 0)), 0, _, #[{ on := 20, ground := Ground.guard }], some (20, true)⟩) (v := ?_) rfl (by kernel_rfl) (by kernel_rfl) (by kernel_rfl) (fun _ _ _ h => h) (Or.inl ⟨by rfl, ?_⟩) hHeld ?_
  rotate_left
  · (intro wz hSw; go_simp; try (with_reducible rfl))
  try simp only [Act.put, List.setIfInBounds_toArray, List.set_cons_zero, List.set_cons_succ]
  refine wpAnyH_take (i := 31) (oi := ⟨some 52, Op.load 3 (Operand.tmp 51), 3, _, #[{ on := 30, ground := Ground.data }, { on := 20, ground := Ground.guard }], some (20, true)⟩) (v := ?_) rfl (by kernel_rfl) (by kernel_rfl) (by kernel_rfl) (fun _ _ _ h => h) (Or.inl ⟨by rfl, ?_⟩) hHeld ?_
  rotate_left
  · (intro wz hSw; have q1 := hSw.2.two.1; go_simp; try (with_reducible rfl))
  try simp only [Act.put, List.setIfInBounds_toArray, List.set_cons_zero, List.set_cons_succ]
  refine wpAnyH_ready (rs := [26]) (by kernel_rfl) (by simp) ?_
  refine AllReadyH.cons (o := ⟨some 47, Op.call { callee := Callee.value (Operand.func 17), args := #[Operand.tmp 42, Operand.tmp 43, Operand.tmp 44, Operand.tmp 46], argTypes := #[24, 22, 9, 3] }, 22, _, #[{ on := 21, ground := Ground.data }, { on := 22, ground := Ground.data }, { on := 23, ground := Ground.data }, { on := 25, ground := Ground.data }, { on := 20, ground := Ground.chain }, { on := 20, ground := Ground.guard }], some (20, true)⟩) rfl (fun K hK => ?_) AllReadyH.nil
  go_simp
  go_at_call 17
  with_reducible refine (Ht.out _).mono ?_
  rintro e w9 ⟨rfl, hb1⟩
  refine hK.out _ _ (hHeld.next hb1) (fun hH => ?_)
  clear hHeld hK K hb1
  have hHeld := hH
  clear hH
  try simp only [Act.put, List.setIfInBounds_toArray, List.set_cons_zero, List.set_cons_succ]
  refine wpAnyH_ready (rs := [32]) (by kernel_rfl) (by simp) ?_
  refine AllReadyH.cons (o := ⟨some 53, Op.call { callee := Callee.value (Operand.func 18), args := #[Operand.tmp 48, Operand.tmp 49, Operand.tmp 50, Operand.tmp 52], argTypes := #[24, 22, 9, 3] }, 22, _, #[{ on := 27, ground := Ground.data }, { on := 28, ground := Ground.data }, { on := 29, ground := Ground.data }, { on := 31, ground := Ground.data }, { on := 26, ground := Ground.chain }, { on := 20, ground := Ground.guard }], some (20, true)⟩) rfl (fun K hK => ?_) AllReadyH.nil
  go_simp
  go_at_call 18
  with_reducible refine (Hrt.out _).mono ?_
  rintro e w9 ⟨rfl, hb1⟩
  refine hK.out _ _ (hHeld.next hb1) (fun hH => ?_)
  clear hHeld hK K hb1
  have hHeld := hH
  clear hH
  try simp only [Act.put, List.setIfInBounds_toArray, List.set_cons_zero, List.set_cons_succ]
  refine wpAnyH_take (i := 33) (oi := ⟨some 54, Op.binOp BinOp.eql 22 (Operand.tmp 47) (Operand.tmp 53) 22, 4, _, #[{ on := 26, ground := Ground.data }, { on := 32, ground := Ground.data }, { on := 20, ground := Ground.guard }], some (20, true)⟩) (v := ?_) rfl (by kernel_rfl) (by kernel_rfl) (by kernel_rfl) (fun _ _ _ h => h) (Or.inl ⟨by rfl, ?_⟩) hHeld ?_
  rotate_left
  · (intro wz hSw; go_simp; try (with_reducible rfl))
  try simp only [Act.put, List.setIfInBounds_toArray, List.set_cons_zero, List.set_cons_succ]
  refine wpAnyH_take (i := 34) (oi := ⟨some 55, Op.pick (Operand.tmp 41) (Operand.tmp 54) (Operand.const (Value.bool false)), 4, _, #[{ on := 20, ground := Ground.data }, { on := 33, ground := Ground.data }], none⟩) (v := ?_) rfl (by kernel_rfl) (by kernel_rfl) (by kernel_rfl) (fun _ _ _ h => h) (Or.inl ⟨by rfl, ?_⟩) hHeld ?_
  rotate_left
  · (intro wz hSw; go_simp; try (with_reducible rfl))
  try simp only [Act.put, List.setIfInBounds_toArray, List.set_cons_zero, List.set_cons_succ]
  refine wpAnyH_take (i := 35) (oi := ⟨some 56, Op.move (Operand.tmp 55), 4, _, #[{ on := 34, ground := Ground.data }, { on := 32, ground := Ground.chain }], none⟩) (v := ?_) rfl (by kernel_rfl) (by kernel_rfl) (by kernel_rfl) (fun _ _ _ h => h) (Or.inl ⟨by rfl, ?_⟩) hHeld ?_
  rotate_left
  · (intro wz hSw; go_simp; try (with_reducible rfl))
  try simp only [Act.put, List.setIfInBounds_toArray, List.set_cons_zero, List.set_cons_succ]
  refine wpAnyH_ready (rs := [36]) (by kernel_rfl) (by simp) ?_
  refine AllReadyH.cons (o := ⟨some 57, Op.call { callee := Callee.value (Operand.func 8), args := #[], argTypes := #[] }, 4, _, #[{ on := 35, ground := Ground.chain }, { on := 35, ground := Ground.guard }], some (35, true)⟩) rfl (fun K hK => ?_) AllReadyH.nil
  go_simp
  go_at_call 8
  with_reducible refine (awake_any _).mono ?_
  rintro e w9 ⟨rfl, hb1⟩
  refine hK.out _ _ (hHeld.next hb1) (fun hH => ?_)
  clear hHeld hK K hb1
  have hHeld := hH
  clear hH
  try simp only [Act.put, List.setIfInBounds_toArray, List.set_cons_zero, List.set_cons_succ]
  refine wpAnyH_take (i := 37) (oi := ⟨some 58, Op.pick (Operand.tmp 56) (Operand.tmp 57) (Operand.const (Value.bool false)), 4, _, #[{ on := 35, ground := Ground.data }, { on := 36, ground := Ground.data }], none⟩) (v := ?_) rfl (by kernel_rfl) (by kernel_rfl) (by kernel_rfl) (fun _ _ _ h => h) (Or.inl ⟨by rfl, ?_⟩) hHeld ?_
  rotate_left
  · (intro wz hSw; go_simp; try (with_reducible rfl))
  try simp only [Act.put, List.setIfInBounds_toArray, List.set_cons_zero, List.set_cons_succ]
  refine wpAnyH_take (i := 38) (oi := ⟨some 6, Op.assign (Operand.tmp 58), 4, _, #[{ on := 37, ground := Ground.data }, { on := 36, ground := Ground.chain }, { on := 0, ground := Ground.phase }, { on := 1, ground := Ground.phase }, { on := 2, ground := Ground.phase }, { on := 3, ground := Ground.phase }, { on := 4, ground := Ground.phase }, { on := 5, ground := Ground.phase }, { on := 6, ground := Ground.phase }, { on := 7, ground := Ground.phase }, { on := 8, ground := Ground.phase }, { on := 9, ground := Ground.phase }, { on := 10, ground := Ground.phase }, { on := 11, ground := Ground.phase }, { on := 12, ground := Ground.phase }, { on := 13, ground := Ground.phase }, { on := 14, ground := Ground.phase }, { on := 15, ground := Ground.phase }, { on := 16, ground := Ground.phase }, { on := 17, ground := Ground.phase }, { on := 18, ground := Ground.phase }, { on := 19, ground := Ground.phase }, { on := 20, ground := Ground.phase }, { on := 21, ground := Ground.phase }, { on := 22, ground := Ground.phase }, { on := 23, ground := Ground.phase }, { on := 24, ground := Ground.phase }, { on := 25, ground := Ground.phase }, { on := 26, ground := Ground.phase }, { on := 27, ground := Ground.phase }, { on := 28, ground := Ground.phase }, { on := 29, ground := Ground.phase }, { on := 30, ground := Ground.phase }, { on := 31, ground := Ground.phase }, { on := 32, ground := Ground.phase }, { on := 33, ground := Ground.phase }, { on := 34, ground := Ground.phase }, { on := 35, ground := Ground.phase }, { on := 36, ground := Ground.phase }, { on := 37, ground := Ground.phase }], none⟩) (v := ?_) rfl (by kernel_rfl) (by kernel_rfl) (by kernel_rfl) (fun _ _ _ h => h) (Or.inl ⟨by rfl, ?_⟩) hHeld ?_
  rotate_left
  · (intro wz hSw; go_simp; try (with_reducible rfl))
  try simp only [Act.put, List.setIfInBounds_toArray, List.set_cons_zero, List.set_cons_succ]
  refine wpAnyH_done (by kernel_rfl) ?_ _
  skip
  go_wp2
  go_ret
  exact ⟨rfl, hHeld.one.below⟩
theorem crcAny_walk (T : List (BitVec 32)) (hT : T.length = 256) (l : List UInt8) (a b : Int) (w : World) :
    Calls Try.prog 4 #[.agg (tab T).toArray, .string ⟨l.toArray⟩, .agg #[.int .i64 a, .int .i64 b]] w fun e w' => e = .returned (.bool true) ∧ Below w.heap.size w w' := by
  by_cases h : l.length ≤ 5000
  · by_cases k : a ≤ 3000
    · exact crcAny_near T hT l a b w h k
    · exact crcAny_far1 T hT l a b w h (by omega)
  · exact crcAny_far0 T hT l a b w (by omega)
/-- A table that came in. -/
theorem arr_tab {xs : List Int} (h : xs.length = 256) (hw : ∀ x ∈ xs, (Lit.int .u32 x).wf = true) : ∃ T : List (BitVec 32), T.length = 256 ∧ (xs.map (Value.int .u32)) = tab T := by
  refine ⟨xs.map fun x => BitVec.ofNat 32 x.toNat, by simpa using h, ?_⟩
  unfold tab
  rw [List.map_map]
  apply List.map_congr_left
  intro x hx
  obtain ⟨c, rfl⟩ := u32_bv (hw x hx)
  simp

namespace CrcAny
set_option maxRecDepth 100000 in
theorem lifted (os : Os) (started : os.Started) (H : Type) (enc : TypeId × Value → H) :
    ReturnsInHanded {} Try.checked os 4 .any (Rows.crcAnySpec.pre6 enc Try.prog Try.f4 Rows.crcAnyRow.domain false) (Rows.crcAnySpec.post enc Try.prog Try.f4 false true false false) := by
  refine law_sized (C := Try.checked) (tb := 4) ownP started (by kernel_rfl) Try.func4
    (ChangeSpec.witness6 (enc := enc) (C := Try.checked) false ⟨#[], #[.agg (tab (ents 0)).toArray, .string ⟨#[]⟩, .agg #[.int .i64 0, .int .i64 0]], []⟩ 8 (by kernel_rfl) (by kernel_rfl) (by kernel_rfl) (by kernel_rfl))
    laidP (by kernel_rfl) rfl (by kernel_rfl) Try.underlying4 (by intro ds h; match ds, h with | [_, _, _], _ => rfl) ?_
  intro W base args ds p hval0 hA0 hlt _
  have hval : ∀ (j : Nat) t v, Try.f4.params[j]? = some t → args[j]? = some v → Value.okWide Try.prog W .any base t v := hval0
  have hA : DataW.TrodAll enc Try.prog W 0 (fun _ => true) true Try.f4.params.toList args.toList ds p := hA0
  rw [Try.params4] at hA hval
  obtain ⟨v0, v1, v2, d0, d1, d2, p0, p1, p2, rfl, rfl, rfl, h0, h1, h2⟩ := trodAll_three hA
  obtain ⟨xs, ex, rfl, wx⟩ := open_arr Try.underlying24 Try.underlying22 (by kernel_rfl) (by kernel_rfl) (hval 0 24 v0 rfl rfl) h0
  obtain ⟨T, hT, eT⟩ := arr_tab ex wx
  obtain ⟨l, rfl, rfl⟩ := open_bytes Try.underlying9 (hval 1 9 v1 rfl rfl) h1
  obtain ⟨a, b, rfl, wa, wb⟩ := open_two Try.underlying30 Try.underlying3 (by kernel_rfl) (by kernel_rfl) (hval 2 30 v2 rfl rfl) h2
  rw [eT]
  exact crcAny_walk T hT l a b W

theorem holds : Rows.CrcAnySaid :=
  OpenClaim.holds_of_wide 4 Try.f4 rfl rfl rfl rfl rfl rfl rfl ⟨rfl, rfl, rfl, rfl, rfl⟩ rfl rfl rfl rfl rfl (by kernel_rfl) Try.func4 (by kernel_rfl)
    (of_decide_eq_true (by kernel_rfl)) (by unfold Func.isWrapper; first | (rw [if_pos (by decide +kernel)]; kernel_rfl) | (rw [if_neg (by decide +kernel)]; exact ⟨rfl, rfl⟩))
    (fun os started H enc _ => lifted os started H enc)
end CrcAny
end Go.Proofs.Ytajhenjjhbecoaa
