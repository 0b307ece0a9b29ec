/-
  Layer 5: the document's Noughts and Turned; what a region holds on to while its calls make memory: a table's cells in one block.
-/
import Derived.Test.YtajhenjjhbecoaaCrcV
namespace Go.Proofs.Ytajhenjjhbecoaa
set_option linter.unusedSimpArgs false
set_option linter.unusedVariables false
open Go.ChangeShapes Go.WideShapes Go.ChangeAt Go.RowKit Go.Joins Go.Deep

section
variable {P : Program} {ops : Array Oper} {Q : Exit → Act → World → Prop} {md : Region.Mode} {S S2 : World → Prop}
/-- A stronger condition may be held on to from any operation on. -/
theorem wpAnyH_stronger (hS : ∀ w, S2 w → S w) : ∀ {fuel : Nat} {listed : Array Bool} {a : Act} {w : World}, wpAnyH P md ops Q S2 fuel listed a w → wpAnyH P md ops Q S fuel listed a w
  | 0, _, _, _, h => h
  | _ + 1, _, _, _, h => ⟨h.1, fun i hi => wpOp_mono (fun _ _ h' => ⟨hS _ h'.1, wpAnyH_stronger hS h'.2⟩) (h.2 i hi)⟩
end

/-- A table lies in block g, and what was there before the call is as it was. -/
structure THolds (w wi : World) (g : Nat) (C : List Value) : Prop where
  old : w.heap.size ≤ g
  lt : g < wi.heap.size
  cells : wi.rangeAt g 0 C
  below : Below w.heap.size w wi
section
variable {w wi w' : World} {g : Nat} {C : List Value}
theorem THolds.drew (h : THolds w wi g C) : THolds w wi.drew g C := ⟨h.old, h.lt, h.cells, h.below.drew⟩
theorem THolds.next (h : THolds w wi g C) (hb : Below wi.heap.size wi w') : THolds w w' g C := by
  have hc : w'.rangeAt g 0 C := fun j v hv => (hb.cell (p := ⟨g, 0 + j, none⟩) h.lt).trans (h.cells j v hv)
  exact ⟨h.old, Nat.lt_of_lt_of_le h.lt hb.size, hc, h.below.trans (hb.mono h.below.size)⟩
theorem THolds.grow (h : THolds w wi g C) (o : Obj) : THolds w (wi.alloc o) g C := h.next ((Below.refl _ _).alloc (Nat.le_refl _) o)
theorem THolds.conds {wi : World} (h : THolds w wi g C) : wi.rangeAt g 0 C ∧ THolds w wi g C := ⟨h.cells, h⟩
theorem tholds_new (w : World) (C : List Value) (t : TypeId) : THolds w (w.alloc (.cells C.toArray t)) w.heap.size C :=
  ⟨Nat.le_refl _, by simp, range_new w C t, (Below.refl _ _).alloc (Nat.le_refl _) _⟩
end

set_option maxRecDepth 100000 in
set_option maxHeartbeats 4000000 in
theorem refNoughts_any (T : List (BitVec 32)) (hT : T.length = 256) (c : BitVec 32) (n : Int) (w : World) :
    Calls Try.prog 16 #[.agg (tab T).toArray, .int .u32 (c.toNat : Int), .int .i64 n] w fun e w' => e = .returned (.int .u32 ((noughtsT T c n).toNat : Int)) ∧ Below w.heap.size w w' := by
  have hm : ∀ w, Calls Try.prog 14 #[.agg (tab T).toArray, .int .u32 (c.toNat : Int), .string ⟨(no (cnt n)).toArray⟩] w fun e w' => e = .returned (.int .u32 ((noughtsT T c n).toNat : Int)) ∧ Below w.heap.size w w' :=
    fun w => refMore_any T hT c (no (cnt n)) (by rw [no_length]; unfold cnt; omega) w
  have hn := fun w => refNoughts_str n w
  have hi := hi_tab (tab_256 hT)
  have hu := Try.underlying24
  have Hm := Lib.hid hm
  have Hn := Lib.hid hn
  have H0 := Lib.hid (tholds_new w (tab T) 24)
  clear hm hn hT
  generalize no (cnt n) = D at *
  generalize noughtsT T c n = res at *
  generalize tab T = C at *
  go_enter Try.func16, Try.ntmps16
  go_wp2
  go_region_held3 (fun w' => w'.rangeAt w.heap.size 0 C ∧ THolds w w' w.heap.size C)
    (first | exact (THolds.next (show _ ∧ THolds w _ w.heap.size C by assumption).2 hb1).conds | exact H0.out.drew.conds)
    (first
      | (go_at_call 24; refine (Hn.out _).mono ?_; rintro e w' ⟨rfl, hb1⟩)
      | (go_at_call 14; refine (Hm.out _).mono ?_; rintro e w' ⟨rfl, hb1⟩))
  go_wp2
  go_ret
  exact ⟨rfl, (show _ ∧ THolds w _ w.heap.size C by assumption).2.below⟩

set_option maxRecDepth 100000 in
set_option maxHeartbeats 4000000 in
theorem refTurned_any (T : List (BitVec 32)) (hT : T.length = 256) (c : BitVec 32) (l : List UInt8) (n : Int) (hl : l.length ≤ 4611686018427387904) (w : World) :
    Calls Try.prog 18 #[.agg (tab T).toArray, .int .u32 (c.toNat : Int), .string ⟨l.toArray⟩, .int .i64 n] w fun e w' => e = .returned (.int .u32 ((turnedT T c l n).toNat : Int)) ∧ Below w.heap.size w w' := by
  have hr : ∀ w, Calls Try.prog 23 #[.agg (tab T).toArray, .int .u32 0, .string ⟨l.toArray⟩] w fun e w' => e = .returned (.int .u32 ((restT T 0#32 l).toNat : Int)) ∧ Below w.heap.size w w' := fun w => refRest_any T hT 0#32 l hl w
  have hr2 := fun w => refRest_any T hT (restT T 0#32 l) (no (cnt n)) (by rw [no_length]; unfold cnt; omega) w
  have hn := fun w => refNoughts_str n w
  have hx : bits .xor .u32 (c.toNat : Int) ((restT T (restT T 0#32 l) (no (cnt n))).toNat : Int) = ((turnedT T c l n).toNat : Int) := xor_w _ _
  have hi := hi_tab (tab_256 hT)
  have hu := Try.underlying24
  have Hr := Lib.hid hr
  have Hr2 := Lib.hid hr2
  have Hn := Lib.hid hn
  have H0 := Lib.hid (tholds_new w (tab T) 24)
  clear hr hr2 hn hT
  generalize turnedT T c l n = res at *
  generalize no (cnt n) = D at *
  generalize restT T (restT T 0#32 l) D = d2 at *
  generalize restT T 0#32 l = d at *
  generalize tab T = C at *
  go_enter Try.func18, Try.ntmps18
  go_wp2
  -- region of Turned
  refine wp_region_held_drew (S := (fun w1 => THolds w w1 w.heap.size C)) (by kernel_rfl) (H0.out.drew) (fun hHeld => ?_)
  refine wpAnyH_take (i := 1) (oi := ⟨some 10, Op.load 24 (Operand.tmp 4), 24, _, #[], none⟩) (v := .agg C.toArray) rfl (by kernel_rfl) (by kernel_rfl) (by kernel_rfl) (fun _ _ _ h => h) (yieldsIf_load_mid (by rfl) _ _ rfl _ _ rfl _ _ (fun _ h => h.cells) hu rfl hi) hHeld ?_
  try simp only [Act.put, List.setIfInBounds_toArray, List.set_cons_zero, List.set_cons_succ]
  refine wpAnyH_take (i := 2) (oi := ⟨some 11, Op.load 24 (Operand.tmp 4), 24, _, #[], none⟩) (v := .agg C.toArray) rfl (by kernel_rfl) (by kernel_rfl) (by kernel_rfl) (fun _ _ _ h => h) (yieldsIf_load_mid (by rfl) _ _ rfl _ _ rfl _ _ (fun _ h => h.cells) hu rfl hi) hHeld ?_
  try simp only [Act.put, List.setIfInBounds_toArray, List.set_cons_zero, List.set_cons_succ]
  refine wpAnyH_take (i := 0) (oi := ⟨some 9, Op.move (Operand.tmp 1), 22, _, #[], none⟩) (v := ?_) rfl (by kernel_rfl) (by kernel_rfl) (by kernel_rfl) (fun _ _ _ h => h) (Or.inl ⟨by rfl, ?_⟩) hHeld ?_
  rotate_left
  · (intro w1 hSw; go_simp; try (with_reducible rfl))
  try simp only [Act.put, List.setIfInBounds_toArray, List.set_cons_zero, List.set_cons_succ]
  refine wpAnyH_take (i := 3) (oi := ⟨some 12, Op.move (Operand.tmp 2), 9, _, #[], none⟩) (v := ?_) rfl (by kernel_rfl) (by kernel_rfl) (by kernel_rfl) (fun _ _ _ h => h) (Or.inl ⟨by rfl, ?_⟩) hHeld ?_
  rotate_left
  · (intro w1 hSw; go_simp; try (with_reducible rfl))
  try simp only [Act.put, List.setIfInBounds_toArray, List.set_cons_zero, List.set_cons_succ]
  refine wpAnyH_take (i := 5) (oi := ⟨some 14, Op.move (Operand.tmp 3), 3, _, #[], none⟩) (v := ?_) rfl (by kernel_rfl) (by kernel_rfl) (by kernel_rfl) (fun _ _ _ h => h) (Or.inl ⟨by rfl, ?_⟩) hHeld ?_
  rotate_left
  · (intro w1 hSw; go_simp; try (with_reducible rfl))
  try simp only [Act.put, List.setIfInBounds_toArray, List.set_cons_zero, List.set_cons_succ]
  refine wpAnyH_ready (rs := [4]) (by kernel_rfl) (by simp) ?_
  refine AllReadyH.cons (o := ⟨some 13, Op.call { callee := Callee.value (Operand.func 23), args := #[Operand.tmp 11, Operand.const (Value.int IntKind.u32 0), Operand.tmp 12], argTypes := #[24, 22, 9] }, 22, _, #[{ on := 2, ground := Ground.data }, { on := 3, ground := Ground.data }], none⟩) rfl (fun K hK => ?_) AllReadyH.nil
  go_simp
  go_at_call 23
  with_reducible refine (Hr.out _).mono ?_
  rintro e w1 ⟨rfl, hb1⟩
  refine hK.out _ _ (THolds.next hHeld hb1) (fun hH => ?_)
  clear hHeld hK K hb1
  have hHeld := hH
  clear hH
  try simp only [Act.put, List.setIfInBounds_toArray, List.set_cons_zero, List.set_cons_succ]
  refine wpAnyH_ready (rs := [6]) (by kernel_rfl) (by simp) ?_
  refine AllReadyH.cons (o := ⟨some 15, Op.call { callee := Callee.value (Operand.func 24), args := #[Operand.tmp 14], argTypes := #[3] }, 9, _, #[{ on := 5, ground := Ground.data }, { on := 4, ground := Ground.chain }], none⟩) rfl (fun K hK => ?_) AllReadyH.nil
  go_simp
  go_at_call 24
  with_reducible refine (Hn.out _).mono ?_
  rintro e w1 ⟨rfl, hb1⟩
  refine hK.out _ _ (THolds.next hHeld hb1) (fun hH => ?_)
  clear hHeld hK K hb1
  have hHeld := hH
  clear hH
  try simp only [Act.put, List.setIfInBounds_toArray, List.set_cons_zero, List.set_cons_succ]
  refine wpAnyH_ready (rs := [7]) (by kernel_rfl) (by simp) ?_
  refine AllReadyH.cons (o := ⟨some 16, Op.call { callee := Callee.value (Operand.func 23), args := #[Operand.tmp 10, Operand.tmp 13, Operand.tmp 15], argTypes := #[24, 22, 9] }, 22, _, #[{ on := 1, ground := Ground.data }, { on := 4, ground := Ground.data }, { on := 6, ground := Ground.data }, { on := 6, ground := Ground.chain }], none⟩) rfl (fun K hK => ?_) AllReadyH.nil
  go_simp
  go_at_call 23
  with_reducible refine (Hr2.out _).mono ?_
  rintro e w1 ⟨rfl, hb1⟩
  refine hK.out _ _ (THolds.next hHeld hb1) (fun hH => ?_)
  clear hHeld hK K hb1
  have hHeld := hH
  clear hH
  try simp only [Act.put, List.setIfInBounds_toArray, List.set_cons_zero, List.set_cons_succ]
  refine wpAnyH_take (i := 8) (oi := ⟨some 17, Op.binOp BinOp.xor 22 (Operand.tmp 9) (Operand.tmp 16) 22, 22, _, #[{ on := 0, ground := Ground.data }, { on := 7, ground := Ground.data }], none⟩) (v := ?_) rfl (by kernel_rfl) (by kernel_rfl) (by kernel_rfl) (fun _ _ _ h => h) (Or.inl ⟨by rfl, ?_⟩) hHeld ?_
  rotate_left
  · (intro w1 hSw; go_simp; try (with_reducible rfl))
  try simp only [Act.put, List.setIfInBounds_toArray, List.set_cons_zero, List.set_cons_succ]
  refine wpAnyH_take (i := 9) (oi := ⟨some 8, Op.assign (Operand.tmp 17), 22, _, #[{ on := 8, ground := Ground.data }, { on := 7, ground := Ground.chain }, { on := 0, ground := Ground.phase }, { on := 1, ground := Ground.phase }, { on := 2, ground := Ground.phase }, { on := 3, ground := Ground.phase }, { on := 4, ground := Ground.phase }, { on := 5, ground := Ground.phase }, { on := 6, ground := Ground.phase }, { on := 7, ground := Ground.phase }, { on := 8, ground := Ground.phase }], none⟩) (v := ?_) rfl (by kernel_rfl) (by kernel_rfl) (by kernel_rfl) (fun _ _ _ h => h) (Or.inl ⟨by rfl, ?_⟩) hHeld ?_
  rotate_left
  · (intro w1 hSw; go_simp; try (with_reducible rfl))
  try simp only [Act.put, List.setIfInBounds_toArray, List.set_cons_zero, List.set_cons_succ]
  refine wpAnyH_done (by kernel_rfl) ?_ _
  skip
  -- end
  go_wp2
  go_ret
  exact ⟨rfl, hHeld.below⟩
end Go.Proofs.Ytajhenjjhbecoaa
