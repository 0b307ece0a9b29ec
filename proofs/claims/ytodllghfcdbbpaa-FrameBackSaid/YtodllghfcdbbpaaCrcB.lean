/-
  Layer 5: Of, More, Noughts, Turned, by any table.
-/
import Derived.Test.YtodllghfcdbbpaaCrcA
namespace Go.Proofs.Ytodllghfcdbbpaa
set_option linter.unusedSimpArgs false
set_option linter.unusedVariables false
open Go.ChangeShapes Go.WideShapes Go.ChangeAt Go.RowKit Go.Joins Go.Deep
theorem range_new (w : World) (C : List Value) (t : TypeId) : (w.alloc (.cells C.toArray t)).rangeAt w.heap.size 0 C := fun j v hv => by
  rw [World.cell?_alloc_new, Nat.zero_add]
  simpa using hv
theorem info_tab : (Try.prog.info? 49).map (·.size) = some 256 := by kernel_rfl
theorem hi_tab {C : List Value} (h : C.length = 256) : (Try.prog.info? 49).map (·.size) = some C.length := by rw [h, info_tab]
theorem tab_256 {T : List (BitVec 32)} (h : T.length = 256) : (tab T).length = 256 := by rw [tab_length, h]
def moreT (T : List (BitVec 32)) (c : BitVec 32) (l : List UInt8) : BitVec 32 := ~~~(restT T (~~~c) l)
set_option maxRecDepth 100000 in
set_option maxHeartbeats 2000000 in
theorem more_any (T : List (BitVec 32)) (hT : T.length = 256) (c : BitVec 32) (l : List UInt8) (hl : l.length ≤ 4611686018427387904) (w : World) :
    Calls Try.prog 28 #[.agg (tab T).toArray, .int .u32 (c.toNat : Int), .string ⟨l.toArray⟩] w fun e w' =>
      e = .returned (.int .u32 ((moreT T c l).toNat : Int)) ∧ Below w.heap.size w w' := by
  have hrem := fun w => remainder_any T hT (~~~c) l 0 hl w
  have Hi := Lib.hid (hi_tab (tab_256 hT))
  have hnot := not_u c
  have hnot2 := not_u (restT T (~~~c) l)
  have e0 : restT T (restT T (~~~c) l) (no (cnt 0)) = restT T (~~~c) l := rfl
  rw [e0] at hrem
  have hnot3 : bits .xor .u32 (if IntKind.u32.signed = true then -1 else IntKind.u32.max) ((restT T (~~~c) l).toNat : Int) = ((moreT T c l).toNat : Int) := hnot2
  clear hnot2 e0
  generalize moreT T c l = res at *
  generalize restT T (~~~c) l = d at *
  generalize (~~~c : BitVec 32) = c' at *
  have Hrem := Lib.hid hrem
  generalize tab T = C at *
  clear hrem
  go_enter Try.func28, Try.ntmps28
  go_wp2_with (first
    | (refine wpList_load_mid rfl 49 _ rfl _ 0 rfl C _ (range_new _ _ _) Try.underlying49 rfl Hi.out ?_)
    | (go_at_call 36; refine (Hrem.out _).mono ?_; rintro e w1 ⟨rfl, hb1⟩))
  go_ret
  exact ⟨rfl, ((Below.refl _ _).alloc (Nat.le_refl _) _).trans (hb1.mono (by simp))⟩
theorem below_box {w w1 : World} {o : Obj} (hb : Below (w.alloc o).heap.size (w.alloc o) w1) : Below w.heap.size w w1 := ((Below.refl _ _).alloc (Nat.le_refl _) _).trans (hb.mono (by simp))
def ofT (T : List (BitVec 32)) (l : List UInt8) : BitVec 32 := moreT T 0#32 l
set_option maxRecDepth 100000 in
set_option maxHeartbeats 2000000 in
theorem of_any (T : List (BitVec 32)) (hT : T.length = 256) (l : List UInt8) (hl : l.length ≤ 4611686018427387904) (w : World) :
    Calls Try.prog 19 #[.agg (tab T).toArray, .string ⟨l.toArray⟩] w fun e w' => e = .returned (.int .u32 ((ofT T l).toNat : Int)) ∧ Below w.heap.size w w' := by
  have hmore : ∀ w, Calls Try.prog 28 #[.agg (tab T).toArray, .int .u32 0, .string ⟨l.toArray⟩] w fun e w' => e = .returned (.int .u32 ((ofT T l).toNat : Int)) ∧ Below w.heap.size w w' := fun w => more_any T hT 0#32 l hl w
  have Hi := Lib.hid (hi_tab (tab_256 hT))
  generalize ofT T l = res at *
  have Hmore := Lib.hid hmore
  generalize tab T = C at *
  clear hmore
  go_enter Try.func19, Try.ntmps19
  go_wp2_with (first
    | (refine wpList_load_mid rfl 49 _ rfl _ 0 rfl C _ (range_new _ _ _) Try.underlying49 rfl Hi.out ?_)
    | (go_at_call 28; refine (Hmore.out _).mono ?_; rintro e w1 ⟨rfl, hb1⟩))
  go_ret
  exact ⟨rfl, below_box hb1⟩
end Go.Proofs.Ytodllghfcdbbpaa
