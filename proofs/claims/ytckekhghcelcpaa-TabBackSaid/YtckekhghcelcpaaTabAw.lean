/-
  Layer 10: the probe that each statement of the layer asks beside itself returns true.
-/
import Derived.Test.YtckekhghcelcpaaTabX
import Derived.Test.YtckekhghcelcpaaSame
namespace Go.Proofs.Ytckekhghcelcpaa
set_option linter.unusedSimpArgs false
set_option linter.unusedVariables false
open Go.ChangeShapes Go.WideShapes Go.ChangeAt Go.RowKit Go.Joins Go.Deep

section
variable {cs : Array Value} {n N : Nat} {xs ys : List Int} {e : Int}
theorem tfresh (hcs : cs = (ints xs).toArray) (hn : xs.length = n) (w : World) : Reads (w.alloc (.cells cs 3)) (w.alloc (.cells cs 3)).heap.size 1 (some ⟨w.heap.size, 0, none⟩) n (ints xs) := by
  subst hcs
  have := reads_new w 3 (ints xs).toArray 1 n (by simp [ints_length, hn])
  exact this.more (by simp)
theorem tqback {w w' : World} {o : Obj} (hb : Below (w.alloc o).heap.size (w.alloc o) w') : Below w.heap.size w w' := ((Below.refl _ _).alloc (Nat.le_refl _) o).trans (hb.mono (by simp))
theorem aw10_pack {s : List UInt8} (hcs : cs = (ints xs).toArray) (hn : xs.length = n) (hm : n ≤ 1000) (h : tpackF xs = (s, e)) (w : World) :
    Calls Try.prog 7 #[.slice (some ⟨w.heap.size, 0, none⟩) n n] (w.alloc (.cells cs 3)) fun r w' => r = .returned (.tuple #[.string ⟨s.toArray⟩, .int .i64 e]) ∧ Below w.heap.size w w' := by
  refine (p_tpack_any xs _ n n _ (by omega) (tfresh hcs hn w)).mono ?_
  rintro r w' ⟨rfl, hb⟩
  rw [h]
  exact ⟨rfl, tqback hb⟩
theorem aw10_size {k : Nat} (hcs : cs = (ints xs).toArray) (hn : xs.length = n) (hm : n ≤ 1000) (h : tsizeF xs = k) (w : World) :
    Calls Try.prog 9 #[.slice (some ⟨w.heap.size, 0, none⟩) n n] (w.alloc (.cells cs 3)) fun r w' => r = .returned (.int .i64 (k : Int)) ∧ Below w.heap.size w w' := by
  subst h
  refine (p_tsize_any xs _ n n _ (by omega) (tfresh hcs hn w)).mono ?_
  rintro r w' ⟨rfl, hb⟩
  exact ⟨rfl, tqback hb⟩
theorem aw10_unpack {s : List UInt8} {k : Int} {p : Nat} (hs : s.length ≤ 1000) (hN : ys.length = N) (h : tgetF (rowOf s) 0 k = (ys, p, e)) (w : World) :
    Calls Try.prog 14 #[.string ⟨s.toArray⟩, .int .i64 k] w fun r w' => ∃ A c, r = .returned (.tuple #[.slice A N c, .int .i64 (p : Int), .int .i64 e]) ∧ Reads w' w'.heap.size 1 A N (ints ys) ∧ Below w.heap.size w w' := by
  refine (p_tunpack_any s k w (by omega)).mono ?_
  unfold TGetPost
  rintro r w' ⟨A, c, rfl, _, hr, hb⟩
  rw [h] at hr ⊢
  subst hN
  exact ⟨A, c, rfl, hr, hb⟩
theorem aw10_same (A : Option Addr) (c : Nat) (hcs : cs = (ints xs).toArray) (hn : xs.length = n) (hm : n ≤ 1000) (W : World) (hr : Reads W W.heap.size 1 A n (ints xs)) :
    Calls Try.prog 15 #[.slice A n c, .slice (some ⟨W.heap.size, 0, none⟩) n n] (W.alloc (.cells cs 3)) fun r w' => r = .returned (.bool true) ∧ Below W.heap.size W w' := by
  have hb : Below W.heap.size W (W.alloc (.cells cs 3)) := (Below.refl _ _).alloc (Nat.le_refl _) _
  refine (same_any A (some ⟨W.heap.size, 0, none⟩) n n c n xs xs _ ((hr.below hb).more hb.size) (tfresh hcs hn W) (by omega) (by omega)).mono ?_
  rintro r w' ⟨rfl, hb2⟩
  exact ⟨by simp, tqback hb2⟩
theorem Reads.on {w w' : World} {size n : Nat} {A : Option Addr} {xs : List Value} (h : Reads w w.heap.size size A n xs) (hb : Below w.heap.size w w') : Reads w' w'.heap.size size A n xs := (h.below hb).more hb.size
end
theorem aw10_b : tbits [2, 1, 2] = [0, 0, 1, 0, 1, 0, 0, 0] ++ [1, 1, 0, 0, 1, 0, 1] := by decide +kernel
theorem aw10_1 : tpackF [2, 1, 2] = ([40, 202], 0) := by
  unfold tpackF
  rw [if_pos (by decide +kernel), aw10_b, text_whole 1 _ _ rfl, text_short _ (by decide) (by decide), text_short _ (by decide) (by decide)]
  decide
theorem aw10_2 : tgetF (rowOf [40, 202]) 0 3 = ([2, 1, 2], 15, 0) := by decide +kernel
theorem aw10_3 : tgetF (rowOf [40, 202]) 0 4 = ([], 0, 4) := by decide +kernel
theorem aw10_4 : tsizeF [2, 1, 2] = 15 := by
  unfold tsizeF
  rw [if_pos (by decide +kernel), aw10_b]
  rfl

set_option maxRecDepth 100000 in
set_option maxHeartbeats 4000000 in
theorem awake10_any (w : World) : Calls Try.prog 6 #[] w fun e w' => e = .returned (.bool true) ∧ Below w.heap.size w w' := by
  have P1 := Lib.hid fun w => aw10_pack (cs := #[.int .i64 2, .int .i64 1, .int .i64 2]) (n := 3) rfl rfl (by decide) aw10_1 w
  have U1 := Lib.hid fun w => aw10_unpack (N := 3) (by decide) rfl aw10_2 w
  have U2 := Lib.hid fun w => aw10_unpack (N := 0) (by decide) rfl aw10_3 w
  have S1 := Lib.hid fun A c W h => aw10_same (cs := #[.int .i64 2, .int .i64 1, .int .i64 2]) (n := 3) (xs := [2, 1, 2]) A c rfl rfl (by decide) W h
  have Z1 := Lib.hid fun w => aw10_size (cs := #[.int .i64 2, .int .i64 1, .int .i64 2]) (n := 3) rfl rfl (by decide) aw10_4 w
  go_enter Try.func6, Try.ntmps6
  go_wp2_with (first
    | (go_at_call 7; (with_reducible refine (P1.out _).mono ?_); rintro e w1 ⟨rfl, hb1⟩; have Hb := Lib.hid hb1; clear hb1 P1)
    | (go_at_call 14; (with_reducible refine (U1.out _).mono ?_); rintro e w2 ⟨A2, c2, rfl, hr2, hb2⟩; have H2 := Lib.hid hr2; replace Hb := Lib.hid (Hb.out.trans (hb2.mono Hb.out.size)); clear hr2 hb2 U1)
    | (go_at_call 14; (with_reducible refine (U2.out _).mono ?_); rintro e w3 ⟨A3, c3, rfl, _, hb3⟩; replace H2 := Lib.hid (H2.out.on hb3); replace Hb := Lib.hid (Hb.out.trans (hb3.mono Hb.out.size)); clear hb3 U2)
    | (go_at_call 15; (with_reducible refine (S1.out _ _ _ H2.out).mono ?_); rintro e w4 ⟨rfl, hb4⟩; replace Hb := Lib.hid (Hb.out.trans (hb4.mono Hb.out.size)); clear hb4 S1 H2)
    | (go_at_call 9; (with_reducible refine (Z1.out _).mono ?_); rintro e w5 ⟨rfl, hb5⟩; replace Hb := Lib.hid (Hb.out.trans (hb5.mono Hb.out.size)); clear hb5 Z1)
    | (go_at_call 13; refine (p_tput_nil _ _ _ _).mono ?_; rintro e w6 ⟨rfl, hb6⟩; replace Hb := Lib.hid (Hb.out.trans (hb6.mono Hb.out.size)); clear hb6))
  go_ret
  exact ⟨rfl, Hb.out⟩
end Go.Proofs.Ytckekhghcelcpaa
