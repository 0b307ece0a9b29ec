/-
  Layer 8: the probe that each statement of the layer asks beside itself returns true.
-/
import Derived.Test.YtehpnfijpddcfaaLenX
import Derived.Test.YtehpnfijpddcfaaLenY
import Derived.Test.YtehpnfijpddcfaaSame
namespace Go.Proofs.Ytehpnfijpddcfaa
set_option linter.unusedSimpArgs false
set_option linter.unusedVariables false
open Go.ChangeShapes Go.WideShapes Go.ChangeAt Go.RowKit Go.Joins Go.Deep

section
variable {cs : Array Value} {n N : Nat} {xs ys : List Int} {e : Int}
theorem pfresh (hcs : cs = (ints xs).toArray) (hn : xs.length = n) (w : World) : Reads (w.alloc (.cells cs 3)) (w.alloc (.cells cs 3)).heap.size 1 (some ⟨w.heap.size, 0, none⟩) n (ints xs) := by
  subst hcs
  have := reads_new w 3 (ints xs).toArray 1 n (by simp [ints_length, hn])
  exact this.more (by simp)
theorem pback_below {w w' : World} {o : Obj} (hb : Below (w.alloc o).heap.size (w.alloc o) w') : Below w.heap.size w w' := ((Below.refl _ _).alloc (Nat.le_refl _) o).trans (hb.mono (by simp))
theorem aw8_best (most : Int) (hcs : cs = (ints xs).toArray) (hn : xs.length = n) (hm : n ≤ 1000) (hN : ys.length = N) (h : lbestF xs most = (ys, e)) (w : World) :
    Calls Try.prog 8 #[.slice (some ⟨w.heap.size, 0, none⟩) n n, .int .i64 most] (w.alloc (.cells cs 3)) fun r w' => ∃ A c, r = .returned (.tuple #[.slice A N c, .int .i64 e]) ∧ Reads w' w'.heap.size 1 A N (ints ys) ∧ Below w.heap.size w w' := by
  refine (p_best_any xs most _ n n (w.alloc (.cells cs 3)) (by omega) (pfresh hcs hn w)).mono ?_
  rintro r w' ⟨A, c, rfl, _, hr, hb⟩
  rw [h] at hr ⊢
  subst hN
  exact ⟨A, c, rfl, hr, pback_below hb⟩
theorem aw8_check (hcs : cs = (ints xs).toArray) (hn : xs.length = n) (hm : n ≤ 1000) (h : pcheckF xs = e) (w : World) :
    Calls Try.prog 11 #[.slice (some ⟨w.heap.size, 0, none⟩) n n] (w.alloc (.cells cs 3)) fun r w' => r = .returned (.int .i64 e) ∧ Below w.heap.size w w' := by
  refine (p_check_any xs _ n n (w.alloc (.cells cs 3)) (by omega) (pfresh hcs hn w)).mono ?_
  rintro r w' ⟨rfl, hb⟩
  rw [h]
  exact ⟨rfl, pback_below hb⟩
theorem aw8_check2 (A : Option Addr) (c : Nat) (hn : xs.length = n) (hm : n ≤ 1000) (h : pcheckF xs = e) (w : World) (hr : Reads w w.heap.size 1 A n (ints xs)) :
    Calls Try.prog 11 #[.slice A n c] w fun r w' => r = .returned (.int .i64 e) ∧ Below w.heap.size w w' := by
  subst h
  exact p_check_any xs A n c w (by omega) hr
theorem aw8_used (A : Option Addr) (c : Nat) (hn : xs.length = n) (hm : n ≤ 1000) (h : (usedF xs : Int) = e) (w : World) (hr : Reads w w.heap.size 1 A n (ints xs)) :
    Calls Try.prog 13 #[.slice A n c] w fun r w' => r = .returned (.int .i64 e) ∧ w' = w := by
  subst h
  exact p_used_any xs A n c w (by omega) hr
theorem aw8_cost (A : Option Addr) (c : Nat) (hcs : cs = (ints xs).toArray) (hn : xs.length = n) (hm : n ≤ 1000) (hN : ys.length = N) (hm2 : N ≤ 1000) (h : costF xs ys = e) (w : World) (hr : Reads w w.heap.size 1 A N (ints ys)) :
    Calls Try.prog 15 #[.slice (some ⟨w.heap.size, 0, none⟩) n n, .slice A N c] (w.alloc (.cells cs 3)) fun r w' => r = .returned (.int .i64 e) ∧ Below w.heap.size w w' := by
  have hb : Below w.heap.size w (w.alloc (.cells cs 3)) := (Below.refl _ _).alloc (Nat.le_refl _) _
  refine (p_cost_any xs ys _ A n N n c (w.alloc (.cells cs 3)) (by omega) (by omega) (pfresh hcs hn w) ((hr.below hb).more hb.size)).mono ?_
  rintro r w' ⟨rfl, hb⟩
  rw [h]
  exact ⟨rfl, pback_below hb⟩
/-- What reads as a list is the same as that list, written out. -/
theorem aw8_same (A : Option Addr) (c : Nat) (hcs : cs = (ints xs).toArray) (hn : xs.length = n) (hm : n ≤ 1000) (W : World) (hr : Reads W W.heap.size 1 A n (ints xs)) :
    Calls Try.prog 10 #[.slice A n c, .slice (some ⟨W.heap.size, 0, none⟩) n n] (W.alloc (.cells cs 3)) fun r w' => r = .returned (.bool true) ∧ Below W.heap.size W w' := by
  have hb : Below W.heap.size W (W.alloc (.cells cs 3)) := (Below.refl _ _).alloc (Nat.le_refl _) _
  refine (same_any A (some ⟨W.heap.size, 0, none⟩) n n c n xs xs _ ((hr.below hb).more hb.size) (pfresh hcs hn W) (by omega) (by omega)).mono ?_
  rintro r w' ⟨rfl, hb2⟩
  exact ⟨by simp, pback_below hb2⟩
end
theorem aw8_b1 : lbestF [1, 1, 2, 4] 15 = ([3, 3, 2, 1], 0) := by decide +kernel
theorem aw8_b2 : lbestF [1, 1, 2, 4] 2 = ([2, 2, 2, 2], 0) := by decide +kernel
theorem aw8_b3 : lbestF [1, 1, 1] 1 = ([], 3) := by decide +kernel

set_option maxRecDepth 100000 in
set_option maxHeartbeats 4000000 in
theorem awake8_any (w : World) : Calls Try.prog 7 #[] w fun e w' => e = .returned (.bool true) ∧ Below w.heap.size w w' := by
  have B1 := Lib.hid fun w => aw8_best (cs := #[.int .i64 1, .int .i64 1, .int .i64 2, .int .i64 4]) (n := 4) (N := 4) 15 rfl rfl (by decide) rfl aw8_b1 w
  have B2 := Lib.hid fun w => aw8_best (cs := #[.int .i64 1, .int .i64 1, .int .i64 2, .int .i64 4]) (n := 4) (N := 4) 2 rfl rfl (by decide) rfl aw8_b2 w
  have B3 := Lib.hid fun w => aw8_best (cs := #[.int .i64 1, .int .i64 1, .int .i64 1]) (n := 3) (N := 0) 1 rfl rfl (by decide) rfl aw8_b3 w
  have S1 := Lib.hid fun A c W h => aw8_same (cs := #[.int .i64 3, .int .i64 3, .int .i64 2, .int .i64 1]) (n := 4) (xs := [3, 3, 2, 1]) A c rfl rfl (by decide) W h
  have S2 := Lib.hid fun A c W h => aw8_same (cs := #[.int .i64 2, .int .i64 2, .int .i64 2, .int .i64 2]) (n := 4) (xs := [2, 2, 2, 2]) A c rfl rfl (by decide) W h
  have C1 := Lib.hid fun A c W h => aw8_check2 (n := 4) (xs := [3, 3, 2, 1]) (e := 0) A c rfl (by decide) (by decide +kernel) W h
  have C2 := Lib.hid fun w => aw8_check (cs := #[.int .i64 1, .int .i64 2]) (n := 2) (xs := [1, 2]) (e := 80) rfl rfl (by decide) (by decide +kernel) w
  have C3 := Lib.hid fun w => aw8_check (cs := #[.int .i64 0, .int .i64 1]) (n := 2) (xs := [0, 1]) (e := 0) rfl rfl (by decide) (by decide +kernel) w
  have K1 := Lib.hid fun A c W h => aw8_cost (cs := #[.int .i64 1, .int .i64 1, .int .i64 2, .int .i64 4]) (n := 4) (N := 4) (xs := [1, 1, 2, 4]) (ys := [3, 3, 2, 1]) (e := 14) A c rfl rfl (by decide) rfl (by decide) (by decide +kernel) W h
  have U1 := Lib.hid fun A c W h => aw8_used (n := 4) (xs := [3, 3, 2, 1]) (e := 4) A c rfl (by decide) (by decide +kernel) W h
  go_enter Try.func7, Try.ntmps7
  go_wp2_with (first
    | (go_at_call 8; (with_reducible refine (B1.out _).mono ?_); rintro e w1 ⟨A1, c1, rfl, hr1, hb1⟩; have H1 := Lib.hid hr1; have Hb := Lib.hid hb1; clear hr1 hb1 B1)
    | (go_at_call 8; (with_reducible refine (B2.out _).mono ?_); rintro e w2 ⟨A2, c2, rfl, hr2, hb2⟩; have H2 := Lib.hid hr2; replace H1 := Lib.hid ((H1.out.below hb2).more hb2.size); replace Hb := Lib.hid (Hb.out.trans (hb2.mono Hb.out.size)); clear hr2 hb2 B2)
    | (go_at_call 8; (with_reducible refine (B3.out _).mono ?_); rintro e w3 ⟨A3, c3, rfl, _, hb3⟩; replace H1 := Lib.hid ((H1.out.below hb3).more hb3.size); replace H2 := Lib.hid ((H2.out.below hb3).more hb3.size); replace Hb := Lib.hid (Hb.out.trans (hb3.mono Hb.out.size)); clear hb3 B3)
    | (go_at_call 10; (with_reducible refine (S1.out _ _ _ H1.out).mono ?_); rintro e w4 ⟨rfl, hb4⟩; replace H1 := Lib.hid ((H1.out.below hb4).more hb4.size); replace H2 := Lib.hid ((H2.out.below hb4).more hb4.size); replace Hb := Lib.hid (Hb.out.trans (hb4.mono Hb.out.size)); clear hb4 S1)
    | (go_at_call 10; (with_reducible refine (S2.out _ _ _ H2.out).mono ?_); rintro e w5 ⟨rfl, hb5⟩; replace H1 := Lib.hid ((H1.out.below hb5).more hb5.size); replace Hb := Lib.hid (Hb.out.trans (hb5.mono Hb.out.size)); clear hb5 S2 H2)
    | (go_at_call 11; (with_reducible refine (C1.out _ _ _ H1.out).mono ?_); rintro e w6 ⟨rfl, hb6⟩; replace H1 := Lib.hid ((H1.out.below hb6).more hb6.size); replace Hb := Lib.hid (Hb.out.trans (hb6.mono Hb.out.size)); clear hb6 C1)
    | (go_at_call 11; (with_reducible refine (C2.out _).mono ?_); rintro e w7 ⟨rfl, hb7⟩; replace H1 := Lib.hid ((H1.out.below hb7).more hb7.size); replace Hb := Lib.hid (Hb.out.trans (hb7.mono Hb.out.size)); clear hb7 C2)
    | (go_at_call 11; (with_reducible refine (C3.out _).mono ?_); rintro e w8 ⟨rfl, hb8⟩; replace H1 := Lib.hid ((H1.out.below hb8).more hb8.size); replace Hb := Lib.hid (Hb.out.trans (hb8.mono Hb.out.size)); clear hb8 C3)
    | (go_at_call 15; (with_reducible refine (K1.out _ _ _ H1.out).mono ?_); rintro e w9 ⟨rfl, hb9⟩; replace H1 := Lib.hid ((H1.out.below hb9).more hb9.size); replace Hb := Lib.hid (Hb.out.trans (hb9.mono Hb.out.size)); clear hb9 K1)
    | (go_at_call 13; (with_reducible refine (U1.out _ _ _ H1.out).mono ?_); rintro e w10 ⟨rfl, rfl⟩))
  go_ret
  exact ⟨rfl, Hb.out⟩
end Go.Proofs.Ytehpnfijpddcfaa
