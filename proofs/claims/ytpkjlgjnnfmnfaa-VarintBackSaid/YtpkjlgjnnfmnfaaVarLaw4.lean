/-
  For any number, any width and any list: what Put, Fix and List make is taken by Get, Unfix and Unlist as it was, whatever stands ahead of it and behind it, and the layer's probe holds (VarintBack). No condition.
-/
import Derived.Test.YtpkjlgjnnfmnfaaVarLaw1
import Derived.Test.YtpkjlgjnnfmnfaaVarLaw3
namespace Go.Proofs.Ytpkjlgjnnfmnfaa
set_option linter.unusedSimpArgs false
set_option linter.unusedVariables false
open Go.ChangeShapes Go.WideShapes Go.ChangeAt Go.RowKit Go.Joins Go.Deep

def bef : List UInt8 := [98, 101, 102, 111, 114, 101]
def beh : List UInt8 := [98, 101, 104, 105, 110, 100]
theorem add_bef (s : List UInt8) (h : s.length ≤ 100000) (w : World) : (Op.stringOp .add ⟨#[98, 101, 102, 111, 114, 101]⟩ ⟨s.toArray⟩).run Try.prog w = .ok (.string ⟨(bef ++ s).toArray⟩) w := add_bytes bef s (by simp [bef]; omega) w
theorem add_beh (s : List UInt8) (h : s.length ≤ 100000) (w : World) : (Op.stringOp .add ⟨(bef ++ s).toArray⟩ ⟨#[98, 101, 104, 105, 110, 100]⟩).run Try.prog w = .ok (.string ⟨((bef ++ s) ++ beh).toArray⟩) w := add_bytes (bef ++ s) beh (by simp [bef, beh]; omega) w

/-- What a row of calls of the walk is told of the number: put, and taken again. -/
theorem back_put {n : Int} (h0 : 0 ≤ n) (h : n < 9223372036854775808) : getF ((bef ++ putB n) ++ beh) 6 = (n, 6 + ((putB n).length : Int), 0) := by
  have := getF_put bef beh n.toNat (by omega)
  rw [← putB_of h0, ← List.append_assoc, Int.toNat_of_nonneg h0] at this
  exact this
theorem back_fix {n v : Int} (h : n < 9223372036854775808) (he : fixE n v = 0) : unfixF ((bef ++ fixB n v) ++ beh) 6 v = (n, 6 + v, 0) := by
  have := unfix_fix bef beh h he
  rw [← List.append_assoc] at this
  exact this
theorem back_list {l : List Int} (hl : l.length ≤ 1000) (h : ∀ n ∈ l, n < 9223372036854775808) (he : listE l = 0) : unlistF ((bef ++ listB l) ++ beh) 6 l.length = (l, 6 + ((listB l).length : Int), 0) := by
  have := unlist_list bef beh l (by omega) h he
  rw [← List.append_assoc] at this
  exact this
theorem fixB_len {n v : Int} (he : fixE n v = 0) : ((fixB n v).length : Int) = v ∧ 1 ≤ v ∧ v ≤ 8 := by
  obtain ⟨h1, h2, _, _, e⟩ := fx_ok he
  rw [e, fx_length]
  omega
theorem listB_len (l : List Int) (hl : l.length ≤ 1000) : (listB l).length ≤ 10000 := by
  unfold listB
  split
  · simp
  · have := laid_le l l.length (by omega)
    unfold laid at this
    rw [List.take_length] at this
    omega

set_option maxHeartbeats 4000000 in
theorem back_far (A : Option Addr) (n c : Nat) (x v : Int) (w : World) (h1 : 1000 < n) :
    Calls Try.prog 6 #[.int .i64 x, .int .i64 v, .slice A n c] w fun e w' => e = .returned (.bool true) ∧ Below w.heap.size w w' := by
  go_enter Try.func6, Try.ntmps6
  go_wp2_with (go_at_call 14; refine (awake_any _).mono ?_; rintro e w5 ⟨rfl, hb5⟩)
  go_ret
  exact ⟨rfl, hb5⟩

set_option maxHeartbeats 8000000 in
theorem back_111 (A : Option Addr) (n c : Nat) (l : List Int) (x v : Int) (w : World) (hn : l.length = n) (h1 : n ≤ 1000) (hr : Reads w w.heap.size 1 A n (ints l)) (hbd : ∀ x ∈ l, x < 9223372036854775808) (hx : x < 9223372036854775808)
    (c1 : 0 ≤ x) (c2 : fixE x v = 0) (c3 : listE l = 0) :
    Calls Try.prog 6 #[.int .i64 x, .int .i64 v, .slice A n c] w fun e w' => e = .returned (.bool true) ∧ Below w.heap.size w w' := by
  have Hput : ∀ W, Hid (Calls Try.prog 8 #[.int .i64 x] W fun e w' => e = .returned (.tuple #[.string ⟨(putB x).toArray⟩, .int .i64 0]) ∧ Below W.heap.size W w') := fun W => by
    have := put_is x W hx
    rw [show putE x = 0 from by unfold putE; rw [if_neg (by omega)]] at this
    exact this
  have Hfix : ∀ W, Hid (Calls Try.prog 10 #[.int .i64 x, .int .i64 v] W fun e w' => e = .returned (.tuple #[.string ⟨(fixB x v).toArray⟩, .int .i64 0]) ∧ Below W.heap.size W w') := fun W => by
    have := fix_is x v W
    rw [show fixE x v = 0 from by exact c2] at this
    exact this
  have Hlist : ∀ W, Hid (Below w.heap.size w W) → Hid (Calls Try.prog 19 #[.slice A n c] W fun e w' => e = .returned (.tuple #[.string ⟨(listB l).toArray⟩, .int .i64 0]) ∧ Below W.heap.size W w') := fun W hb => by
    have := list_tuple A n c l W hn (by omega) ((hr.below hb.out).more hb.out.size) hbd
    rw [show listE l = 0 from by exact c3] at this
    exact this
  have Hsize : ∀ W, Hid (Calls Try.prog 12 #[.int .i64 x] W fun e w' => e = .returned (.int .i64 ((putB x).length : Int)) ∧ W = w') := fun W => size_any x W hx
  have Hget : ∀ W, Hid (Calls Try.prog 15 #[.string ⟨((bef ++ putB x) ++ beh).toArray⟩, .int .i64 6] W fun r w' => r = .returned (.tuple #[.int .i64 x, .int .i64 (6 + ((putB x).length : Int)), .int .i64 0]) ∧ W = w') := fun W => get_is (back_put (by omega) hx) W (by have := putB_le x; simp [bef, beh]; omega)
  have ad1 := add_bef (putB x) (by have := putB_le x; omega)
  have ad2 := add_beh (putB x) (by have := putB_le x; omega)
  have p9 : ((putB x).length : Int) ≤ 9 := by have := putB_le x; omega
  generalize (bef ++ putB x) ++ beh = X1 at *
  generalize bef ++ putB x = Y1 at *
  have Hunfix : ∀ W, Hid (Calls Try.prog 17 #[.string ⟨((bef ++ fixB x v) ++ beh).toArray⟩, .int .i64 6, .int .i64 v] W fun r w' => r = .returned (.tuple #[.int .i64 x, .int .i64 (6 + v), .int .i64 0]) ∧ W = w') := fun W => by
    have := unfix_any ((bef ++ fixB x v) ++ beh) 6 v W (by have := fixB_len c2; simp [bef, beh]; omega)
    rw [back_fix hx c2] at this
    exact this
  have ad3 := add_bef (fixB x v) (by have := fixB_len c2; omega)
  have ad4 := add_beh (fixB x v) (by have := fixB_len c2; omega)
  obtain ⟨q1, q2, q3⟩ := fixB_len c2
  generalize (bef ++ fixB x v) ++ beh = X2 at *
  generalize bef ++ fixB x v = Y2 at *
  have Hunlist : ∀ W, Hid (Calls Try.prog 21 #[.string ⟨((bef ++ listB l) ++ beh).toArray⟩, .int .i64 6, .int .i64 n] W fun e w' => ∃ A' c', e = .returned (.tuple #[.slice A' n c', .int .i64 (6 + ((listB l).length : Int)), .int .i64 0]) ∧ Reads w' w'.heap.size 1 A' n (ints l) ∧ Below W.heap.size W w') := fun W => by
    have e := back_list (by omega) hbd c3
    have := unlist_any ((bef ++ listB l) ++ beh) 6 l.length W (by have := listB_len l (by omega); simp [bef, beh]; omega) _ e
    rw [hn] at this
    simp only [hn] at this
    exact this
  have Hsame : ∀ W A' c', Hid (Below w.heap.size w W) → Reads W W.heap.size 1 A' n (ints l) → Calls Try.prog 23 #[.slice A' n c', .slice A n c] W fun e w' => e = .returned (.bool true) ∧ Below W.heap.size W w' := fun W A' c' hb hR => by
    have := same_any A' A n n c' c l l W hR ((hr.below hb.out).more hb.out.size) (by omega) (by omega)
    simpa using this
  have ad5 := add_bef (listB l) (by have := listB_len l (by omega); omega)
  have ad6 := add_beh (listB l) (by have := listB_len l (by omega); omega)
  have p10 : ((listB l).length : Int) ≤ 10000 := by have := listB_len l (by omega); omega
  generalize (bef ++ listB l) ++ beh = X3 at *
  generalize bef ++ listB l = Y3 at *
  have Hb0 : Hid (Below w.heap.size w w) := Lib.hid (Below.refl _ _)
  generalize putB x = S1 at *
  generalize fixB x v = S2 at *
  generalize listB l = S3 at *
  have h1' : (n : Int) ≤ 1000 := by omega
  clear hr hbd hn hx c2 c3
  go_enter Try.func6, Try.ntmps6
  go_wp2_with (first
    | (go_at_call 8; refine (Hput _).out.mono ?_; rintro e w1 ⟨rfl, hb1⟩; have Hb1 : Hid (Below w.heap.size w w1) := Lib.hid hb1; clear hb1)
    | (go_at_call 15; refine (Hget _).out.mono ?_; rintro e w0 ⟨rfl, rfl⟩)
    | (go_at_call 12; refine (Hsize _).out.mono ?_; rintro e w0 ⟨rfl, rfl⟩)
    | (go_at_call 10; refine (Hfix _).out.mono ?_; rintro e w2 ⟨rfl, hb2⟩; have Hb2 : Hid (Below w.heap.size w w2) := Lib.hid (Hb1.out.trans (hb2.mono Hb1.out.size)); clear hb2)
    | (go_at_call 17; refine (Hunfix _).out.mono ?_; rintro e w0 ⟨rfl, rfl⟩)
    | (go_at_call 19; refine (Hlist _ Hb2).out.mono ?_; rintro e w3 ⟨rfl, hb3⟩; have Hb3 : Hid (Below w.heap.size w w3) := Lib.hid (Hb2.out.trans (hb3.mono Hb2.out.size)); clear hb3)
    | (go_at_call 21; refine (Hunlist _).out.mono ?_; rintro e w4 ⟨A4, c4, rfl, hr4, hb4⟩; have Hr4 := Lib.hid hr4; have Hb4 : Hid (Below w.heap.size w w4) := Lib.hid (Hb3.out.trans (hb4.mono Hb3.out.size)); clear hb4 hr4)
    | (go_at_call 23; refine (Hsame _ _ _ Hb4 Hr4.out).mono ?_; rintro e w5 ⟨rfl, hb5⟩; have Hb5 : Hid (Below w.heap.size w w5) := Lib.hid (Hb4.out.trans (hb5.mono Hb4.out.size)); clear hb5)
    | (go_at_call 14; refine (awake_any _).mono ?_; rintro e w6 ⟨rfl, hb6⟩))
  go_ret
  exact ⟨rfl, Hb5.out.trans (hb6.mono Hb5.out.size)⟩

set_option maxHeartbeats 8000000 in
theorem back_110 (A : Option Addr) (n c : Nat) (l : List Int) (x v : Int) (w : World) (hn : l.length = n) (h1 : n ≤ 1000) (hr : Reads w w.heap.size 1 A n (ints l)) (hbd : ∀ x ∈ l, x < 9223372036854775808) (hx : x < 9223372036854775808)
    (c1 : 0 ≤ x) (c2 : fixE x v = 0) (c3 : listE l = 2) :
    Calls Try.prog 6 #[.int .i64 x, .int .i64 v, .slice A n c] w fun e w' => e = .returned (.bool true) ∧ Below w.heap.size w w' := by
  have Hput : ∀ W, Hid (Calls Try.prog 8 #[.int .i64 x] W fun e w' => e = .returned (.tuple #[.string ⟨(putB x).toArray⟩, .int .i64 0]) ∧ Below W.heap.size W w') := fun W => by
    have := put_is x W hx
    rw [show putE x = 0 from by unfold putE; rw [if_neg (by omega)]] at this
    exact this
  have Hfix : ∀ W, Hid (Calls Try.prog 10 #[.int .i64 x, .int .i64 v] W fun e w' => e = .returned (.tuple #[.string ⟨(fixB x v).toArray⟩, .int .i64 0]) ∧ Below W.heap.size W w') := fun W => by
    have := fix_is x v W
    rw [show fixE x v = 0 from by exact c2] at this
    exact this
  have Hlist : ∀ W, Hid (Below w.heap.size w W) → Hid (Calls Try.prog 19 #[.slice A n c] W fun e w' => e = .returned (.tuple #[.string ⟨(listB l).toArray⟩, .int .i64 2]) ∧ Below W.heap.size W w') := fun W hb => by
    have := list_tuple A n c l W hn (by omega) ((hr.below hb.out).more hb.out.size) hbd
    rw [show listE l = 2 from by exact c3] at this
    exact this
  have Hsize : ∀ W, Hid (Calls Try.prog 12 #[.int .i64 x] W fun e w' => e = .returned (.int .i64 ((putB x).length : Int)) ∧ W = w') := fun W => size_any x W hx
  have Hget : ∀ W, Hid (Calls Try.prog 15 #[.string ⟨((bef ++ putB x) ++ beh).toArray⟩, .int .i64 6] W fun r w' => r = .returned (.tuple #[.int .i64 x, .int .i64 (6 + ((putB x).length : Int)), .int .i64 0]) ∧ W = w') := fun W => get_is (back_put (by omega) hx) W (by have := putB_le x; simp [bef, beh]; omega)
  have ad1 := add_bef (putB x) (by have := putB_le x; omega)
  have ad2 := add_beh (putB x) (by have := putB_le x; omega)
  have p9 : ((putB x).length : Int) ≤ 9 := by have := putB_le x; omega
  generalize (bef ++ putB x) ++ beh = X1 at *
  generalize bef ++ putB x = Y1 at *
  have Hunfix : ∀ W, Hid (Calls Try.prog 17 #[.string ⟨((bef ++ fixB x v) ++ beh).toArray⟩, .int .i64 6, .int .i64 v] W fun r w' => r = .returned (.tuple #[.int .i64 x, .int .i64 (6 + v), .int .i64 0]) ∧ W = w') := fun W => by
    have := unfix_any ((bef ++ fixB x v) ++ beh) 6 v W (by have := fixB_len c2; simp [bef, beh]; omega)
    rw [back_fix hx c2] at this
    exact this
  have ad3 := add_bef (fixB x v) (by have := fixB_len c2; omega)
  have ad4 := add_beh (fixB x v) (by have := fixB_len c2; omega)
  obtain ⟨q1, q2, q3⟩ := fixB_len c2
  generalize (bef ++ fixB x v) ++ beh = X2 at *
  generalize bef ++ fixB x v = Y2 at *
  have Hb0 : Hid (Below w.heap.size w w) := Lib.hid (Below.refl _ _)
  generalize putB x = S1 at *
  generalize fixB x v = S2 at *
  generalize listB l = S3 at *
  have h1' : (n : Int) ≤ 1000 := by omega
  clear hr hbd hn hx c2 c3
  go_enter Try.func6, Try.ntmps6
  go_wp2_with (first
    | (go_at_call 8; refine (Hput _).out.mono ?_; rintro e w1 ⟨rfl, hb1⟩; have Hb1 : Hid (Below w.heap.size w w1) := Lib.hid hb1; clear hb1)
    | (go_at_call 15; refine (Hget _).out.mono ?_; rintro e w0 ⟨rfl, rfl⟩)
    | (go_at_call 12; refine (Hsize _).out.mono ?_; rintro e w0 ⟨rfl, rfl⟩)
    | (go_at_call 10; refine (Hfix _).out.mono ?_; rintro e w2 ⟨rfl, hb2⟩; have Hb2 : Hid (Below w.heap.size w w2) := Lib.hid (Hb1.out.trans (hb2.mono Hb1.out.size)); clear hb2)
    | (go_at_call 17; refine (Hunfix _).out.mono ?_; rintro e w0 ⟨rfl, rfl⟩)
    | (go_at_call 19; refine (Hlist _ Hb2).out.mono ?_; rintro e w3 ⟨rfl, hb3⟩; have Hb3 : Hid (Below w.heap.size w w3) := Lib.hid (Hb2.out.trans (hb3.mono Hb2.out.size)); clear hb3)
    | (go_at_call 21; refine (Hunlist _).out.mono ?_; rintro e w4 ⟨A4, c4, rfl, hr4, hb4⟩; have Hr4 := Lib.hid hr4; have Hb4 : Hid (Below w.heap.size w w4) := Lib.hid (Hb3.out.trans (hb4.mono Hb3.out.size)); clear hb4 hr4)
    | (go_at_call 23; refine (Hsame _ _ _ Hb4 Hr4.out).mono ?_; rintro e w5 ⟨rfl, hb5⟩; have Hb5 : Hid (Below w.heap.size w w5) := Lib.hid (Hb4.out.trans (hb5.mono Hb4.out.size)); clear hb5)
    | (go_at_call 14; refine (awake_any _).mono ?_; rintro e w6 ⟨rfl, hb6⟩))
  go_ret
  exact ⟨rfl, Hb3.out.trans (hb6.mono Hb3.out.size)⟩

set_option maxHeartbeats 8000000 in
theorem back_101 (A : Option Addr) (n c : Nat) (l : List Int) (x v : Int) (w : World) (hn : l.length = n) (h1 : n ≤ 1000) (hr : Reads w w.heap.size 1 A n (ints l)) (hbd : ∀ x ∈ l, x < 9223372036854775808) (hx : x < 9223372036854775808)
    (c1 : 0 ≤ x) (c2 : fixE x v = 2) (c3 : listE l = 0) :
    Calls Try.prog 6 #[.int .i64 x, .int .i64 v, .slice A n c] w fun e w' => e = .returned (.bool true) ∧ Below w.heap.size w w' := by
  have Hput : ∀ W, Hid (Calls Try.prog 8 #[.int .i64 x] W fun e w' => e = .returned (.tuple #[.string ⟨(putB x).toArray⟩, .int .i64 0]) ∧ Below W.heap.size W w') := fun W => by
    have := put_is x W hx
    rw [show putE x = 0 from by unfold putE; rw [if_neg (by omega)]] at this
    exact this
  have Hfix : ∀ W, Hid (Calls Try.prog 10 #[.int .i64 x, .int .i64 v] W fun e w' => e = .returned (.tuple #[.string ⟨(fixB x v).toArray⟩, .int .i64 2]) ∧ Below W.heap.size W w') := fun W => by
    have := fix_is x v W
    rw [show fixE x v = 2 from by exact c2] at this
    exact this
  have Hlist : ∀ W, Hid (Below w.heap.size w W) → Hid (Calls Try.prog 19 #[.slice A n c] W fun e w' => e = .returned (.tuple #[.string ⟨(listB l).toArray⟩, .int .i64 0]) ∧ Below W.heap.size W w') := fun W hb => by
    have := list_tuple A n c l W hn (by omega) ((hr.below hb.out).more hb.out.size) hbd
    rw [show listE l = 0 from by exact c3] at this
    exact this
  have Hsize : ∀ W, Hid (Calls Try.prog 12 #[.int .i64 x] W fun e w' => e = .returned (.int .i64 ((putB x).length : Int)) ∧ W = w') := fun W => size_any x W hx
  have Hget : ∀ W, Hid (Calls Try.prog 15 #[.string ⟨((bef ++ putB x) ++ beh).toArray⟩, .int .i64 6] W fun r w' => r = .returned (.tuple #[.int .i64 x, .int .i64 (6 + ((putB x).length : Int)), .int .i64 0]) ∧ W = w') := fun W => get_is (back_put (by omega) hx) W (by have := putB_le x; simp [bef, beh]; omega)
  have ad1 := add_bef (putB x) (by have := putB_le x; omega)
  have ad2 := add_beh (putB x) (by have := putB_le x; omega)
  have p9 : ((putB x).length : Int) ≤ 9 := by have := putB_le x; omega
  generalize (bef ++ putB x) ++ beh = X1 at *
  generalize bef ++ putB x = Y1 at *
  have Hunlist : ∀ W, Hid (Calls Try.prog 21 #[.string ⟨((bef ++ listB l) ++ beh).toArray⟩, .int .i64 6, .int .i64 n] W fun e w' => ∃ A' c', e = .returned (.tuple #[.slice A' n c', .int .i64 (6 + ((listB l).length : Int)), .int .i64 0]) ∧ Reads w' w'.heap.size 1 A' n (ints l) ∧ Below W.heap.size W w') := fun W => by
    have e := back_list (by omega) hbd c3
    have := unlist_any ((bef ++ listB l) ++ beh) 6 l.length W (by have := listB_len l (by omega); simp [bef, beh]; omega) _ e
    rw [hn] at this
    simp only [hn] at this
    exact this
  have Hsame : ∀ W A' c', Hid (Below w.heap.size w W) → Reads W W.heap.size 1 A' n (ints l) → Calls Try.prog 23 #[.slice A' n c', .slice A n c] W fun e w' => e = .returned (.bool true) ∧ Below W.heap.size W w' := fun W A' c' hb hR => by
    have := same_any A' A n n c' c l l W hR ((hr.below hb.out).more hb.out.size) (by omega) (by omega)
    simpa using this
  have ad5 := add_bef (listB l) (by have := listB_len l (by omega); omega)
  have ad6 := add_beh (listB l) (by have := listB_len l (by omega); omega)
  have p10 : ((listB l).length : Int) ≤ 10000 := by have := listB_len l (by omega); omega
  generalize (bef ++ listB l) ++ beh = X3 at *
  generalize bef ++ listB l = Y3 at *
  have Hb0 : Hid (Below w.heap.size w w) := Lib.hid (Below.refl _ _)
  generalize putB x = S1 at *
  generalize fixB x v = S2 at *
  generalize listB l = S3 at *
  have h1' : (n : Int) ≤ 1000 := by omega
  clear hr hbd hn hx c2 c3
  go_enter Try.func6, Try.ntmps6
  go_wp2_with (first
    | (go_at_call 8; refine (Hput _).out.mono ?_; rintro e w1 ⟨rfl, hb1⟩; have Hb1 : Hid (Below w.heap.size w w1) := Lib.hid hb1; clear hb1)
    | (go_at_call 15; refine (Hget _).out.mono ?_; rintro e w0 ⟨rfl, rfl⟩)
    | (go_at_call 12; refine (Hsize _).out.mono ?_; rintro e w0 ⟨rfl, rfl⟩)
    | (go_at_call 10; refine (Hfix _).out.mono ?_; rintro e w2 ⟨rfl, hb2⟩; have Hb2 : Hid (Below w.heap.size w w2) := Lib.hid (Hb1.out.trans (hb2.mono Hb1.out.size)); clear hb2)
    | (go_at_call 17; refine (Hunfix _).out.mono ?_; rintro e w0 ⟨rfl, rfl⟩)
    | (go_at_call 19; refine (Hlist _ Hb2).out.mono ?_; rintro e w3 ⟨rfl, hb3⟩; have Hb3 : Hid (Below w.heap.size w w3) := Lib.hid (Hb2.out.trans (hb3.mono Hb2.out.size)); clear hb3)
    | (go_at_call 21; refine (Hunlist _).out.mono ?_; rintro e w4 ⟨A4, c4, rfl, hr4, hb4⟩; have Hr4 := Lib.hid hr4; have Hb4 : Hid (Below w.heap.size w w4) := Lib.hid (Hb3.out.trans (hb4.mono Hb3.out.size)); clear hb4 hr4)
    | (go_at_call 23; refine (Hsame _ _ _ Hb4 Hr4.out).mono ?_; rintro e w5 ⟨rfl, hb5⟩; have Hb5 : Hid (Below w.heap.size w w5) := Lib.hid (Hb4.out.trans (hb5.mono Hb4.out.size)); clear hb5)
    | (go_at_call 14; refine (awake_any _).mono ?_; rintro e w6 ⟨rfl, hb6⟩))
  go_ret
  exact ⟨rfl, Hb5.out.trans (hb6.mono Hb5.out.size)⟩

set_option maxHeartbeats 8000000 in
theorem back_100 (A : Option Addr) (n c : Nat) (l : List Int) (x v : Int) (w : World) (hn : l.length = n) (h1 : n ≤ 1000) (hr : Reads w w.heap.size 1 A n (ints l)) (hbd : ∀ x ∈ l, x < 9223372036854775808) (hx : x < 9223372036854775808)
    (c1 : 0 ≤ x) (c2 : fixE x v = 2) (c3 : listE l = 2) :
    Calls Try.prog 6 #[.int .i64 x, .int .i64 v, .slice A n c] w fun e w' => e = .returned (.bool true) ∧ Below w.heap.size w w' := by
  have Hput : ∀ W, Hid (Calls Try.prog 8 #[.int .i64 x] W fun e w' => e = .returned (.tuple #[.string ⟨(putB x).toArray⟩, .int .i64 0]) ∧ Below W.heap.size W w') := fun W => by
    have := put_is x W hx
    rw [show putE x = 0 from by unfold putE; rw [if_neg (by omega)]] at this
    exact this
  have Hfix : ∀ W, Hid (Calls Try.prog 10 #[.int .i64 x, .int .i64 v] W fun e w' => e = .returned (.tuple #[.string ⟨(fixB x v).toArray⟩, .int .i64 2]) ∧ Below W.heap.size W w') := fun W => by
    have := fix_is x v W
    rw [show fixE x v = 2 from by exact c2] at this
    exact this
  have Hlist : ∀ W, Hid (Below w.heap.size w W) → Hid (Calls Try.prog 19 #[.slice A n c] W fun e w' => e = .returned (.tuple #[.string ⟨(listB l).toArray⟩, .int .i64 2]) ∧ Below W.heap.size W w') := fun W hb => by
    have := list_tuple A n c l W hn (by omega) ((hr.below hb.out).more hb.out.size) hbd
    rw [show listE l = 2 from by exact c3] at this
    exact this
  have Hsize : ∀ W, Hid (Calls Try.prog 12 #[.int .i64 x] W fun e w' => e = .returned (.int .i64 ((putB x).length : Int)) ∧ W = w') := fun W => size_any x W hx
  have Hget : ∀ W, Hid (Calls Try.prog 15 #[.string ⟨((bef ++ putB x) ++ beh).toArray⟩, .int .i64 6] W fun r w' => r = .returned (.tuple #[.int .i64 x, .int .i64 (6 + ((putB x).length : Int)), .int .i64 0]) ∧ W = w') := fun W => get_is (back_put (by omega) hx) W (by have := putB_le x; simp [bef, beh]; omega)
  have ad1 := add_bef (putB x) (by have := putB_le x; omega)
  have ad2 := add_beh (putB x) (by have := putB_le x; omega)
  have p9 : ((putB x).length : Int) ≤ 9 := by have := putB_le x; omega
  generalize (bef ++ putB x) ++ beh = X1 at *
  generalize bef ++ putB x = Y1 at *
  have Hb0 : Hid (Below w.heap.size w w) := Lib.hid (Below.refl _ _)
  generalize putB x = S1 at *
  generalize fixB x v = S2 at *
  generalize listB l = S3 at *
  have h1' : (n : Int) ≤ 1000 := by omega
  clear hr hbd hn hx c2 c3
  go_enter Try.func6, Try.ntmps6
  go_wp2_with (first
    | (go_at_call 8; refine (Hput _).out.mono ?_; rintro e w1 ⟨rfl, hb1⟩; have Hb1 : Hid (Below w.heap.size w w1) := Lib.hid hb1; clear hb1)
    | (go_at_call 15; refine (Hget _).out.mono ?_; rintro e w0 ⟨rfl, rfl⟩)
    | (go_at_call 12; refine (Hsize _).out.mono ?_; rintro e w0 ⟨rfl, rfl⟩)
    | (go_at_call 10; refine (Hfix _).out.mono ?_; rintro e w2 ⟨rfl, hb2⟩; have Hb2 : Hid (Below w.heap.size w w2) := Lib.hid (Hb1.out.trans (hb2.mono Hb1.out.size)); clear hb2)
    | (go_at_call 17; refine (Hunfix _).out.mono ?_; rintro e w0 ⟨rfl, rfl⟩)
    | (go_at_call 19; refine (Hlist _ Hb2).out.mono ?_; rintro e w3 ⟨rfl, hb3⟩; have Hb3 : Hid (Below w.heap.size w w3) := Lib.hid (Hb2.out.trans (hb3.mono Hb2.out.size)); clear hb3)
    | (go_at_call 21; refine (Hunlist _).out.mono ?_; rintro e w4 ⟨A4, c4, rfl, hr4, hb4⟩; have Hr4 := Lib.hid hr4; have Hb4 : Hid (Below w.heap.size w w4) := Lib.hid (Hb3.out.trans (hb4.mono Hb3.out.size)); clear hb4 hr4)
    | (go_at_call 23; refine (Hsame _ _ _ Hb4 Hr4.out).mono ?_; rintro e w5 ⟨rfl, hb5⟩; have Hb5 : Hid (Below w.heap.size w w5) := Lib.hid (Hb4.out.trans (hb5.mono Hb4.out.size)); clear hb5)
    | (go_at_call 14; refine (awake_any _).mono ?_; rintro e w6 ⟨rfl, hb6⟩))
  go_ret
  exact ⟨rfl, Hb3.out.trans (hb6.mono Hb3.out.size)⟩

set_option maxHeartbeats 8000000 in
theorem back_011 (A : Option Addr) (n c : Nat) (l : List Int) (x v : Int) (w : World) (hn : l.length = n) (h1 : n ≤ 1000) (hr : Reads w w.heap.size 1 A n (ints l)) (hbd : ∀ x ∈ l, x < 9223372036854775808) (hx : x < 9223372036854775808)
    (c1 : x < 0) (c2 : fixE x v = 0) (c3 : listE l = 0) :
    Calls Try.prog 6 #[.int .i64 x, .int .i64 v, .slice A n c] w fun e w' => e = .returned (.bool true) ∧ Below w.heap.size w w' := by
  have Hput : ∀ W, Hid (Calls Try.prog 8 #[.int .i64 x] W fun e w' => e = .returned (.tuple #[.string ⟨(putB x).toArray⟩, .int .i64 2]) ∧ Below W.heap.size W w') := fun W => by
    have := put_is x W hx
    rw [show putE x = 2 from by unfold putE; rw [if_pos c1]] at this
    exact this
  have Hfix : ∀ W, Hid (Calls Try.prog 10 #[.int .i64 x, .int .i64 v] W fun e w' => e = .returned (.tuple #[.string ⟨(fixB x v).toArray⟩, .int .i64 0]) ∧ Below W.heap.size W w') := fun W => by
    have := fix_is x v W
    rw [show fixE x v = 0 from by exact c2] at this
    exact this
  have Hlist : ∀ W, Hid (Below w.heap.size w W) → Hid (Calls Try.prog 19 #[.slice A n c] W fun e w' => e = .returned (.tuple #[.string ⟨(listB l).toArray⟩, .int .i64 0]) ∧ Below W.heap.size W w') := fun W hb => by
    have := list_tuple A n c l W hn (by omega) ((hr.below hb.out).more hb.out.size) hbd
    rw [show listE l = 0 from by exact c3] at this
    exact this
  have Hunfix : ∀ W, Hid (Calls Try.prog 17 #[.string ⟨((bef ++ fixB x v) ++ beh).toArray⟩, .int .i64 6, .int .i64 v] W fun r w' => r = .returned (.tuple #[.int .i64 x, .int .i64 (6 + v), .int .i64 0]) ∧ W = w') := fun W => by
    have := unfix_any ((bef ++ fixB x v) ++ beh) 6 v W (by have := fixB_len c2; simp [bef, beh]; omega)
    rw [back_fix hx c2] at this
    exact this
  have ad3 := add_bef (fixB x v) (by have := fixB_len c2; omega)
  have ad4 := add_beh (fixB x v) (by have := fixB_len c2; omega)
  obtain ⟨q1, q2, q3⟩ := fixB_len c2
  generalize (bef ++ fixB x v) ++ beh = X2 at *
  generalize bef ++ fixB x v = Y2 at *
  have Hunlist : ∀ W, Hid (Calls Try.prog 21 #[.string ⟨((bef ++ listB l) ++ beh).toArray⟩, .int .i64 6, .int .i64 n] W fun e w' => ∃ A' c', e = .returned (.tuple #[.slice A' n c', .int .i64 (6 + ((listB l).length : Int)), .int .i64 0]) ∧ Reads w' w'.heap.size 1 A' n (ints l) ∧ Below W.heap.size W w') := fun W => by
    have e := back_list (by omega) hbd c3
    have := unlist_any ((bef ++ listB l) ++ beh) 6 l.length W (by have := listB_len l (by omega); simp [bef, beh]; omega) _ e
    rw [hn] at this
    simp only [hn] at this
    exact this
  have Hsame : ∀ W A' c', Hid (Below w.heap.size w W) → Reads W W.heap.size 1 A' n (ints l) → Calls Try.prog 23 #[.slice A' n c', .slice A n c] W fun e w' => e = .returned (.bool true) ∧ Below W.heap.size W w' := fun W A' c' hb hR => by
    have := same_any A' A n n c' c l l W hR ((hr.below hb.out).more hb.out.size) (by omega) (by omega)
    simpa using this
  have ad5 := add_bef (listB l) (by have := listB_len l (by omega); omega)
  have ad6 := add_beh (listB l) (by have := listB_len l (by omega); omega)
  have p10 : ((listB l).length : Int) ≤ 10000 := by have := listB_len l (by omega); omega
  generalize (bef ++ listB l) ++ beh = X3 at *
  generalize bef ++ listB l = Y3 at *
  have Hb0 : Hid (Below w.heap.size w w) := Lib.hid (Below.refl _ _)
  generalize putB x = S1 at *
  generalize fixB x v = S2 at *
  generalize listB l = S3 at *
  have h1' : (n : Int) ≤ 1000 := by omega
  clear hr hbd hn hx c2 c3
  go_enter Try.func6, Try.ntmps6
  go_wp2_with (first
    | (go_at_call 8; refine (Hput _).out.mono ?_; rintro e w1 ⟨rfl, hb1⟩; have Hb1 : Hid (Below w.heap.size w w1) := Lib.hid hb1; clear hb1)
    | (go_at_call 15; refine (Hget _).out.mono ?_; rintro e w0 ⟨rfl, rfl⟩)
    | (go_at_call 12; refine (Hsize _).out.mono ?_; rintro e w0 ⟨rfl, rfl⟩)
    | (go_at_call 10; refine (Hfix _).out.mono ?_; rintro e w2 ⟨rfl, hb2⟩; have Hb2 : Hid (Below w.heap.size w w2) := Lib.hid (Hb1.out.trans (hb2.mono Hb1.out.size)); clear hb2)
    | (go_at_call 17; refine (Hunfix _).out.mono ?_; rintro e w0 ⟨rfl, rfl⟩)
    | (go_at_call 19; refine (Hlist _ Hb2).out.mono ?_; rintro e w3 ⟨rfl, hb3⟩; have Hb3 : Hid (Below w.heap.size w w3) := Lib.hid (Hb2.out.trans (hb3.mono Hb2.out.size)); clear hb3)
    | (go_at_call 21; refine (Hunlist _).out.mono ?_; rintro e w4 ⟨A4, c4, rfl, hr4, hb4⟩; have Hr4 := Lib.hid hr4; have Hb4 : Hid (Below w.heap.size w w4) := Lib.hid (Hb3.out.trans (hb4.mono Hb3.out.size)); clear hb4 hr4)
    | (go_at_call 23; refine (Hsame _ _ _ Hb4 Hr4.out).mono ?_; rintro e w5 ⟨rfl, hb5⟩; have Hb5 : Hid (Below w.heap.size w w5) := Lib.hid (Hb4.out.trans (hb5.mono Hb4.out.size)); clear hb5)
    | (go_at_call 14; refine (awake_any _).mono ?_; rintro e w6 ⟨rfl, hb6⟩))
  go_ret
  exact ⟨rfl, Hb5.out.trans (hb6.mono Hb5.out.size)⟩

set_option maxHeartbeats 8000000 in
theorem back_010 (A : Option Addr) (n c : Nat) (l : List Int) (x v : Int) (w : World) (hn : l.length = n) (h1 : n ≤ 1000) (hr : Reads w w.heap.size 1 A n (ints l)) (hbd : ∀ x ∈ l, x < 9223372036854775808) (hx : x < 9223372036854775808)
    (c1 : x < 0) (c2 : fixE x v = 0) (c3 : listE l = 2) :
    Calls Try.prog 6 #[.int .i64 x, .int .i64 v, .slice A n c] w fun e w' => e = .returned (.bool true) ∧ Below w.heap.size w w' := by
  have Hput : ∀ W, Hid (Calls Try.prog 8 #[.int .i64 x] W fun e w' => e = .returned (.tuple #[.string ⟨(putB x).toArray⟩, .int .i64 2]) ∧ Below W.heap.size W w') := fun W => by
    have := put_is x W hx
    rw [show putE x = 2 from by unfold putE; rw [if_pos c1]] at this
    exact this
  have Hfix : ∀ W, Hid (Calls Try.prog 10 #[.int .i64 x, .int .i64 v] W fun e w' => e = .returned (.tuple #[.string ⟨(fixB x v).toArray⟩, .int .i64 0]) ∧ Below W.heap.size W w') := fun W => by
    have := fix_is x v W
    rw [show fixE x v = 0 from by exact c2] at this
    exact this
  have Hlist : ∀ W, Hid (Below w.heap.size w W) → Hid (Calls Try.prog 19 #[.slice A n c] W fun e w' => e = .returned (.tuple #[.string ⟨(listB l).toArray⟩, .int .i64 2]) ∧ Below W.heap.size W w') := fun W hb => by
    have := list_tuple A n c l W hn (by omega) ((hr.below hb.out).more hb.out.size) hbd
    rw [show listE l = 2 from by exact c3] at this
    exact this
  have Hunfix : ∀ W, Hid (Calls Try.prog 17 #[.string ⟨((bef ++ fixB x v) ++ beh).toArray⟩, .int .i64 6, .int .i64 v] W fun r w' => r = .returned (.tuple #[.int .i64 x, .int .i64 (6 + v), .int .i64 0]) ∧ W = w') := fun W => by
    have := unfix_any ((bef ++ fixB x v) ++ beh) 6 v W (by have := fixB_len c2; simp [bef, beh]; omega)
    rw [back_fix hx c2] at this
    exact this
  have ad3 := add_bef (fixB x v) (by have := fixB_len c2; omega)
  have ad4 := add_beh (fixB x v) (by have := fixB_len c2; omega)
  obtain ⟨q1, q2, q3⟩ := fixB_len c2
  generalize (bef ++ fixB x v) ++ beh = X2 at *
  generalize bef ++ fixB x v = Y2 at *
  have Hb0 : Hid (Below w.heap.size w w) := Lib.hid (Below.refl _ _)
  generalize putB x = S1 at *
  generalize fixB x v = S2 at *
  generalize listB l = S3 at *
  have h1' : (n : Int) ≤ 1000 := by omega
  clear hr hbd hn hx c2 c3
  go_enter Try.func6, Try.ntmps6
  go_wp2_with (first
    | (go_at_call 8; refine (Hput _).out.mono ?_; rintro e w1 ⟨rfl, hb1⟩; have Hb1 : Hid (Below w.heap.size w w1) := Lib.hid hb1; clear hb1)
    | (go_at_call 15; refine (Hget _).out.mono ?_; rintro e w0 ⟨rfl, rfl⟩)
    | (go_at_call 12; refine (Hsize _).out.mono ?_; rintro e w0 ⟨rfl, rfl⟩)
    | (go_at_call 10; refine (Hfix _).out.mono ?_; rintro e w2 ⟨rfl, hb2⟩; have Hb2 : Hid (Below w.heap.size w w2) := Lib.hid (Hb1.out.trans (hb2.mono Hb1.out.size)); clear hb2)
    | (go_at_call 17; refine (Hunfix _).out.mono ?_; rintro e w0 ⟨rfl, rfl⟩)
    | (go_at_call 19; refine (Hlist _ Hb2).out.mono ?_; rintro e w3 ⟨rfl, hb3⟩; have Hb3 : Hid (Below w.heap.size w w3) := Lib.hid (Hb2.out.trans (hb3.mono Hb2.out.size)); clear hb3)
    | (go_at_call 21; refine (Hunlist _).out.mono ?_; rintro e w4 ⟨A4, c4, rfl, hr4, hb4⟩; have Hr4 := Lib.hid hr4; have Hb4 : Hid (Below w.heap.size w w4) := Lib.hid (Hb3.out.trans (hb4.mono Hb3.out.size)); clear hb4 hr4)
    | (go_at_call 23; refine (Hsame _ _ _ Hb4 Hr4.out).mono ?_; rintro e w5 ⟨rfl, hb5⟩; have Hb5 : Hid (Below w.heap.size w w5) := Lib.hid (Hb4.out.trans (hb5.mono Hb4.out.size)); clear hb5)
    | (go_at_call 14; refine (awake_any _).mono ?_; rintro e w6 ⟨rfl, hb6⟩))
  go_ret
  exact ⟨rfl, Hb3.out.trans (hb6.mono Hb3.out.size)⟩

set_option maxHeartbeats 8000000 in
theorem back_001 (A : Option Addr) (n c : Nat) (l : List Int) (x v : Int) (w : World) (hn : l.length = n) (h1 : n ≤ 1000) (hr : Reads w w.heap.size 1 A n (ints l)) (hbd : ∀ x ∈ l, x < 9223372036854775808) (hx : x < 9223372036854775808)
    (c1 : x < 0) (c2 : fixE x v = 2) (c3 : listE l = 0) :
    Calls Try.prog 6 #[.int .i64 x, .int .i64 v, .slice A n c] w fun e w' => e = .returned (.bool true) ∧ Below w.heap.size w w' := by
  have Hput : ∀ W, Hid (Calls Try.prog 8 #[.int .i64 x] W fun e w' => e = .returned (.tuple #[.string ⟨(putB x).toArray⟩, .int .i64 2]) ∧ Below W.heap.size W w') := fun W => by
    have := put_is x W hx
    rw [show putE x = 2 from by unfold putE; rw [if_pos c1]] at this
    exact this
  have Hfix : ∀ W, Hid (Calls Try.prog 10 #[.int .i64 x, .int .i64 v] W fun e w' => e = .returned (.tuple #[.string ⟨(fixB x v).toArray⟩, .int .i64 2]) ∧ Below W.heap.size W w') := fun W => by
    have := fix_is x v W
    rw [show fixE x v = 2 from by exact c2] at this
    exact this
  have Hlist : ∀ W, Hid (Below w.heap.size w W) → Hid (Calls Try.prog 19 #[.slice A n c] W fun e w' => e = .returned (.tuple #[.string ⟨(listB l).toArray⟩, .int .i64 0]) ∧ Below W.heap.size W w') := fun W hb => by
    have := list_tuple A n c l W hn (by omega) ((hr.below hb.out).more hb.out.size) hbd
    rw [show listE l = 0 from by exact c3] at this
    exact this
  have Hunlist : ∀ W, Hid (Calls Try.prog 21 #[.string ⟨((bef ++ listB l) ++ beh).toArray⟩, .int .i64 6, .int .i64 n] W fun e w' => ∃ A' c', e = .returned (.tuple #[.slice A' n c', .int .i64 (6 + ((listB l).length : Int)), .int .i64 0]) ∧ Reads w' w'.heap.size 1 A' n (ints l) ∧ Below W.heap.size W w') := fun W => by
    have e := back_list (by omega) hbd c3
    have := unlist_any ((bef ++ listB l) ++ beh) 6 l.length W (by have := listB_len l (by omega); simp [bef, beh]; omega) _ e
    rw [hn] at this
    simp only [hn] at this
    exact this
  have Hsame : ∀ W A' c', Hid (Below w.heap.size w W) → Reads W W.heap.size 1 A' n (ints l) → Calls Try.prog 23 #[.slice A' n c', .slice A n c] W fun e w' => e = .returned (.bool true) ∧ Below W.heap.size W w' := fun W A' c' hb hR => by
    have := same_any A' A n n c' c l l W hR ((hr.below hb.out).more hb.out.size) (by omega) (by omega)
    simpa using this
  have ad5 := add_bef (listB l) (by have := listB_len l (by omega); omega)
  have ad6 := add_beh (listB l) (by have := listB_len l (by omega); omega)
  have p10 : ((listB l).length : Int) ≤ 10000 := by have := listB_len l (by omega); omega
  generalize (bef ++ listB l) ++ beh = X3 at *
  generalize bef ++ listB l = Y3 at *
  have Hb0 : Hid (Below w.heap.size w w) := Lib.hid (Below.refl _ _)
  generalize putB x = S1 at *
  generalize fixB x v = S2 at *
  generalize listB l = S3 at *
  have h1' : (n : Int) ≤ 1000 := by omega
  clear hr hbd hn hx c2 c3
  go_enter Try.func6, Try.ntmps6
  go_wp2_with (first
    | (go_at_call 8; refine (Hput _).out.mono ?_; rintro e w1 ⟨rfl, hb1⟩; have Hb1 : Hid (Below w.heap.size w w1) := Lib.hid hb1; clear hb1)
    | (go_at_call 15; refine (Hget _).out.mono ?_; rintro e w0 ⟨rfl, rfl⟩)
    | (go_at_call 12; refine (Hsize _).out.mono ?_; rintro e w0 ⟨rfl, rfl⟩)
    | (go_at_call 10; refine (Hfix _).out.mono ?_; rintro e w2 ⟨rfl, hb2⟩; have Hb2 : Hid (Below w.heap.size w w2) := Lib.hid (Hb1.out.trans (hb2.mono Hb1.out.size)); clear hb2)
    | (go_at_call 17; refine (Hunfix _).out.mono ?_; rintro e w0 ⟨rfl, rfl⟩)
    | (go_at_call 19; refine (Hlist _ Hb2).out.mono ?_; rintro e w3 ⟨rfl, hb3⟩; have Hb3 : Hid (Below w.heap.size w w3) := Lib.hid (Hb2.out.trans (hb3.mono Hb2.out.size)); clear hb3)
    | (go_at_call 21; refine (Hunlist _).out.mono ?_; rintro e w4 ⟨A4, c4, rfl, hr4, hb4⟩; have Hr4 := Lib.hid hr4; have Hb4 : Hid (Below w.heap.size w w4) := Lib.hid (Hb3.out.trans (hb4.mono Hb3.out.size)); clear hb4 hr4)
    | (go_at_call 23; refine (Hsame _ _ _ Hb4 Hr4.out).mono ?_; rintro e w5 ⟨rfl, hb5⟩; have Hb5 : Hid (Below w.heap.size w w5) := Lib.hid (Hb4.out.trans (hb5.mono Hb4.out.size)); clear hb5)
    | (go_at_call 14; refine (awake_any _).mono ?_; rintro e w6 ⟨rfl, hb6⟩))
  go_ret
  exact ⟨rfl, Hb5.out.trans (hb6.mono Hb5.out.size)⟩

set_option maxHeartbeats 8000000 in
theorem back_000 (A : Option Addr) (n c : Nat) (l : List Int) (x v : Int) (w : World) (hn : l.length = n) (h1 : n ≤ 1000) (hr : Reads w w.heap.size 1 A n (ints l)) (hbd : ∀ x ∈ l, x < 9223372036854775808) (hx : x < 9223372036854775808)
    (c1 : x < 0) (c2 : fixE x v = 2) (c3 : listE l = 2) :
    Calls Try.prog 6 #[.int .i64 x, .int .i64 v, .slice A n c] w fun e w' => e = .returned (.bool true) ∧ Below w.heap.size w w' := by
  have Hput : ∀ W, Hid (Calls Try.prog 8 #[.int .i64 x] W fun e w' => e = .returned (.tuple #[.string ⟨(putB x).toArray⟩, .int .i64 2]) ∧ Below W.heap.size W w') := fun W => by
    have := put_is x W hx
    rw [show putE x = 2 from by unfold putE; rw [if_pos c1]] at this
    exact this
  have Hfix : ∀ W, Hid (Calls Try.prog 10 #[.int .i64 x, .int .i64 v] W fun e w' => e = .returned (.tuple #[.string ⟨(fixB x v).toArray⟩, .int .i64 2]) ∧ Below W.heap.size W w') := fun W => by
    have := fix_is x v W
    rw [show fixE x v = 2 from by exact c2] at this
    exact this
  have Hlist : ∀ W, Hid (Below w.heap.size w W) → Hid (Calls Try.prog 19 #[.slice A n c] W fun e w' => e = .returned (.tuple #[.string ⟨(listB l).toArray⟩, .int .i64 2]) ∧ Below W.heap.size W w') := fun W hb => by
    have := list_tuple A n c l W hn (by omega) ((hr.below hb.out).more hb.out.size) hbd
    rw [show listE l = 2 from by exact c3] at this
    exact this
  have Hb0 : Hid (Below w.heap.size w w) := Lib.hid (Below.refl _ _)
  generalize putB x = S1 at *
  generalize fixB x v = S2 at *
  generalize listB l = S3 at *
  have h1' : (n : Int) ≤ 1000 := by omega
  clear hr hbd hn hx c2 c3
  go_enter Try.func6, Try.ntmps6
  go_wp2_with (first
    | (go_at_call 8; refine (Hput _).out.mono ?_; rintro e w1 ⟨rfl, hb1⟩; have Hb1 : Hid (Below w.heap.size w w1) := Lib.hid hb1; clear hb1)
    | (go_at_call 15; refine (Hget _).out.mono ?_; rintro e w0 ⟨rfl, rfl⟩)
    | (go_at_call 12; refine (Hsize _).out.mono ?_; rintro e w0 ⟨rfl, rfl⟩)
    | (go_at_call 10; refine (Hfix _).out.mono ?_; rintro e w2 ⟨rfl, hb2⟩; have Hb2 : Hid (Below w.heap.size w w2) := Lib.hid (Hb1.out.trans (hb2.mono Hb1.out.size)); clear hb2)
    | (go_at_call 17; refine (Hunfix _).out.mono ?_; rintro e w0 ⟨rfl, rfl⟩)
    | (go_at_call 19; refine (Hlist _ Hb2).out.mono ?_; rintro e w3 ⟨rfl, hb3⟩; have Hb3 : Hid (Below w.heap.size w w3) := Lib.hid (Hb2.out.trans (hb3.mono Hb2.out.size)); clear hb3)
    | (go_at_call 21; refine (Hunlist _).out.mono ?_; rintro e w4 ⟨A4, c4, rfl, hr4, hb4⟩; have Hr4 := Lib.hid hr4; have Hb4 : Hid (Below w.heap.size w w4) := Lib.hid (Hb3.out.trans (hb4.mono Hb3.out.size)); clear hb4 hr4)
    | (go_at_call 23; refine (Hsame _ _ _ Hb4 Hr4.out).mono ?_; rintro e w5 ⟨rfl, hb5⟩; have Hb5 : Hid (Below w.heap.size w w5) := Lib.hid (Hb4.out.trans (hb5.mono Hb4.out.size)); clear hb5)
    | (go_at_call 14; refine (awake_any _).mono ?_; rintro e w6 ⟨rfl, hb6⟩))
  go_ret
  exact ⟨rfl, Hb3.out.trans (hb6.mono Hb3.out.size)⟩

theorem fixE_or (x v : Int) : fixE x v = 0 ∨ fixE x v = 2 := by
  unfold fixE
  split <;> simp
theorem listE_or (l : List Int) : listE l = 0 ∨ listE l = 2 := by
  unfold listE
  split <;> simp
theorem back_walk (A : Option Addr) (n c : Nat) (l : List Int) (x v : Int) (w : World) (hn : l.length = n) (hr : Reads w w.heap.size 1 A n (ints l)) (hbd : ∀ x ∈ l, x < 9223372036854775808) (hx : x < 9223372036854775808) :
    Calls Try.prog 6 #[.int .i64 x, .int .i64 v, .slice A n c] w fun e w' => e = .returned (.bool true) ∧ Below w.heap.size w w' := by
  by_cases h1 : 1000 < n
  · exact back_far A n c x v w h1
  · have h1' : n ≤ 1000 := by omega
    by_cases c1 : 0 ≤ x
    · rcases fixE_or x v with c2 | c2 <;> rcases listE_or l with c3 | c3
      · exact back_111 A n c l x v w hn h1' hr hbd hx c1 c2 c3
      · exact back_110 A n c l x v w hn h1' hr hbd hx c1 c2 c3
      · exact back_101 A n c l x v w hn h1' hr hbd hx c1 c2 c3
      · exact back_100 A n c l x v w hn h1' hr hbd hx c1 c2 c3
    · have c1' : x < 0 := by omega
      rcases fixE_or x v with c2 | c2 <;> rcases listE_or l with c3 | c3
      · exact back_011 A n c l x v w hn h1' hr hbd hx c1' c2 c3
      · exact back_010 A n c l x v w hn h1' hr hbd hx c1' c2 c3
      · exact back_001 A n c l x v w hn h1' hr hbd hx c1' c2 c3
      · exact back_000 A n c l x v w hn h1' hr hbd hx c1' c2 c3

namespace VarintBack
set_option maxRecDepth 100000 in
theorem lifted (os : Os) (started : os.Started) (H : Type) (enc : TypeId × Value → H) :
    ReturnsInHanded {} Try.checked os 6 .any (Rows.varintBackSpec.pre6 enc Try.prog Try.f6 Rows.varintBackRow.domain false) (Rows.varintBackSpec.post enc Try.prog Try.f6 false true false false) := by
  refine law_sized (C := Try.checked) (tb := 4) ownP started (by kernel_rfl) Try.func6
    (ChangeSpec.witness6 (enc := enc) (C := Try.checked) false ⟨#[], #[.int .i64 0, .int .i64 0, .slice none 0 0], []⟩ 8 (by kernel_rfl) (by kernel_rfl) (by kernel_rfl) (by kernel_rfl))
    laidP (by kernel_rfl) rfl (by kernel_rfl) Try.underlying4 (by intro ds h; match ds, h with | [_, _, _], _ => rfl) ?_
  intro W base args ds p hval0 hA0 hlt _
  have hval : ∀ (j : Nat) t v, Try.f6.params[j]? = some t → args[j]? = some v → Value.okWide Try.prog W .any base t v := hval0
  have hA : DataW.TrodAll enc Try.prog W 0 (fun _ => true) true Try.f6.params.toList args.toList ds p := hA0
  rw [Try.params6] at hA hval
  obtain ⟨v0, v1, v2, d0, d1, d2, p0, p1, p2, rfl, rfl, rfl, h0, h1, h2⟩ := trodAll_three hA
  obtain ⟨x, rfl, rfl, rfl, wx⟩ := open_int Try.underlying3 (hval 0 3 v0 rfl rfl) h0
  obtain ⟨v, rfl, rfl, rfl, wv⟩ := open_int Try.underlying3 (hval 1 3 v1 rfl rfl) h1
  obtain ⟨Al, nl, cl, l, rfl, el, hnl, hml, hrl, hbl⟩ := open_nums rfl Try.underlying39 Try.underlying3 (by kernel_rfl) (hval 2 39 v2 rfl rfl) h2
  exact back_walk Al nl cl l x v W el hrl hbl (by have := (bounds_i64 wx).2; omega)

theorem holds : Rows.VarintBackSaid :=
  OpenClaim.holds_of_wide 6 Try.f6 rfl rfl rfl rfl rfl rfl rfl ⟨rfl, rfl, rfl, rfl, rfl⟩ rfl rfl rfl rfl rfl (by kernel_rfl) Try.func6 (by kernel_rfl)
    (of_decide_eq_true (by kernel_rfl)) (by unfold Func.isWrapper; first | (rw [if_pos (by decide +kernel)]; kernel_rfl) | (rw [if_neg (by decide +kernel)]; exact ⟨rfl, rfl⟩))
    (fun os started H enc _ => lifted os started H enc)
end VarintBack
end Go.Proofs.Ytpkjlgjnnfmnfaa
