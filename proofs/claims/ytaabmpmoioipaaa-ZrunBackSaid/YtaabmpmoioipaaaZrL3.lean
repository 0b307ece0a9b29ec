/-
  Ranks come back of their symbols, symbols of their ranks; the layer's probe holds (ZrunBack). No condition.
-/
import Derived.Test.YtaabmpmoioipaaaZrAw
import Derived.Test.YtaabmpmoioipaaaFrame
namespace Go.Proofs.Ytaabmpmoioipaaa
set_option linter.unusedSimpArgs false
set_option linter.unusedVariables false
open Go.ChangeShapes Go.WideShapes Go.ChangeAt Go.RowKit Go.Joins Go.Deep
open Go.Shelf
set_option maxHeartbeats 2000000 in
/-- Beyond the sizes that the statement looks at: the probe alone. -/
theorem zrunBack_far0 (A : Option Addr) (n c : Nat) (A2 : Option Addr) (n2 c2 : Nat) (w : World) (h : 5000 < n) :
    Calls Try.prog 5 #[.slice A n c, .slice A2 n2 c2] w fun e w' => e = .returned (.bool true) ∧ Below w.heap.size w w' := by
  have h1 : (5000 : Int) < n := by omega
  go_enter Try.func5, Try.ntmps5
  go_wp2_with (go_at_call 7; refine (awake7_any _).mono ?_; rintro e w9 ⟨rfl, hb9⟩)
  go_ret
  exact ⟨rfl, hb9⟩
set_option maxHeartbeats 2000000 in
/-- Beyond the sizes that the statement looks at: the probe alone. -/
theorem zrunBack_far1 (A : Option Addr) (n c : Nat) (A2 : Option Addr) (n2 c2 : Nat) (w : World) (h : n ≤ 5000) (k : 5000 < n2) :
    Calls Try.prog 5 #[.slice A n c, .slice A2 n2 c2] w fun e w' => e = .returned (.bool true) ∧ Below w.heap.size w w' := by
  have h1 : ¬ (5000 : Int) < n := by omega
  have h2 : (5000 : Int) < n2 := by omega
  go_enter Try.func5, Try.ntmps5
  go_wp2_with (go_at_call 7; refine (awake7_any _).mono ?_; rintro e w9 ⟨rfl, hb9⟩)
  go_ret
  exact ⟨rfl, hb9⟩

/-- Pack, its answer known. -/
theorem zpack_is (l r : List Int) (e : Int) (h : zpackF l = (r, e)) (A : Option Addr) (n c N : Nat) (w : World) (hm : n ≤ 1000000) (hc : n ≤ c) (hN : r.length = N) (hr : Reads w w.heap.size 1 A n (ints l)) :
    Calls Try.prog 8 #[.slice A n c] w fun x w' => ∃ A' c', x = .returned (.tuple #[.slice A' N c', .int .i64 e]) ∧ N ≤ c' ∧ Reads w' w'.heap.size 1 A' N (ints r) ∧ Below w.heap.size w w' := by
  have := zr_pack_any l A n c w hm hc hr
  rw [h] at this
  subst hN
  exact this
theorem zunpack_is (l r : List Int) (most e : Int) (h : zunF l most = (r, e)) (A : Option Addr) (n c N : Nat) (w : World) (hm : n ≤ 1000000) (hc : n ≤ c) (hN : r.length = N) (hr : Reads w w.heap.size 1 A n (ints l)) :
    Calls Try.prog 13 #[.slice A n c, .int .i64 most] w fun x w' => ∃ A' c', x = .returned (.tuple #[.slice A' N c', .int .i64 e]) ∧ N ≤ c' ∧ Reads w' w'.heap.size 1 A' N (ints r) ∧ Below w.heap.size w w' := by
  have := zr_unpack_any l most A n c w hm hc hr
  rw [h] at this
  subst hN
  exact this

set_option maxRecDepth 100000 in
set_option maxHeartbeats 8000000 in
theorem zrunBack_go (A : Option Addr) (n c : Nat) (l : List Int) (A2 : Option Addr) (n2 c2 : Nat) (s : List Int) (w : World) (hc : n ≤ c) (hr : Reads w w.heap.size 1 A n (ints l)) (hc2 : n2 ≤ c2) (hr2 : Reads w w.heap.size 1 A2 n2 (ints s)) (h : n ≤ 5000) (k : n2 ≤ 5000) (hg : zgood 255 l = true) (r : List Int) (ho : zunF s 5000 = (r, 0)) :
    Calls Try.prog 5 #[.slice A n c, .slice A2 n2 c2] w fun e w' => e = .returned (.bool true) ∧ Below w.heap.size w w' := by
  have h1 : ¬ (5000 : Int) < n := by omega
  have h2 : ¬ (5000 : Int) < n2 := by omega
  have el : l.length = n := by have := hr.1; rw [ints_length] at this; omega
  have es : s.length = n2 := by have := hr2.1; rw [ints_length] at this; omega
  obtain ⟨hu1, hc1, hl1⟩ := zback l (by omega) hg
  rw [el] at hu1
  have Hpk := Lib.hid fun W hr => zpack_is l (zpk 0 l) 0 (by unfold zpackF; rw [if_pos hg]) A n c (zpk 0 l).length W (by omega) hc rfl hr
  have Hun := Lib.hid fun A' c' W hc' hr => zunpack_is (zpk 0 l) l n 0 hu1 A' (zpk 0 l).length c' n W (by omega) hc' el hr
  have Hct : Hid (∀ A' c' (W : World), (zpk 0 l).length ≤ c' → Reads W W.heap.size 1 A' (zpk 0 l).length (ints (zpk 0 l)) → Calls Try.prog 15 #[.slice A' (zpk 0 l).length c'] W fun e w' => e = .returned (.int .i64 (n : Int)) ∧ Below W.heap.size W w') := Lib.hid fun A' c' W hc' hr => by
    have := zr_count_any (zpk 0 l) A' (zpk 0 l).length c' W (by omega) hc' hr
    rwa [hc1, el] at this
  have hln : ¬ (n : Int) < ((zpk 0 l).length : Int) := by omega
  obtain ⟨hp2, hl2⟩ := zforth s r 5000 ho
  have Hun2 := Lib.hid fun W hr => zunpack_is s r 5000 0 ho A2 n2 c2 r.length W (by omega) hc2 rfl hr
  have Hpk2 := Lib.hid fun A' c' W hc' hr => zpack_is r s 0 hp2 A' r.length c' n2 W (by omega) hc' es hr
  have Hsame : Hid (∀ (xs : List Int) (N : Nat) (A1 A2 : Option Addr) (c1 c2 : Nat) (W : World), N ≤ 1000000 → Reads W W.heap.size 1 A1 N (ints xs) → Reads W W.heap.size 1 A2 N (ints xs) → Calls Try.prog 10 #[.slice A1 N c1, .slice A2 N c2] W fun e w' => e = .returned (.bool true) ∧ Below W.heap.size W w') := Lib.hid fun xs N A1 A2 c1 c2 W hn h1 h2 => by
    have := same_any A1 A2 N N c1 c2 xs xs W h1 h2 (by omega) (by omega)
    rwa [show decide (xs = xs) = true from by simp] at this
  have Hn1 := Lib.hid (show n ≤ 1000000 by omega)
  have Hn2 := Lib.hid (show n2 ≤ 1000000 by omega)
  have Hr := Lib.hid hr
  have Hr2 := Lib.hid hr2
  clear hr hr2 hc hc2 el es h k hg ho hu1 hc1 hl1 hp2 hl2
  generalize zpk 0 l = T at *
  go_enter Try.func5, Try.ntmps5
  go_wp2_with (first
    | (go_at_call 8; (with_reducible refine (Hpk.out _ Hr.out).mono ?_); rintro e w1 ⟨A3, c3, rfl, hc3, hr3, hb1⟩; have Hr3 := Lib.hid hr3; have Hc3 := Lib.hid hc3; have Hb := Lib.hid hb1; clear hb1 hr3 hc3 Hpk)
    | (go_at_call 13; (with_reducible refine (Hun.out _ _ _ Hc3.out Hr3.out).mono ?_); rintro e w2 ⟨A4, c4, rfl, hc4, hr4, hb2⟩; have Hr4 := Lib.hid hr4; replace Hr3 := Lib.hid ((Hr3.out.below hb2).more hb2.size); replace Hb := Lib.hid (Hb.out.trans (hb2.mono Hb.out.size)); clear hb2 hr4 hc4 Hun)
    | (go_at_call 10; (with_reducible refine (Hsame.out l _ _ _ _ _ _ Hn1.out Hr4.out ((Hr.out.below Hb.out).more Hb.out.size)).mono ?_); rintro e w3 ⟨rfl, hb3⟩; replace Hr3 := Lib.hid ((Hr3.out.below hb3).more hb3.size); replace Hb := Lib.hid (Hb.out.trans (hb3.mono Hb.out.size)); clear hb3 Hr4)
    | (go_at_call 15; refine (Hct.out _ _ _ Hc3.out Hr3.out).mono ?_; rintro e w4 ⟨rfl, hb4⟩; replace Hb := Lib.hid (Hb.out.trans (hb4.mono Hb.out.size)); clear hb4 Hr3)
    | (go_at_call 13; (with_reducible refine (Hun2.out _ ((Hr2.out.below Hb.out).more Hb.out.size)).mono ?_); rintro e w5 ⟨A5, c5, rfl, hc5, hr5, hb5⟩; have Hr5 := Lib.hid hr5; have Hc5 := Lib.hid hc5; replace Hb := Lib.hid (Hb.out.trans (hb5.mono Hb.out.size)); clear hb5 hr5 hc5 Hun2)
    | (go_at_call 8; (with_reducible refine (Hpk2.out _ _ _ Hc5.out Hr5.out).mono ?_); rintro e w6 ⟨A6, c6, rfl, _, hr6, hb6⟩; have Hr6 := Lib.hid hr6; replace Hb := Lib.hid (Hb.out.trans (hb6.mono Hb.out.size)); clear hb6 hr6)
    | (go_at_call 10; (with_reducible refine (Hsame.out s _ _ _ _ _ _ Hn2.out Hr6.out ((Hr2.out.below Hb.out).more Hb.out.size)).mono ?_); rintro e w7 ⟨rfl, hb7⟩; replace Hb := Lib.hid (Hb.out.trans (hb7.mono Hb.out.size)); clear hb7)
    | (go_at_call 7; refine (awake7_any _).mono ?_; rintro e w9 ⟨rfl, hb9⟩; replace Hb := Lib.hid (Hb.out.trans (hb9.mono Hb.out.size)); clear hb9))
  go_ret
  exact ⟨rfl, Hb.out⟩

set_option maxRecDepth 100000 in
set_option maxHeartbeats 8000000 in
theorem zrunBack_ge (A : Option Addr) (n c : Nat) (l : List Int) (A2 : Option Addr) (n2 c2 : Nat) (s : List Int) (w : World) (hc : n ≤ c) (hr : Reads w w.heap.size 1 A n (ints l)) (hc2 : n2 ≤ c2) (hr2 : Reads w w.heap.size 1 A2 n2 (ints s)) (h : n ≤ 5000) (k : n2 ≤ 5000) (hg : zgood 255 l = true) (r : List Int) (g : Int) (ho : zunF s 5000 = (r, g)) (hg0 : g ≠ 0) :
    Calls Try.prog 5 #[.slice A n c, .slice A2 n2 c2] w fun e w' => e = .returned (.bool true) ∧ Below w.heap.size w w' := by
  have h1 : ¬ (5000 : Int) < n := by omega
  have h2 : ¬ (5000 : Int) < n2 := by omega
  have el : l.length = n := by have := hr.1; rw [ints_length] at this; omega
  have es : s.length = n2 := by have := hr2.1; rw [ints_length] at this; omega
  obtain ⟨hu1, hc1, hl1⟩ := zback l (by omega) hg
  rw [el] at hu1
  have Hpk := Lib.hid fun W hr => zpack_is l (zpk 0 l) 0 (by unfold zpackF; rw [if_pos hg]) A n c (zpk 0 l).length W (by omega) hc rfl hr
  have Hun := Lib.hid fun A' c' W hc' hr => zunpack_is (zpk 0 l) l n 0 hu1 A' (zpk 0 l).length c' n W (by omega) hc' el hr
  have Hct : Hid (∀ A' c' (W : World), (zpk 0 l).length ≤ c' → Reads W W.heap.size 1 A' (zpk 0 l).length (ints (zpk 0 l)) → Calls Try.prog 15 #[.slice A' (zpk 0 l).length c'] W fun e w' => e = .returned (.int .i64 (n : Int)) ∧ Below W.heap.size W w') := Lib.hid fun A' c' W hc' hr => by
    have := zr_count_any (zpk 0 l) A' (zpk 0 l).length c' W (by omega) hc' hr
    rwa [hc1, el] at this
  have hln : ¬ (n : Int) < ((zpk 0 l).length : Int) := by omega
  have hr0 := zunF_bad s r 5000 g ho hg0
  subst hr0
  have hgb : (g == 0) = false := by simpa using hg0
  have Hun2 := Lib.hid fun W hr => zunpack_is s [] 5000 g ho A2 n2 c2 0 W (by omega) hc2 rfl hr
  have Hsame : Hid (∀ (xs : List Int) (N : Nat) (A1 A2 : Option Addr) (c1 c2 : Nat) (W : World), N ≤ 1000000 → Reads W W.heap.size 1 A1 N (ints xs) → Reads W W.heap.size 1 A2 N (ints xs) → Calls Try.prog 10 #[.slice A1 N c1, .slice A2 N c2] W fun e w' => e = .returned (.bool true) ∧ Below W.heap.size W w') := Lib.hid fun xs N A1 A2 c1 c2 W hn h1 h2 => by
    have := same_any A1 A2 N N c1 c2 xs xs W h1 h2 (by omega) (by omega)
    rwa [show decide (xs = xs) = true from by simp] at this
  have Hn1 := Lib.hid (show n ≤ 1000000 by omega)
  have Hn2 := Lib.hid (show n2 ≤ 1000000 by omega)
  have Hr := Lib.hid hr
  have Hr2 := Lib.hid hr2
  clear hr hr2 hc hc2 el es h k hg ho hu1 hc1 hl1
  generalize zpk 0 l = T at *
  go_enter Try.func5, Try.ntmps5
  go_wp2_with (first
    | (go_at_call 8; (with_reducible refine (Hpk.out _ Hr.out).mono ?_); rintro e w1 ⟨A3, c3, rfl, hc3, hr3, hb1⟩; have Hr3 := Lib.hid hr3; have Hc3 := Lib.hid hc3; have Hb := Lib.hid hb1; clear hb1 hr3 hc3 Hpk)
    | (go_at_call 13; (with_reducible refine (Hun.out _ _ _ Hc3.out Hr3.out).mono ?_); rintro e w2 ⟨A4, c4, rfl, hc4, hr4, hb2⟩; have Hr4 := Lib.hid hr4; replace Hr3 := Lib.hid ((Hr3.out.below hb2).more hb2.size); replace Hb := Lib.hid (Hb.out.trans (hb2.mono Hb.out.size)); clear hb2 hr4 hc4 Hun)
    | (go_at_call 10; (with_reducible refine (Hsame.out l _ _ _ _ _ _ Hn1.out Hr4.out ((Hr.out.below Hb.out).more Hb.out.size)).mono ?_); rintro e w3 ⟨rfl, hb3⟩; replace Hr3 := Lib.hid ((Hr3.out.below hb3).more hb3.size); replace Hb := Lib.hid (Hb.out.trans (hb3.mono Hb.out.size)); clear hb3 Hr4)
    | (go_at_call 15; refine (Hct.out _ _ _ Hc3.out Hr3.out).mono ?_; rintro e w4 ⟨rfl, hb4⟩; replace Hb := Lib.hid (Hb.out.trans (hb4.mono Hb.out.size)); clear hb4 Hr3)
    | (go_at_call 13; (with_reducible refine (Hun2.out _ ((Hr2.out.below Hb.out).more Hb.out.size)).mono ?_); rintro e w5 ⟨A5, c5, rfl, hc5, hr5, hb5⟩; have Hr5 := Lib.hid hr5; have Hc5 := Lib.hid hc5; replace Hb := Lib.hid (Hb.out.trans (hb5.mono Hb.out.size)); clear hb5 hr5 hc5 Hun2)
    | (go_at_call 7; refine (awake7_any _).mono ?_; rintro e w9 ⟨rfl, hb9⟩; replace Hb := Lib.hid (Hb.out.trans (hb9.mono Hb.out.size)); clear hb9))
  go_ret
  exact ⟨rfl, Hb.out⟩

set_option maxRecDepth 100000 in
set_option maxHeartbeats 8000000 in
theorem zrunBack_bo (A : Option Addr) (n c : Nat) (l : List Int) (A2 : Option Addr) (n2 c2 : Nat) (s : List Int) (w : World) (hc : n ≤ c) (hr : Reads w w.heap.size 1 A n (ints l)) (hc2 : n2 ≤ c2) (hr2 : Reads w w.heap.size 1 A2 n2 (ints s)) (h : n ≤ 5000) (k : n2 ≤ 5000) (hg : ¬ zgood 255 l = true) (r : List Int) (ho : zunF s 5000 = (r, 0)) :
    Calls Try.prog 5 #[.slice A n c, .slice A2 n2 c2] w fun e w' => e = .returned (.bool true) ∧ Below w.heap.size w w' := by
  have h1 : ¬ (5000 : Int) < n := by omega
  have h2 : ¬ (5000 : Int) < n2 := by omega
  have el : l.length = n := by have := hr.1; rw [ints_length] at this; omega
  have es : s.length = n2 := by have := hr2.1; rw [ints_length] at this; omega
  have Hpk := Lib.hid fun W hr => zpack_is l [] 60 (by unfold zpackF; rw [if_neg hg]) A n c 0 W (by omega) hc rfl hr
  obtain ⟨hp2, hl2⟩ := zforth s r 5000 ho
  have Hun2 := Lib.hid fun W hr => zunpack_is s r 5000 0 ho A2 n2 c2 r.length W (by omega) hc2 rfl hr
  have Hpk2 := Lib.hid fun A' c' W hc' hr => zpack_is r s 0 hp2 A' r.length c' n2 W (by omega) hc' es hr
  have Hsame : Hid (∀ (xs : List Int) (N : Nat) (A1 A2 : Option Addr) (c1 c2 : Nat) (W : World), N ≤ 1000000 → Reads W W.heap.size 1 A1 N (ints xs) → Reads W W.heap.size 1 A2 N (ints xs) → Calls Try.prog 10 #[.slice A1 N c1, .slice A2 N c2] W fun e w' => e = .returned (.bool true) ∧ Below W.heap.size W w') := Lib.hid fun xs N A1 A2 c1 c2 W hn h1 h2 => by
    have := same_any A1 A2 N N c1 c2 xs xs W h1 h2 (by omega) (by omega)
    rwa [show decide (xs = xs) = true from by simp] at this
  have Hn1 := Lib.hid (show n ≤ 1000000 by omega)
  have Hn2 := Lib.hid (show n2 ≤ 1000000 by omega)
  have Hr := Lib.hid hr
  have Hr2 := Lib.hid hr2
  clear hr hr2 hc hc2 el es h k hg ho hp2 hl2
  go_enter Try.func5, Try.ntmps5
  go_wp2_with (first
    | (go_at_call 8; (with_reducible refine (Hpk.out _ Hr.out).mono ?_); rintro e w1 ⟨A3, c3, rfl, hc3, hr3, hb1⟩; have Hr3 := Lib.hid hr3; have Hc3 := Lib.hid hc3; have Hb := Lib.hid hb1; clear hb1 hr3 hc3 Hpk)
    | (go_at_call 13; (with_reducible refine (Hun2.out _ ((Hr2.out.below Hb.out).more Hb.out.size)).mono ?_); rintro e w5 ⟨A5, c5, rfl, hc5, hr5, hb5⟩; have Hr5 := Lib.hid hr5; have Hc5 := Lib.hid hc5; replace Hb := Lib.hid (Hb.out.trans (hb5.mono Hb.out.size)); clear hb5 hr5 hc5 Hun2)
    | (go_at_call 8; (with_reducible refine (Hpk2.out _ _ _ Hc5.out Hr5.out).mono ?_); rintro e w6 ⟨A6, c6, rfl, _, hr6, hb6⟩; have Hr6 := Lib.hid hr6; replace Hb := Lib.hid (Hb.out.trans (hb6.mono Hb.out.size)); clear hb6 hr6)
    | (go_at_call 10; (with_reducible refine (Hsame.out s _ _ _ _ _ _ Hn2.out Hr6.out ((Hr2.out.below Hb.out).more Hb.out.size)).mono ?_); rintro e w7 ⟨rfl, hb7⟩; replace Hb := Lib.hid (Hb.out.trans (hb7.mono Hb.out.size)); clear hb7)
    | (go_at_call 7; refine (awake7_any _).mono ?_; rintro e w9 ⟨rfl, hb9⟩; replace Hb := Lib.hid (Hb.out.trans (hb9.mono Hb.out.size)); clear hb9))
  go_ret
  exact ⟨rfl, Hb.out⟩

set_option maxRecDepth 100000 in
set_option maxHeartbeats 8000000 in
theorem zrunBack_be (A : Option Addr) (n c : Nat) (l : List Int) (A2 : Option Addr) (n2 c2 : Nat) (s : List Int) (w : World) (hc : n ≤ c) (hr : Reads w w.heap.size 1 A n (ints l)) (hc2 : n2 ≤ c2) (hr2 : Reads w w.heap.size 1 A2 n2 (ints s)) (h : n ≤ 5000) (k : n2 ≤ 5000) (hg : ¬ zgood 255 l = true) (r : List Int) (g : Int) (ho : zunF s 5000 = (r, g)) (hg0 : g ≠ 0) :
    Calls Try.prog 5 #[.slice A n c, .slice A2 n2 c2] w fun e w' => e = .returned (.bool true) ∧ Below w.heap.size w w' := by
  have h1 : ¬ (5000 : Int) < n := by omega
  have h2 : ¬ (5000 : Int) < n2 := by omega
  have el : l.length = n := by have := hr.1; rw [ints_length] at this; omega
  have es : s.length = n2 := by have := hr2.1; rw [ints_length] at this; omega
  have Hpk := Lib.hid fun W hr => zpack_is l [] 60 (by unfold zpackF; rw [if_neg hg]) A n c 0 W (by omega) hc rfl hr
  have hr0 := zunF_bad s r 5000 g ho hg0
  subst hr0
  have hgb : (g == 0) = false := by simpa using hg0
  have Hun2 := Lib.hid fun W hr => zunpack_is s [] 5000 g ho A2 n2 c2 0 W (by omega) hc2 rfl hr
  have Hsame : Hid (∀ (xs : List Int) (N : Nat) (A1 A2 : Option Addr) (c1 c2 : Nat) (W : World), N ≤ 1000000 → Reads W W.heap.size 1 A1 N (ints xs) → Reads W W.heap.size 1 A2 N (ints xs) → Calls Try.prog 10 #[.slice A1 N c1, .slice A2 N c2] W fun e w' => e = .returned (.bool true) ∧ Below W.heap.size W w') := Lib.hid fun xs N A1 A2 c1 c2 W hn h1 h2 => by
    have := same_any A1 A2 N N c1 c2 xs xs W h1 h2 (by omega) (by omega)
    rwa [show decide (xs = xs) = true from by simp] at this
  have Hn1 := Lib.hid (show n ≤ 1000000 by omega)
  have Hn2 := Lib.hid (show n2 ≤ 1000000 by omega)
  have Hr := Lib.hid hr
  have Hr2 := Lib.hid hr2
  clear hr hr2 hc hc2 el es h k hg ho
  go_enter Try.func5, Try.ntmps5
  go_wp2_with (first
    | (go_at_call 8; (with_reducible refine (Hpk.out _ Hr.out).mono ?_); rintro e w1 ⟨A3, c3, rfl, hc3, hr3, hb1⟩; have Hr3 := Lib.hid hr3; have Hc3 := Lib.hid hc3; have Hb := Lib.hid hb1; clear hb1 hr3 hc3 Hpk)
    | (go_at_call 13; (with_reducible refine (Hun2.out _ ((Hr2.out.below Hb.out).more Hb.out.size)).mono ?_); rintro e w5 ⟨A5, c5, rfl, hc5, hr5, hb5⟩; have Hr5 := Lib.hid hr5; have Hc5 := Lib.hid hc5; replace Hb := Lib.hid (Hb.out.trans (hb5.mono Hb.out.size)); clear hb5 hr5 hc5 Hun2)
    | (go_at_call 7; refine (awake7_any _).mono ?_; rintro e w9 ⟨rfl, hb9⟩; replace Hb := Lib.hid (Hb.out.trans (hb9.mono Hb.out.size)); clear hb9))
  go_ret
  exact ⟨rfl, Hb.out⟩
theorem zrunBack_walk (A : Option Addr) (n c : Nat) (l : List Int) (A2 : Option Addr) (n2 c2 : Nat) (s : List Int) (w : World) (hc : n ≤ c) (hr : Reads w w.heap.size 1 A n (ints l)) (hc2 : n2 ≤ c2) (hr2 : Reads w w.heap.size 1 A2 n2 (ints s)) :
    Calls Try.prog 5 #[.slice A n c, .slice A2 n2 c2] w fun e w' => e = .returned (.bool true) ∧ Below w.heap.size w w' := by
  by_cases h : n ≤ 5000
  · by_cases k : n2 ≤ 5000
    · obtain ⟨r, g, ho⟩ : ∃ r g, zunF s 5000 = (r, g) := ⟨_, _, rfl⟩
      by_cases hg0 : g = 0
      · subst hg0
        by_cases hg : zgood 255 l = true
        · exact zrunBack_go A n c l A2 n2 c2 s w hc hr hc2 hr2 h k hg r ho
        · exact zrunBack_bo A n c l A2 n2 c2 s w hc hr hc2 hr2 h k hg r ho
      · by_cases hg : zgood 255 l = true
        · exact zrunBack_ge A n c l A2 n2 c2 s w hc hr hc2 hr2 h k hg r g ho hg0
        · exact zrunBack_be A n c l A2 n2 c2 s w hc hr hc2 hr2 h k hg r g ho hg0
    · exact zrunBack_far1 A n c A2 n2 c2 w h (by omega)
  · exact zrunBack_far0 A n c A2 n2 c2 w (by omega)

namespace ZrunBack
set_option maxRecDepth 100000 in
theorem lifted (os : Os) (started : os.Started) (H : Type) (enc : TypeId × Value → H) :
    ReturnsInHanded {} Try.checked os 5 .any (Rows.zrunBackSpec.pre6 enc Try.prog Try.f5 Rows.zrunBackRow.domain false) (Rows.zrunBackSpec.post enc Try.prog Try.f5 false true false false) := by
  refine law_sized (C := Try.checked) (tb := 4) ownP started (by kernel_rfl) Try.func5
    (ChangeSpec.witness6 (enc := enc) (C := Try.checked) false ⟨#[], #[.slice none 0 0, .slice none 0 0], []⟩ 8 (by kernel_rfl) (by kernel_rfl) (by kernel_rfl) (by kernel_rfl))
    laidP (by kernel_rfl) rfl (by kernel_rfl) Try.underlying4 (by intro ds h; match ds, h with | [_, _], _ => rfl) ?_
  intro W base args ds p hval0 hA0 hlt _
  have hval : ∀ (j : Nat) t v, Try.f5.params[j]? = some t → args[j]? = some v → Value.okWide Try.prog W .any base t v := hval0
  have hA : DataW.TrodAll enc Try.prog W 0 (fun _ => true) true Try.f5.params.toList args.toList ds p := hA0
  rw [Try.params5] at hA hval
  obtain ⟨v0, v1, d0, d1, p0, p1, rfl, rfl, rfl, h0, h1⟩ := trodAll_two hA
  obtain ⟨Aks, nks, cks, ks, rfl, eks, hnks, hmks, hrks, hbks⟩ := open_nums rfl Try.underlying22 Try.underlying3 (by kernel_rfl) (hval 0 22 v0 rfl rfl) h0
  obtain ⟨Ass, nss, css, ss, rfl, ess, hnss, hmss, hrss, hbss⟩ := open_nums rfl Try.underlying22 Try.underlying3 (by kernel_rfl) (hval 1 22 v1 rfl rfl) h1
  exact zrunBack_walk Aks nks cks ks Ass nss css ss W hnks hrks hnss hrss

theorem holds : Rows.ZrunBackSaid :=
  OpenClaim.holds_of_wide 5 Try.f5 rfl rfl rfl rfl rfl rfl rfl ⟨rfl, rfl, rfl, rfl, rfl⟩ rfl rfl rfl rfl rfl (by kernel_rfl) Try.func5 (by kernel_rfl)
    (of_decide_eq_true (by kernel_rfl)) (by unfold Func.isWrapper; first | (rw [if_pos (by decide +kernel)]; kernel_rfl) | (rw [if_neg (by decide +kernel)]; exact ⟨rfl, rfl⟩))
    (fun os started H enc _ => lifted os started H enc)
end ZrunBack
end Go.Proofs.Ytaabmpmoioipaaa
