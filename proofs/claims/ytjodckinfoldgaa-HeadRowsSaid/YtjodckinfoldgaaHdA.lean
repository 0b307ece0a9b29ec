/-
  Layer 21, the program's: within, Check, stands, follows, Put.
-/
import Derived.Test.YtjodckinfoldgaaHedQ
import Derived.Test.YtjodckinfoldgaaHedR
import Derived.Test.YtjodckinfoldgaaPcP
namespace Go.Proofs.Ytjodckinfoldgaa
set_option linter.unusedSimpArgs false
set_option linter.unusedVariables false
open Go.ChangeShapes Go.WideShapes Go.ChangeAt Go.RowKit Go.Joins Go.Deep
def hin (lo n hi : Int) : Bool := decide (lo ≤ n) && decide (n ≤ hi)
theorem hin_iff (lo n hi : Int) : hin lo n hi = true ↔ lo ≤ n ∧ n ≤ hi := by simp [hin]
theorem hin_no {lo n hi : Int} (h : ¬ (lo ≤ n ∧ n ≤ hi)) : hin lo n hi = false := by
  cases e : hin lo n hi with
  | false => rfl
  | true => exact absurd ((hin_iff _ _ _).1 e) h
theorem p_hin_any (lo n hi : Int) (w : World) : Calls Try.prog 33 #[.int .i64 lo, .int .i64 n, .int .i64 hi] w fun e w' => e = .returned (.bool (hin lo n hi)) ∧ w = w' := by
  by_cases h1 : lo ≤ n
  · by_cases h2 : n ≤ hi
    · rw [(hin_iff lo n hi).2 ⟨h1, h2⟩]
      go_enter Try.func33, Try.ntmps33
      go_wp2
      go_ret
      exact ⟨rfl, rfl⟩
    · rw [hin_no (show ¬ (lo ≤ n ∧ n ≤ hi) from fun h => h2 h.2)]
      go_enter Try.func33, Try.ntmps33
      go_wp2
      go_ret
      exact ⟨rfl, rfl⟩
  · rw [hin_no (show ¬ (lo ≤ n ∧ n ≤ hi) from fun h => h1 h.1)]
    go_enter Try.func33, Try.ntmps33
    go_wp2
    go_ret
    exact ⟨rfl, rfl⟩
set_option maxRecDepth 100000 in
set_option maxHeartbeats 4000000 in
theorem p_hchk_any (h : Hd) (w : World) : Calls Try.prog 12 #[.agg (hdc h)] w fun e w' => e = .returned (.int .i64 (hchkF h)) ∧ Below w.heap.size w w' := by
  obtain ⟨a, b, c⟩ := h
  unfold hdc
  dsimp only
  by_cases h0 : 1 ≤ a ∧ a ≤ 999999
  case neg =>
    have HF : Hid (hchkF (a, b, c) = 210) := Lib.hid (if_neg fun h => by have h9 := (hdok_iff _).1 h; dsimp only at h9; omega)
    have c0 : Hid (∀ W, Calls Try.prog 33 #[.int .i64 1, .int .i64 a, .int .i64 999999] W fun e w' => e = .returned (.bool false) ∧ W = w') := Lib.hid fun W => by have := p_hin_any 1 a 999999 W; rwa [hin_no h0] at this
    clear h0
    go_enter Try.func12, Try.ntmps12
    go_wp2_with (first
      | (go_at_call 33; (with_reducible refine (c0.out _).mono ?_); rintro e w1 ⟨rfl, rfl⟩; clear c0))
    all_goals
      go_ret
      exact ⟨by rw [HF.out]; rfl, by go_grown⟩
  by_cases h1 : 1 ≤ b ∧ b ≤ 999999
  case neg =>
    have HF : Hid (hchkF (a, b, c) = 210) := Lib.hid (if_neg fun h => by have h9 := (hdok_iff _).1 h; dsimp only at h9; omega)
    have c0 : Hid (∀ W, Calls Try.prog 33 #[.int .i64 1, .int .i64 a, .int .i64 999999] W fun e w' => e = .returned (.bool true) ∧ W = w') := Lib.hid fun W => by have := p_hin_any 1 a 999999 W; rwa [(hin_iff _ _ _).2 h0] at this
    have c1 : Hid (∀ W, Calls Try.prog 33 #[.int .i64 1, .int .i64 b, .int .i64 999999] W fun e w' => e = .returned (.bool false) ∧ W = w') := Lib.hid fun W => by have := p_hin_any 1 b 999999 W; rwa [hin_no h1] at this
    clear h0 h1
    go_enter Try.func12, Try.ntmps12
    go_wp2_with (first
      | (go_at_call 33; (with_reducible refine (c0.out _).mono ?_); rintro e w1 ⟨rfl, rfl⟩; clear c0)
      | (go_at_call 33; (with_reducible refine (c1.out _).mono ?_); rintro e w2 ⟨rfl, rfl⟩; clear c1))
    all_goals
      go_ret
      exact ⟨by rw [HF.out]; rfl, by go_grown⟩
  by_cases h2 : 1 ≤ c ∧ c ≤ 1000000000
  case neg =>
    have HF : Hid (hchkF (a, b, c) = 210) := Lib.hid (if_neg fun h => by have h9 := (hdok_iff _).1 h; dsimp only at h9; omega)
    have c0 : Hid (∀ W, Calls Try.prog 33 #[.int .i64 1, .int .i64 a, .int .i64 999999] W fun e w' => e = .returned (.bool true) ∧ W = w') := Lib.hid fun W => by have := p_hin_any 1 a 999999 W; rwa [(hin_iff _ _ _).2 h0] at this
    have c1 : Hid (∀ W, Calls Try.prog 33 #[.int .i64 1, .int .i64 b, .int .i64 999999] W fun e w' => e = .returned (.bool true) ∧ W = w') := Lib.hid fun W => by have := p_hin_any 1 b 999999 W; rwa [(hin_iff _ _ _).2 h1] at this
    have c2 : Hid (∀ W, Calls Try.prog 33 #[.int .i64 1, .int .i64 c, .int .i64 1000000000] W fun e w' => e = .returned (.bool false) ∧ W = w') := Lib.hid fun W => by have := p_hin_any 1 c 1000000000 W; rwa [hin_no h2] at this
    clear h0 h1 h2
    go_enter Try.func12, Try.ntmps12
    go_wp2_with (first
      | (go_at_call 33; (with_reducible refine (c0.out _).mono ?_); rintro e w1 ⟨rfl, rfl⟩; clear c0)
      | (go_at_call 33; (with_reducible refine (c1.out _).mono ?_); rintro e w2 ⟨rfl, rfl⟩; clear c1)
      | (go_at_call 33; (with_reducible refine (c2.out _).mono ?_); rintro e w3 ⟨rfl, rfl⟩; clear c2))
    all_goals
      go_ret
      exact ⟨by rw [HF.out]; rfl, by go_grown⟩
  have HF : Hid (hchkF (a, b, c) = 0) := Lib.hid (if_pos ((hdok_iff _).2 ⟨h0.1, h0.2, h1.1, h1.2, h2.1, h2.2⟩))
  have c0 : Hid (∀ W, Calls Try.prog 33 #[.int .i64 1, .int .i64 a, .int .i64 999999] W fun e w' => e = .returned (.bool true) ∧ W = w') := Lib.hid fun W => by have := p_hin_any 1 a 999999 W; rwa [(hin_iff _ _ _).2 h0] at this
  have c1 : Hid (∀ W, Calls Try.prog 33 #[.int .i64 1, .int .i64 b, .int .i64 999999] W fun e w' => e = .returned (.bool true) ∧ W = w') := Lib.hid fun W => by have := p_hin_any 1 b 999999 W; rwa [(hin_iff _ _ _).2 h1] at this
  have c2 : Hid (∀ W, Calls Try.prog 33 #[.int .i64 1, .int .i64 c, .int .i64 1000000000] W fun e w' => e = .returned (.bool true) ∧ W = w') := Lib.hid fun W => by have := p_hin_any 1 c 1000000000 W; rwa [(hin_iff _ _ _).2 h2] at this
  clear h0 h1 h2
  go_enter Try.func12, Try.ntmps12
  go_wp2_with (first
    | (go_at_call 33; (with_reducible refine (c0.out _).mono ?_); rintro e w1 ⟨rfl, rfl⟩; clear c0)
    | (go_at_call 33; (with_reducible refine (c1.out _).mono ?_); rintro e w2 ⟨rfl, rfl⟩; clear c1)
    | (go_at_call 33; (with_reducible refine (c2.out _).mono ?_); rintro e w3 ⟨rfl, rfl⟩; clear c2))
  all_goals
    go_ret
    exact ⟨by rw [HF.out]; rfl, by go_grown⟩
theorem hm1_no {m : Mt} (h : ¬ (0 ≤ m.1 ∧ m.1 ≤ 1000000 ∧ 10 ≤ m.2.1 ∧ m.2.1 ≤ 60009 ∧ 1 ≤ m.2.2.1 ∧ m.2.2.1 ≤ 20000 ∧ 1 ≤ m.2.2.2.1 ∧ m.2.2.2.1 ≤ m.2.2.1 ∧ 1 ≤ m.2.2.2.2.1 ∧ m.2.2.2.2.1 ≤ 1000000001 - m.2.2.2.1 ∧ 0 ≤ m.2.2.2.2.2.1 ∧ m.2.2.2.2.2.1 ≤ m.2.2.2.2.2.2 ∧ m.2.2.2.2.2.2 ≤ 1000000000)) : hm1 m = false := decide_eq_false h
theorem hm1_last {m : Mt} (h : 0 ≤ m.1 ∧ m.1 ≤ 1000000 ∧ 10 ≤ m.2.1 ∧ m.2.1 ≤ 60009 ∧ 1 ≤ m.2.2.1 ∧ m.2.2.1 ≤ 20000 ∧ 1 ≤ m.2.2.2.1 ∧ m.2.2.2.1 ≤ m.2.2.1 ∧ 1 ≤ m.2.2.2.2.1 ∧ m.2.2.2.2.1 ≤ 1000000001 - m.2.2.2.1 ∧ 0 ≤ m.2.2.2.2.2.1 ∧ m.2.2.2.2.2.1 ≤ m.2.2.2.2.2.2) : hm1 m = decide (m.2.2.2.2.2.2 ≤ 1000000000) := by
  unfold hm1
  rw [decide_eq_decide]
  exact ⟨fun g => g.2.2.2.2.2.2.2.2.2.2.2.2, fun g => ⟨h.1, h.2.1, h.2.2.1, h.2.2.2.1, h.2.2.2.2.1, h.2.2.2.2.2.1, h.2.2.2.2.2.2.1, h.2.2.2.2.2.2.2.1, h.2.2.2.2.2.2.2.2.1, h.2.2.2.2.2.2.2.2.2.1, h.2.2.2.2.2.2.2.2.2.2.1, h.2.2.2.2.2.2.2.2.2.2.2, g⟩⟩
theorem hm2_no {p m : Mt} (h : ¬ (m.1 = p.1 + p.2.1 ∧ m.2.2.2.2.1 = p.2.2.2.2.1 + p.2.2.2.1 ∧ p.2.2.2.2.2.2 ≤ m.2.2.2.2.2.1)) : hm2 p m = false := decide_eq_false h
set_option maxRecDepth 100000 in
set_option maxHeartbeats 4000000 in
theorem p_hst_any (m : Mt) (w : World) : Calls Try.prog 37 #[.agg (mtc m).toArray] w fun e w' => e = .returned (.bool (hm1 m)) ∧ Below w.heap.size w w' := by
  obtain ⟨at_, sz, raw, ct, fi, ea, la⟩ := m
  show Calls Try.prog 37 #[.agg #[.int .i64 at_, .int .i64 sz, .int .i64 raw, .int .i64 ct, .int .i64 fi, .int .i64 ea, .int .i64 la]] w fun e w' => e = .returned (.bool (hm1 (at_, sz, raw, ct, fi, ea, la))) ∧ Below w.heap.size w w'
  by_cases h0 : 0 ≤ at_ ∧ at_ ≤ 1000000
  case neg =>
    have HF : Hid (hm1 (at_, sz, raw, ct, fi, ea, la) = false) := Lib.hid (hm1_no fun h9 => by dsimp only at h9; omega)
    have c0 : Hid (∀ W, Calls Try.prog 33 #[.int .i64 0, .int .i64 at_, .int .i64 1000000] W fun e w' => e = .returned (.bool false) ∧ W = w') := Lib.hid fun W => by have := p_hin_any 0 at_ 1000000 W; rwa [hin_no h0] at this
    clear h0
    go_enter Try.func37, Try.ntmps37
    go_wp2_with (first
      | (go_at_call 33; (with_reducible refine (c0.out _).mono ?_); rintro e w1 ⟨rfl, rfl⟩; clear c0))
    all_goals
      go_ret
      exact ⟨by rw [HF.out]; rfl, by go_grown⟩
  by_cases h1 : 10 ≤ sz ∧ sz ≤ 60009
  case neg =>
    have HF : Hid (hm1 (at_, sz, raw, ct, fi, ea, la) = false) := Lib.hid (hm1_no fun h9 => by dsimp only at h9; omega)
    have c0 : Hid (∀ W, Calls Try.prog 33 #[.int .i64 0, .int .i64 at_, .int .i64 1000000] W fun e w' => e = .returned (.bool true) ∧ W = w') := Lib.hid fun W => by have := p_hin_any 0 at_ 1000000 W; rwa [(hin_iff _ _ _).2 h0] at this
    have c1 : Hid (∀ W, Calls Try.prog 33 #[.int .i64 10, .int .i64 sz, .int .i64 60009] W fun e w' => e = .returned (.bool false) ∧ W = w') := Lib.hid fun W => by have := p_hin_any 10 sz 60009 W; rwa [hin_no h1] at this
    clear h0 h1
    go_enter Try.func37, Try.ntmps37
    go_wp2_with (first
      | (go_at_call 33; (with_reducible refine (c0.out _).mono ?_); rintro e w1 ⟨rfl, rfl⟩; clear c0)
      | (go_at_call 33; (with_reducible refine (c1.out _).mono ?_); rintro e w2 ⟨rfl, rfl⟩; clear c1))
    all_goals
      go_ret
      exact ⟨by rw [HF.out]; rfl, by go_grown⟩
  by_cases h2 : 1 ≤ raw ∧ raw ≤ 20000
  case neg =>
    have HF : Hid (hm1 (at_, sz, raw, ct, fi, ea, la) = false) := Lib.hid (hm1_no fun h9 => by dsimp only at h9; omega)
    have c0 : Hid (∀ W, Calls Try.prog 33 #[.int .i64 0, .int .i64 at_, .int .i64 1000000] W fun e w' => e = .returned (.bool true) ∧ W = w') := Lib.hid fun W => by have := p_hin_any 0 at_ 1000000 W; rwa [(hin_iff _ _ _).2 h0] at this
    have c1 : Hid (∀ W, Calls Try.prog 33 #[.int .i64 10, .int .i64 sz, .int .i64 60009] W fun e w' => e = .returned (.bool true) ∧ W = w') := Lib.hid fun W => by have := p_hin_any 10 sz 60009 W; rwa [(hin_iff _ _ _).2 h1] at this
    have c2 : Hid (∀ W, Calls Try.prog 33 #[.int .i64 1, .int .i64 raw, .int .i64 20000] W fun e w' => e = .returned (.bool false) ∧ W = w') := Lib.hid fun W => by have := p_hin_any 1 raw 20000 W; rwa [hin_no h2] at this
    clear h0 h1 h2
    go_enter Try.func37, Try.ntmps37
    go_wp2_with (first
      | (go_at_call 33; (with_reducible refine (c0.out _).mono ?_); rintro e w1 ⟨rfl, rfl⟩; clear c0)
      | (go_at_call 33; (with_reducible refine (c1.out _).mono ?_); rintro e w2 ⟨rfl, rfl⟩; clear c1)
      | (go_at_call 33; (with_reducible refine (c2.out _).mono ?_); rintro e w3 ⟨rfl, rfl⟩; clear c2))
    all_goals
      go_ret
      exact ⟨by rw [HF.out]; rfl, by go_grown⟩
  by_cases h3 : 1 ≤ ct ∧ ct ≤ raw
  case neg =>
    have HF : Hid (hm1 (at_, sz, raw, ct, fi, ea, la) = false) := Lib.hid (hm1_no fun h9 => by dsimp only at h9; omega)
    have c0 : Hid (∀ W, Calls Try.prog 33 #[.int .i64 0, .int .i64 at_, .int .i64 1000000] W fun e w' => e = .returned (.bool true) ∧ W = w') := Lib.hid fun W => by have := p_hin_any 0 at_ 1000000 W; rwa [(hin_iff _ _ _).2 h0] at this
    have c1 : Hid (∀ W, Calls Try.prog 33 #[.int .i64 10, .int .i64 sz, .int .i64 60009] W fun e w' => e = .returned (.bool true) ∧ W = w') := Lib.hid fun W => by have := p_hin_any 10 sz 60009 W; rwa [(hin_iff _ _ _).2 h1] at this
    have c2 : Hid (∀ W, Calls Try.prog 33 #[.int .i64 1, .int .i64 raw, .int .i64 20000] W fun e w' => e = .returned (.bool true) ∧ W = w') := Lib.hid fun W => by have := p_hin_any 1 raw 20000 W; rwa [(hin_iff _ _ _).2 h2] at this
    have c3 : Hid (∀ W, Calls Try.prog 33 #[.int .i64 1, .int .i64 ct, .int .i64 raw] W fun e w' => e = .returned (.bool false) ∧ W = w') := Lib.hid fun W => by have := p_hin_any 1 ct raw W; rwa [hin_no h3] at this
    clear h0 h1 h2 h3
    go_enter Try.func37, Try.ntmps37
    go_wp2_with (first
      | (go_at_call 33; (with_reducible refine (c0.out _).mono ?_); rintro e w1 ⟨rfl, rfl⟩; clear c0)
      | (go_at_call 33; (with_reducible refine (c1.out _).mono ?_); rintro e w2 ⟨rfl, rfl⟩; clear c1)
      | (go_at_call 33; (with_reducible refine (c2.out _).mono ?_); rintro e w3 ⟨rfl, rfl⟩; clear c2)
      | (go_at_call 33; (with_reducible refine (c3.out _).mono ?_); rintro e w4 ⟨rfl, rfl⟩; clear c3))
    all_goals
      go_ret
      exact ⟨by rw [HF.out]; rfl, by go_grown⟩
  have hwr : IntKind.i64.wrap (1000000001 - ct) = 1000000001 - ct := by rw [IntKind.wrap_i64]; omega
  by_cases h4 : 1 ≤ fi ∧ fi ≤ 1000000001 - ct
  case neg =>
    have HF : Hid (hm1 (at_, sz, raw, ct, fi, ea, la) = false) := Lib.hid (hm1_no fun h9 => by dsimp only at h9; omega)
    have c0 : Hid (∀ W, Calls Try.prog 33 #[.int .i64 0, .int .i64 at_, .int .i64 1000000] W fun e w' => e = .returned (.bool true) ∧ W = w') := Lib.hid fun W => by have := p_hin_any 0 at_ 1000000 W; rwa [(hin_iff _ _ _).2 h0] at this
    have c1 : Hid (∀ W, Calls Try.prog 33 #[.int .i64 10, .int .i64 sz, .int .i64 60009] W fun e w' => e = .returned (.bool true) ∧ W = w') := Lib.hid fun W => by have := p_hin_any 10 sz 60009 W; rwa [(hin_iff _ _ _).2 h1] at this
    have c2 : Hid (∀ W, Calls Try.prog 33 #[.int .i64 1, .int .i64 raw, .int .i64 20000] W fun e w' => e = .returned (.bool true) ∧ W = w') := Lib.hid fun W => by have := p_hin_any 1 raw 20000 W; rwa [(hin_iff _ _ _).2 h2] at this
    have c3 : Hid (∀ W, Calls Try.prog 33 #[.int .i64 1, .int .i64 ct, .int .i64 raw] W fun e w' => e = .returned (.bool true) ∧ W = w') := Lib.hid fun W => by have := p_hin_any 1 ct raw W; rwa [(hin_iff _ _ _).2 h3] at this
    have c4 : Hid (∀ W, Calls Try.prog 33 #[.int .i64 1, .int .i64 fi, .int .i64 (1000000001 - ct)] W fun e w' => e = .returned (.bool false) ∧ W = w') := Lib.hid fun W => by have := p_hin_any 1 fi (1000000001 - ct) W; rwa [hin_no h4] at this
    clear h0 h1 h2 h3 h4
    go_enter Try.func37, Try.ntmps37
    go_wp2_with (first
      | (go_at_call 33; (with_reducible refine (c0.out _).mono ?_); rintro e w1 ⟨rfl, rfl⟩; clear c0)
      | (go_at_call 33; (with_reducible refine (c1.out _).mono ?_); rintro e w2 ⟨rfl, rfl⟩; clear c1)
      | (go_at_call 33; (with_reducible refine (c2.out _).mono ?_); rintro e w3 ⟨rfl, rfl⟩; clear c2)
      | (go_at_call 33; (with_reducible refine (c3.out _).mono ?_); rintro e w4 ⟨rfl, rfl⟩; clear c3)
      | (go_at_call 33; (with_reducible refine (c4.out _).mono ?_); rintro e w5 ⟨rfl, rfl⟩; clear c4))
    all_goals
      go_ret
      exact ⟨by rw [HF.out]; rfl, by go_grown⟩
  by_cases h5 : 0 ≤ ea ∧ ea ≤ la
  case neg =>
    have HF : Hid (hm1 (at_, sz, raw, ct, fi, ea, la) = false) := Lib.hid (hm1_no fun h9 => by dsimp only at h9; omega)
    have c0 : Hid (∀ W, Calls Try.prog 33 #[.int .i64 0, .int .i64 at_, .int .i64 1000000] W fun e w' => e = .returned (.bool true) ∧ W = w') := Lib.hid fun W => by have := p_hin_any 0 at_ 1000000 W; rwa [(hin_iff _ _ _).2 h0] at this
    have c1 : Hid (∀ W, Calls Try.prog 33 #[.int .i64 10, .int .i64 sz, .int .i64 60009] W fun e w' => e = .returned (.bool true) ∧ W = w') := Lib.hid fun W => by have := p_hin_any 10 sz 60009 W; rwa [(hin_iff _ _ _).2 h1] at this
    have c2 : Hid (∀ W, Calls Try.prog 33 #[.int .i64 1, .int .i64 raw, .int .i64 20000] W fun e w' => e = .returned (.bool true) ∧ W = w') := Lib.hid fun W => by have := p_hin_any 1 raw 20000 W; rwa [(hin_iff _ _ _).2 h2] at this
    have c3 : Hid (∀ W, Calls Try.prog 33 #[.int .i64 1, .int .i64 ct, .int .i64 raw] W fun e w' => e = .returned (.bool true) ∧ W = w') := Lib.hid fun W => by have := p_hin_any 1 ct raw W; rwa [(hin_iff _ _ _).2 h3] at this
    have c4 : Hid (∀ W, Calls Try.prog 33 #[.int .i64 1, .int .i64 fi, .int .i64 (1000000001 - ct)] W fun e w' => e = .returned (.bool true) ∧ W = w') := Lib.hid fun W => by have := p_hin_any 1 fi (1000000001 - ct) W; rwa [(hin_iff _ _ _).2 h4] at this
    have c5 : Hid (∀ W, Calls Try.prog 33 #[.int .i64 0, .int .i64 ea, .int .i64 la] W fun e w' => e = .returned (.bool false) ∧ W = w') := Lib.hid fun W => by have := p_hin_any 0 ea la W; rwa [hin_no h5] at this
    clear h0 h1 h2 h3 h4 h5
    go_enter Try.func37, Try.ntmps37
    go_wp2_with (first
      | (go_at_call 33; (with_reducible refine (c0.out _).mono ?_); rintro e w1 ⟨rfl, rfl⟩; clear c0)
      | (go_at_call 33; (with_reducible refine (c1.out _).mono ?_); rintro e w2 ⟨rfl, rfl⟩; clear c1)
      | (go_at_call 33; (with_reducible refine (c2.out _).mono ?_); rintro e w3 ⟨rfl, rfl⟩; clear c2)
      | (go_at_call 33; (with_reducible refine (c3.out _).mono ?_); rintro e w4 ⟨rfl, rfl⟩; clear c3)
      | (go_at_call 33; (with_reducible refine (c4.out _).mono ?_); rintro e w5 ⟨rfl, rfl⟩; clear c4)
      | (go_at_call 33; (with_reducible refine (c5.out _).mono ?_); rintro e w6 ⟨rfl, rfl⟩; clear c5))
    all_goals
      go_ret
      exact ⟨by rw [HF.out]; rfl, by go_grown⟩
  have HF : Hid (hm1 (at_, sz, raw, ct, fi, ea, la) = decide (la ≤ 1000000000)) := Lib.hid (hm1_last ⟨h0.1, h0.2, h1.1, h1.2, h2.1, h2.2, h3.1, h3.2, h4.1, h4.2, h5.1, h5.2⟩)
  have c0 : Hid (∀ W, Calls Try.prog 33 #[.int .i64 0, .int .i64 at_, .int .i64 1000000] W fun e w' => e = .returned (.bool true) ∧ W = w') := Lib.hid fun W => by have := p_hin_any 0 at_ 1000000 W; rwa [(hin_iff _ _ _).2 h0] at this
  have c1 : Hid (∀ W, Calls Try.prog 33 #[.int .i64 10, .int .i64 sz, .int .i64 60009] W fun e w' => e = .returned (.bool true) ∧ W = w') := Lib.hid fun W => by have := p_hin_any 10 sz 60009 W; rwa [(hin_iff _ _ _).2 h1] at this
  have c2 : Hid (∀ W, Calls Try.prog 33 #[.int .i64 1, .int .i64 raw, .int .i64 20000] W fun e w' => e = .returned (.bool true) ∧ W = w') := Lib.hid fun W => by have := p_hin_any 1 raw 20000 W; rwa [(hin_iff _ _ _).2 h2] at this
  have c3 : Hid (∀ W, Calls Try.prog 33 #[.int .i64 1, .int .i64 ct, .int .i64 raw] W fun e w' => e = .returned (.bool true) ∧ W = w') := Lib.hid fun W => by have := p_hin_any 1 ct raw W; rwa [(hin_iff _ _ _).2 h3] at this
  have c4 : Hid (∀ W, Calls Try.prog 33 #[.int .i64 1, .int .i64 fi, .int .i64 (1000000001 - ct)] W fun e w' => e = .returned (.bool true) ∧ W = w') := Lib.hid fun W => by have := p_hin_any 1 fi (1000000001 - ct) W; rwa [(hin_iff _ _ _).2 h4] at this
  have c5 : Hid (∀ W, Calls Try.prog 33 #[.int .i64 0, .int .i64 ea, .int .i64 la] W fun e w' => e = .returned (.bool true) ∧ W = w') := Lib.hid fun W => by have := p_hin_any 0 ea la W; rwa [(hin_iff _ _ _).2 h5] at this
  clear h0 h1 h2 h3 h4 h5
  go_enter Try.func37, Try.ntmps37
  go_wp2_with (first
    | (go_at_call 33; (with_reducible refine (c0.out _).mono ?_); rintro e w1 ⟨rfl, rfl⟩; clear c0)
    | (go_at_call 33; (with_reducible refine (c1.out _).mono ?_); rintro e w2 ⟨rfl, rfl⟩; clear c1)
    | (go_at_call 33; (with_reducible refine (c2.out _).mono ?_); rintro e w3 ⟨rfl, rfl⟩; clear c2)
    | (go_at_call 33; (with_reducible refine (c3.out _).mono ?_); rintro e w4 ⟨rfl, rfl⟩; clear c3)
    | (go_at_call 33; (with_reducible refine (c4.out _).mono ?_); rintro e w5 ⟨rfl, rfl⟩; clear c4)
    | (go_at_call 33; (with_reducible refine (c5.out _).mono ?_); rintro e w6 ⟨rfl, rfl⟩; clear c5))
  go_ret
  exact ⟨by rw [HF.out]; rfl, by go_grown⟩
set_option maxRecDepth 100000 in
set_option maxHeartbeats 4000000 in
theorem p_hfo_any (p m : Mt) (w : World) (hp : hm1 p = true) : Calls Try.prog 38 #[.agg (mtc p).toArray, .agg (mtc m).toArray] w fun e w' => e = .returned (.bool (hm2 p m)) ∧ Below w.heap.size w w' := by
  have hg := (hm1_iff _).1 hp
  clear hp
  obtain ⟨at2, sz2, raw2, ct2, fi2, ea2, la2⟩ := p
  obtain ⟨at_, sz, raw, ct, fi, ea, la⟩ := m
  dsimp only at hg
  show Calls Try.prog 38 #[.agg #[.int .i64 at2, .int .i64 sz2, .int .i64 raw2, .int .i64 ct2, .int .i64 fi2, .int .i64 ea2, .int .i64 la2], .agg #[.int .i64 at_, .int .i64 sz, .int .i64 raw, .int .i64 ct, .int .i64 fi, .int .i64 ea, .int .i64 la]] w fun e w' => e = .returned (.bool (hm2 (at2, sz2, raw2, ct2, fi2, ea2, la2) (at_, sz, raw, ct, fi, ea, la))) ∧ Below w.heap.size w w'
  have w1 : IntKind.i64.wrap (at2 + sz2) = at2 + sz2 := by rw [IntKind.wrap_i64]; omega
  have w2 : IntKind.i64.wrap (fi2 + ct2) = fi2 + ct2 := by rw [IntKind.wrap_i64]; omega
  by_cases s0 : at_ = at2 + sz2
  case neg =>
    have HF : Hid (hm2 (at2, sz2, raw2, ct2, fi2, ea2, la2) (at_, sz, raw, ct, fi, ea, la) = false) := Lib.hid (hm2_no fun h9 => s0 h9.1)
    clear hg
    go_enter Try.func38, Try.ntmps38
    go_wp2
    go_ret
    exact ⟨by rw [HF.out]; rfl, by go_grown⟩
  by_cases s1 : fi = fi2 + ct2
  case neg =>
    have HF : Hid (hm2 (at2, sz2, raw2, ct2, fi2, ea2, la2) (at_, sz, raw, ct, fi, ea, la) = false) := Lib.hid (hm2_no fun h9 => s1 h9.2.1)
    clear hg
    subst s0
    go_enter Try.func38, Try.ntmps38
    go_wp2
    go_ret
    exact ⟨by rw [HF.out]; rfl, by go_grown⟩
  by_cases s2 : la2 ≤ ea
  case neg =>
    have HF : Hid (hm2 (at2, sz2, raw2, ct2, fi2, ea2, la2) (at_, sz, raw, ct, fi, ea, la) = false) := Lib.hid (hm2_no fun h9 => s2 h9.2.2)
    clear hg
    subst s0
    subst s1
    go_enter Try.func38, Try.ntmps38
    go_wp2
    go_ret
    exact ⟨by rw [HF.out]; rfl, by go_grown⟩
  have HF : Hid (hm2 (at2, sz2, raw2, ct2, fi2, ea2, la2) (at_, sz, raw, ct, fi, ea, la) = true) := Lib.hid ((hm2_iff _ _).2 ⟨s0, s1, s2⟩)
  clear hg
  subst s0
  subst s1
  go_enter Try.func38, Try.ntmps38
  go_wp2
  go_ret
  exact ⟨by rw [HF.out]; rfl, by go_grown⟩
set_option maxRecDepth 100000 in
set_option maxHeartbeats 4000000 in
theorem p_hput_any (h : Hd) (w : World) : Calls Try.prog 8 #[.agg (hdc h)] w fun e w' => e = .returned (.tuple #[.string ⟨(hputF h).1.toArray⟩, .int .i64 (hputF h).2]) ∧ Below w.heap.size w w' := by
  have HB0 : Hid (∀ o, Below w.heap.size w (w.alloc o)) := Lib.hid fun o => (Below.refl w.heap.size w).alloc (Nat.le_refl _) o
  have C := Lib.hid fun W => p_hchk_any h W
  unfold hchkF at C
  unfold hputF
  by_cases hk : hdok h = true
  case neg =>
    rw [if_neg hk] at C ⊢
    clear hk
    obtain ⟨a, b, c⟩ := h
    unfold hdc at C ⊢
    dsimp only at C ⊢
    go_enter Try.func8, Try.ntmps8
    go_wp2_with (first | (go_at_call 12; (with_reducible refine (C.out _).mono ?_); rintro e w1 ⟨rfl, hb1⟩; have HB := Lib.hid ((HB0.out _).trans (hb1.mono (HB0.out _).size)); clear hb1 C) | fail)
    go_ret2
    exact ⟨rfl, HB.out⟩
  case pos =>
    rw [if_pos hk] at C ⊢
    have hk2 := (hdok_iff h).1 hk
    have P : Hid (∀ W A (hr : Reads W W.heap.size 1 A 3 (ints (hl3 h))), Calls Try.prog 26 #[.slice A 3 3] W fun e w' => e = .returned (.string ⟨((hl3 h).flatMap putB).toArray⟩) ∧ Below W.heap.size W w') := Lib.hid fun W A hr => p_pput_any (hl3 h) A 3 3 W rfl (by omega) hr (fun x hx => by
      unfold hl3 at hx
      simp only [List.mem_cons, List.not_mem_nil, or_false] at hx
      rcases hx with rfl | rfl | rfl <;> omega)
    obtain ⟨a, b, c⟩ := h
    have h3 : ints (hl3 (a, b, c)) = [.int .i64 a, .int .i64 b, .int .i64 c] := rfl
    rw [h3] at P
    unfold hdc at C ⊢
    dsimp only at C ⊢
    generalize (hl3 (a, b, c)).flatMap putB = T at *
    clear hk hk2 h3
    go_enter Try.func8, Try.ntmps8
    go_wp2_with (first
      | (go_at_call 12; (with_reducible refine (C.out _).mono ?_); rintro e w1 ⟨rfl, hb1⟩; have HB := Lib.hid ((HB0.out _).trans (hb1.mono (HB0.out _).size)); have HX := (Blk.new w 23 #[.int .i64 a, .int .i64 b, .int .i64 c]).below hb1 (Blk.new w 23 #[.int .i64 a, .int .i64 b, .int .i64 c]).lt; have k0 := HX.cell 0; have k1 := HX.cell 1; have k2 := HX.cell 2; simp only [List.getElem?_toArray, List.getElem?_cons_zero, List.getElem?_cons_succ] at k0 k1 k2; clear hb1 C HX)
      | (go_at_call 26; (with_reducible refine (P.out _ _ (hreads_new w1 _ _)).mono ?_); rintro e w2 ⟨rfl, hb2⟩; have HB2 := Lib.hid ((HB.out.alloc HB.out.size _).trans (hb2.mono (HB.out.alloc HB.out.size _).size)); clear hb2 P)
      | fail)
    go_ret2
    exact ⟨rfl, HB2.out⟩
end Go.Proofs.Ytjodckinfoldgaa
