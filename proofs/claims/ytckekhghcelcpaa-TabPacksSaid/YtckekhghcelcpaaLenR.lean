/-
  Layer 8: what the document's own power, Used, Sum, Check and Cost return.
-/
import Derived.Test.YtckekhghcelcpaaLenQ
import Derived.Test.YtckekhghcelcpaaRows
namespace Go.Proofs.Ytckekhghcelcpaa
set_option linter.unusedSimpArgs false
set_option linter.unusedVariables false
open Go.ChangeShapes Go.WideShapes Go.ChangeAt Go.RowKit Go.Joins Go.Deep

theorem lref_power_any (n : Nat) (h : n ≤ 15) (w : World) : Calls Try.prog 31 #[.int .i64 (n : Int)] w fun e w' => e = .returned (.int .i64 ((2 ^ n : Nat) : Int)) ∧ w' = w := by
  have hn : (n : Int) ≤ 15 := by omega
  have Hpow : Hid (∀ k, k ≤ n → (2 ^ k : Nat) ≤ 32768) := Lib.hid fun k hk => Nat.le_trans (Nat.pow_le_pow_right (by omega) (show k ≤ 15 by omega)) (by decide)
  obtain ⟨R, hR⟩ : ∃ R : Int, ((2 ^ n : Nat) : Int) = R := ⟨_, rfl⟩
  rw [hR]
  have HR := Lib.hid hR
  clear hR
  go_enter Try.func31, Try.ntmps31
  go_wp2
  go_loop [3, 4] (fun p i => ∃ k P : Nat, k ≤ n ∧ P ≤ 32768 ∧ p = .int .i64 P ∧ i = .int .i64 k ∧ Hid (P = 2 ^ k)) (fun _ i => n - (intOf i).toNat)
  case atStart => exact ⟨0, 1, by omega, by omega, rfl, rfl, rfl⟩
  case round =>
    obtain ⟨k, P, hk, hP, rfl, rfl, Hk⟩ := hrel
    by_cases hlt : k < n
    · have hki : (k : Int) < n := by omega
      have H2 : Hid (2 * P ≤ 32768 ∧ 2 * P = 2 ^ (k + 1)) := Lib.hid (by
        have h1 := Hpow.out (k + 1) (by omega)
        have h2 := Hk.out
        rw [Nat.pow_succ] at h1 ⊢
        omega)
      go_wp2
      go_round
      case rel => exact ⟨k + 1, 2 * P, by omega, H2.out.1, iv (by omega), iv (by omega), H2.out.2⟩
      case measure => simp only [intOf]; omega
    · obtain rfl : k = n := by omega
      have Hf : Hid ((P : Int) = R) := Lib.hid (by rw [← HR.out, ← Hk.out])
      go_wp2
      go_ret
      exact ⟨by rw [← Hf.out]; rfl, rfl⟩

/-! ### Used, Sum -/
def usedF (l : List Int) : Nat := (l.filter (fun x => decide (0 < x))).length
theorem usedF_take (l : List Int) (k : Nat) (h : k < l.length) : usedF (l.take (k + 1)) = usedF (l.take k) + if 0 < l[k] then 1 else 0 := by
  unfold usedF
  rw [List.take_succ_eq_append_getElem h, List.filter_append, List.length_append]
  congr 1
  by_cases hx : 0 < l[k]
  · rw [if_pos hx, List.filter_cons, if_pos (by simpa using hx)]; rfl
  · rw [if_neg hx, List.filter_cons, if_neg (by simpa using hx)]; rfl
theorem usedF_le (l : List Int) : usedF l ≤ l.length := List.length_filter_le _ _
/-- What lengths leave of the whole, in parts of 2 to the power of less 15. -/
def partF : List Int → Nat
  | [] => 0
  | x :: t => (if 0 < x then 2 ^ (15 - x.toNat) else 0) + partF t
theorem partF_app : ∀ a b : List Int, partF (a ++ b) = partF a + partF b
  | [], b => by simp [partF]
  | x :: t, b => by
    show (if 0 < x then 2 ^ (15 - x.toNat) else 0) + partF (t ++ b) = _
    rw [partF_app t b, ← Nat.add_assoc]
    rfl
theorem partF_take (l : List Int) (k : Nat) (h : k < l.length) : partF (l.take (k + 1)) = partF (l.take k) + if 0 < l[k] then 2 ^ (15 - l[k].toNat) else 0 := by
  rw [List.take_succ_eq_append_getElem h, partF_app]
  simp [partF]
/-- All are lengths. -/
def lgood (l : List Int) : Bool := l.all fun x => decide (0 ≤ x) && decide (x ≤ 15)
def sumF (l : List Int) : Int := if lgood l = true then (partF l : Int) else -1
theorem lgood_get {l : List Int} (h : lgood l = true) (i : Nat) (hi : i < l.length) : 0 ≤ l[i] ∧ l[i] ≤ 15 := by
  unfold lgood at h
  rw [List.all_eq_true] at h
  simpa using h l[i] (List.getElem_mem hi)
theorem lgood_of {l : List Int} (h : ∀ i (hi : i < l.length), 0 ≤ l[i] ∧ l[i] ≤ 15) : lgood l = true := by
  unfold lgood
  rw [List.all_eq_true]
  intro x hx
  obtain ⟨i, hi, rfl⟩ := List.getElem_of_mem hx
  simpa using h i hi
theorem sumF_bad {l : List Int} (i : Nat) (hi : i < l.length) (hb : ¬(0 ≤ l[i] ∧ l[i] ≤ 15)) : sumF l = -1 := by
  unfold sumF
  rw [if_neg fun h => hb (lgood_get h i hi)]

section
variable (l : List Int) (A : Option Addr) (n c : Nat) (w : World)
/-- A row of integers' cells, at hand. -/
theorem lcells {l : List Int} {A : Option Addr} {n : Nat} {w : World} {B : Nat} (hr : Reads w B 1 A n (ints l)) : Hid (0 < n → ∃ b off, A = some ⟨b, off, none⟩ ∧ b < B ∧ ∀ k, (hk : k < l.length) → w.cell? ⟨b, off + k, none⟩ = some (.int .i64 l[k])) := Lib.hid fun h => by
  obtain ⟨b, off, e, hb, hc⟩ := hr.2 h
  exact ⟨b, off, e, hb, fun k hk => hc k _ (ints_get l k hk)⟩
theorem lref_used_any (hm : n ≤ 4611686018427387904) (hr : Reads w w.heap.size 1 A n (ints l)) :
    Calls Try.prog 32 #[.slice A n c] w fun e w' => e = .returned (.int .i64 (usedF l : Int)) ∧ w' = w := by
  have en : l.length = n := by have := hr.1; rw [ints_length] at this; omega
  have Hcell := lcells hr
  have Htake : Hid (∀ k (h : k < l.length), usedF (l.take (k + 1)) = usedF (l.take k) + if 0 < l[k] then 1 else 0) := Lib.hid (usedF_take l)
  have Hall : Hid (usedF (l.take n) = usedF l) := Lib.hid (by rw [List.take_of_length_le (by omega)])
  have En := Lib.hid en
  obtain ⟨R, hR⟩ : ∃ R : Int, (usedF l : Int) = R := ⟨_, rfl⟩
  rw [hR]
  have HR := Lib.hid hR
  clear hr en hR
  go_enter Try.func32, Try.ntmps32
  go_wp2
  go_loop [3, 4] (fun p i => ∃ k P : Nat, k ≤ n ∧ P ≤ k ∧ p = .int .i64 P ∧ i = .int .i64 k ∧ Hid (P = usedF (l.take k))) (fun _ i => n - (intOf i).toNat)
  case atStart => exact ⟨0, 0, by omega, by omega, rfl, rfl, rfl⟩
  case round =>
    obtain ⟨k, P, hk, hP, rfl, rfl, Hk⟩ := hrel
    by_cases hlt : k < n
    · have hki : (0 : Int) ≤ (k : Int) ∧ (k : Int) < n := by omega
      have hkl : k < l.length := by rw [En.out]; exact hlt
      obtain ⟨b, off, rfl, hb, hc⟩ := Hcell.out (by omega)
      have hx := hc k hkl
      have ht := Htake.out k hkl
      rw [← Hk.out] at ht
      have Ht := Lib.hid ht
      clear hc ht
      generalize l[k] = x at *
      by_cases hx0 : 0 < x
      · have Ht2 : Hid (P + 1 = usedF (l.take (k + 1))) := Lib.hid (by rw [Ht.out, if_pos hx0])
        go_wp2
        go_round
        case rel => exact ⟨k + 1, P + 1, by omega, by omega, iv (by omega), iv (by omega), Ht2.out⟩
        case measure => simp only [intOf]; omega
      · have Ht2 : Hid (P = usedF (l.take (k + 1))) := Lib.hid (by rw [Ht.out, if_neg hx0]; rfl)
        go_wp2
        go_round
        case rel => exact ⟨k + 1, P, by omega, by omega, rfl, iv (by omega), Ht2.out⟩
        case measure => simp only [intOf]; omega
    · obtain rfl : k = n := by omega
      have Hf : Hid ((P : Int) = R) := Lib.hid (by rw [← HR.out, ← Hall.out, ← Hk.out])
      go_wp2
      go_ret
      exact ⟨by rw [← Hf.out]; rfl, rfl⟩

set_option maxRecDepth 100000 in
set_option maxHeartbeats 1000000 in
theorem lref_sum_any (hm : n ≤ 1000000) (hr : Reads w w.heap.size 1 A n (ints l)) :
    Calls Try.prog 30 #[.slice A n c] w fun e w' => e = .returned (.int .i64 (sumF l)) ∧ w' = w := by
  have en : l.length = n := by have := hr.1; rw [ints_length] at this; omega
  have Hcell := lcells hr
  have Htake : Hid (∀ k (h : k < l.length), partF (l.take (k + 1)) = partF (l.take k) + if 0 < l[k] then 2 ^ (15 - l[k].toNat) else 0) := Lib.hid (partF_take l)
  have Hall : Hid (partF (l.take n) = partF l) := Lib.hid (by rw [List.take_of_length_le (by omega)])
  have Hbad : Hid (∀ i (hi : i < l.length), ¬(0 ≤ l[i] ∧ l[i] ≤ 15) → sumF l = -1) := Lib.hid fun i hi => sumF_bad i hi
  have Hok : Hid ((∀ i (hi : i < l.length), 0 ≤ l[i] ∧ l[i] ≤ 15) → sumF l = partF l) := Lib.hid fun h => by unfold sumF; rw [if_pos (lgood_of h)]
  have En := Lib.hid en
  generalize sumF l = R at *
  have hnn : (n : Int) ≤ 1000000 := by omega
  clear hr en
  go_enter Try.func30, Try.ntmps30
  go_wp2
  go_loop [3, 4] (fun p i => ∃ k P : Nat, k ≤ n ∧ P ≤ 32768 * k ∧ p = .int .i64 P ∧ i = .int .i64 k ∧ Hid (P = partF (l.take k) ∧ ∀ i (hi : i < l.length), i < k → 0 ≤ l[i] ∧ l[i] ≤ 15)) (fun _ i => n - (intOf i).toNat)
  case atStart => exact ⟨0, 0, by omega, by omega, rfl, rfl, ⟨rfl, fun i _ h => by omega⟩⟩
  case round =>
    obtain ⟨k, P, hk, hP, rfl, rfl, Hk⟩ := hrel
    by_cases hlt : k < n
    · have hki : (0 : Int) ≤ (k : Int) ∧ (k : Int) < n := by omega
      have hkl : k < l.length := by rw [En.out]; exact hlt
      obtain ⟨b, off, rfl, hb, hc⟩ := Hcell.out (by omega)
      have hx := hc k hkl
      have Hbk := Lib.hid (Hbad.out k hkl)
      have ht := Htake.out k hkl
      rw [← Hk.out.1] at ht
      have Ht := Lib.hid ht
      have Hn : Hid (0 ≤ l[k] ∧ l[k] ≤ 15 → ∀ i (hi : i < l.length), i < k + 1 → 0 ≤ l[i] ∧ l[i] ≤ 15) := Lib.hid fun h i hi h2 => by
        rcases Nat.lt_or_ge i k with h3 | h3
        · exact Hk.out.2 i hi h3
        · obtain rfl : i = k := by omega
          exact h
      clear hc ht Hbad
      generalize l[k] = x at *
      by_cases hneg : x < 0
      · have Hf : Hid (R = -1) := Lib.hid (Hbk.out (by omega))
        go_wp2
        go_ret
        exact ⟨by rw [Hf.out]; rfl, rfl⟩
      · by_cases hbig : 15 < x
        · have Hf : Hid (R = -1) := Lib.hid (Hbk.out (by omega))
          go_wp2
          go_ret
          exact ⟨by rw [Hf.out]; rfl, rfl⟩
        · have Hn2 := Lib.hid (Hn.out (by omega))
          by_cases hx0 : 0 < x
          · obtain ⟨m, hm15, hmx⟩ : ∃ m : Nat, m ≤ 15 ∧ 15 - x = (m : Int) := ⟨(15 - x).toNat, by omega, by omega⟩
            have hp15 : (2 ^ m : Nat) ≤ 32768 := Nat.le_trans (Nat.pow_le_pow_right (by omega) hm15) (by decide)
            have Ht2 : Hid (P + 2 ^ m = partF (l.take (k + 1))) := Lib.hid (by rw [Ht.out, if_pos hx0, show 15 - x.toNat = m from by omega])
            have hpw := lref_power_any m hm15
            rw [← hmx] at hpw
            have Hpw := Lib.hid hpw
            have hPk : P ≤ 32768000000 := by omega
            clear hpw
            generalize (2 ^ m : Nat) = Q at *
            clear hmx
            go_wp2_with (go_at_call 31; refine (Hpw.out _).mono ?_; rintro e w1 ⟨rfl, rfl⟩)
            go_round
            case rel => exact ⟨k + 1, P + Q, by omega, by omega, iv (by omega), iv (by omega), ⟨Ht2.out, Hn2.out⟩⟩
            case measure => simp only [intOf]; omega
          · have Ht2 : Hid (P = partF (l.take (k + 1))) := Lib.hid (by rw [Ht.out, if_neg hx0]; rfl)
            go_wp2
            go_round
            case rel => exact ⟨k + 1, P, by omega, by omega, rfl, iv (by omega), ⟨Ht2.out, Hn2.out⟩⟩
            case measure => simp only [intOf]; omega
    · obtain rfl : k = n := by omega
      have Hf : Hid (R = (P : Int)) := Lib.hid (by
        rw [Hok.out fun i hi => Hk.out.2 i hi (by have := En.out; omega), ← Hall.out, ← Hk.out.1])
      go_wp2
      go_ret
      exact ⟨by rw [Hf.out]; rfl, rfl⟩

/-! ### Check -/
def checkF (l : List Int) : Int := if 257 < l.length then 3 else if sumF l = 0 ∨ sumF l = 32768 ∨ ((usedF l : Int) = 1 ∧ sumF l = 16384) then 0 else 80
set_option maxRecDepth 100000 in
set_option maxHeartbeats 1000000 in
theorem lref_check_any (hm : n ≤ 1000000) (hr : Reads w w.heap.size 1 A n (ints l)) :
    Calls Try.prog 20 #[.slice A n c] w fun e w' => e = .returned (.int .i64 (checkF l)) ∧ w' = w := by
  have en : l.length = n := by have := hr.1; rw [ints_length] at this; omega
  have Hsum := Lib.hid (lref_sum_any l A n c w hm hr)
  have Hused := Lib.hid (lref_used_any l A n c w (by omega) hr)
  have hp15 : ∀ W, Calls Try.prog 31 #[.int .i64 15] W fun e w' => e = .returned (.int .i64 32768) ∧ w' = W := fun W => lref_power_any 15 (by omega) W
  have hp14 : ∀ W, Calls Try.prog 31 #[.int .i64 14] W fun e w' => e = .returned (.int .i64 16384) ∧ w' = W := fun W => lref_power_any 14 (by omega) W
  have Hp15 := Lib.hid hp15
  have Hp14 := Lib.hid hp14
  unfold checkF
  rw [en]
  clear hr hp15 hp14 en
  generalize sumF l = S at *
  generalize (usedF l : Int) = U at *
  by_cases hn : 257 < n
  · rw [if_pos hn]
    have hni : (257 : Int) < n := by omega
    go_enter Try.func20, Try.ntmps20
    go_wp2
    go_ret
    exact ⟨rfl, rfl⟩
  · rw [if_neg hn]
    have hni : ¬ (257 : Int) < n := by omega
    by_cases h0 : S = 0
    · subst h0
      rw [if_pos (Or.inl rfl)]
      go_enter Try.func20, Try.ntmps20
      go_wp2_with (go_at_call 30; refine Hsum.out.mono ?_; rintro e w1 ⟨rfl, rfl⟩)
      go_ret
      exact ⟨rfl, rfl⟩
    · have hb0 : (S == 0) = false := by simpa using h0
      by_cases h1 : S = 32768
      · subst h1
        rw [if_pos (Or.inr (Or.inl rfl))]
        go_enter Try.func20, Try.ntmps20
        go_wp2_with (first
          | (go_at_call 30; refine Hsum.out.mono ?_; rintro e w1 ⟨rfl, rfl⟩)
          | (go_at_call 31; (with_reducible refine (Hp15.out _).mono ?_); rintro e w1 ⟨rfl, rfl⟩))
        go_ret
        exact ⟨rfl, rfl⟩
      · have hb1 : (S == 32768) = false := by simpa using h1
        by_cases h2 : U = 1
        · subst h2
          by_cases h3 : S = 16384
          · subst h3
            rw [if_pos (Or.inr (Or.inr ⟨rfl, rfl⟩))]
            go_enter Try.func20, Try.ntmps20
            go_wp2_with (first
              | (go_at_call 30; refine Hsum.out.mono ?_; rintro e w1 ⟨rfl, rfl⟩)
              | (go_at_call 32; refine Hused.out.mono ?_; rintro e w1 ⟨rfl, rfl⟩)
              | (go_at_call 31; (with_reducible refine (Hp15.out _).mono ?_); rintro e w1 ⟨rfl, rfl⟩)
              | (go_at_call 31; (with_reducible refine (Hp14.out _).mono ?_); rintro e w1 ⟨rfl, rfl⟩))
            go_ret
            exact ⟨rfl, rfl⟩
          · have hb3 : (S == 16384) = false := by simpa using h3
            rw [if_neg (by simp [h0, h1, h3])]
            go_enter Try.func20, Try.ntmps20
            go_wp2_with (first
              | (go_at_call 30; refine Hsum.out.mono ?_; rintro e w1 ⟨rfl, rfl⟩)
              | (go_at_call 32; refine Hused.out.mono ?_; rintro e w1 ⟨rfl, rfl⟩)
              | (go_at_call 31; (with_reducible refine (Hp15.out _).mono ?_); rintro e w1 ⟨rfl, rfl⟩)
              | (go_at_call 31; (with_reducible refine (Hp14.out _).mono ?_); rintro e w1 ⟨rfl, rfl⟩))
            go_ret
            exact ⟨rfl, rfl⟩
        · have hb2 : (U == 1) = false := by simpa using h2
          rw [if_neg (by simp [h0, h1, h2])]
          go_enter Try.func20, Try.ntmps20
          go_wp2_with (first
            | (go_at_call 30; refine Hsum.out.mono ?_; rintro e w1 ⟨rfl, rfl⟩)
            | (go_at_call 32; refine Hused.out.mono ?_; rintro e w1 ⟨rfl, rfl⟩)
            | (go_at_call 31; (with_reducible refine (Hp15.out _).mono ?_); rintro e w1 ⟨rfl, rfl⟩))
          go_ret
          exact ⟨rfl, rfl⟩
end
end Go.Proofs.Ytckekhghcelcpaa
