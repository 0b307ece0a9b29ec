/-
  What the law of the last of these texts stands on, part 5.
-/
import Derived.Test.YtpocpckhcciecaaRows
import Derived.Test.YtpocpckhcciecaaMg01
import Derived.Test.YtpocpckhcciecaaMg02
import Derived.Test.YtpocpckhcciecaaMg03
import Derived.Test.YtpocpckhcciecaaMg04
import Derived.WalkKit
import Derived.WalkSpells
import Derived.WalkLawsBesides
import Derived.ProofKit
import Derived.OpenShut
import Derived.Handy
import Derived.SizedLaws
import Derived.JoinedOf
import Derived.KernelRfl
import Derived.Lib.Hide
import Derived.Lib.SmallJoins
import Derived.Deep.Slices
import Derived.Deep.Fields
import Derived.Deep.SlicePairs
import Derived.Deep.Draws
import Derived.Deep.AppendLies
import Derived.Deep.QuietTactic
import Derived.BigQuiet
import Derived.Deep.RegionHeld3
import Derived.StillTailTactics
import Derived.Laws.OwnMore
import Derived.Laws.Rows
import Derived.Below
import Derived.Carry
import Derived.WalkMore
import Derived.Laws.BytesString
import Derived.Laws.BitsLemmas
import Derived.Laws.Concat
import Derived.Deep.Upon
import Derived.Laws.EntriesVeiled
import Derived.Deep.RegionLaw
namespace Go.Proofs.Ytpocpckhcciecaa
set_option linter.unusedSimpArgs false
set_option linter.unusedVariables false
open Go.ChangeShapes Go.WideShapes Go.ChangeAt Go.RowKit Go.Joins Go.Deep
theorem lref_power_any (n : Nat) (h : n ≤ 15) (w : World) : Calls Try.prog 33 #[.int .i64 (n : Int)] w fun e w' => e = .returned (.int .i64 ((2 ^ n : Nat) : Int)) ∧ w' = w := by
  have hn : (n : Int) ≤ 15 := by omega
  have Hpow : Hid (∀ k, k ≤ n → (2 ^ k : Nat) ≤ 32768) := Lib.hid fun k hk => Nat.le_trans (Nat.pow_le_pow_right (by omega) (show k ≤ 15 by omega)) (by decide)
  obtain ⟨R, hR⟩ : ∃ R : Int, ((2 ^ n : Nat) : Int) = R := ⟨_, rfl⟩
  rw [hR]
  have HR := Lib.hid hR
  clear hR
  go_enter Try.func33, Try.ntmps33
  go_wp2
  go_loop [3, 4] (fun p i => ∃ k P : Nat, k ≤ n ∧ P ≤ 32768 ∧ p = .int .i64 P ∧ i = .int .i64 k ∧ Hid (P = 2 ^ k)) (fun _ i => n - (intOf i).toNat)
  case atStart => exact ⟨0, 1, by omega, by omega, rfl, rfl, rfl⟩
  case round =>
    obtain ⟨k, P, hk, hP, rfl, rfl, Hk⟩ := hrel
    by_cases hlt : k < n
    · have hki : (k : Int) < n := by omega
      have H2 : Hid (2 * P ≤ 32768 ∧ 2 * P = 2 ^ (k + 1)) := Lib.hid (by
        have h1 := Hpow.out (k + 1) (by omega)
        have h2 := Hk.out
        rw [Nat.pow_succ] at h1 ⊢
        omega)
      go_wp2
      go_round
      case rel => exact ⟨k + 1, 2 * P, by omega, H2.out.1, iv (by omega), iv (by omega), H2.out.2⟩
      case measure => simp only [intOf]; omega
    · obtain rfl : k = n := by omega
      have Hf : Hid ((P : Int) = R) := Lib.hid (by rw [← HR.out, ← Hk.out])
      go_wp2
      go_ret
      exact ⟨by rw [← Hf.out]; rfl, rfl⟩
def usedF (l : List Int) : Nat := (l.filter (fun x => decide (0 < x))).length
theorem usedF_take (l : List Int) (k : Nat) (h : k < l.length) : usedF (l.take (k + 1)) = usedF (l.take k) + if 0 < l[k] then 1 else 0 := by
  unfold usedF
  rw [List.take_succ_eq_append_getElem h, List.filter_append, List.length_append]
  congr 1
  by_cases hx : 0 < l[k]
  · rw [if_pos hx, List.filter_cons, if_pos (by simpa using hx)]; rfl
  · rw [if_neg hx, List.filter_cons, if_neg (by simpa using hx)]; rfl
theorem usedF_le (l : List Int) : usedF l ≤ l.length := List.length_filter_le _ _
/-- What lengths leave of the whole, in parts of 2 to the power of less 15. -/
def partF : List Int → Nat
  | [] => 0
  | x :: t => (if 0 < x then 2 ^ (15 - x.toNat) else 0) + partF t
theorem partF_app : ∀ a b : List Int, partF (a ++ b) = partF a + partF b
  | [], b => by simp [partF]
  | x :: t, b => by
    show (if 0 < x then 2 ^ (15 - x.toNat) else 0) + partF (t ++ b) = _
    rw [partF_app t b, ← Nat.add_assoc]
    rfl
theorem partF_take (l : List Int) (k : Nat) (h : k < l.length) : partF (l.take (k + 1)) = partF (l.take k) + if 0 < l[k] then 2 ^ (15 - l[k].toNat) else 0 := by
  rw [List.take_succ_eq_append_getElem h, partF_app]
  simp [partF]
/-- All are lengths. -/
def lgood (l : List Int) : Bool := l.all fun x => decide (0 ≤ x) && decide (x ≤ 15)
def sumF (l : List Int) : Int := if lgood l = true then (partF l : Int) else -1
theorem lgood_get {l : List Int} (h : lgood l = true) (i : Nat) (hi : i < l.length) : 0 ≤ l[i] ∧ l[i] ≤ 15 := by
  unfold lgood at h
  rw [List.all_eq_true] at h
  simpa using h l[i] (List.getElem_mem hi)
theorem lgood_of {l : List Int} (h : ∀ i (hi : i < l.length), 0 ≤ l[i] ∧ l[i] ≤ 15) : lgood l = true := by
  unfold lgood
  rw [List.all_eq_true]
  intro x hx
  obtain ⟨i, hi, rfl⟩ := List.getElem_of_mem hx
  simpa using h i hi
theorem sumF_bad {l : List Int} (i : Nat) (hi : i < l.length) (hb : ¬(0 ≤ l[i] ∧ l[i] ≤ 15)) : sumF l = -1 := by
  unfold sumF
  rw [if_neg fun h => hb (lgood_get h i hi)]
section
variable (l : List Int) (A : Option Addr) (n c : Nat) (w : World)
/-- A row of integers' cells, at hand. -/
theorem lcells {l : List Int} {A : Option Addr} {n : Nat} {w : World} {B : Nat} (hr : Reads w B 1 A n (ints l)) : Hid (0 < n → ∃ b off, A = some ⟨b, off, none⟩ ∧ b < B ∧ ∀ k, (hk : k < l.length) → w.cell? ⟨b, off + k, none⟩ = some (.int .i64 l[k])) := Lib.hid fun h => by
  obtain ⟨b, off, e, hb, hc⟩ := hr.2 h
  exact ⟨b, off, e, hb, fun k hk => hc k _ (ints_get l k hk)⟩
theorem lref_used_any (hm : n ≤ 4611686018427387904) (hr : Reads w w.heap.size 1 A n (ints l)) :
    Calls Try.prog 34 #[.slice A n c] w fun e w' => e = .returned (.int .i64 (usedF l : Int)) ∧ w' = w := by
  have en : l.length = n := by have := hr.1; rw [ints_length] at this; omega
  have Hcell := lcells hr
  have Htake : Hid (∀ k (h : k < l.length), usedF (l.take (k + 1)) = usedF (l.take k) + if 0 < l[k] then 1 else 0) := Lib.hid (usedF_take l)
  have Hall : Hid (usedF (l.take n) = usedF l) := Lib.hid (by rw [List.take_of_length_le (by omega)])
  have En := Lib.hid en
  obtain ⟨R, hR⟩ : ∃ R : Int, (usedF l : Int) = R := ⟨_, rfl⟩
  rw [hR]
  have HR := Lib.hid hR
  clear hr en hR
  go_enter Try.func34, Try.ntmps34
  go_wp2
  go_loop [3, 4] (fun p i => ∃ k P : Nat, k ≤ n ∧ P ≤ k ∧ p = .int .i64 P ∧ i = .int .i64 k ∧ Hid (P = usedF (l.take k))) (fun _ i => n - (intOf i).toNat)
  case atStart => exact ⟨0, 0, by omega, by omega, rfl, rfl, rfl⟩
  case round =>
    obtain ⟨k, P, hk, hP, rfl, rfl, Hk⟩ := hrel
    by_cases hlt : k < n
    · have hki : (0 : Int) ≤ (k : Int) ∧ (k : Int) < n := by omega
      have hkl : k < l.length := by rw [En.out]; exact hlt
      obtain ⟨b, off, rfl, hb, hc⟩ := Hcell.out (by omega)
      have hx := hc k hkl
      have ht := Htake.out k hkl
      rw [← Hk.out] at ht
      have Ht := Lib.hid ht
      clear hc ht
      generalize l[k] = x at *
      by_cases hx0 : 0 < x
      · have Ht2 : Hid (P + 1 = usedF (l.take (k + 1))) := Lib.hid (by rw [Ht.out, if_pos hx0])
        go_wp2
        go_round
        case rel => exact ⟨k + 1, P + 1, by omega, by omega, iv (by omega), iv (by omega), Ht2.out⟩
        case measure => simp only [intOf]; omega
      · have Ht2 : Hid (P = usedF (l.take (k + 1))) := Lib.hid (by rw [Ht.out, if_neg hx0]; rfl)
        go_wp2
        go_round
        case rel => exact ⟨k + 1, P, by omega, by omega, rfl, iv (by omega), Ht2.out⟩
        case measure => simp only [intOf]; omega
    · obtain rfl : k = n := by omega
      have Hf : Hid ((P : Int) = R) := Lib.hid (by rw [← HR.out, ← Hall.out, ← Hk.out])
      go_wp2
      go_ret
      exact ⟨by rw [← Hf.out]; rfl, rfl⟩
set_option maxRecDepth 100000 in
set_option maxHeartbeats 1000000 in
theorem lref_sum_any (hm : n ≤ 1000000) (hr : Reads w w.heap.size 1 A n (ints l)) :
    Calls Try.prog 32 #[.slice A n c] w fun e w' => e = .returned (.int .i64 (sumF l)) ∧ w' = w := by
  have en : l.length = n := by have := hr.1; rw [ints_length] at this; omega
  have Hcell := lcells hr
  have Htake : Hid (∀ k (h : k < l.length), partF (l.take (k + 1)) = partF (l.take k) + if 0 < l[k] then 2 ^ (15 - l[k].toNat) else 0) := Lib.hid (partF_take l)
  have Hall : Hid (partF (l.take n) = partF l) := Lib.hid (by rw [List.take_of_length_le (by omega)])
  have Hbad : Hid (∀ i (hi : i < l.length), ¬(0 ≤ l[i] ∧ l[i] ≤ 15) → sumF l = -1) := Lib.hid fun i hi => sumF_bad i hi
  have Hok : Hid ((∀ i (hi : i < l.length), 0 ≤ l[i] ∧ l[i] ≤ 15) → sumF l = partF l) := Lib.hid fun h => by unfold sumF; rw [if_pos (lgood_of h)]
  have En := Lib.hid en
  generalize sumF l = R at *
  have hnn : (n : Int) ≤ 1000000 := by omega
  clear hr en
  go_enter Try.func32, Try.ntmps32
  go_wp2
  go_loop [3, 4] (fun p i => ∃ k P : Nat, k ≤ n ∧ P ≤ 32768 * k ∧ p = .int .i64 P ∧ i = .int .i64 k ∧ Hid (P = partF (l.take k) ∧ ∀ i (hi : i < l.length), i < k → 0 ≤ l[i] ∧ l[i] ≤ 15)) (fun _ i => n - (intOf i).toNat)
  case atStart => exact ⟨0, 0, by omega, by omega, rfl, rfl, ⟨rfl, fun i _ h => by omega⟩⟩
  case round =>
    obtain ⟨k, P, hk, hP, rfl, rfl, Hk⟩ := hrel
    by_cases hlt : k < n
    · have hki : (0 : Int) ≤ (k : Int) ∧ (k : Int) < n := by omega
      have hkl : k < l.length := by rw [En.out]; exact hlt
      obtain ⟨b, off, rfl, hb, hc⟩ := Hcell.out (by omega)
      have hx := hc k hkl
      have Hbk := Lib.hid (Hbad.out k hkl)
      have ht := Htake.out k hkl
      rw [← Hk.out.1] at ht
      have Ht := Lib.hid ht
      have Hn : Hid (0 ≤ l[k] ∧ l[k] ≤ 15 → ∀ i (hi : i < l.length), i < k + 1 → 0 ≤ l[i] ∧ l[i] ≤ 15) := Lib.hid fun h i hi h2 => by
        rcases Nat.lt_or_ge i k with h3 | h3
        · exact Hk.out.2 i hi h3
        · obtain rfl : i = k := by omega
          exact h
      clear hc ht Hbad
      generalize l[k] = x at *
      by_cases hneg : x < 0
      · have Hf : Hid (R = -1) := Lib.hid (Hbk.out (by omega))
        go_wp2
        go_ret
        exact ⟨by rw [Hf.out]; rfl, rfl⟩
      · by_cases hbig : 15 < x
        · have Hf : Hid (R = -1) := Lib.hid (Hbk.out (by omega))
          go_wp2
          go_ret
          exact ⟨by rw [Hf.out]; rfl, rfl⟩
        · have Hn2 := Lib.hid (Hn.out (by omega))
          by_cases hx0 : 0 < x
          · obtain ⟨m, hm15, hmx⟩ : ∃ m : Nat, m ≤ 15 ∧ 15 - x = (m : Int) := ⟨(15 - x).toNat, by omega, by omega⟩
            have hp15 : (2 ^ m : Nat) ≤ 32768 := Nat.le_trans (Nat.pow_le_pow_right (by omega) hm15) (by decide)
            have Ht2 : Hid (P + 2 ^ m = partF (l.take (k + 1))) := Lib.hid (by rw [Ht.out, if_pos hx0, show 15 - x.toNat = m from by omega])
            have hpw := lref_power_any m hm15
            rw [← hmx] at hpw
            have Hpw := Lib.hid hpw
            have hPk : P ≤ 32768000000 := by omega
            clear hpw
            generalize (2 ^ m : Nat) = Q at *
            clear hmx
            go_wp2_with (go_at_call 33; refine (Hpw.out _).mono ?_; rintro e w1 ⟨rfl, rfl⟩)
            go_round
            case rel => exact ⟨k + 1, P + Q, by omega, by omega, iv (by omega), iv (by omega), ⟨Ht2.out, Hn2.out⟩⟩
            case measure => simp only [intOf]; omega
          · have Ht2 : Hid (P = partF (l.take (k + 1))) := Lib.hid (by rw [Ht.out, if_neg hx0]; rfl)
            go_wp2
            go_round
            case rel => exact ⟨k + 1, P, by omega, by omega, rfl, iv (by omega), ⟨Ht2.out, Hn2.out⟩⟩
            case measure => simp only [intOf]; omega
    · obtain rfl : k = n := by omega
      have Hf : Hid (R = (P : Int)) := Lib.hid (by
        rw [Hok.out fun i hi => Hk.out.2 i hi (by have := En.out; omega), ← Hall.out, ← Hk.out.1])
      go_wp2
      go_ret
      exact ⟨by rw [Hf.out]; rfl, rfl⟩
def checkF (l : List Int) : Int := if 257 < l.length then 3 else if sumF l = 0 ∨ sumF l = 32768 ∨ ((usedF l : Int) = 1 ∧ sumF l = 16384) then 0 else 80
set_option maxRecDepth 100000 in
set_option maxHeartbeats 1000000 in
theorem lref_check_any (hm : n ≤ 1000000) (hr : Reads w w.heap.size 1 A n (ints l)) :
    Calls Try.prog 15 #[.slice A n c] w fun e w' => e = .returned (.int .i64 (checkF l)) ∧ w' = w := by
  have en : l.length = n := by have := hr.1; rw [ints_length] at this; omega
  have Hsum := Lib.hid (lref_sum_any l A n c w hm hr)
  have Hused := Lib.hid (lref_used_any l A n c w (by omega) hr)
  have hp15 : ∀ W, Calls Try.prog 33 #[.int .i64 15] W fun e w' => e = .returned (.int .i64 32768) ∧ w' = W := fun W => lref_power_any 15 (by omega) W
  have hp14 : ∀ W, Calls Try.prog 33 #[.int .i64 14] W fun e w' => e = .returned (.int .i64 16384) ∧ w' = W := fun W => lref_power_any 14 (by omega) W
  have Hp15 := Lib.hid hp15
  have Hp14 := Lib.hid hp14
  unfold checkF
  rw [en]
  clear hr hp15 hp14 en
  generalize sumF l = S at *
  generalize (usedF l : Int) = U at *
  by_cases hn : 257 < n
  · rw [if_pos hn]
    have hni : (257 : Int) < n := by omega
    go_enter Try.func15, Try.ntmps15
    go_wp2
    go_ret
    exact ⟨rfl, rfl⟩
  · rw [if_neg hn]
    have hni : ¬ (257 : Int) < n := by omega
    by_cases h0 : S = 0
    · subst h0
      rw [if_pos (Or.inl rfl)]
      go_enter Try.func15, Try.ntmps15
      go_wp2_with (go_at_call 32; refine Hsum.out.mono ?_; rintro e w1 ⟨rfl, rfl⟩)
      go_ret
      exact ⟨rfl, rfl⟩
    · have hb0 : (S == 0) = false := by simpa using h0
      by_cases h1 : S = 32768
      · subst h1
        rw [if_pos (Or.inr (Or.inl rfl))]
        go_enter Try.func15, Try.ntmps15
        go_wp2_with (first
          | (go_at_call 32; refine Hsum.out.mono ?_; rintro e w1 ⟨rfl, rfl⟩)
          | (go_at_call 33; (with_reducible refine (Hp15.out _).mono ?_); rintro e w1 ⟨rfl, rfl⟩))
        go_ret
        exact ⟨rfl, rfl⟩
      · have hb1 : (S == 32768) = false := by simpa using h1
        by_cases h2 : U = 1
        · subst h2
          by_cases h3 : S = 16384
          · subst h3
            rw [if_pos (Or.inr (Or.inr ⟨rfl, rfl⟩))]
            go_enter Try.func15, Try.ntmps15
            go_wp2_with (first
              | (go_at_call 32; refine Hsum.out.mono ?_; rintro e w1 ⟨rfl, rfl⟩)
              | (go_at_call 34; refine Hused.out.mono ?_; rintro e w1 ⟨rfl, rfl⟩)
              | (go_at_call 33; (with_reducible refine (Hp15.out _).mono ?_); rintro e w1 ⟨rfl, rfl⟩)
              | (go_at_call 33; (with_reducible refine (Hp14.out _).mono ?_); rintro e w1 ⟨rfl, rfl⟩))
            go_ret
            exact ⟨rfl, rfl⟩
          · have hb3 : (S == 16384) = false := by simpa using h3
            rw [if_neg (by simp [h0, h1, h3])]
            go_enter Try.func15, Try.ntmps15
            go_wp2_with (first
              | (go_at_call 32; refine Hsum.out.mono ?_; rintro e w1 ⟨rfl, rfl⟩)
              | (go_at_call 34; refine Hused.out.mono ?_; rintro e w1 ⟨rfl, rfl⟩)
              | (go_at_call 33; (with_reducible refine (Hp15.out _).mono ?_); rintro e w1 ⟨rfl, rfl⟩)
              | (go_at_call 33; (with_reducible refine (Hp14.out _).mono ?_); rintro e w1 ⟨rfl, rfl⟩))
            go_ret
            exact ⟨rfl, rfl⟩
        · have hb2 : (U == 1) = false := by simpa using h2
          rw [if_neg (by simp [h0, h1, h2])]
          go_enter Try.func15, Try.ntmps15
          go_wp2_with (first
            | (go_at_call 32; refine Hsum.out.mono ?_; rintro e w1 ⟨rfl, rfl⟩)
            | (go_at_call 34; refine Hused.out.mono ?_; rintro e w1 ⟨rfl, rfl⟩)
            | (go_at_call 33; (with_reducible refine (Hp15.out _).mono ?_); rintro e w1 ⟨rfl, rfl⟩))
          go_ret
          exact ⟨rfl, rfl⟩
end
end Go.Proofs.Ytpocpckhcciecaa
namespace Go.Proofs.Ytpocpckhcciecaa
set_option linter.unusedSimpArgs false
set_option linter.unusedVariables false
open Go.ChangeShapes Go.WideShapes Go.ChangeAt Go.RowKit Go.Joins Go.Deep
def fullF (u : Nat) : Int := if u = 0 then 0 else if u = 1 then 16384 else 32768
theorem p_full_any (u : Nat) (hu : u ≤ 1000000) (w : World) : Calls Try.prog 63 #[.int .i64 (u : Int)] w fun e w' => e = .returned (.int .i64 (fullF u)) ∧ w' = w := by
  unfold fullF
  by_cases h0 : u = 0
  · subst h0
    rw [if_pos rfl]
    go_enter Try.func63, Try.ntmps63
    go_wp2
    go_ret
    exact ⟨rfl, rfl⟩
  · rw [if_neg h0]
    by_cases h1 : u = 1
    · subst h1
      rw [if_pos rfl]
      go_enter Try.func63, Try.ntmps63
      go_wp2
      go_ret
      exact ⟨rfl, rfl⟩
    · rw [if_neg h1]
      have b0 : ((u : Int) == 0) = false := by simp; omega
      have b1 : ((u : Int) == 1) = false := by simp; omega
      go_enter Try.func63, Try.ntmps63
      go_wp2
      go_ret
      exact ⟨rfl, rfl⟩
section
variable (l : List Int) (A : Option Addr) (n c : Nat) (w : World)
theorem p_used_any (hm : n ≤ 1000000) (hr : Reads w w.heap.size 1 A n (ints l)) :
    Calls Try.prog 64 #[.slice A n c] w fun e w' => e = .returned (.int .i64 (usedF l : Int)) ∧ w' = w := by
  have en : l.length = n := by have := hr.1; rw [ints_length] at this; omega
  have Hcell := lcells hr
  have Htake : Hid (∀ k (h : k < l.length), usedF (l.take (k + 1)) = usedF (l.take k) + if 0 < l[k] then 1 else 0) := Lib.hid (usedF_take l)
  have Hall : Hid (usedF (l.take n) = usedF l) := Lib.hid (by rw [List.take_of_length_le (by omega)])
  have En := Lib.hid en
  obtain ⟨R, hR⟩ : ∃ R : Int, (usedF l : Int) = R := ⟨_, rfl⟩
  rw [hR]
  have HR := Lib.hid hR
  clear hr en hR
  go_enter Try.func64, Try.ntmps64
  go_wp2
  go_loop [3, 5, 8] (fun p x i => ∃ k P : Nat, k ≤ n ∧ P ≤ k ∧ p = .int .i64 P ∧ i = .int .i64 k ∧ Hid (P = usedF (l.take k))) (fun _ _ i => n - (intOf i).toNat)
  case atStart => exact ⟨0, 0, by omega, by omega, rfl, rfl, rfl⟩
  case round =>
    obtain ⟨k, P, hk, hP, rfl, rfl, Hk⟩ := hrel
    by_cases hlt : k < n
    · have hki : (0 : Int) ≤ (k : Int) ∧ (k : Int) < n := by omega
      have hkl : k < l.length := by rw [En.out]; exact hlt
      obtain ⟨b, off, rfl, hb, hc⟩ := Hcell.out (by omega)
      have hx := hc k hkl
      have ht := Htake.out k hkl
      rw [← Hk.out] at ht
      have Ht := Lib.hid ht
      clear hc ht
      generalize l[k] = x at *
      by_cases hx0 : 0 < x
      · have Ht2 : Hid (P + 1 = usedF (l.take (k + 1))) := Lib.hid (by rw [Ht.out, if_pos hx0])
        go_wp2
        go_round
        case rel => exact ⟨k + 1, P + 1, by omega, by omega, iv (by omega), iv (by omega), Ht2.out⟩
        case measure => simp only [intOf]; omega
      · have Ht2 : Hid (P = usedF (l.take (k + 1))) := Lib.hid (by rw [Ht.out, if_neg hx0]; rfl)
        go_wp2
        go_round
        case rel => exact ⟨k + 1, P, by omega, by omega, rfl, iv (by omega), Ht2.out⟩
        case measure => simp only [intOf]; omega
    · obtain rfl : k = n := by omega
      have Hf : Hid ((P : Int) = R) := Lib.hid (by rw [← HR.out, ← Hall.out, ← Hk.out])
      go_wp2
      go_ret
      exact ⟨by rw [← Hf.out]; rfl, rfl⟩
def pcheckF (l : List Int) : Int := if 257 < l.length then 3 else if lgood l = true then (if (partF l : Int) = fullF (usedF l) then 0 else 80) else 80
theorem partF_le : ∀ l : List Int, partF l ≤ 32768 * l.length
  | [] => by simp [partF]
  | x :: t => by
    have := partF_le t
    have h2 : (2 : Nat) ^ (15 - x.toNat) ≤ 2 ^ 15 := Nat.pow_le_pow_right (by omega) (by omega)
    show (if 0 < x then 2 ^ (15 - x.toNat) else 0) + partF t ≤ _
    rw [List.length_cons]
    split <;> omega
theorem pshift (m : Nat) (h : m ≤ 15) : (32768 : Int) / 2 ^ m = ((2 ^ (15 - m) : Nat) : Int) := by
  have : ∀ m : Fin 16, (32768 : Int) / 2 ^ m.1 = ((2 ^ (15 - m.1) : Nat) : Int) := by decide
  exact this ⟨m, by omega⟩
set_option maxRecDepth 100000 in
set_option maxHeartbeats 4000000 in
theorem p_check_any (hm : n ≤ 1000000) (hr : Reads w w.heap.size 1 A n (ints l)) :
    Calls Try.prog 41 #[.slice A n c] w fun e w' => e = .returned (.int .i64 (pcheckF l)) ∧ Below w.heap.size w w' := by
  have en : l.length = n := by have := hr.1; rw [ints_length] at this; omega
  have Hall := Lib.hid (a_all_any l 15 A n c w (by omega) hr)
  have Hused := Lib.hid fun (W : World) (hW : Below w.heap.size w W) => p_used_any l A n c W (by omega) ((hr.below hW).more hW.size)
  have Hfull := Lib.hid fun W => p_full_any (usedF l) (by have := usedF_le l; omega) W
  obtain ⟨F, hF⟩ : ∃ F, pcheckF l = F := ⟨_, rfl⟩
  rw [hF]
  unfold pcheckF at hF
  rw [en] at hF
  by_cases hn : 257 < n
  · rw [if_pos hn] at hF
    subst hF
    have hni : (257 : Int) < n := by omega
    clear hr
    go_enter Try.func41, Try.ntmps41
    go_wp2
    go_ret
    exact ⟨rfl, Below.refl _ _⟩
  · rw [if_neg hn] at hF
    have hni : ¬ (257 : Int) < n := by omega
    by_cases hg : lgood l = true
    · rw [if_pos hg] at hF
      have hga : agood 15 l = true := hg
      rw [hga] at Hall
      have Hcell : Hid (0 < n → ∃ b off, A = some ⟨b, off, none⟩ ∧ ∀ wr, Below w.heap.size w wr → ∀ k, (hk : k < l.length) → wr.cell? ⟨b, off + k, none⟩ = some (.int .i64 l[k])) := Lib.hid fun h => by
        obtain ⟨b, off, e, hb, hc⟩ := hr.2 h
        exact ⟨b, off, e, fun wr hw k hk => (hw.cell (p := ⟨b, off + k, none⟩) hb).trans (hc k _ (ints_get l k hk))⟩
      have Hgood := Lib.hid fun k hk => lgood_get hg k hk
      have Htake := Lib.hid (partF_take l)
      have Hend : Hid (partF (l.take n) = partF l) := Lib.hid (by rw [List.take_of_length_le (by omega)])
      have Hbound : Hid (∀ k, k ≤ n → partF (l.take k) ≤ 32768 * 257) := Lib.hid fun k hk => by
        have := partF_le (l.take k)
        rw [List.length_take] at this
        have h3 : min k l.length ≤ 257 := by omega
        have := Nat.mul_le_mul_left 32768 h3
        omega
      have En := Lib.hid en
      have Hf := Lib.hid hF
      clear hr hg hga en hF
      generalize fullF (usedF l) = FU at *
      generalize hUU : (usedF l : Int) = UU at *
      clear hUU
      go_enter Try.func41, Try.ntmps41
      go_wp2_with (go_at_call 35; refine Hall.out.mono ?_; rintro e w1 ⟨rfl, hb1⟩; have Hb1 := Lib.hid hb1; clear hb1)
      go_loopw [3, 5, 14] (fun p x i wr => ∃ k P : Nat, k ≤ n ∧ P ≤ 32768 * 257 ∧ p = .int .i64 P ∧ i = .int .i64 k ∧ Hid (P = partF (l.take k)) ∧ Hid (Below w.heap.size w wr)) (fun _ _ i _ => n - (intOf i).toNat)
      case atStart => exact ⟨0, 0, by omega, by omega, rfl, rfl, rfl, Hb1⟩
      case round =>
        obtain ⟨k, P, hk, hP, rfl, rfl, Hk, Hw⟩ := hrel
        by_cases hlt : k < n
        · have hki : (0 : Int) ≤ (k : Int) ∧ (k : Int) < n := by omega
          have hkl : k < l.length := by rw [En.out]; exact hlt
          obtain ⟨b, off, rfl, hc⟩ := Hcell.out (by omega)
          have hx := hc wr Hw.out k hkl
          have ht := Htake.out k hkl
          rw [← Hk.out] at ht
          have hbd := Hbound.out (k + 1) (by omega)
          obtain ⟨g1, g2⟩ := Hgood.out k hkl
          have Ht := Lib.hid ht
          have Hbd := Lib.hid hbd
          clear hc ht hbd
          generalize l[k] = x at *
          obtain ⟨m, rfl⟩ : ∃ m : Nat, x = m := ⟨x.toNat, by omega⟩
          by_cases hx0 : (0 : Int) < (m : Int)
          · obtain ⟨S2, hS2⟩ : ∃ S2, partF (l.take (k + 1)) = S2 := ⟨_, rfl⟩
            have Ht2 := Ht.out
            rw [if_pos hx0, Int.toNat_natCast, hS2] at Ht2
            have Hbd2 := Hbd.out
            rw [hS2] at Hbd2
            have hsh := pshift m (by omega)
            generalize (2 ^ (15 - m) : Nat) = pw at *
            have HS2 : Hid (S2 = partF (l.take (k + 1))) := Lib.hid hS2.symm
            clear hS2 Ht Hbd
            have hz : (P : Int) + (pw : Int) = (S2 : Int) := by omega
            have hpw : (pw : Int) ≤ 8421376 := by omega
            clear Ht2
            go_wp2
            go_roundw
            case rel => exact ⟨k + 1, S2, by omega, by omega, iv (by omega), iv (by omega), HS2.out, Hw⟩
            case measure => simp only [intOf]; omega
          · have Ht2 : Hid (P = partF (l.take (k + 1))) := Lib.hid (by rw [Ht.out, if_neg hx0]; rfl)
            go_wp2
            go_roundw
            case rel => exact ⟨k + 1, P, by omega, hP, rfl, iv (by omega), Ht2.out, Hw⟩
            case measure => simp only [intOf]; omega
        · obtain rfl : k = n := by omega
          have hPe : (P : Int) = (partF l : Int) := by rw [← Hend.out, ← Hk.out]
          have hf := Hf.out
          rw [← hPe] at hf
          by_cases he : (P : Int) = FU
          · rw [if_pos he] at hf
            subst hf
            have hb : ((P : Int) == FU) = true := by simpa using he
            have HE := Lib.hid he
            clear hPe he Hf
            go_wp2_with (first
              | (go_at_call 64; refine (Hused.out _ Hw.out).mono ?_; rintro e w2 ⟨rfl, rfl⟩)
              | (go_at_call 63; refine (Hfull.out _).mono ?_; rintro e w2 ⟨rfl, rfl⟩))
            go_ret
            exact ⟨rfl, Hw.out⟩
          · rw [if_neg he] at hf
            subst hf
            have hb : ((P : Int) == FU) = false := by simpa using he
            have HE := Lib.hid he
            clear hPe he Hf
            go_wp2_with (first
              | (go_at_call 64; refine (Hused.out _ Hw.out).mono ?_; rintro e w2 ⟨rfl, rfl⟩)
              | (go_at_call 63; refine (Hfull.out _).mono ?_; rintro e w2 ⟨rfl, rfl⟩))
            go_ret
            exact ⟨rfl, Hw.out⟩
    · have hg2 : agood 15 l = false := by
        cases h : agood 15 l with
        | false => rfl
        | true => exact absurd h hg
      rw [if_neg hg] at hF
      rw [hg2] at Hall
      subst hF
      clear hr hg hg2
      go_enter Try.func41, Try.ntmps41
      go_wp2_with (go_at_call 35; refine Hall.out.mono ?_; rintro e w1 ⟨rfl, hb1⟩; have Hb1 := Lib.hid hb1; clear hb1)
      go_ret
      exact ⟨rfl, Hb1.out⟩
end
end Go.Proofs.Ytpocpckhcciecaa
namespace Go.Proofs.Ytpocpckhcciecaa
set_option linter.unusedSimpArgs false
set_option linter.unusedVariables false
open Go.ChangeShapes Go.WideShapes Go.ChangeAt Go.RowKit Go.Joins Go.Deep
theorem lpart_used : ∀ l : List Int, usedF l ≤ partF l ∧ partF l ≤ 16384 * usedF l
  | [] => by simp [usedF, partF]
  | x :: t => by
    obtain ⟨h1, h2⟩ := lpart_used t
    have e : usedF (x :: t) = (if 0 < x then 1 else 0) + usedF t := by
      unfold usedF
      rw [List.filter_cons]
      by_cases h : 0 < x
      · rw [if_pos (by simpa using h), if_pos h, List.length_cons]; omega
      · rw [if_neg (by simpa using h), if_neg h]; omega
    rw [e]
    show _ ≤ (if 0 < x then 2 ^ (15 - x.toNat) else 0) + partF t ∧ _
    by_cases h : 0 < x
    · rw [if_pos h, if_pos h]
      have h3 : (2 : Nat) ^ (15 - x.toNat) ≤ 2 ^ 14 := Nat.pow_le_pow_right (by omega) (by omega)
      have h4 : 0 < (2 : Nat) ^ (15 - x.toNat) := Nat.pow_pos (by omega)
      constructor
      · omega
      · show (if 0 < x then 2 ^ (15 - x.toNat) else 0) + partF t ≤ _
        rw [if_pos h]
        omega
    · rw [if_neg h, if_neg h]
      constructor
      · omega
      · show (if 0 < x then 2 ^ (15 - x.toNat) else 0) + partF t ≤ _
        rw [if_neg h]
        omega
/-- The program's answer is the document's. -/
theorem lcheck_ref (l : List Int) : pcheckF l = checkF l := by
  unfold pcheckF checkF
  by_cases h : 257 < l.length
  · rw [if_pos h, if_pos h]
  · rw [if_neg h, if_neg h]
    obtain ⟨h1, h2⟩ := lpart_used l
    unfold sumF fullF
    by_cases hg : lgood l = true
    · rw [if_pos hg, if_pos hg]
      by_cases u0 : usedF l = 0
      · rw [if_pos u0, if_pos (by omega), if_pos (by omega)]
      · rw [if_neg u0]
        by_cases u1 : usedF l = 1
        · rw [if_pos u1]
          by_cases hp : (partF l : Int) = 16384
          · rw [if_pos hp, if_pos (by omega)]
          · rw [if_neg hp, if_neg (by omega)]
        · rw [if_neg u1]
          by_cases hp : (partF l : Int) = 32768
          · rw [if_pos hp, if_pos (by omega)]
          · rw [if_neg hp, if_neg (by omega)]
    · rw [if_neg hg, if_neg hg, if_neg (by omega)]
end Go.Proofs.Ytpocpckhcciecaa
namespace Go.Proofs.Ytpocpckhcciecaa
set_option linter.unusedSimpArgs false
set_option linter.unusedVariables false
open Go.ChangeShapes Go.WideShapes Go.ChangeAt Go.RowKit Go.Joins Go.Deep
/-- append of any source at a step of a region that draws its order. -/
theorem lstep_append {P : Program} {w : World} {ops : Array Oper} {o : Oper} {a : Act} {K : Act → World → Prop} {Q : Exit → Act → World → Prop} {E : Prop} (hgd : o.guard = none) (s x : Operand) (t : TypeId)
    (ho : o.op = .call { callee := .builtin .append, args := #[s, x], argTypes := #[t, t] })
    (base : Nat) (e : TypeId) (i : TypeInfo) (z : Value) (size bytes : Nat) (ht : P.underlying t = some (.slice e)) (hi : P.info? e = some i) (hz : i.zero = some z)
    (hsize : i.size = size) (hby : i.bytes = bytes) (hzs : z.cells.size = size) (hsz : 0 < size)
    (v : Value) (n : Nat) (xs : List Value) (hs : a.eval s = v) (hown : w.ownsRow base e size v n xs)
    (Ax : Option Addr) (m c B : Nat) (news : List Value) (hx : a.eval x = .slice Ax m c) (hr : Reads w B size Ax m news) (h1 : ∀ u ∈ news, u.oneCell' = true)
    (h63 : n + m ≤ maxLen) (hbytes : (n + m) * bytes ≤ 140737488355328) (hbase : base ≤ w.heap.size) (N : Nat) (hN : n + m = N)
    (h : ∀ A' c' w', w'.ownsRow base e size (.slice A' N c') N (xs ++ news) → w.grownBy w' v.ownBlock → Sep w v (.slice A' N c') → K (a.put o.dst (.slice A' N c')) w') :
    if Region.wanted o (yielded ops a.tmps) = true then Oper.wp P o a w K Q else E := by
  subst hN
  have hw : Region.wanted o (yielded ops a.tmps) = true := by simp [Region.wanted, hgd]
  rw [if_pos hw]
  obtain ⟨v', w', hrun, h2, h3, h4⟩ := run_append_sep (P := P) w base t o.type e i z size bytes ht hi hz hsize hby hzs hsz v n xs hown Ax m c B news hr h1 h63 hbytes hbase
  obtain ⟨A2, c2, rfl, _, _⟩ := owns_cells h2
  unfold Oper.wp execOp
  simp only [ho, resolve, invoke, builtin, Sem.run_bind, Sem.run_pure, Result.andThen_ok, List.map_toArray, List.map_cons, List.map_nil, hs, hx, hrun]
  exact h A2 c2 w' h2 h3 h4
end Go.Proofs.Ytpocpckhcciecaa
