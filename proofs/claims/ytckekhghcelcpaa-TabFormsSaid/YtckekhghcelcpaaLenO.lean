/-
  Layer 8, the program's: full, Used, Check, for every list of numbers.
-/
import Derived.Test.YtckekhghcelcpaaLenW
import Derived.Test.YtckekhghcelcpaaLenR
namespace Go.Proofs.Ytckekhghcelcpaa
set_option linter.unusedSimpArgs false
set_option linter.unusedVariables false
open Go.ChangeShapes Go.WideShapes Go.ChangeAt Go.RowKit Go.Joins Go.Deep

def fullF (u : Nat) : Int := if u = 0 then 0 else if u = 1 then 16384 else 32768
theorem p_full_any (u : Nat) (hu : u ≤ 1000000) (w : World) : Calls Try.prog 36 #[.int .i64 (u : Int)] w fun e w' => e = .returned (.int .i64 (fullF u)) ∧ w' = w := by
  unfold fullF
  by_cases h0 : u = 0
  · subst h0
    rw [if_pos rfl]
    go_enter Try.func36, Try.ntmps36
    go_wp2
    go_ret
    exact ⟨rfl, rfl⟩
  · rw [if_neg h0]
    by_cases h1 : u = 1
    · subst h1
      rw [if_pos rfl]
      go_enter Try.func36, Try.ntmps36
      go_wp2
      go_ret
      exact ⟨rfl, rfl⟩
    · rw [if_neg h1]
      have b0 : ((u : Int) == 0) = false := by simp; omega
      have b1 : ((u : Int) == 1) = false := by simp; omega
      go_enter Try.func36, Try.ntmps36
      go_wp2
      go_ret
      exact ⟨rfl, rfl⟩
section
variable (l : List Int) (A : Option Addr) (n c : Nat) (w : World)
theorem p_used_any (hm : n ≤ 1000000) (hr : Reads w w.heap.size 1 A n (ints l)) :
    Calls Try.prog 37 #[.slice A n c] w fun e w' => e = .returned (.int .i64 (usedF l : Int)) ∧ w' = w := by
  have en : l.length = n := by have := hr.1; rw [ints_length] at this; omega
  have Hcell := lcells hr
  have Htake : Hid (∀ k (h : k < l.length), usedF (l.take (k + 1)) = usedF (l.take k) + if 0 < l[k] then 1 else 0) := Lib.hid (usedF_take l)
  have Hall : Hid (usedF (l.take n) = usedF l) := Lib.hid (by rw [List.take_of_length_le (by omega)])
  have En := Lib.hid en
  obtain ⟨R, hR⟩ : ∃ R : Int, (usedF l : Int) = R := ⟨_, rfl⟩
  rw [hR]
  have HR := Lib.hid hR
  clear hr en hR
  go_enter Try.func37, Try.ntmps37
  go_wp2
  go_loop [3, 5, 8] (fun p x i => ∃ k P : Nat, k ≤ n ∧ P ≤ k ∧ p = .int .i64 P ∧ i = .int .i64 k ∧ Hid (P = usedF (l.take k))) (fun _ _ i => n - (intOf i).toNat)
  case atStart => exact ⟨0, 0, by omega, by omega, rfl, rfl, rfl⟩
  case round =>
    obtain ⟨k, P, hk, hP, rfl, rfl, Hk⟩ := hrel
    by_cases hlt : k < n
    · have hki : (0 : Int) ≤ (k : Int) ∧ (k : Int) < n := by omega
      have hkl : k < l.length := by rw [En.out]; exact hlt
      obtain ⟨b, off, rfl, hb, hc⟩ := Hcell.out (by omega)
      have hx := hc k hkl
      have ht := Htake.out k hkl
      rw [← Hk.out] at ht
      have Ht := Lib.hid ht
      clear hc ht
      generalize l[k] = x at *
      by_cases hx0 : 0 < x
      · have Ht2 : Hid (P + 1 = usedF (l.take (k + 1))) := Lib.hid (by rw [Ht.out, if_pos hx0])
        go_wp2
        go_round
        case rel => exact ⟨k + 1, P + 1, by omega, by omega, iv (by omega), iv (by omega), Ht2.out⟩
        case measure => simp only [intOf]; omega
      · have Ht2 : Hid (P = usedF (l.take (k + 1))) := Lib.hid (by rw [Ht.out, if_neg hx0]; rfl)
        go_wp2
        go_round
        case rel => exact ⟨k + 1, P, by omega, by omega, rfl, iv (by omega), Ht2.out⟩
        case measure => simp only [intOf]; omega
    · obtain rfl : k = n := by omega
      have Hf : Hid ((P : Int) = R) := Lib.hid (by rw [← HR.out, ← Hall.out, ← Hk.out])
      go_wp2
      go_ret
      exact ⟨by rw [← Hf.out]; rfl, rfl⟩

def pcheckF (l : List Int) : Int := if 257 < l.length then 3 else if lgood l = true then (if (partF l : Int) = fullF (usedF l) then 0 else 80) else 80
theorem partF_le : ∀ l : List Int, partF l ≤ 32768 * l.length
  | [] => by simp [partF]
  | x :: t => by
    have := partF_le t
    have h2 : (2 : Nat) ^ (15 - x.toNat) ≤ 2 ^ 15 := Nat.pow_le_pow_right (by omega) (by omega)
    show (if 0 < x then 2 ^ (15 - x.toNat) else 0) + partF t ≤ _
    rw [List.length_cons]
    split <;> omega
theorem pshift (m : Nat) (h : m ≤ 15) : (32768 : Int) / 2 ^ m = ((2 ^ (15 - m) : Nat) : Int) := by
  have : ∀ m : Fin 16, (32768 : Int) / 2 ^ m.1 = ((2 ^ (15 - m.1) : Nat) : Int) := by decide
  exact this ⟨m, by omega⟩
set_option maxRecDepth 100000 in
set_option maxHeartbeats 4000000 in
theorem p_check_any (hm : n ≤ 1000000) (hr : Reads w w.heap.size 1 A n (ints l)) :
    Calls Try.prog 24 #[.slice A n c] w fun e w' => e = .returned (.int .i64 (pcheckF l)) ∧ Below w.heap.size w w' := by
  have en : l.length = n := by have := hr.1; rw [ints_length] at this; omega
  have Hall := Lib.hid (a_all_any l 15 A n c w (by omega) hr)
  have Hused := Lib.hid fun (W : World) (hW : Below w.heap.size w W) => p_used_any l A n c W (by omega) ((hr.below hW).more hW.size)
  have Hfull := Lib.hid fun W => p_full_any (usedF l) (by have := usedF_le l; omega) W
  obtain ⟨F, hF⟩ : ∃ F, pcheckF l = F := ⟨_, rfl⟩
  rw [hF]
  unfold pcheckF at hF
  rw [en] at hF
  by_cases hn : 257 < n
  · rw [if_pos hn] at hF
    subst hF
    have hni : (257 : Int) < n := by omega
    clear hr
    go_enter Try.func24, Try.ntmps24
    go_wp2
    go_ret
    exact ⟨rfl, Below.refl _ _⟩
  · rw [if_neg hn] at hF
    have hni : ¬ (257 : Int) < n := by omega
    by_cases hg : lgood l = true
    · rw [if_pos hg] at hF
      have hga : agood 15 l = true := hg
      rw [hga] at Hall
      have Hcell : Hid (0 < n → ∃ b off, A = some ⟨b, off, none⟩ ∧ ∀ wr, Below w.heap.size w wr → ∀ k, (hk : k < l.length) → wr.cell? ⟨b, off + k, none⟩ = some (.int .i64 l[k])) := Lib.hid fun h => by
        obtain ⟨b, off, e, hb, hc⟩ := hr.2 h
        exact ⟨b, off, e, fun wr hw k hk => (hw.cell (p := ⟨b, off + k, none⟩) hb).trans (hc k _ (ints_get l k hk))⟩
      have Hgood := Lib.hid fun k hk => lgood_get hg k hk
      have Htake := Lib.hid (partF_take l)
      have Hend : Hid (partF (l.take n) = partF l) := Lib.hid (by rw [List.take_of_length_le (by omega)])
      have Hbound : Hid (∀ k, k ≤ n → partF (l.take k) ≤ 32768 * 257) := Lib.hid fun k hk => by
        have := partF_le (l.take k)
        rw [List.length_take] at this
        have h3 : min k l.length ≤ 257 := by omega
        have := Nat.mul_le_mul_left 32768 h3
        omega
      have En := Lib.hid en
      have Hf := Lib.hid hF
      clear hr hg hga en hF
      generalize fullF (usedF l) = FU at *
      generalize hUU : (usedF l : Int) = UU at *
      clear hUU
      go_enter Try.func24, Try.ntmps24
      go_wp2_with (go_at_call 35; refine Hall.out.mono ?_; rintro e w1 ⟨rfl, hb1⟩; have Hb1 := Lib.hid hb1; clear hb1)
      go_loopw [3, 5, 14] (fun p x i wr => ∃ k P : Nat, k ≤ n ∧ P ≤ 32768 * 257 ∧ p = .int .i64 P ∧ i = .int .i64 k ∧ Hid (P = partF (l.take k)) ∧ Hid (Below w.heap.size w wr)) (fun _ _ i _ => n - (intOf i).toNat)
      case atStart => exact ⟨0, 0, by omega, by omega, rfl, rfl, rfl, Hb1⟩
      case round =>
        obtain ⟨k, P, hk, hP, rfl, rfl, Hk, Hw⟩ := hrel
        by_cases hlt : k < n
        · have hki : (0 : Int) ≤ (k : Int) ∧ (k : Int) < n := by omega
          have hkl : k < l.length := by rw [En.out]; exact hlt
          obtain ⟨b, off, rfl, hc⟩ := Hcell.out (by omega)
          have hx := hc wr Hw.out k hkl
          have ht := Htake.out k hkl
          rw [← Hk.out] at ht
          have hbd := Hbound.out (k + 1) (by omega)
          obtain ⟨g1, g2⟩ := Hgood.out k hkl
          have Ht := Lib.hid ht
          have Hbd := Lib.hid hbd
          clear hc ht hbd
          generalize l[k] = x at *
          obtain ⟨m, rfl⟩ : ∃ m : Nat, x = m := ⟨x.toNat, by omega⟩
          by_cases hx0 : (0 : Int) < (m : Int)
          · obtain ⟨S2, hS2⟩ : ∃ S2, partF (l.take (k + 1)) = S2 := ⟨_, rfl⟩
            have Ht2 := Ht.out
            rw [if_pos hx0, Int.toNat_natCast, hS2] at Ht2
            have Hbd2 := Hbd.out
            rw [hS2] at Hbd2
            have hsh := pshift m (by omega)
            generalize (2 ^ (15 - m) : Nat) = pw at *
            have HS2 : Hid (S2 = partF (l.take (k + 1))) := Lib.hid hS2.symm
            clear hS2 Ht Hbd
            have hz : (P : Int) + (pw : Int) = (S2 : Int) := by omega
            have hpw : (pw : Int) ≤ 8421376 := by omega
            clear Ht2
            go_wp2
            go_roundw
            case rel => exact ⟨k + 1, S2, by omega, by omega, iv (by omega), iv (by omega), HS2.out, Hw⟩
            case measure => simp only [intOf]; omega
          · have Ht2 : Hid (P = partF (l.take (k + 1))) := Lib.hid (by rw [Ht.out, if_neg hx0]; rfl)
            go_wp2
            go_roundw
            case rel => exact ⟨k + 1, P, by omega, hP, rfl, iv (by omega), Ht2.out, Hw⟩
            case measure => simp only [intOf]; omega
        · obtain rfl : k = n := by omega
          have hPe : (P : Int) = (partF l : Int) := by rw [← Hend.out, ← Hk.out]
          have hf := Hf.out
          rw [← hPe] at hf
          by_cases he : (P : Int) = FU
          · rw [if_pos he] at hf
            subst hf
            have hb : ((P : Int) == FU) = true := by simpa using he
            have HE := Lib.hid he
            clear hPe he Hf
            go_wp2_with (first
              | (go_at_call 37; refine (Hused.out _ Hw.out).mono ?_; rintro e w2 ⟨rfl, rfl⟩)
              | (go_at_call 36; refine (Hfull.out _).mono ?_; rintro e w2 ⟨rfl, rfl⟩))
            go_ret
            exact ⟨rfl, Hw.out⟩
          · rw [if_neg he] at hf
            subst hf
            have hb : ((P : Int) == FU) = false := by simpa using he
            have HE := Lib.hid he
            clear hPe he Hf
            go_wp2_with (first
              | (go_at_call 37; refine (Hused.out _ Hw.out).mono ?_; rintro e w2 ⟨rfl, rfl⟩)
              | (go_at_call 36; refine (Hfull.out _).mono ?_; rintro e w2 ⟨rfl, rfl⟩))
            go_ret
            exact ⟨rfl, Hw.out⟩
    · have hg2 : agood 15 l = false := by
        cases h : agood 15 l with
        | false => rfl
        | true => exact absurd h hg
      rw [if_neg hg] at hF
      rw [hg2] at Hall
      subst hF
      clear hr hg hg2
      go_enter Try.func24, Try.ntmps24
      go_wp2_with (go_at_call 35; refine Hall.out.mono ?_; rintro e w1 ⟨rfl, hb1⟩; have Hb1 := Lib.hid hb1; clear hb1)
      go_ret
      exact ⟨rfl, Hb1.out⟩
end
end Go.Proofs.Ytckekhghcelcpaa
