/-
  Layer 12: the document's own Alike and Ranks, for every argument (ahead of the code's landing).
-/
import Derived.Test.YtngenehleelcmaaSufN
import Derived.Test.YtngenehleelcmaaRows
import Derived.Deep.OwnRows
namespace Go.Proofs.Ytngenehleelcmaa
set_option linter.unusedSimpArgs false
set_option linter.unusedVariables false
open Go.ChangeShapes Go.WideShapes Go.ChangeAt Go.RowKit Go.Joins Go.Deep

set_option maxRecDepth 100000 in
set_option maxHeartbeats 4000000 in
theorem sref_alike_any (x y : List UInt8) (w : World) (hx : x.length ≤ 1099511627776) (hy : y.length ≤ 1099511627776) :
    Calls Try.prog 31 #[.string ⟨x.toArray⟩, .string ⟨y.toArray⟩] w fun e w' => e = .returned (.int .i64 ((alike x y : Nat) : Int)) ∧ Below w.heap.size w w' := by
  have Hat := Lib.hid (alike_at x y)
  obtain ⟨R, hR⟩ : ∃ R, alike x y = R := ⟨_, rfl⟩
  rw [hR] at Hat ⊢
  have hxi : (x.length : Int) ≤ 1099511627776 := by omega
  have hyi : (y.length : Int) ≤ 1099511627776 := by omega
  clear hR
  go_enter Try.func31, Try.ntmps31
  go_wp2
  go_loopw [5] (fun i wr => ∃ n : Nat, n ≤ x.length ∧ n ≤ y.length ∧ i = .int .i64 n ∧ Hid (∀ i (h1 : i < x.length) (h2 : i < y.length), i < n → x[i] = y[i]) ∧ Hid (Below w.heap.size w wr)) (fun i _ => x.length - (intOf i).toNat)
  case atStart => exact ⟨0, by omega, by omega, rfl, Lib.hid fun i _ _ h => by omega, Lib.hid (Below.refl _ _)⟩
  case round =>
    obtain ⟨n, hn1, hn2, rfl, HE, HW⟩ := hrel
    by_cases h1 : n < x.length
    · have b1 : decide ((n : Int) < (x.length : Int)) = true := by rw [decide_eq_true_eq]; omega
      by_cases h2 : n < y.length
      · have b2 : decide ((n : Int) < (y.length : Int)) = true := by rw [decide_eq_true_eq]; omega
        have hni : (0 : Int) ≤ (n : Int) ∧ (n : Int) < (x.length : Int) ∧ (n : Int) < (y.length : Int) := by omega
        have e1 : ∀ h, ((⟨x.toArray⟩ : ByteArray)[n]'h) = x[n] := fun h => rfl
        have e2 : ∀ h, ((⟨y.toArray⟩ : ByteArray)[n]'h) = y[n] := fun h => rfl
        by_cases h3 : x[n] = y[n]
        · have b3 : ((x[n].toNat : Int) == (y[n].toNat : Int)) = true := by rw [h3]; simp
          have HE2 : Hid (∀ i (h1 : i < x.length) (h2 : i < y.length), i < n + 1 → x[i] = y[i]) := Lib.hid fun i a1 a2 a3 => by
            rcases Nat.lt_or_eq_of_le (Nat.lt_succ_iff.1 a3) with h | h
            · exact HE.out i a1 a2 h
            · subst h; exact h3
          clear h3
          go_wp2
          go_quiet (fail)
          go_wp2
          go_roundw
          case rel => exact ⟨n + 1, by omega, by omega, iv (by omega), HE2, Lib.hid (below_drewN HW.out _)⟩
          case measure => simp only [intOf]; omega
        · have b3 : ((x[n].toNat : Int) == (y[n].toNat : Int)) = false := by
            rw [beq_eq_false_iff_ne]
            intro e
            exact h3 (UInt8.toNat_inj.1 (by omega))
          have Hf := Lib.hid (Hat.out n HE.out hn1 hn2 (Or.inr (Or.inr ⟨h1, h2, h3⟩)))
          clear h3
          go_wp2
          go_quiet (fail)
          go_wp2
          go_ret
          rw [Hf.out]
          exact ⟨rfl, below_drewN HW.out _⟩
      · have b2 : decide ((n : Int) < (y.length : Int)) = false := by rw [decide_eq_false_iff_not]; omega
        have Hf := Lib.hid (Hat.out n HE.out hn1 hn2 (Or.inr (Or.inl (by omega))))
        go_wp2
        go_quiet (fail)
        go_wp2
        go_ret
        rw [Hf.out]
        exact ⟨rfl, below_drewN HW.out _⟩
    · have b1 : decide ((n : Int) < (x.length : Int)) = false := by rw [decide_eq_false_iff_not]; omega
      have Hf := Lib.hid (Hat.out n HE.out hn1 hn2 (Or.inl (by omega)))
      go_wp2
      go_quiet (fail)
      go_wp2
      go_ret
      rw [Hf.out]
      exact ⟨rfl, below_drewN HW.out _⟩
end Go.Proofs.Ytngenehleelcmaa
