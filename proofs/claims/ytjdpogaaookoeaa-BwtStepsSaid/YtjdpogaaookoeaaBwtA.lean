/-
  Layer 13: lastOf, check.
-/
import Derived.Test.YtjdpogaaookoeaaBwtT
namespace Go.Proofs.Ytjdpogaaookoeaa
set_option linter.unusedSimpArgs false
set_option linter.unusedVariables false
open Go.ChangeShapes Go.WideShapes Go.ChangeAt Go.RowKit Go.Joins Go.Deep

theorem p_lastof_any (l : List UInt8) (r i j : Nat) (b : UInt8) (w : World) (hs : l.length ≤ 1000000) (hj : j < l.length) (hr : r ≤ l.length) (hi : (i < r ∧ i = j) ∨ (r < i ∧ i = j + 1)) (hb : l[j] = b) :
    Calls Try.prog 19 #[.string ⟨l.toArray⟩, .int .i64 (r : Int), .int .i64 (i : Int)] w fun e w' => e = .returned (.int .u8 (b.toNat : Int)) ∧ w' = w := by
  have hli : (l.length : Int) ≤ 1000000 := by omega
  have hji : (0 : Int) ≤ (j : Int) ∧ (j : Int) < (l.length : Int) := by omega
  have hb1 : ∀ h, ((⟨l.toArray⟩ : ByteArray)[j]'h) = b := fun _ => hb
  rcases hi with ⟨h1, rfl⟩ | ⟨h1, rfl⟩
  · have d1 : ¬ (r : Int) < (i : Int) := by omega
    clear hb hj hr
    go_enter Try.func19, Try.ntmps19
    go_wp2
    go_ret
    exact ⟨rfl, rfl⟩
  · have d1 : (r : Int) < (j : Int) + 1 := by omega
    clear hb hj hr
    go_enter Try.func19, Try.ntmps19
    go_wp2
    go_ret
    exact ⟨rfl, rfl⟩
/-- Check's answer. -/
def bck (l : List UInt8) (r : Int) : Int := if 20000 < l.length then 3 else if bbad l r then 130 else 0
theorem p_bcheck_any (l : List UInt8) (r : Int) (w : World) (hs : l.length ≤ 1000000) :
    Calls Try.prog 21 #[.string ⟨l.toArray⟩, .int .i64 r] w fun e w' => e = .returned (.int .i64 (bck l r)) ∧ w' = w := by
  have hli : (l.length : Int) ≤ 1000000 := by omega
  by_cases h : 20000 < l.length
  · have fin : bck l r = 3 := if_pos h
    rw [fin]
    clear fin
    have d1 : (20000 : Int) < (l.length : Int) := by omega
    go_enter Try.func21, Try.ntmps21
    go_wp2
    go_ret
    exact ⟨rfl, rfl⟩
  · have fin0 : bck l r = if bbad l r then 130 else 0 := if_neg h
    have d0 : ¬ (20000 : Int) < (l.length : Int) := by omega
    have hmin : (min 1 (l.length : Int)) = if 0 < l.length then 1 else 0 := by split <;> omega
    by_cases h1 : r < min 1 (l.length : Int)
    · have fin : bck l r = 130 := fin0.trans (if_pos (by unfold bbad; split at hmin <;> omega))
      rw [fin]
      clear fin fin0 hmin
      go_enter Try.func21, Try.ntmps21
      go_wp2 <;> (go_ret; exact ⟨rfl, rfl⟩)
    · by_cases h2 : (l.length : Int) < r
      · have fin : bck l r = 130 := fin0.trans (if_pos (by unfold bbad; split at hmin <;> omega))
        rw [fin]
        clear fin fin0 hmin
        go_enter Try.func21, Try.ntmps21
        go_wp2 <;> (go_ret; exact ⟨rfl, rfl⟩)
      · have fin : bck l r = 0 := fin0.trans (if_neg (by unfold bbad; split at hmin <;> omega))
        rw [fin]
        clear fin fin0 hmin
        go_enter Try.func21, Try.ntmps21
        go_wp2 <;> (go_ret; exact ⟨rfl, rfl⟩)
end Go.Proofs.Ytjdpogaaookoeaa
