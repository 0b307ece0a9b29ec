/-
 What the law of the last of these texts stands on, part 47.
-/
import Derived.Test.YtanjhbkbpalnaaaGreatMa01
set_option maxRecDepth 100000
set_option maxHeartbeats 8000000
open Go.Proofs.Tryz
namespace Go.Proofs.YtanjhbkbpalnaaaGreat
set_option linter.unusedSimpArgs false
set_option linter.unusedVariables false
open Go.ChangeShapes Go.WideShapes Go.ChangeAt Go.RowKit Go.Joins Go.Deep
theorem same_any (A1 A2 : Option Addr) (n1 n2 c1 c2 : Nat) (xs ys : List Int) (w : World) (h1 : Reads w w.heap.size 1 A1 n1 (ints xs)) (h2 : Reads w w.heap.size 1 A2 n2 (ints ys)) (m1 : n1 ≤ 4611686018427387904) (m2 : n2 ≤ 4611686018427387904) :
  Calls prog 17 #[.slice A1 n1 c1, .slice A2 n2 c2] w fun e w' => e = .returned (.bool (decide (xs = ys))) ∧ Below w.heap.size w w' := by
 have e1 : xs.length = n1 := by have := h1.1; rw [yab] at this; omega
 have e2 : ys.length = n2 := by have := h2.1; rw [yab] at this; omega
 by_cases hn : n1 = n2
 ·have g1 : 0 < n1 → ∃ b off, A1 = some ⟨b, off, none⟩ ∧ b < w.heap.size ∧ ∀ k, (hk : k < xs.length) → w.cell? ⟨b, off + k, none⟩ = some (.int .i64 xs[k]) := by
   intro h
   obtain ⟨b, off, e, hb, hc⟩ := h1.2 h
   exact ⟨b, off, e, hb, fun k hk => hc k _ (yai xs k hk)⟩
  have g2 : 0 < n2 → ∃ b off, A2 = some ⟨b, off, none⟩ ∧ b < w.heap.size ∧ ∀ k, (hk : k < ys.length) → w.cell? ⟨b, off + k, none⟩ = some (.int .i64 ys[k]) := by
   intro h
   obtain ⟨b, off, e, hb, hc⟩ := h2.2 h
   exact ⟨b, off, e, hb, fun k hk => hc k _ (yai ys k hk)⟩
  subst hn
  have G1 := qaa g1
  have G2 := qaa g2
  have E1 := qaa e1
  have E2 := qaa e2
  clear g1 g2 e1 e2 h1 h2
  generalize hr : decide (xs = ys) = r
  have Hr := qaa hr
  clear hr
  go_enter func17, ntmps17
  go_wp2
  go_loopw [5] (fun i wr => ∃ k : Nat, k ≤ n1 ∧ i = .int .i64 k ∧ Hid (xs.take k = ys.take k) ∧ Hid (Below w.heap.size w wr)) (fun i _ => n1 - (intOf i).toNat)
  case atStart => exact ⟨0, by omega, rfl, rfl, qak _ _⟩
  case round =>
   obtain ⟨k, hk, rfl, Hk, Hb⟩ := hrel
   by_cases hlt : k < n1
   ·have k1 : k < xs.length := by have := E1.out; omega
    have k2 : k < ys.length := by have := E2.out; omega
    obtain ⟨b1, o1, rfl, hb1, hc1⟩ := G1.out (by omega)
    obtain ⟨b2, o2, rfl, hb2, hc2⟩ := G2.out (by omega)
    have x1 := (Hb.out.cell (p := ⟨b1, o1 + k, none⟩) hb1).trans (hc1 k k1)
    have x2 := (Hb.out.cell (p := ⟨b2, o2 + k, none⟩) hb2).trans (hc2 k k2)
    have hnext : xs[k] = ys[k] → xs.take (k + 1) = ys.take (k + 1) := fun h => by
     rw [qat k1, qat k2, Hk.out, h]
    have hdiff : xs[k] ≠ ys[k] → r = false := fun h => by
     rw [← Hr.out]
     refine qbX fun e => h ?_
     subst e
     rfl
    have Hnext : Hid (xs[k] = ys[k] → xs.take (k + 1) = ys.take (k + 1)) := qaa hnext
    have Hdiff := qaa hdiff
    clear hnext hdiff hc1 hc2
    generalize xs[k] = x at *
    generalize ys[k] = y at *
    by_cases hxy : x = y
    ·subst hxy
     have Hnext2 : Hid (xs.take (k + 1) = ys.take (k + 1)) := qaa (Hnext.out rfl)
     go_wp2
     go_quiet (fail)
     go_wp2
     go_roundw
     case rel => exact ⟨k + 1, by omega, iv (by omega), Hnext2.out, yaj Hb.out _⟩
     case measure => simp [intOf]; omega
    ·go_wp2
     go_quiet (fail)
     go_wp2
     go_ret
     exact ⟨by rw [Hdiff.out hxy]; rfl, yaj Hb.out _⟩
   ·obtain rfl : k = n1 := by omega
    have hrt : r = true := by
     rw [← Hr.out]
     have h := Hk.out
     rw [qar (by have := E1.out; omega), qar (by have := E2.out; omega)] at h
     simp [h]
    have Hrt := qaa hrt
    clear hrt
    go_wp2
    go_ret
    exact ⟨by rw [Hrt.out]; rfl, Hb.out⟩
 ·have hr : decide (xs = ys) = false := qbX fun e => hn (by rw [← e1, ← e2, e])
  rw [hr]
  clear hr h1 h2 e1 e2
  go_enter func17, ntmps17
  go_wp2
  go_ret
  exact ⟨rfl, by go_grown⟩
end Go.Proofs.YtanjhbkbpalnaaaGreat
