/-
 What the law of the last of these texts stands on, part 49.
-/
import Derived.Test.YtanjhbkbpalnaaaGreatMc20
set_option maxRecDepth 100000
set_option maxHeartbeats 8000000
open Go.Proofs.Tryz
namespace Go.Proofs.YtanjhbkbpalnaaaGreat
set_option linter.unusedSimpArgs false
set_option linter.unusedVariables false
open Go.ChangeShapes Go.WideShapes Go.ChangeAt Go.RowKit Go.Joins Go.Deep
theorem yc8 (xs ys : List Rc) (A1 A2 : Option Addr) (n1 n2 c1 c2 : Nat) (w : World) (e1 : xs.length = n1) (e2 : ys.length = n2) (m1 : n1 ≤ 4611686018427387904) (m2 : n2 ≤ 4611686018427387904) (h1 : Reads w w.heap.size 3 A1 n1 (rcs xs)) (h2 : Reads w w.heap.size 3 A2 n2 (rcs ys)) :
  Calls prog 27 #[.slice A1 n1 c1, .slice A2 n2 c2] w fun e w' => e = .returned (.bool (decide (xs = ys))) ∧ Below w.heap.size w w' := by
 by_cases hn : n1 = n2
 ·subst hn
  have G1 := qaa (yby h1 e1)
  have G2 := qaa (yby h2 e2)
  have E1 := qaa e1
  have E2 := qaa e2
  have Hyes : Hid (xs = ys → decide (xs = ys) = true) := qaa fun h => qaP h
  have Hno : Hid (xs ≠ ys → decide (xs = ys) = false) := qaa fun h => qbv h
  have hb0 : (((n1 : Nat) : Int) == (n1 : Int)) = true := beq_self_eq_true _
  clear h1 h2 e1 e2
  generalize decide (xs = ys) = r at *
  go_enter func27, ntmps27
  go_wp2
  go_loopw [5] (fun i wr => ∃ k : Nat, k ≤ n1 ∧ i = .int .i64 (k : Int) ∧ Hid (xs.take k = ys.take k) ∧ Hid (Below w.heap.size w wr)) (fun i _ => n1 - (intOf i).toNat)
  case atStart => exact ⟨0, by omega, rfl, qaa rfl, qaa (qam _ _)⟩
  case round =>
   obtain ⟨k, hk, rfl, HT, HB⟩ := hrel
   by_cases hlt : k < n1
   ·have k1 : k < xs.length := by have := E1.out; omega
    have k2 : k < ys.length := by have := E2.out; omega
    obtain ⟨b, off, rfl, hb, hc1⟩ := G1.out k hlt
    obtain ⟨b2, off2, rfl, hb2, hc2⟩ := G2.out k hlt
    obtain ⟨p0, p1, p2⟩ := hc1 k k1
    obtain ⟨q0, q1, q2⟩ := hc2 k k2
    have x0 := (HB.out.cell (p := ⟨b, off + k * 3, none⟩) hb).trans p0
    have x1 := (HB.out.cell (p := ⟨b, off + k * 3 + 1, none⟩) hb).trans p1
    have x2 := (HB.out.cell (p := ⟨b, off + k * 3 + 2, none⟩) hb).trans p2
    have y0 := (HB.out.cell (p := ⟨b2, off2 + k * 3, none⟩) hb2).trans q0
    have y1 := (HB.out.cell (p := ⟨b2, off2 + k * 3 + 1, none⟩) hb2).trans q1
    have y2 := (HB.out.cell (p := ⟨b2, off2 + k * 3 + 2, none⟩) hb2).trans q2
    have hki : (0 : Int) ≤ (k : Int) ∧ (k : Int) < (n1 : Int) := by omega
    have Hnx : Hid (xs[k] = ys[k] → xs.take (k + 1) = ys.take (k + 1)) := qaa fun h => by rw [qap k1, qap k2, HT.out, h]
    have Hdf : Hid (xs[k] ≠ ys[k] → r = false) := qaa fun h => Hno.out fun e => h (by subst e; rfl)
    clear p0 p1 p2 q0 q1 q2 hc1 hc2 G1 G2 Hyes Hno
    generalize xs[k] = u at *
    generalize ys[k] = v at *
    obtain ⟨a, b3, d⟩ := u
    obtain ⟨a', b3', d'⟩ := v
    dsimp only at x0 x1 x2 y0 y1 y2
    by_cases ea : a = a'
    ·subst ea
     by_cases eb : b3 = b3'
     ·subst eb
      by_cases ed : d = d'
      ·subst ed
       have Hn2 := qaa (Hnx.out rfl)
       clear Hnx Hdf
       go_wp2
       go_quiet (fail)
       go_wp2
       go_roundw
       case rel => exact ⟨k + 1, by omega, iv (by omega), Hn2, qaa (yay HB.out _)⟩
       case measure => simp only [intOf]; omega
      ·have hne : (d == d') = false := by simpa using ed
       have HF := qaa (Hdf.out fun e => ed (by injection e with _ e; injection e))
       clear Hnx Hdf ed
       go_wp2
       go_quiet (fail)
       go_wp2
       go_ret
       exact ⟨by rw [HF.out]; rfl, yay HB.out _⟩
     ·have HF := qaa (Hdf.out fun e => eb (by injection e with _ e; injection e))
      have hne : (b3 != b3') = true := by simpa using eb
      have hne2 : (b3 == b3') = false := by simpa using eb
      have hne3 : decide (b3 = b3') = false := by simpa using eb
      clear Hnx Hdf eb
      go_wp2
      go_quiet (fail)
      go_wp2
      go_ret
      exact ⟨by rw [HF.out]; rfl, yay HB.out _⟩
    ·have HF := qaa (Hdf.out fun e => ea (by injection e))
     have hne : (a != a') = true := by simpa using ea
     have hne2 : (a == a') = false := by simpa using ea
     have hne3 : decide (a = a') = false := by simpa using ea
     clear Hnx Hdf ea
     go_wp2
     go_quiet (fail)
     go_wp2
     go_ret
     exact ⟨by rw [HF.out]; rfl, yay HB.out _⟩
   ·obtain rfl : k = n1 := by omega
    have HF := qaa (Hyes.out (by
     have h := HT.out
     rwa [qa5 (by have := E1.out; omega), qa5 (by have := E2.out; omega)] at h))
    clear Hyes Hno
    go_wp2
    go_ret
    exact ⟨by rw [HF.out]; rfl, HB.out⟩
 ·have HF : Hid (decide (xs = ys) = false) := qaa (qbv fun e => hn (by rw [← e1, ← e2, e]))
  have hb0 : (((n1 : Nat) : Int) == (n2 : Int)) = false := qbx.2 (by omega)
  clear h1 h2 e1 e2
  generalize decide (xs = ys) = r at *
  go_enter func27, ntmps27
  go_wp2
  go_ret
  exact ⟨by rw [HF.out]; rfl, qam _ _⟩
end Go.Proofs.YtanjhbkbpalnaaaGreat
