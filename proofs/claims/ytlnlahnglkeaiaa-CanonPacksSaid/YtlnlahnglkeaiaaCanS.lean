/-
  Layer 9: the document's own SameFields (ahead of the code's landing).
-/
import Derived.Test.YtlnlahnglkeaiaaCanG
namespace Go.Proofs.Ytlnlahnglkeaiaa
set_option linter.unusedSimpArgs false
set_option linter.unusedVariables false
open Go.ChangeShapes Go.WideShapes Go.ChangeAt Go.RowKit Go.Joins Go.Deep

set_option maxRecDepth 100000 in
set_option maxHeartbeats 4000000 in
theorem cref_same_any (A1 A2 : Option Addr) (n1 n2 c1 c2 : Nat) (xs ys : List (Int × Int)) (w : World) (e1 : xs.length = n1) (e2 : ys.length = n2) (h1 : Reads w w.heap.size 2 A1 n1 (pairs .i64 xs)) (h2 : Reads w w.heap.size 2 A2 n2 (pairs .i64 ys)) (m1 : n1 ≤ 1000000) (m2 : n2 ≤ 1000000) :
    Calls Try.prog 14 #[.slice A1 n1 c1, .slice A2 n2 c2] w fun e w' => e = .returned (.bool (decide (xs = ys))) ∧ Below w.heap.size w w' := by
  by_cases hn : n1 = n2
  · have G1 := Lib.hid fun h => cfields_at h1 h
    have G2 := Lib.hid fun h => cfields_at h2 h
    subst hn
    have E1 := Lib.hid e1
    have E2 := Lib.hid e2
    clear e1 e2 h1 h2
    generalize hr : decide (xs = ys) = r
    have Hr := Lib.hid hr
    clear hr
    go_enter Try.func14, Try.ntmps14
    go_wp2
    go_loopw [5] (fun i wr => ∃ k : Nat, k ≤ n1 ∧ i = .int .i64 k ∧ Hid (xs.take k = ys.take k) ∧ Hid (Below w.heap.size w wr)) (fun i _ => n1 - (intOf i).toNat)
    case atStart => exact ⟨0, by omega, rfl, rfl, Below.refl _ _⟩
    case round =>
      obtain ⟨k, hk, rfl, Hk, Hb⟩ := hrel
      by_cases hlt : k < n1
      · have k1 : k < xs.length := by have := E1.out; omega
        have k2 : k < ys.length := by have := E2.out; omega
        obtain ⟨b1, o1, rfl, hb1, hc1⟩ := G1.out (by omega)
        obtain ⟨b2, o2, rfl, hb2, hc2⟩ := G2.out (by omega)
        have x1 := (Hb.out.cell (p := ⟨b1, o1 + k * 2, none⟩) hb1).trans (hc1 k k1).1
        have x2 := (Hb.out.cell (p := ⟨b1, o1 + k * 2 + 1, none⟩) hb1).trans (hc1 k k1).2
        have x3 := (Hb.out.cell (p := ⟨b2, o2 + k * 2, none⟩) hb2).trans (hc2 k k2).1
        have x4 := (Hb.out.cell (p := ⟨b2, o2 + k * 2 + 1, none⟩) hb2).trans (hc2 k k2).2
        have Hnext : Hid (xs[k] = ys[k] → xs.take (k + 1) = ys.take (k + 1)) := Lib.hid fun h => by
          rw [List.take_succ_eq_append_getElem k1, List.take_succ_eq_append_getElem k2, Hk.out, h]
        have Hdiff : Hid (xs[k] ≠ ys[k] → r = false) := Lib.hid fun h => by
          rw [← Hr.out]
          refine decide_eq_false fun e => h ?_
          subst e
          rfl
        have hki : (0 : Int) ≤ (k : Int) ∧ (k : Int) < (n1 : Int) := by omega
        clear hc1 hc2
        generalize xs[k] = x at *
        generalize ys[k] = y at *
        obtain ⟨x, x'⟩ := x
        obtain ⟨y, y'⟩ := y
        by_cases hxy : x = y
        · by_cases hxy2 : x' = y'
          · subst hxy hxy2
            have hbb : (x == x) = true := by simp
            have hbb' : (x' == x') = true := by simp
            go_wp2
            go_quiet (fail)
            go_wp2
            go_roundw
            case rel => exact ⟨k + 1, by omega, iv (by omega), by first | exact Hnext.out trivial | exact Hnext.out rfl, by first | exact Hb.out | exact below_drewN Hb.out _⟩
            case measure => simp only [intOf]; omega
          · have hr := Hdiff.out (fun h => hxy2 (Prod.mk.inj h).2)
            have hbb : (x == y) = true := by simpa using hxy
            have hbb' : (x' == y') = false := by simpa using hxy2
            go_wp2
            go_quiet (fail)
            go_wp2
            go_ret
            exact ⟨by rw [hr]; rfl, by first | exact Hb.out | exact below_drewN Hb.out _⟩
        · have hr := Hdiff.out (fun h => hxy (Prod.mk.inj h).1)
          have hbb : (x == y) = false := by simpa using hxy
          go_wp2
          go_quiet (fail)
          go_wp2
          go_ret
          exact ⟨by rw [hr]; rfl, by first | exact Hb.out | exact below_drewN Hb.out _⟩
      · obtain rfl : k = n1 := by omega
        have hr : r = true := by
          rw [← Hr.out]
          have := Hk.out
          rw [List.take_of_length_le (by have := E1.out; omega), List.take_of_length_le (by have := E2.out; omega)] at this
          exact decide_eq_true this
        go_wp2
        go_ret
        exact ⟨by rw [hr]; rfl, Hb.out⟩
  · have hr : decide (xs = ys) = false := decide_eq_false fun e => hn (by rw [← e1, ← e2, e])
    rw [hr]
    have hne : ¬ (n1 : Int) = (n2 : Int) := by omega
    clear h1 h2 hr
    go_enter Try.func14, Try.ntmps14
    go_wp2
    go_ret
    exact ⟨rfl, by go_grown⟩
end Go.Proofs.Ytlnlahnglkeaiaa
