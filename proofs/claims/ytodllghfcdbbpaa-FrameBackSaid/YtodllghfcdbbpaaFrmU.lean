/-
  Layer 16, the document's: Same of two rows of frames (ahead of the code's landing).
-/
import Derived.Test.YtodllghfcdbbpaaFrmA
namespace Go.Proofs.Ytodllghfcdbbpaa
set_option linter.unusedSimpArgs false
set_option linter.unusedVariables false
open Go.ChangeShapes Go.WideShapes Go.ChangeAt Go.RowKit Go.Joins Go.Deep
set_option maxRecDepth 100000 in
set_option maxHeartbeats 4000000 in
theorem fref_same_any (xs ys : List Fr) (A1 A2 : Option Addr) (n1 n2 c1 c2 : Nat) (w : World) (e1 : xs.length = n1) (e2 : ys.length = n2) (m1 : n1 ≤ 4611686018427387904) (m2 : n2 ≤ 4611686018427387904) (h1 : Reads w w.heap.size 4 A1 n1 (fcs xs)) (h2 : Reads w w.heap.size 4 A2 n2 (fcs ys)) :
    Calls Try.prog 16 #[.slice A1 n1 c1, .slice A2 n2 c2] w fun e w' => e = .returned (.bool (decide (xs = ys))) ∧ Below w.heap.size w w' := by
  by_cases hn : n1 = n2
  · subst hn
    have G1 := Lib.hid (frm_cells h1 e1)
    have G2 := Lib.hid (frm_cells h2 e2)
    have E1 := Lib.hid e1
    have E2 := Lib.hid e2
    have Hyes : Hid (xs = ys → decide (xs = ys) = true) := Lib.hid fun h => decide_eq_true h
    have Hno : Hid (xs ≠ ys → decide (xs = ys) = false) := Lib.hid fun h => decide_eq_false h
    have hb0 : (((n1 : Nat) : Int) == (n1 : Int)) = true := beq_self_eq_true _
    clear h1 h2 e1 e2
    generalize decide (xs = ys) = r at *
    go_enter Try.func16, Try.ntmps16
    go_wp2
    go_loopw [5] (fun i wr => ∃ k : Nat, k ≤ n1 ∧ i = .int .i64 (k : Int) ∧ Hid (xs.take k = ys.take k) ∧ Hid (Below w.heap.size w wr)) (fun i _ => n1 - (intOf i).toNat)
    case atStart => exact ⟨0, by omega, rfl, Lib.hid rfl, Lib.hid (Below.refl _ _)⟩
    case round =>
      obtain ⟨k, hk, rfl, HT, HB⟩ := hrel
      by_cases hlt : k < n1
      · have k1 : k < xs.length := by have := E1.out; omega
        have k2 : k < ys.length := by have := E2.out; omega
        obtain ⟨b, off, rfl, hb, hc1⟩ := G1.out k hlt
        obtain ⟨b2, off2, rfl, hb2, hc2⟩ := G2.out k hlt
        obtain ⟨p0, p1, p2, p3⟩ := hc1 k k1
        obtain ⟨q0, q1, q2, q3⟩ := hc2 k k2
        have x0 := (HB.out.cell (p := ⟨b, off + k * 4, none⟩) hb).trans p0
        have x1 := (HB.out.cell (p := ⟨b, off + k * 4 + 1, none⟩) hb).trans p1
        have x2 := (HB.out.cell (p := ⟨b, off + k * 4 + 2, none⟩) hb).trans p2
        have x3 := (HB.out.cell (p := ⟨b, off + k * 4 + 3, none⟩) hb).trans p3
        have y3 := (HB.out.cell (p := ⟨b2, off2 + k * 4 + 3, none⟩) hb2).trans q3
        have y0 := (HB.out.cell (p := ⟨b2, off2 + k * 4, none⟩) hb2).trans q0
        have y1 := (HB.out.cell (p := ⟨b2, off2 + k * 4 + 1, none⟩) hb2).trans q1
        have y2 := (HB.out.cell (p := ⟨b2, off2 + k * 4 + 2, none⟩) hb2).trans q2
        have hki : (0 : Int) ≤ (k : Int) ∧ (k : Int) < (n1 : Int) := by omega
        have Hnx : Hid (xs[k] = ys[k] → xs.take (k + 1) = ys.take (k + 1)) := Lib.hid fun h => by rw [List.take_succ_eq_append_getElem k1, List.take_succ_eq_append_getElem k2, HT.out, h]
        have Hdf : Hid (xs[k] ≠ ys[k] → r = false) := Lib.hid fun h => Hno.out fun e => h (by subst e; rfl)
        clear p0 p1 p2 p3 q0 q1 q2 q3 hc1 hc2 G1 G2 Hyes Hno
        generalize xs[k] = u at *
        generalize ys[k] = v at *
        obtain ⟨a, d, t, o⟩ := u
        obtain ⟨a', d', t', o'⟩ := v
        dsimp only at x0 x1 x2 x3 y0 y1 y2 y3
        by_cases ea : a = a'
        · subst ea
          by_cases ed : d = d'
          · subst ed
            by_cases et : t = t'
            · subst et
              by_cases eo : o = o'
              · subst eo
                have Hn2 := Lib.hid (Hnx.out rfl)
                clear Hnx Hdf
                go_wp2
                go_quiet (fail)
                go_wp2
                go_roundw
                case rel => exact ⟨k + 1, by omega, iv (by omega), Hn2, Lib.hid (below_drewN HB.out _)⟩
                case measure => simp only [intOf]; omega
              · have HF := Lib.hid (Hdf.out fun e => eo (by injection e with _ e; injection e with _ e; injection e))
                have hne : (o != o') = true := by simpa using eo
                have hne2 : (o == o') = false := by simpa using eo
                have hne3 : decide (o = o') = false := by simpa using eo
                clear Hnx Hdf eo
                go_wp2
                go_quiet (fail)
                go_wp2
                go_ret
                exact ⟨by rw [HF.out]; rfl, below_drewN HB.out _⟩
            · have HF := Lib.hid (Hdf.out fun e => et (by injection e with _ e; injection e with _ e; injection e))
              have hne : (t != t') = true := by simpa using et
              have hne2 : (t == t') = false := by simpa using et
              have hne3 : decide (t = t') = false := by simpa using et
              clear Hnx Hdf et
              go_wp2
              go_quiet (fail)
              go_wp2
              go_ret
              exact ⟨by rw [HF.out]; rfl, below_drewN HB.out _⟩
          · have hne : (d == d') = false := by simpa using ed
            have HF := Lib.hid (Hdf.out fun e => ed (by injection e with _ e; injection e))
            clear Hnx Hdf ed
            go_wp2
            go_quiet (fail)
            go_wp2
            go_ret
            exact ⟨by rw [HF.out]; rfl, below_drewN HB.out _⟩
        · have HF := Lib.hid (Hdf.out fun e => ea (by injection e))
          have hne : (a != a') = true := by simpa using ea
          have hne2 : (a == a') = false := by simpa using ea
          have hne3 : decide (a = a') = false := by simpa using ea
          clear Hnx Hdf ea
          go_wp2
          go_quiet (fail)
          go_wp2
          go_ret
          exact ⟨by rw [HF.out]; rfl, below_drewN HB.out _⟩
      · obtain rfl : k = n1 := by omega
        have HF := Lib.hid (Hyes.out (by
          have h := HT.out
          rwa [List.take_of_length_le (by have := E1.out; omega), List.take_of_length_le (by have := E2.out; omega)] at h))
        clear Hyes Hno
        go_wp2
        go_ret
        exact ⟨by rw [HF.out]; rfl, HB.out⟩
  · have HF : Hid (decide (xs = ys) = false) := Lib.hid (decide_eq_false fun e => hn (by rw [← e1, ← e2, e]))
    have hb0 : (((n1 : Nat) : Int) == (n2 : Int)) = false := beq_eq_false_iff_ne.2 (by omega)
    clear h1 h2 e1 e2
    generalize decide (xs = ys) = r at *
    go_enter Try.func16, Try.ntmps16
    go_wp2
    go_ret
    exact ⟨by rw [HF.out]; rfl, Below.refl _ _⟩
end Go.Proofs.Ytodllghfcdbbpaa
