/-
 What the law of the last of these texts stands on, part 50.
-/
import Derived.Test.YtanjhbkbpalnaaaGreatMc44
import Derived.Test.YtanjhbkbpalnaaaGreatMc49
set_option maxRecDepth 100000
set_option maxHeartbeats 8000000
open Go.Proofs.Tryz
namespace Go.Proofs.YtanjhbkbpalnaaaGreat
set_option linter.unusedSimpArgs false
set_option linter.unusedVariables false
open Go.ChangeShapes Go.WideShapes Go.ChangeAt Go.RowKit Go.Joins Go.Deep
theorem rmk_room (N : Nat) (h : N ≤ 281474976710656) (w : World) :
  (Instr.makeSlice 36 (.int .i64 0) (.int .i64 (N : Int))).run prog w = .ok (.slice (some ⟨w.heap.size, 0, none⟩) 0 N) (w.alloc (.cells (madeCells #[.int .u8 0] N) 5)) := by
 obtain ⟨i0, hi, hz0, hz1, hz9⟩ := qb4 ycV
 have := run_make (P := prog) w 36 5 i0 (.int .u8 0) underlying36 hi hz0 .i64 .i64 0 (N : Int) (by omega) (by omega) (by rw [hz9]; omega) (by omega)
 rw [hz1, qcA, qav] at this
 exact this
theorem rmk_owns (N B : Nat) (w : World) (hB : B ≤ w.heap.size) (h : N ≤ 281474976710656) : (w.alloc (.cells (madeCells #[.int .u8 0] N) 5)).ownsRow B 5 1 (.slice (some ⟨w.heap.size, 0, none⟩) 0 N) 0 (bc []).toList := by
 refine ⟨rfl, .inr ⟨w.heap.size, N, _, rfl, hB, heap_alloc_new w _, qbE _, by unfold maxLen; omega, ?_, ?_⟩⟩
 ·rw [bc_zero, ycy, qaE, qcA]
 ·rw [qcB, qbb]
  rfl
theorem rjB_most {l : List Rc} (h : ∀ r ∈ l, rmay r = true) (k : Nat) (hk : k ≤ l.length) : (rjB (l.take k)).length ≤ 2027 * k := by
 induction k with
 | zero => exact qaf _
 | succ k ih =>
  rw [yf2 l k (by omega), qae]
  have := rB_len (h _ (qaq (show k < l.length by omega)))
  have := ih (by omega)
  omega
theorem ycx (l : List Rc) (A : Option Addr) (n c : Nat) (w : World) (hl : l.length = n) (hn : n ≤ 1000000) (hr : Reads w w.heap.size 3 A n (rcs l)) :
  Calls prog 26 #[.slice A n c] w fun e w' => e = .returned (.tuple #[.string ⟨(yas l).1.toArray⟩, .int .i64 (yas l).2]) ∧ Below w.heap.size w w' := by
 have hrow := ybu l A n c w hl hn hr
 by_cases hE : yaz l ≠ 0
 ·have fin : yas l = ([], yaz l) := qah hE
  rw [fin]
  have Hrow := qaa hrow
  clear hrow fin hr hl
  generalize yaz l = E at *
  go_enter func26, ntmps26
  go_wp2_with (go_at_call 33; (with_reducible refine Hrow.out.mono ?_); rintro e w1 ⟨rfl, hb1⟩; have Hb1 := qaa hb1; clear hb1 Hrow)
  go_ret2
  exact ⟨rfl, Hb1.out⟩
 have hE0 : yaz l = 0 := by omega
 rw [hE0] at hrow
 have Hmay := qaa (ydt hE0)
 have Hbig : Hid (20000 < (rjB l).length → yas l = ([], 3)) := qaa fun h => by unfold yas; rw [qag hE, qah h]
 have Hfit : Hid (¬ 20000 < (rjB l).length → yas l = (rjB l, 0)) := qaa fun h => by unfold yas; rw [qag hE, qag h]
 have Hrow := qaa hrow
 have Hc := qaa (yby hr hl)
 have Hl := qaa hl
 have H0 : Hid (rjB (l.take 0) = []) := qaa rfl
 have Hmost : Hid (∀ k, k ≤ n → (rjB (l.take k)).length ≤ 2027 * k) := qaa fun k hk => rjB_most (ydt hE0) k (by omega)
 clear hr hl hrow hE hE0
 go_enter func26, ntmps26
 go_wp2_with (go_at_call 33; (with_reducible refine Hrow.out.mono ?_); rintro e w1 ⟨rfl, hb1⟩; have Hb1 := qaa hb1; clear hb1 Hrow)
 go_loopw [5, 18] (fun sv i wr => ∃ (k m : Nat), k ≤ n ∧ i = .int .i64 (k : Int) ∧ sv = .int .i64 (m : Int) ∧ Hid ((rjB (l.take k)).length = m) ∧ Hid (Below w.heap.size w wr)) (fun _ i _ => n - (intOf i).toNat)
 case atStart => exact ⟨0, 0, by omega, rfl, rfl, qaa (by rw [H0.out]; rfl), Hb1⟩
 case round =>
  obtain ⟨k, m, hk, rfl, rfl, HU, HB⟩ := hrel
  by_cases hlt : k < n
  ·have hkl : k < l.length := by have := Hl.out; omega
   obtain ⟨b, off, rfl, hb, hcell⟩ := Hc.out k hlt
   obtain ⟨d0, d1, d2⟩ := hcell k hkl
   have c0 := (HB.out.cell (p := ⟨b, off + k * 3, none⟩) hb).trans d0
   have c1 := (HB.out.cell (p := ⟨b, off + k * 3 + 1, none⟩) hb).trans d1
   have c2 := (HB.out.cell (p := ⟨b, off + k * 3 + 2, none⟩) hb).trans d2
   have hki : (0 : Int) ≤ (k : Int) ∧ (k : Int) < (n : Int) := by omega
   have hm := Hmay.out _ (qaq hkl)
   have hsz := qaa fun W => yg2 l[k].1 l[k].2.1 l[k].2.2 W
   have e1 : ydb (l[k].1, l[k].2.1, l[k].2.2) = (rB l[k]).length := by unfold ydb; rw [(yeq hm).2]
   rw [e1] at hsz
   have h1 := Hmost.out k (by omega)
   rw [HU.out] at h1
   have h2 := rB_len hm
   have Hnx : Hid ((rjB (l.take (k + 1))).length = m + (rB l[k]).length) := qaa (by rw [yf2 l k hkl, qae, HU.out])
   clear d0 d1 d2 e1 hm hcell H0 Hc
   generalize l[k].1 = x at *
   generalize l[k].2.1 = y at *
   generalize l[k].2.2 = d at *
   generalize (rB l[k]).length = q at *
   have hmq : (m : Int) ≤ 2027000000 ∧ (q : Int) ≤ 2027 := by omega
   clear h1 h2
   have HA := qaa (HB.out.alloc HB.out.size (.cells #[.int .i64 x, .int .i64 y, .string ⟨d.toArray⟩] 54))
   go_wp2_with (go_at_call 32; (with_reducible refine (hsz.out _).mono ?_); rintro e w2 ⟨rfl, hb2⟩; have HB2 := qaa (HA.out.trans (hb2.mono HA.out.size)); clear hb2 hsz)
   go_roundw
   case rel => exact ⟨k + 1, m + q, by omega, iv (by omega), iv (by omega), Hnx, HB2⟩
   case measure => simp only [intOf]; omega
  ·obtain rfl : k = n := by omega
   have e : rjB l = rjB (l.take k) := by rw [qa5 (by have := Hl.out; omega)]
   have Hm : Hid ((rjB l).length = m) := qaa (by rw [e]; exact HU.out)
   clear e HU
   by_cases hbig : 20000 < m
   ·have hbi : (20000 : Int) < (m : Int) := by omega
    have HF := qaa (Hbig.out (by rw [Hm.out]; exact hbig))
    clear Hbig Hfit
    go_wp2
    go_ret2
    exact ⟨by rw [HF.out]; rfl, HB.out⟩
   ·have hbi : ¬ (20000 : Int) < (m : Int) := by omega
    have HF := qaa (Hfit.out (by rw [Hm.out]; exact hbig))
    clear Hbig Hfit
    have hmk := fun W => rmk_room m (by omega) W
    have Hown : Hid ((wr.alloc (.cells (madeCells #[.int .u8 0] m) 5)).ownsRow w.heap.size 5 1 (.slice (some ⟨wr.heap.size, 0, none⟩) 0 m) 0 (bc []).toList) := qaa (rmk_owns m w.heap.size wr HB.out.size (by omega))
    have HBA := qaa (HB.out.alloc HB.out.size (.cells (madeCells #[.int .u8 0] m) 5))
    generalize madeCells #[.int .u8 0] m = Z at *
    go_wp2
    go_loopw [8, 33] (fun ov i W => ∃ (j : Nat) (U : List UInt8), j ≤ k ∧ i = .int .i64 (j : Int) ∧ Hid (rjB (l.take j) = U) ∧ Hid (W.ownsRow w.heap.size 5 1 ov U.length (bc U).toList) ∧ Hid (Below w.heap.size w W)) (fun _ i _ => k - (intOf i).toNat)
    case atStart => exact ⟨0, [], by omega, rfl, H0, Hown, HBA⟩
    case round =>
     obtain ⟨j, U, hj, rfl, HU2, HO2, HW⟩ := hrel
     by_cases hjt : j < k
     ·have hjl : j < l.length := by have := Hl.out; omega
      obtain ⟨b, off, rfl, hb, hcell⟩ := Hc.out j hjt
      obtain ⟨d0, d1, d2⟩ := hcell j hjl
      have c0 := (HW.out.cell (p := ⟨b, off + j * 3, none⟩) hb).trans d0
      have c1 := (HW.out.cell (p := ⟨b, off + j * 3 + 1, none⟩) hb).trans d1
      have c2 := (HW.out.cell (p := ⟨b, off + j * 3 + 2, none⟩) hb).trans d2
      have hji : (0 : Int) ≤ (j : Int) ∧ (j : Int) < (k : Int) := by omega
      have hm := Hmay.out _ (qaq hjl)
      have hle : U.length ≤ 1000000 := by have := rjB_le l j; rw [HU2.out, Hm.out] at this; omega
      have hlay := qaa fun v W2 hB ho => p_rlay_any l[j].1 l[j].2.1 l[j].2.2 hm w.heap.size v U W2 hle hB ho
      have Hnx : Hid (rjB (l.take (j + 1)) = U ++ rB l[j]) := qaa (by rw [yf2 l j hjl, HU2.out])
      clear d0 d1 d2 hm hcell H0 Hc hle
      change Hid (∀ v W2 (hB : w.heap.size ≤ W2.heap.size) (ho : W2.ownsRow w.heap.size 5 1 v U.length (bc U).toList), Calls prog 55 #[v, .agg #[.int .i64 l[j].1, .int .i64 l[j].2.1, .string ⟨l[j].2.2.toArray⟩]] W2 fun e w' => ∃ v', e = .returned v' ∧ w'.ownsRow w.heap.size 5 1 v' (U ++ rB l[j]).length (bc (U ++ rB l[j])).toList ∧ Below w.heap.size W2 w') at hlay
      generalize l[j].1 = x at *
      generalize l[j].2.1 = y at *
      generalize l[j].2.2 = d at *
      generalize U ++ rB l[j] = V at *
      have HA := qaa (HW.out.alloc HW.out.size (.cells #[.int .i64 x, .int .i64 y, .string ⟨d.toArray⟩] 54))
      have HO3 := qaa (HO2.out.alloc (.cells #[.int .i64 x, .int .i64 y, .string ⟨d.toArray⟩] 54))
      go_wp2_with (go_at_call 55; (with_reducible refine (hlay.out _ _ HA.out.size HO3.out).mono ?_); rintro e w2 ⟨v2, rfl, ho2, hb2⟩; have HB2 := qaa (HA.out.trans hb2); have HO4 := qaa ho2; clear hb2 ho2 hlay)
      go_roundw
      case rel => exact ⟨j + 1, V, by omega, iv (by omega), Hnx, HO4, HB2⟩
      case measure => simp only [intOf]; omega
     ·obtain rfl : j = k := by omega
      have e : rjB l = U := by
       have h := HU2.out
       rwa [qa5 (by have := Hl.out; omega)] at h
      rw [e] at HF
      obtain ⟨A2, cc2, hv2, hc2, hr2⟩ := yag HO2.out
      have hst := ybO underlying36 underlying5 underlying9 _ A2 cc2 U hr2
      subst hv2
      clear hr2 hc2 e
      go_wp2
      go_ret2
      exact ⟨by rw [HF.out]; rfl, HW.out⟩
theorem rfresh (r : Rc) (w : World) : Reads (w.alloc (.cells #[.int .i64 r.1, .int .i64 r.2.1, .string ⟨r.2.2.toArray⟩] 54)) (w.alloc (.cells #[.int .i64 r.1, .int .i64 r.2.1, .string ⟨r.2.2.toArray⟩] 54)).heap.size 3 (some ⟨w.heap.size, 0, none⟩) 1 (rcs [r]) := by
 have := yaB w 54 #[.int .i64 r.1, .int .i64 r.2.1, .string ⟨r.2.2.toArray⟩] 3 1 rfl
 exact this.more (by simp)
theorem Reads.on15 {w w' : World} {size n : Nat} {A : Option Addr} {xs : List Value} (h : Reads w w.heap.size size A n xs) (hb : Below w.heap.size w w') : Reads w' w'.heap.size size A n xs := (h.below hb).more hb.size
end Go.Proofs.YtanjhbkbpalnaaaGreat
