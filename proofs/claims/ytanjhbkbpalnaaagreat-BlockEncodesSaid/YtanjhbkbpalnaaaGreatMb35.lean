/-
 What the law of the last of these texts stands on, part 35.
-/
import Derived.Test.YtanjhbkbpalnaaaGreatMb23
import Derived.Test.YtanjhbkbpalnaaaGreatMb29
import Derived.Deep.MidRow
set_option maxRecDepth 100000
set_option maxHeartbeats 8000000
open Go.Proofs.Tryz
namespace Go.Proofs.YtanjhbkbpalnaaaGreat
set_option linter.unusedSimpArgs false
set_option linter.unusedVariables false
open Go.ChangeShapes Go.WideShapes Go.ChangeAt Go.RowKit Go.Joins Go.Deep
theorem gmk_broom (z : Int) (N : Nat) (hN : (N : Int) = z) (h : N ≤ 17592186044416) (w : World) :
  (Instr.makeSlice 36 (.int .i64 0) (.int .i64 z)).run prog w = .ok (.slice (some ⟨w.heap.size, 0, none⟩) 0 N) (w.alloc (.cells (madeCells #[.int .u8 0] N) 5)) := by
 subst hN
 obtain ⟨i0, hi, hz0, hz1, hz9⟩ := qbn ybY
 have := run_make (P := prog) w 36 5 i0 (.int .u8 0) underlying36 hi hz0 .i64 .i64 0 (N : Int) (by omega) (by omega) (by rw [hz9]; omega) (by omega)
 rw [hz1, qc1, qap] at this
 exact this
theorem bc_snoc (L : List UInt8) (b : UInt8) : (bc (L ++ [b])).toList = (bc L).toList ++ [.int .u8 (b.toNat : Int)] := by simp [bc]
theorem p_bforward_any (s : List UInt8) (w : World) (hs : s.length ≤ 1000000) :
  Calls prog 39 #[.string ⟨s.toArray⟩] w fun e w' => BPost w w' e (btF s) := by
 obtain ⟨i0, hi, hz0, hz1, hz9⟩ := qbn ybY
 have hp := p_sarray_any s w (by omega)
 unfold LPost at hp
 by_cases hbig : 20000 < s.length
 ·rw [saF_no hbig] at hp
  rw [btF_big hbig]
  dsimp only at hp
  have Hp := qaa hp
  clear hp hbig
  go_enter func39, ntmps39
  go_wp2_with (go_at_call 68; refine Hp.out.mono ?_; rintro e w1 ⟨A1, c1, rfl, _, _, hb1⟩)
  go_ret3
  exact ⟨rfl, hb1⟩
 ·rw [saF_yes hbig] at hp
  rw [btF_yes hbig, ← (yfv s).1, ← (yfv s).2]
  dsimp only at hp
  have hn : (splc (sarr s)).length = s.length + 1 := by rw [yao, yb5]
  rw [hn] at hp
  have Hp := qaa hp
  have hn0 : 0 < s.length + 1 := by omega
  have Hat := qaa (bfw_at s)
  have Hlen := qaa (bpre_len s)
  have Hz : Hid (bpre s 0 = [] ∧ bprk s 0 = 0) := qaa ⟨rfl, qag (Nat.not_lt_zero _)⟩
  have hsi : (0 : Int) ≤ (s.length : Int) ∧ (s.length : Int) ≤ 20000 := by omega
  have hmk := fun w => gmk_broom (s.length : Int) s.length rfl (by omega) w
  clear hp hn hbig
  generalize splc (sarr s) = AL at *
  go_enter func39, ntmps39
  go_wp2_with (go_at_call 68; refine Hp.out.mono ?_; rintro e w1 ⟨A1, c1, rfl, _, hr1, hb1⟩; obtain ⟨bA, oA, rfl, hbA, hcA⟩ := gcells_at hr1 hn0; have HcA := qaa hcA; have Hb := qaa hb1; clear hb1 hr1 hbA hcA Hp)
  have HO0 : Hid ((w1.alloc (.cells (madeCells #[.int .u8 0] s.length) 5)).ownsRow w1.heap.size 5 1 (.slice (some ⟨w1.heap.size, 0, none⟩) 0 s.length) 0 (bc []).toList) := qaa (World.ownsRow_made (base := w1.heap.size) (e := 5) (size := 1) w1 (madeCells #[.int .u8 0] s.length) s.length (by omega) (by unfold maxLen; omega) (by rw [size_madeCells, qc1]))
  have HB0 := qaa ((qaj w1.heap.size w1).alloc (qaf _) (.cells (madeCells #[.int .u8 0] s.length) 5))
  clear hmk
  go_loopw [3, 6, 22] (fun pv v iv wr => ∃ (k P m : Nat) (Av : Option Addr) (cv : Nat) (U : List UInt8), k ≤ s.length + 1 ∧ v = .slice Av m cv ∧ pv = .int .i64 (P : Int) ∧ iv = .int .i64 (k : Int) ∧ Hid (bpre s k = U ∧ bprk s k = P ∧ U.length = m) ∧ Hid (wr.ownsRow w1.heap.size 5 1 (.slice Av m cv) m (bc U).toList) ∧ Hid (Below w1.heap.size w1 wr)) (fun _ _ iv _ => s.length + 1 - (intOf iv).toNat)
  case atStart => exact ⟨0, 0, 0, _, _, [], by omega, rfl, rfl, rfl, qaa ⟨Hz.out.1, Hz.out.2, rfl⟩, HO0, HB0⟩
  case round =>
   obtain ⟨k, P, m, Av, cv, U, hk, rfl, rfl, rfl, HU, HO, HB⟩ := hrel
   clear HO0 HB0
   have hki0 : (0 : Int) ≤ (k : Int) ∧ (k : Int) ≤ 20001 := by omega
   by_cases hlt : k < s.length + 1
   ·have hki : (k : Int) < (s.length : Int) + 1 := by omega
    obtain ⟨p, hkl, hp, hpl, h0, h1⟩ := Hat.out k hlt
    have x1 := HcA.out wr HB.out k hkl
    rw [hp] at x1
    by_cases hp0 : p = 0
    ·obtain ⟨e1, e2⟩ := h0 hp0
     have d1 : ((p : Int) == 0) = true := by rw [beq_iff_eq]; omega
     have HU2 : Hid (bpre s (k + 1) = U ∧ bprk s (k + 1) = k ∧ U.length = m) := qaa ⟨e1.trans HU.out.1, e2, HU.out.2.2⟩
     subst hp0
     clear h0 h1 hp hkl e1 e2
     go_wp2
     go_roundw
     case rel => exact ⟨k + 1, k, m, Av, cv, U, by omega, rfl, rfl, iv (by omega), HU2, HO, HB⟩
     case measure => simp only [intOf]; omega
    ·obtain ⟨q, hq⟩ : ∃ q, q + 1 = p := ⟨p - 1, by omega⟩
     obtain ⟨e1, e2⟩ := h1 q hq
     have hlen := Hlen.out k
     rw [HU.out.1, HU.out.2.2] at hlen
     have hql : q < s.length := by omega
     obtain ⟨b, hb⟩ : ∃ b, s[q] = b := ⟨_, rfl⟩
     have b1 : ∀ h, ((⟨s.toArray⟩ : ByteArray)[q]'h) = b := fun _ => hb
     have e3 : (s.drop q).take 1 = [b] := by
      rw [qa3 hql, hb]
      rfl
     rw [e3, HU.out.1] at e1
     have HU2 : Hid (bpre s (k + 1) = U ++ [b] ∧ bprk s (k + 1) = P ∧ (U ++ [b]).length = m + 1) := qaa ⟨e1, e2.trans HU.out.2.1, by rw [qae, HU.out.2.2]; rfl⟩
     have b2 := b.toNat_lt
     have Hbc := qaa (bc_snoc U b)
     obtain ⟨X, hX⟩ : ∃ X, (b.toNat : Int) = X := ⟨_, rfl⟩
     rw [hX] at Hbc
     have b3 : (0 : Int) ≤ X ∧ X < 256 := by omega
     have d1 : ((p : Int) == 0) = false := by rw [qbw]; omega
     have hsub : (p : Int) - 1 = (q : Int) := by omega
     have hw1 : IntKind.i64.wrap ((p : Int) - 1) = (q : Int) := by rw [qai]; omega
     have hw2 : IntKind.i64.wrap (q : Int) = (q : Int) := by rw [qai]; omega
     have hpi : (0 : Int) ≤ (q : Int) ∧ (q : Int) < (s.length : Int) := by omega
     have hm9 : m ≤ 20001 := by omega
     clear h0 h1 hp hkl e1 e2 hq hlen hb b2 hql e3
     go_wp2_with (at_builtin; refine yaf _ rfl _ _ 36 rfl w1.heap.size 5 i0 (.int .u8 0) 1 1 underlying36 hi hz0 hz1 hz9 rfl (by decide) _ _ _ rfl (HO.out.alloc _) _ 1 1 _ _ rfl (yar wr 5 #[.int .u8 X] 1 1 rfl) ?c1 ?c2 ?c3 ?c4 ?_)
     case c1 => exact rfl
     case c2 => unfold maxLen; omega
     case c3 => omega
     case c4 => first | omega | (have := HB.out.size; simp; omega)
     intro v2 w2 hown2 hgrow hsep
     have HB2 : Hid (Below w1.heap.size w1 w2) := qaa ((HB.out.trans ((qaj _ _).alloc HB.out.size _)).grown hgrow (by have := HB.out.size; simp; omega) (fun g hg => (HO.out.lt g hg).1))
     have HO2 : Hid (w2.ownsRow w1.heap.size 5 1 v2 (m + 1) (bc (U ++ [b])).toList) := qaa (by
      rw [Hbc.out]
      exact hown2)
     clear hown2 hgrow hsep
     obtain ⟨A2, c2, rfl, _, _⟩ := yad HO2.out
     go_wp2
     go_roundw
     case rel => exact ⟨k + 1, P, m + 1, A2, c2, U ++ [b], by omega, rfl, rfl, iv (by omega), HU2, HO2, HB2⟩
     case measure => simp only [intOf]; omega
   ·obtain rfl : k = s.length + 1 := by omega
    obtain ⟨rfl, rfl, rfl⟩ := HU.out
    have hki : ¬ (((s.length + 1 : Nat) : Int) < (s.length : Int) + 1) := by omega
    obtain ⟨A8, c8, e8, _, hrd⟩ := yad HO.out
    injection e8 with e3 _ e4
    subst e3 e4
    have hcv := ybd underlying36 underlying5 underlying9 wr _ cv _ hrd
    clear hrd
    go_wp2
    go_ret3
    exact ⟨rfl, Hb.out.trans (HB.out.mono Hb.out.size)⟩
end Go.Proofs.YtanjhbkbpalnaaaGreat
