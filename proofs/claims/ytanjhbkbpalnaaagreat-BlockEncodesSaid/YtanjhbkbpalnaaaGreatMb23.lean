/-
 What the law of the last of these texts stands on, part 23.
-/
import Derived.Test.YtanjhbkbpalnaaaGreatMb15
import Derived.RegionTactic
import Derived.ChangeAlike
import Derived.Lib.BufferWrite
import Derived.Laws.CopyOwn
import Derived.Deep.WholeRow
import Derived.Lib.BytesEntry
import Derived.Laws.Bits64b
set_option maxRecDepth 100000
set_option maxHeartbeats 8000000
open Go.Proofs.Tryz
namespace Go.Proofs.YtanjhbkbpalnaaaGreat
set_option linter.unusedSimpArgs false
set_option linter.unusedVariables false
open Go.ChangeShapes Go.WideShapes Go.ChangeAt Go.RowKit Go.Joins Go.Deep
abbrev omc (m : OM) : Array Value := #[.int .i64 0, .int .i64 0, .int .i64 m.1, .int .i64 m.2.1, .int .i64 m.2.2.1, .int .i64 m.2.2.2.1, .int .i64 m.2.2.2.2]
abbrev opc (m a b c d e : Int) (T : List UInt8) : Array Value := #[.int .i64 m, .int .i64 a, .int .i64 b, .int .i64 c, .int .i64 d, .int .i64 e, .string ⟨T.toArray⟩]
theorem oset7 {W X : World} {g : Nat} {t : TypeId} {x0 x1 x2 x3 x4 x5 x6 : Value} (h : Blk W g t #[x0, x1, x2, x3, x4, x5, x6]) {a0 a1 a2 a3 a4 a5 a6 : Value}
  (hX : ((((((W.setCell ⟨g, 0, none⟩ a0).setCell ⟨g, 1, none⟩ a1).setCell ⟨g, 2, none⟩ a2).setCell ⟨g, 3, none⟩ a3).setCell ⟨g, 4, none⟩ a4).setCell ⟨g, 5, none⟩ a5).setCell ⟨g, 6, none⟩ a6 = X) :
  Blk X g t #[a0, a1, a2, a3, a4, a5, a6] ∧ Touch W X (fun k => k = g) := by
 subst hX
 exact ⟨by simpa using ((((((h.set_ 0 a0).set_ 1 a1).set_ 2 a2).set_ 3 a3).set_ 4 a4).set_ 5 a5).set_ 6 a6,
  (((((((Touch.refl W (fun k => k = g)).set (p := ⟨g, 0, none⟩) (.inl rfl) _).set (p := ⟨g, 1, none⟩) (.inl rfl) _).set (p := ⟨g, 2, none⟩) (.inl rfl) _).set (p := ⟨g, 3, none⟩) (.inl rfl) _).set (p := ⟨g, 4, none⟩) (.inl rfl) _).set (p := ⟨g, 5, none⟩) (.inl rfl) _).set (p := ⟨g, 6, none⟩) (.inl rfl) _⟩
theorem p_bseqs_any (m : OM) (w : World) (h1 : 1 ≤ m.2.1) (h2 : m.2.1 ≤ 20000) (h3 : 1 ≤ m.2.2.1) (h4 : m.2.2.1 ≤ 1000000001) :
  Calls prog 29 #[.agg (omc m)] w fun e w' => e = .returned (.agg #[.int .i64 m.2.2.1, .int .i64 (m.2.2.1 + m.2.1 - 1)]) ∧ Below w.heap.size w w' := by
 obtain ⟨a, b, c, d, e⟩ := m
 dsimp only at *
 have hb : ¬ b < 1 := by omega
 have hw1 : IntKind.i64.wrap (b - 1) = b - 1 := by rw [qai]; omega
 have hw2 : IntKind.i64.wrap (9223372036854775807 - (b - 1)) = 9223372036854775807 - (b - 1) := by rw [qai]; omega
 have hmin : min c (9223372036854775807 - (b - 1)) = c := by omega
 have hw3 : IntKind.i64.wrap (c + (b - 1)) = c + b - 1 := by rw [qai]; omega
 clear h1 h2 h3 h4
 go_enter func29, ntmps29
 go_wp2
 refine qaQ (v := .agg #[.int .i64 c, .int .i64 (c + b - 1)]) (by simp [results, results29, go_sem]) rfl ⟨rfl, by go_grown⟩
theorem p_bticks_any (m : OM) (w : World) (h1 : 1 ≤ m.2.1) :
  Calls prog 30 #[.agg (omc m)] w fun e w' => e = .returned (.agg #[.int .i64 m.2.2.2.1, .int .i64 m.2.2.2.2]) ∧ Below w.heap.size w w' := by
 obtain ⟨a, b, c, d, e⟩ := m
 dsimp only at *
 have hb : ¬ b < 1 := by omega
 go_enter func30, ntmps30
 go_wp2
 refine qaQ (v := .agg #[.int .i64 d, .int .i64 e]) (by simp [results, results30, go_sem]) rfl ⟨rfl, by go_grown⟩
theorem yc3 (m a b c d e : Int) (T : List UInt8) (w : World) (hd : 0 ≤ d) (he : 0 ≤ e) (hde : d + e ≤ 1000000000) :
  Calls prog 54 #[.agg (opc m a b c d e T)] w fun r w' => r = .returned (.agg (omc (a, b, c, d, d + e))) ∧ Below w.heap.size w w' := by
 have hw : IntKind.i64.wrap (d + e) = d + e := by rw [qai]; omega
 clear hd he hde
 go_enter func54, ntmps54
 go_wp2
 refine qaQ (v := .agg (omc (a, b, c, d, d + e))) (by simp [results, results54, go_sem]) rfl ⟨rfl, by go_grown⟩
def BPost (w w' : World) (e : Ending) (F : List UInt8 × Int × Int) : Prop := e = .returned (.tuple #[.string ⟨F.1.toArray⟩, .int .i64 F.2.1, .int .i64 F.2.2]) ∧ Below w.heap.size w w'
theorem btF_big {s : List UInt8} (h : 20000 < s.length) : btF s = ([], 0, 3) := qah h
theorem btF_yes {s : List UInt8} (h : ¬ 20000 < s.length) : btF s = (yaW s, (bpr s : Int), 0) := qag h
def bpre (s : List UInt8) (k : Nat) : List UInt8 := ((sarr s).take k).filterMap (bahead s)
def bprk (s : List UInt8) (k : Nat) : Nat := if bpr s < k then bpr s else 0
theorem yfv (s : List UInt8) : bpre s (s.length + 1) = yaW s ∧ bprk s (s.length + 1) = bpr s := by
 constructor
 ·unfold bpre yaW
  rw [qax (by rw [yb5]; omega)]
 ·unfold bprk
  rw [qah (by have := bpr_le s; omega)]
theorem bpre_len (s : List UInt8) (k : Nat) : (bpre s k).length ≤ k := by
 unfold bpre
 have := List.length_filterMap_le (bahead s) ((sarr s).take k)
 rw [qar] at this
 omega
theorem bfw_at (s : List UInt8) (k : Nat) (h : k < s.length + 1) : ∃ (p : Nat) (hk : k < (splc (sarr s)).length), (splc (sarr s))[k] = (p : Int) ∧ p ≤ s.length ∧
  (p = 0 → bpre s (k + 1) = bpre s k ∧ bprk s (k + 1) = k) ∧ (∀ q, q + 1 = p → bpre s (k + 1) = bpre s k ++ (s.drop q).take 1 ∧ bprk s (k + 1) = bprk s k) := by
 have hl := yb5 s
 have hk : k < (sarr s).length := by omega
 have hle := sarr_le s k hk
 obtain ⟨h0, e0⟩ := bpr_get s
 have hn : bpre s (k + 1) = bpre s k ++ [(sarr s)[k]].filterMap (bahead s) := by
  unfold bpre
  rw [qao hk, List.filterMap_append]
 refine ⟨(sarr s)[k], by rw [yao]; exact hk, yfo _ _ _, hle, fun h => ?_, fun q hq => ?_⟩
 ·have e : bpr s = k := sarr_inj s _ _ h0 hk (by omega)
  rw [hn, h]
  refine ⟨qa6 _, ?_⟩
  unfold bprk
  rw [qah (by omega), e]
 ·have e : bpr s ≠ k := fun e => by
   simp only [e] at e0
   omega
  rw [hn, ← hq]
  refine ⟨?_, ?_⟩
  ·congr 1
   rw [qa3 (show q < s.length by omega)]
   show [s.getD (q + 1 - 1) 0] = _
   rw [qbH, qaw, qan (by omega)]
   rfl
  ·unfold bprk
   by_cases h1 : bpr s < k
   ·rw [qah h1, qah (by omega)]
   ·rw [qag h1, qag (by omega)]
theorem bw_part (l : List UInt8) (q p : Nat) (h : q + 1 = p) (hl : p ≤ l.length) (w : World) :
  (Instr.slice 9 (.string ⟨l.toArray⟩) (some (.int .i64 (q : Int))) (some (.int .i64 (p : Int))) none).run prog w = .ok (.string ⟨((l.drop q).take 1).toArray⟩) w := by
 rw [run_slice_string w 9 ⟨l.toArray⟩ .i64 .i64 (q : Int) (p : Int) underlying9 (by omega) (by omega) (by rw [qaA, qa0]; omega), qbQ, qap, qap, show p - q = 1 from by omega]
theorem bw_add (a b : List UInt8) (h : a.length + b.length ≤ 9223372036854775807) (w : World) : (Op.stringOp .add ⟨a.toArray⟩ ⟨b.toArray⟩).run prog w = .ok (.string ⟨(a ++ b).toArray⟩) w := by
 rw [run_string_add_sum w _ _ (by rw [qaA, qaA, qa0, qa0]; exact h), qcl]
theorem yfb (s : List UInt8) (w : World) (hs : s.length ≤ 1000000) :
  Calls prog 42 #[.string ⟨s.toArray⟩] w fun e w' => BPost w w' e (btF s) := by
 have hp := sref_array_any s w (by omega)
 unfold LPost at hp
 by_cases hbig : 20000 < s.length
 ·rw [saF_no hbig] at hp
  rw [btF_big hbig]
  dsimp only at hp
  have Hp := qaa hp
  clear hp hbig
  go_enter func42, ntmps42
  go_wp2_with (go_at_call 77; refine Hp.out.mono ?_; rintro e w1 ⟨A1, c1, rfl, _, _, hb1⟩)
  go_ret3
  exact ⟨rfl, hb1⟩
 ·rw [saF_yes hbig] at hp
  rw [btF_yes hbig, ← (yfv s).1, ← (yfv s).2]
  dsimp only at hp
  have hn : (splc (sarr s)).length = s.length + 1 := by rw [yao, yb5]
  rw [hn] at hp
  have Hp := qaa hp
  have hn0 : 0 < s.length + 1 := by omega
  have Hat := qaa (bfw_at s)
  have Hlen := qaa (bpre_len s)
  have Hz : Hid (bpre s 0 = [] ∧ bprk s 0 = 0) := qaa ⟨rfl, qag (Nat.not_lt_zero _)⟩
  have Hpart := qaa fun q p h hl => bw_part s q p h hl
  have hsi : (s.length : Int) ≤ 20000 := by omega
  clear hp hn hbig
  generalize splc (sarr s) = AL at *
  go_enter func42, ntmps42
  go_wp2_with (go_at_call 77; refine Hp.out.mono ?_; rintro e w1 ⟨A1, c1, rfl, _, hr1, hb1⟩; obtain ⟨bA, oA, rfl, hbA, hcA⟩ := gcells_at hr1 hn0; have HcA := qaa hcA; have Hb := qaa hb1; clear hb1 hr1 hbA hcA Hp)
  go_loopw [7, 8, 9, 10] (fun v pv iv _ wr => ∃ (k P : Nat) (U : List UInt8), k ≤ s.length + 1 ∧ v = .string ⟨U.toArray⟩ ∧ pv = .int .i64 (P : Int) ∧ iv = .int .i64 (k : Int) ∧ Hid (bpre s k = U ∧ bprk s k = P) ∧ Hid (Below w1.heap.size w1 wr)) (fun _ _ iv _ _ => s.length + 1 - (intOf iv).toNat)
  case atStart => exact ⟨0, 0, [], by omega, rfl, rfl, rfl, Hz, qaa (qaj _ _)⟩
  case round =>
   obtain ⟨k, P, U, hk, rfl, rfl, rfl, HU, HB⟩ := hrel
   have hki0 : (0 : Int) ≤ (k : Int) ∧ (k : Int) ≤ 20001 := by omega
   by_cases hlt : k < s.length + 1
   ·have hki : (k : Int) < (s.length : Int) + 1 := by omega
    obtain ⟨p, hkl, hp, hpl, h0, h1⟩ := Hat.out k hlt
    have x1 := HcA.out wr HB.out k hkl
    rw [hp] at x1
    by_cases hp0 : p = 0
    ·obtain ⟨e1, e2⟩ := h0 hp0
     have d1 : ((p : Int) == 0) = true := by rw [beq_iff_eq]; omega
     have HU2 : Hid (bpre s (k + 1) = U ∧ bprk s (k + 1) = k) := qaa ⟨e1.trans HU.out.1, e2⟩
     subst hp0
     clear h0 h1 hp hkl e1 e2
     go_wp2
     go_roundw
     case rel => exact ⟨k + 1, k, U, by omega, rfl, rfl, iv (by omega), HU2, HB⟩
     case measure => simp only [intOf]; omega
    ·obtain ⟨q, hq⟩ : ∃ q, q + 1 = p := ⟨p - 1, by omega⟩
     obtain ⟨e1, e2⟩ := h1 q hq
     have hlen := Hlen.out k
     have hpart := Hpart.out q p hq hpl
     have hadd := bw_add U ((s.drop q).take 1) (by rw [HU.out.1] at hlen; rw [qar]; omega)
     obtain ⟨T, hT⟩ : ∃ T, (s.drop q).take 1 = T := ⟨_, rfl⟩
     rw [hT] at hpart hadd e1
     rw [HU.out.1] at e1
     have HU2 : Hid (bpre s (k + 1) = U ++ T ∧ bprk s (k + 1) = P) := qaa ⟨e1, e2.trans HU.out.2⟩
     obtain ⟨V, hV⟩ : ∃ V, U ++ T = V := ⟨_, rfl⟩
     rw [hV] at hadd HU2
     have d1 : ((p : Int) == 0) = false := by rw [qbw]; omega
     have hsub : (p : Int) - 1 = (q : Int) := by omega
     have hw1 : IntKind.i64.wrap ((p : Int) - 1) = (q : Int) := by rw [qai]; omega
     have hw2 : IntKind.i64.wrap (q : Int) = (q : Int) := by rw [qai]; omega
     have hpi : (0 : Int) ≤ (q : Int) ∧ (p : Int) ≤ (s.length : Int) := by omega
     clear h0 h1 hp hkl e1 e2 hV hT hq hlen
     go_wp2
     go_roundw
     case rel => exact ⟨k + 1, P, V, by omega, rfl, rfl, iv (by omega), HU2, HB⟩
     case measure => simp only [intOf]; omega
   ·obtain rfl : k = s.length + 1 := by omega
    obtain ⟨rfl, rfl⟩ := HU.out
    have hki : ¬ (((s.length + 1 : Nat) : Int) < (s.length : Int) + 1) := by omega
    go_wp2
    go_ret3
    exact ⟨rfl, Hb.out.trans (HB.out.mono Hb.out.size)⟩
theorem ybY : (prog.info? 5).map (fun i => (i.zero, i.size, i.bytes)) = some (some (.int .u8 0), 1, 1) := by kernel_rfl
theorem mk_bytes (n : Int) (N : Nat) (hN : (N : Int) = n) (h : N ≤ 281474976710656) (w : World) :
  (Instr.makeSlice 36 (.int .i64 n) (.int .i64 n)).run prog w = .ok (.slice (some ⟨w.heap.size, 0, none⟩) N N) (w.alloc (.cells (bc (List.replicate N 0)) 5)) := by
 subst hN
 rw [← bc_zero]
 exact run_make_row' (P := prog) 36 5 (.int .u8 0) 1 underlying36 ybY rfl .i64 .i64 N (by omega) (by omega) w
def yb6 (w w' : World) (e : Ending) (F : List UInt8 × Int) : Prop := e = .returned (.tuple #[.string ⟨F.1.toArray⟩, .int .i64 F.2]) ∧ Below w.heap.size w w'
theorem ycj (l : List Rc) (A : Option Addr) (n c : Nat) (raw : Int) (w : World) (hl : l.length = n) (hn : n ≤ 1000000) (h0 : 0 < n) (hr : Reads w w.heap.size 3 A n (rcs l)) :
  Calls prog 48 #[.slice A n c, .int .i64 raw] w fun e w' => e = .returned (.agg (omc (raw, (n : Int), (yac l).1, (yac l).2.1, (ya8 l).2.1))) ∧ Below w.heap.size w w' := by
 obtain ⟨p, hp⟩ : ∃ p, p + 1 = n := ⟨n - 1, by omega⟩
 obtain ⟨b, off, rfl, hb, hcell⟩ := yaX hr hl 0 h0
 obtain ⟨d0, d1, d2⟩ := hcell 0 (by omega)
 obtain ⟨q0, q1, q2⟩ := hcell p (by omega)
 have e1 : yac l = l[0] := yfN (by omega)
 have e2 : ya8 l = l[p] := by rw [olast_at (by omega)]; congr 1; omega
 rw [e1, e2]
 have hsub : (n : Int) - 1 = (p : Int) := by omega
 have hsub1 : IntKind.i64.wrap ((n : Int) - 1) = (p : Int) := by rw [qai]; omega
 have hpi : (0 : Int) ≤ (p : Int) ∧ (p : Int) < (n : Int) := by omega
 have h0i : (0 : Int) < (n : Int) := by omega
 clear hr hcell e1 e2
 rw [qcy, qbr] at d0 d1 d2
 generalize l[0].1 = x at *
 generalize l[0].2.1 = y at *
 generalize l[0].2.2 = d at *
 generalize l[p].1 = x' at *
 generalize l[p].2.1 = y' at *
 generalize l[p].2.2 = d' at *
 have hpn : p < n := by omega
 have hpw : IntKind.i64.wrap (p : Int) = (p : Int) := by rw [qai]; omega
 clear hl hp
 have HB0 := qaa ((qaj w.heap.size w).alloc (qaf _) (.cells #[.int .i64 0, .int .i64 0, .int .i64 0, .int .i64 0, .int .i64 0, .int .i64 0, .int .i64 0] 45))
 go_enter func48, ntmps48
 go_wp2
 -- REG
 refine qb4 (S := (fun W => Below w.heap.size w W)) (by kernel_rfl) (HB0.out.drew) (fun hHeld => ?_)
 refine qal (i := 0) (oi := _) (v := ?_) rfl (by kernel_rfl) (by kernel_rfl) (by kernel_rfl) (fun _ _ _ h => h) (qat ⟨by rfl, ?_⟩) hHeld ?_
 rotate_left
 ·(intro wz hSw; go_simp; try (with_reducible rfl))
 (try dsimp only [List.getElem_toArray, List.getElem_cons_zero, List.getElem_cons_succ]); (try simp only [Act.put, qab, qad, qac])
 refine qal (i := 1) (oi := _) (v := ?_) rfl (by kernel_rfl) (by kernel_rfl) (by kernel_rfl) (fun _ _ _ h => h) (qat ⟨by rfl, ?_⟩) hHeld ?_
 rotate_left
 ·(intro wz hSw; go_simp; try (with_reducible rfl))
 (try dsimp only [List.getElem_toArray, List.getElem_cons_zero, List.getElem_cons_succ]); (try simp only [Act.put, qab, qad, qac])
 refine qal (i := 2) (oi := _) (v := ?_) rfl (by kernel_rfl) (by kernel_rfl) (by kernel_rfl) (fun _ _ _ h => h) (qat ⟨by rfl, ?_⟩) hHeld ?_
 rotate_left
 ·(intro wz hSw; have k0 := (hSw.cell (p := ⟨b, off, none⟩) hb).trans d0; have k1 := (hSw.cell (p := ⟨b, off + 1, none⟩) hb).trans d1; have k2 := (hSw.cell (p := ⟨b, off + 2, none⟩) hb).trans d2; go_simp; try (with_reducible rfl))
 (try dsimp only [List.getElem_toArray, List.getElem_cons_zero, List.getElem_cons_succ]); (try simp only [Act.put, qab, qad, qac])
 refine qal (i := 3) (oi := _) (v := ?_) rfl (by kernel_rfl) (by kernel_rfl) (by kernel_rfl) (fun _ _ _ h => h) (qat ⟨by rfl, ?_⟩) hHeld ?_
 rotate_left
 ·(intro wz hSw; go_simp; try (with_reducible rfl))
 (try dsimp only [List.getElem_toArray, List.getElem_cons_zero, List.getElem_cons_succ]); (try simp only [Act.put, qab, qad, qac])
 refine qal (i := 4) (oi := _) (v := ?_) rfl (by kernel_rfl) (by kernel_rfl) (by kernel_rfl) (fun _ _ _ h => h) (qat ⟨by rfl, ?_⟩) hHeld ?_
 rotate_left
 ·(intro wz hSw; go_simp; try (with_reducible rfl))
 (try dsimp only [List.getElem_toArray, List.getElem_cons_zero, List.getElem_cons_succ]); (try simp only [Act.put, qab, qad, qac])
 refine qal (i := 5) (oi := _) (v := ?_) rfl (by kernel_rfl) (by kernel_rfl) (by kernel_rfl) (fun _ _ _ h => h) (qat ⟨by rfl, ?_⟩) hHeld ?_
 rotate_left
 ·(intro wz hSw; go_simp; try (with_reducible rfl))
 (try dsimp only [List.getElem_toArray, List.getElem_cons_zero, List.getElem_cons_succ]); (try simp only [Act.put, qab, qad, qac])
 refine qal (i := 6) (oi := _) (v := ?_) rfl (by kernel_rfl) (by kernel_rfl) (by kernel_rfl) (fun _ _ _ h => h) (qat ⟨by rfl, ?_⟩) hHeld ?_
 rotate_left
 ·(intro wz hSw; go_simp; try (with_reducible rfl))
 (try dsimp only [List.getElem_toArray, List.getElem_cons_zero, List.getElem_cons_succ]); (try simp only [Act.put, qab, qad, qac])
 refine qal (i := 7) (oi := _) (v := ?_) rfl (by kernel_rfl) (by kernel_rfl) (by kernel_rfl) (fun _ _ _ h => h) (qat ⟨by rfl, ?_⟩) hHeld ?_
 rotate_left
 ·(intro wz hSw; go_simp; try (with_reducible rfl))
 (try dsimp only [List.getElem_toArray, List.getElem_cons_zero, List.getElem_cons_succ]); (try simp only [Act.put, qab, qad, qac])
 refine qal (i := 8) (oi := _) (v := ?_) rfl (by kernel_rfl) (by kernel_rfl) (by kernel_rfl) (fun _ _ _ h => h) (qat ⟨by rfl, ?_⟩) hHeld ?_
 rotate_left
 ·(intro wz hSw; have k0 := (hSw.cell (p := ⟨b, off + p * 3, none⟩) hb).trans q0; have k1 := (hSw.cell (p := ⟨b, off + p * 3 + 1, none⟩) hb).trans q1; have k2 := (hSw.cell (p := ⟨b, off + p * 3 + 2, none⟩) hb).trans q2; go_simp; try (with_reducible rfl))
 (try dsimp only [List.getElem_toArray, List.getElem_cons_zero, List.getElem_cons_succ]); (try simp only [Act.put, qab, qad, qac])
 refine qaB (rs := [9, 10]) (by kernel_rfl) (by simp) ?_
 refine qav (o := _) rfl (fun K hK => ?_) ?_
 ·skip
  go_simp
  refine hK.out _ _ (by first | exact (HB0.out.alloc HB0.out.size _).drew | exact ((HB0.out.alloc HB0.out.size _).alloc (HB0.out.alloc HB0.out.size _).size _).drew) (fun hH => ?_)
  clear hK K hHeld
  have hHeld := hH
  clear hH
  (try dsimp only [List.getElem_toArray, List.getElem_cons_zero, List.getElem_cons_succ]); (try simp only [Act.put, qab, qad, qac])
  refine qaB (rs := [10]) (by kernel_rfl) (by simp) ?_
  refine qav (o := _) rfl (fun K hK => ?_) qa4
  go_simp
  refine hK.out _ _ (by first | exact (HB0.out.alloc HB0.out.size _).drew | exact ((HB0.out.alloc HB0.out.size _).alloc (HB0.out.alloc HB0.out.size _).size _).drew) (fun hH => ?_)
  clear hK K hHeld
  have hHeld := hH
  clear hH
  (try dsimp only [List.getElem_toArray, List.getElem_cons_zero, List.getElem_cons_succ]); (try simp only [Act.put, qab, qad, qac])
  refine qaB (rs := [11]) (by kernel_rfl) (by simp) ?_
  refine qav (o := _) rfl (fun K hK => ?_) qa4
  go_simp
  refine hK.out _ _ (by first | exact (HB0.out.alloc HB0.out.size _).drew | exact ((HB0.out.alloc HB0.out.size _).alloc (HB0.out.alloc HB0.out.size _).size _).drew) (fun hH => ?_)
  clear hK K hHeld
  have hHeld := hH
  clear hH
  (try dsimp only [List.getElem_toArray, List.getElem_cons_zero, List.getElem_cons_succ]); (try simp only [Act.put, qab, qad, qac])
  refine qaB (rs := [12]) (by kernel_rfl) (by simp) ?_
  refine qav (o := _) rfl (fun K hK => ?_) qa4
  go_simp
  refine hK.out _ _ (by first | exact (HB0.out.alloc HB0.out.size _).drew | exact ((HB0.out.alloc HB0.out.size _).alloc (HB0.out.alloc HB0.out.size _).size _).drew) (fun hH => ?_)
  clear hK K hHeld
  have hHeld := hH
  clear hH
  (try dsimp only [List.getElem_toArray, List.getElem_cons_zero, List.getElem_cons_succ]); (try simp only [Act.put, qab, qad, qac])
  refine qb3 (by kernel_rfl) ?_ _
  clear hHeld
  go_wp2
  refine qaQ (v := .agg (omc (raw, (n : Int), x, y, y'))) (by simp [results, results48, go_sem]) rfl ⟨rfl, by go_grown⟩
 refine qav (o := _) rfl (fun K hK => ?_) qa4
 go_simp
 refine hK.out _ _ (by first | exact (HB0.out.alloc HB0.out.size _).drew | exact ((HB0.out.alloc HB0.out.size _).alloc (HB0.out.alloc HB0.out.size _).size _).drew) (fun hH => ?_)
 clear hK K hHeld
 have hHeld := hH
 clear hH
 (try dsimp only [List.getElem_toArray, List.getElem_cons_zero, List.getElem_cons_succ]); (try simp only [Act.put, qab, qad, qac])
 refine qaB (rs := [9]) (by kernel_rfl) (by simp) ?_
 refine qav (o := _) rfl (fun K hK => ?_) qa4
 go_simp
 refine hK.out _ _ (by first | exact (HB0.out.alloc HB0.out.size _).drew | exact ((HB0.out.alloc HB0.out.size _).alloc (HB0.out.alloc HB0.out.size _).size _).drew) (fun hH => ?_)
 clear hK K hHeld
 have hHeld := hH
 clear hH
 (try dsimp only [List.getElem_toArray, List.getElem_cons_zero, List.getElem_cons_succ]); (try simp only [Act.put, qab, qad, qac])
 refine qaB (rs := [11]) (by kernel_rfl) (by simp) ?_
 refine qav (o := _) rfl (fun K hK => ?_) qa4
 go_simp
 refine hK.out _ _ (by first | exact (HB0.out.alloc HB0.out.size _).drew | exact ((HB0.out.alloc HB0.out.size _).alloc (HB0.out.alloc HB0.out.size _).size _).drew) (fun hH => ?_)
 clear hK K hHeld
 have hHeld := hH
 clear hH
 (try dsimp only [List.getElem_toArray, List.getElem_cons_zero, List.getElem_cons_succ]); (try simp only [Act.put, qab, qad, qac])
 refine qaB (rs := [12]) (by kernel_rfl) (by simp) ?_
 refine qav (o := _) rfl (fun K hK => ?_) qa4
 go_simp
 refine hK.out _ _ (by first | exact (HB0.out.alloc HB0.out.size _).drew | exact ((HB0.out.alloc HB0.out.size _).alloc (HB0.out.alloc HB0.out.size _).size _).drew) (fun hH => ?_)
 clear hK K hHeld
 have hHeld := hH
 clear hH
 (try dsimp only [List.getElem_toArray, List.getElem_cons_zero, List.getElem_cons_succ]); (try simp only [Act.put, qab, qad, qac])
 refine qb3 (by kernel_rfl) ?_ _
 clear hHeld
 go_wp2
 refine qaQ (v := .agg (omc (raw, (n : Int), x, y, y'))) (by simp [results, results48, go_sem]) rfl ⟨rfl, by go_grown⟩
 -- END REG
def ochF (m a b c d e : Int) : Int := if m < 2 ∧ a ≤ 20000 ∧ 1 ≤ b ∧ b ≤ a ∧ 1 ≤ c ∧ b + c ≤ 1000000001 ∧ d + e ≤ 1000000000 then 0 else 170
theorem p_ocheck_any (m a b c d e : Int) (T : List UInt8) (w : World) (hm : 0 ≤ m) (hb : 0 ≤ b ∧ b < 9223372036854775808) (hd : 0 ≤ d ∧ d < 9223372036854775808) :
  Calls prog 99 #[.agg (opc m a b c d e T)] w fun r w' => r = .returned (.int .i64 (ochF m a b c d e)) ∧ Below w.heap.size w w' := by
 have HB : Hid (∀ o, Below w.heap.size w (w.alloc o)) := qaa fun o => (qaj w.heap.size w).alloc (qaf _) o
 have hw1 : IntKind.i64.wrap (1000000001 - b) = 1000000001 - b := by rw [qai]; omega
 have hw2 : IntKind.i64.wrap (1000000000 - d) = 1000000000 - d := by rw [qai]; omega
 clear hb hd
 go_enter func99, ntmps99
 go_wp2
 all_goals
  go_ret
  refine ⟨?_, HB.out _⟩
  unfold ochF
  simp only [bne_iff_ne, ne_eq, bne_eq_false_iff_eq] at *
  first
   | (rw [qah (by omega)]; rfl)
   | (rw [qag (by omega)]; rfl)
theorem clone_copy (l : List UInt8) (ty : TypeId) (w : World) :
  (Builtin.copy_ #[36, 9] ty #[.slice (some ⟨w.heap.size, 0, none⟩) l.length l.length, .string ⟨l.toArray⟩]).run prog (w.alloc (.cells (bc (List.replicate l.length 0)) 5)) = .ok (.int .i64 (l.length : Int)) ((w.alloc (.cells (bc (List.replicate l.length 0)) 5)).setRow w.heap.size (bc l)) := by
 obtain ⟨i0, hi, _, hz1, _⟩ := qbn ybY
 rw [Lib.run_copy_row_string (w.alloc (.cells (bc (List.replicate l.length 0)) 5)) 36 9 ty 5 w.heap.size 0 l.length l.length ⟨l.toArray⟩ (bc (List.replicate l.length 0)) 5 underlying36 (by rw [hi]; simp [hz1]) (Blk.new w 5 _) (by rw [qaA, qa0]; exact qaf _) (by rw [qaA, qa0, ycE, qaY]; omega)]
 have e : ((bc (List.replicate l.length 0)).toList.take 0 ++ Lib.byteCells l ++ (bc (List.replicate l.length 0)).toList.drop (0 + l.length)).toArray = bc l := by
  rw [qaX, qbc, qaJ (by rw [Array.length_toList, ycE, qaY]; omega), qa6]
  rfl
 rw [qaA, qa0]
 exact qbJ (fun c => Result.ok (Value.int .i64 (l.length : Int)) ((w.alloc (.cells (bc (List.replicate l.length 0)) 5)).setRow w.heap.size c)) e
theorem clone_lite_any (l : List UInt8) (w : World) (hl : l.length ≤ 281474976710656) : Calls prog 179 #[.string ⟨l.toArray⟩] w fun e w' => e = .returned (.string ⟨l.toArray⟩) ∧ Below w.heap.size w w' := by
 by_cases h0 : l.length = 0
 ·obtain rfl := qay.1 h0
  go_enter func179, ntmps179
  go_wp2
  go_ret
  exact ⟨rfl, by go_grown⟩
 have hmk := mk_bytes (l.length : Int) l.length rfl hl w
 have hcp := fun ty => clone_copy l ty w
 have hne : ((l.length : Int) == 0) = false := qbw.2 (by omega)
 have hpos : (0 : Int) < (l.length : Int) := by omega
 have hgot : Blk ((w.alloc (.cells (bc (List.replicate l.length 0)) 5)).setRow w.heap.size (bc l)) w.heap.size 5 (bc l) := setRow_heap _ _ _ _ _ _ (Blk.new w 5 (bc (List.replicate l.length 0)))
 have hus := fun ty => Lib.run_unsafeString_row (P := prog) ((w.alloc (.cells (bc (List.replicate l.length 0)) 5)).setRow w.heap.size (bc l)) 237 3 ty 5 underlying237 (by kernel_rfl) w.heap.size l.length (by unfold World.shape?; rw [show _ = _ from hgot]; simp [ycE]) l (fun h => h0 (by rw [h]; rfl)) (qaf _) (by omega) (fun j x hx => by
  rw [yc9, qaE]
  exact ydg hgot hx)
 have hb : Below w.heap.size w (((w.alloc (.cells (bc (List.replicate l.length 0)) 5)).setRow w.heap.size (bc l)).freeze ⟨w.heap.size, 0, none⟩ l.length) := Lib.below_freeze (below_setRow ((qaj _ _).alloc (qaf _) _) (qaf _) _) (qaf _) _
 have HB := qaa hb
 clear hgot hb h0
 generalize hW : ((w.alloc (.cells (bc (List.replicate l.length 0)) 5)).setRow w.heap.size (bc l)).freeze ⟨w.heap.size, 0, none⟩ l.length = W at *
 generalize hW2 : (w.alloc (.cells (bc (List.replicate l.length 0)) 5)).setRow w.heap.size (bc l) = W2 at *
 generalize hW3 : w.alloc (.cells (bc (List.replicate l.length 0)) 5) = W3 at *
 clear hW hW2 hW3
 go_enter func179, ntmps179
 go_wp2
 go_ret
 exact ⟨rfl, HB.out⟩
theorem clone_any (l : List UInt8) (w : World) (hl : l.length ≤ 281474976710656) : Calls prog 141 #[.string ⟨l.toArray⟩] w fun e w' => e = .returned (.string ⟨l.toArray⟩) ∧ Below w.heap.size w w' := by
 have hc := qaa fun W => clone_lite_any l W hl
 go_enter func141, ntmps141
 go_wp2_with (go_at_call 179; (with_reducible refine (hc.out _).mono ?_); rintro e w1 ⟨rfl, hb1⟩; have HB1 := qaa hb1; clear hb1 hc)
 go_ret
 exact ⟨rfl, HB1.out⟩
def rowC (k : Nat) : List UInt8 := (List.range 256).map fun i => if i < k then UInt8.ofNat i else 0
theorem yf3 (k : Nat) : (rowC k).length = 256 := by simp [rowC]
theorem rowC_get (k i : Nat) (h : i < 256) : (rowC k)[i]? = some (if i < k then UInt8.ofNat i else 0) := by simp [rowC, h]
theorem rowC_all : rowC 256 = row0 := by
 unfold rowC row0
 refine List.map_congr_left fun i hi => ?_
 rw [qah (qbk.1 hi)]
theorem rowC_set (k : Nat) : (rowC k).set k (UInt8.ofNat k) = rowC (k + 1) := by
 apply qcx
 intro i
 by_cases hi : i < 256
 ·rw [List.getElem?_set, rowC_get _ _ hi]
  by_cases e : k = i
  ·subst e
   rw [qah rfl, qah (by rw [yf3]; exact hi), rowC_get _ _ hi, qah (by omega)]
  ·rw [qag e, rowC_get _ _ hi]
   by_cases h1 : i < k
   ·rw [qah h1, qah (by omega)]
   ·rw [qag h1, qag (by omega)]
 ·rw [qbp (by rw [qbO, yf3]; omega), qbp (by rw [yf3]; omega)]
theorem bcl_set (l : List UInt8) (k : Nat) (b : UInt8) : (bc l).toList.set k (.int .u8 (b.toNat : Int)) = (bc (l.set k b)).toList := by simp [bc, List.map_set]
theorem cells_set (k : Nat) (h : k < 256) : (bc (rowC k)).toList.set k (.int .u8 (k : Int)) = (bc (rowC (k + 1))).toList := by
 have := bcl_set (rowC k) k (UInt8.ofNat k)
 rw [yaw _ h, rowC_set] at this
 exact this
theorem zero_row : (∀ w, (zeroValue 162).run prog w = .ok (.agg (bc (rowC 0)).toList.toArray) w) ∧ (prog.info? 162).map (·.size) = some 256 := zero_of_info (by kernel_rfl)
theorem alloc_congr {w : World} {a b : List Value} {t : TypeId} (h : a = b) : w.alloc (.cells a.toArray t) = w.alloc (.cells b.toArray t) := by rw [h]
theorem fr_fresh_any (w : World) : Calls prog 75 #[] w fun e w' => e = .returned (.pointer (some ⟨w.heap.size, 0, none⟩)) ∧ w' = w.alloc (.cells (bc row0) 162) := by
 have hz := zero_row.1
 have Hset : Hid (∀ k, k < 256 → (bc (rowC k)).toList.set k (.int .u8 (k : Int)) = (bc (rowC (k + 1))).toList) := qaa cells_set
 have Hget : Hid (∀ k, k < 256 → ∃ v, (bc (rowC k)).toList[k]? = some v) := qaa fun k hk => ⟨_, qan (by rw [Array.length_toList, ycE, yf3]; exact hk)⟩
 have he : bc row0 = (bc (rowC 256)).toList.toArray := by rw [rowC_all]
 rw [he]
 clear he
 generalize hf : (fun k => (bc (rowC k)).toList) = f at *
 have hf' : ∀ k, (bc (rowC k)).toList = f k := fun k => by rw [← hf]
 simp only [hf'] at *
 clear hf' hf
 generalize hZ : f 0 = Z at *
 have HZ := qaa hZ
 clear hZ
 generalize hD : f 256 = D at *
 have HD := qaa hD
 clear hD
 go_enter func75, ntmps75
 go_wp2
 go_loopw [3] (fun i wr => ∃ k : Nat, k ≤ 256 ∧ i = .int .i64 k ∧ Hid (wr = w.alloc (.cells (f k).toArray 162))) (fun i _ => 256 - (intOf i).toNat)
 case atStart => exact ⟨0, by omega, rfl, qaa (by rw [HZ.out])⟩
 case round =>
  obtain ⟨k, hk, rfl, Hw⟩ := hrel
  obtain rfl := Hw.out
  by_cases hlt : k < 256
  ·have hki : (0 : Int) ≤ (k : Int) ∧ (k : Int) < 256 := by omega
   have hm : (k : Int) % 256 = k := by omega
   obtain ⟨v, hv⟩ := Hget.out k hlt
   have Hs := qaa (Hset.out k hlt)
   clear hlt Hw
   go_wp2
   go_roundw
   case rel => exact ⟨k + 1, by omega, iv (by omega), qaa (alloc_congr Hs.out)⟩
   case measure => simp only [intOf]; omega
  ·obtain rfl : k = 256 := by omega
   rw [HD.out]
   go_wp2
   go_ret
   exact ⟨rfl, rfl⟩
theorem ycI (l : List UInt8) : (bc l).toList = l.map fun b => Value.int .u8 (b.toNat : Int) := by simp [bc]
theorem mv_row (R : List UInt8) (k : Nat) (hk : k < R.length) : ((bc R).toList.take 1 ++ ((bc R).toList.take k ++ (bc R).toList.drop (1 + k))).set 0 (.int .u8 ((R.getD k 0).toNat : Int)) = (bc (mv R k)).toList := by
 rw [ycI, ycI]
 unfold mv
 cases R with
 | nil => simp at hk
 | cons b t => simp [qcz 1 k]
theorem yfT {P : Program} {w : World} {ops : Array Oper} {rest : List Oper} {o : Oper} {a : Act} {Q : Exit → Act → World → Prop} (hgd : o.guard = none) (d s : Operand) (dT sT : TypeId)
  (ho : o.op = .call { callee := .builtin .copy, args := #[d, s], argTypes := #[dT, sT] }) (elem : TypeId) (hu : P.underlying dT = some (.slice elem)) (hsz : (P.info? elem).map (·.size) = some 1)
  (g off dLen dCap : Nat) (ad : Addr) (sLen sCap : Nat) (hd : a.eval d = .slice (some ⟨g, off, none⟩) dLen dCap) (hs : a.eval s = .slice (some ad) sLen sCap)
  (cur : Array Value) (t : TypeId) (hg : Blk w g t cur) (cs : List Value) (hn : cs.length = Nat.min sLen dLen)
  (hsrc : ∀ j v, cs[j]? = some v → w.cell? (ad.add j) = some v) (hfit : off + cs.length ≤ cur.size) (h1 : ∀ v ∈ cs, v.oneCell' = true)
  (N : List Value) (hN : cur.toList.take off ++ (cs ++ cur.toList.drop (off + cs.length)) = N)
  (h : ∀ w', w.grownBy w' (some g) → Blk w' g t N.toArray → wpList P ops Q rest (a.put o.dst (goInt cs.length)) w') : wpList P ops Q (o :: rest) a w := by
 refine wpList_copy_own hgd d s dT sT ho elem hu hsz g off dLen dCap ad sLen sCap hd hs cur t hg cs hn hsrc hfit h1 (h _ (grow_row _ _ _) ?_)
 rw [hN]
 exact hg.row _
theorem fr_raise_any (R : List UInt8) (h : Whole R) (k : Nat) (hk : k < 256) (g : Nat) (w : World) (hB : Blk w g 162 (bc R)) :
  Calls prog 122 #[.pointer (some ⟨g, 0, none⟩), .int .i64 (k : Int)] w fun e w' => e = .returned (.int .u8 ((R.getD k 0).toNat : Int)) ∧ w.grownBy w' (some g) ∧ Blk w' g 162 (bc (mv R k)) := by
 have hlen := h.len
 have hc : w.cell? ⟨g, k, none⟩ = some (.int .u8 ((R.getD k 0).toNat : Int)) := ydg hB (by rw [qaw, qan (by omega)]; rfl)
 have hki : (0 : Int) ≤ (k : Int) ∧ (k : Int) < 256 := by omega
 have hsz : ((bc R).toList.take k).length = k := by simp [ycE, hlen]; omega
 have hcopy : ∀ (a : Act) (ops : Array Oper) (Q : Exit → Act → World → Prop) (o : Oper) (d s : Operand), o.guard = none → o.op = .call { callee := .builtin .copy, args := #[d, s], argTypes := #[36, 36] } →
   a.eval d = .slice (some ⟨g, 1, none⟩) k 255 → a.eval s = .slice (some ⟨g, 0, none⟩) k 256 →
   (∀ w' N v, w.grownBy w' (some g) → Blk w' g 162 N → w'.cell? ⟨g, 0, none⟩ = some v → N.setIfInBounds 0 (.int .u8 ((R.getD k 0).toNat : Int)) = bc (mv R k) → wpList prog ops Q [] (a.put o.dst (goInt k)) w') → wpList prog ops Q [o] a w.drew := by
  intro a ops Q o d s hgd ho hd hs hh
  refine yfT hgd d s _ _ ho 5 underlying36 (by kernel_rfl) g 1 k 255 ⟨g, 0, none⟩ k 256 hd hs (bc R) 162 hB.drew ((bc R).toList.take k) (by rw [hsz]; exact (Nat.min_self k).symm)
   (fun j v hj => by
    rw [yc9, List.getElem?_take] at *
    split at hj
    ·rw [qaE, hB.drew.cell]; simpa using hj
    ·cases hj)
   (by rw [hsz, ycE, hlen]; omega)
   (fun v hv => by
    have := qaV hv
    rw [ycI] at this
    obtain ⟨b, _, rfl⟩ := qbM.1 this
    rfl) _ rfl ?_
  intro w' hg hb
  rw [hsz] at hb ⊢
  have hm := mv_row R k (by omega)
  have hl : 0 < (List.take 1 (bc R).toList ++ (List.take k (bc R).toList ++ List.drop (1 + k) (bc R).toList)).length := by
   rw [qae, qar, Array.length_toList, ycE, hlen]
   omega
  generalize List.take 1 (bc R).toList ++ (List.take k (bc R).toList ++ List.drop (1 + k) (bc R).toList) = N at *
  refine hh w' N.toArray N[0] ⟨hg.os, hg.tape, hg.output, hg.size, hg.block⟩ hb ?_ ?_
  ·rw [hb.cell]; simp [hl]
  ·rw [qab, hm]
 have Hcopy := qaa hcopy
 clear hcopy hsz hB h hlen
 generalize ((R.getD k 0).toNat : Int) = bv at *
 generalize bc (mv R k) = M at *
 go_enter func122, ntmps122
 go_wp2
 have hw1 : IntKind.i64.wrap ((k : Int) + 1) = (k : Int) + 1 := by rw [qai]; omega
 have hk2 : (k : Int) + 1 ≤ 256 ∧ (k : Int) ≤ 256 ∧ 1 ≤ (k : Int) + 1 := by omega
 refine qbs 9 (by kernel_rfl) (by kernel_rfl) ?_
 simp only [qaR, qaX, qbl, qbt]
 change wpStill _ _ (World.drew _) (fun a' => wpList _ _ _ _ a' (World.drew _)) _ _
 repeat still_step
 refine qcp ?_
 refine Hcopy.out _ _ _ _ _ _ rfl rfl rfl rfl ?_
 intro w1 N v hg hb hv hN
 have hf := hb.frozen 0
 have Hg := qaa hg
 have Hb := qaa hb
 have HN := qaa hN
 clear hg hb hN Hcopy
 go_wp2
 go_ret
 refine ⟨rfl, ybc Hg.out (qat rfl) _, ?_⟩
 rw [← HN.out]
 exact Hb.out.set_ 0 _
theorem index_pl (R : List UInt8) (b : UInt8) (h : b ∈ R) : Lib.indexByte R b = (pl R b : Int) := by
 unfold pl
 induction R with
 | nil => cases h
 | cons c t ih =>
  unfold Lib.indexByte
  rw [List.idxOf_cons]
  by_cases e : c = b
  ·simp [e]
  ·have ht : b ∈ t := by
    rcases qa9.1 h with h | h
    ·exact absurd h.symm e
    ·exact h
   have e2 : (c == b) = false := by simpa using e
   have h3 : ((List.idxOf b t : Int) == -1) = false := by rw [qbw]; omega
   rw [e2, ih ht, h3]
   simp
theorem bytesOf_map (R : List UInt8) : Lib.bytesOf (R.map fun b => (b.toNat : Int)) = R := by
 simp [Lib.bytesOf, Function.comp_def]
theorem fr_index_any (R : List UInt8) (h : Whole R) (b : UInt8) (g : Nat) (w : World) (hB : Blk w g 162 (bc R)) :
  Calls prog 121 #[.slice (some ⟨g, 0, none⟩) 256 256, .int .u8 (b.toNat : Int)] w fun e w' => e = .returned (.int .i64 (pl R b : Int)) ∧ w' = w := by
 have hrun := Lib.run_indexByteSlice (P := prog) w g 0 256 256 (R.map fun b => (b.toNat : Int)) (by rw [qaN, h.len]) (fun i hi => by
  have hi' : i < R.length := by rw [h.len]; exact hi
  rw [qaE, ydg hB (qan hi')]
  simp [qaw, hi']) (b.toNat : Int)
 rw [bytesOf_map, qap, show b.toNat.toUInt8 = b from UInt8.ofNat_toNat, index_pl R b (h.mem b)] at hrun
 have hlt := pl_lt h b
 generalize (b.toNat : Int) = bv at *
 generalize pl R b = j at *
 go_enter func121, ntmps121
 go_wp2
 rw [run_callFunc_extern func165 (by kernel_rfl) (by kernel_rfl) (by kernel_rfl) (e := Extern.BytealgIndexByte.indexByte) (by kernel_rfl), hrun]
 simp only [Result.andThen]
 rw [Oper.upon_value]
 go_wp2
 go_ret
 exact ⟨rfl, rfl⟩
theorem fr_step_any (R : List UInt8) (h : Whole R) (b : UInt8) (g : Nat) (w : World) (hB : Blk w g 162 (bc R)) :
  Calls prog 76 #[.pointer (some ⟨g, 0, none⟩), .int .u8 (b.toNat : Int)] w fun e w' => e = .returned (.int .i64 (pl R b : Int)) ∧ w.grownBy w' (some g) ∧ Blk w' g 162 (bc (mv R (pl R b))) := by
 have Hi := qaa (fr_index_any R h b g w hB)
 have Hr := qaa (fr_raise_any R h (pl R b) (pl_lt h b) g w hB)
 clear hB h
 generalize (b.toNat : Int) = bv at *
 generalize bc (mv R (pl R b)) = M at *
 generalize ((R.getD (pl R b) 0).toNat : Int) = v at *
 generalize (pl R b : Int) = j at *
 go_enter func76, ntmps76
 go_wp2_with (first
  | (go_at_call 121; refine Hi.out.mono ?_; rintro e w1 ⟨rfl, rfl⟩)
  | (go_at_call 122; refine Hr.out.mono ?_; rintro e w1 ⟨rfl, hg1, hb1⟩))
 go_ret
 exact ⟨rfl, hg1, hb1⟩
theorem mkfunc (fn : Fn) (first cap : Array Value) (w : World) : (Instr.makeFunc fn first cap).run prog w = .ok (.func fn first cap) w := rfl
theorem mint_info : (prog.info? 3).map (fun i => (i.zero, i.size, i.bytes)) = some (some (.int .i64 0), 1, 8) := by kernel_rfl
theorem ints_zero (n : Nat) : madeCells #[.int .i64 0] n = (ints (List.replicate n 0)).toArray := by
 unfold ints
 apply Array.ext'
 simp [madeCells, Nat.mod_one]
 rw [qcu, qaL]
theorem mk_ints (n : Int) (N : Nat) (hN : (N : Int) = n) (h : N ≤ 17592186044416) (w : World) :
  (Instr.makeSlice 28 (.int .i64 n) (.int .i64 n)).run prog w = .ok (.slice (some ⟨w.heap.size, 0, none⟩) N N) (w.alloc (.cells (ints (List.replicate N 0)).toArray 3)) := by
 subst hN
 rw [← ints_zero]
 exact run_make_row' (P := prog) 28 3 (.int .i64 0) 8 underlying28 mint_info rfl .i64 .i64 N (by omega) (by omega) w
def rk (l : List UInt8) (k : Nat) : List Int := rks row0 (l.take k) ++ List.replicate (l.length - k) 0
theorem rk_zero (l : List UInt8) : rk l 0 = List.replicate l.length 0 := by simp [rk, rks]
theorem rk_all (l : List UInt8) : rk l l.length = rks row0 l := by simp [rk]
theorem rk_len (l : List UInt8) (k : Nat) (h : k ≤ l.length) : (rk l k).length = l.length := by
 unfold rk
 rw [qae, yg6, qaY, qar]
 omega
theorem set_mid {α : Type} (A C : List α) (x y : α) (k : Nat) (h : A.length = k) : (A ++ x :: C).set k y = A ++ y :: C := by
 subst h
 simp
theorem rk_set (l : List UInt8) (k : Nat) (h : k < l.length) : (rk l k).set k (pl (rowS row0 (l.take k)) l[k] : Int) = rk l (k + 1) := by
 unfold rk
 rw [show l.length - k = (l.length - (k + 1)) + 1 from by omega, qb9, set_mid _ _ _ _ _ (by rw [yg6, qar]; omega), rks_take _ _ _ h]
 simp
theorem ints_set (l : List Int) (k : Nat) (v : Int) : (ints l).toArray.setIfInBounds k (.int .i64 v) = (ints (l.set k v)).toArray := by
 rw [qab]
 simp [ints, List.map_set]
structure RHold6 (w wr : World) (R : List UInt8) (t : TypeId) (cs : Array Value) : Prop where
 row : Blk wr w.heap.size 162 (bc R)
 out : Blk wr (w.heap.size + 1) t cs
 below : Below w.heap.size w wr
section
variable {w wr w1 : World} {R R' : List UInt8} {t : TypeId} {cs : Array Value}
theorem RHold6.start (w : World) (t : TypeId) (cs : Array Value) : RHold6 w ((w.alloc (.cells (bc row0) 162)).alloc (.cells cs t)) row0 t cs := by
 refine ⟨(Blk.new w _ _).alloc _, ?_, ((qaj _ _).alloc (qaf _) _).alloc (by simp) _⟩
 have := Blk.new (w.alloc (.cells (bc row0) 162)) t cs
 rwa [show (w.alloc (.cells (bc row0) 162)).heap.size = w.heap.size + 1 from by simp] at this
theorem RHold6.next (h : RHold6 w wr R t cs) (hg : wr.grownBy w1 (some w.heap.size)) (hb : Blk w1 w.heap.size 162 (bc R')) (i : Nat) (v : Value) : RHold6 w (w1.setCell ⟨w.heap.size + 1, i, none⟩ v) R' t (cs.setIfInBounds i v) :=
 ⟨hb.far (by simp) v, (h.out.grow hg (by omega)).set_ i v, (h.below.trans (ycR hg (qaf _) h.below.size)).setCell (by simp) v⟩
end
theorem fr_ranks_any (l : List UInt8) (hl : l.length ≤ 1000000) (w : World) :
  Calls prog 41 #[.string ⟨l.toArray⟩] w fun e w' => ∃ A c, e = .returned (.slice A l.length c) ∧ l.length ≤ c ∧ Reads w' w'.heap.size 1 A l.length (ints (rks row0 l)) ∧ Below w.heap.size w w' := by
 have hmf := mkfunc
 have hmk := fun W => mk_ints (l.length : Int) l.length rfl (by omega) W
 have Hset : Hid (∀ k (h : k < l.length), (ints (rk l k)).toArray.setIfInBounds k (.int .i64 (pl (rowS row0 (l.take k)) l[k] : Int)) = (ints (rk l (k + 1))).toArray) := qaa fun k h => by rw [ints_set, rk_set l k h]
 have Hget : Hid (∀ k, k < l.length → ∃ v, (ints (rk l k)).toArray[k]? = some v) := qaa fun k hk => ⟨_, qco (by simp [ints, rk_len l k (by omega)]; exact hk)⟩
 have Hstart : Hid (RHold6 w ((w.alloc (.cells (bc row0) 162)).alloc (.cells (ints (List.replicate l.length 0)).toArray 3)) (rowS row0 (l.take 0)) 3 (ints (rk l 0)).toArray) := qaa (by
  rw [rk_zero]
  exact RHold6.start w 3 _)
 have Hend : Hid (∀ wr, RHold6 w wr (rowS row0 (l.take l.length)) 3 (ints (rk l l.length)).toArray → Reads wr wr.heap.size 1 (some ⟨w.heap.size + 1, 0, none⟩) l.length (ints (rks row0 l))) := qaa fun wr h => by
  rw [rk_all] at h
  refine ⟨by rw [yae, yg6]; omega, fun _ => ⟨_, _, rfl, h.out.lt, fun j u hj => ?_⟩⟩
  rw [qaE, h.out.cell]
  simpa using hj
 have hll : (l.length : Int) ≤ 1000000 := by omega
 clear hl
 generalize (ints (List.replicate l.length 0)).toArray = Z0 at *
 go_enter func41, ntmps41
 go_wp2_with (go_at_call 75; refine (fr_fresh_any _).mono ?_; rintro e w1 ⟨rfl, rfl⟩)
 go_loopw [13] (fun i wr => ∃ k : Nat, k ≤ l.length ∧ i = .int .i64 k ∧ Hid (RHold6 w wr (rowS row0 (l.take k)) 3 (ints (rk l k)).toArray)) (fun i _ => l.length - (intOf i).toNat)
 case atStart => exact ⟨0, by omega, rfl, Hstart.out⟩
 case round =>
  obtain ⟨k, hk, rfl, Hh⟩ := hrel
  by_cases hlt : k < l.length
  ·have hki : (0 : Int) ≤ (k : Int) ∧ (k : Int) < l.length := by omega
   have hks : k < (ByteArray.mk l.toArray).size := by rw [qaA]; simpa using hlt
   have Hs := qaa (Hset.out k hlt)
   obtain ⟨v, hv⟩ := Hget.out k hlt
   have hst : ∀ (wr : World) (hB : Blk wr w.heap.size 162 (bc (rowS row0 (l.take k)))), Calls prog 76 #[.pointer (some ⟨w.heap.size, 0, none⟩), .int .u8 ((((ByteArray.mk l.toArray)[k]'hks).toNat : Nat) : Int)] wr fun e w' => e = .returned (.int .i64 (pl (rowS row0 (l.take k)) l[k] : Int)) ∧ wr.grownBy w' (some w.heap.size) ∧ Blk w' w.heap.size 162 (bc (rowS row0 (l.take (k + 1)))) := fun wr hB => by
    rw [rowS_take _ _ _ hlt]
    exact fr_step_any _ (row0_whole.rowS _) l[k] w.heap.size wr hB
   have Hst := qaa (hst wr Hh.out.row)
   have hcell : ∀ w1, wr.grownBy w1 (some w.heap.size) → w1.cell? ⟨w.heap.size + 1, k, none⟩ = some v ∧ w1.frozen? ⟨w.heap.size + 1, k, none⟩ = false := fun w1 hg => ⟨by rw [(Hh.out.out.grow hg (by omega)).cell]; exact hv, (Hh.out.out.grow hg (by omega)).frozen k⟩
   have Hcell := qaa hcell
   clear hst hcell hv
   generalize (pl (rowS row0 (l.take k)) l[k] : Int) = j at *
   go_wp2_with (go_at_call 76; refine Hst.out.mono ?_; rintro e w1 ⟨rfl, hg1, hb1⟩; obtain ⟨x1, x2⟩ := Hcell.out w1 hg1; have Hn := qaa (Hh.out.next hg1 hb1 k (.int .i64 j)); clear hg1 hb1)
   go_roundw
   case rel => exact ⟨k + 1, by omega, iv (by omega), qaa (by rw [← Hs.out]; exact Hn.out)⟩
   case measure => simp only [intOf]; omega
  ·obtain rfl : k = l.length := by omega
   go_wp2
   go_ret
   exact ⟨_, _, rfl, qaf _, Hend.out _ Hh.out, Hh.out.below⟩
theorem tint_info : (prog.info? 3).map (fun i => (i.zero, i.size, i.bytes)) = some (some (.int .i64 0), 1, 8) := by kernel_rfl
theorem tints_zero (n : Nat) : madeCells #[.int .i64 0] n = (ints (List.replicate n 0)).toArray := by
 unfold ints
 apply Array.ext'
 simp [madeCells, Nat.mod_one]
 rw [qcu, qaL]
theorem tmk_ints (n : Int) (N : Nat) (hN : (N : Int) = n) (h : N ≤ 17592186044416) (w : World) :
  (Instr.makeSlice 28 (.int .i64 n) (.int .i64 n)).run prog w = .ok (.slice (some ⟨w.heap.size, 0, none⟩) N N) (w.alloc (.cells (ints (List.replicate N 0)).toArray 3)) := by
 subst hN
 rw [← tints_zero]
 exact run_make_row' (P := prog) 28 3 (.int .i64 0) 8 underlying28 tint_info rfl .i64 .i64 N (by omega) (by omega) w
def HCPost (w w' : World) (e : Ending) (F : List Int × Int) : Prop := ∃ A' c', e = .returned (.tuple #[.slice A' F.1.length c', .int .i64 F.2]) ∧ F.1.length ≤ c' ∧ Reads w' w'.heap.size 1 A' F.1.length (ints F.1) ∧ Below w.heap.size w w'
theorem ybr {w w' : World} {E : Int} (hb : Below w.heap.size w w') : HCPost w w' (.returned (.tuple #[.slice none 0 0, .int .i64 E])) ([], E) := ⟨none, 0, rfl, qaf _, Reads.none_, hb⟩
theorem hcpost_row {w w' : World} {L : List Int} {g : Nat} (hl : L.length = 257) (hB : Blk w' g 3 (ints L).toArray) (hb : Below w.heap.size w w') : HCPost w w' (.returned (.tuple #[.slice (some ⟨g, 0, none⟩) 257 257, .int .i64 0])) (L, 0) := by
 refine ⟨some ⟨g, 0, none⟩, 257, by rw [hl], by rw [hl]; exact qaf _, ?_, hb⟩
 refine ⟨by rw [yae]; show L.length = L.length * 1; omega, fun _ => ⟨g, 0, rfl, hB.lt, fun j u hu => ?_⟩⟩
 rw [qaE, hB.cell]
 simpa using hu
theorem hints_set (l : List Int) (k : Nat) (v : Int) : (ints l).toArray.setIfInBounds k (.int .i64 v) = (ints (l.set k v)).toArray := by
 rw [qab]
 simp [ints, List.map_set]
structure HCells (l : List Int) (C : Nat → List Value) : Prop where
 zero : C 0 = ints (List.replicate 257 0)
 get : ∀ k (s : Nat), s < 257 → ∃ v : Nat, v ≤ k ∧ (C k).toArray[s]? = some (.int .i64 (v : Int)) ∧ ∀ hk : k < l.length, l[k] = (s : Int) → (C k).toArray.setIfInBounds s (.int .i64 ((v : Int) + 1)) = (C (k + 1)).toArray
 last : C l.length = ints (ya4 l)
theorem hcells (l : List Int) : HCells l (fun k => ints (ya4 (l.take k))) := by
 refine ⟨by rw [qaX, hcount_nil], fun k s hs => ?_, by rw [qbK]⟩
 have hsl : s < (ya4 (l.take k)).length := by rw [yat]; exact hs
 refine ⟨(l.take k).count (s : Int), ?_, ?_, fun hk hx => ?_⟩
 ·have := List.count_le_length (a := (s : Int)) (l := l.take k)
  rw [qar] at this
  omega
 ·rw [qaq, yak _ s hsl, ybh]
 ·rw [hints_set, qao hk, hx, hcount_snoc (l.take k) (s : Int) (by omega) (by omega)]
  simp only [qap]
  rw [ybh]
theorem hc_big {l : List Int} (h : 100000 < l.length) : hcF l = ([], 3) := qah h
theorem hc_all {l : List Int} (h : ¬ 100000 < l.length) (hi : hin l = true) : hcF l = (ya4 l, 0) := by unfold hcF; rw [qag h, qah hi]
theorem hc_none {l : List Int} (h : ¬ 100000 < l.length) (k : Nat) (hk : k < l.length) (hx : ¬ (0 ≤ l[k] ∧ l[k] ≤ 256)) : hcF l = ([], 70) := by
 unfold hcF
 rw [qag h, qag fun hi => hx (hin_get hi _ (qam hk))]
theorem hin_take {l : List Int} (k : Nat) (hk : k < l.length) (h : hin (l.take k) = true) (hx : 0 ≤ l[k] ∧ l[k] ≤ 256) : hin (l.take (k + 1)) = true := by
 refine hin_of fun x hm => ?_
 rw [qao hk] at hm
 rcases qbf.1 hm with h2 | h2
 ·exact hin_get h x h2
 ·rw [qcb.1 h2]; exact hx
theorem ygp (l : List Int) (A : Option Addr) (n c : Nat) (w : World) (hm : n ≤ 1000000) (hr : Reads w w.heap.size 1 A n (ints l)) :
  Calls prog 110 #[.slice A n c] w fun e w' => HCPost w w' e (hcF l) := by
 have en : l.length = n := by have := hr.1; rw [yae] at this; omega
 have hni : (n : Int) ≤ 1000000 := by omega
 by_cases hbig : 100000 < n
 ·rw [hc_big (by omega)]
  have hb1 : (100000 : Int) < (n : Int) := by omega
  clear hr
  go_enter func110, ntmps110
  go_wp2
  go_ret2
  exact ybr (qaj _ _)
 have hb1 : ¬ (100000 : Int) < (n : Int) := by omega
 have hbl : ¬ 100000 < l.length := by omega
 obtain ⟨C, hC⟩ : ∃ C : Nat → List Value, HCells l C := ⟨_, hcells l⟩
 have hmk := fun w => tmk_ints 257 257 rfl (by decide) w
 rw [← hC.zero] at hmk
 have HC := qaa hC
 have Hcell : Hid (∀ W, Below w.heap.size w W → ∀ k (hk : k < l.length), ∃ b off, A = some ⟨b, off, none⟩ ∧ W.cell? ⟨b, off + k, none⟩ = some (.int .i64 l[k])) := qaa fun W hW k hk => by
  obtain ⟨b, off, e, hb, hc⟩ := hr.2 (by omega)
  exact ⟨b, off, e, (hW.cell (p := ⟨b, off + k, none⟩) hb).trans (hc k _ (yak l k hk))⟩
 have En := qaa en
 have Hbl := qaa hbl
 have HB0 := qaa (Blk.new w 3 (C 0).toArray)
 have HO0 := qaa ((qaj w.heap.size w).alloc (qaf _) (.cells (C 0).toArray 3))
 clear hr hC en hbl
 generalize hg : w.heap.size = g at *
 go_enter func110, ntmps110
 go_wp2
 go_loopw [5, 6] (fun i xv wr => ∃ k : Nat, k ≤ n ∧ i = .int .i64 k ∧ Hid (hin (l.take k) = true) ∧ Hid (Blk wr g 3 (C k).toArray) ∧ Hid (Below g w wr)) (fun i _ _ => n - (intOf i).toNat)
 case atStart => exact ⟨0, by omega, rfl, qaa rfl, HB0, HO0⟩
 case round =>
  obtain ⟨k, hk, rfl, Hin, HB, HO⟩ := hrel
  clear HB0 HO0 hmk
  by_cases hlt : k < n
  ·have hki : (k : Int) < (n : Int) := by omega
   have hkl : k < l.length := by rw [En.out]; exact hlt
   obtain ⟨b, off, rfl, x1⟩ := Hcell.out wr HO.out k hkl
   obtain ⟨x, hx⟩ : ∃ x, l[k] = x := ⟨_, rfl⟩
   rw [hx] at x1
   by_cases hin0 : 0 ≤ x ∧ x ≤ 256
   ·obtain ⟨s, rfl⟩ := qaK hin0.1
    have hsi : (0 : Int) ≤ (s : Int) ∧ (s : Int) < 257 ∧ (s : Int) ≤ 256 := by omega
    obtain ⟨v, hv1, hv2, hv3⟩ := HC.out.get k s (by omega)
    have x2 : wr.cell? ⟨g, s, none⟩ = some (.int .i64 (v : Int)) := by rw [HB.out.cell]; exact hv2
    have x3 := HB.out.frozen s
    have Hset := qaa (hv3 hkl hx)
    have Hin2 := qaa (hin_take k hkl Hin.out (by rw [hx]; exact hin0))
    have hvi : (0 : Int) ≤ (v : Int) ∧ (v : Int) ≤ 1000000 := by omega
    have hgl := HB.out.lt
    clear hx hv2 hv3 hin0 hkl
    go_wp2
    go_roundw
    case rel =>
     refine ⟨k + 1, by omega, iv (by omega), Hin2, qaa ?_, qaa ?_⟩
     ·rw [← Hset.out]
      exact HB.out.set_ s _
     ·exact HO.out.setCell (p := ⟨g, s, none⟩) (qaf _) _
    case measure => simp only [intOf]; omega
   ·have Hf := qaa (hc_none Hbl.out k hkl (by rw [hx]; exact hin0))
    by_cases h0 : 0 ≤ x
    ·have h1 : ¬ x ≤ 256 := by omega
     clear hx hkl
     go_wp2
     go_ret2
     rw [Hf.out]
     subst hg
     exact ybr HO.out
    ·clear hx hkl
     go_wp2
     go_ret2
     rw [Hf.out]
     subst hg
     exact ybr HO.out
  ·obtain rfl : k = n := by omega
   have hii : ¬ (k : Int) < (k : Int) := by omega
   have hin2 := Hin.out
   rw [qax (by rw [En.out]; exact qaf _)] at hin2
   have Hf := qaa (hc_all Hbl.out hin2)
   have hlast := HC.out.last
   rw [En.out] at hlast
   have HB2 : Hid (Blk wr g 3 (ints (ya4 l)).toArray) := qaa (by rw [← hlast]; exact HB.out)
   clear hin2 hlast
   go_wp2
   go_ret2
   rw [Hf.out]
   subst hg
   exact hcpost_row (yat l) HB2.out HO.out
theorem c_none_no (g : Nat) (w : World) (x : w.cell? ⟨g, 0, none⟩ = some (.bool true)) : Calls prog 127 #[.pointer (some ⟨g, 0, none⟩)] w fun e w' => e = .returned (.bool false) ∧ w = w' := by
 have hg := cell_lt x
 go_enter func127, ntmps127
 go_wp2
 go_ret
 exact ⟨rfl, rfl⟩
def yct (ws : List (Int × Int)) (s : Int) : (Int × Int) × Int := if 0 ≤ s ∧ s < ws.length ∧ (ws.getD s.toNat (0, 0)).2 ≠ 0 then (ws.getD s.toNat (0, 0), 0) else ((0, 0), 70)
theorem pword_ref (ws : List (Int × Int)) (s : Int) : (yct ws s).2 = (yaD ws s).2 ∧ ((yct ws s).2 = 0 → (yaD ws s).1 = digI (yct ws s).1.1 (yct ws s).1.2 ∧ (yct ws s).1 ∈ ws) := by
 unfold yct yaD
 by_cases h : 0 ≤ s ∧ s < ws.length ∧ (ws.getD s.toNat (0, 0)).2 ≠ 0
 ·rw [qah h, qah h]
  refine ⟨rfl, fun _ => ⟨rfl, ?_⟩⟩
  have hl : s.toNat < ws.length := by omega
  show ws.getD s.toNat (0, 0) ∈ ws
  rw [qaw, qan hl]
  exact qam hl
 ·rw [qag h, qag h]
  exact ⟨rfl, fun h => absurd h (by decide)⟩
def wordV (F : (Int × Int) × Int) : Value := .tuple #[.agg #[.int .i64 F.1.1, .int .i64 F.1.2], .int .i64 F.2]
theorem c_word_any (ls : List Nat) (B g : Nat) (s : Int) (w : World) (h : CCode w B g ls) (hl : ls.length ≤ 1000000) : Calls prog 151 #[.pointer (some ⟨g, 0, none⟩), .int .i64 s] w fun e w' => e = .returned (wordV (yct (wat ls 16 0) s)) ∧ Below w.heap.size w w' := by
 have Hn : Hid (∀ W, Below w.heap.size w W → Calls prog 127 #[.pointer (some ⟨g, 0, none⟩)] W fun e w' => e = .returned (.bool false) ∧ W = w') := qaa fun W hW => c_none_no g W ((hW.cell (p := ⟨g, 0, none⟩) h.at.2).trans h.made)
 obtain ⟨b, hb, x1, hB⟩ := h.words
 have hg := h.at.2
 have hbl := hB.lt
 have hwl := yaO ls 16 0
 obtain ⟨F, hF⟩ : ∃ F, yct (wat ls 16 0) s = F := ⟨_, rfl⟩
 rw [hF]
 unfold yct at hF
 rw [hwl] at hF
 obtain ⟨n, hn⟩ : ∃ n, ls.length = n := ⟨_, rfl⟩
 rw [hn] at hF x1 hl hwl
 have hni : (n : Int) ≤ 1000000 := by omega
 clear h
 by_cases h0 : s < 0
 ·rw [qag (by omega)] at hF
  subst hF
  clear hB
  go_enter func151, ntmps151
  go_wp2_with (go_at_call 127; refine (Hn.out _ ((qaj _ _).alloc (qaf _) _)).mono ?_; rintro e w1 ⟨rfl, rfl⟩)
  refine qaQ (v := .tuple #[.agg #[.int .i64 0, .int .i64 0], .int .i64 70]) (by simp [results, results151, go_sem]) rfl ⟨rfl, by go_grown⟩
 ·by_cases h1 : (n : Int) ≤ s
  ·rw [qag (by omega)] at hF
   subst hF
   clear hB
   go_enter func151, ntmps151
   go_wp2_with (go_at_call 127; refine (Hn.out _ ((qaj _ _).alloc (qaf _) _)).mono ?_; rintro e w1 ⟨rfl, rfl⟩)
   refine qaQ (v := .tuple #[.agg #[.int .i64 0, .int .i64 0], .int .i64 70]) (by simp [results, results151, go_sem]) rfl ⟨rfl, by go_grown⟩
  ·obtain ⟨k, rfl⟩ := qaK (by omega : 0 ≤ s)
   have hk : k < n := by omega
   have hki : (0 : Int) ≤ (k : Int) ∧ (k : Int) < (n : Int) := by omega
   have hkw : k < (wat ls 16 0).length := by rw [hwl]; exact hk
   rw [qap, qaw, qan hkw, qcc] at hF
   have y1 := hB.cell (k * 2)
   rw [qaq, ycw .i64 _ k hkw] at y1
   have y2 := hB.cell (k * 2 + 1)
   rw [qaq, yc8 .i64 _ k hkw] at y2
   clear hB
   generalize (wat ls 16 0)[k] = f at *
   obtain ⟨fn, fw⟩ := f
   dsimp only at y1 y2 hF
   by_cases hz : fw = 0
   ·rw [qag (fun h => h.2.2 hz)] at hF
    subst hF
    subst hz
    clear hkw hwl h0 h1
    go_enter func151, ntmps151
    go_wp2_with (go_at_call 127; refine (Hn.out _ ((qaj _ _).alloc (qaf _) _)).mono ?_; rintro e w1 ⟨rfl, rfl⟩)
    refine qaQ (v := .tuple #[.agg #[.int .i64 0, .int .i64 0], .int .i64 70]) (by simp [results, results151, go_sem]) rfl ⟨rfl, by go_grown⟩
   ·rw [qah ⟨by omega, by omega, hz⟩] at hF
    subst hF
    have hz2 : (fw == (0 : Int)) = false := by simpa using hz
    clear hkw hwl h0 h1
    go_enter func151, ntmps151
    go_wp2_with (go_at_call 127; refine (Hn.out _ ((qaj _ _).alloc (qaf _) _)).mono ?_; rintro e w1 ⟨rfl, rfl⟩)
    refine qaQ (v := .tuple #[.agg #[.int .i64 fn, .int .i64 fw], .int .i64 0]) (by simp [results, results151, go_sem]) rfl ⟨rfl, by go_grown⟩
def cputV (g : Nat) : Value := .func (.func 107) #[.pointer (some ⟨g, 0, none⟩)] #[]
theorem c_hand_yes (ls : List Nat) (B Bw g gw : Nat) (v : Value) (R : List Nat) (s : Int) (w : World) (h : CCode w B g ls) (hl : ls.length ≤ 1000000) (hE : (yct (wat ls 16 0) s).2 = 0) (hf : ∀ f ∈ wat ls 16 0, fits f.1 f.2) (hH : WHold w Bw gw v R) (hB : Bw ≤ w.heap.size) (hR : R.length ≤ 1099511627776) :
  Calls prog 109 #[.pointer (some ⟨g, 0, none⟩), cputV gw, .int .i64 s] w fun e w' => e = .returned (.int .i64 0) ∧ ∃ v', WHold w' Bw gw v' (R ++ (yaD (wat ls 16 0) s).1) ∧ Touch w w' (WS gw v) ∧ Sep w v v' := by
 have Hw := qaa (c_word_any ls B g s w h hl)
 obtain ⟨h1, h2⟩ := pword_ref (wat ls 16 0) s
 obtain ⟨h3, h4⟩ := h2 hE
 unfold wordV at Hw
 rw [hE] at Hw
 rw [h3]
 have hfit := hf _ h4
 have Hput := qaa fun w hH hB => bput_is Bw gw _ _ v R w hfit hH hB hR
 clear h hE h1 h2 h3 h4 hf hfit
 generalize (yct (wat ls 16 0) s).1.1 = x at *
 generalize (yct (wat ls 16 0) s).1.2 = y at *
 have HW := qaa fun (w1 : World) (hb : Below w.heap.size w w1) (o : Obj) => (hH.below hb (qaf _)).below (C := w1.heap.size) ((qaj w1.heap.size w1).alloc (qaf _) o) (qaf _)
 have HB2 := qaa fun (w1 : World) (hb : Below w.heap.size w w1) (o : Obj) => show Bw ≤ (w1.alloc o).heap.size from qa7 hB (qa7 hb.size (by simp))
 clear hH hB hR
 unfold cputV
 go_enter func109, ntmps109
 go_wp2_with (first
  | (go_at_call 151; refine Hw.out.mono ?_; rintro e w1 ⟨rfl, hb1⟩; have Hb1 := qaa hb1; clear hb1)
  | (go_at_call 107; refine (Hput.out _ (HW.out w1 Hb1.out _) (HB2.out w1 Hb1.out _)).mono ?_; rintro e w2 ⟨rfl, v2, hH2, ht2, hs2⟩; have HH2 := qaa hH2; have Ht2 := qaa ht2; have Hs2 := qaa hs2; clear hH2 ht2 hs2))
 go_ret
 refine ⟨rfl, v2, HH2.out, ?_, fun k hk => ?_⟩
 ·exact ((yaP (S := WS gw v) Hb1.out (qaf _)).alloc _).trans Ht2.out
 ·rcases Hs2.out k hk with e | e
  ·exact qat e
  ·have := Hb1.out.size
   rw [qas] at e
   exact qaT (by omega)
theorem len64_any (x : Int) (w : World) (h0 : 0 ≤ x) (h1 : x ≤ 4294967295) : Calls prog 187 #[.int .u64 x] w fun e w' => e = .returned (.int .i64 (Lib.bitLen x.toNat)) ∧ w = w' := by
 by_cases a1 : x ≤ 255
 ·have a2 : x < 256 := by omega
  have a3 : x < 65536 := by omega
  have a4 : x < 4294967296 := by omega
  go_enter func187, ntmps187
  go_wp2
  go_ret
  refine ⟨qbJ Ending.returned (iv ?_), rfl⟩
  have l := Lib.bitLen_le8' x h0 a1
  rw [Lib.len8_of x h0 a1]
  unfold wrap64
  omega
 ·by_cases b1 : x ≤ 65535
  ·have a2 : ¬ x < 256 := by omega
   have a3 : x < 65536 := by omega
   have a4 : x < 4294967296 := by omega
   have a5 : 0 ≤ x / 256 := by omega
   have a6 : x / 256 ≤ 255 := by omega
   clear a1
   go_enter func187, ntmps187
   go_wp2
   go_ret
   refine ⟨qbJ Ending.returned (iv ?_), rfl⟩
   have l := Lib.bitLen_le8' (x / 256) a5 a6
   have s := Lib.bitLen_shift8 x.toNat (by omega) (by omega)
   rw [Lib.len8_of (x / 256) a5 a6, s]
   rw [show (x / 256).toNat = x.toNat / 256 from by omega] at l ⊢
   unfold wrap64
   omega
  ·by_cases c1 : x ≤ 16777215
   ·have a2 : ¬ x < 65536 := by omega
    have a4 : x < 4294967296 := by omega
    have a5 : 0 ≤ x / 65536 := by omega
    have a6 : x / 65536 ≤ 255 := by omega
    have a7 : x / 65536 < 256 := by omega
    clear a1 b1
    go_enter func187, ntmps187
    go_wp2
    go_ret
    refine ⟨qbJ Ending.returned (iv ?_), rfl⟩
    have l := Lib.bitLen_le8' (x / 65536) a5 a6
    have s := Lib.bitLen_shift16 x.toNat (by omega) (by omega)
    rw [Lib.len8_of (x / 65536) a5 a6, s]
    rw [show (x / 65536).toNat = x.toNat / 65536 from by omega] at l ⊢
    unfold wrap64
    omega
   ·have a2 : ¬ x < 65536 := by omega
    have a4 : x < 4294967296 := by omega
    have a5 : 0 ≤ x / 65536 / 256 := by omega
    have a6 : x / 65536 / 256 ≤ 255 := by omega
    have a7 : ¬ x / 65536 < 256 := by omega
    clear a1 b1 c1
    go_enter func187, ntmps187
    go_wp2
    go_ret
    refine ⟨qbJ Ending.returned (iv ?_), rfl⟩
    have l := Lib.bitLen_le8' (x / 65536 / 256) a5 a6
    have s := Lib.bitLen_shift24 x.toNat (by omega) (by omega)
    rw [Lib.len8_of (x / 65536 / 256) a5 a6, s]
    rw [show (x / 65536 / 256).toNat = x.toNat / 16777216 from by omega] at l ⊢
    unfold wrap64
    omega
theorem len_any (x : Int) (w : World) (h0 : 0 ≤ x) (h1 : x ≤ 4294967295) : Calls prog 150 #[.int .u64 x] w fun e w' => e = .returned (.int .i64 (Lib.bitLen x.toNat)) ∧ w = w' := by
 go_enter func150, ntmps150
 go_wp2_with (go_at_call 187; refine (len64_any x _ h0 h1).mono ?_; rintro e w1 ⟨rfl, rfl⟩)
 go_ret
 exact ⟨rfl, rfl⟩
theorem wgamma_yes (B g : Nat) (n : Int) (v : Value) (R : List Nat) (w : World) (h : hasG n) (hH : WHold w B g v R) (hB : B ≤ w.heap.size) (hR : R.length ≤ 1099511627700) :
  Calls prog 108 #[.pointer (some ⟨g, 0, none⟩), .int .i64 n] w fun e w' => e = .returned (.int .i64 0) ∧ ∃ v', WHold w' B g v' (R ++ gam n.toNat) ∧ Touch w w' (WS g v) ∧ Sep w v v' := by
 obtain ⟨h1, h2⟩ := h
 have e32 : (2 : Int) ^ (32 : Int).toNat = 4294967296 := by decide
 have hs := fun w => bfits_yes n 32 w ⟨by omega, by omega, by omega, by rw [e32]; omega⟩
 have hlen := fun w => len_any n w (by omega) (by omega)
 obtain ⟨b1, b2, b3⟩ := yg3 32 n.toNat (by omega) (by rw [show (2 : Nat) ^ 32 = 4294967296 from by decide]; omega) (by omega)
 have ble := bl_le (n := n.toNat) (by omega) (by omega)
 have hgam : gam n.toNat = List.replicate (bl n.toNat - 1) 0 ++ dig (bl n.toNat) n.toNat := rfl
 have hbl : Lib.bitLen n.toNat = bl n.toNat := rfl
 simp only [hbl] at hlen
 generalize bl n.toNat = k at *
 have f1 : fits 0 ((k : Int) - 1) := ⟨by omega, by omega, by omega, Int.pow_pos (by decide)⟩
 have f2 : fits n k := ⟨by omega, by omega, by omega, by have : (n.toNat : Int) < 2 ^ k := (by exact_mod_cast b3); simp only [qap]; omega⟩
 have d1 : digI 0 ((k : Int) - 1) = List.replicate (k - 1) 0 := by unfold digI; rw [show ((k : Int) - 1).toNat = k - 1 from by omega]; exact yf0 _
 have d2 : digI n k = dig k n.toNat := by unfold digI; rw [qap]
 have hput1 := fun w hH hB => bput_is B g 0 ((k : Int) - 1) v R w f1 hH hB (by omega)
 have hput2 := fun w v1 hH hB => bput_is B g n k v1 (R ++ List.replicate (k - 1) 0) w f2 hH hB (by simp; omega)
 rw [d1] at hput1
 rw [d2] at hput2
 have hk1 : (1 : Int) ≤ k := by omega
 have hk2 : (k : Int) ≤ 32 := by omega
 have Hgam := qaa hgam
 have HH := qaa hH
 have HB := qaa hB
 have h0 : 0 ≤ n := by omega
 have Hput1 := qaa hput1
 have Hput2 := qaa hput2
 clear hgam hH hB hput1 hput2 d1 d2 f1 f2 b1 b2 b3 ble hbl e32 hR
 go_enter func108, ntmps108
 go_wp2_with (first
  | (go_at_call 149; refine (hs _).mono ?_; rintro e w1 ⟨rfl, rfl⟩)
  | (go_at_call 150; refine (hlen _).mono ?_; rintro e w1 ⟨rfl, rfl⟩)
  | (go_at_call 107; (with_reducible refine (Hput1.out _ HH.out HB.out).mono ?_); rintro e w1 ⟨rfl, v1, hH1, ht1, hs1⟩; have HH1 := qaa hH1; have Ht1 := qaa ht1; have Hs1 := qaa hs1; clear hH1 ht1 hs1)
  | (go_at_call 107; (with_reducible refine (Hput2.out _ _ HH1.out (qa7 HB.out Ht1.out.size)).mono ?_); rintro e w2 ⟨rfl, v2, hH2, ht2, hs2⟩; have HH2 := qaa hH2; have Ht2 := qaa ht2; have Hs2 := qaa hs2; clear hH2 ht2 hs2))
 go_ret
 refine ⟨rfl, v2, ?_, touch_ws Ht1.out Ht2.out Hs1.out, Hs1.out.trans Hs2.out Ht1.out.size⟩
 have := HH2.out
 rw [Hgam.out, ← qak]
 exact this
theorem tfits4 {x : Int} (hx : 0 ≤ x ∧ x ≤ 15) : fits x 4 := ⟨by omega, by omega, hx.1, by show x < 16; omega⟩
theorem tbox_apart {w : World} {B g pb : Nat} {v : Value} {R : List Nat} (hP : Blk w pb 104 #[.pointer (some ⟨g, 0, none⟩)]) (hH : WHold w B g v R) : ¬ WS g v pb := by
 rintro (e | e)
 ·subst e
  have h1 := hH.1
  unfold Blk at h1 hP
  rw [hP] at h1
  injection h1 with h1
  injection h1 with _ h2
  cases h2
 ·exact yau hH.2.1 hP (by decide) e
theorem tput1_any (B g pb : Nat) (v : Value) (R : List Nat) (x : Int) (d : Nat) (w : World) (hx : 0 ≤ x ∧ x ≤ 15) (hd : 1 ≤ d ∧ d ≤ 257) (hP : Blk w pb 104 #[.pointer (some ⟨g, 0, none⟩)]) (hH : WHold w B g v R) (hB : B ≤ w.heap.size) (hR : R.length ≤ 1000100000) :
  Calls prog 106 #[.int .i64 x, .int .i64 (d : Int), .pointer (some ⟨pb, 0, none⟩)] w fun e w' => (∃ r, e = .returned r) ∧ ∃ v', WHold w' B g v' (R ++ trb x d) ∧ Touch w w' (WS g v) ∧ Sep w v v' := by
 have hap := tbox_apart hP hH
 have x1 : w.cell? ⟨pb, 0, none⟩ = some (.pointer (some ⟨g, 0, none⟩)) := hP.cell 0
 have hdl : (digI x 4).length = 4 := by unfold digI; rw [yai]; rfl
 have Hput := qaa (bput_is B g x 4 v R w (tfits4 hx) hH hB (by omega))
 have Hgam := qaa fun W v1 hH hB => wgamma_yes B g (d : Int) v1 (R ++ digI x 4) W ⟨by omega, by omega⟩ hH hB (by rw [qae, hdl]; omega)
 have Hnext := qaa fun (w1 : World) (h : Touch w w1 (WS g v)) => (hP.touch h hap).cell 0
 have HB := qaa hB
 have hass : R ++ trb x d = R ++ digI x 4 ++ gam d := by unfold trb; rw [qak]
 rw [qap] at Hgam
 rw [hass]
 clear hap hdl hass hP hH hB hR hx hd
 generalize R ++ digI x 4 = R1 at *
 generalize R1 ++ gam d = R2 at *
 go_enter func106, ntmps106
 go_wp2_with (first
  | (go_at_call 107; refine Hput.out.mono ?_; rintro e w1 ⟨rfl, v1, hH1, ht1, hs1⟩; have HH1 := qaa hH1; have Ht1 := qaa ht1; have Hs1 := qaa hs1; have x2 := Hnext.out _ ht1; clear hH1 ht1 hs1)
  | (go_at_call 108; refine (Hgam.out _ _ HH1.out (qa7 HB.out Ht1.out.size)).mono ?_; rintro e w2 ⟨rfl, v2, hH2, ht2, hs2⟩; have HH2 := qaa hH2; have Ht2 := qaa ht2; have Hs2 := qaa hs2; clear hH2 ht2 hs2))
 go_end0
 exact ⟨⟨_, rfl⟩, v2, HH2.out, touch_ws Ht1.out Ht2.out Hs1.out, Hs1.out.trans Hs2.out Ht1.out.size⟩
theorem tint_info2 : (prog.info? 3).map (fun i => (i.zero, i.size, i.bytes)) = some (some (.int .i64 0), 1, 8) := by kernel_rfl
theorem tints_drop (l : List Int) (k : Nat) : (ints l).drop k = ints (l.drop k) := by simp [ints]
def TEach (w : World) (B g : Nat) (v : Value) (R : List Nat) (l : List Int) (i : Nat) (wr : World) : Prop :=
 ∃ R' v', WHold wr B g v' R' ∧ Touch w wr (WS g v) ∧ Sep w v v' ∧ R' ++ ya3 (l.drop i) = R ++ ya3 l ∧ R'.length ≤ R.length + 67 * i
section
variable {w wr : World} {B g pb N0 : Nat} {v : Value} {R : List Nat} {l : List Int}
theorem TEach.step (hr : R.length ≤ 1000000000) (hl : l.length ≤ 257) (h15 : ∀ i (h : i < l.length), 0 ≤ l[i] ∧ l[i] ≤ 15) (hB : B ≤ w.heap.size) (hP : Blk w pb 104 #[.pointer (some ⟨g, 0, none⟩)]) (hH : WHold w B g v R)
  (i k : Nat) (h : TEach w B g v R l i wr) (x : Int) (hik : i < k) (hk : k ≤ l.length) (hx : ∀ j (hj : j < l.length), i ≤ j → j < k → l[j] = x) (hs : ∀ hj : k < l.length, l[k] ≠ x) :
  Calls prog 106 #[.int .i64 x, .int .i64 ((k - i : Nat) : Int), .pointer (some ⟨pb, 0, none⟩)] wr fun e w' => (∃ r, e = .returned r) ∧ TEach w B g v R l k w' := by
 obtain ⟨R', v', h1, h2, h3, h4, h5⟩ := h
 have hil : i < l.length := by omega
 have hx15 : 0 ≤ x ∧ x ≤ 15 := by have := h15 i hil; rw [hx i hil (qaf _) hik] at this; exact this
 refine (tput1_any B g pb v' R' x (k - i) wr hx15 ⟨by omega, by omega⟩ (hP.touch h2 (tbox_apart hP hH)) h1 (qa7 hB h2.size) (by omega)).mono ?_
 rintro e w' ⟨hr', v2, g1, g2, g3⟩
 refine ⟨hr', R' ++ trb x (k - i), v2, g1, touch_ws h2 g2 h3, h3.trans g3 h2.size, ?_, ?_⟩
 ·rw [← h4, tbits_at l x i k hik hk hx hs, qak]
 ·rw [qae]
  have := trb_len x (k - i) (by omega) (by omega)
  omega
end
theorem teach_any (B N0 g pb : Nat) (v : Value) (R : List Nat) (l : List Int) (A : Option Addr) (n c : Nat) (w : World) (hr : Reads w N0 1 A n (ints l)) (hg : N0 ≤ g ∧ N0 ≤ B) (hl : l.length ≤ 257) (h15 : ∀ i (h : i < l.length), 0 ≤ l[i] ∧ l[i] ≤ 15)
  (hP : Blk w pb 104 #[.pointer (some ⟨g, 0, none⟩)]) (hH : WHold w B g v R) (hB : B ≤ w.heap.size) (hR : R.length ≤ 1000000000) (hc : n ≤ c) :
  Calls prog 105 #[.slice A n c, .func (.func 106) #[] #[.pointer (some ⟨pb, 0, none⟩)]] w fun e w' => (∃ r, e = .returned r) ∧ ∃ v', WHold w' B g v' (R ++ ya3 l) ∧ Touch w w' (WS g v) ∧ Sep w v v' := by
 obtain ⟨i0, hi, hz0, hz1, hz2⟩ := qbn tint_info2
 have en : l.length = n := by have := hr.1; rw [yae] at this; omega
 have h0 : TEach w B g v R l 0 w := ⟨R, v, hH, Touch.refl _ _, fun k hk => qat hk, rfl, by omega⟩
 have hN0 : N0 ≤ w.heap.size := by have := hH.1.lt; omega
 have Hbelow : Hid (∀ i wr, TEach w B g v R l i wr → Below N0 w wr) := qaa fun i wr h => by
  obtain ⟨R', v', h1, h2, h3, h4, h5⟩ := h
  refine h2.below (fun k _ e => ?_) hN0
  rcases e with e | e
  ·omega
  ·exact qa7 hg.2 (hH.2.1.lt k e).1
 have Hstep := qaa fun wr i k h x => TEach.step (wr := wr) hR hl h15 hB hP hH i k h x
 have Hend : Hid (∀ wr, TEach w B g v R l n wr → ∃ v', WHold wr B g v' (R ++ ya3 l) ∧ Touch w wr (WS g v) ∧ Sep w v v') := qaa fun wr h => by
  obtain ⟨R', v', h1, h2, h3, h4, h5⟩ := h
  rw [qaJ (by omega)] at h4
  have e : R' = R ++ ya3 l := by rw [← h4]; simp [ya3]
  subst e
  exact ⟨v', h1, h2, h3⟩
 have En := qaa en
 have Hn : (n : Int) ≤ 257 := by omega
 have H0 := qaa h0
 have Hr0 := qaa hr
 have Hh15 := qaa h15
 clear hr hg hl h15 hP hH hB hR h0 hN0 en
 go_enter func105, ntmps105
 go_wp2
 go_step3
 go_wp2
 go_step3
 go_wp2
 go_loopw [0] (fun s wr => ∃ (i m ck : Nat) (Ak : Option Addr), i + m = n ∧ s = .slice Ak m ck ∧ m ≤ ck ∧ Hid (Reads w N0 1 Ak m (ints (l.drop i))) ∧ Hid (TEach w B g v R l i wr)) (fun s _ => match s with | .slice _ m _ => m | _ => 0)
 case atStart => exact ⟨0, n, c, A, by omega, rfl, hc, qaa Hr0.out, H0⟩
 case round =>
  obtain ⟨i, m, ck, Ak, hk, rfl, hck, Hr, HI⟩ := hrel
  clear H0 Hr0
  by_cases hlt : 0 < m
  ·have hki : (0 : Int) < (m : Int) := by omega
   have hil : i < l.length := by rw [En.out]; omega
   obtain ⟨x, hx⟩ : ∃ x, l[i] = x := ⟨_, rfl⟩
   obtain ⟨b, off, rfl, hb, hcell⟩ := (Hr.out.below (Hbelow.out i wr HI.out)).2 hlt
   have Hcell : Hid (∀ a (ha : i + a < l.length), a < m → wr.cell? ⟨b, off + a, none⟩ = some (.int .i64 l[i + a])) := qaa fun a ha _ => hcell a _ (by rw [yak _ a (by simp; omega)]; simp)
   have x1 : wr.cell? ⟨b, off, none⟩ = some (.int .i64 x) := by
    have := Hcell.out 0 hil hlt
    rw [qbr] at this
    rw [this]
    show some (Value.int .i64 l[i]) = _
    rw [hx]
   have Hx := qaa hx
   clear hcell hx
   go_wp2
   go_loop [0, 11] (fun s j => ∃ a : Nat, a ≤ m ∧ s = .slice (some ⟨b, off, none⟩) m ck ∧ j = .int .i64 a ∧ Hid (∀ j (hj : j < l.length), i ≤ j → j < i + a → l[j] = x)) (fun _ j => m - (intOf j).toNat)
   case atStart => exact ⟨0, by omega, rfl, rfl, qaa fun j hj h1 h2 => by omega⟩
   case round =>
    obtain ⟨a, ha, rfl, rfl, Hg⟩ := hrel
    by_cases hal : a < m
    ·have hai : (0 : Int) ≤ (a : Int) ∧ (a : Int) < m := by omega
     have hkl : i + a < l.length := by rw [En.out]; omega
     have x2 := Hcell.out a hkl hal
     by_cases hy : l[i + a] = x
     ·rw [hy] at x2
      have hb1 : (x == x) = true := by simp
      have Hg2 : Hid (∀ j (hj : j < l.length), i ≤ j → j < i + (a + 1) → l[j] = x) := qaa fun j hj h1 h2 => by
       by_cases e : j = i + a
       ·subst e; exact hy
       ·exact Hg.out j hj h1 (by omega)
      clear hy
      go_wp2
      go_round
      case rel => exact ⟨a + 1, by omega, rfl, iv (by omega), Hg2⟩
      case measure => simp only [intOf]; omega
     ·have ha0 : 0 < a := by
       rcases qaW a with h | h
       ·subst h
        exact absurd Hx.out hy
       ·exact h
      have hfrom := fun W => ybw (P := prog) underlying28 hi hz1 (some ⟨b, off, none⟩) m ck a (by omega) W
      have hst := Hstep.out wr i (i + a) HI.out x (by omega) (by omega) Hg.out (fun _ => hy)
      rw [qbF] at hst
      have Hst := qaa hst
      obtain ⟨y, hye⟩ : ∃ y, l[i + a] = y := ⟨_, rfl⟩
      have hb1 : (y == x) = false := by rw [← hye]; simpa using hy
      rw [hye] at x2
      clear hst hye hy
      go_wp2_with (go_at_call 106; refine Hst.out.mono ?_; rintro e w2 ⟨⟨v2, rfl⟩, hI2⟩; have HI2 := qaa hI2; clear hI2)
      have hcut : Reads w N0 1 (some ⟨b, off + a, none⟩) (m - a) (ints (l.drop (i + a))) := by
       have := Hr.out.cut (k := a) (cap := ck) (by omega) (by omega)
       rw [qag (by omega), qc1, tints_drop, qbA, qb8, yc9] at this
       exact this
      refine ⟨⟨i + a, m - a, ck - a, _, by omega, rfl, by omega, qaa hcut, HI2⟩, ?_⟩
      show m - a < m
      omega
    ·obtain rfl : a = m := by omega
     have hst := Hstep.out wr i (i + a) HI.out x (by omega) (by rw [En.out]; omega) Hg.out (fun hj => by rw [En.out] at hj; omega)
     rw [qbF, hk] at hst
     have Hst := qaa hst
     clear hst
     go_wp2_with (go_at_call 106; refine Hst.out.mono ?_; rintro e w2 ⟨⟨v2, rfl⟩, hI2⟩; have HI2 := qaa hI2; clear hI2)
     rw [qbN]
     refine qaQ (results_none rfl _ _ _) rfl ?_
     exact ⟨⟨_, rfl⟩, Hend.out _ HI2.out⟩
  ·obtain rfl : m = 0 := by omega
   obtain rfl : i = n := by omega
   go_wp2
   rw [Exit.noGoto_normal]
   go_end0
   exact ⟨⟨_, rfl⟩, Hend.out _ HI.out⟩
theorem tmkfunc (fn : Fn) (first cap : Array Value) (w : World) : (Instr.makeFunc fn first cap).run prog w = .ok (.func fn first cap) w := rfl
theorem p_tput_yes (B N0 g : Nat) (v : Value) (R : List Nat) (l : List Int) (A : Option Addr) (n c : Nat) (w : World) (hr : Reads w N0 1 A n (ints l)) (hg : N0 ≤ g ∧ N0 ≤ B) (h0 : ya6 l = 0) (hH : WHold w B g v R) (hB : B ≤ w.heap.size) (hR : R.length ≤ 1000000000) (hc : n ≤ c) :
  Calls prog 63 #[.pointer (some ⟨g, 0, none⟩), .slice A n c] w fun e w' => e = .returned (.int .i64 0) ∧ ∃ v', WHold w' B g v' (R ++ ya3 l) ∧ Touch w w' (WS g v) ∧ Sep w v v' := by
 obtain ⟨hl, hgd⟩ := ydP h0
 have en : l.length = n := by have := hr.1; rw [yae] at this; omega
 have hN0 : N0 ≤ w.heap.size := by have := hH.1.lt; omega
 have Hck := qaa fun (W : World) (hW : Below w.heap.size w W) => yf8 l A n c W (by omega) ((hr.below (hW.mono hN0)).more (qa7 hN0 hW.size))
 rw [lcheck_ref, h0] at Hck
 have Heach := qaa fun (W : World) (hW : Below w.heap.size w W) hP => teach_any B N0 g w.heap.size v R l A n c W (hr.below (hW.mono hN0)) hg hl (yaY hgd) hP (hH.below hW (qaf _)) (qa7 hB hW.size) hR hc
 have Hb1 := qaa fun o => (qaj w.heap.size w).alloc (qaf _) o
 have Hnew := qaa (Blk.new w 104 #[.pointer (some ⟨g, 0, none⟩)])
 have hmf := tmkfunc
 clear hr hg h0 hH hB hR hc hl hgd en hN0
 generalize R ++ ya3 l = R2 at *
 go_enter func63, ntmps63
 go_wp2_with (first
  | (go_at_call 104; refine (Hck.out _ (Hb1.out _)).mono ?_; rintro e w2 ⟨rfl, hb2⟩; have Hb2 := qaa ((Hb1.out _).trans (hb2.mono (by simp))); have HP2 := qaa (Hnew.out.below hb2 (by simp)); clear hb2)
  | (go_at_call 105; refine (Heach.out _ Hb2.out HP2.out).mono ?_; rintro e w3 ⟨⟨v3, rfl⟩, hp3⟩; have Hp3 := qaa hp3; clear hp3))
 go_ret
 obtain ⟨v', g1, g2, g3⟩ := Hp3.out
 refine ⟨rfl, v', g1, (yaP Hb2.out (qaf _)).trans g2, fun k hk => ?_⟩
 rcases g3 k hk with e | e
 ·exact qat e
 ·exact qaT (qa7 Hb2.out.size e)
theorem twriter_new (w : World) : WHold (w.alloc (.cells #[.slice none 0 0, .int .i64 0] 102)) w.heap.size w.heap.size (.slice none 0 0) [] := by
 refine ⟨by simpa [fr] using Blk.new w 102 #[.slice none 0 0, .int .i64 0], ?_, ye3⟩
 simpa [ybQ, bc] using qbg (w.alloc (.cells #[.slice none 0 0, .int .i64 0] 102)) w.heap.size 5 1
theorem twriter_back {w W w' : World} {o : Obj} {v : Value} (hW : W = w.alloc o) (h : Touch W w' (WS w.heap.size v)) (hv : ∀ k, v.ownBlock = some k → w.heap.size ≤ k) : Below w.heap.size w w' := by
 subst hW
 refine ((qaj w.heap.size w).alloc (qaf _) o).trans (h.below (fun k _ e => ?_) (by simp))
 rcases e with e | e
 ·omega
 ·exact hv k e
end Go.Proofs.YtanjhbkbpalnaaaGreat
