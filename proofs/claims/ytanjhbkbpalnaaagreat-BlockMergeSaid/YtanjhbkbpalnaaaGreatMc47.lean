/-
 What the law of the last of these texts stands on, part 47.
-/
import Derived.Test.YtanjhbkbpalnaaaGreatMc42
import Derived.Test.YtanjhbkbpalnaaaGreatMc44
set_option maxRecDepth 100000
set_option maxHeartbeats 8000000
open Go.Proofs.Tryz
namespace Go.Proofs.YtanjhbkbpalnaaaGreat
set_option linter.unusedSimpArgs false
set_option linter.unusedVariables false
open Go.ChangeShapes Go.WideShapes Go.ChangeAt Go.RowKit Go.Joins Go.Deep
theorem Reads.on17 {w w' : World} {size n : Nat} {A : Option Addr} {xs : List Value} (h : Reads w w.heap.size size A n xs) (hb : Below w.heap.size w w') : Reads w' w'.heap.size size A n xs := (h.below hb).more hb.size
theorem ygE (a b c d e a' b' c' d' e' : Int) (w : World) : (Op.equalIn 10000 45 (.agg #[.int .i64 0, .int .i64 0, .int .i64 a, .int .i64 b, .int .i64 c, .int .i64 d, .int .i64 e]) (.agg #[.int .i64 0, .int .i64 0, .int .i64 a', .int .i64 b', .int .i64 c', .int .i64 d', .int .i64 e'])).run prog w = .ok (decide (a = a' ∧ b = b' ∧ c = c' ∧ d = d' ∧ e = e')) w := by
 by_cases h1 : a = a'
 ·by_cases h2 : b = b'
  ·by_cases h3 : c = c'
   ·by_cases h4 : d = d'
    ·by_cases h5 : e = e' <;> simp [go_sem, h1, h2, h3, h4, h5]
    ·simp [go_sem, h1, h2, h3, h4]
   ·simp [go_sem, h1, h2, h3]
  ·simp [go_sem, h1, h2]
 ·simp [go_sem, h1]
theorem ye1 : prog.eqGuardType prog.depth 45 = false := by kernel_rfl
section
variable (s : List UInt8) (w : World) (hs : s.length ≤ 1000000)
include hs
theorem odec_peek (hE : (yaw s).2 ≠ 0) : Calls prog 24 #[.string ⟨s.toArray⟩] w fun e w' => yaP w w' e (yak s) := by
 have hc := fun W => yfg s W hs
 have HF : Hid (yak s = ([], (yaw s).2)) := qaa (by unfold yak; rw [qah hE])
 obtain ⟨m, a, b, c, d, e, T, hP, _, _⟩ := yhc s
 rw [hP] at hc
 have Hc := qaa hc
 clear hc hP
 generalize (yaw s).2 = E at *
 go_enter func24, ntmps24
 go_wp2_with (go_at_call 51; (with_reducible refine (Hc.out _).mono ?_); rintro r w1 ⟨rfl, hb1⟩; have HW := qaa (hb1.alloc hb1.size (.cells (opc m a b c d e T) 82)); have HP1 := qaa (Blk.new w1 82 (opc m a b c d e T)); clear hb1)
 go_ret2
 rw [HF.out]
 exact ybe HW.out
end
structure ODec (s : List UInt8) (m a b c d e : Int) (T U : List UInt8) (E : Int) : Prop where
 cut : ∀ W, Calls prog 51 #[.string ⟨s.toArray⟩] W fun r w' => r = .returned (.tuple #[.agg (opc m a b c d e T), .int .i64 0]) ∧ Below W.heap.size W w'
 bytes : ∀ W, Calls prog 52 #[.agg (opc m a b c d e T)] W fun r w' => r = .returned (.tuple #[.string ⟨U.toArray⟩, .int .i64 (obF U E a)]) ∧ Below W.heap.size W w'
 fin : yak s = if E ≠ 0 then ([], E) else odec2 (a, b, c, d, d + e) U
 raw : 1 ≤ a ∧ a ≤ 20000
 early : 0 ≤ d
 later : 0 ≤ e
 late : d + e ≤ 1000000000
section
variable {s : List UInt8} (w : World) {m a b c d e : Int} {T U : List UInt8} {E : Int} (h : ODec s m a b c d e T U E)
include h
theorem odec_bytes (hb : obF U E a ≠ 0) : Calls prog 24 #[.string ⟨s.toArray⟩] w fun e w' => yaP w w' e (yak s) := by
 have Hc := qaa h.cut
 have Hby := qaa h.bytes
 have HF : Hid (yak s = ([], obF U E a)) := qaa (by
  rw [h.fin]
  unfold obF at hb ⊢
  by_cases h1 : E ≠ 0
  ·rw [qah h1, qah h1]
  rw [qag h1] at hb ⊢
  rw [qag h1]
  by_cases h2 : (U.length : Int) ≠ a
  ·rw [qah h2]
   unfold odec2
   rw [qah h2]
  ·rw [qag h2] at hb
   exact absurd rfl hb)
 clear h
 generalize obF U E a = X at *
 go_enter func24, ntmps24
 go_wp2_with (first
  | (go_at_call 51; (with_reducible refine (Hc.out _).mono ?_); rintro r w1 ⟨rfl, hb1⟩; have HW := qaa (hb1.alloc hb1.size (.cells (opc m a b c d e T) 82)); have HP1 := qaa (Blk.new w1 82 (opc m a b c d e T)); clear hb1)
  | (go_at_call 52; (with_reducible refine (Hby.out _).mono ?_); rintro r w2 ⟨rfl, hb2⟩; replace HW := qaa (HW.out.trans (hb2.mono HW.out.size)); have HP2 := qaa (HP1.out.below hb2 HP1.out.lt); clear hb2))
 go_ret2
 rw [HF.out]
 exact ybe HW.out
theorem odec_fin (hb : obF U E a = 0) : (U.length : Int) = a ∧ yak s = if (yae U).2 ≠ 0 then ([], (yae U).2) else if ofit (a, b, c, d, d + e) (yae U).1 = true then ((yae U).1, 0) else ([], 170) := by
 rw [h.fin]
 unfold obF at hb
 by_cases h1 : E ≠ 0
 ·rw [qah h1] at hb
  exact absurd hb h1
 rw [qag h1] at hb ⊢
 by_cases h2 : (U.length : Int) ≠ a
 ·rw [qah h2] at hb
  cases hb
 refine ⟨qb2.1 h2, ?_⟩
 unfold odec2
 rw [qag h2]
theorem odec_split (hb : obF U E a = 0) (hq : (yae U).2 ≠ 0) : Calls prog 24 #[.string ⟨s.toArray⟩] w fun e w' => yaP w w' e (yak s) := by
 have Hc := qaa h.cut
 have Hby := qaa h.bytes
 rw [hb] at Hby
 obtain ⟨h1, h2⟩ := odec_fin h hb
 rw [qah hq] at h2
 have HF := qaa h2
 have hsp := fun W => yde U W (by have := h.raw; omega)
 unfold yaP at hsp
 have Hsp := qaa hsp
 clear h h1 h2 hb hsp
 generalize (yae U).2 = X at *
 go_enter func24, ntmps24
 go_wp2_with (first
  | (go_at_call 51; (with_reducible refine (Hc.out _).mono ?_); rintro r w1 ⟨rfl, hb1⟩; have HW := qaa (hb1.alloc hb1.size (.cells (opc m a b c d e T) 82)); have HP1 := qaa (Blk.new w1 82 (opc m a b c d e T)); clear hb1)
  | (go_at_call 52; (with_reducible refine (Hby.out _).mono ?_); rintro r w2 ⟨rfl, hb2⟩; replace HW := qaa (HW.out.trans (hb2.mono HW.out.size)); have HP2 := qaa (HP1.out.below hb2 HP1.out.lt); clear hb2)
  | (go_at_call 53; (with_reducible refine (Hsp.out _).mono ?_); rintro r w3 ⟨A3, c3, rfl, hc3, hr3, hb3⟩; replace HW := qaa (HW.out.trans (hb3.mono HW.out.size)); have HP3 := qaa (HP2.out.below hb3 HP2.out.lt); clear hb3))
 go_ret2
 rw [HF.out]
 exact ybe HW.out
theorem odec_unfit (hb : obF U E a = 0) (hq : (yae U).2 = 0) (hf : ofit (a, b, c, d, d + e) (yae U).1 = false) : Calls prog 24 #[.string ⟨s.toArray⟩] w fun e w' => yaP w w' e (yak s) := by
 have Hc := qaa h.cut
 have Hby := qaa h.bytes
 rw [hb] at Hby
 obtain ⟨h1, h2⟩ := odec_fin h hb
 rw [hf, qag (by rw [hq]; decide), qag (by decide)] at h2
 have HF := qaa h2
 have hsp := fun W => yde U W (by have := h.raw; omega)
 unfold yaP at hsp
 rw [hq] at hsp
 have hne : 0 < (yae U).1.length := by
  have h3 := rforth hq
  rcases qba (yae U).1.length with h4 | h4
  ·rw [qaz.1 h4] at h3
   have h5 : (yas []) = ([], 0) := by decide
   rw [h5] at h3
   injection h3 with h3 _
   have := h.raw
   rw [← h3, List.length_nil] at h1
   omega
  ·exact h4
 have hcnt : (yae U).1.length ≤ 20000 := by
  have h3 := rforth hq
  have h4 : (yas (yae U).1).2 = 0 := by rw [h3]
  have h5 := (yfw (l := (yae U).1) (by omega) h4).1
  have h6 := (yfw (l := (yae U).1) (by omega) h4).2.2.2.1
  rw [h3] at h5
  injection h5 with h5 _
  rw [← h5] at h6
  have := h.raw
  omega
 have Hme := qaa fun A c W hr => yc6 (yae U).1 A (yae U).1.length c (U.length : Int) W rfl (by omega) hne hr
 have Hpm := qaa fun W => ycR m a b c d e T W h.early h.later h.late
 have Hfit : Hid (decide ((U.length : Int) = a ∧ ((yae U).1.length : Int) = b ∧ (yad (yae U).1).1 = c ∧ (yad (yae U).1).2.1 = d ∧ (ya9 (yae U).1).2.1 = d + e) = false) := qaa (by
  rw [← hf]
  unfold ofit
  simp only [h1, true_and])
 have Hsp := qaa hsp
 clear h h1 h2 hb hq hf hsp hne hcnt
 generalize hCe : rcs (yae U).1 = C at *
 generalize hqe : (yae U).1.length = q at *
 have HCe := qaa hCe
 have HQe := qaa hqe
 clear hCe hqe
 generalize (yad (yae U).1).1 = f1 at *
 generalize (yad (yae U).1).2.1 = f2 at *
 generalize (ya9 (yae U).1).2.1 = f3 at *
 have heq := fun W => ygE (U.length : Int) (q : Int) f1 f2 f3 a b c d (d + e) W
 rw [Hfit.out] at heq
 have hgu := ye1
 clear Hfit
 go_enter func24, ntmps24
 go_wp2_with (first
  | (go_at_call 51; (with_reducible refine (Hc.out _).mono ?_); rintro r w1 ⟨rfl, hb1⟩; have HW := qaa (hb1.alloc hb1.size (.cells (opc m a b c d e T) 82)); have HP1 := qaa (Blk.new w1 82 (opc m a b c d e T)); clear hb1)
  | (go_at_call 52; (with_reducible refine (Hby.out _).mono ?_); rintro r w2 ⟨rfl, hb2⟩; replace HW := qaa (HW.out.trans (hb2.mono HW.out.size)); have HP2 := qaa (HP1.out.below hb2 HP1.out.lt); clear hb2)
  | (go_at_call 53; (with_reducible refine (Hsp.out _).mono ?_); rintro r w3 ⟨A3, c3, rfl, hc3, hr3, hb3⟩; replace HW := qaa (HW.out.trans (hb3.mono HW.out.size)); have HP3 := qaa (HP2.out.below hb3 HP2.out.lt); have HP4 := qaa (HP3.out); have HR := qaa hr3; have HC3 := qaa hc3; clear hr3; clear hb3))
 have HRd : Hid (Reads w3.drew w3.drew.heap.size 3 A3 q C) := qaa HR.out
 have HWd : Hid (Below w.heap.size w w3.drew) := qaa HW.out.drew
 clear HR HW
 have HR := HRd
 have HW := HWd
 clear HRd HWd
 refine qbC (S := (fun W => Blk W w1.heap.size 82 (opc m a b c d e T))) (by kernel_rfl) (HP4.out.drew) (fun hHeld => ?_)
 refine qal (i := 4) (oi := _) (v := ?_) rfl (by kernel_rfl) (by kernel_rfl) (by kernel_rfl) (fun _ _ _ h => h) (qas ⟨by rfl, ?_⟩) hHeld ?_
 rotate_left
 ·(intro wz hSw; have k0 := hSw.cell 0; have k1 := hSw.cell 1; have k2 := hSw.cell 2; have k3 := hSw.cell 3; have k4 := hSw.cell 4; have k5 := hSw.cell 5; have k6 := hSw.cell 6; simp only [qan, qa0, qaw] at k0 k1 k2 k3 k4 k5 k6; go_simp; try (with_reducible rfl))
 (try dsimp only [List.getElem_toArray, List.getElem_cons_zero, List.getElem_cons_succ]); (try simp only [Act.put, qab, qad, qac])
 refine qal (i := 0) (oi := _) (v := ?_) rfl (by kernel_rfl) (by kernel_rfl) (by kernel_rfl) (fun _ _ _ h => h) (qas ⟨by rfl, ?_⟩) hHeld ?_
 rotate_left
 ·(intro wz hSw; go_simp; try (with_reducible rfl))
 (try dsimp only [List.getElem_toArray, List.getElem_cons_zero, List.getElem_cons_succ]); (try simp only [Act.put, qab, qad, qac])
 refine qal (i := 1) (oi := _) (v := ?_) rfl (by kernel_rfl) (by kernel_rfl) (by kernel_rfl) (fun _ _ _ h => h) (qas ⟨by rfl, ?_⟩) hHeld ?_
 rotate_left
 ·(intro wz hSw; go_simp; try (with_reducible rfl))
 (try dsimp only [List.getElem_toArray, List.getElem_cons_zero, List.getElem_cons_succ]); (try simp only [Act.put, qab, qad, qac])
 refine qal (i := 2) (oi := _) (v := ?_) rfl (by kernel_rfl) (by kernel_rfl) (by kernel_rfl) (fun _ _ _ h => h) (qas ⟨by rfl, ?_⟩) hHeld ?_
 rotate_left
 ·(intro wz hSw; go_simp; try (with_reducible rfl))
 (try dsimp only [List.getElem_toArray, List.getElem_cons_zero, List.getElem_cons_succ]); (try simp only [Act.put, qab, qad, qac])
 refine qaF (rs := [3]) (by kernel_rfl) (by simp) ?_
 refine qa1 (o := _) rfl (fun K hK => ?_) qa9
 go_simp
 go_at_call 48
 (with_reducible refine (Hme.out _ _ _ HR.out).mono ?_)
 rintro r w5 ⟨rfl, hb1⟩
 replace HR := qaa (Reads.on17 HR.out hb1)
 replace HW := qaa (HW.out.trans (hb1.mono HW.out.size))
 refine hK.out _ _ (hHeld.below hb1 hHeld.lt) (fun hH => ?_)
 clear hHeld hK K hb1
 have hHeld := hH
 clear hH
 (try dsimp only [List.getElem_toArray, List.getElem_cons_zero, List.getElem_cons_succ]); (try simp only [Act.put, qab, qad, qac])
 refine qaF (rs := [5]) (by kernel_rfl) (by simp) ?_
 refine qa1 (o := _) rfl (fun K hK => ?_) qa9
 go_simp
 go_at_call 54
 (with_reducible refine (Hpm.out _).mono ?_)
 rintro r w6 ⟨rfl, hb1⟩
 replace HR := qaa (Reads.on17 HR.out hb1)
 replace HW := qaa (HW.out.trans (hb1.mono HW.out.size))
 refine hK.out _ _ (hHeld.below hb1 hHeld.lt) (fun hH => ?_)
 clear hHeld hK K hb1
 have hHeld := hH
 clear hH
 (try dsimp only [List.getElem_toArray, List.getElem_cons_zero, List.getElem_cons_succ]); (try simp only [Act.put, qab, qad, qac])
 refine qal (i := 6) (oi := _) (v := ?_) rfl (by kernel_rfl) (by kernel_rfl) (by kernel_rfl) (fun _ _ _ h => h) (qas ⟨by rfl, ?_⟩) hHeld ?_
 rotate_left
 ·(intro wz hSw; go_simp; try (with_reducible rfl))
 (try dsimp only [List.getElem_toArray, List.getElem_cons_zero, List.getElem_cons_succ]); (try simp only [Act.put, qab, qad, qac])
 refine qbP (by kernel_rfl) ?_ _
 clear hHeld
 go_wp2
 go_ret2
 rw [HF.out]
 exact ybe HW.out
theorem odec_fit (hb : obF U E a = 0) (hq : (yae U).2 = 0) (hf : ofit (a, b, c, d, d + e) (yae U).1 = true) : Calls prog 24 #[.string ⟨s.toArray⟩] w fun e w' => yaP w w' e (yak s) := by
 have Hc := qaa h.cut
 have Hby := qaa h.bytes
 rw [hb] at Hby
 obtain ⟨h1, h2⟩ := odec_fin h hb
 rw [hf, qag (by rw [hq]; decide), qah rfl] at h2
 have HF := qaa h2
 have hsp := fun W => yde U W (by have := h.raw; omega)
 unfold yaP at hsp
 rw [hq] at hsp
 have hne : 0 < (yae U).1.length := by
  have h3 := rforth hq
  rcases qba (yae U).1.length with h4 | h4
  ·rw [qaz.1 h4] at h3
   have h5 : (yas []) = ([], 0) := by decide
   rw [h5] at h3
   injection h3 with h3 _
   have := h.raw
   rw [← h3, List.length_nil] at h1
   omega
  ·exact h4
 have hcnt : (yae U).1.length ≤ 20000 := by
  have h3 := rforth hq
  have h4 : (yas (yae U).1).2 = 0 := by rw [h3]
  have h5 := (yfw (l := (yae U).1) (by omega) h4).1
  have h6 := (yfw (l := (yae U).1) (by omega) h4).2.2.2.1
  rw [h3] at h5
  injection h5 with h5 _
  rw [← h5] at h6
  have := h.raw
  omega
 have Hme := qaa fun A c W hr => yc6 (yae U).1 A (yae U).1.length c (U.length : Int) W rfl (by omega) hne hr
 have Hpm := qaa fun W => ycR m a b c d e T W h.early h.later h.late
 have Hfit : Hid (decide ((U.length : Int) = a ∧ ((yae U).1.length : Int) = b ∧ (yad (yae U).1).1 = c ∧ (yad (yae U).1).2.1 = d ∧ (ya9 (yae U).1).2.1 = d + e) = true) := qaa (by
  rw [← hf]
  unfold ofit
  simp only [h1, true_and])
 have Hsp := qaa hsp
 clear h h1 h2 hb hq hf hsp hne hcnt
 generalize hCe : rcs (yae U).1 = C at *
 generalize hqe : (yae U).1.length = q at *
 have HCe := qaa hCe
 have HQe := qaa hqe
 clear hCe hqe
 generalize (yad (yae U).1).1 = f1 at *
 generalize (yad (yae U).1).2.1 = f2 at *
 generalize (ya9 (yae U).1).2.1 = f3 at *
 have heq := fun W => ygE (U.length : Int) (q : Int) f1 f2 f3 a b c d (d + e) W
 rw [Hfit.out] at heq
 have hgu := ye1
 clear Hfit
 go_enter func24, ntmps24
 go_wp2_with (first
  | (go_at_call 51; (with_reducible refine (Hc.out _).mono ?_); rintro r w1 ⟨rfl, hb1⟩; have HW := qaa (hb1.alloc hb1.size (.cells (opc m a b c d e T) 82)); have HP1 := qaa (Blk.new w1 82 (opc m a b c d e T)); clear hb1)
  | (go_at_call 52; (with_reducible refine (Hby.out _).mono ?_); rintro r w2 ⟨rfl, hb2⟩; replace HW := qaa (HW.out.trans (hb2.mono HW.out.size)); have HP2 := qaa (HP1.out.below hb2 HP1.out.lt); clear hb2)
  | (go_at_call 53; (with_reducible refine (Hsp.out _).mono ?_); rintro r w3 ⟨A3, c3, rfl, hc3, hr3, hb3⟩; replace HW := qaa (HW.out.trans (hb3.mono HW.out.size)); have HP3 := qaa (HP2.out.below hb3 HP2.out.lt); have HP4 := qaa (HP3.out); have HR := qaa hr3; have HC3 := qaa hc3; clear hr3; clear hb3))
 have HRd : Hid (Reads w3.drew w3.drew.heap.size 3 A3 q C) := qaa HR.out
 have HWd : Hid (Below w.heap.size w w3.drew) := qaa HW.out.drew
 clear HR HW
 have HR := HRd
 have HW := HWd
 clear HRd HWd
 refine qbC (S := (fun W => Blk W w1.heap.size 82 (opc m a b c d e T))) (by kernel_rfl) (HP4.out.drew) (fun hHeld => ?_)
 refine qal (i := 4) (oi := _) (v := ?_) rfl (by kernel_rfl) (by kernel_rfl) (by kernel_rfl) (fun _ _ _ h => h) (qas ⟨by rfl, ?_⟩) hHeld ?_
 rotate_left
 ·(intro wz hSw; have k0 := hSw.cell 0; have k1 := hSw.cell 1; have k2 := hSw.cell 2; have k3 := hSw.cell 3; have k4 := hSw.cell 4; have k5 := hSw.cell 5; have k6 := hSw.cell 6; simp only [qan, qa0, qaw] at k0 k1 k2 k3 k4 k5 k6; go_simp; try (with_reducible rfl))
 (try dsimp only [List.getElem_toArray, List.getElem_cons_zero, List.getElem_cons_succ]); (try simp only [Act.put, qab, qad, qac])
 refine qal (i := 0) (oi := _) (v := ?_) rfl (by kernel_rfl) (by kernel_rfl) (by kernel_rfl) (fun _ _ _ h => h) (qas ⟨by rfl, ?_⟩) hHeld ?_
 rotate_left
 ·(intro wz hSw; go_simp; try (with_reducible rfl))
 (try dsimp only [List.getElem_toArray, List.getElem_cons_zero, List.getElem_cons_succ]); (try simp only [Act.put, qab, qad, qac])
 refine qal (i := 1) (oi := _) (v := ?_) rfl (by kernel_rfl) (by kernel_rfl) (by kernel_rfl) (fun _ _ _ h => h) (qas ⟨by rfl, ?_⟩) hHeld ?_
 rotate_left
 ·(intro wz hSw; go_simp; try (with_reducible rfl))
 (try dsimp only [List.getElem_toArray, List.getElem_cons_zero, List.getElem_cons_succ]); (try simp only [Act.put, qab, qad, qac])
 refine qal (i := 2) (oi := _) (v := ?_) rfl (by kernel_rfl) (by kernel_rfl) (by kernel_rfl) (fun _ _ _ h => h) (qas ⟨by rfl, ?_⟩) hHeld ?_
 rotate_left
 ·(intro wz hSw; go_simp; try (with_reducible rfl))
 (try dsimp only [List.getElem_toArray, List.getElem_cons_zero, List.getElem_cons_succ]); (try simp only [Act.put, qab, qad, qac])
 refine qaF (rs := [3]) (by kernel_rfl) (by simp) ?_
 refine qa1 (o := _) rfl (fun K hK => ?_) qa9
 go_simp
 go_at_call 48
 (with_reducible refine (Hme.out _ _ _ HR.out).mono ?_)
 rintro r w5 ⟨rfl, hb1⟩
 replace HR := qaa (Reads.on17 HR.out hb1)
 replace HW := qaa (HW.out.trans (hb1.mono HW.out.size))
 refine hK.out _ _ (hHeld.below hb1 hHeld.lt) (fun hH => ?_)
 clear hHeld hK K hb1
 have hHeld := hH
 clear hH
 (try dsimp only [List.getElem_toArray, List.getElem_cons_zero, List.getElem_cons_succ]); (try simp only [Act.put, qab, qad, qac])
 refine qaF (rs := [5]) (by kernel_rfl) (by simp) ?_
 refine qa1 (o := _) rfl (fun K hK => ?_) qa9
 go_simp
 go_at_call 54
 (with_reducible refine (Hpm.out _).mono ?_)
 rintro r w6 ⟨rfl, hb1⟩
 replace HR := qaa (Reads.on17 HR.out hb1)
 replace HW := qaa (HW.out.trans (hb1.mono HW.out.size))
 refine hK.out _ _ (hHeld.below hb1 hHeld.lt) (fun hH => ?_)
 clear hHeld hK K hb1
 have hHeld := hH
 clear hH
 (try dsimp only [List.getElem_toArray, List.getElem_cons_zero, List.getElem_cons_succ]); (try simp only [Act.put, qab, qad, qac])
 refine qal (i := 6) (oi := _) (v := ?_) rfl (by kernel_rfl) (by kernel_rfl) (by kernel_rfl) (fun _ _ _ h => h) (qas ⟨by rfl, ?_⟩) hHeld ?_
 rotate_left
 ·(intro wz hSw; go_simp; try (with_reducible rfl))
 (try dsimp only [List.getElem_toArray, List.getElem_cons_zero, List.getElem_cons_succ]); (try simp only [Act.put, qab, qad, qac])
 refine qbP (by kernel_rfl) ?_ _
 clear hHeld
 go_wp2
 go_ret2
 rw [HF.out]
 obtain rfl := HQe.out
 obtain rfl := HCe.out
 exact ⟨A3, c3, rfl, HC3.out, HR.out, HW.out⟩
theorem odec_of : Calls prog 24 #[.string ⟨s.toArray⟩] w fun e w' => yaP w w' e (yak s) := by
 by_cases h1 : obF U E a = 0
 ·by_cases h2 : (yae U).2 = 0
  ·cases h3 : ofit (a, b, c, d, d + e) (yae U).1 with
   | true => exact odec_fit w h h1 h2 h3
   | false => exact odec_unfit w h h1 h2 h3
  ·exact odec_split w h h1 h2
 ·exact odec_bytes w h h1
end
section
variable (s : List UInt8) (w : World) (hs : s.length ≤ 1000000)
include hs
theorem p_bdec_of (hU : (s.getD 0 0).toNat = 1 → ∀ W, Calls prog 18 #[.string ⟨(s.drop (opl s 5).toNat).toArray⟩] W fun r w' => yaI W w' r (quF (s.drop (opl s 5).toNat))) :
  Calls prog 24 #[.string ⟨s.toArray⟩] w fun e w' => yaP w w' e (yak s) := by
 by_cases hE : (yaw s).2 ≠ 0
 ·exact odec_peek s w hs hE
 ·obtain ⟨h5, hk, hF⟩ := opeek_ok (qb2.1 hE)
  have hk := ook_is hk
  have h3 := (ono_at (s := s) (k := 3) ((ydA h5).2 3 (by omega)))
  have h4 := (ono_at (s := s) (k := 4) ((ydA h5).2 4 (by omega)))
  refine odec_of w (m := (s.getD 0 0).toNat) (a := ono s 0) (b := ono s 1) (c := ono s 2) (d := ono s 3) (e := ono s 4) (T := s.drop (opl s 5).toNat) (U := (ydY s).1) (E := (ydY s).2) ⟨fun W => ?_, fun W => ?_, ?_, by omega, h3.1, h4.1, hk.2.2.2.2.2.2⟩
  ·have hc := yfg s W hs
   rw [hF] at hc
   unfold ocP at hc
   rw [qah h5] at hc
   exact hc
  ·refine p_obytes_any _ _ _ _ _ _ _ _ _ W ?_
   unfold ydY
   by_cases h1 : (s.getD 0 0).toNat = 1
   ·rw [qah h1]
    exact .inl ⟨by omega, hU h1⟩
   ·rw [qag h1]
    exact .inr ⟨by omega, rfl, rfl⟩
  ·unfold yak
   rw [hF]
   dsimp only
   rw [qag (by decide)]
theorem p_bdec0_any (h : (s.getD 0 0).toNat ≠ 1) :
  Calls prog 24 #[.string ⟨s.toArray⟩] w fun e w' => yaP w w' e (yak s) := p_bdec_of s w hs (fun e => absurd e h)
end
end Go.Proofs.YtanjhbkbpalnaaaGreat
