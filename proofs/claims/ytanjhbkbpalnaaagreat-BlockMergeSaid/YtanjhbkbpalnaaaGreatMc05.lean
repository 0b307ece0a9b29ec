/-
 What the law of the last of these texts stands on, part 5.
-/
import Derived.Test.YtanjhbkbpalnaaaGreatMc01
import Derived.Shelf.Spec.SlicesGrow
set_option maxRecDepth 100000
set_option maxHeartbeats 8000000
open Go.Proofs.Tryz
namespace Go.Proofs.YtanjhbkbpalnaaaGreat
set_option linter.unusedSimpArgs false
set_option linter.unusedVariables false
open Go.ChangeShapes Go.WideShapes Go.ChangeAt Go.RowKit Go.Joins Go.Deep
structure CSrc where
 A : Option Addr
 n : Nat
 c : Nat
 xs : List Value
def CSum (l : List CSrc) : Nat := (l.map (·.n)).sum
def CAll (l : List CSrc) : List Value := (l.map (·.xs)).flatten
def CRow (W : World) (A : Option Addr) (l : List CSrc) : Prop := 0 < l.length → ∃ b off, A = some ⟨b, off, none⟩ ∧ b < W.heap.size ∧ ∀ i (h : i < l.length), W.cell? ⟨b, off + i, none⟩ = some (.slice l[i].A l[i].n l[i].c)
theorem CSum_step (l : List CSrc) (i : Nat) (h : i < l.length) : CSum (l.take (i + 1)) = CSum (l.take i) + l[i].n := by
 unfold CSum
 rw [qap h, qc3, List.sum_append_nat]
 rfl
theorem CAll_step (l : List CSrc) (i : Nat) (h : i < l.length) : CAll (l.take (i + 1)) = CAll (l.take i) ++ l[i].xs := by
 unfold CAll
 rw [qap h, qc3, List.flatten_append]
 show _ ++ (l[i].xs ++ []) = _
 rw [qa8]
theorem CSum_take (l : List CSrc) (i : Nat) : CSum (l.take i) ≤ CSum l := by
 have h : CSum l = CSum (l.take i) + CSum (l.drop i) := by
  unfold CSum
  rw [← List.sum_append_nat, ← qc3, qax]
 omega
theorem ybw (z : Array Value) (n : Nat) : (Builtin.zeroCells z n).size = n * z.size := by
 unfold Builtin.zeroCells
 simp [qbO]
theorem yej {w w' : World} {base n size : Nat} {e : TypeId} {v : Value} {xs : List Value} (h : w.ownsRow base e size v n xs) (hg : w.grownBy w' v.ownBlock) (hb : base ≤ w.heap.size) : Below base w w' := by
 refine ⟨hg.os, hg.tape, hg.output, hg.size, fun i hi => hg.block i (by omega) ?_⟩
 rcases h.2 with ⟨rfl, _⟩ | ⟨g, cap, cur, rfl, hbg, _⟩
 ·intro e; cases e
 ·intro e
  injection e with e
  have e' : i = g := e
  omega
end Go.Proofs.YtanjhbkbpalnaaaGreat
namespace Go.Proofs.YtanjhbkbpalnaaaGreat
set_option linter.unusedSimpArgs false
set_option linter.unusedVariables false
open Go.ChangeShapes Go.WideShapes Go.ChangeAt Go.RowKit Go.Joins Go.Deep Go.Shelf
def tcatRen : Ren := ⟨fun _ => 199, fun t => if t = 22 then 185 else if t = 25 then 190 else if t = 20 then 20 else if t = 9 then 9 else t, fun g => g⟩
theorem tcatLays : Lays8.n4 prog tcatRen where
 mixed := by kernel_rfl
 f4 := ⟨Tryz.f199.name, by kernel_rfl, func199.trans (by kernel_rfl)⟩
 t0 := by kernel_rfl
 a0 := isAgg0
 z0 := sizeOf0
 v0 := zeroValue0
 t3 := by kernel_rfl
 a3 := isAgg3
 z3 := sizeOf3
 v3 := zeroValue3
 t4 := by kernel_rfl
 a4 := isAgg4
 z4 := sizeOf4
 v4 := zeroValue4
 t9 := by kernel_rfl
 a9 := isAgg9
 z9 := sizeOf9
 v9 := zeroValue9
 t20 := by kernel_rfl
 a20 := isAgg20
 z20 := sizeOf20
 v20 := zeroValue20
 t22 := by kernel_rfl
 a22 := isAgg185
 z22 := sizeOf185
 v22 := zeroValue185
theorem tcat_info : (prog.info? 190).map (fun i => (i.zero, i.size, i.bytes)) = some (some (.agg #[.int .i64 0, .slice none 0 0]), 2, 32) := by kernel_rfl
theorem tgrow_any (n : Nat) (w : World) (hn : n ≤ 1000000) :
  Calls prog 199 #[.slice none 0 0, .int .i64 n] w fun e w' => ∃ A' c', e = .returned (.slice A' 0 c') ∧ w'.ownsRow w.heap.size 190 2 (.slice A' 0 c') 0 [] ∧ Below w.heap.size w w' := by
 rcases qba n with e | e
 ·subst e
  refine (Any8.slices_Grow_room tcatLays none 0 0 0 w (by omega) (by omega) (by omega) (by omega)).mono ?_
  rintro e w' ⟨rfl, rfl⟩
  exact ⟨none, 0, rfl, ⟨rfl, qas ⟨rfl, rfl⟩⟩, qam _ _⟩
 ·obtain ⟨i0, hi, hz0, hz1, hz2⟩ : ∃ i0, prog.info? 190 = some i0 ∧ i0.zero = some (.agg #[.int .i64 0, .slice none 0 0]) ∧ i0.size = 2 ∧ i0.bytes = 32 := by
   have h := tcat_info
   cases hi : prog.info? 190 with
   | none => rw [hi] at h; cases h
   | some i0 =>
    rw [hi] at h
    simp only [qbN, qcg, qb3] at h
    exact ⟨i0, rfl, h.1, h.2.1, h.2.2⟩
  refine (Any8.slices_Grow_grow tcatLays i0 _ hi hz0 (by rw [hz1]; decide) none 0 0 n [] w (by omega) (by omega) (by rw [hz2]; omega) (by omega) (by simp) (fun _ => rfl) (fun a h => by cases h)).mono ?_
  rintro e w' ⟨rfl, rfl⟩
  have hG := grownCap_ge w (0 + n) 0 (tcatRen.t 25)
  have hG2 := grownCap_le_maxLen w (0 + n) 0 (tcatRen.t 25) (by unfold maxLen; omega)
  generalize grownCap w (0 + n) 0 (tcatRen.t 25) = G at *
  refine ⟨_, _, rfl, ⟨rfl, qaK ⟨w.heap.size, G, _, rfl, qaf _, heap_alloc_new _ _, by omega, hG2, ?_, by simp⟩⟩, (qam _ _).drew.alloc (qaf _) _⟩
  rw [Array.size_append, Array.size_append, ybw, ybw]
  simp only [qaA, List.length_nil, qaL, Nat.sub_zero]
  rw [← qcy, show n + (G - n) = G from by omega]
  rfl
theorem tcat_any (l : List CSrc) (AL : Option Addr) (K c : Nat) (w : World) (hK : l.length = K) (hsum : CSum l ≤ 1000000) (hKb : K ≤ 1000000) (hrow : CRow w AL l)
  (hsrc : ∀ s ∈ l, Reads w w.heap.size 2 s.A s.n s.xs ∧ ∀ u ∈ s.xs, u.oneCell' = true) :
  Calls prog 182 #[.slice AL K c] w fun e w' => ∃ A' c', e = .returned (.slice A' (CSum l) c') ∧ w'.ownsRow w.heap.size 190 2 (.slice A' (CSum l) c') (CSum l) (CAll l) ∧ Below w.heap.size w w' := by
 obtain ⟨i0, hi, hz0, hz1, hz2⟩ : ∃ i0, prog.info? 190 = some i0 ∧ i0.zero = some (.agg #[.int .i64 0, .slice none 0 0]) ∧ i0.size = 2 ∧ i0.bytes = 32 := by
  have h := tcat_info
  cases hi : prog.info? 190 with
  | none => rw [hi] at h; cases h
  | some i0 =>
   rw [hi] at h
   simp only [qbN, qcg, qb3] at h
   exact ⟨i0, rfl, h.1, h.2.1, h.2.2⟩
 have Hk := qaa hK
 have Hrow : Hid (0 < K → ∃ b off, AL = some ⟨b, off, none⟩ ∧ ∀ wr, Below w.heap.size w wr → ∀ i (h : i < l.length), wr.cell? ⟨b, off + i, none⟩ = some (.slice l[i].A l[i].n l[i].c)) := qaa fun h => by
  obtain ⟨b, off, e, hb, hc⟩ := hrow (by omega)
  exact ⟨b, off, e, fun wr hw i hi => (hw.cell (p := ⟨b, off + i, none⟩) hb).trans (hc i hi)⟩
 have Hsrc : Hid (∀ i (h : i < l.length) wr, Below w.heap.size w wr → Reads wr w.heap.size 2 l[i].A l[i].n l[i].xs ∧ (∀ u ∈ l[i].xs, u.oneCell' = true)) := qaa fun i h wr hw => ⟨(hsrc _ (qaq h)).1.below hw, (hsrc _ (qaq h)).2⟩
 have Hstep : Hid (∀ i (h : i < l.length), CSum (l.take (i + 1)) = CSum (l.take i) + l[i].n ∧ CAll (l.take (i + 1)) = CAll (l.take i) ++ l[i].xs ∧ CSum (l.take i) + l[i].n ≤ 1000000) := qaa fun i h => by
  have h1 := CSum_step l i h
  have h2 := CSum_take l (i + 1)
  exact ⟨h1, CAll_step l i h, by omega⟩
 have Hend : Hid (CSum (l.take K) = CSum l ∧ CAll (l.take K) = CAll l) := qaa (by rw [← hK, qbQ]; exact ⟨rfl, rfl⟩)
 have Hz : Hid (CSum (l.take 0) = 0 ∧ CAll (l.take 0) = []) := qaa ⟨rfl, rfl⟩
 have hKi : (K : Int) ≤ 1000000 := by omega
 have hsi : (CSum l : Int) ≤ 1000000 := by omega
 have Hgrow := fun W => tgrow_any (CSum l) W hsum
 clear hrow hsrc hK
 obtain ⟨T, hT⟩ : ∃ T, CSum l = T := ⟨_, rfl⟩
 obtain ⟨V, hV⟩ : ∃ V, CAll l = V := ⟨_, rfl⟩
 rw [hT, hV] at Hend
 rw [hT] at Hgrow hsi hsum ⊢
 rw [hV]
 have HG := qaa Hgrow
 clear Hgrow hT hV
 go_enter func182, ntmps182
 go_wp2
 go_loopw [3, 5, 11] (fun v s i wr => ∃ k : Nat, k ≤ K ∧ v = .int .i64 (CSum (l.take k) : Nat) ∧ i = .int .i64 k ∧ Hid (CSum (l.take k) ≤ 1000000) ∧ Hid (wr = w)) (fun _ _ i _ => K - (intOf i).toNat)
 case atStart => exact ⟨0, by omega, by rw [Hz.out.1]; rfl, rfl, by rw [Hz.out.1]; exact qaa (by omega), rfl⟩
 case round =>
  obtain ⟨k, hk, rfl, rfl, Hs, Hw⟩ := hrel
  by_cases hlt : k < K
  ·have hki : (0 : Int) ≤ (k : Int) ∧ (k : Int) < (K : Int) := by omega
   have hkl : k < l.length := by rw [Hk.out]; exact hlt
   obtain ⟨b, off, rfl, hcell⟩ := Hrow.out (by omega)
   have hx := hcell wr (by rw [Hw.out]; exact qam _ _) k hkl
   obtain ⟨e1, _, e3⟩ := Hstep.out k hkl
   have Hn : Hid (((CSum (l.take k) : Nat) : Int) + (l[k].n : Int) = ((CSum (l.take (k + 1)) : Nat) : Int)) := qaa (by rw [e1]; omega)
   have Hs2 : Hid (CSum (l.take (k + 1)) ≤ 1000000) := qaa (by rw [e1]; exact e3)
   clear hcell e1
   obtain ⟨S2, hS2⟩ : ∃ S2, CSum (l.take (k + 1)) = S2 := ⟨_, rfl⟩
   have HE : Hid (CSum (l.take (k + 1)) = S2) := hS2
   rw [hS2] at Hn Hs2
   clear hS2
   generalize CSum (l.take k) = S1 at *
   generalize l[k] = x at *
   have hb1 : (S1 : Int) + (x.n : Int) ≤ 1000000 := by omega
   have hb2 : ¬ (S1 : Int) + (x.n : Int) < 0 := by omega
   go_wp2
   go_roundw
   case rel => exact ⟨k + 1, by omega, by rw [HE.out]; exact iv Hn.out, iv (by omega), by rw [HE.out]; exact Hs2, Hw⟩
   case measure => simp only [intOf]; omega
  ·obtain rfl : k = K := by omega
   rw [Hend.out.1]
   have hw : w = wr := Hw.out.symm
   subst hw
   clear Hs Hw
   go_wp2_with (go_at_call 199; refine (HG.out _).mono ?_; rintro e w1 ⟨A1, c1, rfl, hO1, hB1⟩; have HO1 := qaa hO1; have HB1 := qaa hB1; clear hO1 hB1)
   go_loopw [6, 8, 27] (fun v s i W => ∃ (k2 c2 : Nat) (A2 : Option Addr), k2 ≤ k ∧ v = .slice A2 (CSum (l.take k2)) c2 ∧ i = .int .i64 k2 ∧ Hid (W.ownsRow w.heap.size 190 2 (.slice A2 (CSum (l.take k2)) c2) (CSum (l.take k2)) (CAll (l.take k2))) ∧ Hid (Below w.heap.size w W)) (fun _ _ i _ => k - (intOf i).toNat)
   case atStart => exact ⟨0, c1, A1, by omega, by rw [Hz.out.1], rfl, by rw [Hz.out.1, Hz.out.2]; exact HO1, HB1⟩
   case round =>
    obtain ⟨k2, c2, A2, hk2, rfl, rfl, HO, HB⟩ := hrel
    clear HO1 HB1 HG
    by_cases hlt2 : k2 < k
    ·have hki : (0 : Int) ≤ (k2 : Int) ∧ (k2 : Int) < (k : Int) := by omega
     have hkl : k2 < l.length := by rw [Hk.out]; exact hlt2
     obtain ⟨b, off, rfl, hcell⟩ := Hrow.out (by omega)
     obtain ⟨hr, h1⟩ := Hsrc.out k2 hkl _ HB.out
     obtain ⟨e1, e2, e3⟩ := Hstep.out k2 hkl
     have hx := hcell _ HB.out k2 hkl
     have Hr := qaa hr
     have H1 := qaa h1
     have HS : Hid (CSum (l.take k2) + l[k2].n = CSum (l.take (k2 + 1))) := qaa e1.symm
     have HV : Hid (CAll (l.take k2) ++ l[k2].xs = CAll (l.take (k2 + 1))) := qaa e2.symm
     have HS1 : Hid (CSum (l.take k2) + l[k2].n ≤ 1000000) := qaa e3
     clear hcell hr h1 e1 e2 e3
     obtain ⟨S2, hS2⟩ : ∃ S2, CSum (l.take (k2 + 1)) = S2 := ⟨_, rfl⟩
     obtain ⟨V2, hV2⟩ : ∃ V2, CAll (l.take (k2 + 1)) = V2 := ⟨_, rfl⟩
     have HE : Hid (CSum (l.take (k2 + 1)) = S2) := hS2
     have HE2 : Hid (CAll (l.take (k2 + 1)) = V2) := hV2
     rw [hS2] at HS
     rw [hV2] at HV
     clear hS2 hV2
     generalize CSum (l.take k2) = S1 at *
     generalize CAll (l.take k2) = V1 at *
     generalize l[k2] = x at *
     go_wp2_with (at_builtin; refine yan _ rfl _ _ 185 rfl _ 190 i0 (.agg #[.int .i64 0, .slice none 0 0]) 2 32 underlying185 hi hz0 hz1 hz2 rfl (by decide) _ _ _ rfl HO.out _ x.n x.c _ _ rfl Hr.out ?c1 ?c2 ?c3 ?c4 ?_)
     case c1 => exact H1.out
     case c2 => simp only [maxLen]; have := HS1.out; omega
     case c3 => have := HS1.out; omega
     case c4 => exact HB.out.size
     intro v' w' hO2 hg2 hsep
     obtain ⟨A3, c3, rfl, _, _⟩ := yag hO2
     rw [HS.out, HV.out] at hO2
     have HB2 : Hid (Below w.heap.size w w') := qaa (HB.out.trans (yej HO.out hg2 HB.out.size))
     have HO2 := qaa hO2
     have HSi : Hid (((S1 : Nat) : Int) + (x.n : Int) = (S2 : Int)) := qaa (by have := HS.out; omega)
     have hss := HS.out
     subst hss
     clear hO2 hg2 hsep HO HB Hr H1
     go_wp2
     go_roundw
     case rel => exact ⟨k2 + 1, c3, A3, by omega, by rw [HE.out], iv (by omega), by rw [HE.out, HE2.out]; exact HO2, HB2⟩
     case measure => simp only [intOf]; omega
    ·obtain rfl : k2 = k := by omega
     rw [Hend.out.1, Hend.out.2] at HO
     rw [Hend.out.1]
     go_wp2
     go_ret
     exact ⟨A2, c2, rfl, HO.out, HB.out⟩
def icatRen : Ren := ⟨fun _ => 210, fun t => if t = 22 then 28 else if t = 25 then 3 else if t = 20 then 20 else if t = 9 then 9 else t, fun g => g⟩
theorem icatLays : Lays8.n4 prog icatRen where
 mixed := by kernel_rfl
 f4 := ⟨Tryz.f210.name, by kernel_rfl, func210.trans (by kernel_rfl)⟩
 t0 := by kernel_rfl
 a0 := isAgg0
 z0 := sizeOf0
 v0 := zeroValue0
 t3 := by kernel_rfl
 a3 := isAgg3
 z3 := sizeOf3
 v3 := zeroValue3
 t4 := by kernel_rfl
 a4 := isAgg4
 z4 := sizeOf4
 v4 := zeroValue4
 t9 := by kernel_rfl
 a9 := isAgg9
 z9 := sizeOf9
 v9 := zeroValue9
 t20 := by kernel_rfl
 a20 := isAgg20
 z20 := sizeOf20
 v20 := zeroValue20
 t22 := by kernel_rfl
 a22 := isAgg28
 z22 := sizeOf28
 v22 := zeroValue28
theorem icat_info : (prog.info? 3).map (fun i => (i.zero, i.size, i.bytes)) = some (some (.int .i64 0), 1, 8) := by kernel_rfl
theorem igrow_any (n : Nat) (w : World) (hn : n ≤ 1000000) :
  Calls prog 210 #[.slice none 0 0, .int .i64 n] w fun e w' => ∃ A' c', e = .returned (.slice A' 0 c') ∧ w'.ownsRow w.heap.size 3 1 (.slice A' 0 c') 0 [] ∧ Below w.heap.size w w' := by
 rcases qba n with e | e
 ·subst e
  refine (Any8.slices_Grow_room icatLays none 0 0 0 w (by omega) (by omega) (by omega) (by omega)).mono ?_
  rintro e w' ⟨rfl, rfl⟩
  exact ⟨none, 0, rfl, ⟨rfl, qas ⟨rfl, rfl⟩⟩, qam _ _⟩
 ·obtain ⟨i0, hi, hz0, hz1, hz2⟩ : ∃ i0, prog.info? 3 = some i0 ∧ i0.zero = some (.int .i64 0) ∧ i0.size = 1 ∧ i0.bytes = 8 := by
   have h := icat_info
   cases hi : prog.info? 3 with
   | none => rw [hi] at h; cases h
   | some i0 =>
    rw [hi] at h
    simp only [qbN, qcg, qb3] at h
    exact ⟨i0, rfl, h.1, h.2.1, h.2.2⟩
  refine (Any8.slices_Grow_grow icatLays i0 _ hi hz0 (by rw [hz1]; decide) none 0 0 n [] w (by omega) (by omega) (by rw [hz2]; omega) (by omega) (by simp) (fun _ => rfl) (fun a h => by cases h)).mono ?_
  rintro e w' ⟨rfl, rfl⟩
  have hG := grownCap_ge w (0 + n) 0 (icatRen.t 25)
  have hG2 := grownCap_le_maxLen w (0 + n) 0 (icatRen.t 25) (by unfold maxLen; omega)
  generalize grownCap w (0 + n) 0 (icatRen.t 25) = G at *
  refine ⟨_, _, rfl, ⟨rfl, qaK ⟨w.heap.size, G, _, rfl, qaf _, heap_alloc_new _ _, by omega, hG2, ?_, by simp⟩⟩, (qam _ _).drew.alloc (qaf _) _⟩
  rw [Array.size_append, Array.size_append, ybw, ybw]
  simp only [qaA, List.length_nil, qaL, Nat.sub_zero]
  rw [← qcy, show n + (G - n) = G from by omega]
  rfl
theorem icat_any (l : List CSrc) (AL : Option Addr) (K c : Nat) (w : World) (hK : l.length = K) (hsum : CSum l ≤ 1000000) (hKb : K ≤ 1000000) (hrow : CRow w AL l)
  (hsrc : ∀ s ∈ l, Reads w w.heap.size 1 s.A s.n s.xs ∧ ∀ u ∈ s.xs, u.oneCell' = true) :
  Calls prog 208 #[.slice AL K c] w fun e w' => ∃ A' c', e = .returned (.slice A' (CSum l) c') ∧ w'.ownsRow w.heap.size 3 1 (.slice A' (CSum l) c') (CSum l) (CAll l) ∧ Below w.heap.size w w' := by
 obtain ⟨i0, hi, hz0, hz1, hz2⟩ : ∃ i0, prog.info? 3 = some i0 ∧ i0.zero = some (.int .i64 0) ∧ i0.size = 1 ∧ i0.bytes = 8 := by
  have h := icat_info
  cases hi : prog.info? 3 with
  | none => rw [hi] at h; cases h
  | some i0 =>
   rw [hi] at h
   simp only [qbN, qcg, qb3] at h
   exact ⟨i0, rfl, h.1, h.2.1, h.2.2⟩
 have Hk := qaa hK
 have Hrow : Hid (0 < K → ∃ b off, AL = some ⟨b, off, none⟩ ∧ ∀ wr, Below w.heap.size w wr → ∀ i (h : i < l.length), wr.cell? ⟨b, off + i, none⟩ = some (.slice l[i].A l[i].n l[i].c)) := qaa fun h => by
  obtain ⟨b, off, e, hb, hc⟩ := hrow (by omega)
  exact ⟨b, off, e, fun wr hw i hi => (hw.cell (p := ⟨b, off + i, none⟩) hb).trans (hc i hi)⟩
 have Hsrc : Hid (∀ i (h : i < l.length) wr, Below w.heap.size w wr → Reads wr w.heap.size 1 l[i].A l[i].n l[i].xs ∧ (∀ u ∈ l[i].xs, u.oneCell' = true)) := qaa fun i h wr hw => ⟨(hsrc _ (qaq h)).1.below hw, (hsrc _ (qaq h)).2⟩
 have Hstep : Hid (∀ i (h : i < l.length), CSum (l.take (i + 1)) = CSum (l.take i) + l[i].n ∧ CAll (l.take (i + 1)) = CAll (l.take i) ++ l[i].xs ∧ CSum (l.take i) + l[i].n ≤ 1000000) := qaa fun i h => by
  have h1 := CSum_step l i h
  have h2 := CSum_take l (i + 1)
  exact ⟨h1, CAll_step l i h, by omega⟩
 have Hend : Hid (CSum (l.take K) = CSum l ∧ CAll (l.take K) = CAll l) := qaa (by rw [← hK, qbQ]; exact ⟨rfl, rfl⟩)
 have Hz : Hid (CSum (l.take 0) = 0 ∧ CAll (l.take 0) = []) := qaa ⟨rfl, rfl⟩
 have hKi : (K : Int) ≤ 1000000 := by omega
 have hsi : (CSum l : Int) ≤ 1000000 := by omega
 have Hgrow := fun W => igrow_any (CSum l) W hsum
 clear hrow hsrc hK
 obtain ⟨T, hT⟩ : ∃ T, CSum l = T := ⟨_, rfl⟩
 obtain ⟨V, hV⟩ : ∃ V, CAll l = V := ⟨_, rfl⟩
 rw [hT, hV] at Hend
 rw [hT] at Hgrow hsi hsum ⊢
 rw [hV]
 have HG := qaa Hgrow
 clear Hgrow hT hV
 go_enter func208, ntmps208
 go_wp2
 go_loopw [3, 5, 11] (fun v s i wr => ∃ k : Nat, k ≤ K ∧ v = .int .i64 (CSum (l.take k) : Nat) ∧ i = .int .i64 k ∧ Hid (CSum (l.take k) ≤ 1000000) ∧ Hid (wr = w)) (fun _ _ i _ => K - (intOf i).toNat)
 case atStart => exact ⟨0, by omega, by rw [Hz.out.1]; rfl, rfl, by rw [Hz.out.1]; exact qaa (by omega), rfl⟩
 case round =>
  obtain ⟨k, hk, rfl, rfl, Hs, Hw⟩ := hrel
  by_cases hlt : k < K
  ·have hki : (0 : Int) ≤ (k : Int) ∧ (k : Int) < (K : Int) := by omega
   have hkl : k < l.length := by rw [Hk.out]; exact hlt
   obtain ⟨b, off, rfl, hcell⟩ := Hrow.out (by omega)
   have hx := hcell wr (by rw [Hw.out]; exact qam _ _) k hkl
   obtain ⟨e1, _, e3⟩ := Hstep.out k hkl
   have Hn : Hid (((CSum (l.take k) : Nat) : Int) + (l[k].n : Int) = ((CSum (l.take (k + 1)) : Nat) : Int)) := qaa (by rw [e1]; omega)
   have Hs2 : Hid (CSum (l.take (k + 1)) ≤ 1000000) := qaa (by rw [e1]; exact e3)
   clear hcell e1
   obtain ⟨S2, hS2⟩ : ∃ S2, CSum (l.take (k + 1)) = S2 := ⟨_, rfl⟩
   have HE : Hid (CSum (l.take (k + 1)) = S2) := hS2
   rw [hS2] at Hn Hs2
   clear hS2
   generalize CSum (l.take k) = S1 at *
   generalize l[k] = x at *
   have hb1 : (S1 : Int) + (x.n : Int) ≤ 1000000 := by omega
   have hb2 : ¬ (S1 : Int) + (x.n : Int) < 0 := by omega
   go_wp2
   go_roundw
   case rel => exact ⟨k + 1, by omega, by rw [HE.out]; exact iv Hn.out, iv (by omega), by rw [HE.out]; exact Hs2, Hw⟩
   case measure => simp only [intOf]; omega
  ·obtain rfl : k = K := by omega
   rw [Hend.out.1]
   have hw : w = wr := Hw.out.symm
   subst hw
   clear Hs Hw
   go_wp2_with (go_at_call 210; refine (HG.out _).mono ?_; rintro e w1 ⟨A1, c1, rfl, hO1, hB1⟩; have HO1 := qaa hO1; have HB1 := qaa hB1; clear hO1 hB1)
   go_loopw [6, 8, 27] (fun v s i W => ∃ (k2 c2 : Nat) (A2 : Option Addr), k2 ≤ k ∧ v = .slice A2 (CSum (l.take k2)) c2 ∧ i = .int .i64 k2 ∧ Hid (W.ownsRow w.heap.size 3 1 (.slice A2 (CSum (l.take k2)) c2) (CSum (l.take k2)) (CAll (l.take k2))) ∧ Hid (Below w.heap.size w W)) (fun _ _ i _ => k - (intOf i).toNat)
   case atStart => exact ⟨0, c1, A1, by omega, by rw [Hz.out.1], rfl, by rw [Hz.out.1, Hz.out.2]; exact HO1, HB1⟩
   case round =>
    obtain ⟨k2, c2, A2, hk2, rfl, rfl, HO, HB⟩ := hrel
    clear HO1 HB1 HG
    by_cases hlt2 : k2 < k
    ·have hki : (0 : Int) ≤ (k2 : Int) ∧ (k2 : Int) < (k : Int) := by omega
     have hkl : k2 < l.length := by rw [Hk.out]; exact hlt2
     obtain ⟨b, off, rfl, hcell⟩ := Hrow.out (by omega)
     obtain ⟨hr, h1⟩ := Hsrc.out k2 hkl _ HB.out
     obtain ⟨e1, e2, e3⟩ := Hstep.out k2 hkl
     have hx := hcell _ HB.out k2 hkl
     have Hr := qaa hr
     have H1 := qaa h1
     have HS : Hid (CSum (l.take k2) + l[k2].n = CSum (l.take (k2 + 1))) := qaa e1.symm
     have HV : Hid (CAll (l.take k2) ++ l[k2].xs = CAll (l.take (k2 + 1))) := qaa e2.symm
     have HS1 : Hid (CSum (l.take k2) + l[k2].n ≤ 1000000) := qaa e3
     clear hcell hr h1 e1 e2 e3
     obtain ⟨S2, hS2⟩ : ∃ S2, CSum (l.take (k2 + 1)) = S2 := ⟨_, rfl⟩
     obtain ⟨V2, hV2⟩ : ∃ V2, CAll (l.take (k2 + 1)) = V2 := ⟨_, rfl⟩
     have HE : Hid (CSum (l.take (k2 + 1)) = S2) := hS2
     have HE2 : Hid (CAll (l.take (k2 + 1)) = V2) := hV2
     rw [hS2] at HS
     rw [hV2] at HV
     clear hS2 hV2
     generalize CSum (l.take k2) = S1 at *
     generalize CAll (l.take k2) = V1 at *
     generalize l[k2] = x at *
     go_wp2_with (at_builtin; refine yan _ rfl _ _ 28 rfl _ 3 i0 (.int .i64 0) 1 8 underlying28 hi hz0 hz1 hz2 rfl (by decide) _ _ _ rfl HO.out _ x.n x.c _ _ rfl Hr.out ?c1 ?c2 ?c3 ?c4 ?_)
     case c1 => exact H1.out
     case c2 => simp only [maxLen]; have := HS1.out; omega
     case c3 => have := HS1.out; omega
     case c4 => exact HB.out.size
     intro v' w' hO2 hg2 hsep
     obtain ⟨A3, c3, rfl, _, _⟩ := yag hO2
     rw [HS.out, HV.out] at hO2
     have HB2 : Hid (Below w.heap.size w w') := qaa (HB.out.trans (yej HO.out hg2 HB.out.size))
     have HO2 := qaa hO2
     have HSi : Hid (((S1 : Nat) : Int) + (x.n : Int) = (S2 : Int)) := qaa (by have := HS.out; omega)
     have hss := HS.out
     subst hss
     clear hO2 hg2 hsep HO HB Hr H1
     go_wp2
     go_roundw
     case rel => exact ⟨k2 + 1, c3, A3, by omega, by rw [HE.out], iv (by omega), by rw [HE.out, HE2.out]; exact HO2, HB2⟩
     case measure => simp only [intOf]; omega
    ·obtain rfl : k2 = k := by omega
     rw [Hend.out.1, Hend.out.2] at HO
     rw [Hend.out.1]
     go_wp2
     go_ret
     exact ⟨A2, c2, rfl, HO.out, HB.out⟩
end Go.Proofs.YtanjhbkbpalnaaaGreat
