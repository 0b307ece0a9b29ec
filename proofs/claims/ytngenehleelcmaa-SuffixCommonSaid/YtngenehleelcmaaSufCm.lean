/-
  Layer 12: the program's Common, for every argument.
-/
import Derived.Test.YtngenehleelcmaaSufCl
import Derived.Test.YtngenehleelcmaaSufE
import Derived.Test.YtngenehleelcmaaSufV
import Derived.Deep.LoopGhost
namespace Go.Proofs.Ytngenehleelcmaa
set_option linter.unusedSimpArgs false
set_option linter.unusedVariables false
open Go.ChangeShapes Go.WideShapes Go.ChangeAt Go.RowKit Go.Joins Go.Deep Go.Shelf
attribute [local go_sem] Oper.semAt_some

/-- What the levels' loop has at its head. -/
def CRel (B : Nat) (w1 wr : World) (s : List UInt8) (gk L : Nat) (Av : Option Addr) (cv gx : Nat) : Prop :=
  ∃ gs kds row kd A c g, gs.length = L ∧ s.length + 1 ≤ gk + 2 ^ L ∧ LVS wr s gs kds ∧ wr.ownsRow B 22 1 (.slice Av L cv) L (lvv (s.length + 1) gs) ∧ XH wr s gx (2 ^ L) row kd A c g ∧ (∀ ad, A = some ad → (Value.slice Av L cv).ownBlock ≠ some ad.block) ∧ Below B w1 wr ∧ ∀ p, p < L → 2 ^ p < s.length

/-- One level more: behind the append, the new variable and next. -/
theorem crel_next {B : Nat} {w1 w3 w5 : World} {s : List UInt8} {gk L h : Nat} {Av : Option Addr} {cv : Nat} {gs : List Nat} {kds : List (Nat → Nat)} {A5 : Option Addr} {c5 g5 : Nat} {row5 : List Nat} {kd5 : Nat → Nat} {x y z : Value} {o : Obj}
    (hgs : gs.length = L + 1) (hlv : LVS w3 s gs kds) (hown : w3.ownsRow B 22 1 (.slice Av (L + 1) cv) (L + 1) (lvv (s.length + 1) gs)) (hB : Below B w1 w3) (hBs : B ≤ w1.heap.size) (ho : o = .cells #[x, y, z] 48)
    (hh : h = 2 ^ L) (hlt : h < s.length) (hlp : ∀ p, p < L → 2 ^ p < s.length) (hgk : s.length + 1 ≤ gk + 2 ^ L) (hE : EH w5 s (h + h) row5 kd5 A5 c5 g5) (hN : EF (w3.alloc o).heap.size A5 g5) (hb5 : Below (w3.alloc o).heap.size (w3.alloc o) w5) :
    CRel B w1 (((w5.setCell ⟨w3.heap.size, 0, none⟩ (.slice A5 (s.length + 1) c5)).setCell ⟨w3.heap.size, 1, none⟩ (.slice (some ⟨g5, 0, none⟩) (s.length + 1) (s.length + 1))).setCell ⟨w3.heap.size, 2, none⟩ (.int .i64 ((h + h : Nat) : Int))) s (gk - 1) (L + 1) Av cv w3.heap.size := by
  subst ho
  have hX5 : Blk w5 w3.heap.size 48 #[x, y, z] := (Blk.new w3 _ _).below hb5 (by simp)
  have hsz : (w3.alloc (.cells #[x, y, z] 48)).heap.size = w3.heap.size + 1 := by simp
  have h1 : 1 ≤ 2 ^ L := Nat.one_le_two_pow
  have e2 : h + h = 2 ^ (L + 1) := by rw [hh, Nat.pow_succ]; omega
  have hO4 := hown.alloc (.cells #[x, y, z] 48)
  have hO5 := owns_below hO4 hb5 (Nat.le_refl _)
  have hB1 := hB.size
  have hB4 : Below B w1 (w3.alloc (.cells #[x, y, z] 48)) := hB.alloc (by omega) _
  have hB5 : Below B w1 w5 := hB4.trans (hb5.mono (by rw [hsz]; omega))
  refine ⟨gs, kds, row5, kd5, A5, c5, g5, hgs, by rw [Nat.pow_succ]; omega, ?_, ?_, ?_, fun ad e => ?_, ⟨((hB5.setCell (p := ⟨w3.heap.size, 0, none⟩) (by show B ≤ w3.heap.size; omega) _).setCell (p := ⟨w3.heap.size, 1, none⟩) (by show B ≤ w3.heap.size; omega) _).setCell (p := ⟨w3.heap.size, 2, none⟩) (by show B ≤ w3.heap.size; omega) _, fun p hp => ?_⟩⟩
  · refine ((hlv.below ((Below.refl _ _).alloc (Nat.le_refl _) _)).below hb5).keep fun g cs hg => ?_
    have hne := s_blk_ne hg hX5 (by decide)
    exact ((hg.far (p := ⟨w3.heap.size, 0, none⟩) hne _).far (p := ⟨w3.heap.size, 1, none⟩) hne _).far (p := ⟨w3.heap.size, 2, none⟩) hne _
  · refine owns_touch hO5 ((((Touch.refl w5 (fun k => k = w3.heap.size)).set (p := ⟨w3.heap.size, 0, none⟩) (Or.inl rfl) _).set (p := ⟨w3.heap.size, 1, none⟩) (Or.inl rfl) _).set (p := ⟨w3.heap.size, 2, none⟩) (Or.inl rfl) _) fun k e1 e2 => ?_
    subst e2
    exact owns_apart hO5 hX5 (by decide) e1
  · have := xh_set hX5 hN (by rw [hsz]; omega) hE
    rw [e2] at this ⊢
    exact this
  · intro e1
    have h2 := hN.1 ad e
    have h3 := (hO4.lt _ e1).2
    omega
  · by_cases e : p = L
    · subst e
      omega
    · exact hlp p (by omega)

set_option maxRecDepth 100000 in
set_option maxHeartbeats 4000000 in
theorem s_common_yes (s : List UInt8) (a : List Int) (A0 : Option Addr) (n c0 : Nat) (w : World) (hs : s.length ≤ 1000000) (ho : sordF a = true) (hl : a.length = s.length + 1) (hn : n = s.length + 1) (hr : Reads w w.heap.size 1 A0 n (ints a)) (RK : List Int)
    (Hry : Hid (∀ W, Below w.heap.size w W → Calls Try.prog 29 #[.string ⟨s.toArray⟩, .slice A0 n c0] W fun e w' => ∃ A2 c2, e = .returned (.tuple #[.slice A2 n c2, .int .i64 0]) ∧ Reads w' w'.heap.size 1 A2 n (ints RK) ∧ Below W.heap.size W w')) :
    Calls Try.prog 16 #[.string ⟨s.toArray⟩, .slice A0 n c0] w fun e w' => LPost w w' e (scmL s a n, 0) := by
  obtain ⟨i0, hi, hz0, hz1, hz9⟩ := info_parts gslice_info
  have hni : (s.length : Int) ≤ 1000000 := by omega
  have Hs := Lib.hid hs
  have Hn := Lib.hid hn
  have Ho := Lib.hid ho
  have Hl := Lib.hid hl
  have Hr := Lib.hid hr
  have Hfirst := Lib.hid fun W => s_first_any s W hs
  have Hap := Lib.hid fun h row kd A c g W H => s_apart_any s h row kd A c g W hs H
  have Hnx := Lib.hid fun h row kd A c g W h1 hh H => s_next_any s h row kd A c g W hs h1 hh H
  clear hs ho hl hr hn
  refine callsIn_wide.1 (callsIn_of_wp_marks (n := 9) Try.func16 rfl trivial (wpIn_wide.2 ?_) rfl)
  simp only [Try.ntmps16, List.size_toArray, List.length_cons, List.length_nil, Nat.reduceAdd, Nat.reduceSub, Array.replicate_succ, Array.replicate_zero, List.push_toArray, List.append_toArray, List.nil_append, List.cons_append]
  go_wp2_with (first
    | (go_at_call 29; refine (Hry.out _ (Below.refl _ _)).mono ?_; rintro e w2 ⟨A2, c2, rfl, _, hb2⟩; have Hb2 := Lib.hid hb2; clear hb2)
    | (go_at_call 20; refine (Hfirst.out _).mono ?_; rintro e w1 ⟨A1, c1, g1, row1, kd1, rfl, hN, H1, hb⟩; have HN1 := Lib.hid hN; have HE1 := Lib.hid H1; have Hb1 := Lib.hid hb; clear hN H1 hb))
  have Hst : Hid (CRel w1.heap.size w1 (w1.alloc (.cells #[.slice A1 (s.length + 1) c1, .slice (some ⟨g1, 0, none⟩) (s.length + 1) (s.length + 1), .int .i64 1] 48)) s (s.length + 1) 0 none 0 w1.heap.size) :=
    Lib.hid ⟨[], [], row1, kd1, A1, c1, g1, rfl, by omega, LVS.nil _ _, World.ownsRow_nil _ _ _ _, ⟨Blk.new w1 _ _, HE1.out.below ((Below.refl _ _).alloc (Nat.le_refl _) _)⟩, fun ad _ h => (by cases h), (Below.refl _ _).alloc (Nat.le_refl _) _, fun p hp => absurd hp (by omega)⟩
  have Hbw1 := Lib.hid (Hb2.out.trans (Hb1.out.mono Hb2.out.size))
  clear Hfirst HE1 HN1 Hb1 Hb2 Hry
  go_loopg [8, 9] (s.length + 1) (fun gk lv px wr => ∃ (L : Nat) (Av : Option Addr) (cv gx : Nat), lv = .slice Av L cv ∧ px = .pointer (some ⟨gx, 0, none⟩) ∧ Hid (CRel w1.heap.size w1 wr s gk L Av cv gx))
  case atStart => exact ⟨0, none, 0, _, rfl, rfl, Hst⟩
  case round =>
    obtain ⟨L, Av, cv, gx, rfl, rfl, HC⟩ := hrel
    obtain ⟨gs, kds, row, kd, A, c, g, hgl, hgk, hlv, hown, hX, hne, hB, hlp⟩ := HC.out
    have Hlp := Lib.hid hlp
    clear hlp
    clear HC Hst
    have HE := Lib.hid hX.2
    have HX := Lib.hid hX.1
    have HB := Lib.hid hB
    have Hgk := Lib.hid hgk
    have Hgl := Lib.hid hgl
    have HLV := Lib.hid hlv
    have HO := Lib.hid hown
    have Hne := Lib.hid hne
    have c0' : wr.cell? ⟨gx, 0, none⟩ = some (.slice A (s.length + 1) c) := HX.out.cell 0
    have c1' : wr.cell? ⟨gx, 1, none⟩ = some (.slice (some ⟨g, 0, none⟩) (s.length + 1) (s.length + 1)) := HX.out.cell 1
    have c2' : wr.cell? ⟨gx, 2, none⟩ = some (.int .i64 ((2 ^ L : Nat) : Int)) := HX.out.cell 2
    have HAp := Lib.hid (Hap.out (2 ^ L) row kd A c g wr HE.out)
    obtain ⟨h, Hh⟩ : ∃ h, Hid (h = 2 ^ L) := ⟨_, Lib.hid rfl⟩
    rw [← Hh.out] at c2' HAp HE HX
    clear hX hB hgk hgl hlv hown hne
    by_cases hap : kd (row.getD s.length 0) = s.length
    · have Hlast : Hid (∀ p q, p ≤ s.length → q ≤ s.length → p ≠ q → alike (s.drop p) (s.drop q) < 2 ^ L) := Lib.hid fun p q hp hq hpq => by rw [← Hh.out]; exact HE.out.se.less hap p q hp hq hpq
      rw [decide_eq_true hap] at HAp
      clear hap Hnx Hap
      have hni2 : (n : Int) ≤ 1000001 := by have := Hn.out; omega
      have hmk := fun w => gmk_ints (n : Int) n rfl (by omega) w
      rw [← cmL_one s a n (by have := Hn.out; have := Hl.out; omega)] at hmk
      go_wp2_with (go_at_call 21; refine HAp.out.mono ?_; rintro e wq ⟨rfl, hb2⟩; have HLV2 := Lib.hid (HLV.out.below hb2); have HO2 := Lib.hid (owns_below HO.out hb2 (Nat.le_refl _)); have HB2 := Lib.hid (HB.out.trans (hb2.mono HB.out.size)); clear hb2 c0' c1' c2')
      clear hmk HAp HE HX HB Hgk HLV HO Hne
      have HC1 := Lib.hid (Blk.new wq 3 (ints (cmL s a n 1)).toArray)
      have HLV3 := Lib.hid (HLV2.out.below ((Below.refl _ _).alloc (Nat.le_refl _) (.cells (ints (cmL s a n 1)).toArray 3)))
      have HO3 := Lib.hid (HO2.out.alloc (.cells (ints (cmL s a n 1)).toArray 3))
      have HBq : Hid (Below w.heap.size w (wq.alloc (.cells (ints (cmL s a n 1)).toArray 3))) := Lib.hid ((Hbw1.out.trans (HB2.out.mono Hbw1.out.size)).alloc (Nat.le_trans Hbw1.out.size HB2.out.size) _)
      have HgC : Hid (w.heap.size ≤ wq.heap.size) := Lib.hid (Nat.le_trans Hbw1.out.size HB2.out.size)
      have Hlb : Hid (L ≤ 1000000) := Lib.hid (s_levels_le HLV2.out Hgl.out Hs.out Hlp.out)
      have HgN0 : Hid (∀ p (h : p < gs.length), gs[p] ≠ wq.heap.size) := Lib.hid fun p h => Nat.ne_of_lt (HLV2.out.blk p h (by rw [HLV2.out.len]; exact h)).lt
      generalize hW1 : wq.alloc (.cells (ints (cmL s a n 1)).toArray 3) = W1 at *
      generalize hgC : wq.heap.size = gC at *
      clear hW1 hgC HLV2 HO2 HB2
      refine loop_frames [11, 12, 13, 14, 42, 43, 44, 45, 46, 47, 48, 49, 50, 51, 52, 53, 54, 55, 56, 57, 58, 78, 79, 80, 81] (fun v ds V => ∃ k m : Nat, k + 1 = m ∧ m ≤ n ∧ v 11 = .int .i64 (m : Int) ∧ Hid (Blk V gC 3 (ints (cmL s a n m)).toArray) ∧ Hid (Touch W1 V (fun j => j = gC)) ∧ Hid (Marks w.heap.size V ds)) (fun v => n - (intOf (v 11)).toNat) ⟨?f0, 0, 1, rfl, by have := Hn.out; omega, ?f1, HC1, Lib.hid (Touch.refl _ _), Lib.hid (Marks.nil _ _)⟩ ?_
      case f0 => kernel_rfl
      case f1 => kernel_rfl
      rintro v ds V KK HKK ⟨k, m, hkm, hm, hv, HC, HT, HM⟩
      simp only [updS, List.foldl_cons, List.foldl_nil, List.setIfInBounds_toArray, List.set_cons_zero, List.set_cons_succ]
      rw [hv] at HKK ⊢
      have HVb : Hid (Below w.heap.size w V) := Lib.hid (HBq.out.trans (HT.out.below (fun j _ e => by rw [e]; exact HgC.out) HBq.out.size))
      clear hv
      by_cases hlt : m < n
      · have hki : ((0 : Int) ≤ (k : Int) ∧ (k : Int) < (n : Int)) ∧ (0 : Int) ≤ (m : Int) ∧ (m : Int) < (n : Int) := by omega
        have hkk := hki.1
        have hkm1 := hki.2
        have hmlt : (m : Int) < (n : Int) := hkm1.2
        obtain ⟨b0, off, rfl, hb0, hcA⟩ := gcells_at Hr.out (by omega)
        have hal : a.length = n := by rw [Hl.out, Hn.out]
        obtain ⟨pa, hpa, hpal⟩ := sord_at Ho.out k (by rw [hal]; omega)
        obtain ⟨pb, hpb, hpbl⟩ := sord_at Ho.out m (by rw [hal]; exact hlt)
        have X1 : Hid (V.cell? ⟨b0, off + k, none⟩ = some (.int .i64 (pa : Int))) := Lib.hid (by rw [← hpa]; exact hcA V HVb.out k (by rw [hal]; omega))
        have X2 : Hid (V.cell? ⟨b0, off + m, none⟩ = some (.int .i64 (pb : Int))) := Lib.hid (by rw [← hpb]; exact hcA V HVb.out m (by rw [hal]; exact hlt))
        have hbw0 : b0 < V.heap.size := Nat.lt_of_lt_of_le hb0 HVb.out.size
        have Hpab : Hid (pa ≠ pb ∧ pa ≤ s.length ∧ pb ≤ s.length) := Lib.hid ⟨s_places_ne Ho.out (by rw [hal]; omega) (by rw [hal]; exact hlt) (by omega) hpa hpb, by rw [Hl.out] at hpal; omega, by rw [Hl.out] at hpbl; omega⟩
        have Hscm : Hid (scm s a m = ((alike (s.drop pb) (s.drop pa) : Nat) : Int)) := Lib.hid (by subst hkm; exact scm_at k pb pa (by rw [hal]; exact hlt) hpb hpa)
        have hsub : (m : Int) - 1 = (k : Int) := by omega
        have hw1 : IntKind.i64.wrap ((m : Int) - 1) = (k : Int) := by rw [IntKind.wrap_i64]; omega
        have hw2 : IntKind.i64.wrap (k : Int) = (k : Int) := by rw [IntKind.wrap_i64]; omega
        have Hkm := Lib.hid hkm
        clear hcA hpa hpb hal hpal hpbl hkm
        go_wp2
        refine cut_region (fun (T : Array Value) (x y z : Nat) => (((((((((((T.setIfInBounds 12 (.pointer (some ⟨x, 0, none⟩))).setIfInBounds 13 (.pointer (some ⟨y, 0, none⟩))).setIfInBounds 14 (.pointer (some ⟨z, 0, none⟩))).setIfInBounds 48 (.slice (some ⟨b0, off, none⟩) n c0)).setIfInBounds 49 (.int .i64 (m : Int))).setIfInBounds 50 (.int .i64 (k : Int))).setIfInBounds 51 (.pointer (some ⟨b0, off + k, none⟩))).setIfInBounds 52 (.int .i64 (pa : Int))).setIfInBounds 53 (.slice (some ⟨b0, off, none⟩) n c0)).setIfInBounds 54 (.int .i64 (m : Int))).setIfInBounds 55 (.pointer (some ⟨b0, off + m, none⟩))).setIfInBounds 56 (.int .i64 (pb : Int))) (fun x y z w' => V.heap.size ≤ x ∧ V.heap.size ≤ y ∧ V.heap.size ≤ z ∧ x ≠ y ∧ x ≠ z ∧ y ≠ z ∧ Blk w' x 3 #[.int .i64 (pa : Int)] ∧ Blk w' y 3 #[.int .i64 (pb : Int)] ∧ Blk w' z 3 #[.int .i64 0] ∧ Below V.heap.size V w') ?cutA ?cutB
        case cutA =>
          refine wp_region_held_drew (S := (fun W => W.cell? ⟨b0, off + k, none⟩ = some (.int .i64 (pa : Int)) ∧ W.cell? ⟨b0, off + m, none⟩ = some (.int .i64 (pb : Int)))) (by kernel_rfl) (⟨X1.out, X2.out⟩) (fun hHeld => ?_)
          have HBw := Lib.hid (Below.refl V.heap.size V).drew
          generalize V.drew = Wc at *
          refine wpAnyH_take (i := 0) (oi := ⟨some 48, Op.move (Operand.tmp 1), 22, _, #[], none⟩) (v := ?_) rfl (by kernel_rfl) (by kernel_rfl) (by kernel_rfl) (fun _ _ _ h => h) (Or.inl ⟨by rfl, ?_⟩) hHeld ?_
          rotate_left
          · (intro wz hSw; go_simp; try (with_reducible rfl))
          try simp only [Act.put, List.setIfInBounds_toArray, List.set_cons_zero, List.set_cons_succ]
          refine wpAnyH_take (i := 1) (oi := ⟨some 49, Op.move (Operand.tmp 11), 3, _, #[], none⟩) (v := ?_) rfl (by kernel_rfl) (by kernel_rfl) (by kernel_rfl) (fun _ _ _ h => h) (Or.inl ⟨by rfl, ?_⟩) hHeld ?_
          rotate_left
          · (intro wz hSw; go_simp; try (with_reducible rfl))
          try simp only [Act.put, List.setIfInBounds_toArray, List.set_cons_zero, List.set_cons_succ]
          refine wpAnyH_take (i := 2) (oi := ⟨some 50, Op.binOp BinOp.sub 3 (Operand.tmp 49) (Operand.const (Value.int IntKind.i64 1)) 3, 3, _, #[{ on := 1, ground := Ground.data }], none⟩) (v := ?_) rfl (by kernel_rfl) (by kernel_rfl) (by kernel_rfl) (fun _ _ _ h => h) (Or.inl ⟨by rfl, ?_⟩) hHeld ?_
          rotate_left
          · (intro wz hSw; go_simp; try (with_reducible rfl))
          try simp only [Act.put, List.setIfInBounds_toArray, List.set_cons_zero, List.set_cons_succ]
          refine wpAnyH_take (i := 3) (oi := ⟨some 51, Op.indexAddr 22 (Operand.tmp 48) (Operand.tmp 50), 0, _, #[{ on := 0, ground := Ground.data }, { on := 2, ground := Ground.data }], none⟩) (v := ?_) rfl (by kernel_rfl) (by kernel_rfl) (by kernel_rfl) (fun _ _ _ h => h) (Or.inl ⟨by rfl, ?_⟩) hHeld ?_
          rotate_left
          · (intro wz hSw; go_simp; try (with_reducible rfl))
          try simp only [Act.put, List.setIfInBounds_toArray, List.set_cons_zero, List.set_cons_succ]
          refine wpAnyH_take (i := 4) (oi := ⟨some 52, Op.load 3 (Operand.tmp 51), 3, _, #[{ on := 3, ground := Ground.data }], none⟩) (v := ?_) rfl (by kernel_rfl) (by kernel_rfl) (by kernel_rfl) (fun _ _ _ h => h) (Or.inl ⟨by rfl, ?_⟩) hHeld ?_
          rotate_left
          · (intro wz hSw; obtain ⟨q1, q2⟩ := hSw; go_simp; try (with_reducible rfl))
          try simp only [Act.put, List.setIfInBounds_toArray, List.set_cons_zero, List.set_cons_succ]
          refine wpAnyH_take (i := 5) (oi := ⟨some 53, Op.move (Operand.tmp 1), 22, _, #[{ on := 12, ground := Ground.gcOnly Departure.lateStores }], none⟩) (v := ?_) rfl (by kernel_rfl) (by kernel_rfl) (by kernel_rfl) (fun _ _ _ h => h) (Or.inl ⟨by rfl, ?_⟩) hHeld ?_
          rotate_left
          · (intro wz hSw; go_simp; try (with_reducible rfl))
          try simp only [Act.put, List.setIfInBounds_toArray, List.set_cons_zero, List.set_cons_succ]
          refine wpAnyH_take (i := 6) (oi := ⟨some 54, Op.move (Operand.tmp 11), 3, _, #[{ on := 12, ground := Ground.gcOnly Departure.lateStores }], none⟩) (v := ?_) rfl (by kernel_rfl) (by kernel_rfl) (by kernel_rfl) (fun _ _ _ h => h) (Or.inl ⟨by rfl, ?_⟩) hHeld ?_
          rotate_left
          · (intro wz hSw; go_simp; try (with_reducible rfl))
          try simp only [Act.put, List.setIfInBounds_toArray, List.set_cons_zero, List.set_cons_succ]
          refine wpAnyH_take (i := 7) (oi := ⟨some 55, Op.indexAddr 22 (Operand.tmp 53) (Operand.tmp 54), 0, _, #[{ on := 5, ground := Ground.data }, { on := 6, ground := Ground.data }, { on := 12, ground := Ground.gcOnly Departure.lateStores }], none⟩) (v := ?_) rfl (by kernel_rfl) (by kernel_rfl) (by kernel_rfl) (fun _ _ _ h => h) (Or.inl ⟨by rfl, ?_⟩) hHeld ?_
          rotate_left
          · (intro wz hSw; go_simp; try (with_reducible rfl))
          try simp only [Act.put, List.setIfInBounds_toArray, List.set_cons_zero, List.set_cons_succ]
          refine wpAnyH_take (i := 8) (oi := ⟨some 56, Op.load 3 (Operand.tmp 55), 3, _, #[{ on := 7, ground := Ground.data }, { on := 12, ground := Ground.gcOnly Departure.lateStores }], none⟩) (v := ?_) rfl (by kernel_rfl) (by kernel_rfl) (by kernel_rfl) (fun _ _ _ h => h) (Or.inl ⟨by rfl, ?_⟩) hHeld ?_
          rotate_left
          · (intro wz hSw; obtain ⟨q1, q2⟩ := hSw; go_simp; try (with_reducible rfl))
          try simp only [Act.put, List.setIfInBounds_toArray, List.set_cons_zero, List.set_cons_succ]
          refine wpAnyH_ready (rs := [9, 10, 11]) (by kernel_rfl) (by simp) ?_
          refine AllReadyH.cons (o := ⟨some 12, Op.alloc 3, 0, _, #[], none⟩) rfl (fun K hK => ?_) ?_
          · skip
            go_simp
            have HGA := Lib.hid HBw.out.size
            try (have HBA := Lib.hid (Nat.ne_of_lt HB.out.lt))
            try (have HNA := Lib.hid (Nat.ne_of_lt HN.out.lt))
            have HA := Lib.hid (Blk.new Wc 3 #[.int .i64 0])
            try (replace HB := Lib.hid (HB.out.alloc (.cells #[.int .i64 0] 3)))
            try (replace HN := Lib.hid (HN.out.alloc (.cells #[.int .i64 0] 3)))
            replace HBw := Lib.hid (HBw.out.alloc HBw.out.size (.cells #[.int .i64 0] 3))
            refine hK.out _ _ (⟨(HBw.out.cell (p := ⟨b0, off + k, none⟩) hbw0).trans X1.out, (HBw.out.cell (p := ⟨b0, off + m, none⟩) hbw0).trans X2.out⟩) (fun hH => ?_)
            clear hK K hHeld
            have hHeld := hH
            clear hH
            generalize Wc.alloc (.cells #[.int .i64 0] 3) = Wd at *
            generalize Wc.heap.size = gA at *
            rename World => Wc
            try simp only [Act.put, List.setIfInBounds_toArray, List.set_cons_zero, List.set_cons_succ]
            refine wpAnyH_ready (rs := [10, 11]) (by kernel_rfl) (by simp) ?_
            refine AllReadyH.cons (o := ⟨some 13, Op.alloc 3, 0, _, #[], none⟩) rfl (fun K hK => ?_) ?_
            · skip
              go_simp
              have HGB := Lib.hid HBw.out.size
              try (have HAB := Lib.hid (Nat.ne_of_lt HA.out.lt))
              try (have HNB := Lib.hid (Nat.ne_of_lt HN.out.lt))
              have HB := Lib.hid (Blk.new Wc 3 #[.int .i64 0])
              try (replace HA := Lib.hid (HA.out.alloc (.cells #[.int .i64 0] 3)))
              try (replace HN := Lib.hid (HN.out.alloc (.cells #[.int .i64 0] 3)))
              replace HBw := Lib.hid (HBw.out.alloc HBw.out.size (.cells #[.int .i64 0] 3))
              refine hK.out _ _ (⟨(HBw.out.cell (p := ⟨b0, off + k, none⟩) hbw0).trans X1.out, (HBw.out.cell (p := ⟨b0, off + m, none⟩) hbw0).trans X2.out⟩) (fun hH => ?_)
              clear hK K hHeld
              have hHeld := hH
              clear hH
              generalize Wc.alloc (.cells #[.int .i64 0] 3) = Wd at *
              generalize Wc.heap.size = gB at *
              rename World => Wc
              try simp only [Act.put, List.setIfInBounds_toArray, List.set_cons_zero, List.set_cons_succ]
              refine wpAnyH_ready (rs := [11]) (by kernel_rfl) (by simp) ?_
              refine AllReadyH.cons (o := ⟨some 14, Op.alloc 3, 0, _, #[], none⟩) rfl (fun K hK => ?_) AllReadyH.nil
              go_simp
              have HGN := Lib.hid HBw.out.size
              try (have HAN := Lib.hid (Nat.ne_of_lt HA.out.lt))
              try (have HBN := Lib.hid (Nat.ne_of_lt HB.out.lt))
              have HN := Lib.hid (Blk.new Wc 3 #[.int .i64 0])
              try (replace HA := Lib.hid (HA.out.alloc (.cells #[.int .i64 0] 3)))
              try (replace HB := Lib.hid (HB.out.alloc (.cells #[.int .i64 0] 3)))
              replace HBw := Lib.hid (HBw.out.alloc HBw.out.size (.cells #[.int .i64 0] 3))
              refine hK.out _ _ (⟨(HBw.out.cell (p := ⟨b0, off + k, none⟩) hbw0).trans X1.out, (HBw.out.cell (p := ⟨b0, off + m, none⟩) hbw0).trans X2.out⟩) (fun hH => ?_)
              clear hK K hHeld
              have hHeld := hH
              clear hH
              generalize Wc.alloc (.cells #[.int .i64 0] 3) = Wd at *
              generalize Wc.heap.size = gN at *
              rename World => Wc
              try simp only [Act.put, List.setIfInBounds_toArray, List.set_cons_zero, List.set_cons_succ]
              refine wpAnyH_ready (rs := [12]) (by kernel_rfl) (by simp) ?_
              refine AllReadyH.cons (o := ⟨none, Op.store 3 (Operand.tmp 12) (Operand.tmp 52), 0, _, #[{ on := 9, ground := Ground.data }, { on := 4, ground := Ground.data }, { on := 0, ground := Ground.phase }, { on := 1, ground := Ground.phase }, { on := 2, ground := Ground.phase }, { on := 3, ground := Ground.phase }, { on := 4, ground := Ground.phase }, { on := 5, ground := Ground.textOnly Departure.lateStores }, { on := 6, ground := Ground.textOnly Departure.lateStores }, { on := 7, ground := Ground.textOnly Departure.lateStores }, { on := 8, ground := Ground.textOnly Departure.lateStores }, { on := 9, ground := Ground.phase }, { on := 10, ground := Ground.phase }, { on := 11, ground := Ground.phase }], none⟩) rfl (fun K hK => ?_) AllReadyH.nil
              have q1 : Wc.cell? ⟨gA, 0, none⟩ = some (.int .i64 0) := HA.out.cell 0
              have q2 := HA.out.frozen 0
              go_simp
              replace HA : Hid (Blk (Wc.setCell ⟨gA, 0, none⟩ (.int .i64 ((pa : Int)))) gA 3 #[.int .i64 ((pa : Int))]) := Lib.hid (HA.out.set_ 0 _)
              try (replace HB := Lib.hid (HB.out.far (p := ⟨gA, 0, none⟩) (by first | exact HBA.out | exact HAB.out.symm) (.int .i64 ((pa : Int)))))
              try (replace HN := Lib.hid (HN.out.far (p := ⟨gA, 0, none⟩) (by first | exact HNA.out | exact HAN.out.symm) (.int .i64 ((pa : Int)))))
              replace HBw := Lib.hid (HBw.out.setCell (p := ⟨gA, 0, none⟩) HGA.out (.int .i64 ((pa : Int))))
              clear q1 q2
              refine hK.out _ _ (⟨(HBw.out.cell (p := ⟨b0, off + k, none⟩) hbw0).trans X1.out, (HBw.out.cell (p := ⟨b0, off + m, none⟩) hbw0).trans X2.out⟩) (fun hH => ?_)
              clear hK K hHeld
              have hHeld := hH
              clear hH
              generalize Wc.setCell ⟨gA, 0, none⟩ (.int .i64 ((pa : Int))) = Wd at *
              rename World => Wc
              try simp only [Act.put, List.setIfInBounds_toArray, List.set_cons_zero, List.set_cons_succ]
              refine wpAnyH_ready (rs := [13]) (by kernel_rfl) (by simp) ?_
              refine AllReadyH.cons (o := ⟨none, Op.store 3 (Operand.tmp 13) (Operand.tmp 56), 0, _, #[{ on := 10, ground := Ground.data }, { on := 8, ground := Ground.data }, { on := 12, ground := Ground.chain }, { on := 0, ground := Ground.phase }, { on := 1, ground := Ground.phase }, { on := 2, ground := Ground.phase }, { on := 3, ground := Ground.phase }, { on := 4, ground := Ground.phase }, { on := 5, ground := Ground.phase }, { on := 6, ground := Ground.phase }, { on := 7, ground := Ground.phase }, { on := 8, ground := Ground.phase }, { on := 9, ground := Ground.phase }, { on := 10, ground := Ground.phase }, { on := 11, ground := Ground.phase }, { on := 12, ground := Ground.phase }], none⟩) rfl (fun K hK => ?_) AllReadyH.nil
              have q1 : Wc.cell? ⟨gB, 0, none⟩ = some (.int .i64 0) := HB.out.cell 0
              have q2 := HB.out.frozen 0
              go_simp
              replace HB : Hid (Blk (Wc.setCell ⟨gB, 0, none⟩ (.int .i64 ((pb : Int)))) gB 3 #[.int .i64 ((pb : Int))]) := Lib.hid (HB.out.set_ 0 _)
              try (replace HA := Lib.hid (HA.out.far (p := ⟨gB, 0, none⟩) (by first | exact HAB.out | exact HBA.out.symm) (.int .i64 ((pb : Int)))))
              try (replace HN := Lib.hid (HN.out.far (p := ⟨gB, 0, none⟩) (by first | exact HNB.out | exact HBN.out.symm) (.int .i64 ((pb : Int)))))
              replace HBw := Lib.hid (HBw.out.setCell (p := ⟨gB, 0, none⟩) HGB.out (.int .i64 ((pb : Int))))
              clear q1 q2
              refine hK.out _ _ (⟨(HBw.out.cell (p := ⟨b0, off + k, none⟩) hbw0).trans X1.out, (HBw.out.cell (p := ⟨b0, off + m, none⟩) hbw0).trans X2.out⟩) (fun hH => ?_)
              clear hK K hHeld
              have hHeld := hH
              clear hH
              generalize Wc.setCell ⟨gB, 0, none⟩ (.int .i64 ((pb : Int))) = Wd at *
              rename World => Wc
              try simp only [Act.put, List.setIfInBounds_toArray, List.set_cons_zero, List.set_cons_succ]
              refine wpAnyH_ready (rs := [14]) (by kernel_rfl) (by simp) ?_
              refine AllReadyH.cons (o := ⟨none, Op.store 3 (Operand.tmp 14) (Operand.const (Value.int IntKind.i64 0)), 0, _, #[{ on := 11, ground := Ground.data }, { on := 13, ground := Ground.chain }, { on := 0, ground := Ground.phase }, { on := 1, ground := Ground.phase }, { on := 2, ground := Ground.phase }, { on := 3, ground := Ground.phase }, { on := 4, ground := Ground.phase }, { on := 5, ground := Ground.phase }, { on := 6, ground := Ground.phase }, { on := 7, ground := Ground.phase }, { on := 8, ground := Ground.phase }, { on := 9, ground := Ground.phase }, { on := 10, ground := Ground.phase }, { on := 11, ground := Ground.phase }, { on := 12, ground := Ground.phase }, { on := 13, ground := Ground.phase }], none⟩) rfl (fun K hK => ?_) AllReadyH.nil
              have q1 : Wc.cell? ⟨gN, 0, none⟩ = some (.int .i64 0) := HN.out.cell 0
              have q2 := HN.out.frozen 0
              go_simp
              replace HN : Hid (Blk (Wc.setCell ⟨gN, 0, none⟩ (.int .i64 (0))) gN 3 #[.int .i64 (0)]) := Lib.hid (HN.out.set_ 0 _)
              try (replace HA := Lib.hid (HA.out.far (p := ⟨gN, 0, none⟩) (by first | exact HAN.out | exact HNA.out.symm) (.int .i64 (0))))
              try (replace HB := Lib.hid (HB.out.far (p := ⟨gN, 0, none⟩) (by first | exact HBN.out | exact HNB.out.symm) (.int .i64 (0))))
              replace HBw := Lib.hid (HBw.out.setCell (p := ⟨gN, 0, none⟩) HGN.out (.int .i64 (0)))
              clear q1 q2
              refine hK.out _ _ (⟨(HBw.out.cell (p := ⟨b0, off + k, none⟩) hbw0).trans X1.out, (HBw.out.cell (p := ⟨b0, off + m, none⟩) hbw0).trans X2.out⟩) (fun hH => ?_)
              clear hK K hHeld
              have hHeld := hH
              clear hH
              generalize Wc.setCell ⟨gN, 0, none⟩ (.int .i64 (0)) = Wd at *
              rename World => Wc
              try simp only [Act.put, List.setIfInBounds_toArray, List.set_cons_zero, List.set_cons_succ]
              refine wpAnyH_done (by kernel_rfl) ?_ _
              refine ⟨gA, gB, gN, ?_, HGA.out, HGB.out, HGN.out, (by first | exact HAB.out | exact HBA.out.symm), (by first | exact HAN.out | exact HNA.out.symm), (by first | exact HBN.out | exact HNB.out.symm), HA.out, HB.out, HN.out, HBw.out⟩
              kernel_rfl
            refine AllReadyH.cons (o := ⟨some 14, Op.alloc 3, 0, _, #[], none⟩) rfl (fun K hK => ?_) AllReadyH.nil
            go_simp
            have HGN := Lib.hid HBw.out.size
            try (have HAN := Lib.hid (Nat.ne_of_lt HA.out.lt))
            try (have HBN := Lib.hid (Nat.ne_of_lt HB.out.lt))
            have HN := Lib.hid (Blk.new Wc 3 #[.int .i64 0])
            try (replace HA := Lib.hid (HA.out.alloc (.cells #[.int .i64 0] 3)))
            try (replace HB := Lib.hid (HB.out.alloc (.cells #[.int .i64 0] 3)))
            replace HBw := Lib.hid (HBw.out.alloc HBw.out.size (.cells #[.int .i64 0] 3))
            refine hK.out _ _ (⟨(HBw.out.cell (p := ⟨b0, off + k, none⟩) hbw0).trans X1.out, (HBw.out.cell (p := ⟨b0, off + m, none⟩) hbw0).trans X2.out⟩) (fun hH => ?_)
            clear hK K hHeld
            have hHeld := hH
            clear hH
            generalize Wc.alloc (.cells #[.int .i64 0] 3) = Wd at *
            generalize Wc.heap.size = gN at *
            rename World => Wc
            try simp only [Act.put, List.setIfInBounds_toArray, List.set_cons_zero, List.set_cons_succ]
            refine wpAnyH_ready (rs := [10]) (by kernel_rfl) (by simp) ?_
            refine AllReadyH.cons (o := ⟨some 13, Op.alloc 3, 0, _, #[], none⟩) rfl (fun K hK => ?_) AllReadyH.nil
            go_simp
            have HGB := Lib.hid HBw.out.size
            try (have HAB := Lib.hid (Nat.ne_of_lt HA.out.lt))
            try (have HNB := Lib.hid (Nat.ne_of_lt HN.out.lt))
            have HB := Lib.hid (Blk.new Wc 3 #[.int .i64 0])
            try (replace HA := Lib.hid (HA.out.alloc (.cells #[.int .i64 0] 3)))
            try (replace HN := Lib.hid (HN.out.alloc (.cells #[.int .i64 0] 3)))
            replace HBw := Lib.hid (HBw.out.alloc HBw.out.size (.cells #[.int .i64 0] 3))
            refine hK.out _ _ (⟨(HBw.out.cell (p := ⟨b0, off + k, none⟩) hbw0).trans X1.out, (HBw.out.cell (p := ⟨b0, off + m, none⟩) hbw0).trans X2.out⟩) (fun hH => ?_)
            clear hK K hHeld
            have hHeld := hH
            clear hH
            generalize Wc.alloc (.cells #[.int .i64 0] 3) = Wd at *
            generalize Wc.heap.size = gB at *
            rename World => Wc
            try simp only [Act.put, List.setIfInBounds_toArray, List.set_cons_zero, List.set_cons_succ]
            refine wpAnyH_ready (rs := [12]) (by kernel_rfl) (by simp) ?_
            refine AllReadyH.cons (o := ⟨none, Op.store 3 (Operand.tmp 12) (Operand.tmp 52), 0, _, #[{ on := 9, ground := Ground.data }, { on := 4, ground := Ground.data }, { on := 0, ground := Ground.phase }, { on := 1, ground := Ground.phase }, { on := 2, ground := Ground.phase }, { on := 3, ground := Ground.phase }, { on := 4, ground := Ground.phase }, { on := 5, ground := Ground.textOnly Departure.lateStores }, { on := 6, ground := Ground.textOnly Departure.lateStores }, { on := 7, ground := Ground.textOnly Departure.lateStores }, { on := 8, ground := Ground.textOnly Departure.lateStores }, { on := 9, ground := Ground.phase }, { on := 10, ground := Ground.phase }, { on := 11, ground := Ground.phase }], none⟩) rfl (fun K hK => ?_) AllReadyH.nil
            have q1 : Wc.cell? ⟨gA, 0, none⟩ = some (.int .i64 0) := HA.out.cell 0
            have q2 := HA.out.frozen 0
            go_simp
            replace HA : Hid (Blk (Wc.setCell ⟨gA, 0, none⟩ (.int .i64 ((pa : Int)))) gA 3 #[.int .i64 ((pa : Int))]) := Lib.hid (HA.out.set_ 0 _)
            try (replace HB := Lib.hid (HB.out.far (p := ⟨gA, 0, none⟩) (by first | exact HBA.out | exact HAB.out.symm) (.int .i64 ((pa : Int)))))
            try (replace HN := Lib.hid (HN.out.far (p := ⟨gA, 0, none⟩) (by first | exact HNA.out | exact HAN.out.symm) (.int .i64 ((pa : Int)))))
            replace HBw := Lib.hid (HBw.out.setCell (p := ⟨gA, 0, none⟩) HGA.out (.int .i64 ((pa : Int))))
            clear q1 q2
            refine hK.out _ _ (⟨(HBw.out.cell (p := ⟨b0, off + k, none⟩) hbw0).trans X1.out, (HBw.out.cell (p := ⟨b0, off + m, none⟩) hbw0).trans X2.out⟩) (fun hH => ?_)
            clear hK K hHeld
            have hHeld := hH
            clear hH
            generalize Wc.setCell ⟨gA, 0, none⟩ (.int .i64 ((pa : Int))) = Wd at *
            rename World => Wc
            try simp only [Act.put, List.setIfInBounds_toArray, List.set_cons_zero, List.set_cons_succ]
            refine wpAnyH_ready (rs := [13]) (by kernel_rfl) (by simp) ?_
            refine AllReadyH.cons (o := ⟨none, Op.store 3 (Operand.tmp 13) (Operand.tmp 56), 0, _, #[{ on := 10, ground := Ground.data }, { on := 8, ground := Ground.data }, { on := 12, ground := Ground.chain }, { on := 0, ground := Ground.phase }, { on := 1, ground := Ground.phase }, { on := 2, ground := Ground.phase }, { on := 3, ground := Ground.phase }, { on := 4, ground := Ground.phase }, { on := 5, ground := Ground.phase }, { on := 6, ground := Ground.phase }, { on := 7, ground := Ground.phase }, { on := 8, ground := Ground.phase }, { on := 9, ground := Ground.phase }, { on := 10, ground := Ground.phase }, { on := 11, ground := Ground.phase }, { on := 12, ground := Ground.phase }], none⟩) rfl (fun K hK => ?_) AllReadyH.nil
            have q1 : Wc.cell? ⟨gB, 0, none⟩ = some (.int .i64 0) := HB.out.cell 0
            have q2 := HB.out.frozen 0
            go_simp
            replace HB : Hid (Blk (Wc.setCell ⟨gB, 0, none⟩ (.int .i64 ((pb : Int)))) gB 3 #[.int .i64 ((pb : Int))]) := Lib.hid (HB.out.set_ 0 _)
            try (replace HA := Lib.hid (HA.out.far (p := ⟨gB, 0, none⟩) (by first | exact HAB.out | exact HBA.out.symm) (.int .i64 ((pb : Int)))))
            try (replace HN := Lib.hid (HN.out.far (p := ⟨gB, 0, none⟩) (by first | exact HNB.out | exact HBN.out.symm) (.int .i64 ((pb : Int)))))
            replace HBw := Lib.hid (HBw.out.setCell (p := ⟨gB, 0, none⟩) HGB.out (.int .i64 ((pb : Int))))
            clear q1 q2
            refine hK.out _ _ (⟨(HBw.out.cell (p := ⟨b0, off + k, none⟩) hbw0).trans X1.out, (HBw.out.cell (p := ⟨b0, off + m, none⟩) hbw0).trans X2.out⟩) (fun hH => ?_)
            clear hK K hHeld
            have hHeld := hH
            clear hH
            generalize Wc.setCell ⟨gB, 0, none⟩ (.int .i64 ((pb : Int))) = Wd at *
            rename World => Wc
            try simp only [Act.put, List.setIfInBounds_toArray, List.set_cons_zero, List.set_cons_succ]
            refine wpAnyH_ready (rs := [14]) (by kernel_rfl) (by simp) ?_
            refine AllReadyH.cons (o := ⟨none, Op.store 3 (Operand.tmp 14) (Operand.const (Value.int IntKind.i64 0)), 0, _, #[{ on := 11, ground := Ground.data }, { on := 13, ground := Ground.chain }, { on := 0, ground := Ground.phase }, { on := 1, ground := Ground.phase }, { on := 2, ground := Ground.phase }, { on := 3, ground := Ground.phase }, { on := 4, ground := Ground.phase }, { on := 5, ground := Ground.phase }, { on := 6, ground := Ground.phase }, { on := 7, ground := Ground.phase }, { on := 8, ground := Ground.phase }, { on := 9, ground := Ground.phase }, { on := 10, ground := Ground.phase }, { on := 11, ground := Ground.phase }, { on := 12, ground := Ground.phase }, { on := 13, ground := Ground.phase }], none⟩) rfl (fun K hK => ?_) AllReadyH.nil
            have q1 : Wc.cell? ⟨gN, 0, none⟩ = some (.int .i64 0) := HN.out.cell 0
            have q2 := HN.out.frozen 0
            go_simp
            replace HN : Hid (Blk (Wc.setCell ⟨gN, 0, none⟩ (.int .i64 (0))) gN 3 #[.int .i64 (0)]) := Lib.hid (HN.out.set_ 0 _)
            try (replace HA := Lib.hid (HA.out.far (p := ⟨gN, 0, none⟩) (by first | exact HAN.out | exact HNA.out.symm) (.int .i64 (0))))
            try (replace HB := Lib.hid (HB.out.far (p := ⟨gN, 0, none⟩) (by first | exact HBN.out | exact HNB.out.symm) (.int .i64 (0))))
            replace HBw := Lib.hid (HBw.out.setCell (p := ⟨gN, 0, none⟩) HGN.out (.int .i64 (0)))
            clear q1 q2
            refine hK.out _ _ (⟨(HBw.out.cell (p := ⟨b0, off + k, none⟩) hbw0).trans X1.out, (HBw.out.cell (p := ⟨b0, off + m, none⟩) hbw0).trans X2.out⟩) (fun hH => ?_)
            clear hK K hHeld
            have hHeld := hH
            clear hH
            generalize Wc.setCell ⟨gN, 0, none⟩ (.int .i64 (0)) = Wd at *
            rename World => Wc
            try simp only [Act.put, List.setIfInBounds_toArray, List.set_cons_zero, List.set_cons_succ]
            refine wpAnyH_done (by kernel_rfl) ?_ _
            refine ⟨gA, gB, gN, ?_, HGA.out, HGB.out, HGN.out, (by first | exact HAB.out | exact HBA.out.symm), (by first | exact HAN.out | exact HNA.out.symm), (by first | exact HBN.out | exact HNB.out.symm), HA.out, HB.out, HN.out, HBw.out⟩
            kernel_rfl
          refine AllReadyH.cons (o := ⟨some 13, Op.alloc 3, 0, _, #[], none⟩) rfl (fun K hK => ?_) ?_
          · skip
            go_simp
            have HGB := Lib.hid HBw.out.size
            try (have HAB := Lib.hid (Nat.ne_of_lt HA.out.lt))
            try (have HNB := Lib.hid (Nat.ne_of_lt HN.out.lt))
            have HB := Lib.hid (Blk.new Wc 3 #[.int .i64 0])
            try (replace HA := Lib.hid (HA.out.alloc (.cells #[.int .i64 0] 3)))
            try (replace HN := Lib.hid (HN.out.alloc (.cells #[.int .i64 0] 3)))
            replace HBw := Lib.hid (HBw.out.alloc HBw.out.size (.cells #[.int .i64 0] 3))
            refine hK.out _ _ (⟨(HBw.out.cell (p := ⟨b0, off + k, none⟩) hbw0).trans X1.out, (HBw.out.cell (p := ⟨b0, off + m, none⟩) hbw0).trans X2.out⟩) (fun hH => ?_)
            clear hK K hHeld
            have hHeld := hH
            clear hH
            generalize Wc.alloc (.cells #[.int .i64 0] 3) = Wd at *
            generalize Wc.heap.size = gB at *
            rename World => Wc
            try simp only [Act.put, List.setIfInBounds_toArray, List.set_cons_zero, List.set_cons_succ]
            refine wpAnyH_ready (rs := [9, 11]) (by kernel_rfl) (by simp) ?_
            refine AllReadyH.cons (o := ⟨some 12, Op.alloc 3, 0, _, #[], none⟩) rfl (fun K hK => ?_) ?_
            · skip
              go_simp
              have HGA := Lib.hid HBw.out.size
              try (have HBA := Lib.hid (Nat.ne_of_lt HB.out.lt))
              try (have HNA := Lib.hid (Nat.ne_of_lt HN.out.lt))
              have HA := Lib.hid (Blk.new Wc 3 #[.int .i64 0])
              try (replace HB := Lib.hid (HB.out.alloc (.cells #[.int .i64 0] 3)))
              try (replace HN := Lib.hid (HN.out.alloc (.cells #[.int .i64 0] 3)))
              replace HBw := Lib.hid (HBw.out.alloc HBw.out.size (.cells #[.int .i64 0] 3))
              refine hK.out _ _ (⟨(HBw.out.cell (p := ⟨b0, off + k, none⟩) hbw0).trans X1.out, (HBw.out.cell (p := ⟨b0, off + m, none⟩) hbw0).trans X2.out⟩) (fun hH => ?_)
              clear hK K hHeld
              have hHeld := hH
              clear hH
              generalize Wc.alloc (.cells #[.int .i64 0] 3) = Wd at *
              generalize Wc.heap.size = gA at *
              rename World => Wc
              try simp only [Act.put, List.setIfInBounds_toArray, List.set_cons_zero, List.set_cons_succ]
              refine wpAnyH_ready (rs := [11]) (by kernel_rfl) (by simp) ?_
              refine AllReadyH.cons (o := ⟨some 14, Op.alloc 3, 0, _, #[], none⟩) rfl (fun K hK => ?_) AllReadyH.nil
              go_simp
              have HGN := Lib.hid HBw.out.size
              try (have HAN := Lib.hid (Nat.ne_of_lt HA.out.lt))
              try (have HBN := Lib.hid (Nat.ne_of_lt HB.out.lt))
              have HN := Lib.hid (Blk.new Wc 3 #[.int .i64 0])
              try (replace HA := Lib.hid (HA.out.alloc (.cells #[.int .i64 0] 3)))
              try (replace HB := Lib.hid (HB.out.alloc (.cells #[.int .i64 0] 3)))
              replace HBw := Lib.hid (HBw.out.alloc HBw.out.size (.cells #[.int .i64 0] 3))
              refine hK.out _ _ (⟨(HBw.out.cell (p := ⟨b0, off + k, none⟩) hbw0).trans X1.out, (HBw.out.cell (p := ⟨b0, off + m, none⟩) hbw0).trans X2.out⟩) (fun hH => ?_)
              clear hK K hHeld
              have hHeld := hH
              clear hH
              generalize Wc.alloc (.cells #[.int .i64 0] 3) = Wd at *
              generalize Wc.heap.size = gN at *
              rename World => Wc
              try simp only [Act.put, List.setIfInBounds_toArray, List.set_cons_zero, List.set_cons_succ]
              refine wpAnyH_ready (rs := [12]) (by kernel_rfl) (by simp) ?_
              refine AllReadyH.cons (o := ⟨none, Op.store 3 (Operand.tmp 12) (Operand.tmp 52), 0, _, #[{ on := 9, ground := Ground.data }, { on := 4, ground := Ground.data }, { on := 0, ground := Ground.phase }, { on := 1, ground := Ground.phase }, { on := 2, ground := Ground.phase }, { on := 3, ground := Ground.phase }, { on := 4, ground := Ground.phase }, { on := 5, ground := Ground.textOnly Departure.lateStores }, { on := 6, ground := Ground.textOnly Departure.lateStores }, { on := 7, ground := Ground.textOnly Departure.lateStores }, { on := 8, ground := Ground.textOnly Departure.lateStores }, { on := 9, ground := Ground.phase }, { on := 10, ground := Ground.phase }, { on := 11, ground := Ground.phase }], none⟩) rfl (fun K hK => ?_) AllReadyH.nil
              have q1 : Wc.cell? ⟨gA, 0, none⟩ = some (.int .i64 0) := HA.out.cell 0
              have q2 := HA.out.frozen 0
              go_simp
              replace HA : Hid (Blk (Wc.setCell ⟨gA, 0, none⟩ (.int .i64 ((pa : Int)))) gA 3 #[.int .i64 ((pa : Int))]) := Lib.hid (HA.out.set_ 0 _)
              try (replace HB := Lib.hid (HB.out.far (p := ⟨gA, 0, none⟩) (by first | exact HBA.out | exact HAB.out.symm) (.int .i64 ((pa : Int)))))
              try (replace HN := Lib.hid (HN.out.far (p := ⟨gA, 0, none⟩) (by first | exact HNA.out | exact HAN.out.symm) (.int .i64 ((pa : Int)))))
              replace HBw := Lib.hid (HBw.out.setCell (p := ⟨gA, 0, none⟩) HGA.out (.int .i64 ((pa : Int))))
              clear q1 q2
              refine hK.out _ _ (⟨(HBw.out.cell (p := ⟨b0, off + k, none⟩) hbw0).trans X1.out, (HBw.out.cell (p := ⟨b0, off + m, none⟩) hbw0).trans X2.out⟩) (fun hH => ?_)
              clear hK K hHeld
              have hHeld := hH
              clear hH
              generalize Wc.setCell ⟨gA, 0, none⟩ (.int .i64 ((pa : Int))) = Wd at *
              rename World => Wc
              try simp only [Act.put, List.setIfInBounds_toArray, List.set_cons_zero, List.set_cons_succ]
              refine wpAnyH_ready (rs := [13]) (by kernel_rfl) (by simp) ?_
              refine AllReadyH.cons (o := ⟨none, Op.store 3 (Operand.tmp 13) (Operand.tmp 56), 0, _, #[{ on := 10, ground := Ground.data }, { on := 8, ground := Ground.data }, { on := 12, ground := Ground.chain }, { on := 0, ground := Ground.phase }, { on := 1, ground := Ground.phase }, { on := 2, ground := Ground.phase }, { on := 3, ground := Ground.phase }, { on := 4, ground := Ground.phase }, { on := 5, ground := Ground.phase }, { on := 6, ground := Ground.phase }, { on := 7, ground := Ground.phase }, { on := 8, ground := Ground.phase }, { on := 9, ground := Ground.phase }, { on := 10, ground := Ground.phase }, { on := 11, ground := Ground.phase }, { on := 12, ground := Ground.phase }], none⟩) rfl (fun K hK => ?_) AllReadyH.nil
              have q1 : Wc.cell? ⟨gB, 0, none⟩ = some (.int .i64 0) := HB.out.cell 0
              have q2 := HB.out.frozen 0
              go_simp
              replace HB : Hid (Blk (Wc.setCell ⟨gB, 0, none⟩ (.int .i64 ((pb : Int)))) gB 3 #[.int .i64 ((pb : Int))]) := Lib.hid (HB.out.set_ 0 _)
              try (replace HA := Lib.hid (HA.out.far (p := ⟨gB, 0, none⟩) (by first | exact HAB.out | exact HBA.out.symm) (.int .i64 ((pb : Int)))))
              try (replace HN := Lib.hid (HN.out.far (p := ⟨gB, 0, none⟩) (by first | exact HNB.out | exact HBN.out.symm) (.int .i64 ((pb : Int)))))
              replace HBw := Lib.hid (HBw.out.setCell (p := ⟨gB, 0, none⟩) HGB.out (.int .i64 ((pb : Int))))
              clear q1 q2
              refine hK.out _ _ (⟨(HBw.out.cell (p := ⟨b0, off + k, none⟩) hbw0).trans X1.out, (HBw.out.cell (p := ⟨b0, off + m, none⟩) hbw0).trans X2.out⟩) (fun hH => ?_)
              clear hK K hHeld
              have hHeld := hH
              clear hH
              generalize Wc.setCell ⟨gB, 0, none⟩ (.int .i64 ((pb : Int))) = Wd at *
              rename World => Wc
              try simp only [Act.put, List.setIfInBounds_toArray, List.set_cons_zero, List.set_cons_succ]
              refine wpAnyH_ready (rs := [14]) (by kernel_rfl) (by simp) ?_
              refine AllReadyH.cons (o := ⟨none, Op.store 3 (Operand.tmp 14) (Operand.const (Value.int IntKind.i64 0)), 0, _, #[{ on := 11, ground := Ground.data }, { on := 13, ground := Ground.chain }, { on := 0, ground := Ground.phase }, { on := 1, ground := Ground.phase }, { on := 2, ground := Ground.phase }, { on := 3, ground := Ground.phase }, { on := 4, ground := Ground.phase }, { on := 5, ground := Ground.phase }, { on := 6, ground := Ground.phase }, { on := 7, ground := Ground.phase }, { on := 8, ground := Ground.phase }, { on := 9, ground := Ground.phase }, { on := 10, ground := Ground.phase }, { on := 11, ground := Ground.phase }, { on := 12, ground := Ground.phase }, { on := 13, ground := Ground.phase }], none⟩) rfl (fun K hK => ?_) AllReadyH.nil
              have q1 : Wc.cell? ⟨gN, 0, none⟩ = some (.int .i64 0) := HN.out.cell 0
              have q2 := HN.out.frozen 0
              go_simp
              replace HN : Hid (Blk (Wc.setCell ⟨gN, 0, none⟩ (.int .i64 (0))) gN 3 #[.int .i64 (0)]) := Lib.hid (HN.out.set_ 0 _)
              try (replace HA := Lib.hid (HA.out.far (p := ⟨gN, 0, none⟩) (by first | exact HAN.out | exact HNA.out.symm) (.int .i64 (0))))
              try (replace HB := Lib.hid (HB.out.far (p := ⟨gN, 0, none⟩) (by first | exact HBN.out | exact HNB.out.symm) (.int .i64 (0))))
              replace HBw := Lib.hid (HBw.out.setCell (p := ⟨gN, 0, none⟩) HGN.out (.int .i64 (0)))
              clear q1 q2
              refine hK.out _ _ (⟨(HBw.out.cell (p := ⟨b0, off + k, none⟩) hbw0).trans X1.out, (HBw.out.cell (p := ⟨b0, off + m, none⟩) hbw0).trans X2.out⟩) (fun hH => ?_)
              clear hK K hHeld
              have hHeld := hH
              clear hH
              generalize Wc.setCell ⟨gN, 0, none⟩ (.int .i64 (0)) = Wd at *
              rename World => Wc
              try simp only [Act.put, List.setIfInBounds_toArray, List.set_cons_zero, List.set_cons_succ]
              refine wpAnyH_done (by kernel_rfl) ?_ _
              refine ⟨gA, gB, gN, ?_, HGA.out, HGB.out, HGN.out, (by first | exact HAB.out | exact HBA.out.symm), (by first | exact HAN.out | exact HNA.out.symm), (by first | exact HBN.out | exact HNB.out.symm), HA.out, HB.out, HN.out, HBw.out⟩
              kernel_rfl
            refine AllReadyH.cons (o := ⟨some 14, Op.alloc 3, 0, _, #[], none⟩) rfl (fun K hK => ?_) AllReadyH.nil
            go_simp
            have HGN := Lib.hid HBw.out.size
            try (have HAN := Lib.hid (Nat.ne_of_lt HA.out.lt))
            try (have HBN := Lib.hid (Nat.ne_of_lt HB.out.lt))
            have HN := Lib.hid (Blk.new Wc 3 #[.int .i64 0])
            try (replace HA := Lib.hid (HA.out.alloc (.cells #[.int .i64 0] 3)))
            try (replace HB := Lib.hid (HB.out.alloc (.cells #[.int .i64 0] 3)))
            replace HBw := Lib.hid (HBw.out.alloc HBw.out.size (.cells #[.int .i64 0] 3))
            refine hK.out _ _ (⟨(HBw.out.cell (p := ⟨b0, off + k, none⟩) hbw0).trans X1.out, (HBw.out.cell (p := ⟨b0, off + m, none⟩) hbw0).trans X2.out⟩) (fun hH => ?_)
            clear hK K hHeld
            have hHeld := hH
            clear hH
            generalize Wc.alloc (.cells #[.int .i64 0] 3) = Wd at *
            generalize Wc.heap.size = gN at *
            rename World => Wc
            try simp only [Act.put, List.setIfInBounds_toArray, List.set_cons_zero, List.set_cons_succ]
            refine wpAnyH_ready (rs := [9]) (by kernel_rfl) (by simp) ?_
            refine AllReadyH.cons (o := ⟨some 12, Op.alloc 3, 0, _, #[], none⟩) rfl (fun K hK => ?_) AllReadyH.nil
            go_simp
            have HGA := Lib.hid HBw.out.size
            try (have HBA := Lib.hid (Nat.ne_of_lt HB.out.lt))
            try (have HNA := Lib.hid (Nat.ne_of_lt HN.out.lt))
            have HA := Lib.hid (Blk.new Wc 3 #[.int .i64 0])
            try (replace HB := Lib.hid (HB.out.alloc (.cells #[.int .i64 0] 3)))
            try (replace HN := Lib.hid (HN.out.alloc (.cells #[.int .i64 0] 3)))
            replace HBw := Lib.hid (HBw.out.alloc HBw.out.size (.cells #[.int .i64 0] 3))
            refine hK.out _ _ (⟨(HBw.out.cell (p := ⟨b0, off + k, none⟩) hbw0).trans X1.out, (HBw.out.cell (p := ⟨b0, off + m, none⟩) hbw0).trans X2.out⟩) (fun hH => ?_)
            clear hK K hHeld
            have hHeld := hH
            clear hH
            generalize Wc.alloc (.cells #[.int .i64 0] 3) = Wd at *
            generalize Wc.heap.size = gA at *
            rename World => Wc
            try simp only [Act.put, List.setIfInBounds_toArray, List.set_cons_zero, List.set_cons_succ]
            refine wpAnyH_ready (rs := [12]) (by kernel_rfl) (by simp) ?_
            refine AllReadyH.cons (o := ⟨none, Op.store 3 (Operand.tmp 12) (Operand.tmp 52), 0, _, #[{ on := 9, ground := Ground.data }, { on := 4, ground := Ground.data }, { on := 0, ground := Ground.phase }, { on := 1, ground := Ground.phase }, { on := 2, ground := Ground.phase }, { on := 3, ground := Ground.phase }, { on := 4, ground := Ground.phase }, { on := 5, ground := Ground.textOnly Departure.lateStores }, { on := 6, ground := Ground.textOnly Departure.lateStores }, { on := 7, ground := Ground.textOnly Departure.lateStores }, { on := 8, ground := Ground.textOnly Departure.lateStores }, { on := 9, ground := Ground.phase }, { on := 10, ground := Ground.phase }, { on := 11, ground := Ground.phase }], none⟩) rfl (fun K hK => ?_) AllReadyH.nil
            have q1 : Wc.cell? ⟨gA, 0, none⟩ = some (.int .i64 0) := HA.out.cell 0
            have q2 := HA.out.frozen 0
            go_simp
            replace HA : Hid (Blk (Wc.setCell ⟨gA, 0, none⟩ (.int .i64 ((pa : Int)))) gA 3 #[.int .i64 ((pa : Int))]) := Lib.hid (HA.out.set_ 0 _)
            try (replace HB := Lib.hid (HB.out.far (p := ⟨gA, 0, none⟩) (by first | exact HBA.out | exact HAB.out.symm) (.int .i64 ((pa : Int)))))
            try (replace HN := Lib.hid (HN.out.far (p := ⟨gA, 0, none⟩) (by first | exact HNA.out | exact HAN.out.symm) (.int .i64 ((pa : Int)))))
            replace HBw := Lib.hid (HBw.out.setCell (p := ⟨gA, 0, none⟩) HGA.out (.int .i64 ((pa : Int))))
            clear q1 q2
            refine hK.out _ _ (⟨(HBw.out.cell (p := ⟨b0, off + k, none⟩) hbw0).trans X1.out, (HBw.out.cell (p := ⟨b0, off + m, none⟩) hbw0).trans X2.out⟩) (fun hH => ?_)
            clear hK K hHeld
            have hHeld := hH
            clear hH
            generalize Wc.setCell ⟨gA, 0, none⟩ (.int .i64 ((pa : Int))) = Wd at *
            rename World => Wc
            try simp only [Act.put, List.setIfInBounds_toArray, List.set_cons_zero, List.set_cons_succ]
            refine wpAnyH_ready (rs := [13]) (by kernel_rfl) (by simp) ?_
            refine AllReadyH.cons (o := ⟨none, Op.store 3 (Operand.tmp 13) (Operand.tmp 56), 0, _, #[{ on := 10, ground := Ground.data }, { on := 8, ground := Ground.data }, { on := 12, ground := Ground.chain }, { on := 0, ground := Ground.phase }, { on := 1, ground := Ground.phase }, { on := 2, ground := Ground.phase }, { on := 3, ground := Ground.phase }, { on := 4, ground := Ground.phase }, { on := 5, ground := Ground.phase }, { on := 6, ground := Ground.phase }, { on := 7, ground := Ground.phase }, { on := 8, ground := Ground.phase }, { on := 9, ground := Ground.phase }, { on := 10, ground := Ground.phase }, { on := 11, ground := Ground.phase }, { on := 12, ground := Ground.phase }], none⟩) rfl (fun K hK => ?_) AllReadyH.nil
            have q1 : Wc.cell? ⟨gB, 0, none⟩ = some (.int .i64 0) := HB.out.cell 0
            have q2 := HB.out.frozen 0
            go_simp
            replace HB : Hid (Blk (Wc.setCell ⟨gB, 0, none⟩ (.int .i64 ((pb : Int)))) gB 3 #[.int .i64 ((pb : Int))]) := Lib.hid (HB.out.set_ 0 _)
            try (replace HA := Lib.hid (HA.out.far (p := ⟨gB, 0, none⟩) (by first | exact HAB.out | exact HBA.out.symm) (.int .i64 ((pb : Int)))))
            try (replace HN := Lib.hid (HN.out.far (p := ⟨gB, 0, none⟩) (by first | exact HNB.out | exact HBN.out.symm) (.int .i64 ((pb : Int)))))
            replace HBw := Lib.hid (HBw.out.setCell (p := ⟨gB, 0, none⟩) HGB.out (.int .i64 ((pb : Int))))
            clear q1 q2
            refine hK.out _ _ (⟨(HBw.out.cell (p := ⟨b0, off + k, none⟩) hbw0).trans X1.out, (HBw.out.cell (p := ⟨b0, off + m, none⟩) hbw0).trans X2.out⟩) (fun hH => ?_)
            clear hK K hHeld
            have hHeld := hH
            clear hH
            generalize Wc.setCell ⟨gB, 0, none⟩ (.int .i64 ((pb : Int))) = Wd at *
            rename World => Wc
            try simp only [Act.put, List.setIfInBounds_toArray, List.set_cons_zero, List.set_cons_succ]
            refine wpAnyH_ready (rs := [14]) (by kernel_rfl) (by simp) ?_
            refine AllReadyH.cons (o := ⟨none, Op.store 3 (Operand.tmp 14) (Operand.const (Value.int IntKind.i64 0)), 0, _, #[{ on := 11, ground := Ground.data }, { on := 13, ground := Ground.chain }, { on := 0, ground := Ground.phase }, { on := 1, ground := Ground.phase }, { on := 2, ground := Ground.phase }, { on := 3, ground := Ground.phase }, { on := 4, ground := Ground.phase }, { on := 5, ground := Ground.phase }, { on := 6, ground := Ground.phase }, { on := 7, ground := Ground.phase }, { on := 8, ground := Ground.phase }, { on := 9, ground := Ground.phase }, { on := 10, ground := Ground.phase }, { on := 11, ground := Ground.phase }, { on := 12, ground := Ground.phase }, { on := 13, ground := Ground.phase }], none⟩) rfl (fun K hK => ?_) AllReadyH.nil
            have q1 : Wc.cell? ⟨gN, 0, none⟩ = some (.int .i64 0) := HN.out.cell 0
            have q2 := HN.out.frozen 0
            go_simp
            replace HN : Hid (Blk (Wc.setCell ⟨gN, 0, none⟩ (.int .i64 (0))) gN 3 #[.int .i64 (0)]) := Lib.hid (HN.out.set_ 0 _)
            try (replace HA := Lib.hid (HA.out.far (p := ⟨gN, 0, none⟩) (by first | exact HAN.out | exact HNA.out.symm) (.int .i64 (0))))
            try (replace HB := Lib.hid (HB.out.far (p := ⟨gN, 0, none⟩) (by first | exact HBN.out | exact HNB.out.symm) (.int .i64 (0))))
            replace HBw := Lib.hid (HBw.out.setCell (p := ⟨gN, 0, none⟩) HGN.out (.int .i64 (0)))
            clear q1 q2
            refine hK.out _ _ (⟨(HBw.out.cell (p := ⟨b0, off + k, none⟩) hbw0).trans X1.out, (HBw.out.cell (p := ⟨b0, off + m, none⟩) hbw0).trans X2.out⟩) (fun hH => ?_)
            clear hK K hHeld
            have hHeld := hH
            clear hH
            generalize Wc.setCell ⟨gN, 0, none⟩ (.int .i64 (0)) = Wd at *
            rename World => Wc
            try simp only [Act.put, List.setIfInBounds_toArray, List.set_cons_zero, List.set_cons_succ]
            refine wpAnyH_done (by kernel_rfl) ?_ _
            refine ⟨gA, gB, gN, ?_, HGA.out, HGB.out, HGN.out, (by first | exact HAB.out | exact HBA.out.symm), (by first | exact HAN.out | exact HNA.out.symm), (by first | exact HBN.out | exact HNB.out.symm), HA.out, HB.out, HN.out, HBw.out⟩
            kernel_rfl
          refine AllReadyH.cons (o := ⟨some 14, Op.alloc 3, 0, _, #[], none⟩) rfl (fun K hK => ?_) AllReadyH.nil
          go_simp
          have HGN := Lib.hid HBw.out.size
          try (have HAN := Lib.hid (Nat.ne_of_lt HA.out.lt))
          try (have HBN := Lib.hid (Nat.ne_of_lt HB.out.lt))
          have HN := Lib.hid (Blk.new Wc 3 #[.int .i64 0])
          try (replace HA := Lib.hid (HA.out.alloc (.cells #[.int .i64 0] 3)))
          try (replace HB := Lib.hid (HB.out.alloc (.cells #[.int .i64 0] 3)))
          replace HBw := Lib.hid (HBw.out.alloc HBw.out.size (.cells #[.int .i64 0] 3))
          refine hK.out _ _ (⟨(HBw.out.cell (p := ⟨b0, off + k, none⟩) hbw0).trans X1.out, (HBw.out.cell (p := ⟨b0, off + m, none⟩) hbw0).trans X2.out⟩) (fun hH => ?_)
          clear hK K hHeld
          have hHeld := hH
          clear hH
          generalize Wc.alloc (.cells #[.int .i64 0] 3) = Wd at *
          generalize Wc.heap.size = gN at *
          rename World => Wc
          try simp only [Act.put, List.setIfInBounds_toArray, List.set_cons_zero, List.set_cons_succ]
          refine wpAnyH_ready (rs := [9, 10]) (by kernel_rfl) (by simp) ?_
          refine AllReadyH.cons (o := ⟨some 12, Op.alloc 3, 0, _, #[], none⟩) rfl (fun K hK => ?_) ?_
          · skip
            go_simp
            have HGA := Lib.hid HBw.out.size
            try (have HBA := Lib.hid (Nat.ne_of_lt HB.out.lt))
            try (have HNA := Lib.hid (Nat.ne_of_lt HN.out.lt))
            have HA := Lib.hid (Blk.new Wc 3 #[.int .i64 0])
            try (replace HB := Lib.hid (HB.out.alloc (.cells #[.int .i64 0] 3)))
            try (replace HN := Lib.hid (HN.out.alloc (.cells #[.int .i64 0] 3)))
            replace HBw := Lib.hid (HBw.out.alloc HBw.out.size (.cells #[.int .i64 0] 3))
            refine hK.out _ _ (⟨(HBw.out.cell (p := ⟨b0, off + k, none⟩) hbw0).trans X1.out, (HBw.out.cell (p := ⟨b0, off + m, none⟩) hbw0).trans X2.out⟩) (fun hH => ?_)
            clear hK K hHeld
            have hHeld := hH
            clear hH
            generalize Wc.alloc (.cells #[.int .i64 0] 3) = Wd at *
            generalize Wc.heap.size = gA at *
            rename World => Wc
            try simp only [Act.put, List.setIfInBounds_toArray, List.set_cons_zero, List.set_cons_succ]
            refine wpAnyH_ready (rs := [10]) (by kernel_rfl) (by simp) ?_
            refine AllReadyH.cons (o := ⟨some 13, Op.alloc 3, 0, _, #[], none⟩) rfl (fun K hK => ?_) AllReadyH.nil
            go_simp
            have HGB := Lib.hid HBw.out.size
            try (have HAB := Lib.hid (Nat.ne_of_lt HA.out.lt))
            try (have HNB := Lib.hid (Nat.ne_of_lt HN.out.lt))
            have HB := Lib.hid (Blk.new Wc 3 #[.int .i64 0])
            try (replace HA := Lib.hid (HA.out.alloc (.cells #[.int .i64 0] 3)))
            try (replace HN := Lib.hid (HN.out.alloc (.cells #[.int .i64 0] 3)))
            replace HBw := Lib.hid (HBw.out.alloc HBw.out.size (.cells #[.int .i64 0] 3))
            refine hK.out _ _ (⟨(HBw.out.cell (p := ⟨b0, off + k, none⟩) hbw0).trans X1.out, (HBw.out.cell (p := ⟨b0, off + m, none⟩) hbw0).trans X2.out⟩) (fun hH => ?_)
            clear hK K hHeld
            have hHeld := hH
            clear hH
            generalize Wc.alloc (.cells #[.int .i64 0] 3) = Wd at *
            generalize Wc.heap.size = gB at *
            rename World => Wc
            try simp only [Act.put, List.setIfInBounds_toArray, List.set_cons_zero, List.set_cons_succ]
            refine wpAnyH_ready (rs := [12]) (by kernel_rfl) (by simp) ?_
            refine AllReadyH.cons (o := ⟨none, Op.store 3 (Operand.tmp 12) (Operand.tmp 52), 0, _, #[{ on := 9, ground := Ground.data }, { on := 4, ground := Ground.data }, { on := 0, ground := Ground.phase }, { on := 1, ground := Ground.phase }, { on := 2, ground := Ground.phase }, { on := 3, ground := Ground.phase }, { on := 4, ground := Ground.phase }, { on := 5, ground := Ground.textOnly Departure.lateStores }, { on := 6, ground := Ground.textOnly Departure.lateStores }, { on := 7, ground := Ground.textOnly Departure.lateStores }, { on := 8, ground := Ground.textOnly Departure.lateStores }, { on := 9, ground := Ground.phase }, { on := 10, ground := Ground.phase }, { on := 11, ground := Ground.phase }], none⟩) rfl (fun K hK => ?_) AllReadyH.nil
            have q1 : Wc.cell? ⟨gA, 0, none⟩ = some (.int .i64 0) := HA.out.cell 0
            have q2 := HA.out.frozen 0
            go_simp
            replace HA : Hid (Blk (Wc.setCell ⟨gA, 0, none⟩ (.int .i64 ((pa : Int)))) gA 3 #[.int .i64 ((pa : Int))]) := Lib.hid (HA.out.set_ 0 _)
            try (replace HB := Lib.hid (HB.out.far (p := ⟨gA, 0, none⟩) (by first | exact HBA.out | exact HAB.out.symm) (.int .i64 ((pa : Int)))))
            try (replace HN := Lib.hid (HN.out.far (p := ⟨gA, 0, none⟩) (by first | exact HNA.out | exact HAN.out.symm) (.int .i64 ((pa : Int)))))
            replace HBw := Lib.hid (HBw.out.setCell (p := ⟨gA, 0, none⟩) HGA.out (.int .i64 ((pa : Int))))
            clear q1 q2
            refine hK.out _ _ (⟨(HBw.out.cell (p := ⟨b0, off + k, none⟩) hbw0).trans X1.out, (HBw.out.cell (p := ⟨b0, off + m, none⟩) hbw0).trans X2.out⟩) (fun hH => ?_)
            clear hK K hHeld
            have hHeld := hH
            clear hH
            generalize Wc.setCell ⟨gA, 0, none⟩ (.int .i64 ((pa : Int))) = Wd at *
            rename World => Wc
            try simp only [Act.put, List.setIfInBounds_toArray, List.set_cons_zero, List.set_cons_succ]
            refine wpAnyH_ready (rs := [13]) (by kernel_rfl) (by simp) ?_
            refine AllReadyH.cons (o := ⟨none, Op.store 3 (Operand.tmp 13) (Operand.tmp 56), 0, _, #[{ on := 10, ground := Ground.data }, { on := 8, ground := Ground.data }, { on := 12, ground := Ground.chain }, { on := 0, ground := Ground.phase }, { on := 1, ground := Ground.phase }, { on := 2, ground := Ground.phase }, { on := 3, ground := Ground.phase }, { on := 4, ground := Ground.phase }, { on := 5, ground := Ground.phase }, { on := 6, ground := Ground.phase }, { on := 7, ground := Ground.phase }, { on := 8, ground := Ground.phase }, { on := 9, ground := Ground.phase }, { on := 10, ground := Ground.phase }, { on := 11, ground := Ground.phase }, { on := 12, ground := Ground.phase }], none⟩) rfl (fun K hK => ?_) AllReadyH.nil
            have q1 : Wc.cell? ⟨gB, 0, none⟩ = some (.int .i64 0) := HB.out.cell 0
            have q2 := HB.out.frozen 0
            go_simp
            replace HB : Hid (Blk (Wc.setCell ⟨gB, 0, none⟩ (.int .i64 ((pb : Int)))) gB 3 #[.int .i64 ((pb : Int))]) := Lib.hid (HB.out.set_ 0 _)
            try (replace HA := Lib.hid (HA.out.far (p := ⟨gB, 0, none⟩) (by first | exact HAB.out | exact HBA.out.symm) (.int .i64 ((pb : Int)))))
            try (replace HN := Lib.hid (HN.out.far (p := ⟨gB, 0, none⟩) (by first | exact HNB.out | exact HBN.out.symm) (.int .i64 ((pb : Int)))))
            replace HBw := Lib.hid (HBw.out.setCell (p := ⟨gB, 0, none⟩) HGB.out (.int .i64 ((pb : Int))))
            clear q1 q2
            refine hK.out _ _ (⟨(HBw.out.cell (p := ⟨b0, off + k, none⟩) hbw0).trans X1.out, (HBw.out.cell (p := ⟨b0, off + m, none⟩) hbw0).trans X2.out⟩) (fun hH => ?_)
            clear hK K hHeld
            have hHeld := hH
            clear hH
            generalize Wc.setCell ⟨gB, 0, none⟩ (.int .i64 ((pb : Int))) = Wd at *
            rename World => Wc
            try simp only [Act.put, List.setIfInBounds_toArray, List.set_cons_zero, List.set_cons_succ]
            refine wpAnyH_ready (rs := [14]) (by kernel_rfl) (by simp) ?_
            refine AllReadyH.cons (o := ⟨none, Op.store 3 (Operand.tmp 14) (Operand.const (Value.int IntKind.i64 0)), 0, _, #[{ on := 11, ground := Ground.data }, { on := 13, ground := Ground.chain }, { on := 0, ground := Ground.phase }, { on := 1, ground := Ground.phase }, { on := 2, ground := Ground.phase }, { on := 3, ground := Ground.phase }, { on := 4, ground := Ground.phase }, { on := 5, ground := Ground.phase }, { on := 6, ground := Ground.phase }, { on := 7, ground := Ground.phase }, { on := 8, ground := Ground.phase }, { on := 9, ground := Ground.phase }, { on := 10, ground := Ground.phase }, { on := 11, ground := Ground.phase }, { on := 12, ground := Ground.phase }, { on := 13, ground := Ground.phase }], none⟩) rfl (fun K hK => ?_) AllReadyH.nil
            have q1 : Wc.cell? ⟨gN, 0, none⟩ = some (.int .i64 0) := HN.out.cell 0
            have q2 := HN.out.frozen 0
            go_simp
            replace HN : Hid (Blk (Wc.setCell ⟨gN, 0, none⟩ (.int .i64 (0))) gN 3 #[.int .i64 (0)]) := Lib.hid (HN.out.set_ 0 _)
            try (replace HA := Lib.hid (HA.out.far (p := ⟨gN, 0, none⟩) (by first | exact HAN.out | exact HNA.out.symm) (.int .i64 (0))))
            try (replace HB := Lib.hid (HB.out.far (p := ⟨gN, 0, none⟩) (by first | exact HBN.out | exact HNB.out.symm) (.int .i64 (0))))
            replace HBw := Lib.hid (HBw.out.setCell (p := ⟨gN, 0, none⟩) HGN.out (.int .i64 (0)))
            clear q1 q2
            refine hK.out _ _ (⟨(HBw.out.cell (p := ⟨b0, off + k, none⟩) hbw0).trans X1.out, (HBw.out.cell (p := ⟨b0, off + m, none⟩) hbw0).trans X2.out⟩) (fun hH => ?_)
            clear hK K hHeld
            have hHeld := hH
            clear hH
            generalize Wc.setCell ⟨gN, 0, none⟩ (.int .i64 (0)) = Wd at *
            rename World => Wc
            try simp only [Act.put, List.setIfInBounds_toArray, List.set_cons_zero, List.set_cons_succ]
            refine wpAnyH_done (by kernel_rfl) ?_ _
            refine ⟨gA, gB, gN, ?_, HGA.out, HGB.out, HGN.out, (by first | exact HAB.out | exact HBA.out.symm), (by first | exact HAN.out | exact HNA.out.symm), (by first | exact HBN.out | exact HNB.out.symm), HA.out, HB.out, HN.out, HBw.out⟩
            kernel_rfl
          refine AllReadyH.cons (o := ⟨some 13, Op.alloc 3, 0, _, #[], none⟩) rfl (fun K hK => ?_) AllReadyH.nil
          go_simp
          have HGB := Lib.hid HBw.out.size
          try (have HAB := Lib.hid (Nat.ne_of_lt HA.out.lt))
          try (have HNB := Lib.hid (Nat.ne_of_lt HN.out.lt))
          have HB := Lib.hid (Blk.new Wc 3 #[.int .i64 0])
          try (replace HA := Lib.hid (HA.out.alloc (.cells #[.int .i64 0] 3)))
          try (replace HN := Lib.hid (HN.out.alloc (.cells #[.int .i64 0] 3)))
          replace HBw := Lib.hid (HBw.out.alloc HBw.out.size (.cells #[.int .i64 0] 3))
          refine hK.out _ _ (⟨(HBw.out.cell (p := ⟨b0, off + k, none⟩) hbw0).trans X1.out, (HBw.out.cell (p := ⟨b0, off + m, none⟩) hbw0).trans X2.out⟩) (fun hH => ?_)
          clear hK K hHeld
          have hHeld := hH
          clear hH
          generalize Wc.alloc (.cells #[.int .i64 0] 3) = Wd at *
          generalize Wc.heap.size = gB at *
          rename World => Wc
          try simp only [Act.put, List.setIfInBounds_toArray, List.set_cons_zero, List.set_cons_succ]
          refine wpAnyH_ready (rs := [9]) (by kernel_rfl) (by simp) ?_
          refine AllReadyH.cons (o := ⟨some 12, Op.alloc 3, 0, _, #[], none⟩) rfl (fun K hK => ?_) AllReadyH.nil
          go_simp
          have HGA := Lib.hid HBw.out.size
          try (have HBA := Lib.hid (Nat.ne_of_lt HB.out.lt))
          try (have HNA := Lib.hid (Nat.ne_of_lt HN.out.lt))
          have HA := Lib.hid (Blk.new Wc 3 #[.int .i64 0])
          try (replace HB := Lib.hid (HB.out.alloc (.cells #[.int .i64 0] 3)))
          try (replace HN := Lib.hid (HN.out.alloc (.cells #[.int .i64 0] 3)))
          replace HBw := Lib.hid (HBw.out.alloc HBw.out.size (.cells #[.int .i64 0] 3))
          refine hK.out _ _ (⟨(HBw.out.cell (p := ⟨b0, off + k, none⟩) hbw0).trans X1.out, (HBw.out.cell (p := ⟨b0, off + m, none⟩) hbw0).trans X2.out⟩) (fun hH => ?_)
          clear hK K hHeld
          have hHeld := hH
          clear hH
          generalize Wc.alloc (.cells #[.int .i64 0] 3) = Wd at *
          generalize Wc.heap.size = gA at *
          rename World => Wc
          try simp only [Act.put, List.setIfInBounds_toArray, List.set_cons_zero, List.set_cons_succ]
          refine wpAnyH_ready (rs := [12]) (by kernel_rfl) (by simp) ?_
          refine AllReadyH.cons (o := ⟨none, Op.store 3 (Operand.tmp 12) (Operand.tmp 52), 0, _, #[{ on := 9, ground := Ground.data }, { on := 4, ground := Ground.data }, { on := 0, ground := Ground.phase }, { on := 1, ground := Ground.phase }, { on := 2, ground := Ground.phase }, { on := 3, ground := Ground.phase }, { on := 4, ground := Ground.phase }, { on := 5, ground := Ground.textOnly Departure.lateStores }, { on := 6, ground := Ground.textOnly Departure.lateStores }, { on := 7, ground := Ground.textOnly Departure.lateStores }, { on := 8, ground := Ground.textOnly Departure.lateStores }, { on := 9, ground := Ground.phase }, { on := 10, ground := Ground.phase }, { on := 11, ground := Ground.phase }], none⟩) rfl (fun K hK => ?_) AllReadyH.nil
          have q1 : Wc.cell? ⟨gA, 0, none⟩ = some (.int .i64 0) := HA.out.cell 0
          have q2 := HA.out.frozen 0
          go_simp
          replace HA : Hid (Blk (Wc.setCell ⟨gA, 0, none⟩ (.int .i64 ((pa : Int)))) gA 3 #[.int .i64 ((pa : Int))]) := Lib.hid (HA.out.set_ 0 _)
          try (replace HB := Lib.hid (HB.out.far (p := ⟨gA, 0, none⟩) (by first | exact HBA.out | exact HAB.out.symm) (.int .i64 ((pa : Int)))))
          try (replace HN := Lib.hid (HN.out.far (p := ⟨gA, 0, none⟩) (by first | exact HNA.out | exact HAN.out.symm) (.int .i64 ((pa : Int)))))
          replace HBw := Lib.hid (HBw.out.setCell (p := ⟨gA, 0, none⟩) HGA.out (.int .i64 ((pa : Int))))
          clear q1 q2
          refine hK.out _ _ (⟨(HBw.out.cell (p := ⟨b0, off + k, none⟩) hbw0).trans X1.out, (HBw.out.cell (p := ⟨b0, off + m, none⟩) hbw0).trans X2.out⟩) (fun hH => ?_)
          clear hK K hHeld
          have hHeld := hH
          clear hH
          generalize Wc.setCell ⟨gA, 0, none⟩ (.int .i64 ((pa : Int))) = Wd at *
          rename World => Wc
          try simp only [Act.put, List.setIfInBounds_toArray, List.set_cons_zero, List.set_cons_succ]
          refine wpAnyH_ready (rs := [13]) (by kernel_rfl) (by simp) ?_
          refine AllReadyH.cons (o := ⟨none, Op.store 3 (Operand.tmp 13) (Operand.tmp 56), 0, _, #[{ on := 10, ground := Ground.data }, { on := 8, ground := Ground.data }, { on := 12, ground := Ground.chain }, { on := 0, ground := Ground.phase }, { on := 1, ground := Ground.phase }, { on := 2, ground := Ground.phase }, { on := 3, ground := Ground.phase }, { on := 4, ground := Ground.phase }, { on := 5, ground := Ground.phase }, { on := 6, ground := Ground.phase }, { on := 7, ground := Ground.phase }, { on := 8, ground := Ground.phase }, { on := 9, ground := Ground.phase }, { on := 10, ground := Ground.phase }, { on := 11, ground := Ground.phase }, { on := 12, ground := Ground.phase }], none⟩) rfl (fun K hK => ?_) AllReadyH.nil
          have q1 : Wc.cell? ⟨gB, 0, none⟩ = some (.int .i64 0) := HB.out.cell 0
          have q2 := HB.out.frozen 0
          go_simp
          replace HB : Hid (Blk (Wc.setCell ⟨gB, 0, none⟩ (.int .i64 ((pb : Int)))) gB 3 #[.int .i64 ((pb : Int))]) := Lib.hid (HB.out.set_ 0 _)
          try (replace HA := Lib.hid (HA.out.far (p := ⟨gB, 0, none⟩) (by first | exact HAB.out | exact HBA.out.symm) (.int .i64 ((pb : Int)))))
          try (replace HN := Lib.hid (HN.out.far (p := ⟨gB, 0, none⟩) (by first | exact HNB.out | exact HBN.out.symm) (.int .i64 ((pb : Int)))))
          replace HBw := Lib.hid (HBw.out.setCell (p := ⟨gB, 0, none⟩) HGB.out (.int .i64 ((pb : Int))))
          clear q1 q2
          refine hK.out _ _ (⟨(HBw.out.cell (p := ⟨b0, off + k, none⟩) hbw0).trans X1.out, (HBw.out.cell (p := ⟨b0, off + m, none⟩) hbw0).trans X2.out⟩) (fun hH => ?_)
          clear hK K hHeld
          have hHeld := hH
          clear hH
          generalize Wc.setCell ⟨gB, 0, none⟩ (.int .i64 ((pb : Int))) = Wd at *
          rename World => Wc
          try simp only [Act.put, List.setIfInBounds_toArray, List.set_cons_zero, List.set_cons_succ]
          refine wpAnyH_ready (rs := [14]) (by kernel_rfl) (by simp) ?_
          refine AllReadyH.cons (o := ⟨none, Op.store 3 (Operand.tmp 14) (Operand.const (Value.int IntKind.i64 0)), 0, _, #[{ on := 11, ground := Ground.data }, { on := 13, ground := Ground.chain }, { on := 0, ground := Ground.phase }, { on := 1, ground := Ground.phase }, { on := 2, ground := Ground.phase }, { on := 3, ground := Ground.phase }, { on := 4, ground := Ground.phase }, { on := 5, ground := Ground.phase }, { on := 6, ground := Ground.phase }, { on := 7, ground := Ground.phase }, { on := 8, ground := Ground.phase }, { on := 9, ground := Ground.phase }, { on := 10, ground := Ground.phase }, { on := 11, ground := Ground.phase }, { on := 12, ground := Ground.phase }, { on := 13, ground := Ground.phase }], none⟩) rfl (fun K hK => ?_) AllReadyH.nil
          have q1 : Wc.cell? ⟨gN, 0, none⟩ = some (.int .i64 0) := HN.out.cell 0
          have q2 := HN.out.frozen 0
          go_simp
          replace HN : Hid (Blk (Wc.setCell ⟨gN, 0, none⟩ (.int .i64 (0))) gN 3 #[.int .i64 (0)]) := Lib.hid (HN.out.set_ 0 _)
          try (replace HA := Lib.hid (HA.out.far (p := ⟨gN, 0, none⟩) (by first | exact HAN.out | exact HNA.out.symm) (.int .i64 (0))))
          try (replace HB := Lib.hid (HB.out.far (p := ⟨gN, 0, none⟩) (by first | exact HBN.out | exact HNB.out.symm) (.int .i64 (0))))
          replace HBw := Lib.hid (HBw.out.setCell (p := ⟨gN, 0, none⟩) HGN.out (.int .i64 (0)))
          clear q1 q2
          refine hK.out _ _ (⟨(HBw.out.cell (p := ⟨b0, off + k, none⟩) hbw0).trans X1.out, (HBw.out.cell (p := ⟨b0, off + m, none⟩) hbw0).trans X2.out⟩) (fun hH => ?_)
          clear hK K hHeld
          have hHeld := hH
          clear hH
          generalize Wc.setCell ⟨gN, 0, none⟩ (.int .i64 (0)) = Wd at *
          rename World => Wc
          try simp only [Act.put, List.setIfInBounds_toArray, List.set_cons_zero, List.set_cons_succ]
          refine wpAnyH_done (by kernel_rfl) ?_ _
          refine ⟨gA, gB, gN, ?_, HGA.out, HGB.out, HGN.out, (by first | exact HAB.out | exact HBA.out.symm), (by first | exact HAN.out | exact HNA.out.symm), (by first | exact HBN.out | exact HNB.out.symm), HA.out, HB.out, HN.out, HBw.out⟩
          kernel_rfl
        case cutB =>
          rintro gA gB gN Wd ⟨HGA, HGB, HGN, HAB, HAN, HBN, HA, HB, HN, HBw⟩
          simp only [updS, List.foldl_cons, List.foldl_nil, List.setIfInBounds_toArray, List.set_cons_zero, List.set_cons_succ]
          have HT1 := Lib.hid (fun p (h : p < gs.length) (h2 : p < kds.length) => (HLV3.out.blk p h h2).touch HT.out (HgN0.out p h))
          have HLd : Hid (∀ p (h : p < gs.length) (h2 : p < kds.length), Blk Wd gs[p] 3 (ints (kL kds[p] (s.length + 1))).toArray) := Lib.hid fun p h h2 => (HT1.out p h h2).below HBw (HT1.out p h h2).lt
          have HLg : Hid (∀ p (h : p < gs.length) (h2 : p < kds.length), gs[p] < V.heap.size) := Lib.hid fun p h h2 => (HT1.out p h h2).lt
          have hOd := owns_below (owns_touch HO3.out HT.out (fun q e1 e2 => by subst e2; exact owns_apart HO3.out HC1.out (by decide) e1)) HBw (Nat.le_refl _)
          have hOne := owns_apart hOd HN (by decide)
          obtain ⟨Aq, cq, eq1, _, hRd⟩ := owns_cells hOd
          injection eq1 with eq1 _ eq2
          subst eq1
          subst eq2
          have HLc : Hid (0 < L → ∃ b off, Av = some ⟨b, off, none⟩ ∧ b < (Wd.alloc (.cells #[.slice Av L cv] 57)).heap.size ∧ b ≠ gN ∧ ∀ j (hj : j < gs.length), (Wd.alloc (.cells #[.slice Av L cv] 57)).cell? ⟨b, off + j, none⟩ = some (.slice (some ⟨gs[j], 0, none⟩) (s.length + 1) (s.length + 1))) := Lib.hid fun h => by
            obtain ⟨b, off, e, hb, hc⟩ := hRd.2 h
            refine ⟨b, off, e, by simp; omega, fun e2 => hOne (by rw [e, e2]; rfl), fun j hj => ?_⟩
            rw [World.cell?_alloc_lt _ _ _ hb]
            exact hc j _ (lvv_get _ _ j hj)
          obtain ⟨AL, hAL⟩ : ∃ AL, alike (s.drop pa) (s.drop pb) = AL := ⟨_, rfl⟩
          have HAL : Hid (AL < 2 ^ L) := Lib.hid (by rw [← hAL]; exact Hlast.out pa pb Hpab.out.2.1 Hpab.out.2.2 Hpab.out.1)
          have HALs : Hid (AL ≤ 1000000) := Lib.hid (by
            have := (alike_le (s.drop pa) (s.drop pb)).1
            rw [List.length_drop] at this
            have := Hs.out
            omega)
          have Hheld : Hid (∀ p (h : p < kds.length) nn, nn ≤ AL → pa + nn ≤ s.length ∧ pb + nn ≤ s.length ∧ (kds[p] (pa + nn) = kds[p] (pb + nn) ↔ nn + 2 ^ p ≤ AL)) := Lib.hid fun p h nn hnn => by
            obtain ⟨row9, hse9⟩ := HLV3.out.se p h
            rw [← hAL] at hnn ⊢
            exact hse9.held pa pb nn Hpab.out.2.1 Hpab.out.2.2 Hpab.out.1 hnn
          have Hscm2 : Hid (scm s a m = (AL : Int)) := Lib.hid (by rw [Hscm.out, alike_comm, hAL])
          have Hlen : Hid (gs.length = L ∧ kds.length = L) := Lib.hid ⟨Hgl.out, by rw [HLV3.out.len]; exact Hgl.out⟩
          have HA2 := Lib.hid (HA.alloc (.cells #[.slice Av L cv] 57))
          have HB2' := Lib.hid (HB.alloc (.cells #[.slice Av L cv] 57))
          have HN2 := Lib.hid (HN.alloc (.cells #[.slice Av L cv] 57))
          have HM2 := Lib.hid ((HM.out.below HBw).below ((Below.refl _ _).alloc (Nat.le_refl _) (.cells #[.slice Av L cv] 57)))
          have hBs : (Wd.alloc (.cells #[.slice Av L cv] 57)).cell? ⟨Wd.heap.size, 0, none⟩ = some (.slice Av L cv) := (Blk.new Wd 57 #[.slice Av L cv]).cell 0
          have HBs := Lib.hid hBs
          have HNl := Lib.hid HN.lt
          have hOd2 := hOd.alloc (.cells #[.slice Av L cv] 57)
          have HTd : Hid (Touch W1 (Wd.alloc (.cells #[.slice Av L cv] 57)) (fun j => j = gC)) := Lib.hid ((HT.out.next (touch_below (S := fun j => j = gC) HBw (Nat.le_refl _)) (fun _ _ h => h)).alloc _)
          have HCd := Lib.hid ((HC.out.below HBw HC.out.lt).alloc (.cells #[.slice Av L cv] 57))
          have HCg : Hid (gC < V.heap.size) := Lib.hid HC.out.lt
          have HGs := Lib.hid (And.intro HGA (And.intro HGB (And.intro HGN (And.intro HAB (And.intro HAN HBN)))))
          have HL63 : Hid (L ≤ 1000000) := Lib.hid (by have h9 : L < 2 ^ L := Nat.lt_two_pow_self; exact Hlb.out)
          have HTs := Lib.hid HT.out.size
          clear HGA HGB HGN HAB HAN HBN HA HB HN hBs hOd hOd2 hOne hRd hAL HT1 HT HC HM
          go_wp2_with (go_at_call 30; refine (sbackward_any _ _ _ _).mono ?_; rintro e w' ⟨rfl, rfl⟩)
          have HLd2 : Hid (∀ p (h : p < gs.length) (h2 : p < kds.length), Blk (Wd.alloc (.cells #[.slice Av L cv] 57)) gs[p] 3 (ints (kL kds[p] (s.length + 1))).toArray) := Lib.hid fun p h h2 => (HLd.out p h h2).alloc _
          have HWs : Hid ((Wd.alloc (.cells #[.slice Av L cv] 57)).heap.size = Wd.heap.size + 1) := Lib.hid (by simp)
          clear HLd
          generalize Wd.alloc (.cells #[.slice Av L cv] 57) = W2 at *
          generalize Wd.heap.size = gS at *
          refine s_range (α := SLv L) (fun (T : Array Value) (x : SLv L) => (((T.setIfInBounds 59 (.int .i64 (x.1 : Int))).setIfInBounds 60 (.slice (some ⟨(gs[x.1]'(by rw [Hlen.out.1]; exact x.2)), 0, none⟩) (s.length + 1) (s.length + 1))).setIfInBounds 15 (.int .i64 (x.1 : Int))).setIfInBounds 16 (.slice (some ⟨(gs[x.1]'(by rw [Hlen.out.1]; exact x.2)), 0, none⟩) (s.length + 1) (s.length + 1)))
            rfl (enters_of Try.func43 (by kernel_rfl) rfl)
            (sback_stops (F := Fence.wide) (n := 8) trivial rfl (by omega) gS gN W2.heap.size cv (s.length + 1) L Av gs Hlen.out.1 (by have := HL63.out; omega) W2 (Nat.le_refl _) (by have := HWs.out; omega) (by have := HNl.out; omega) HBs.out HLc.out)
            (fun h k => h.trans k) (skp_b (Nat.le_refl _)) (Below.refl _ _) (fun _ => rfl)
            (fun pre W => (W.cell? ⟨gN, 0, none⟩ = some (.int .i64 ((cfold AL (pre.map (·.1)) : Nat) : Int)) ∧ W.frozen? ⟨gN, 0, none⟩ = false) ∧ Touch W2 W (fun k => k = gN ∨ W2.heap.size ≤ k))
            (OwnFrom.and (Own.from (fun s A B row hs hg hr => ⟨cell_kept hs.1 hg hr, (frozen_kept hs.1 hg hr).trans hs.2⟩) _) (ownFrom_touch fun k h => Or.inr h))
            ⟨⟨HN2.out.cell 0, HN2.out.frozen 0⟩, Touch.refl _ _⟩ ?assign ?body ?done
          case assign =>
            intro l x W K hK
            gi_wp2
            exact hK
          case body =>
            rintro l pre ⟨p, hp⟩ W ⟨⟨hc, hf⟩, hT⟩ _
            dsimp only
            simp only [List.setIfInBounds_toArray, List.set_cons_zero, List.set_cons_succ]
            have hpg : p < gs.length := by rw [Hlen.out.1]; exact hp
            have hpk : p < kds.length := by rw [Hlen.out.2]; exact hp
            have hnn := cfold_le AL (pre.map (·.1))
            have Hstep : Hid (cfold AL ((pre ++ [(⟨p, hp⟩ : SLv L)]).map (·.1)) = cstep AL (cfold AL (pre.map (·.1))) p) := Lib.hid (by rw [List.map_append]; exact cfold_snoc _ _ _)
            generalize cfold AL (pre.map (·.1)) = nn at *
            obtain ⟨hh1, hh2, hh3⟩ := Hheld.out p hpk nn hnn
            have hAb := HA2.out.touch hT (fun h => by rcases h with h | h; exact HGs.out.2.2.2.2.1 h; have := HA2.out.lt; omega)
            have hBb := HB2'.out.touch hT (fun h => by rcases h with h | h; exact HGs.out.2.2.2.2.2 h; have := HB2'.out.lt; omega)
            have cA : W.cell? ⟨gA, 0, none⟩ = some (.int .i64 (pa : Int)) := hAb.cell 0
            have cB : W.cell? ⟨gB, 0, none⟩ = some (.int .i64 (pb : Int)) := hBb.cell 0
            have hBk := (HLd2.out p hpg hpk).touch hT (fun h => by rcases h with h | h; have := HLg.out p hpg hpk; have := HGs.out.2.2.1; omega; have := (HLd2.out p hpg hpk).lt; omega)
            have x1 := kL_cell hBk (pa + nn) (by omega)
            have x2 := kL_cell hBk (pb + nn) (by omega)
            have HTw := Lib.hid hT
            have hAi : (AL : Int) ≤ 1000000 := by have := HALs.out; omega
            have hsi := Hs.out
            have hii : ((0 : Int) ≤ (pa : Int) + (nn : Int) ∧ (pa : Int) + (nn : Int) < (s.length : Int) + 1) ∧ (0 : Int) ≤ (pb : Int) + (nn : Int) ∧ (pb : Int) + (nn : Int) < (s.length : Int) + 1 := by omega
            have hi1 := hii.1
            have hi2 := hii.2
            have hwa : IntKind.i64.wrap ((pa : Int) + (nn : Int)) = (pa : Int) + (nn : Int) := by rw [IntKind.wrap_i64]; omega
            have hwb : IntKind.i64.wrap ((pb : Int) + (nn : Int)) = (pb : Int) + (nn : Int) := by rw [IntKind.wrap_i64]; omega
            have hgN : gN < W2.heap.size := HN2.out.lt
            by_cases hk : kds[p] (pa + nn) = kds[p] (pb + nn)
            · have hle := hh3.1 hk
              have b1 : ((kds[p] (pa + nn) : Int) == (kds[p] (pb + nn) : Int)) = true := by rw [hk]; simp
              obtain ⟨Q2, HQ2⟩ : ∃ Q2, Hid (2 ^ p = Q2) := ⟨_, Lib.hid rfl⟩
              rw [HQ2.out] at hle
              have hqi : (0 : Int) ≤ (nn : Int) ∧ (nn : Int) + (Q2 : Int) ≤ 1000000 ∧ (0 : Int) ≤ (Q2 : Int) := by omega
              have hmin : min p 64 = p := by
                by_cases h64 : p ≤ 64
                · exact Nat.min_eq_left h64
                · exfalso
                  have h9 : 2 ^ 64 ≤ 2 ^ p := Nat.pow_le_pow_right (by omega) (by omega)
                  rw [HQ2.out] at h9
                  omega
              have hpow : (2 : Int) ^ p = (Q2 : Int) := by rw [← HQ2.out]; simp
              have hwq : IntKind.i64.wrap (Q2 : Int) = (Q2 : Int) := by rw [IntKind.wrap_i64]; omega
              have hwn : IntKind.i64.wrap ((nn : Int) + (Q2 : Int)) = (nn : Int) + (Q2 : Int) := by rw [IntKind.wrap_i64]; omega
              have Hst2 : Hid (cfold AL ((pre ++ [(⟨p, hp⟩ : SLv L)]).map (·.1)) = nn + Q2) := Lib.hid (by rw [Hstep.out]; unfold cstep; rw [HQ2.out, if_pos hle])
              generalize kds[p] (pa + nn) = ka at *
              generalize kds[p] (pb + nn) = kb at *
              generalize gs[p] = gp at *
              clear hh1 hh2 hh3 hAb hBb hBk hT hk hle hnn Hstep hii
              gi_wp2
              refine round_quiet_lit (by kernel_rfl) (by kernel_rfl) (by kernel_rfl) (by rintro ⟨_, _, h⟩; exact h) ?_
              repeat (go_big_quiet_step (fail))
              refine wpQuiet_nil ?_
              intro _ hwq
              obtain ⟨nq, hwq2⟩ := hwq
              subst hwq2
              gi_wp2
              refine round_any_lit (by kernel_rfl) (by kernel_rfl) (by rintro ⟨_, _, h⟩; exact h) ?_
              refine wpAny_take (i := 1) (v := ?_) rfl (by kernel_rfl) (by kernel_rfl) (by kernel_rfl) (fun _ _ _ h => h) (Or.inl ⟨by rfl, ?_⟩) ?_
              rotate_left
              · (intro wz; go_simp; try (with_reducible rfl))
              try simp only [Act.put, List.setIfInBounds_toArray, List.set_cons_zero, List.set_cons_succ]
              refine wpAny_take (i := 2) (v := ?_) rfl (by kernel_rfl) (by kernel_rfl) (by kernel_rfl) (fun _ _ _ h => h) (Or.inl ⟨by rfl, ?_⟩) ?_
              rotate_left
              · (intro wz; go_simp; try (with_reducible rfl))
              try simp only [Act.put, List.setIfInBounds_toArray, List.set_cons_zero, List.set_cons_succ]
              refine wpAny_ready (rs := [0]) (by kernel_rfl) (by simp) ?_
              refine AllReady.cons rfl (fun K hK => ?_) AllReady.nil
              replace hK := Lib.hid hK
              go_simp
              refine hK.out _ _ ?_
              clear hK K
              try simp only [Act.put, List.setIfInBounds_toArray, List.set_cons_zero, List.set_cons_succ]
              refine wpAny_take (i := 3) (v := ?_) rfl (by kernel_rfl) (by kernel_rfl) (by kernel_rfl) (fun _ _ _ h => h) (Or.inl ⟨by rfl, ?_⟩) ?_
              rotate_left
              · (intro wz; go_simp; try (with_reducible rfl))
              try simp only [Act.put, List.setIfInBounds_toArray, List.set_cons_zero, List.set_cons_succ]
              refine wpAny_ready (rs := [4]) (by kernel_rfl) (by simp) ?_
              refine AllReady.cons rfl (fun K hK => ?_) AllReady.nil
              replace hK := Lib.hid hK
              go_simp
              refine hK.out _ _ ?_
              clear hK K
              try simp only [Act.put, List.setIfInBounds_toArray, List.set_cons_zero, List.set_cons_succ]
              refine wpAny_done (by kernel_rfl) ?_ _
              have htw : Touch W ((W.drewN (nq + 1)).setCell ⟨gN, 0, none⟩ (.int .i64 ((nn : Int) + (Q2 : Int)))) (fun k => k = gN) := ((Touch.refl W (fun k => k = gN)).drewN (nq + 1)).set (p := ⟨gN, 0, none⟩) (Or.inl rfl) _
              have hval : (nn : Int) + (Q2 : Int) = ((nn + Q2 : Nat) : Int) := by omega
              have hcell : ((W.drewN (nq + 1)).setCell ⟨gN, 0, none⟩ (.int .i64 ((nn : Int) + (Q2 : Int)))).cell? ⟨gN, 0, none⟩ = some (.int .i64 ((cfold AL ((pre ++ [(⟨p, hp⟩ : SLv L)]).map (·.1)) : Nat) : Int)) := by
                rw [Hst2.out, ← hval]
                exact World.cell?_setCell_same' _ _ _ (by rw [show (W.drewN (nq + 1)).cell? ⟨gN, 0, none⟩ = _ from hc]; rfl)
              have hfr : ((W.drewN (nq + 1)).setCell ⟨gN, 0, none⟩ (.int .i64 ((nn : Int) + (Q2 : Int)))).frozen? ⟨gN, 0, none⟩ = false := by
                rw [World.frozen?_setCell]
                exact hf
              exact ⟨keeps_touch htw hgN, htw.mono (fun k _ h => Or.inl h), ⟨hcell, hfr⟩, HTw.out.trans (htw.mono' (fun k h => Or.inl h))⟩
            · have hle : ¬ nn + 2 ^ p ≤ AL := fun h => hk (hh3.2 h)
              have b1 : ((kds[p] (pa + nn) : Int) == (kds[p] (pb + nn) : Int)) = false := by rw [beq_eq_false_iff_ne]; omega
              have Hst2 : Hid (cfold AL ((pre ++ [(⟨p, hp⟩ : SLv L)]).map (·.1)) = nn) := Lib.hid (by rw [Hstep.out]; unfold cstep; rw [if_neg hle])
              generalize kds[p] (pa + nn) = ka at *
              generalize kds[p] (pb + nn) = kb at *
              generalize gs[p] = gp at *
              clear hh1 hh2 hh3 hAb hBb hBk hT hk hle hnn Hstep hii
              gi_wp2
              refine round_quiet_lit (by kernel_rfl) (by kernel_rfl) (by kernel_rfl) (by rintro ⟨_, _, h⟩; exact h) ?_
              repeat (go_big_quiet_step (fail))
              refine wpQuiet_nil ?_
              intro _ hwq
              obtain ⟨nq, hwq2⟩ := hwq
              subst hwq2
              gi_wp2
              have htw : Touch W (W.drewN nq) (fun k => k = gN) := (Touch.refl W (fun k => k = gN)).drewN nq
              exact ⟨keeps_touch htw hgN, htw.mono (fun k _ h => Or.inl h), ⟨by rw [Hst2.out]; exact hc, hf⟩, HTw.out.trans (htw.mono' (fun k h => Or.inl h))⟩
          case done =>
            rintro D xs W hD hS ⟨⟨hc, hf⟩, hT⟩ hDW
            have hfin : cfold AL (xs.map (·.1)) = AL := by rw [hS]; exact cfold_all AL L HAL.out
            rw [hfin] at hc
            have hCne : gC ≠ gN := by have := HGs.out.2.2.1; have := HCg.out; omega
            have hCW := HCd.out.touch hT (fun h => by rcases h with h | h; exact hCne h; have := HCd.out.lt; omega)
            have x5 := gblk_cell hCW m (by rw [cmL_len]; exact hlt)
            have x6 := hCW.frozen m
            generalize (cmL s a n m)[m]'(by rw [cmL_len]; exact hlt) = vold at x5
            have Hfin : Hid (∀ Wf : World, Wf = W.setCell ⟨gC, m, none⟩ (.int .i64 (AL : Int)) → Blk Wf gC 3 (ints (cmL s a n (m + 1))).toArray ∧ Touch W1 Wf (fun j => j = gC) ∧ Marks w.heap.size Wf ({ target := .collected D, args := #[] } :: ds)) := Lib.hid fun Wf e => by
              subst e
              refine ⟨?_, ?_, ?_⟩
              · rw [← cmL_set, Hscm2.out, ← gints_set]
                exact hCW.set_ m _
              · refine Touch.set (HTd.out.next hT fun i hi h => ?_) (p := ⟨gC, m, none⟩) (Or.inl rfl) _
                exfalso
                have h1 := HTs.out
                have h2 := HGs.out.2.2.1
                have h3 := HNl.out
                have h4 := HWs.out
                rcases h with h | h <;> omega
              · have hM1 : Marks w.heap.size W ds := HM2.out.touch hT fun k hk h => by
                  rcases h with h | h
                  · rw [h]; exact ⟨_, HN2.out, rfl⟩
                  · omega
                have ht3 : Touch W (W.setCell ⟨gC, m, none⟩ (.int .i64 (AL : Int))) (fun j => j = gC) := (Touch.refl W (fun j => j = gC)).set (p := ⟨gC, m, none⟩) (Or.inl rfl) _
                have hM2 := hM1.touch ht3 fun k hk h => by rw [h]; exact ⟨_, hCW, rfl⟩
                refine hM2.cons ?_ (Nat.le_trans (Nat.le_trans (Nat.le_trans HBq.out.size HTs.out) HGs.out.2.2.1) (Nat.le_trans (Nat.le_of_lt HN2.out.lt) hD)) ?_ _
                · refine (ht3.block D (Array.getElem?_eq_some_iff.1 hDW).1 fun e => ?_).trans hDW
                  have := HCd.out.lt
                  omega
                · intro d hd E e
                  exact HM2.out.far hD d hd E e
            have HKK2 := Lib.hid HKK
            clear hT hDW hS hfin hCne hCW hf
            go_wp2
            obtain ⟨f1, f2, f3⟩ := Hfin.out _ rfl
            exact HKK.out _ _ _ (by kernel_rfl) ⟨m, m + 1, rfl, by omega, iv (by omega), Lib.hid f1, Lib.hid f2, Lib.hid f3⟩ (by show n - ((m : Int) + 1).toNat < n - (m : Int).toNat; omega)
      · have hii : ¬ (m : Int) < (n : Int) := by omega
        have hmn : m = n := by omega
        have HF : Hid (Blk V gC 3 (ints (scmL s a n)).toArray) := Lib.hid (by have h9 := HC.out; rw [hmn, cmL_all] at h9; exact h9)
        clear hmn
        go_wp2
        refine leaves_marks (RV := fun W => Blk W gC 3 (ints (scmL s a n)).toArray ∧ Below w.heap.size w W) (fun W D hW hD hDB => ?_) (fun W hW => ?_) _ _ HM.out ⟨HF.out, HVb.out⟩
        · obtain ⟨o, ho, hoc⟩ := hD
          have hne : gC ≠ D := fun e => by
            subst e
            have h9 : W.heap[gC]? = some (.cells (ints (scmL s a n)).toArray 3 (0, 0)) := hW.1
            rw [h9] at ho
            injection ho with ho
            rw [← ho] at hoc
            cases hoc
          exact ⟨(World.putObj_heap_other hne).trans hW.1, hW.2.grown (grownBy_putObj' W D _) hW.2.size (fun k e => by injection e with e; subst e; exact hDB)⟩
        · refine ⟨_, results_tmp2 rfl _ _ _, ?_⟩
          exact lpost_blk (scmL_len s a n) hW.1 hW.2
    · have hlt := HE.out.se.more hap
      rw [decide_eq_false hap] at HAp
      have Hlt := Lib.hid hlt
      have H1 : Hid (1 ≤ h) := Lib.hid (by rw [Hh.out]; exact Nat.one_le_two_pow)
      have Hnxt := Lib.hid fun W H => Hnx.out h row kd A c g W H1.out (by omega) H
      clear hap Hnx Hap hlt
      have hLb : L ≤ 1000000 := by
        have h1 : L < 2 ^ L := Nat.lt_two_pow_self
        have := Hlt.out
        have := Hh.out
        have := Hs.out
        omega
      go_wp2_with (first
        | (go_at_call 21; refine HAp.out.mono ?_; rintro e w2 ⟨rfl, hb2⟩; have HX2 := Lib.hid (HX.out.below hb2 HX.out.lt); have HE2 := Lib.hid (HE.out.below hb2); have HLV2 := Lib.hid (HLV.out.below hb2); have HO2 := Lib.hid (owns_below HO.out hb2 (Nat.le_refl _)); have HB2 := Lib.hid (HB.out.trans (hb2.mono HB.out.size)); have d0 : w2.cell? ⟨gx, 0, none⟩ = some (.slice A (s.length + 1) c) := HX2.out.cell 0; have d1 : w2.cell? ⟨gx, 1, none⟩ = some (.slice (some ⟨g, 0, none⟩) (s.length + 1) (s.length + 1)) := HX2.out.cell 1; have d2 : w2.cell? ⟨gx, 2, none⟩ = some (.int .i64 (h : Int)) := HX2.out.cell 2; clear hb2 c0' c1' c2')
        | (at_builtin; refine wpList_append_sep _ rfl _ _ 57 rfl w1.heap.size 22 i0 (.slice none 0 0) 1 24 Try.underlying57 hi hz0 hz1 hz9 rfl (by decide) _ _ _ rfl (HO2.out.alloc _) _ 1 1 _ _ rfl (reads_new w2 22 #[.slice (some ⟨g, 0, none⟩) (s.length + 1) (s.length + 1)] 1 1 rfl) ?c1 ?c2 ?c3 ?c4 ?_))
      case c1 => exact rfl
      case c2 => unfold maxLen; omega
      case c3 => omega
      case c4 => have := HB2.out.size; first | omega | (simp; omega)
      intro v3 w3 hown3 hgrow hsep
      have hOm := HO2.out.alloc (.cells #[.slice (some ⟨g, 0, none⟩) (s.length + 1) (s.length + 1)] 22)
      have hXm := HX2.out.alloc (.cells #[.slice (some ⟨g, 0, none⟩) (s.length + 1) (s.length + 1)] 22)
      have HX3 := Lib.hid (hXm.grow' hgrow (owns_apart hOm hXm (by decide)))
      have hEm := HE2.out.below ((Below.refl _ _).alloc (Nat.le_refl _) (.cells #[.slice (some ⟨g, 0, none⟩) (s.length + 1) (s.length + 1)] 22))
      have HE3 := Lib.hid (hEm.grown hgrow Hne.out (owns_apart hOm hEm.kinds (by decide)))
      have hLV3 := (HLV2.out.below ((Below.refl _ _).alloc (Nat.le_refl _) (.cells #[.slice (some ⟨g, 0, none⟩) (s.length + 1) (s.length + 1)] 22))).keep fun g' cs hg => hg.grow' hgrow (owns_apart hOm hg (by decide))
      have HLV3 := Lib.hid (hLV3.snoc (row := row) (kd := kd) (g := g) (by rw [Hgl.out, ← Hh.out]; exact HE3.out.se) HE3.out.kinds)
      obtain ⟨A3, c3, rfl, hc3, _⟩ := owns_cells hown3
      rw [← lvv_snoc] at hown3
      have HO3 := Lib.hid hown3
      have HB3 : Hid (Below w1.heap.size w1 w3) := Lib.hid ((HB2.out.trans ((Below.refl _ _).alloc HB2.out.size _)).grown hgrow (by have := HB2.out.size; simp; omega) (fun k hk => (HO2.out.lt k hk).1))
      have d0' : w3.cell? ⟨gx, 0, none⟩ = some (.slice A (s.length + 1) c) := HX3.out.cell 0
      have d1' : w3.cell? ⟨gx, 1, none⟩ = some (.slice (some ⟨g, 0, none⟩) (s.length + 1) (s.length + 1)) := HX3.out.cell 1
      have d2' : w3.cell? ⟨gx, 2, none⟩ = some (.int .i64 (h : Int)) := HX3.out.cell 2
      have hgxl := HX3.out.lt
      clear hOm hXm hEm hLV3 hown3 hgrow hsep d0 d1 d2
      go_wp2_with (go_at_call 22; refine (Hnxt.out _ (HE3.out.below ((Below.refl _ _).alloc (Nat.le_refl _) _))).mono ?_; rintro e w5 ⟨A5, c5, g5, row5, kd5, rfl, hN5, hE5, hb5⟩; have HX5 := Lib.hid ((Blk.new w3 48 #[.slice A (s.length + 1) c, .slice (some ⟨g, 0, none⟩) (s.length + 1) (s.length + 1), .int .i64 (h : Int)]).below hb5 (by simp)); have e0 := HX5.out.cell 0; have e1 := HX5.out.cell 1; have e2 := HX5.out.cell 2; simp only [List.getElem?_toArray, List.getElem?_cons_zero, List.getElem?_cons_succ] at e0 e1 e2; have f0 := HX5.out.frozen 0; have f1 := HX5.out.frozen 1; have f2 := HX5.out.frozen 2; have HE5 := Lib.hid hE5; have HN5 := Lib.hid hN5; have Hb5 := Lib.hid hb5; clear hE5 hN5 hb5)
      have Hrel := Lib.hid (crel_next (gk := gk) (L := L) (by rw [List.length_append, Hgl.out]; rfl) HLV3.out HO3.out HB3.out (Nat.le_refl _) rfl Hh.out Hlt.out Hlp.out Hgk.out HE5.out HN5.out Hb5.out)
      go_roundg (gk - 1)
      case rel => exact ⟨L + 1, A3, c3, _, rfl, rfl, Hrel⟩
      case measure => have := Hh.out; have := Hgk.out; have := Hlt.out; omega
end Go.Proofs.Ytngenehleelcmaa
