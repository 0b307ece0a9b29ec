/-
  The frames of a beginning of bytes are the first ones of all of them; a frame more behind those that are scanned is scanned, too; the layer's probe holds (FramePrefix). No condition.
-/
import Derived.Test.YtodllghfcdbbpaaFrmL2
namespace Go.Proofs.Ytodllghfcdbbpaa
set_option linter.unusedSimpArgs false
set_option linter.unusedVariables false
open Go.ChangeShapes Go.WideShapes Go.ChangeAt Go.RowKit Go.Joins Go.Deep
set_option maxHeartbeats 2000000 in
theorem framePrefix_far0 (s : List UInt8) (c : Int) (b : List UInt8) (w : World) (h : 20000 < s.length) :
    Calls Try.prog 6 #[.string ⟨s.toArray⟩, .int .i64 c, .string ⟨b.toArray⟩] w fun e w' => e = .returned (.bool true) ∧ Below w.heap.size w w' := by
  have h1 : (20000 : Int) < s.length := by omega
  go_enter Try.func6, Try.ntmps6
  go_wp2_with (go_at_call 8; refine (awake16_any _).mono ?_; rintro e w9 ⟨rfl, hb9⟩)
  go_ret
  exact ⟨rfl, hb9⟩
set_option maxHeartbeats 2000000 in
theorem framePrefix_far1 (s : List UInt8) (c : Int) (b : List UInt8) (w : World) (h : s.length ≤ 20000) (h2 : c < 0) :
    Calls Try.prog 6 #[.string ⟨s.toArray⟩, .int .i64 c, .string ⟨b.toArray⟩] w fun e w' => e = .returned (.bool true) ∧ Below w.heap.size w w' := by
  have h1 : ¬ (20000 : Int) < s.length := by omega
  go_enter Try.func6, Try.ntmps6
  go_wp2_with (go_at_call 8; refine (awake16_any _).mono ?_; rintro e w9 ⟨rfl, hb9⟩)
  go_ret
  exact ⟨rfl, hb9⟩
set_option maxHeartbeats 2000000 in
theorem framePrefix_far2 (s : List UInt8) (c : Int) (b : List UInt8) (w : World) (h : s.length ≤ 20000) (h2 : 0 ≤ c) (h3 : (s.length : Int) < c) :
    Calls Try.prog 6 #[.string ⟨s.toArray⟩, .int .i64 c, .string ⟨b.toArray⟩] w fun e w' => e = .returned (.bool true) ∧ Below w.heap.size w w' := by
  have h1 : ¬ (20000 : Int) < s.length := by omega
  have h4 : ¬ c < 0 := by omega
  go_enter Try.func6, Try.ntmps6
  go_wp2_with (go_at_call 8; refine (awake16_any _).mono ?_; rintro e w9 ⟨rfl, hb9⟩)
  go_ret
  exact ⟨rfl, hb9⟩
set_option maxHeartbeats 2000000 in
theorem framePrefix_far3 (s : List UInt8) (c : Int) (b : List UInt8) (w : World) (h : s.length ≤ 20000) (h2 : 0 ≤ c) (h3 : c ≤ (s.length : Int)) (h5 : 2000 < b.length) :
    Calls Try.prog 6 #[.string ⟨s.toArray⟩, .int .i64 c, .string ⟨b.toArray⟩] w fun e w' => e = .returned (.bool true) ∧ Below w.heap.size w w' := by
  have h1 : ¬ (20000 : Int) < s.length := by omega
  have h4 : ¬ c < 0 := by omega
  have h6 : ¬ (s.length : Int) < c := by omega
  have h7 : (2000 : Int) < b.length := by omega
  go_enter Try.func6, Try.ntmps6
  go_wp2_with (go_at_call 8; refine (awake16_any _).mono ?_; rintro e w9 ⟨rfl, hb9⟩)
  go_ret
  exact ⟨rfl, hb9⟩
structure FPre (s b : List UInt8) (c : Nat) (A B R : List Fr) (e1 e2 : Nat) : Prop where
  all : fscanF s 0 = (A, (e1 : Int))
  some : fscanF (s.take c) 0 = (B, (e2 : Int))
  more : fscanF (s.take e1 ++ fB 2 b) 0 = (A ++ [(2, b, (e1 : Int), (e1 : Int) + ((9 + b.length : Nat) : Int))], ((e1 + (9 + b.length) : Nat) : Int))
  app : A = B ++ R
  far : ∀ f ∈ R.head?, (c : Int) < f.2.2.2
  hi1 : e1 ≤ s.length
  hi2 : e2 ≤ c
  few : A.length ≤ s.length
theorem fpre_of (s b : List UInt8) (c : Nat) (hc : c ≤ s.length) (hb : b.length ≤ 60000) : ∃ A B R e1 e2, FPre s b c A B R e1 e2 := by
  obtain ⟨e1, hA, hA2⟩ : ∃ e : Nat, FScan s 0 (fscanF s 0).1 e ∧ (fscanF s 0).2 = (e : Int) := fscan_is s 0 (Nat.zero_le _)
  obtain ⟨e2, hB, hB2⟩ : ∃ e : Nat, FScan (s.take c) 0 (fscanF (s.take c) 0).1 e ∧ (fscanF (s.take c) 0).2 = (e : Int) := fscan_is (s.take c) 0 (Nat.zero_le _)
  obtain ⟨R, hR, hRh⟩ := fscan_cut hc hB (Nat.zero_le _) hA
  have k1 := hA.bounds
  have k2 := hB.bounds
  have k3 := k2.2.1 (Nat.zero_le _)
  rw [List.length_take] at k3
  have hi := k1.2.1 (Nat.zero_le _)
  have hi2 : e2 ≤ c := by omega
  have hfew : (fscanF s 0).1.length ≤ s.length := by have := k1.2.2; omega
  exact ⟨_, _, R, e1, e2, Prod.ext rfl hA2, Prod.ext rfl hB2, fscan_told (fscan_one 2 (by omega) (by omega) hb hA hi), hR, hRh, hi, hi2, hfew⟩
set_option maxRecDepth 100000 in
set_option maxHeartbeats 8000000 in
theorem framePrefix_nearE (s : List UInt8) (c : Nat) (b : List UInt8) (w : World) (h : s.length ≤ 20000) (hc : c ≤ s.length) (hb : b.length ≤ 2000) (A B R : List Fr) (e1 e2 : Nat) (H : FPre s b c A B R e1 e2) (hR : R = []) :
    Calls Try.prog 6 #[.string ⟨s.toArray⟩, .int .i64 (c : Int), .string ⟨b.toArray⟩] w fun e w' => e = .returned (.bool true) ∧ Below w.heap.size w w' := by
  have h1 : ¬ (20000 : Int) < s.length := by omega
  have h2 : ¬ (s.length : Int) < (c : Int) := by omega
  have h3 : ¬ (2000 : Int) < b.length := by omega
  obtain ⟨i0, hi, hz0, hz1, hz9⟩ := info_parts frm_info
  have hl := fB_len 2 b
  have S1 := fun W => p_fscan_any s 0 W (by omega)
  rw [H.all] at S1
  have S2 := fun W => p_fscan_any (s.take c) 0 W (by rw [List.length_take]; omega)
  rw [H.some] at S2
  have S3 := fun W => p_fscan_any (s.take e1 ++ fB 2 b) 0 W (by rw [List.length_append, List.length_take, hl]; omega)
  rw [H.more] at S3
  unfold FSPost at S1 S2 S3
  have P1 := fun W => p_fput_any 2 b W (by omega)
  rw [show fputF 2 b = (fB 2 b, 0) from by unfold fputF; rw [if_neg (by omega), if_neg (by omega)]; rfl] at P1
  have s1 := fun W => fhead s c hc W
  have s2 := fun W => fhead s e1 H.hi1 W
  have g1 := fun W => fadd (s.take e1) (fB 2 b) (by rw [List.length_take, hl]; omega) W
  have eA : A.length = B.length + R.length := by rw [H.app, List.length_append]
  have hfew := H.few
  have hs1 := fun A1 A2 c1 c2 W h1 h2 => fref_same_any B B A1 A2 B.length B.length c1 c2 W rfl rfl (by omega) (by omega) h1 h2
  have hs2 := fun A1 A2 c1 c2 W h1 h2 => fref_same_any A A A1 A2 A.length A.length c1 c2 W rfl rfl (by omega) (by omega) h1 h2
  have e9 : decide (B = B) = true := decide_eq_true rfl
  have e8 : decide (A = A) = true := decide_eq_true rfl
  simp only [e9] at hs1
  simp only [e8] at hs2
  dsimp only at S1 S2 S3 P1
  rw [List.length_append, List.length_singleton] at S3
  have Hsl := Lib.hid fun A1 n1 c1 k1 (hk : k1 ≤ c1) W => fslice_head (P := Try.prog) Try.underlying36 hi hz1 A1 n1 c1 k1 hk W
  have HA : Hid (∀ W A1, Reads W W.heap.size 4 A1 A.length (fcs A) → Reads W W.heap.size 4 A1 B.length (fcs B)) := Lib.hid fun W A1 hr => Reads.front (ys := fcs R) (by rw [← fcs_app, ← H.app]; exact hr) (fcs_length B) (by omega)
  have HM : Hid (∀ W A3, Reads W W.heap.size 4 A3 (A.length + 1) (fcs (A ++ [(2, b, (e1 : Int), (e1 : Int) + ((9 + b.length : Nat) : Int))])) → Reads W W.heap.size 4 A3 A.length (fcs A) ∧ ∃ g o, A3 = some ⟨g, o, none⟩ ∧ W.cell? ⟨g, o + A.length * 4 + 1, none⟩ = some (.string ⟨b.toArray⟩)) := Lib.hid fun W A3 hr => by
    refine ⟨Reads.front (ys := fcs [(2, b, (e1 : Int), (e1 : Int) + ((9 + b.length : Nat) : Int))]) (by rw [← fcs_app]; exact hr) (fcs_length A) (by omega), ?_⟩
    obtain ⟨g, o, hg, _, hcell⟩ := frm_cells hr (by rw [List.length_append, List.length_singleton]) A.length (by omega)
    have := (hcell A.length (by rw [List.length_append, List.length_singleton]; omega)).2.1
    rw [List.getElem_append_right (Nat.le_refl _)] at this
    simp only [Nat.sub_self, List.getElem_cons_zero] at this
    exact ⟨g, o, hg, this⟩
  have k2 : ¬ (B.length : Int) < (A.length : Int) := by rw [hR, List.length_nil] at eA; omega
  have k3 : B.length ≤ A.length := by omega
  have n1 : (0 : Int) ≤ (e1 : Int) ∧ (e1 : Int) ≤ (s.length : Int) := by have := H.hi1; omega
  have n2 : (0 : Int) ≤ (e2 : Int) ∧ (e2 : Int) ≤ (c : Int) := by have := H.hi2; omega
  have n3 : (0 : Int) ≤ (c : Int) := by omega
  have n4 : (A.length : Int) ≤ 20000 := by omega
  have n5 : ((e1 + (9 + b.length) : Nat) : Int) = (e1 : Int) + ((fB 2 b).length : Int) := by omega
  have n6 : ((fB 2 b).length : Int) ≤ 2009 := by omega
  rw [n5] at S3
  have HK := Lib.hid k3
  replace S1 := Lib.hid S1
  replace S2 := Lib.hid S2
  replace S3 := Lib.hid S3
  replace P1 := Lib.hid P1
  replace hs1 := Lib.hid hs1
  replace hs2 := Lib.hid hs2
  clear h hc hb H hR hl eA e9 e8 hfew hi hz0 hz1 hz9 n5 k3
  generalize fcs (A ++ [(2, b, (e1 : Int), (e1 : Int) + ((9 + b.length : Nat) : Int))]) = Q3 at *
  generalize fcs A = Q1 at *
  generalize fcs B = Q2 at *
  generalize s.take e1 ++ fB 2 b = T3 at *
  generalize s.take e1 = T2 at *
  generalize s.take c = T1 at *
  generalize fB 2 b = X at *
  generalize A.length = nA at *
  generalize B.length = nB at *
  go_enter Try.func6, Try.ntmps6
  go_wp2_with (first
    | (go_at_call 14; (with_reducible refine (S1.out _).mono ?_); rintro e w1 ⟨A1, c1, rfl, hc1, hr1, hb1⟩; have Hr1 := Lib.hid hr1; have Hc1 := Lib.hid hc1; have Hb := Lib.hid hb1; have l1 := fun W => Hsl.out A1 nA c1 nB (Nat.le_trans HK.out hc1) W; clear hr1 hc1 hb1 S1)
    | (go_at_call 14; (with_reducible refine (S2.out _).mono ?_); rintro e w2 ⟨A2, c2, rfl, _, hr2, hb2⟩; replace Hr1 := Lib.hid (Hr1.out.on16 hb2); have Hr2 := Lib.hid hr2; replace Hb := Lib.hid (Hb.out.trans (hb2.mono Hb.out.size)); clear hb2; clear hr2 S2)
    | (go_at_call 16; (with_reducible refine (hs1.out _ _ _ _ _ Hr2.out (HA.out _ _ Hr1.out)).mono ?_); rintro e w3 ⟨rfl, hb3⟩; replace Hr1 := Lib.hid (Hr1.out.on16 hb3); replace Hb := Lib.hid (Hb.out.trans (hb3.mono Hb.out.size)); clear hb3; clear hs1 HA Hr2)
    | (go_at_call 9; (with_reducible refine (P1.out _).mono ?_); rintro e w4 ⟨rfl, hb4⟩; replace Hr1 := Lib.hid (Hr1.out.on16 hb4); replace Hb := Lib.hid (Hb.out.trans (hb4.mono Hb.out.size)); clear hb4; clear P1)
    | (go_at_call 14; (with_reducible refine (S3.out _).mono ?_); rintro e w5 ⟨A3, c3, rfl, hc3, hr3, hb5⟩; replace Hr1 := Lib.hid (Hr1.out.on16 hb5); obtain ⟨hm, g3, o3, rfl, x3⟩ := HM.out _ _ hr3; have Hm := Lib.hid hm; have X3 := Lib.hid (And.intro (hr3.2 (Nat.succ_pos _)) x3); have Hr3 := Lib.hid hr3; have l3 := fun W => Hsl.out (some ⟨g3, o3, none⟩) (nA + 1) c3 nA (Nat.le_trans (Nat.le_succ _) hc3) W; replace Hb := Lib.hid (Hb.out.trans (hb5.mono Hb.out.size)); clear hb5; clear hm hr3 hc3 x3 S3)
    | (go_at_call 16; (with_reducible refine (hs2.out _ _ _ _ _ Hm.out Hr1.out).mono ?_); rintro e w6 ⟨rfl, hb6⟩; replace Hr3 := Lib.hid (Hr3.out.on16 hb6); obtain ⟨_, g9, o9, heq9, x6⟩ := HM.out _ _ Hr3.out; injection heq9 with heq9; injection heq9 with q1 q2; subst q1; subst q2; replace Hb := Lib.hid (Hb.out.trans (hb6.mono Hb.out.size)); clear hb6; clear hs2 HM)
    | (go_at_call 8; refine (awake16_any _).mono ?_; rintro e w9 ⟨rfl, hb9⟩; replace Hb := Lib.hid (Hb.out.trans (hb9.mono Hb.out.size)); clear hb9))
  go_ret
  exact ⟨rfl, Hb.out⟩
set_option maxRecDepth 100000 in
set_option maxHeartbeats 8000000 in
theorem framePrefix_nearM (s : List UInt8) (c : Nat) (b : List UInt8) (w : World) (h : s.length ≤ 20000) (hc : c ≤ s.length) (hb : b.length ≤ 2000) (A B R : List Fr) (e1 e2 : Nat) (H : FPre s b c A B R e1 e2) (f : Fr) (R2 : List Fr) (hR : R = f :: R2) :
    Calls Try.prog 6 #[.string ⟨s.toArray⟩, .int .i64 (c : Int), .string ⟨b.toArray⟩] w fun e w' => e = .returned (.bool true) ∧ Below w.heap.size w w' := by
  have h1 : ¬ (20000 : Int) < s.length := by omega
  have h2 : ¬ (s.length : Int) < (c : Int) := by omega
  have h3 : ¬ (2000 : Int) < b.length := by omega
  obtain ⟨i0, hi, hz0, hz1, hz9⟩ := info_parts frm_info
  have hl := fB_len 2 b
  have S1 := fun W => p_fscan_any s 0 W (by omega)
  rw [H.all] at S1
  have S2 := fun W => p_fscan_any (s.take c) 0 W (by rw [List.length_take]; omega)
  rw [H.some] at S2
  have S3 := fun W => p_fscan_any (s.take e1 ++ fB 2 b) 0 W (by rw [List.length_append, List.length_take, hl]; omega)
  rw [H.more] at S3
  unfold FSPost at S1 S2 S3
  have P1 := fun W => p_fput_any 2 b W (by omega)
  rw [show fputF 2 b = (fB 2 b, 0) from by unfold fputF; rw [if_neg (by omega), if_neg (by omega)]; rfl] at P1
  have s1 := fun W => fhead s c hc W
  have s2 := fun W => fhead s e1 H.hi1 W
  have g1 := fun W => fadd (s.take e1) (fB 2 b) (by rw [List.length_take, hl]; omega) W
  have eA : A.length = B.length + R.length := by rw [H.app, List.length_append]
  have hfew := H.few
  have hs1 := fun A1 A2 c1 c2 W h1 h2 => fref_same_any B B A1 A2 B.length B.length c1 c2 W rfl rfl (by omega) (by omega) h1 h2
  have hs2 := fun A1 A2 c1 c2 W h1 h2 => fref_same_any A A A1 A2 A.length A.length c1 c2 W rfl rfl (by omega) (by omega) h1 h2
  have e9 : decide (B = B) = true := decide_eq_true rfl
  have e8 : decide (A = A) = true := decide_eq_true rfl
  simp only [e9] at hs1
  simp only [e8] at hs2
  dsimp only at S1 S2 S3 P1
  rw [List.length_append, List.length_singleton] at S3
  have Hsl := Lib.hid fun A1 n1 c1 k1 (hk : k1 ≤ c1) W => fslice_head (P := Try.prog) Try.underlying36 hi hz1 A1 n1 c1 k1 hk W
  have HA : Hid (∀ W A1, Reads W W.heap.size 4 A1 A.length (fcs A) → Reads W W.heap.size 4 A1 B.length (fcs B)) := Lib.hid fun W A1 hr => Reads.front (ys := fcs R) (by rw [← fcs_app, ← H.app]; exact hr) (fcs_length B) (by omega)
  have HM : Hid (∀ W A3, Reads W W.heap.size 4 A3 (A.length + 1) (fcs (A ++ [(2, b, (e1 : Int), (e1 : Int) + ((9 + b.length : Nat) : Int))])) → Reads W W.heap.size 4 A3 A.length (fcs A) ∧ ∃ g o, A3 = some ⟨g, o, none⟩ ∧ W.cell? ⟨g, o + A.length * 4 + 1, none⟩ = some (.string ⟨b.toArray⟩)) := Lib.hid fun W A3 hr => by
    refine ⟨Reads.front (ys := fcs [(2, b, (e1 : Int), (e1 : Int) + ((9 + b.length : Nat) : Int))]) (by rw [← fcs_app]; exact hr) (fcs_length A) (by omega), ?_⟩
    obtain ⟨g, o, hg, _, hcell⟩ := frm_cells hr (by rw [List.length_append, List.length_singleton]) A.length (by omega)
    have := (hcell A.length (by rw [List.length_append, List.length_singleton]; omega)).2.1
    rw [List.getElem_append_right (Nat.le_refl _)] at this
    simp only [Nat.sub_self, List.getElem_cons_zero] at this
    exact ⟨g, o, hg, this⟩
  have k2 : (B.length : Int) < (A.length : Int) := by rw [hR, List.length_cons] at eA; omega
  have k3 : B.length ≤ A.length := by omega
  have hfar := H.far f (by rw [hR]; rfl)
  have k4 : ¬ f.2.2.2 ≤ (c : Int) := by omega
  have HT : Hid (∀ W A1, Reads W W.heap.size 4 A1 A.length (fcs A) → ∃ g o, A1 = some ⟨g, o, none⟩ ∧ g < W.heap.size ∧ W.cell? ⟨g, o + B.length * 4 + 3, none⟩ = some (.int .i64 f.2.2.2)) := Lib.hid fun W A1 hr => by
    obtain ⟨g, o, hg, hlt, hcell⟩ := frm_cells hr rfl B.length (by omega)
    have hB : B.length < A.length := by omega
    have := (hcell B.length hB).2.2.2
    have e : A[B.length] = f := by
      have h9 := H.app
      rw [hR] at h9
      have : A[B.length]? = some f := by rw [h9, List.getElem?_append_right (Nat.le_refl _), Nat.sub_self]; rfl
      rw [List.getElem?_eq_getElem hB] at this
      injection this
    rw [e] at this
    exact ⟨g, o, hg, hlt, this⟩
  have n1 : (0 : Int) ≤ (e1 : Int) ∧ (e1 : Int) ≤ (s.length : Int) := by have := H.hi1; omega
  have n2 : (0 : Int) ≤ (e2 : Int) ∧ (e2 : Int) ≤ (c : Int) := by have := H.hi2; omega
  have n3 : (0 : Int) ≤ (c : Int) := by omega
  have n4 : (A.length : Int) ≤ 20000 := by omega
  have n5 : ((e1 + (9 + b.length) : Nat) : Int) = (e1 : Int) + ((fB 2 b).length : Int) := by omega
  have n6 : ((fB 2 b).length : Int) ≤ 2009 := by omega
  rw [n5] at S3
  have HK := Lib.hid k3
  replace S1 := Lib.hid S1
  replace S2 := Lib.hid S2
  replace S3 := Lib.hid S3
  replace P1 := Lib.hid P1
  replace hs1 := Lib.hid hs1
  replace hs2 := Lib.hid hs2
  clear h hc hb H hR hl eA e9 e8 hfew hi hz0 hz1 hz9 n5 k3 hfar
  generalize fcs (A ++ [(2, b, (e1 : Int), (e1 : Int) + ((9 + b.length : Nat) : Int))]) = Q3 at *
  generalize fcs A = Q1 at *
  generalize fcs B = Q2 at *
  generalize s.take e1 ++ fB 2 b = T3 at *
  generalize s.take e1 = T2 at *
  generalize s.take c = T1 at *
  generalize fB 2 b = X at *
  generalize A.length = nA at *
  generalize B.length = nB at *
  generalize f.2.2.2 = ft at *
  go_enter Try.func6, Try.ntmps6
  go_wp2_with (first
    | (go_at_call 14; (with_reducible refine (S1.out _).mono ?_); rintro e w1 ⟨A1, c1, rfl, hc1, hr1, hb1⟩; have Hr1 := Lib.hid hr1; have Hc1 := Lib.hid hc1; have Hb := Lib.hid hb1; have l1 := fun W => Hsl.out A1 nA c1 nB (Nat.le_trans HK.out hc1) W; clear hr1 hc1 hb1 S1)
    | (go_at_call 14; (with_reducible refine (S2.out _).mono ?_); rintro e w2 ⟨A2, c2, rfl, _, hr2, hb2⟩; replace Hr1 := Lib.hid (Hr1.out.on16 hb2); have Hr2 := Lib.hid hr2; replace Hb := Lib.hid (Hb.out.trans (hb2.mono Hb.out.size)); clear hb2; clear hr2 S2)
    | (go_at_call 16; (with_reducible refine (hs1.out _ _ _ _ _ Hr2.out (HA.out _ _ Hr1.out)).mono ?_); rintro e w3 ⟨rfl, hb3⟩; replace Hr1 := Lib.hid (Hr1.out.on16 hb3); replace Hb := Lib.hid (Hb.out.trans (hb3.mono Hb.out.size)); clear hb3; obtain ⟨gt, ot, rfl, _, xt⟩ := HT.out _ _ Hr1.out; clear hs1 HA Hr2)
    | (go_at_call 9; (with_reducible refine (P1.out _).mono ?_); rintro e w4 ⟨rfl, hb4⟩; replace Hr1 := Lib.hid (Hr1.out.on16 hb4); replace Hb := Lib.hid (Hb.out.trans (hb4.mono Hb.out.size)); clear hb4; clear P1)
    | (go_at_call 14; (with_reducible refine (S3.out _).mono ?_); rintro e w5 ⟨A3, c3, rfl, hc3, hr3, hb5⟩; replace Hr1 := Lib.hid (Hr1.out.on16 hb5); obtain ⟨hm, g3, o3, rfl, x3⟩ := HM.out _ _ hr3; have Hm := Lib.hid hm; have X3 := Lib.hid (And.intro (hr3.2 (Nat.succ_pos _)) x3); have Hr3 := Lib.hid hr3; have l3 := fun W => Hsl.out (some ⟨g3, o3, none⟩) (nA + 1) c3 nA (Nat.le_trans (Nat.le_succ _) hc3) W; replace Hb := Lib.hid (Hb.out.trans (hb5.mono Hb.out.size)); clear hb5; clear hm hr3 hc3 x3 S3)
    | (go_at_call 16; (with_reducible refine (hs2.out _ _ _ _ _ Hm.out Hr1.out).mono ?_); rintro e w6 ⟨rfl, hb6⟩; replace Hr3 := Lib.hid (Hr3.out.on16 hb6); obtain ⟨_, g9, o9, heq9, x6⟩ := HM.out _ _ Hr3.out; injection heq9 with heq9; injection heq9 with q1 q2; subst q1; subst q2; replace Hb := Lib.hid (Hb.out.trans (hb6.mono Hb.out.size)); clear hb6; clear hs2 HM)
    | (go_at_call 8; refine (awake16_any _).mono ?_; rintro e w9 ⟨rfl, hb9⟩; replace Hb := Lib.hid (Hb.out.trans (hb9.mono Hb.out.size)); clear hb9))
  go_ret
  exact ⟨rfl, Hb.out⟩
theorem framePrefix_walk (s : List UInt8) (c : Int) (b : List UInt8) (w : World) :
    Calls Try.prog 6 #[.string ⟨s.toArray⟩, .int .i64 c, .string ⟨b.toArray⟩] w fun e w' => e = .returned (.bool true) ∧ Below w.heap.size w w' := by
  by_cases h : s.length ≤ 20000
  · by_cases h2 : 0 ≤ c
    · by_cases h3 : c ≤ (s.length : Int)
      · by_cases h5 : b.length ≤ 2000
        · obtain ⟨A, B, R, e1, e2, H⟩ := fpre_of s b c.toNat (by omega) (by omega)
          have : Calls Try.prog 6 #[.string ⟨s.toArray⟩, .int .i64 (c.toNat : Int), .string ⟨b.toArray⟩] w fun e w' => e = .returned (.bool true) ∧ Below w.heap.size w w' := by
            cases hR : R with
            | nil => exact framePrefix_nearE s c.toNat b w h (by omega) h5 A B R e1 e2 H hR
            | cons f R2 => exact framePrefix_nearM s c.toNat b w h (by omega) h5 A B R e1 e2 H f R2 hR
          rwa [show ((c.toNat : Nat) : Int) = c from by omega] at this
        · exact framePrefix_far3 s c b w h h2 h3 (by omega)
      · exact framePrefix_far2 s c b w h h2 (by omega)
    · exact framePrefix_far1 s c b w h (by omega)
  · exact framePrefix_far0 s c b w (by omega)
namespace FramePrefix
set_option maxRecDepth 100000 in
theorem lifted (os : Os) (started : os.Started) (H : Type) (enc : TypeId × Value → H) :
    ReturnsInHanded {} Try.checked os 6 .any (Rows.framePrefixSpec.pre6 enc Try.prog Try.f6 Rows.framePrefixRow.domain false) (Rows.framePrefixSpec.post enc Try.prog Try.f6 false true false false) := by
  refine law_sized (C := Try.checked) (tb := 4) ownP started (by kernel_rfl) Try.func6
    (ChangeSpec.witness6 (enc := enc) (C := Try.checked) false ⟨#[], #[.string ⟨#[]⟩, .int .i64 0, .string ⟨#[]⟩], []⟩ 8 (by kernel_rfl) (by kernel_rfl) (by kernel_rfl) (by kernel_rfl))
    laidP (by kernel_rfl) rfl (by kernel_rfl) Try.underlying4 (by intro ds h; match ds, h with | [_, _, _], _ => rfl) ?_
  intro W base args ds p hval0 hA0 hlt _
  have hval : ∀ (j : Nat) t v, Try.f6.params[j]? = some t → args[j]? = some v → Value.okWide Try.prog W .any base t v := hval0
  have hA : DataW.TrodAll enc Try.prog W 0 (fun _ => true) true Try.f6.params.toList args.toList ds p := hA0
  rw [Try.params6] at hA hval
  obtain ⟨v0, v1, v2, d0, d1, d2, p0, p1, p2, rfl, rfl, rfl, h0, h1, h2⟩ := trodAll_three hA
  obtain ⟨s, rfl, rfl⟩ := open_bytes Try.underlying9 (hval 0 9 v0 rfl rfl) h0
  obtain ⟨c, rfl, rfl, rfl, wc⟩ := open_int Try.underlying3 (hval 1 3 v1 rfl rfl) h1
  obtain ⟨b, rfl, rfl⟩ := open_bytes Try.underlying9 (hval 2 9 v2 rfl rfl) h2
  exact framePrefix_walk s c b W
theorem holds : Rows.FramePrefixSaid :=
  OpenClaim.holds_of_wide 6 Try.f6 rfl rfl rfl rfl rfl rfl rfl ⟨rfl, rfl, rfl, rfl, rfl⟩ rfl rfl rfl rfl rfl (by kernel_rfl) Try.func6 (by kernel_rfl)
    (of_decide_eq_true (by kernel_rfl)) (by unfold Func.isWrapper; first | (rw [if_pos (by decide +kernel)]; kernel_rfl) | (rw [if_neg (by decide +kernel)]; exact ⟨rfl, rfl⟩))
    (fun os started H enc _ => lifted os started H enc)
end FramePrefix
end Go.Proofs.Ytodllghfcdbbpaa
