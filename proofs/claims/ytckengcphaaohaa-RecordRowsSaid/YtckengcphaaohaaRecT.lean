/-
  Layer 15, the document's: Row and Join of records, for every row; the law's Few (ahead of the code's landing).
-/
import Derived.Test.YtckengcphaaohaaRecR
namespace Go.Proofs.Ytckengcphaaohaa
set_option linter.unusedSimpArgs false
set_option linter.unusedVariables false
open Go.ChangeShapes Go.WideShapes Go.ChangeAt Go.RowKit Go.Joins Go.Deep
theorem rrow_at {a : List Rc} {b : Rc} {u : List Rc} (h : rrowF a = 0) : rrowF (a ++ b :: u) = if rmay b = true then (if a = [] ∨ rgo (a.getLast?.getD rnone) b = true then rrow1 b u else 151) else 150 := by
  cases a with
  | nil =>
    show (if rmay b = true then rrow1 b u else 150) = _
    rw [if_pos (Or.inl rfl)]
  | cons x t =>
    change (if rmay x = true then rrow1 x t else 150) = 0 at h
    by_cases hx : rmay x = true
    · rw [if_pos hx] at h
      rw [List.cons_append]
      show (if rmay x = true then rrow1 x (t ++ b :: u) else 150) = _
      rw [if_pos hx, rrow1_app b u t x h]
      have e : (x :: t).getLast?.getD rnone = (x :: t).getLast (by simp) := by rw [List.getLast?_eq_some_getLast (by simp)]; rfl
      rw [e]
      show (if rmay b = true then (if rgo _ b = true then rrow1 b u else 151) else 150) = _
      by_cases g : rgo ((x :: t).getLast (by simp)) b = true
      · rw [if_pos g, if_pos (Or.inr g)]
      · rw [if_neg g, if_neg (fun h => Or.elim h (fun h => by cases h) g)]
    · rw [if_neg hx] at h
      cases h
theorem rsplit_at (l : List Rc) (k : Nat) (h : k < l.length) : l = l.take k ++ l[k] :: l.drop (k + 1) := by rw [← List.drop_eq_getElem_cons h, List.take_append_drop]
theorem rlast_at (l : List Rc) (p : Nat) (h : p + 1 ≤ l.length) : (l.take (p + 1)).getLast?.getD rnone = l[p]'(by omega) := by
  rw [List.take_succ_eq_append_getElem (show p < l.length by omega), List.getLast?_concat]
  rfl
theorem rrow_bad {l : List Rc} {k : Nat} (h : k < l.length) (h0 : rrowF (l.take k) = 0) (hm : ¬ rmay l[k] = true) : rrowF l = 150 := by
  rw [rsplit_at l k h, rrow_at h0, if_neg hm]
theorem rrow_ord {l : List Rc} {p : Nat} (h : p + 1 < l.length) (h0 : rrowF (l.take (p + 1)) = 0) (hm : rmay l[p + 1] = true) (hg : ¬ rgo (l[p]'(by omega)) l[p + 1] = true) : rrowF l = 151 := by
  rw [rsplit_at l (p + 1) h, rrow_at h0, if_pos hm, if_neg]
  rw [rlast_at l p (by omega)]
  rintro (e | e)
  · have := congrArg List.length e
    rw [List.length_take, List.length_nil] at this
    omega
  · exact hg e
theorem rrow_first {l : List Rc} (h : 0 < l.length) (hm : rmay l[0] = true) : rrowF (l.take 1) = 0 := by
  have e : l.take 1 = [] ++ l[0] :: [] := by rw [List.take_succ_eq_append_getElem h]; rfl
  rw [e, rrow_at rfl, if_pos hm, if_pos (Or.inl rfl)]
  rfl
theorem rrow_next {l : List Rc} {p : Nat} (h : p + 1 < l.length) (h0 : rrowF (l.take (p + 1)) = 0) (hm : rmay l[p + 1] = true) (hg : rgo (l[p]'(by omega)) l[p + 1] = true) : rrowF (l.take (p + 1 + 1)) = 0 := by
  rw [List.take_succ_eq_append_getElem h, rrow_at h0, if_pos hm, if_pos]
  · rfl
  · exact Or.inr (by rw [rlast_at l p (by omega)]; exact hg)
theorem rrow_prev {l : List Rc} {p : Nat} (h : p + 1 < l.length) (h0 : rrowF (l.take (p + 1)) = 0) : rmay (l[p]'(by omega)) = true := by
  refine rrow_may h0 _ ?_
  rw [List.take_succ_eq_append_getElem (show p < l.length by omega)]
  exact List.mem_append_right _ (List.mem_singleton.2 rfl)
theorem rrow_step {l : List Rc} {k p : Nat} (hp : p + 1 = k) (h : k < l.length) (h0 : rrowF (l.take k) = 0) (hm : rmay l[k] = true) : ∃ hpl : p < l.length, (-1000000000 : Int) ≤ l[p].1 ∧ l[p].1 ≤ 1000000000 ∧
    (¬ (l[k].1 = l[p].1 + 1 ∧ l[p].2.1 ≤ l[k].2.1) → rrowF l = 151) ∧ ((l[k].1 = l[p].1 + 1 ∧ l[p].2.1 ≤ l[k].2.1) → rrowF (l.take (k + 1)) = 0) := by
  subst hp
  have hpm := (rmay_iff _).1 (rrow_prev h h0)
  refine ⟨by omega, by omega, by omega, fun g => rrow_ord h h0 hm fun g2 => g ((rgo_iff _ _).1 g2), fun g => rrow_next h h0 hm ((rgo_iff _ _).2 g)⟩
set_option maxRecDepth 100000 in
set_option maxHeartbeats 4000000 in
theorem rref_row_any (l : List Rc) (A : Option Addr) (n c : Nat) (w : World) (hl : l.length = n) (hn : n ≤ 1000000) (hr : Reads w w.heap.size 3 A n (rcs l)) :
    Calls Try.prog 22 #[.slice A n c] w fun e w' => e = .returned (.int .i64 (rrowF l)) ∧ Below w.heap.size w w' := by
  have Hc := Lib.hid (rec_cells hr hl)
  have Hl := Lib.hid hl
  have H0 : Hid (rrowF (l.take 0) = 0) := Lib.hid rfl
  clear hr hl
  go_enter Try.func22, Try.ntmps22
  go_wp2
  go_loopw [3] (fun i wr => ∃ k : Nat, k ≤ n ∧ i = .int .i64 (k : Int) ∧ Hid (rrowF (l.take k) = 0) ∧ Hid (Below w.heap.size w wr)) (fun i _ => n - (intOf i).toNat)
  case atStart => exact ⟨0, by omega, rfl, H0, Lib.hid (Below.refl _ _)⟩
  case round =>
    obtain ⟨k, hk, rfl, HR, HB⟩ := hrel
    by_cases hlt : k < n
    · have hkl : k < l.length := by have := Hl.out; omega
      obtain ⟨b, off, rfl, hb, hcell⟩ := Hc.out k hlt
      obtain ⟨d0, d1, d2⟩ := hcell k hkl
      have c0 := (HB.out.cell (p := ⟨b, off + k * 3, none⟩) hb).trans d0
      have c1 := (HB.out.cell (p := ⟨b, off + k * 3 + 1, none⟩) hb).trans d1
      have c2 := (HB.out.cell (p := ⟨b, off + k * 3 + 2, none⟩) hb).trans d2
      have hki : (0 : Int) ≤ (k : Int) ∧ (k : Int) < (n : Int) := by omega
      have hchk := Lib.hid fun W => rref_check_any l[k].1 l[k].2.1 l[k].2.2 W
      by_cases hm : rmay l[k] = true
      · have e1 : rchk (l[k].1, l[k].2.1, l[k].2.2) = 0 := (rchk_yes hm).1
        rw [e1] at hchk
        by_cases hk0 : k = 0
        · subst hk0
          have H1 := Lib.hid (rrow_first hkl hm)
          clear d0 d1 d2 e1 hm hcell HR H0
          rw [Nat.zero_mul, Nat.add_zero] at c0 c1 c2
          generalize l[0].1 = x at *
          generalize l[0].2.1 = y at *
          generalize l[0].2.2 = d at *
          go_wp2_with (go_at_call 14; (with_reducible refine (hchk.out _).mono ?_); rintro e w1 ⟨rfl, hb1⟩; have HB1 := Lib.hid (HB.out.trans (hb1.mono HB.out.size)); clear hb1 hchk)
          go_quiet (fail)
          go_wp2
          go_roundw
          case rel => exact ⟨1, by omega, iv (by omega), H1, Lib.hid (below_drewN HB1.out _)⟩
          case measure => simp only [intOf]; omega
        · obtain ⟨p, hp⟩ : ∃ p, p + 1 = k := ⟨k - 1, by omega⟩
          obtain ⟨hpl, u0, u1, hord, hnext⟩ := rrow_step hp hkl HR.out hm
          obtain ⟨q0, q1, q2⟩ := hcell p hpl
          have hsub : (k : Int) - 1 = (p : Int) := by omega
          have hsub1 : IntKind.i64.wrap ((k : Int) - 1) = (p : Int) := by rw [IntKind.wrap_i64]; omega
          have hsub2 : IntKind.i64.wrap (p : Int) = (p : Int) := by rw [IntKind.wrap_i64]; omega
          have hpk : (0 : Int) ≤ (p : Int) ∧ (p : Int) < (n : Int) := by omega
          have hgt : decide ((0 : Int) < (k : Int)) = true := decide_eq_true (by omega)
          have hgt2 : decide (0 < k) = true := decide_eq_true (by omega)
          have hgt3 : 0 < k := by omega
          have hwr : IntKind.i64.wrap (l[p].1 + 1) = l[p].1 + 1 := by rw [IntKind.wrap_i64]; omega
          have Hord := Lib.hid hord
          have Hnext := Lib.hid hnext
          have Q0 := Lib.hid q0
          have Q1 := Lib.hid q1
          have Hp := Lib.hid hp
          clear d0 d1 d2 q0 q1 q2 e1 hm hcell HR H0 hord hnext hp hk0 u0 u1
          generalize l[k].1 = x at *
          generalize l[k].2.1 = y at *
          generalize l[k].2.2 = d at *
          generalize l[p].1 = u at *
          generalize l[p].2.1 = v at *
          by_cases a1 : x = u + 1
          · subst a1
            by_cases a2 : y < v
            · have b2 : decide (y < v) = true := decide_eq_true a2
              have HF := Lib.hid (Hord.out (fun h => by omega))
              clear Hord Hnext
              go_wp2_with (go_at_call 14; (with_reducible refine (hchk.out _).mono ?_); rintro e w1 ⟨rfl, hb1⟩; have HB1 := Lib.hid (HB.out.trans (hb1.mono HB.out.size)); have y0 := (HB1.out.cell (p := ⟨b, off + p * 3, none⟩) hb).trans Q0.out; have y1 := (HB1.out.cell (p := ⟨b, off + p * 3 + 1, none⟩) hb).trans Q1.out; have z0 := (hb1.cell (p := ⟨b, off + k * 3, none⟩) (Nat.lt_of_lt_of_le hb HB.out.size)).trans c0; have z1 := (hb1.cell (p := ⟨b, off + k * 3 + 1, none⟩) (Nat.lt_of_lt_of_le hb HB.out.size)).trans c1; clear hb1 hchk)
              go_quiet (fail)
              go_wp2
              go_ret
              exact ⟨by rw [HF.out]; rfl, below_drewN HB1.out _⟩
            · have b2 : decide (y < v) = false := decide_eq_false a2
              have H1 := Lib.hid (Hnext.out ⟨rfl, by omega⟩)
              clear Hord Hnext
              go_wp2_with (go_at_call 14; (with_reducible refine (hchk.out _).mono ?_); rintro e w1 ⟨rfl, hb1⟩; have HB1 := Lib.hid (HB.out.trans (hb1.mono HB.out.size)); have y0 := (HB1.out.cell (p := ⟨b, off + p * 3, none⟩) hb).trans Q0.out; have y1 := (HB1.out.cell (p := ⟨b, off + p * 3 + 1, none⟩) hb).trans Q1.out; have z0 := (hb1.cell (p := ⟨b, off + k * 3, none⟩) (Nat.lt_of_lt_of_le hb HB.out.size)).trans c0; have z1 := (hb1.cell (p := ⟨b, off + k * 3 + 1, none⟩) (Nat.lt_of_lt_of_le hb HB.out.size)).trans c1; clear hb1 hchk)
              go_quiet (fail)
              go_wp2
              go_roundw
              case rel => exact ⟨k + 1, by omega, iv (by omega), H1, Lib.hid (below_drewN HB1.out _)⟩
              case measure => simp only [intOf]; omega
          · have b1 : (x == u + 1) = false := beq_eq_false_iff_ne.2 a1
            have HF := Lib.hid (Hord.out (fun h => a1 h.1))
            clear Hord Hnext
            go_wp2_with (go_at_call 14; (with_reducible refine (hchk.out _).mono ?_); rintro e w1 ⟨rfl, hb1⟩; have HB1 := Lib.hid (HB.out.trans (hb1.mono HB.out.size)); have y0 := (HB1.out.cell (p := ⟨b, off + p * 3, none⟩) hb).trans Q0.out; have y1 := (HB1.out.cell (p := ⟨b, off + p * 3 + 1, none⟩) hb).trans Q1.out; have z0 := (hb1.cell (p := ⟨b, off + k * 3, none⟩) (Nat.lt_of_lt_of_le hb HB.out.size)).trans c0; have z1 := (hb1.cell (p := ⟨b, off + k * 3 + 1, none⟩) (Nat.lt_of_lt_of_le hb HB.out.size)).trans c1; clear hb1 hchk)
            go_quiet (fail)
            go_wp2
            go_ret
            exact ⟨by rw [HF.out]; rfl, below_drewN HB1.out _⟩
      · have e1 : rchk (l[k].1, l[k].2.1, l[k].2.2) = 150 := (rchk_no hm).1
        rw [e1] at hchk
        have HF := Lib.hid (rrow_bad hkl HR.out hm)
        clear d0 d1 d2 e1 hm hcell HR H0
        generalize l[k].1 = x at *
        generalize l[k].2.1 = y at *
        generalize l[k].2.2 = d at *
        go_wp2_with (go_at_call 14; (with_reducible refine (hchk.out _).mono ?_); rintro e w1 ⟨rfl, hb1⟩; have HB1 := Lib.hid (HB.out.trans (hb1.mono HB.out.size)); clear hb1 hchk)
        go_ret
        exact ⟨by rw [HF.out]; rfl, HB1.out⟩
    · obtain rfl : k = n := by omega
      have e : rrowF l = 0 := by
        have h := HR.out
        rwa [List.take_of_length_le (by have := Hl.out; omega)] at h
      have HF := Lib.hid e
      clear e
      go_wp2
      go_ret
      exact ⟨by rw [HF.out]; rfl, HB.out⟩
end Go.Proofs.Ytckengcphaaohaa
