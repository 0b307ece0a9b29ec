/-
  Layer 21, the document's: Next, End, Same (ahead of the code's landing).
-/
import Derived.Test.YtjodckinfoldgaaHedB
import Derived.Test.YtjodckinfoldgaaHedR
import Derived.Laws.StructEq
import Derived.Deep.QuietTactic
import Derived.BigQuiet
namespace Go.Proofs.Ytjodckinfoldgaa
set_option linter.unusedSimpArgs false
set_option linter.unusedVariables false
open Go.ChangeShapes Go.WideShapes Go.ChangeAt Go.RowKit Go.Joins Go.Deep
set_option maxRecDepth 100000 in
set_option maxHeartbeats 4000000 in
theorem href_next_any (h : Hd) (l : List Mt) (A : Option Addr) (n c : Nat) (w : World) (hl : l.length = n) (hn : n ≤ 1000000) (hr : Reads w w.heap.size 7 A n (dcs mtc l)) :
    Calls Try.prog 24 #[.agg (hdc h), .slice A n c] w fun e w' => e = .returned (.int .i64 (hnextF h l)) ∧ Below w.heap.size w w' := by
  have C := Lib.hid (fun W (hb : Below w.heap.size w W) => href_blk_any l A n c W hl hn (dReads_on hr hb))
  unfold hblkF at C
  unfold hnextF hdc
  obtain ⟨a, b, cc⟩ := h
  dsimp only
  have Hf := Lib.hid (Blk.new w 23 #[.int .i64 a, .int .i64 b, .int .i64 cc])
  have HB := Lib.hid ((Below.refl w.heap.size w).alloc (Nat.le_refl _) (.cells #[.int .i64 a, .int .i64 b, .int .i64 cc] 23))
  by_cases h0 : n = 0
  case pos =>
    rw [if_pos (.inl (by omega))]
    subst h0
    clear C hr hl
    have hz0 : (((0 : Nat) : Int) == 0) = true := rfl
    have xf0 := Hf.out.cell 0; have xf1 := Hf.out.cell 1; have xf2 := Hf.out.cell 2; simp only [List.getElem?_toArray, List.getElem?_cons_zero, List.getElem?_cons_succ] at xf0 xf1 xf2
    go_enter Try.func24, Try.ntmps24
    go_wp2
    go_ret
    exact ⟨rfl, HB.out⟩
  case neg =>
  by_cases hk : hrow l = true
  case neg =>
    rw [if_neg hk] at C
    rw [if_pos (.inr (by simpa using hk))]
    clear hr hl hk
    have hz0 : ((n : Int) == 0) = false := by rw [beq_eq_false_iff_ne]; omega
    go_enter Try.func24, Try.ntmps24
    go_wp2_with (first | (go_at_call 21; (with_reducible refine (C.out _ HB.out).mono ?_); rintro e w1 ⟨rfl, hb1⟩; replace Hf := Lib.hid (Hf.out.below hb1 Hf.out.lt); replace HB := Lib.hid (HB.out.trans (hb1.mono HB.out.size)); clear hb1; have xf0 := Hf.out.cell 0; have xf1 := Hf.out.cell 1; have xf2 := Hf.out.cell 2; simp only [List.getElem?_toArray, List.getElem?_cons_zero, List.getElem?_cons_succ] at xf0 xf1 xf2) | fail)
    go_ret
    exact ⟨rfl, HB.out⟩
  case pos =>
    rw [if_pos hk] at C
    rw [if_neg (fun h => h.elim (fun h => by omega) (fun h => by rw [hk] at h; cases h))]
    obtain ⟨p, hp⟩ : ∃ p, p + 1 = n := ⟨n - 1, by omega⟩
    have hpl : p < l.length := by omega
    have hla := hlast_at l p (by omega)
    obtain ⟨b0, off, rfl, hb0, hcell⟩ := mt_cells hr hl (by omega)
    have hct := hcell p hpl
    rw [← hla] at hct
    have hg := (hm1_iff _).1 ((hrow_iff l).1 hk |>.2 p hpl).1
    rw [← hla] at hg
    have hsub : (n : Int) - 1 = (p : Int) := by omega
    have hsw : IntKind.i64.wrap ((n : Int) - 1) = (p : Int) := by rw [IntKind.wrap_i64]; omega
    have hpw : IntKind.i64.wrap (p : Int) = (p : Int) := by rw [IntKind.wrap_i64]; omega
    have hpi : (0 : Int) ≤ (p : Int) ∧ (p : Int) < (n : Int) := by omega
    have hz0 : ((n : Int) == 0) = false := by rw [beq_eq_false_iff_ne]; omega
    generalize hlast l = m at *
    obtain ⟨at_, sz, raw, ct, fi, ea, la⟩ := m
    dsimp only at hg
    have HCt := Lib.hid hct
    have w1_ : IntKind.i64.wrap (fi + ct) = fi + ct := by rw [IntKind.wrap_i64]; omega
    have w2_ : IntKind.i64.wrap (at_ + sz) = at_ + sz := by rw [IntKind.wrap_i64]; omega
    clear hla hpl hcell hct hg
    dsimp only
    clear hr hl hk
    go_enter Try.func24, Try.ntmps24
    go_wp2_with (first | (go_at_call 21; (with_reducible refine (C.out _ HB.out).mono ?_); rintro e w1 ⟨rfl, hb1⟩; replace Hf := Lib.hid (Hf.out.below hb1 Hf.out.lt); replace HB := Lib.hid (HB.out.trans (hb1.mono HB.out.size)); clear hb1; have xf0 := Hf.out.cell 0; have xf1 := Hf.out.cell 1; have xf2 := Hf.out.cell 2; simp only [List.getElem?_toArray, List.getElem?_cons_zero, List.getElem?_cons_succ] at xf0 xf1 xf2) | fail)
    have y4 := (HB.out.cell (p := ⟨b0, off + p * 7 + 4, none⟩) hb0).trans (HCt.out 4 _ rfl)
    have y3 := (HB.out.cell (p := ⟨b0, off + p * 7 + 3, none⟩) hb0).trans (HCt.out 3 _ rfl)
    go_quiet (fail)
    go_wp2
    go_ret
    exact ⟨rfl, below_drewN HB.out _⟩
set_option maxRecDepth 100000 in
set_option maxHeartbeats 4000000 in
theorem href_end_any (h : Hd) (l : List Mt) (A : Option Addr) (n c : Nat) (w : World) (hl : l.length = n) (hn : n ≤ 1000000) (hr : Reads w w.heap.size 7 A n (dcs mtc l)) :
    Calls Try.prog 19 #[.agg (hdc h), .slice A n c] w fun e w' => e = .returned (.tuple #[.int .i64 (hendF h l).1, .int .i64 (hendF h l).2]) ∧ Below w.heap.size w w' := by
  have C := Lib.hid (fun W (hb : Below w.heap.size w W) => href_blk_any l A n c W hl hn (dReads_on hr hb))
  unfold hblkF at C
  have P := Lib.hid (fun W => href_put_any h W)
  unfold hputF hdc at P
  unfold hendF hdc
  have hfl := hflat_le (hl3 h)
  have h3 : (hl3 h).length = 3 := rfl
  rw [h3] at hfl
  generalize hT : (hl3 h).flatMap putB = T at *
  clear hT h3
  cases hd : hdok h with
  | false =>
    rw [if_pos rfl]
    rw [hd, if_neg (by decide)] at P
    obtain ⟨a, b, cc⟩ := h
    dsimp only at P ⊢
    have Hf := Lib.hid (Blk.new w 23 #[.int .i64 a, .int .i64 b, .int .i64 cc])
    have HB := Lib.hid ((Below.refl w.heap.size w).alloc (Nat.le_refl _) (.cells #[.int .i64 a, .int .i64 b, .int .i64 cc] 23))
    clear C hr hl Hf hd hfl
    go_enter Try.func19, Try.ntmps19
    go_wp2_with (first | (go_at_call 9; (with_reducible refine (P.out _).mono ?_); rintro e w1 ⟨rfl, hb1⟩; replace HB := Lib.hid (HB.out.trans (hb1.mono HB.out.size)); clear hb1 P) | fail)
    go_ret2
    exact ⟨rfl, HB.out⟩
  | true =>
    rw [if_neg (by decide)]
    rw [hd, if_pos rfl] at P
    obtain ⟨a, b, cc⟩ := h
    dsimp only at P
    have Hf := Lib.hid (Blk.new w 23 #[.int .i64 a, .int .i64 b, .int .i64 cc])
    have HB := Lib.hid ((Below.refl w.heap.size w).alloc (Nat.le_refl _) (.cells #[.int .i64 a, .int .i64 b, .int .i64 cc] 23))
    clear Hf hd
    cases hk : hrow l with
    | false =>
      rw [if_pos rfl]
      rw [hk, if_neg (by decide)] at C
      clear hr hl hk
      go_enter Try.func19, Try.ntmps19
      go_wp2_with (first | (go_at_call 9; (with_reducible refine (P.out _).mono ?_); rintro e w1 ⟨rfl, hb1⟩; replace HB := Lib.hid (HB.out.trans (hb1.mono HB.out.size)); clear hb1 P) | (go_at_call 21; (with_reducible refine (C.out _ HB.out).mono ?_); rintro e w2 ⟨rfl, hb1⟩; replace HB := Lib.hid (HB.out.trans (hb1.mono HB.out.size)); clear hb1 C) | fail)
      go_ret2
      exact ⟨rfl, HB.out⟩
    | true =>
      rw [if_neg (by decide)]
      rw [hk, if_pos rfl] at C
      by_cases h0 : n = 0
      case pos =>
        rw [if_pos (by omega)]
        have hz0 : ((n : Int) == 0) = true := by rw [beq_iff_eq]; omega
        have hw : IntKind.i64.wrap ((T.length : Int) + 9) = (T.length : Int) + 9 := by rw [IntKind.wrap_i64]; omega
        clear hr hl hk hfl h0
        go_enter Try.func19, Try.ntmps19
        go_wp2_with (first | (go_at_call 9; (with_reducible refine (P.out _).mono ?_); rintro e w1 ⟨rfl, hb1⟩; replace HB := Lib.hid (HB.out.trans (hb1.mono HB.out.size)); clear hb1 P) | (go_at_call 21; (with_reducible refine (C.out _ HB.out).mono ?_); rintro e w2 ⟨rfl, hb1⟩; replace HB := Lib.hid (HB.out.trans (hb1.mono HB.out.size)); clear hb1 C) | fail)
        go_ret2
        exact ⟨rfl, HB.out⟩
      case neg =>
        rw [if_neg (by omega)]
        obtain ⟨p, hp⟩ : ∃ p, p + 1 = n := ⟨n - 1, by omega⟩
        have hpl : p < l.length := by omega
        have hla := hlast_at l p (by omega)
        obtain ⟨b0, off, rfl, hb0, hcell⟩ := mt_cells hr hl (by omega)
        have hct := hcell p hpl
        rw [← hla] at hct
        have hg := (hm1_iff _).1 ((hrow_iff l).1 hk |>.2 p hpl).1
        rw [← hla] at hg
        have hsub : (n : Int) - 1 = (p : Int) := by omega
        have hsw : IntKind.i64.wrap ((n : Int) - 1) = (p : Int) := by rw [IntKind.wrap_i64]; omega
        have hpw : IntKind.i64.wrap (p : Int) = (p : Int) := by rw [IntKind.wrap_i64]; omega
        have hpi : (0 : Int) ≤ (p : Int) ∧ (p : Int) < (n : Int) := by omega
        have hz0 : ((n : Int) == 0) = false := by rw [beq_eq_false_iff_ne]; omega
        generalize hlast l = m at *
        obtain ⟨at_, sz, raw, ct, fi, ea, la⟩ := m
        dsimp only at hg
        have HCt := Lib.hid hct
        have w1_ : IntKind.i64.wrap (fi + ct) = fi + ct := by rw [IntKind.wrap_i64]; omega
        have w2_ : IntKind.i64.wrap (at_ + sz) = at_ + sz := by rw [IntKind.wrap_i64]; omega
        clear hla hpl hcell hct hg
        dsimp only
        clear hr hl hk hfl
        go_enter Try.func19, Try.ntmps19
        go_wp2_with (first | (go_at_call 9; (with_reducible refine (P.out _).mono ?_); rintro e w1 ⟨rfl, hb1⟩; replace HB := Lib.hid (HB.out.trans (hb1.mono HB.out.size)); clear hb1 P) | (go_at_call 21; (with_reducible refine (C.out _ HB.out).mono ?_); rintro e w2 ⟨rfl, hb1⟩; replace HB := Lib.hid (HB.out.trans (hb1.mono HB.out.size)); clear hb1 C) | fail)
        have y0 := (HB.out.cell (p := ⟨b0, off + p * 7, none⟩) hb0).trans (HCt.out 0 _ rfl)
        have y1 := (HB.out.cell (p := ⟨b0, off + p * 7 + 1, none⟩) hb0).trans (HCt.out 1 _ rfl)
        go_quiet (fail)
        go_wp2
        go_ret2
        exact ⟨rfl, below_drewN HB.out _⟩
theorem hm_equal (a0 a1 a2 a3 a4 a5 a6 : Int) (w : World) : (Op.equalIn 10000 55 (.agg #[.int .i64 a0, .int .i64 a1, .int .i64 a2, .int .i64 a3, .int .i64 a4, .int .i64 a5, .int .i64 a6]) (.agg #[.int .i64 a0, .int .i64 a1, .int .i64 a2, .int .i64 a3, .int .i64 a4, .int .i64 a5, .int .i64 a6])).run Try.prog w = .ok true w := by
  simp [go_sem]
theorem hm_guard : Try.prog.eqGuardType Try.prog.depth 55 = false := by kernel_rfl
set_option maxRecDepth 100000 in
set_option maxHeartbeats 4000000 in
theorem href_same_yes (l : List Mt) (A A2 : Option Addr) (c c2 : Nat) (w : World) (hl : l.length ≤ 1000000) (h1 : Reads w w.heap.size 7 A l.length (dcs mtc l)) (h2 : Reads w w.heap.size 7 A2 l.length (dcs mtc l)) :
    Calls Try.prog 22 #[.slice A l.length c, .slice A2 l.length c2] w fun e w' => e = .returned (.bool true) ∧ Below w.heap.size w w' := by
  have HC1 : Hid (0 < l.length → ∃ b off, A = some ⟨b, off, none⟩ ∧ b < w.heap.size ∧ ∀ i (hi : i < l.length), ∀ j u, (mtc l[i])[j]? = some u → w.cell? ⟨b, off + i * 7 + j, none⟩ = some u) := Lib.hid fun h => mt_cells h1 rfl h
  have HC2 : Hid (0 < l.length → ∃ b off, A2 = some ⟨b, off, none⟩ ∧ b < w.heap.size ∧ ∀ i (hi : i < l.length), ∀ j u, (mtc l[i])[j]? = some u → w.cell? ⟨b, off + i * 7 + j, none⟩ = some u) := Lib.hid fun h => mt_cells h2 rfl h
  obtain ⟨n, hn⟩ : ∃ n, l.length = n := ⟨_, rfl⟩
  have HL := Lib.hid hn
  have hq : ((n : Int) != (n : Int)) = false := by simp
  rw [hn] at hl ⊢
  have hgu := hm_guard
  clear h1 h2 hn
  go_enter Try.func22, Try.ntmps22
  go_wp2
  go_loopw [5] (fun iv wr => ∃ k : Nat, k ≤ n ∧ iv = .int .i64 (k : Int) ∧ Hid (Below w.heap.size w wr)) (fun iv _ => n - (intOf iv).toNat)
  case atStart => exact ⟨0, by omega, rfl, Lib.hid (Below.refl _ _)⟩
  case round =>
    obtain ⟨k, hk, rfl, HB⟩ := hrel
    by_cases hlt : k < n
    · have hkl : k < l.length := by have := HL.out; omega
      obtain ⟨b, off, rfl, hb, hcell⟩ := HC1.out (by omega)
      obtain ⟨b2, off2, rfl, hb2, hcell2⟩ := HC2.out (by omega)
      have hct : ∀ j u, (mtc l[k])[j]? = some u → wr.cell? ⟨b, off + k * 7 + j, none⟩ = some u := fun j u hu => (HB.out.cell (p := ⟨b, off + k * 7 + j, none⟩) hb).trans (hcell k hkl j u hu)
      have hdt : ∀ j u, (mtc l[k])[j]? = some u → wr.cell? ⟨b2, off2 + k * 7 + j, none⟩ = some u := fun j u hu => (HB.out.cell (p := ⟨b2, off2 + k * 7 + j, none⟩) hb2).trans (hcell2 k hkl j u hu)
      have hki : (0 : Int) ≤ (k : Int) ∧ (k : Int) < (n : Int) := by omega
      clear hcell hcell2 HC1 HC2
      generalize l[k] = m at *
      obtain ⟨a0, a1, a2, a3, a4, a5, a6⟩ := m
      have c0 := hct 0 _ rfl; have c1 := hct 1 _ rfl; have c2 := hct 2 _ rfl; have c3 := hct 3 _ rfl; have c4 := hct 4 _ rfl; have c5 := hct 5 _ rfl; have c6 := hct 6 _ rfl
      have d0 := hdt 0 _ rfl; have d1 := hdt 1 _ rfl; have d2 := hdt 2 _ rfl; have d3 := hdt 3 _ rfl; have d4 := hdt 4 _ rfl; have d5 := hdt 5 _ rfl; have d6 := hdt 6 _ rfl
      dsimp only at c0 c1 c2 c3 c4 c5 c6 d0 d1 d2 d3 d4 d5 d6
      rw [Nat.add_zero] at c0 d0
      have heq := fun W => hm_equal a0 a1 a2 a3 a4 a5 a6 W
      clear hct hdt
      go_wp2
      go_quiet (fail)
      go_wp2
      go_roundw
      case rel => exact ⟨k + 1, by omega, iv (by omega), Lib.hid (below_drewN HB.out _)⟩
      case measure => simp only [intOf]; omega
    · obtain rfl : k = n := by omega
      have hz : ¬ (k : Int) < (k : Int) := by omega
      clear HC1 HC2
      go_wp2
      go_ret
      exact ⟨rfl, HB.out⟩
end Go.Proofs.Ytjodckinfoldgaa
