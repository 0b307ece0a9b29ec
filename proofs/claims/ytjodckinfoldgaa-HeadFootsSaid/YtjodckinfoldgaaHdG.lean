/-
  Layer 21, the program's: Next, End.
-/
import Derived.Test.YtjodckinfoldgaaHdB
import Derived.Test.YtjodckinfoldgaaHedR
namespace Go.Proofs.Ytjodckinfoldgaa
set_option linter.unusedSimpArgs false
set_option linter.unusedVariables false
open Go.ChangeShapes Go.WideShapes Go.ChangeAt Go.RowKit Go.Joins Go.Deep
theorem p_hfsize (b : List UInt8) (w : World) (hb : b.length ≤ 1000000) : Calls Try.prog 36 #[.string ⟨b.toArray⟩] w fun e w' => e = .returned (.int .i64 ((b.length : Int) + 9)) ∧ Below w.heap.size w w' := by
  have h1 : IntKind.i64.wrap (5 + (b.length : Int)) = 5 + (b.length : Int) := by rw [IntKind.wrap_i64]; omega
  have h2 : IntKind.i64.wrap (5 + (b.length : Int) + 4) = (b.length : Int) + 9 := by rw [IntKind.wrap_i64]; omega
  clear hb
  go_enter Try.func36, Try.ntmps36
  go_wp2
  go_ret
  exact ⟨rfl, Below.refl _ _⟩
set_option maxRecDepth 100000 in
set_option maxHeartbeats 4000000 in
theorem p_hnext_any (h : Hd) (l : List Mt) (A : Option Addr) (n c : Nat) (w : World) (hl : l.length = n) (hn : n ≤ 1000000) (hr : Reads w w.heap.size 7 A n (dcs mtc l)) :
    Calls Try.prog 23 #[.agg (hdc h), .slice A n c] w fun e w' => e = .returned (.int .i64 (hnextF h l)) ∧ Below w.heap.size w w' := by
  have C := Lib.hid (fun W (hb : Below w.heap.size w W) => p_hblk_any l A n c W hl hn (dReads_on hr hb))
  unfold hblkF at C
  unfold hnextF hdc
  obtain ⟨a, b, cc⟩ := h
  dsimp only
  have Hf := Lib.hid (Blk.new w 23 #[.int .i64 a, .int .i64 b, .int .i64 cc])
  have HB := Lib.hid ((Below.refl w.heap.size w).alloc (Nat.le_refl _) (.cells #[.int .i64 a, .int .i64 b, .int .i64 cc] 23))
  by_cases h0 : n = 0
  case pos =>
    rw [if_pos (.inl (by omega))]
    subst h0
    clear C hr hl
    have hz0 : (((0 : Nat) : Int) == 0) = true := rfl
    have xf0 := Hf.out.cell 0; have xf1 := Hf.out.cell 1; have xf2 := Hf.out.cell 2; simp only [List.getElem?_toArray, List.getElem?_cons_zero, List.getElem?_cons_succ] at xf0 xf1 xf2
    go_enter Try.func23, Try.ntmps23
    go_wp2
    go_ret
    exact ⟨rfl, HB.out⟩
  case neg =>
  by_cases hk : hrow l = true
  case neg =>
    rw [if_neg hk] at C
    rw [if_pos (.inr (by simpa using hk))]
    clear hr hl hk
    have hz0 : ((n : Int) == 0) = false := by rw [beq_eq_false_iff_ne]; omega
    go_enter Try.func23, Try.ntmps23
    go_wp2_with (first | (go_at_call 20; (with_reducible refine (C.out _ HB.out).mono ?_); rintro e w1 ⟨rfl, hb1⟩; replace Hf := Lib.hid (Hf.out.below hb1 Hf.out.lt); replace HB := Lib.hid (HB.out.trans (hb1.mono HB.out.size)); clear hb1; have xf0 := Hf.out.cell 0; have xf1 := Hf.out.cell 1; have xf2 := Hf.out.cell 2; simp only [List.getElem?_toArray, List.getElem?_cons_zero, List.getElem?_cons_succ] at xf0 xf1 xf2) | fail)
    go_ret
    exact ⟨rfl, HB.out⟩
  case pos =>
    rw [if_pos hk] at C
    rw [if_neg (fun h => h.elim (fun h => by omega) (fun h => by rw [hk] at h; cases h))]
    obtain ⟨p, hp⟩ : ∃ p, p + 1 = n := ⟨n - 1, by omega⟩
    have hpl : p < l.length := by omega
    have hla := hlast_at l p (by omega)
    obtain ⟨b0, off, rfl, hb0, hcell⟩ := mt_cells hr hl (by omega)
    have hct := hcell p hpl
    rw [← hla] at hct
    have hg := (hm1_iff _).1 ((hrow_iff l).1 hk |>.2 p hpl).1
    rw [← hla] at hg
    have hsub : (n : Int) - 1 = (p : Int) := by omega
    have hsw : IntKind.i64.wrap ((n : Int) - 1) = (p : Int) := by rw [IntKind.wrap_i64]; omega
    have hpw : IntKind.i64.wrap (p : Int) = (p : Int) := by rw [IntKind.wrap_i64]; omega
    have hpi : (0 : Int) ≤ (p : Int) ∧ (p : Int) < (n : Int) := by omega
    have hz0 : ((n : Int) == 0) = false := by rw [beq_eq_false_iff_ne]; omega
    generalize hlast l = m at *
    obtain ⟨at_, sz, raw, ct, fi, ea, la⟩ := m
    dsimp only at hg
    have HCt := Lib.hid hct
    have w1_ : IntKind.i64.wrap (fi + ct) = fi + ct := by rw [IntKind.wrap_i64]; omega
    have w2_ : IntKind.i64.wrap (at_ + sz) = at_ + sz := by rw [IntKind.wrap_i64]; omega
    clear hla hpl hcell hct hg
    dsimp only
    clear hr hl hk
    go_enter Try.func23, Try.ntmps23
    go_wp2_with (first | (go_at_call 20; (with_reducible refine (C.out _ HB.out).mono ?_); rintro e w1 ⟨rfl, hb1⟩; replace Hf := Lib.hid (Hf.out.below hb1 Hf.out.lt); replace HB := Lib.hid (HB.out.trans (hb1.mono HB.out.size)); clear hb1; have xf0 := Hf.out.cell 0; have xf1 := Hf.out.cell 1; have xf2 := Hf.out.cell 2; simp only [List.getElem?_toArray, List.getElem?_cons_zero, List.getElem?_cons_succ] at xf0 xf1 xf2; have y0 := (HB.out.cell (p := ⟨b0, off + p * 7, none⟩) hb0).trans (HCt.out 0 _ rfl); have y1 := (HB.out.cell (p := ⟨b0, off + p * 7 + 1, none⟩) hb0).trans (HCt.out 1 _ rfl); have y2 := (HB.out.cell (p := ⟨b0, off + p * 7 + 2, none⟩) hb0).trans (HCt.out 2 _ rfl); have y3 := (HB.out.cell (p := ⟨b0, off + p * 7 + 3, none⟩) hb0).trans (HCt.out 3 _ rfl); have y4 := (HB.out.cell (p := ⟨b0, off + p * 7 + 4, none⟩) hb0).trans (HCt.out 4 _ rfl); have y5 := (HB.out.cell (p := ⟨b0, off + p * 7 + 5, none⟩) hb0).trans (HCt.out 5 _ rfl); have y6 := (HB.out.cell (p := ⟨b0, off + p * 7 + 6, none⟩) hb0).trans (HCt.out 6 _ rfl)) | fail)
    go_ret
    exact ⟨rfl, HB.out.alloc HB.out.size _⟩
set_option maxRecDepth 100000 in
set_option maxHeartbeats 4000000 in
theorem p_hend_any (h : Hd) (l : List Mt) (A : Option Addr) (n c : Nat) (w : World) (hl : l.length = n) (hn : n ≤ 1000000) (hr : Reads w w.heap.size 7 A n (dcs mtc l)) :
    Calls Try.prog 18 #[.agg (hdc h), .slice A n c] w fun e w' => e = .returned (.tuple #[.int .i64 (hendF h l).1, .int .i64 (hendF h l).2]) ∧ Below w.heap.size w w' := by
  have C := Lib.hid (fun W (hb : Below w.heap.size w W) => p_hblk_any l A n c W hl hn (dReads_on hr hb))
  unfold hblkF at C
  have P := Lib.hid (fun W => p_hput_any h W)
  unfold hputF hdc at P
  unfold hendF hdc
  have hfl := hflat_le (hl3 h)
  have h3 : (hl3 h).length = 3 := rfl
  rw [h3] at hfl
  generalize hT : (hl3 h).flatMap putB = T at *
  have F := Lib.hid (fun W => p_hfsize T W (by omega))
  clear hT h3
  cases hd : hdok h with
  | false =>
    rw [if_pos rfl]
    rw [hd, if_neg (by decide)] at P
    obtain ⟨a, b, cc⟩ := h
    dsimp only at P ⊢
    have Hf := Lib.hid (Blk.new w 23 #[.int .i64 a, .int .i64 b, .int .i64 cc])
    have HB := Lib.hid ((Below.refl w.heap.size w).alloc (Nat.le_refl _) (.cells #[.int .i64 a, .int .i64 b, .int .i64 cc] 23))
    clear C hr hl Hf hd hfl
    go_enter Try.func18, Try.ntmps18
    go_wp2_with (first | (go_at_call 8; (with_reducible refine (P.out _).mono ?_); rintro e w1 ⟨rfl, hb1⟩; replace HB := Lib.hid (HB.out.trans (hb1.mono HB.out.size)); clear hb1 P) | fail)
    go_ret2
    exact ⟨rfl, HB.out⟩
  | true =>
    rw [if_neg (by decide)]
    rw [hd, if_pos rfl] at P
    obtain ⟨a, b, cc⟩ := h
    dsimp only at P
    have Hf := Lib.hid (Blk.new w 23 #[.int .i64 a, .int .i64 b, .int .i64 cc])
    have HB := Lib.hid ((Below.refl w.heap.size w).alloc (Nat.le_refl _) (.cells #[.int .i64 a, .int .i64 b, .int .i64 cc] 23))
    clear Hf hd
    cases hk : hrow l with
    | false =>
      rw [if_pos rfl]
      rw [hk, if_neg (by decide)] at C
      clear hr hl hk
      go_enter Try.func18, Try.ntmps18
      go_wp2_with (first | (go_at_call 8; (with_reducible refine (P.out _).mono ?_); rintro e w1 ⟨rfl, hb1⟩; replace HB := Lib.hid (HB.out.trans (hb1.mono HB.out.size)); clear hb1 P) | (go_at_call 20; (with_reducible refine (C.out _ HB.out).mono ?_); rintro e w2 ⟨rfl, hb1⟩; replace HB := Lib.hid (HB.out.trans (hb1.mono HB.out.size)); clear hb1 C) | fail)
      go_ret2
      exact ⟨rfl, HB.out⟩
    | true =>
      rw [if_neg (by decide)]
      rw [hk, if_pos rfl] at C
      by_cases h0 : n = 0
      case pos =>
        rw [if_pos (by omega)]
        have hz0 : ((n : Int) == 0) = true := by rw [beq_iff_eq]; omega
        clear hr hl hk hfl h0
        go_enter Try.func18, Try.ntmps18
        go_wp2_with (first | (go_at_call 8; (with_reducible refine (P.out _).mono ?_); rintro e w1 ⟨rfl, hb1⟩; replace HB := Lib.hid (HB.out.trans (hb1.mono HB.out.size)); clear hb1 P) | (go_at_call 20; (with_reducible refine (C.out _ HB.out).mono ?_); rintro e w2 ⟨rfl, hb1⟩; replace HB := Lib.hid (HB.out.trans (hb1.mono HB.out.size)); clear hb1 C) | (go_at_call 36; (with_reducible refine (F.out _).mono ?_); rintro e w3 ⟨rfl, hb1⟩; replace HB := Lib.hid (HB.out.trans (hb1.mono HB.out.size)); clear hb1 F) | fail)
        go_ret2
        exact ⟨rfl, HB.out⟩
      case neg =>
        rw [if_neg (by omega)]
        obtain ⟨p, hp⟩ : ∃ p, p + 1 = n := ⟨n - 1, by omega⟩
        have hpl : p < l.length := by omega
        have hla := hlast_at l p (by omega)
        obtain ⟨b0, off, rfl, hb0, hcell⟩ := mt_cells hr hl (by omega)
        have hct := hcell p hpl
        rw [← hla] at hct
        have hg := (hm1_iff _).1 ((hrow_iff l).1 hk |>.2 p hpl).1
        rw [← hla] at hg
        have hsub : (n : Int) - 1 = (p : Int) := by omega
        have hsw : IntKind.i64.wrap ((n : Int) - 1) = (p : Int) := by rw [IntKind.wrap_i64]; omega
        have hpw : IntKind.i64.wrap (p : Int) = (p : Int) := by rw [IntKind.wrap_i64]; omega
        have hpi : (0 : Int) ≤ (p : Int) ∧ (p : Int) < (n : Int) := by omega
        have hz0 : ((n : Int) == 0) = false := by rw [beq_eq_false_iff_ne]; omega
        generalize hlast l = m at *
        obtain ⟨at_, sz, raw, ct, fi, ea, la⟩ := m
        dsimp only at hg
        have HCt := Lib.hid hct
        have w1_ : IntKind.i64.wrap (fi + ct) = fi + ct := by rw [IntKind.wrap_i64]; omega
        have w2_ : IntKind.i64.wrap (at_ + sz) = at_ + sz := by rw [IntKind.wrap_i64]; omega
        clear hla hpl hcell hct hg
        dsimp only
        clear hr hl hk hfl
        go_enter Try.func18, Try.ntmps18
        go_wp2_with (first | (go_at_call 8; (with_reducible refine (P.out _).mono ?_); rintro e w1 ⟨rfl, hb1⟩; replace HB := Lib.hid (HB.out.trans (hb1.mono HB.out.size)); clear hb1 P) | (go_at_call 20; (with_reducible refine (C.out _ HB.out).mono ?_); rintro e w2 ⟨rfl, hb1⟩; replace HB := Lib.hid (HB.out.trans (hb1.mono HB.out.size)); clear hb1 C; have y0 := (HB.out.cell (p := ⟨b0, off + p * 7, none⟩) hb0).trans (HCt.out 0 _ rfl); have y1 := (HB.out.cell (p := ⟨b0, off + p * 7 + 1, none⟩) hb0).trans (HCt.out 1 _ rfl); have y2 := (HB.out.cell (p := ⟨b0, off + p * 7 + 2, none⟩) hb0).trans (HCt.out 2 _ rfl); have y3 := (HB.out.cell (p := ⟨b0, off + p * 7 + 3, none⟩) hb0).trans (HCt.out 3 _ rfl); have y4 := (HB.out.cell (p := ⟨b0, off + p * 7 + 4, none⟩) hb0).trans (HCt.out 4 _ rfl); have y5 := (HB.out.cell (p := ⟨b0, off + p * 7 + 5, none⟩) hb0).trans (HCt.out 5 _ rfl); have y6 := (HB.out.cell (p := ⟨b0, off + p * 7 + 6, none⟩) hb0).trans (HCt.out 6 _ rfl)) | fail)
        go_ret2
        exact ⟨rfl, HB.out.alloc HB.out.size _⟩
end Go.Proofs.Ytjodckinfoldgaa
