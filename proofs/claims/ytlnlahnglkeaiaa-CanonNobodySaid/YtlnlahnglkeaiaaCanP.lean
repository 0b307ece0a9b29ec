/-
  Layer 9: the document's own Pack, for every list of lengths and of symbols (ahead of the code's landing).
-/
import Derived.Test.YtlnlahnglkeaiaaCanH
import Derived.Test.YtlnlahnglkeaiaaBitT0
namespace Go.Proofs.Ytlnlahnglkeaiaa
set_option linter.unusedSimpArgs false
set_option linter.unusedVariables false
open Go.ChangeShapes Go.WideShapes Go.ChangeAt Go.RowKit Go.Joins Go.Deep

/-! ### Plain -/
/-- The words of lengths are numbers that fit. -/
theorem cwords_fit (l : List Int) : ∀ f ∈ (cwordsF l).1, fits f.1 f.2 := by
  unfold cwordsF
  by_cases h0 : checkF l = 0
  · rw [if_pos h0]
    obtain ⟨hl, hg, hca⟩ := check_ok h0
    intro f hf
    obtain ⟨j, hj, rfl⟩ := List.mem_map.1 (show f ∈ wat (l.map Int.toNat) 16 0 from hf)
    have hjl := List.mem_range.1 hj
    have hjl2 : j < l.length := by simpa using hjl
    have hgd : (l.map Int.toNat).getD j 0 = (l.map Int.toNat)[j] := by rw [List.getD_eq_getElem?_getD, List.getElem?_eq_getElem hjl]; rfl
    have hle : (l.map Int.toNat)[j] ≤ 15 := by
      have := lgood_get hg j hjl2
      rw [List.getElem_map]
      omega
    unfold cat1
    rw [hgd]
    by_cases hp : 0 < (l.map Int.toNat)[j] ∧ ((l.map Int.toNat)[j] < 16 ∨ ((l.map Int.toNat)[j] = 16 ∧ j < 0))
    · rw [if_pos hp]
      have hlt := cword_lt (ls := l.map Int.toNat) (l.map Int.toNat)[j] j hjl rfl ⟨hp.1, hle⟩ hca
      refine ⟨by show (0 : Int) ≤ _; omega, by show (_ : Int) ≤ 32; omega, by show (0 : Int) ≤ _; omega, ?_⟩
      show ((cword (l.map Int.toNat) (l.map Int.toNat)[j] j : Nat) : Int) < 2 ^ (((l.map Int.toNat)[j] : Nat) : Int).toNat
      rw [Int.toNat_natCast]
      exact_mod_cast hlt
    · rw [if_neg hp]
      exact ⟨by decide, by decide, by decide, by decide⟩
  · rw [if_neg h0]
    intro f hf
    cases hf
theorem cwords_len (l : List Int) : (cwordsF l).1.length ≤ 257 := by
  unfold cwordsF
  by_cases h0 : checkF l = 0
  · rw [if_pos h0]
    show (wat _ 16 0).length ≤ 257
    rw [wat_len, List.length_map]
    exact (check_ok h0).1
  · rw [if_neg h0]
    exact Nat.zero_le _
/-- The bits of symbols, behind those of acc; or the first one's error. -/
def cpack1 (ws : List (Int × Int)) : List Int → List Nat → List Nat × Int
  | [], acc => (acc, 0)
  | s :: t, acc => if (cwordF ws s).2 = 0 then cpack1 ws t (acc ++ (cwordF ws s).1) else ([], (cwordF ws s).2)
theorem cpack1_cons (ws : List (Int × Int)) (s : Int) (t : List Int) (acc : List Nat) : cpack1 ws (s :: t) acc = if (cwordF ws s).2 = 0 then cpack1 ws t (acc ++ (cwordF ws s).1) else ([], (cwordF ws s).2) := rfl
/-- What Pack answers. -/
def cpackF (l sy : List Int) : List UInt8 × Int := if (cwordsF l).2 = 0 then (if (cpack1 (cwordsF l).1 sy []).2 = 0 then text (cpack1 (cwordsF l).1 sy []).1 else [], (cpack1 (cwordsF l).1 sy []).2) else ([], (cwordsF l).2)
theorem cword_small {ws : List (Int × Int)} (hf : ∀ f ∈ ws, fits f.1 f.2) (s : Int) : (cwordF ws s).1.length ≤ 32 ∧ Bin (cwordF ws s).1 := by
  unfold cwordF
  by_cases h : 0 ≤ s ∧ s < ws.length ∧ (ws.getD s.toNat (0, 0)).2 ≠ 0
  · rw [if_pos h]
    have hk : s.toNat < ws.length := by omega
    have hgd : ws.getD s.toNat (0, 0) = ws[s.toNat] := by rw [List.getD_eq_getElem?_getD, List.getElem?_eq_getElem hk]; rfl
    have hfit := hf _ (List.getElem_mem hk)
    rw [← hgd] at hfit
    refine ⟨?_, dig_bin _ _⟩
    show (digI _ _).length ≤ 32
    unfold digI
    rw [dig_length]
    have := hfit.2.1
    omega
  · rw [if_neg h]
    exact ⟨Nat.zero_le _, bin_nil⟩

set_option maxRecDepth 100000 in
set_option maxHeartbeats 8000000 in
theorem cref_pack_any (l sy : List Int) (A S : Option Addr) (n c m sc : Nat) (w : World) (hm : n ≤ 1000000) (hm2 : m ≤ 1000000) (hr : Reads w w.heap.size 1 A n (ints l)) (hr2 : Reads w w.heap.size 1 S m (ints sy)) :
    Calls Try.prog 13 #[.slice A n c, .slice S m sc] w fun e w' => e = .returned (.tuple #[.string ⟨(cpackF l sy).1.toArray⟩, .int .i64 (cpackF l sy).2]) ∧ Below w.heap.size w w' := by
  obtain ⟨i0, hi, hz0, hz1, hz2⟩ := info_parts bint_info
  have Hwords := Lib.hid (cref_words_any l A n c w hm hr)
  have Hlen := Lib.hid (cwords_len l)
  have Hfit := Lib.hid (cwords_fit l)
  have Hc2 : Hid (0 < m → ∃ b off, S = some ⟨b, off, none⟩ ∧ b < w.heap.size ∧ ∀ wr, Below w.heap.size w wr → ∀ k, (hk : k < sy.length) → wr.cell? ⟨b, off + k, none⟩ = some (.int .i64 sy[k])) := Lib.hid fun h => by
    obtain ⟨b, off, e, hb, hc⟩ := hr2.2 h
    exact ⟨b, off, e, hb, fun wr hw k hk => (hw.cell (p := ⟨b, off + k, none⟩) hb).trans (hc k _ (ints_get sy k hk))⟩
  have El : Hid (sy.length = m) := Lib.hid (by have := hr2.1; rw [ints_length] at this; omega)
  obtain ⟨F, hF⟩ : ∃ F, cpackF l sy = F := ⟨_, rfl⟩
  rw [hF]
  unfold cpackF at hF
  have hmz : (m : Int) ≤ 1000000 := by omega
  clear hr hr2
  generalize cwordsF l = wd at *
  obtain ⟨ws, we⟩ := wd
  dsimp only at hF
  by_cases h0 : we = 0
  · subst h0
    rw [if_pos rfl] at hF
    have HF := Lib.hid hF
    clear hF
    have Hl2 : Hid (ws.length ≤ 257) := Hlen
    have Hf2 : Hid (∀ f ∈ ws, fits f.1 f.2) := Hfit
    clear Hlen Hfit
    go_enter Try.func13, Try.ntmps13
    go_wp2_with (go_at_call 11; refine Hwords.out.mono ?_; rintro e w1 ⟨A', c', rfl, hc', hrw, hb1⟩; have HB1 := Lib.hid hb1; have HRW := Lib.hid hrw; have Hcc := Lib.hid hc'; clear hb1 hrw hc')
    go_loopw [8, 9] (fun v i wr => ∃ (k : Nat) (acc : List Nat), k ≤ m ∧ i = .int .i64 k ∧ Hid (acc.length ≤ 32 * k ∧ Bin acc) ∧ Hid (cpack1 ws (sy.drop k) acc = cpack1 ws sy []) ∧ Hid (wr.ownsRow w1.heap.size 3 1 v acc.length (bcs acc)) ∧ Hid (Below w1.heap.size w1 wr)) (fun _ i _ => m - (intOf i).toNat)
    case atStart => exact ⟨0, [], by omega, rfl, Lib.hid ⟨by simp, bin_nil⟩, Lib.hid rfl, Lib.hid (World.ownsRow_nil _ _ _ _), Lib.hid (Below.refl _ _)⟩
    case round =>
      obtain ⟨k, acc, hk, rfl, Hacc, Hp, Hown, Hb⟩ := hrel
      have HBw : Hid (Below w.heap.size w wr) := Lib.hid (HB1.out.trans (Hb.out.mono HB1.out.size))
      by_cases hlt : k < m
      · have hkl : k < sy.length := by rw [El.out]; exact hlt
        obtain ⟨b, off, rfl, hb, hc⟩ := Hc2.out (by omega)
        have x1 := hc wr HBw.out k hkl
        have hki : (0 : Int) ≤ (k : Int) ∧ (k : Int) < (m : Int) := by omega
        have hp := Hp.out
        rw [List.drop_eq_getElem_cons hkl] at hp
        rw [cpack1_cons] at hp
        generalize sy[k] = sv at x1 hp
        have hbl : b < wr.heap.size := Nat.lt_of_lt_of_le hb HBw.out.size
        have Hwd : Hid (∀ W, Below wr.heap.size wr W → Calls Try.prog 28 #[.slice A' ws.length c', .int .i64 sv] W fun e w' => CWordPost W w' e (cwordF ws sv)) := Lib.hid fun W hW => cref_word_any ws A' ws.length c' sv W rfl (by have := Hl2.out; omega) (by
          have h1 : Below w1.heap.size w1 W := Hb.out.trans (hW.mono Hb.out.size)
          exact (HRW.out.below h1).more h1.size) Hf2.out
        have Hsm := Lib.hid (cword_small Hf2.out sv)
        have hszr := Hb.out.size
        clear hc hkl hb
        generalize cwordF ws sv = D at *
        obtain ⟨d, de⟩ := D
        dsimp only at hp
        by_cases hde : de = 0
        · subst hde
          rw [if_pos rfl] at hp
          have Hp2 := Lib.hid hp
          clear hp
          have hk1000 : k < 1000000 := by omega
          have Hcat : Hid (∀ x, d.length = x → x ≤ 32 ∧ acc.length + x ≤ 32 * (k + 1)) := Lib.hid fun x hx => by have h1 := Hacc.out.1; have h2 := Hsm.out.1; simp only at h2; omega
          go_wp2_with (first
            | (go_at_call 28; (with_reducible refine (Hwd.out _ (by first | exact Below.refl _ _ | go_grown)).mono ?_); rintro e w2 ⟨Dd, dm, dc, rfl, hdm, hDr, hb2⟩; have Hdm := Lib.hid hdm; have HDr := Lib.hid hDr; have Hb2 := Lib.hid hb2; clear hdm hDr hb2)
            | (at_builtin; refine wpList_append_sep _ rfl _ _ 22 rfl w1.heap.size 3 i0 (.int .i64 0) 1 8 Try.underlying22 hi hz0 hz1 hz2 rfl (by decide) _ _ _ rfl (owns_below Hown.out Hb2.out (Nat.le_refl _)) _ dm dc _ _ rfl HDr.out ?c1 ?c2 ?c3 ?c4 ?_))
          case c1 => exact bcs_one _
          case c2 => have := Hcat.out _ Hdm.out; unfold maxLen; omega
          case c3 => have := Hcat.out _ Hdm.out; omega
          case c4 => have := Hb2.out.size; omega
          intro v2 w3 hown2 hgrow hsep
          have hb3 : Below w1.heap.size w1 w3 := (Hb.out.trans (Hb2.out.mono hszr)).grown hgrow (by have := Hb2.out.size; omega) (fun g hg => (Hown.out.lt g hg).1)
          have hown3 : w3.ownsRow w1.heap.size 3 1 v2 (acc ++ d).length (bcs (acc ++ d)) := by
            rw [List.length_append, Hdm.out, bcs_append]
            exact hown2
          have Hb3 := Lib.hid hb3
          have Hown3 := Lib.hid hown3
          clear hb3 hown3 hown2 hgrow hsep
          go_wp2
          go_roundw
          case rel => exact ⟨k + 1, acc ++ d, by omega, iv (by omega), Lib.hid ⟨by rw [List.length_append]; exact (Hcat.out _ rfl).2, Hacc.out.2.app Hsm.out.2⟩, Hp2.out, Hown3.out, Hb3.out⟩
          case measure => simp only [intOf]; omega
        · rw [if_neg hde] at hp
          have hf := HF.out
          rw [← hp] at hf
          dsimp only at hf
          rw [if_neg hde] at hf
          have Hf := Lib.hid hf
          clear hp hf HF
          have hdb : (de == (0 : Int)) = false := by simpa using hde
          have hdb2 : (de != (0 : Int)) = true := by simpa using hde
          go_wp2_with (first
            | (go_at_call 28; (with_reducible refine (Hwd.out _ (by first | exact Below.refl _ _ | go_grown)).mono ?_); rintro e w2 ⟨Dd, dm, dc, rfl, hdm, hDr, hb2⟩; have Hb2 := Lib.hid hb2; clear hdm hDr hb2))
          go_ret2
          refine ⟨?_, HBw.out.trans (Hb2.out.mono HBw.out.size)⟩
          rw [← Hf.out]
          rfl
      · obtain rfl : k = m := by omega
        have hp := Hp.out
        rw [List.drop_of_length_le (by rw [El.out]; exact Nat.le_refl _)] at hp
        have hf := HF.out
        rw [← hp] at hf
        obtain ⟨At, ct, rfl, hct, hrt⟩ := owns_cells Hown.out
        have htx := fun w hr => refText_any acc At acc.length ct w rfl (by have := Hacc.out.1; omega) hr Hacc.out.2
        have Hf : Hid ((text acc, (0 : Int)) = F) := Lib.hid hf
        have Hrt := Lib.hid hrt
        have Htx := Lib.hid htx
        clear hf hrt htx hp HF Hown
        go_wp2_with (go_at_call 29; refine (Htx.out _ Hrt.out).mono ?_; rintro e w2 ⟨rfl, hb2⟩; have Hb2 := Lib.hid hb2; clear hb2)
        go_ret2
        refine ⟨?_, HBw.out.trans (Hb2.out.mono HBw.out.size)⟩
        rw [← Hf.out]
        rfl
  · rw [if_neg h0] at hF
    have Hf := Lib.hid hF
    have hb0 : (we == (0 : Int)) = false := by simpa using h0
    have hb1 : (we != (0 : Int)) = true := by simpa using h0
    clear hF Hlen Hfit
    go_enter Try.func13, Try.ntmps13
    go_wp2_with (go_at_call 11; refine Hwords.out.mono ?_; rintro e w1 ⟨A', c', rfl, hc', hrw, hbb⟩; have HB1 := Lib.hid hbb; clear hbb hrw hc')
    go_ret2
    refine ⟨?_, HB1.out⟩
    rw [← Hf.out]
    rfl
end Go.Proofs.Ytlnlahnglkeaiaa
