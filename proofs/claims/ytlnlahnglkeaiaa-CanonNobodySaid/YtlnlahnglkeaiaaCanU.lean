/-
  Layer 9: the document's own Unpack, for every list of lengths, every string and every number (ahead of the code's landing).
-/
import Derived.Test.YtlnlahnglkeaiaaCanP
namespace Go.Proofs.Ytlnlahnglkeaiaa
set_option linter.unusedSimpArgs false
set_option linter.unusedVariables false
open Go.ChangeShapes Go.WideShapes Go.ChangeAt Go.RowKit Go.Joins Go.Deep

/-! ### Plain -/
theorem begF_len : ∀ (R d : List Nat), (begF R d).2 = true → d.length ≤ R.length
  | _, [], _ => Nat.zero_le _
  | [], _ :: _, h => by cases h
  | a :: t, b :: u, h => by
    unfold begF at h
    by_cases e : a = b
    · rw [if_pos e] at h
      have := begF_len t u h
      simp only [List.length_cons]
      omega
    · rw [if_neg e] at h
      cases h
/-- What Get answers: a symbol's number and its length, within what is left; or nothing, and an error. -/
theorem cget1_ok (R : List Nat) : ∀ (ws : List (Int × Int)) (s : Nat) (E : Int), E = 4 ∨ E = 40 → (∀ f ∈ ws, fits f.1 f.2) → ((cget1 ws s R E).2.2 = 0 ∧ ∃ x k : Nat, (cget1 ws s R E).1 = (x : Int) ∧ x < s + ws.length ∧ (cget1 ws s R E).2.1 = (k : Int) ∧ k ≤ R.length ∧ k ≤ 32) ∨ ((cget1 ws s R E).2.2 = 4 ∨ (cget1 ws s R E).2.2 = 40) ∧ (cget1 ws s R E).1 = 0 ∧ (cget1 ws s R E).2.1 = 0
  | [], s, E, hE, _ => Or.inr ⟨hE, rfl, rfl⟩
  | f :: t, s, E, hE, hf => by
    have hft : ∀ f ∈ t, fits f.1 f.2 := fun g hg => hf g (List.mem_cons_of_mem _ hg)
    have hff := hf f (List.mem_cons_self ..)
    unfold cget1
    by_cases hz : f.2 = 0
    · rw [if_pos hz]
      rcases cget1_ok R t (s + 1) E hE hft with ⟨h1, x, k, h2, h3, h4⟩ | h
      · exact Or.inl ⟨h1, x, k, h2, by simp only [List.length_cons]; omega, h4⟩
      · exact Or.inr h
    · rw [if_neg hz]
      by_cases hb : (begF R (digI f.1 f.2)).2 = true
      · rw [if_pos hb]
        refine Or.inl ⟨rfl, s, _, rfl, by simp, rfl, begF_len _ _ hb, ?_⟩
        unfold digI
        rw [dig_length]
        have := hff.2.1
        omega
      · rw [if_neg hb]
        rcases cget1_ok R t (s + 1) (if (begF R (digI f.1 f.2)).1 = true then 4 else E) (by split <;> omega) hft with ⟨h1, x, k, h2, h3, h4⟩ | h
        · exact Or.inl ⟨h1, x, k, h2, by simp only [List.length_cons]; omega, h4⟩
        · exact Or.inr h
/-- What n symbols are, from place p on: the symbols, where it ends, and the error. -/
def cunp (ws : List (Int × Int)) (L : List Nat) : Nat → Nat → List Int → List Int × Nat × Int
  | 0, p, acc => (acc, p, 0)
  | i + 1, p, acc => if (cgetF ws L p).2.2 = 0 then cunp ws L i (p + (cgetF ws L p).2.1.toNat) (acc ++ [(cgetF ws L p).1]) else (acc, p, (cgetF ws L p).2.2)
theorem cunp_step (ws : List (Int × Int)) (L : List Nat) (i p : Nat) (acc : List Int) : cunp ws L (i + 1) p acc = if (cgetF ws L p).2.2 = 0 then cunp ws L i (p + (cgetF ws L p).2.1.toNat) (acc ++ [(cgetF ws L p).1]) else (acc, p, (cgetF ws L p).2.2) := rfl
/-- What Unpack answers. -/
def cunpackF (l : List Int) (s : List UInt8) (n : Int) : List Int × Nat × Int := if (cwordsF l).2 = 0 then (if n < 0 ∨ 100000 < n then ([], 0, 2) else cunp (cwordsF l).1 (rowOf s) n.toNat 0 []) else ([], 0, (cwordsF l).2)
theorem cgetF_ok (ws : List (Int × Int)) (L : List Nat) (p nl : Nat) (hL : L.length = nl) (hp : p ≤ nl) (hw : ws.length ≤ 257) (hf : ∀ f ∈ ws, fits f.1 f.2) : ((cgetF ws L p).2.2 = 0 ∧ ∃ x k : Nat, (cgetF ws L p).1 = (x : Int) ∧ x < 257 ∧ (cgetF ws L p).2.1 = (k : Int) ∧ p + k ≤ nl) ∨ (cgetF ws L p).2.2 ≠ 0 := by
  unfold cgetF
  rcases cget1_ok (L.drop p) ws 0 (if p = L.length then 4 else 40) (by split <;> omega) hf with ⟨h1, x, k, h2, h3, h4, h5, h6⟩ | ⟨h, _⟩
  · refine Or.inl ⟨h1, x, k, h2, by omega, h4, ?_⟩
    rw [List.length_drop] at h5
    omega
  · exact Or.inr (by omega)
/-- What Unpack leaves. -/
def CUnpPost (w w' : World) (e : Ending) (R : List Int × Nat × Int) : Prop := ∃ A' c', e = .returned (.tuple #[.slice A' R.1.length c', .int .i64 (R.2.1 : Int), .int .i64 R.2.2]) ∧ R.1.length ≤ c' ∧ Reads w' w'.heap.size 1 A' R.1.length (ints R.1) ∧ Below w.heap.size w w'

set_option maxRecDepth 100000 in
set_option maxHeartbeats 8000000 in
theorem cref_unpack_any (l : List Int) (s : List UInt8) (N : Int) (A : Option Addr) (n c : Nat) (w : World) (hm : n ≤ 1000000) (hs : s.length ≤ 1099511627776) (hr : Reads w w.heap.size 1 A n (ints l)) :
    Calls Try.prog 16 #[.slice A n c, .string ⟨s.toArray⟩, .int .i64 N] w fun e w' => CUnpPost w w' e (cunpackF l s N) := by
  obtain ⟨i0, hi, hz0, hz1, hz2⟩ := info_parts bint_info
  have Hwords := Lib.hid (cref_words_any l A n c w hm hr)
  have Hlen := Lib.hid (cwords_len l)
  have Hfit := Lib.hid (cwords_fit l)
  obtain ⟨R, hR⟩ : ∃ R, cunpackF l s N = R := ⟨_, rfl⟩
  rw [hR]
  unfold cunpackF at hR
  clear hr
  generalize cwordsF l = wd at *
  obtain ⟨ws, we⟩ := wd
  dsimp only at hR
  by_cases h0 : we = 0
  · subst h0
    rw [if_pos rfl] at hR
    have Hl2 : Hid (ws.length ≤ 257) := Hlen
    have Hf2 : Hid (∀ f ∈ ws, fits f.1 f.2) := Hfit
    clear Hlen Hfit
    by_cases hN0 : N < 0
    · rw [if_pos (Or.inl hN0)] at hR
      have Hf := Lib.hid hR
      clear hR hs Hl2 Hf2
      go_enter Try.func16, Try.ntmps16
      go_wp2_with (go_at_call 11; refine Hwords.out.mono ?_; rintro e w1 ⟨A', c', rfl, hc', hrw, hbb⟩; have HB1 := Lib.hid hbb; clear hbb hrw hc')
      go_ret3
      rw [← Hf.out]
      exact ⟨none, 0, rfl, Nat.le_refl _, Reads.none_, HB1.out⟩
    by_cases hN1 : 100000 < N
    · rw [if_pos (Or.inr hN1)] at hR
      have Hf := Lib.hid hR
      clear hR hs Hl2 Hf2
      go_enter Try.func16, Try.ntmps16
      go_wp2_with (go_at_call 11; refine Hwords.out.mono ?_; rintro e w1 ⟨A', c', rfl, hc', hrw, hbb⟩; have HB1 := Lib.hid hbb; clear hbb hrw hc')
      go_ret3
      rw [← Hf.out]
      exact ⟨none, 0, rfl, Nat.le_refl _, Reads.none_, HB1.out⟩
    rw [if_neg (by omega)] at hR
    obtain ⟨M, rfl⟩ := Int.eq_ofNat_of_zero_le (by omega : 0 ≤ N)
    have hMz : (0 : Int) ≤ (M : Int) ∧ (M : Int) ≤ 100000 := by omega
    rw [Int.toNat_natCast] at hR
    have Hbits := Lib.hid fun W => refBits_any s W hs
    have hLl : (rowOf s).length = 8 * s.length := row_length s
    obtain ⟨nl, hnl⟩ : ∃ nl, 8 * s.length = nl := ⟨_, rfl⟩
    rw [hnl] at Hbits hLl
    have hnlb : nl ≤ 8796093022208 := by omega
    generalize rowOf s = L at *
    have HL := Lib.hid hLl
    have Hst := Lib.hid hR
    have hnz : (nl : Int) ≤ 8796093022208 := by omega
    clear hR hs hLl hnl hN0 hN1
    go_enter Try.func16, Try.ntmps16
    go_wp2_with (first
      | (go_at_call 11; refine Hwords.out.mono ?_; rintro e w1 ⟨A', c', rfl, hc', hrw, hbb⟩; have HB1 := Lib.hid hbb; have HRW := Lib.hid hrw; clear hbb hrw hc')
      | (go_at_call 31; refine (Hbits.out _).mono ?_; rintro e w2 ⟨Ab, cb, rfl, hrb, hbb⟩; have HB2 := Lib.hid hbb; have HRB := Lib.hid hrb; clear hbb hrb))
    have HB12 : Hid (Below w.heap.size w w2) := Lib.hid (HB1.out.trans (HB2.out.mono HB1.out.size))
    have HRW2 : Hid (Reads w2 w2.heap.size 2 A' ws.length (pairs .i64 ws)) := Lib.hid ((HRW.out.below HB2.out).more HB2.out.size)
    go_loopw [12, 13, 14] (fun v p i wr => ∃ (k pp : Nat) (acc : List Int), k ≤ M ∧ pp ≤ nl ∧ i = .int .i64 k ∧ p = .int .i64 pp ∧ Hid (acc.length = k) ∧ Hid (wr.ownsRow w2.heap.size 3 1 v acc.length (ints acc)) ∧ Hid (Below w2.heap.size w2 wr) ∧ Hid (cunp ws L (M - k) pp acc = R)) (fun _ _ i _ => M - (intOf i).toNat)
    case atStart => exact ⟨0, 0, [], by omega, by omega, rfl, rfl, Lib.hid rfl, Lib.hid (World.ownsRow_nil _ _ _ _), Lib.hid (Below.refl _ _), Hst⟩
    case round =>
      obtain ⟨k, pp, acc, hk, hpp, rfl, rfl, Hacc, Hown, Hb, HR⟩ := hrel
      clear Hst Hwords Hbits
      by_cases hlt : k < M
      · have hki : (k : Int) < (M : Int) := by omega
        have hget := cref_get_any ws L A' Ab ws.length c' nl cb pp wr rfl (by have := Hl2.out; omega) HL.out hnlb hpp ((HRW2.out.below Hb.out).more Hb.out.size) Hf2.out ((HRB.out.below Hb.out).more Hb.out.size)
        have hok := cgetF_ok ws L pp nl HL.out hpp Hl2.out Hf2.out
        have hst := HR.out
        rw [show M - k = M - (k + 1) + 1 from by omega, cunp_step] at hst
        generalize cgetF ws L pp = G at *
        obtain ⟨g1, g2, g3⟩ := G
        dsimp only at hst hok
        have Hget := Lib.hid hget
        clear hget
        rcases hok with ⟨rfl, x, kk, rfl, hx, rfl, hkk⟩ | hne
        · rw [if_pos rfl, Int.toNat_natCast] at hst
          have Hs := Lib.hid hst
          have hszr := Hb.out.size
          have hk63 : k < 100000 := by omega
          have hppz : IntKind.i64.wrap ((pp : Int) + (kk : Int)) = ((pp + kk : Nat) : Int) := by rw [IntKind.wrap_i64]; omega
          clear hst HR
          go_wp2_with (first
            | (go_at_call 32; refine Hget.out.mono ?_; rintro e w3 ⟨rfl, hb3⟩; have Hb3 := Lib.hid hb3; have hsz3 := hb3.size; clear hb3)
            | (at_builtin; refine wpList_append_own _ rfl _ _ 22 rfl w2.heap.size 3 i0 (.int .i64 0) 1 8 Try.underlying22 hi hz0 hz1 hz2 rfl (by decide) _ _ _ rfl ((owns_below Hown.out Hb3.out (Nat.le_refl _)).alloc _) ⟨w3.heap.size, 0, none⟩ 1 1 [.int .i64 (x : Int)] rfl rfl ?c1 ?c2 ?c3 ?c4 ?c5 ?_))
          case c1 =>
            intro j u hj
            match j, hj with
            | 0, hj => simp at hj; subst hj; simp [Addr.add]
          case c2 => intro u hu; simp at hu; subst hu; rfl
          case c3 => have := Hacc.out; unfold maxLen; omega
          case c4 => have := Hacc.out; omega
          case c5 => simp; omega
          intro v' w4 hown' hgrow _
          have Hb' : Hid (Below w2.heap.size w2 w4) := Lib.hid ((Below.trans (Hb.out.trans (Hb3.out.mono hszr)) (by have := Hb3.out.size; go_grown)).grown hgrow (by simp; omega) (fun g hg => (Hown.out.lt g hg).1))
          have Hown' : Hid (w4.ownsRow w2.heap.size 3 1 v' (acc ++ [(x : Int)]).length (ints (acc ++ [(x : Int)]))) := Lib.hid (by
            have e1 : (acc ++ [(x : Int)]).length = acc.length + 1 := by simp
            have e2 : ints (acc ++ [(x : Int)]) = ints acc ++ [.int .i64 (x : Int)] := by simp [ints]
            rw [e1, e2]
            exact hown')
          clear hown' hgrow
          go_wp2
          go_roundw
          case rel => exact ⟨k + 1, pp + kk, acc ++ [(x : Int)], by omega, hkk, iv (by omega), iv (by omega), Lib.hid (by rw [List.length_append, Hacc.out]; rfl), Hown', Hb', Hs⟩
          case measure => simp only [intOf]; omega
        · rw [if_neg hne] at hst
          have Hs := Lib.hid hst
          obtain ⟨At, ct, rfl, hct, hrt⟩ := owns_cells Hown.out
          have Hrt := Lib.hid hrt
          have Hct := Lib.hid hct
          have hdb : (g3 == (0 : Int)) = false := by simpa using hne
          have hdb2 : (g3 != (0 : Int)) = true := by simpa using hne
          clear hst HR hrt hct Hown
          go_wp2_with (first
            | (go_at_call 32; refine Hget.out.mono ?_; rintro e w3 ⟨rfl, hb3⟩; have Hb3 := Lib.hid hb3; have hsz3 := hb3.size; clear hb3))
          go_ret3
          rw [← Hs.out]
          exact ⟨At, ct, rfl, Hct.out, (Hrt.out.below Hb3.out).more Hb3.out.size, HB12.out.trans ((Hb.out.mono HB12.out.size).trans (Hb3.out.mono (Nat.le_trans HB12.out.size Hb.out.size)))⟩
      · obtain rfl : k = M := by omega
        have hst := HR.out
        rw [Nat.sub_self] at hst
        have Hs : Hid ((acc, pp, (0 : Int)) = R) := Lib.hid hst
        obtain ⟨At, ct, rfl, hct, hrt⟩ := owns_cells Hown.out
        have Hrt := Lib.hid hrt
        have Hct := Lib.hid hct
        clear hst HR hrt hct Hown
        go_wp2
        go_ret3
        rw [← Hs.out]
        exact ⟨At, ct, rfl, Hct.out, Hrt.out, HB12.out.trans (Hb.out.mono HB12.out.size)⟩
  · rw [if_neg h0] at hR
    have Hf := Lib.hid hR
    have hb0 : (we == (0 : Int)) = false := by simpa using h0
    have hb1 : (we != (0 : Int)) = true := by simpa using h0
    clear hR Hlen Hfit hs
    go_enter Try.func16, Try.ntmps16
    go_wp2_with (go_at_call 11; refine Hwords.out.mono ?_; rintro e w1 ⟨A', c', rfl, hc', hrw, hbb⟩; have HB1 := Lib.hid hbb; clear hbb hrw hc')
    go_ret3
    rw [← Hf.out]
    exact ⟨none, 0, rfl, Nat.le_refl _, Reads.none_, HB1.out⟩
end Go.Proofs.Ytlnlahnglkeaiaa
