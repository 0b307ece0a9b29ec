/-
  Layer 9, plain: Get over the code words of lengths; Unpack of Pack; any bits are code words if the whole is full (ahead of the code's landing).
-/
import Derived.Test.YtlnlahnglkeaiaaCanL
namespace Go.Proofs.Ytlnlahnglkeaiaa
set_option linter.unusedSimpArgs false
set_option linter.unusedVariables false
open Go.ChangeShapes Go.WideShapes Go.ChangeAt Go.RowKit Go.Joins Go.Deep

variable {ls : List Nat}
theorem wat_at (h15 : ∀ x ∈ ls, x ≤ 15) (j : Nat) (hj : j < ls.length) (hj2 : j < (wat ls 16 0).length) : (wat ls 16 0)[j] = if 0 < ls[j] then (((cword ls ls[j] j : Nat) : Int), ((ls[j] : Nat) : Int)) else (0, 0) := by
  have h := wat_get ls 16 0 j hj
  rw [List.getElem?_eq_getElem hj2] at h
  injection h with h
  rw [h]
  have hgd : ls.getD j 0 = ls[j] := by rw [List.getD_eq_getElem?_getD, List.getElem?_eq_getElem hj]; rfl
  have h2 := h15 _ (List.getElem_mem hj)
  unfold cat1
  rw [hgd]
  by_cases hp : 0 < ls[j]
  · rw [if_pos hp, if_pos ⟨hp, Or.inl (by omega)⟩]
  · rw [if_neg hp, if_neg (by omega)]
theorem wat_dig (h15 : ∀ x ∈ ls, x ≤ 15) (j : Nat) (hj : j < ls.length) (hj2 : j < (wat ls 16 0).length) (hp : 0 < ls[j]) : digI (wat ls 16 0)[j].1 (wat ls 16 0)[j].2 = dig ls[j] (cword ls ls[j] j) ∧ (wat ls 16 0)[j].2 ≠ 0 := by
  rw [wat_at h15 j hj hj2, if_pos hp]
  refine ⟨?_, by show ((ls[j] : Nat) : Int) ≠ 0; omega⟩
  unfold digI
  rw [Int.toNat_natCast, Int.toNat_natCast]
theorem wat_none (h15 : ∀ x ∈ ls, x ≤ 15) (j : Nat) (hj : j < ls.length) (hj2 : j < (wat ls 16 0).length) (hp : ¬ 0 < ls[j]) : (wat ls 16 0)[j].2 = 0 := by
  rw [wat_at h15 j hj hj2, if_neg hp]
theorem wat_begins (h15 : ∀ x ∈ ls, x ≤ 15) (hc : call ls ≤ 32768) {R : List Nat} (hb : Bin R) (j : Nat) (hj : j < ls.length) (hp : 0 < ls[j]) : (begF R (dig ls[j] (cword ls ls[j] j))).2 = true ↔ ls[j] ≤ R.length ∧ cpos ls ls[j] j ≤ v15 R ∧ v15 R < cpos ls ls[j] j + 2 ^ (15 - ls[j]) := by
  have h2 := h15 _ (List.getElem_mem hj)
  rw [begF_word hb _ _ h2 (cword_lt ls[j] j hj rfl ⟨hp, h2⟩ hc), cword_pos _ _ h2]

theorem cget_found (h15 : ∀ x ∈ ls, x ≤ 15) (hc : call ls ≤ 32768) {R : List Nat} (hb : Bin R) (E : Int) (k : Nat) (hk : k < ls.length) (hp : 0 < ls[k]) (hl : ls[k] ≤ R.length) (hv : cpos ls ls[k] k ≤ v15 R ∧ v15 R < cpos ls ls[k] k + 2 ^ (15 - ls[k])) : cget1 (wat ls 16 0) 0 R E = ((k : Int), (ls[k] : Int), 0) := by
  have hkw : k < (wat ls 16 0).length := by rw [wat_len]; exact hk
  have hd := wat_dig h15 k hk hkw hp
  rw [cget1_hit R E (wat ls 16 0) 0 k E hkw ?_ hd.2 ?_, hd.1, dig_length, Nat.zero_add]
  · intro j hj hjk
    have hj2 : j < ls.length := by rw [wat_len] at hj; exact hj
    by_cases hpj : 0 < ls[j]
    · right
      rw [(wat_dig h15 j hj2 hj hpj).1]
      cases hbb : (begF R (dig ls[j] (cword ls ls[j] j))).2 with
      | false => rfl
      | true =>
        have := (wat_begins h15 hc hb j hj2 hpj).1 hbb
        have := cpos_only (v15 R) j k hj2 hk hpj hp this.2 hv
        omega
    · exact Or.inl (wat_none h15 j hj2 hj hpj)
  · rw [hd.1]
    exact (wat_begins h15 hc hb k hk hp).2 ⟨hl, hv⟩
theorem cget_cut (h15 : ∀ x ∈ ls, x ≤ 15) (hc : call ls ≤ 32768) {R : List Nat} (hb : Bin R) (E : Int) (k : Nat) (hk : k < ls.length) (hp : 0 < ls[k]) (hl : R.length < ls[k]) (hv : cpos ls ls[k] k ≤ v15 R ∧ v15 R < cpos ls ls[k] k + 2 ^ (15 - ls[k])) : cget1 (wat ls 16 0) 0 R E = (0, 0, 4) := by
  have hkw : k < (wat ls 16 0).length := by rw [wat_len]; exact hk
  have hd := wat_dig h15 k hk hkw hp
  have h2 := h15 _ (List.getElem_mem hk)
  refine cget1_short R (wat ls 16 0) 0 E ?_ (Or.inr ⟨k, hkw, hd.2, ?_⟩)
  · intro j hj
    have hj2 : j < ls.length := by rw [wat_len] at hj; exact hj
    by_cases hpj : 0 < ls[j]
    · right
      rw [(wat_dig h15 j hj2 hj hpj).1]
      cases hbb : (begF R (dig ls[j] (cword ls ls[j] j))).2 with
      | false => rfl
      | true =>
        have h3 := (wat_begins h15 hc hb j hj2 hpj).1 hbb
        have h4 := cpos_only (v15 R) j k hj2 hk hpj hp h3.2 hv
        subst h4
        omega
    · exact Or.inl (wat_none h15 j hj2 hj hpj)
  · rw [hd.1]
    refine begF_part hb _ _ h2 hl ?_
    rw [cword_pos _ _ h2]
    exact hv
/-- Get at the code word of a symbol. -/
theorem cget_word (h15 : ∀ x ∈ ls, x ≤ 15) (hc : call ls ≤ 32768) {R : List Nat} (hb : Bin R) (E : Int) (k : Nat) (hk : k < ls.length) (hp : 0 < ls[k]) (T : List Nat) (hR : R = dig ls[k] (cword ls ls[k] k) ++ T) : cget1 (wat ls 16 0) 0 R E = ((k : Int), (ls[k] : Int), 0) := by
  have h : (begF R (dig ls[k] (cword ls ls[k] k))).2 = true := (begF_all _ _).2 ⟨by rw [hR, List.length_append]; omega, by rw [hR, List.take_append_of_le_length (Nat.le_refl _), List.take_of_length_le (Nat.le_refl _)]⟩
  have h1 := (wat_begins h15 hc hb k hk hp).1 h
  exact cget_found h15 hc hb E k hk hp h1.1 h1.2
/-- With a full whole each row begins with a word, or is the beginning of one. -/
theorem cget_full (h15 : ∀ x ∈ ls, x ≤ 15) (hc : call ls = 32768) {R : List Nat} (hb : Bin R) (E : Int) : (∃ k, ∃ hk : k < ls.length, 0 < ls[k] ∧ (∃ T, R = dig ls[k] (cword ls ls[k] k) ++ T) ∧ cget1 (wat ls 16 0) 0 R E = ((k : Int), (ls[k] : Int), 0)) ∨ (R.length < 15 ∧ cget1 (wat ls 16 0) 0 R E = (0, 0, 4)) := by
  obtain ⟨k, hk, hp, hv⟩ := cpos_find (ls := ls) (v15 R) 16 0 (by rw [cpos_end h15, hc]; exact v15_lt hb)
  have h2 := h15 _ (List.getElem_mem hk)
  by_cases hl : ls[k] ≤ R.length
  · refine Or.inl ⟨k, hk, hp, ?_, cget_found h15 (by omega) hb E k hk hp hl hv⟩
    have h3 := (begF_all _ _).1 ((wat_begins h15 (by omega) hb k hk hp).2 ⟨hl, hv⟩)
    refine ⟨R.drop ls[k], ?_⟩
    rw [dig_length] at h3
    conv => lhs; rw [← List.take_append_drop ls[k] R, h3.2]
  · exact Or.inr ⟨by omega, cget_cut h15 (by omega) hb E k hk hp (by omega) hv⟩

/-! ### Back -/
/-- The bits of symbols. -/
def cbits (ws : List (Int × Int)) (sy : List Int) : List Nat := sy.flatMap fun s => (cwordF ws s).1
theorem cbits_cons (ws : List (Int × Int)) (s : Int) (t : List Int) : cbits ws (s :: t) = (cwordF ws s).1 ++ cbits ws t := rfl
theorem cpack_ok (ws : List (Int × Int)) : ∀ (sy : List Int) (acc : List Nat), (∀ s ∈ sy, (cwordF ws s).2 = 0) → cpack1 ws sy acc = (acc ++ cbits ws sy, 0)
  | [], acc, _ => by simp [cpack1, cbits]
  | s :: t, acc, h => by
    rw [cpack1_cons, if_pos (h s (List.mem_cons_self ..)), cpack_ok ws t _ fun u hu => h u (List.mem_cons_of_mem _ hu), cbits_cons, List.append_assoc]
theorem cpack_all (ws : List (Int × Int)) : ∀ (sy : List Int) (acc : List Nat), (cpack1 ws sy acc).2 = 0 → ∀ s ∈ sy, (cwordF ws s).2 = 0
  | [], acc, _ => fun s hs => by cases hs
  | s :: t, acc, h => by
    rw [cpack1_cons] at h
    by_cases h0 : (cwordF ws s).2 = 0
    · rw [if_pos h0] at h
      intro u hu
      rcases List.mem_cons.1 hu with rfl | hu
      · exact h0
      · exact cpack_all ws t _ h u hu
    · rw [if_neg h0] at h
      exact absurd h h0
/-- A symbol that has a word. -/
theorem cword_has (h15 : ∀ x ∈ ls, x ≤ 15) (s : Int) (h : (cwordF (wat ls 16 0) s).2 = 0) : ∃ k, ∃ hk : k < ls.length, s = (k : Int) ∧ 0 < ls[k] ∧ (cwordF (wat ls 16 0) s).1 = dig ls[k] (cword ls ls[k] k) := by
  unfold cwordF at h ⊢
  by_cases h0 : 0 ≤ s ∧ s < (wat ls 16 0).length ∧ ((wat ls 16 0).getD s.toNat (0, 0)).2 ≠ 0
  · obtain ⟨k, rfl⟩ := Int.eq_ofNat_of_zero_le h0.1
    have hkw : k < (wat ls 16 0).length := by omega
    have hk : k < ls.length := by rw [wat_len] at hkw; exact hkw
    rw [if_pos h0]
    rw [Int.toNat_natCast] at h0 ⊢
    have hgd : (wat ls 16 0).getD k (0, 0) = (wat ls 16 0)[k] := by rw [List.getD_eq_getElem?_getD, List.getElem?_eq_getElem hkw]; rfl
    rw [hgd] at h0 ⊢
    by_cases hp : 0 < ls[k]
    · exact ⟨k, hk, rfl, hp, (wat_dig h15 k hk hkw hp).1⟩
    · exact absurd (wat_none h15 k hk hkw hp) h0.2.2
  · rw [if_neg h0] at h
    exact absurd h (by decide)
theorem cword_is (h15 : ∀ x ∈ ls, x ≤ 15) (k : Nat) (hk : k < ls.length) (hp : 0 < ls[k]) : cwordF (wat ls 16 0) (k : Int) = (dig ls[k] (cword ls ls[k] k), 0) := by
  have hkw : k < (wat ls 16 0).length := by rw [wat_len]; exact hk
  have hd := wat_dig h15 k hk hkw hp
  rw [cword_at _ k hkw, if_pos hd.2, hd.1]
theorem cunp_back (h15 : ∀ x ∈ ls, x ≤ 15) (hc : call ls ≤ 32768) {L : List Nat} (hb : Bin L) : ∀ (sy : List Int) (p : Nat) (acc : List Int) (T : List Nat), (∀ s ∈ sy, (cwordF (wat ls 16 0) s).2 = 0) → L.drop p = cbits (wat ls 16 0) sy ++ T → cunp (wat ls 16 0) L sy.length p acc = (acc ++ sy, p + (cbits (wat ls 16 0) sy).length, 0)
  | [], p, acc, T, _, _ => by simp [cunp, cbits]
  | s :: t, p, acc, T, h, hL => by
    obtain ⟨k, hk, rfl, hp, hw⟩ := cword_has h15 s (h s (List.mem_cons_self ..))
    rw [cbits_cons, hw, List.append_assoc] at hL
    have hg : cgetF (wat ls 16 0) L p = ((k : Int), (ls[k] : Int), 0) := cget_word h15 hc (fun d hd => hb d (List.mem_of_mem_drop hd)) _ k hk hp _ hL
    have hL2 : L.drop (p + ls[k]) = cbits (wat ls 16 0) t ++ T := by
      rw [← List.drop_drop, hL, List.drop_append_of_le_length (by rw [dig_length]; exact Nat.le_refl _), List.drop_of_length_le (by rw [dig_length]; exact Nat.le_refl _), List.nil_append]
    rw [List.length_cons, cunp_step, hg, if_pos rfl]
    show cunp _ L t.length (p + ((ls[k] : Nat) : Int).toNat) (acc ++ [(k : Int)]) = _
    rw [Int.toNat_natCast, cunp_back h15 hc hb t (p + ls[k]) _ T (fun u hu => h u (List.mem_cons_of_mem _ hu)) hL2, cbits_cons, hw, List.length_append, dig_length, List.append_assoc, Nat.add_assoc]
    rfl
theorem cunp_whole (h15 : ∀ x ∈ ls, x ≤ 15) (hc : call ls = 32768) {L : List Nat} (hb : Bin L) : ∀ (i p : Nat) (acc : List Int), p ≤ L.length → L.length < p + i → ∃ sy T, cunp (wat ls 16 0) L i p acc = (acc ++ sy, p + (cbits (wat ls 16 0) sy).length, 4) ∧ (∀ s ∈ sy, (cwordF (wat ls 16 0) s).2 = 0) ∧ L.drop p = cbits (wat ls 16 0) sy ++ T ∧ T.length < 15
  | 0, p, acc, h1, h2 => by omega
  | i + 1, p, acc, h1, h2 => by
    rw [cunp_step]
    rcases cget_full h15 hc (fun d hd => hb d (List.mem_of_mem_drop hd) : Bin (L.drop p)) (if p = L.length then 4 else 40) with ⟨k, hk, hp, ⟨T, hR⟩, hg⟩ | ⟨hl, hg⟩
    · have hg2 : cgetF (wat ls 16 0) L p = ((k : Int), (ls[k] : Int), 0) := hg
      have hlen := congrArg List.length hR
      rw [List.length_drop, List.length_append, dig_length] at hlen
      have hL2 : L.drop (p + ls[k]) = T := by
        rw [← List.drop_drop, hR, List.drop_append_of_le_length (by rw [dig_length]; exact Nat.le_refl _), List.drop_of_length_le (by rw [dig_length]; exact Nat.le_refl _), List.nil_append]
      obtain ⟨sy, T', h3, h4, h5, h6⟩ := cunp_whole h15 hc hb i (p + ls[k]) (acc ++ [(k : Int)]) (by omega) (by omega)
      have hw := cword_is h15 k hk hp
      refine ⟨(k : Int) :: sy, T', ?_, ?_, ?_, h6⟩
      · rw [hg2, if_pos rfl]
        show cunp _ L i (p + ((ls[k] : Nat) : Int).toNat) (acc ++ [(k : Int)]) = _
        rw [Int.toNat_natCast, h3, cbits_cons, hw, List.length_append, dig_length, List.append_assoc, Nat.add_assoc]
        rfl
      · intro s hs
        rcases List.mem_cons.1 hs with rfl | hs
        · rw [hw]
        · exact h4 s hs
      · rw [cbits_cons, hw, hR, List.append_assoc, ← h5, hL2]
    · have hg2 : cgetF (wat ls 16 0) L p = (0, 0, 4) := hg
      refine ⟨[], L.drop p, ?_, ?_, ?_, hl⟩
      · rw [hg2, if_neg (by decide)]
        simp [cbits]
      · intro s hs; cases hs
      · rfl
end Go.Proofs.Ytlnlahnglkeaiaa
