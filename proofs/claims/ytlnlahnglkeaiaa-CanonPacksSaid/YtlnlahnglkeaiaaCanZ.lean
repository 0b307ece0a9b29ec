/-
  Layer 9, plain: what the last three promises ask of the document's own answers (ahead of the code's landing).
-/
import Derived.Test.YtlnlahnglkeaiaaCanQ
namespace Go.Proofs.Ytlnlahnglkeaiaa
set_option linter.unusedSimpArgs false
set_option linter.unusedVariables false
open Go.ChangeShapes Go.WideShapes Go.ChangeAt Go.RowKit Go.Joins Go.Deep

theorem cnat15 {l : List Int} (hg : lgood l = true) : ∀ x ∈ l.map Int.toNat, x ≤ 15 := by
  intro x hx
  obtain ⟨i, hi, rfl⟩ := List.getElem_of_mem hx
  rw [List.getElem_map]
  have := lgood_get hg i (by simpa using hi)
  omega
theorem cpart_used : ∀ l : List Int, usedF l ≤ partF l
  | [] => Nat.le_refl _
  | x :: t => by
    have ih := cpart_used t
    have hu : usedF (x :: t) = (if 0 < x then 1 else 0) + usedF t := by
      unfold usedF
      by_cases h : 0 < x
      · rw [List.filter_cons, if_pos (by simpa using h), if_pos h, List.length_cons]; omega
      · rw [List.filter_cons, if_neg (by simpa using h), if_neg h]; omega
    show usedF (x :: t) ≤ (if 0 < x then 2 ^ (15 - x.toNat) else 0) + partF t
    rw [hu]
    have : 0 < (2 : Nat) ^ (15 - x.toNat) := Nat.pow_pos (by omega)
    by_cases h : 0 < x
    · rw [if_pos h, if_pos h]; omega
    · rw [if_neg h, if_neg h]; omega
/-- With two symbols used the whole is full. -/
theorem ccheck_full {l : List Int} (h : checkF l = 0) (hu : 2 ≤ usedF l) : call (l.map Int.toNat) = 32768 := by
  obtain ⟨hl, hg, hca⟩ := check_ok h
  unfold checkF at h
  rw [if_neg (by omega)] at h
  have h1 := cpart_used l
  by_cases h2 : sumF l = 0 ∨ sumF l = 32768 ∨ ((usedF l : Int) = 1 ∧ sumF l = 16384)
  · unfold sumF at h2
    rw [if_pos hg] at h2
    rw [call_part]
    omega
  · rw [if_neg h2] at h
    cases h
/-- P9.5. -/
theorem capart {l : List Int} (h : checkF l = 0) (i k : Nat) (hi : i < l.length) (hk : k < l.length) (hik : i ≠ k) (hp : 0 < (l.map Int.toNat)[i]'(by simpa using hi)) (hle : (l.map Int.toNat)[i]'(by simpa using hi) ≤ (l.map Int.toNat)[k]'(by simpa using hk)) :
    ∀ a b A B : Nat, (l.map Int.toNat)[i]'(by simpa using hi) = a → (l.map Int.toNat)[k]'(by simpa using hk) = b → cword (l.map Int.toNat) a i = A → cword (l.map Int.toNat) b k = B → a ≤ 15 ∧ b ≤ 15 ∧ (a = b → i < k → A < B) ∧ B / 2 ^ (b - a) ≠ A ∧ (a < b → A < B / 2 ^ (b - a)) := by
  obtain ⟨_, hg, hca⟩ := check_ok h
  have hi2 : i < (l.map Int.toNat).length := by simpa using hi
  have hk2 : k < (l.map Int.toNat).length := by simpa using hk
  have h15 := cnat15 hg
  have ha := h15 _ (List.getElem_mem hi2)
  have hb := h15 _ (List.getElem_mem hk2)
  rintro a b A B rfl rfl rfl rfl
  refine ⟨ha, hb, ?_, ?_, ?_⟩
  · intro e hlt
    have := cword_cut (ls := l.map Int.toNat) _ i _ k hi2 rfl ⟨hp, hle, hb⟩ (Or.inr ⟨e, hlt⟩)
    rw [← e, Nat.sub_self] at this
    rw [← e]
    simpa using this
  · rcases Nat.lt_or_eq_of_le hle with e | e
    · have := cword_cut (ls := l.map Int.toNat) _ i _ k hi2 rfl ⟨hp, hle, hb⟩ (Or.inl e)
      omega
    · rcases Nat.lt_or_gt_of_ne hik with e2 | e2
      · have := cword_cut (ls := l.map Int.toNat) _ i _ k hi2 rfl ⟨hp, hle, hb⟩ (Or.inr ⟨e, e2⟩)
        omega
      · have := cword_cut (ls := l.map Int.toNat) _ k _ i hk2 rfl ⟨by omega, by omega, ha⟩ (Or.inr ⟨e.symm, e2⟩)
        rw [← e, Nat.sub_self] at this
        rw [← e, Nat.sub_self]
        simp at this ⊢
        omega
  · intro e
    exact cword_cut (ls := l.map Int.toNat) _ i _ k hi2 rfl ⟨hp, hle, hb⟩ (Or.inl e)

/-- The lengths of symbols, together. -/
def csize (l : List Int) : List Int → Int
  | [] => 0
  | s :: t => l.getD s.toNat 0 + csize l t
theorem cbits_size {l : List Int} (hg : lgood l = true) : ∀ sy : List Int, (∀ s ∈ sy, (cwordF (wat (l.map Int.toNat) 16 0) s).2 = 0) → ((cbits (wat (l.map Int.toNat) 16 0) sy).length : Int) = csize l sy ∧ ∀ s ∈ sy, 0 ≤ s ∧ s < l.length
  | [], _ => ⟨rfl, fun s hs => by cases hs⟩
  | s :: t, h => by
    obtain ⟨k, hk, rfl, hp, hw⟩ := cword_has (cnat15 hg) s (h s (List.mem_cons_self ..))
    obtain ⟨h1, h2⟩ := cbits_size hg t fun u hu => h u (List.mem_cons_of_mem _ hu)
    have hkl : k < l.length := by simpa using hk
    have hgk := lgood_get hg k hkl
    constructor
    · rw [cbits_cons, hw, List.length_append, dig_length]
      show _ = l.getD ((k : Int)).toNat 0 + csize l t
      rw [Int.toNat_natCast, ← h1, List.getD_eq_getElem?_getD, List.getElem?_eq_getElem hkl, List.getElem_map]
      simp only [Option.getD_some]
      omega
    · intro u hu
      rcases List.mem_cons.1 hu with rfl | hu
      · omega
      · exact h2 u hu
theorem cbits_bin {ws : List (Int × Int)} (hf : ∀ f ∈ ws, fits f.1 f.2) : ∀ sy : List Int, Bin (cbits ws sy)
  | [] => bin_nil
  | s :: t => by
    rw [cbits_cons]
    exact (cword_small hf s).2.app (cbits_bin hf t)
theorem cwords_ok {l : List Int} (h : checkF l = 0) : cwordsF l = (wat (l.map Int.toNat) 16 0, 0) := by unfold cwordsF; rw [if_pos h]
theorem cpack_zero {l sy : List Int} (h : (cpackF l sy).2 = 0) : checkF l = 0 ∧ (∀ s ∈ sy, (cwordF (wat (l.map Int.toNat) 16 0) s).2 = 0) ∧ (cpackF l sy).1 = text (cbits (wat (l.map Int.toNat) 16 0) sy) := by
  have hc : checkF l = 0 := by
    by_cases h0 : checkF l = 0
    · exact h0
    · unfold cpackF cwordsF at h
      rw [if_neg h0] at h
      rw [if_neg h0] at h
      exact absurd h h0
  unfold cpackF at h ⊢
  rw [cwords_ok hc] at h ⊢
  rw [if_pos rfl] at h ⊢
  have h1 := cpack_all _ sy [] h
  refine ⟨hc, h1, ?_⟩
  rw [cpack_ok _ sy [] h1]
  simp
/-- P9.6, first half. -/
theorem cback {l sy : List Int} (h : (cpackF l sy).2 = 0) (hn : sy.length ≤ 100000) (B : List UInt8) : cunpackF l ((cpackF l sy).1 ++ B) (sy.length : Int) = (sy, (csize l sy).toNat, 0) ∧ 0 ≤ csize l sy ∧ ∀ s ∈ sy, 0 ≤ s ∧ s < l.length := by
  obtain ⟨hc, h1, h2⟩ := cpack_zero h
  obtain ⟨_, hg, hca⟩ := check_ok hc
  obtain ⟨h3, h4⟩ := cbits_size hg sy h1
  have hfit := cwords_fit l
  rw [cwords_ok hc] at hfit
  have hbin := cbits_bin hfit sy
  refine ⟨?_, by omega, h4⟩
  unfold cunpackF
  rw [cwords_ok hc, if_pos rfl, if_neg (by omega), Int.toNat_natCast, h2, row_append, row_text hbin]
  have := cunp_back (cnat15 hg) hca (hbin.app (bin_zeros _) |>.app (row_bin B) : Bin (cbits (wat (l.map Int.toNat) 16 0) sy ++ List.replicate (fr (cbits (wat (l.map Int.toNat) 16 0) sy)) 0 ++ rowOf B)) sy 0 [] (List.replicate (fr (cbits (wat (l.map Int.toNat) 16 0) sy)) 0 ++ rowOf B) h1 (by rw [List.drop_zero, List.append_assoc])
  rw [this, List.nil_append, Nat.zero_add]
  congr 2
  omega
theorem ctext_row : ∀ s : List UInt8, text (rowOf s) = s
  | [] => text_nil
  | b :: t => by
    rw [row_cons, text_whole 1 _ _ (by rw [dig_length]), ctext_row t, text_short _ (by rw [dig_length]; omega) (by rw [dig_length]; omega), dig_length, num_dig, Nat.sub_self, Nat.pow_zero, Nat.mul_one, Nat.mod_eq_of_lt (by have := b.toNat_lt; omega)]
    simp
/-- P9.6, second half. -/
theorem cwhole {l : List Int} (h : checkF l = 0) (hu : 2 ≤ usedF l) (s : List UInt8) (hs : s.length ≤ 100) : ∃ sy m, cunpackF l s (8 * s.length + 1 : Nat) = (sy, m, 4) ∧ m ≤ 8 * s.length ∧ 8 * s.length < m + 15 ∧ (cpackF l sy).2 = 0 ∧ (cpackF l sy).1.length ≤ s.length ∧ (cpackF l sy).1.take (m / 8) = s.take (m / 8) := by
  obtain ⟨_, hg, hca⟩ := check_ok h
  have hfull := ccheck_full h hu
  obtain ⟨sy, T, h1, h2, h3, h4⟩ := cunp_whole (cnat15 hg) hfull (row_bin s) (8 * s.length + 1) 0 [] (Nat.zero_le _) (by rw [row_length]; omega)
  have hlen := congrArg List.length h3
  rw [List.drop_zero, row_length, List.length_append] at hlen
  have hp : cpackF l sy = (text (cbits (wat (l.map Int.toNat) 16 0) sy), 0) := by
    unfold cpackF
    rw [cwords_ok h, if_pos rfl, cpack_ok _ sy [] h2]
    simp
  refine ⟨sy, (cbits (wat (l.map Int.toNat) 16 0) sy).length, ?_, by omega, by omega, ?_, ?_, ?_⟩
  · unfold cunpackF
    rw [cwords_ok h, if_pos rfl, if_neg (by omega), Int.toNat_natCast, h1, List.nil_append, Nat.zero_add]
  · rw [hp]
  · rw [hp]
    show (text _).length ≤ _
    rw [text_length]
    omega
  · rw [hp]
    show (text _).take _ = _
    rw [List.drop_zero] at h3
    generalize cbits (wat (l.map Int.toNat) 16 0) sy = X at *
    have hq : 8 * (X.length / 8) ≤ X.length := by omega
    have hX : X.take (8 * (X.length / 8)) = rowOf (s.take (X.length / 8)) := by
      have e1 : X.take (8 * (X.length / 8)) = (rowOf s).take (8 * (X.length / 8)) := by rw [h3, List.take_append_of_le_length hq]
      have e2 : rowOf s = rowOf (s.take (X.length / 8)) ++ rowOf (s.drop (X.length / 8)) := by rw [← row_append, List.take_append_drop]
      have e3 : (rowOf (s.take (X.length / 8))).length = 8 * (X.length / 8) := by rw [row_length, List.length_take, Nat.min_eq_left (by omega)]
      rw [e1, e2, List.take_append_of_le_length (by rw [e3]; exact Nat.le_refl _), List.take_of_length_le (by rw [e3]; exact Nat.le_refl _)]
    have e4 : text X = s.take (X.length / 8) ++ text (X.drop (8 * (X.length / 8))) := by
      conv => lhs; rw [← List.take_append_drop (8 * (X.length / 8)) X]
      rw [text_whole (X.length / 8) _ _ (by rw [List.length_take, Nat.min_eq_left hq]), hX, ctext_row]
    rw [e4, List.take_append_of_le_length (by rw [List.length_take, Nat.min_eq_left (by omega)]; exact Nat.le_refl _), List.take_take, Nat.min_self]
end Go.Proofs.Ytlnlahnglkeaiaa
