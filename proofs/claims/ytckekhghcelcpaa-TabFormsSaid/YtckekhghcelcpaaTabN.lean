/-
  Layer 10, plain: lengths come back of their bits; what is taken is what is put (ahead of the code's landing).
-/
import Derived.Test.YtckekhghcelcpaaTabM
namespace Go.Proofs.Ytckekhghcelcpaa
set_option linter.unusedSimpArgs false
set_option linter.unusedVariables false
open Go.ChangeShapes Go.WideShapes Go.ChangeAt Go.RowKit Go.Joins Go.Deep

/-- What Pack answers. -/
def tpackF (l : List Int) : List UInt8 × Int := if checkF l = 0 then (text (tbits l), 0) else ([], checkF l)
def tsizeF (l : List Int) : Nat := if checkF l = 0 then (tbits l).length else 0
theorem tcheck_ok {l : List Int} (h : checkF l = 0) : l.length ≤ 257 ∧ lgood l = true := by
  unfold checkF at h
  by_cases h1 : 257 < l.length
  · rw [if_pos h1] at h; cases h
  · rw [if_neg h1] at h
    refine ⟨by omega, ?_⟩
    cases hg : lgood l with
    | true => rfl
    | false =>
      unfold sumF at h
      rw [hg] at h
      rw [if_neg (by simp)] at h
      cases h
/-- The number of four bits. -/
theorem bget_four {L : List Nat} (to : Nat) (x : Int) (T : List Nat) (hx : 0 ≤ x ∧ x ≤ 15) (h : L.drop to = digI x 4 ++ T) : bgetF L to 4 = (x, 0) := by
  have hl := congrArg List.length h
  have hd : (digI x 4).length = 4 := by unfold digI; rw [dig_length]; rfl
  rw [List.length_drop, List.length_append, hd] at hl
  unfold bgetF
  rw [if_neg (by omega), if_neg (by omega), Int.toNat_natCast, h, show (4 : Int).toNat = 4 from rfl, List.take_append_of_le_length (by omega), List.take_of_length_le (by omega)]
  unfold digI
  rw [show (4 : Int).toNat = 4 from rfl, num_dig, Nat.mod_eq_of_lt (by show _ < 16; omega)]
  congr 1
  omega
/-- Lengths come back of their bits. -/
theorem tget_back (L : List Nat) (l : List Int) (h15 : ∀ i (h : i < l.length), 0 ≤ l[i] ∧ l[i] ≤ 15) (hl : l.length ≤ 257) (T : List Nat) : ∀ (f i to : Nat) (last : Int), i ≤ l.length → l.length - i < f → (∀ hi : i < l.length, l[i] ≠ last) → L.drop to = tbits (l.drop i) ++ T → tget1 L l.length f to last (l.take i) = (l, to + (tbits (l.drop i)).length, 0)
  | 0, i, to, last, hi, hf, _, _ => by omega
  | f + 1, i, to, last, hi, hf, hlast, hL => by
    rw [tget1_step, List.length_take, Nat.min_eq_left hi]
    by_cases hn : l.length ≤ i
    · rw [if_pos hn, List.drop_of_length_le hn, List.take_of_length_le hn]
      rfl
    · rw [if_neg hn]
      have hil : i < l.length := by omega
      obtain ⟨k, h1, h2, h3, h4⟩ := trun_end l (l.length - i) i hil (Nat.le_refl _)
      have hb := tbits_at l l[i] i k h1 h2 h3 h4
      have hx := h15 i hil
      obtain ⟨x, hxe⟩ : ∃ x, l[i] = x := ⟨_, rfl⟩
      rw [hxe] at hb hx h3 h4
      have hne := hlast hil
      rw [hxe] at hne
      obtain ⟨d, hd⟩ : ∃ d, k - i = d := ⟨_, rfl⟩
      rw [hd] at hb
      rw [hb] at hL ⊢
      unfold trb at hL ⊢
      rw [List.append_assoc, List.append_assoc] at hL
      have g1 := bget_four to x _ hx hL
      have g2 : L.drop (to + 4) = gam d ++ (tbits (l.drop k) ++ T) := by
        rw [← List.drop_drop, hL, List.drop_append_of_le_length (by unfold digI; rw [dig_length]; exact Nat.le_refl _), List.drop_of_length_le (by unfold digI; rw [dig_length]; exact Nat.le_refl _), List.nil_append]
      obtain ⟨g3, g4⟩ := ungam_gam d (tbits (l.drop k) ++ T) (by omega) (by omega)
      have g5 : l.take i ++ List.replicate d x = l.take k := by
        have := trun_drop l x i d (by omega) fun j hj a b => h3 j hj a (by omega)
        rw [show k = i + d from by omega, List.take_add, this, List.take_left' (by simp)]
      have g6 : L.drop (to + 4 + (gam d).length) = tbits (l.drop k) ++ T := by
        rw [← List.drop_drop, g2, List.drop_append_of_le_length (Nat.le_refl _), List.drop_of_length_le (Nat.le_refl _), List.nil_append]
      rw [g1, g2, g3]
      dsimp only
      rw [if_neg (by decide), if_neg (by decide), if_neg hne, if_neg (by omega), Int.toNat_natCast, g5, ← g4, tget_back L l h15 hl T f k _ x h2 (by omega) (fun hk => h4 hk) g6]
      congr 2
      rw [List.length_append, List.length_append]
      unfold digI
      rw [dig_length]
      show to + 4 + _ + _ = to + (4 + _ + _)
      omega
/-- What is taken is what is put. -/
theorem tget_forms {L : List Nat} (hb : Bin L) (n : Nat) : ∀ (f to : Nat) (last : Int) (out : List Int), to ≤ L.length → out.length ≤ n → n - out.length < f → (out = [] ∨ out.getLast? = some last) → (tget1 L n f to last out).2.2 = 0 → ∃ D, to ≤ (tget1 L n f to last out).2.1 ∧ (tget1 L n f to last out).2.1 ≤ L.length ∧ D = (L.drop to).take ((tget1 L n f to last out).2.1 - to) ∧ tbits (tget1 L n f to last out).1 = tbits out ++ D ∧ (tget1 L n f to last out).1.length = n
  | 0, to, last, out, _, ho, hf, _, _ => by omega
  | f + 1, to, last, out, hto, ho, hf, hi, h => by
    rw [tget1_step] at h ⊢
    by_cases h1 : n ≤ out.length
    · rw [if_pos h1]
      exact ⟨[], Nat.le_refl _, hto, by simp, by simp, by show out.length = n; omega⟩
    rw [if_neg h1] at h ⊢
    by_cases h2 : (bgetF L to 4).2 ≠ 0
    · rw [if_pos h2] at h; exact absurd h h2
    rw [if_neg h2] at h ⊢
    by_cases h3 : (ungam (L.drop (to + 4))).2.2 ≠ 0
    · rw [if_pos h3] at h; exact absurd h h3
    rw [if_neg h3] at h ⊢
    by_cases h4 : (bgetF L to 4).1 = last
    · rw [if_pos h4] at h; cases h
    rw [if_neg h4] at h ⊢
    by_cases h5 : (n : Int) - out.length < (ungam (L.drop (to + 4))).1
    · rw [if_pos h5] at h; cases h
    rw [if_neg h5] at h ⊢
    obtain ⟨x, hx⟩ : ∃ x, (bgetF L to 4).1 = x := ⟨_, rfl⟩
    obtain ⟨c, s, e, hu⟩ : ∃ c s e, ungam (L.drop (to + 4)) = (c, s, e) := ⟨_, _, _, rfl⟩
    rw [hu] at h h3 h5 ⊢
    rw [hx] at h h4 ⊢
    dsimp only at h h3 h5 ⊢
    have he : e = 0 := by
      rcases Int.lt_trichotomy e 0 with a | a | a
      · exact absurd (by omega) h3
      · exact a
      · exact absurd (by omega) h3
    subst he
    have hbd : Bin (L.drop (to + 4)) := fun d hd => hb d (List.mem_of_mem_drop hd)
    obtain ⟨u1, u2, u3, u4, u5⟩ := ungam_take hbd c s hu
    obtain ⟨d, rfl⟩ := Int.eq_ofNat_of_zero_le (by omega : 0 ≤ c)
    rw [Int.toNat_natCast] at h u4 u5 ⊢
    rw [List.length_drop] at u1
    have h4l : to + 4 ≤ L.length := by
      unfold bgetF at h2
      rw [if_neg (by omega)] at h2
      by_cases a : (to : Int) + 4 > L.length
      · rw [if_pos a] at h2; exact absurd (by decide : (4 : Int) ≠ 0) h2
      · omega
    have hx4 : digI x 4 = (L.drop to).take 4 := by
      have hxe : (num ((L.drop to).take 4) : Int) = x := by
        rw [← hx]
        unfold bgetF
        rw [if_neg (by omega), if_neg (by omega), Int.toNat_natCast]
        rfl
      unfold digI
      rw [← hxe, Int.toNat_natCast]
      exact dig_num_of 4 _ (by rw [List.length_take, List.length_drop]; omega) fun d hd => hb d (List.mem_of_mem_drop (List.mem_of_mem_take hd))
    have hlast : out.getLast? ≠ some x := by
      rcases hi with rfl | hi
      · simp
      · rw [hi]
        intro a
        injection a with a
        exact h4 a.symm
    have hsn := tbits_snoc x d (by omega) out hlast
    obtain ⟨D, i1, i2, i3, i4, i5⟩ := tget_forms hb n f (to + 4 + s) x (out ++ List.replicate d x) (by omega) (by rw [List.length_append, List.length_replicate]; omega) (by rw [List.length_append, List.length_replicate]; omega) (Or.inr (by
      rw [show d = d - 1 + 1 from by omega, List.replicate_succ', ← List.append_assoc, List.getLast?_append]
      simp)) h
    generalize tget1 L n f (to + 4 + s) x (out ++ List.replicate d x) = Z at *
    refine ⟨trb x d ++ D, by omega, i2, ?_, by rw [i4, hsn, List.append_assoc], i5⟩
    unfold trb
    rw [hx4, ← u4, i3, show Z.2.1 - to = 4 + (s + (Z.2.1 - (to + 4 + s))) from by omega, List.take_add, List.take_add, List.drop_drop, List.drop_drop, List.append_assoc]
/-- P10.3. -/
theorem tback {l : List Int} (h : checkF l = 0) (B : List UInt8) : tgetF (rowOf (text (tbits l) ++ B)) 0 (l.length : Int) = (l, (tbits l).length, 0) := by
  obtain ⟨hl, hg⟩ := tcheck_ok h
  have hr := tget_back (rowOf (text (tbits l) ++ B)) l (fun i hi => lgood_get hg i hi) hl (List.replicate (fr (tbits l)) 0 ++ rowOf B) (l.length + 1) 0 0 (-1) (Nat.zero_le _) (by omega) (fun hi e => by have := lgood_get hg 0 hi; omega) (by
    rw [List.drop_zero, List.drop_zero, row_append, row_text (tbits_bin l), List.append_assoc])
  rw [List.drop_zero, Nat.zero_add, List.take_zero] at hr
  unfold tgetF
  rw [if_neg (by omega), Int.toNat_natCast, hr]
  dsimp only
  rw [if_neg (by decide), if_neg (by rw [h]; decide)]
theorem ttext_row : ∀ s : List UInt8, text (rowOf s) = s
  | [] => text_nil
  | b :: t => by
    rw [row_cons, text_whole 1 _ _ (by rw [dig_length]), ttext_row t, text_short _ (by rw [dig_length]; omega) (by rw [dig_length]; omega), dig_length, num_dig, Nat.sub_self, Nat.pow_zero, Nat.mul_one, Nat.mod_eq_of_lt (by have := b.toNat_lt; omega)]
    simp
theorem ttext_take (s : List UInt8) (m : Nat) (hm : m ≤ 8 * s.length) : (text ((rowOf s).take m)).take (m / 8) = s.take (m / 8) := by
  obtain ⟨X, hXe⟩ : ∃ X, (rowOf s).take m = X := ⟨_, rfl⟩
  have hXl : X.length = m := by rw [← hXe, List.length_take, row_length]; omega
  have hX : X.take (8 * (m / 8)) = rowOf (s.take (m / 8)) := by
    have e2 : rowOf s = rowOf (s.take (m / 8)) ++ rowOf (s.drop (m / 8)) := by rw [← row_append, List.take_append_drop]
    have e3 : (rowOf (s.take (m / 8))).length = 8 * (m / 8) := by rw [row_length, List.length_take, Nat.min_eq_left (by omega)]
    rw [← hXe, List.take_take, Nat.min_eq_left (by omega), e2, List.take_append_of_le_length (by rw [e3]; exact Nat.le_refl _), List.take_of_length_le (by rw [e3]; exact Nat.le_refl _)]
  have e4 : text X = s.take (m / 8) ++ text (X.drop (8 * (m / 8))) := by
    conv => lhs; rw [← List.take_append_drop (8 * (m / 8)) X]
    rw [text_whole (m / 8) _ _ (by rw [List.length_take]; omega), hX, ttext_row]
  rw [hXe, e4, List.take_append_of_le_length (by rw [List.length_take, Nat.min_eq_left (by omega)]; exact Nat.le_refl _), List.take_take, Nat.min_self]
/-- P10.4. -/
theorem tforms {s : List UInt8} {n : Int} (h : (tgetF (rowOf s) 0 n).2.2 = 0) : ∃ l m, tgetF (rowOf s) 0 n = (l, m, 0) ∧ m ≤ 8 * s.length ∧ (l.length : Int) = n ∧ checkF l = 0 ∧ (tbits l).length = m ∧ (text (tbits l)).length ≤ s.length ∧ (text (tbits l)).length = (m + 7) / 8 ∧ (text (tbits l)).take (m / 8) = s.take (m / 8) := by
  unfold tgetF at h ⊢
  by_cases h1 : n < 0 ∨ 257 < n
  · rw [if_pos h1] at h; cases h
  rw [if_neg h1] at h ⊢
  by_cases h2 : (tget1 (rowOf s) n.toNat (n.toNat + 1) 0 (-1) []).2.2 ≠ 0
  · rw [if_pos h2] at h; exact absurd h h2
  rw [if_neg h2] at h ⊢
  by_cases h3 : checkF (tget1 (rowOf s) n.toNat (n.toNat + 1) 0 (-1) []).1 ≠ 0
  · rw [if_pos h3] at h; exact absurd h h3
  rw [if_neg h3] at h ⊢
  obtain ⟨D, i1, i2, i3, i4, i5⟩ := tget_forms (row_bin s) n.toNat (n.toNat + 1) 0 (-1) [] (Nat.zero_le _) (Nat.zero_le _) (by simp) (Or.inl rfl) (Decidable.of_not_not h2)
  generalize tget1 (rowOf s) n.toNat (n.toNat + 1) 0 (-1) [] = Z at *
  rw [List.drop_zero, Nat.sub_zero] at i3
  rw [row_length] at i2
  have e : tbits Z.1 = (rowOf s).take Z.2.1 := by rw [i4, i3]; rfl
  have hm : (tbits Z.1).length = Z.2.1 := by rw [e, List.length_take, row_length]; omega
  refine ⟨Z.1, Z.2.1, rfl, i2, by omega, Decidable.of_not_not h3, hm, ?_, ?_, ?_⟩
  · rw [text_length, hm]; omega
  · rw [text_length, hm]
  · rw [e]
    exact ttext_take s _ i2

/-! ### What each reading answers -/
def tslen : Value → Nat
  | .slice _ n _ => n
  | _ => 0
/-- What Get leaves. -/
def TGetPost (w w' : World) (e : Ending) (F : List Int × Nat × Int) : Prop := ∃ A' c', e = .returned (.tuple #[.slice A' F.1.length c', .int .i64 (F.2.1 : Int), .int .i64 F.2.2]) ∧ F.1.length ≤ c' ∧ Reads w' w'.heap.size 1 A' F.1.length (ints F.1) ∧ Below w.heap.size w w'
theorem bget_facts {L : List Nat} (hb : Bin L) (to : Nat) (x e : Int) (h : bgetF L to 4 = (x, e)) : (e = 0 ∧ to + 4 ≤ L.length ∧ 0 ≤ x ∧ x ≤ 15) ∨ (e = 4 ∧ x = 0) := by
  unfold bgetF at h
  rw [if_neg (by omega)] at h
  by_cases a : (to : Int) + 4 > L.length
  · rw [if_pos a] at h
    simp only [Prod.mk.injEq] at h
    exact Or.inr ⟨h.2.symm, h.1.symm⟩
  · rw [if_neg a] at h
    simp only [Prod.mk.injEq] at h
    left
    have h1 := num_lt (l := (L.drop ((to : Int)).toNat).take (4 : Int).toNat) fun d hd => hb d (List.mem_of_mem_drop (List.mem_of_mem_take hd))
    have h2 : (2 : Nat) ^ ((L.drop ((to : Int)).toNat).take (4 : Int).toNat).length ≤ 2 ^ 4 := Nat.pow_le_pow_right (by omega) (by rw [List.length_take]; exact Nat.min_le_left _ _)
    have h3 : (2 : Nat) ^ 4 = 16 := by decide
    obtain ⟨h4, h5⟩ := h
    refine ⟨h5.symm, by omega, by omega, by omega⟩
theorem ungam_facts {R : List Nat} (hb : Bin R) (c e : Int) (s : Nat) (h : ungam R = (c, s, e)) : (e = 0 ∧ 1 ≤ c ∧ c < 4294967296 ∧ s ≤ R.length) ∨ (e = 4 ∨ e = 40) := by
  by_cases he : e = 0
  · subst he
    obtain ⟨h1, h2, h3, _⟩ := ungam_take hb c s h
    exact Or.inl ⟨rfl, h2, h3, h1⟩
  · right
    unfold ungam at h
    split at h
    · simp only [Prod.mk.injEq] at h; omega
    · split at h
      · simp only [Prod.mk.injEq] at h; omega
      · split at h
        · simp only [Prod.mk.injEq] at h; omega
        · simp only [Prod.mk.injEq] at h; omega

end Go.Proofs.Ytckekhghcelcpaa
