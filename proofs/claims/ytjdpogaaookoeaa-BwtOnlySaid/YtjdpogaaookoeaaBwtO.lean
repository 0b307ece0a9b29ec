/-
  Layer 13, plain: what Forward, Steps and Inverse answer; back, and only (P13.4, P13.5; ahead of the code's landing).
-/
import Derived.Test.YtjdpogaaookoeaaBwtN
namespace Go.Proofs.Ytjdpogaaookoeaa
set_option linter.unusedSimpArgs false
set_option linter.unusedVariables false
open Go.ChangeShapes Go.WideShapes Go.ChangeAt Go.RowKit Go.Joins Go.Deep

def bch (x : Int) : UInt8 := UInt8.ofNat x.toNat
theorem bch_nat (b : UInt8) : bch (b.toNat : Int) = b := by
  unfold bch
  rw [Int.toNat_natCast]
  exact UInt8.ofNat_toNat
/-- What has been told after k steps. -/
def bout (c : List Int) : Nat → List UInt8
  | 0 => []
  | k + 1 => bch (c.getD (bro c k) 0) :: bout c k
theorem bout_len (c : List Int) : ∀ k, (bout c k).length = k
  | 0 => rfl
  | k + 1 => by
    show (bout c k).length + 1 = k + 1
    rw [bout_len c k]
theorem bout_get (c : List Int) : ∀ m k, k < m → (bout c m).getD (m - 1 - k) 0 = bch (c.getD (bro c k) 0)
  | 0, k, h => by omega
  | m + 1, k, h => by
    show (bch (c.getD (bro c m) 0) :: bout c m).getD (m + 1 - 1 - k) 0 = _
    by_cases e : k = m
    · subst e
      rw [show k + 1 - 1 - k = 0 from by omega]
      rfl
    · rw [show m + 1 - 1 - k = (m - 1 - k) + 1 from by omega, List.getD_cons_succ]
      exact bout_get c m k (by omega)
/-- Is the primary come to behind just as many steps as there are last bytes? -/
def bok (l : List UInt8) (r : Nat) : Bool := (List.range l.length).all (fun k => decide (bro (bcol l r) k ≠ r)) && decide (bro (bcol l r) l.length = r)
theorem bok_iff (l : List UInt8) (r : Nat) : bok l r = true ↔ (∀ k, k < l.length → bro (bcol l r) k ≠ r) ∧ bro (bcol l r) l.length = r := by
  unfold bok
  rw [Bool.and_eq_true, List.all_eq_true, decide_eq_true_iff]
  constructor
  · rintro ⟨h1, h2⟩
    exact ⟨fun k hk => of_decide_eq_true (h1 k (List.mem_range.2 hk)), h2⟩
  · rintro ⟨h1, h2⟩
    exact ⟨fun k hk => decide_eq_true (h1 k (List.mem_range.1 hk)), h2⟩
def bbad (l : List UInt8) (r : Int) : Prop := (l.length = 0 ∧ r ≠ 0) ∨ (0 < l.length ∧ (r < 1 ∨ (l.length : Int) < r))
instance (l : List UInt8) (r : Int) : Decidable (bbad l r) := by unfold bbad; infer_instance
def btF (s : List UInt8) : List UInt8 × Int × Int := if 20000 < s.length then ([], 0, 3) else (blast s, (bpr s : Int), 0)
def bsF (l : List UInt8) (r : Int) : List Int × Int := if 20000 < l.length then ([], 3) else if bbad l r then ([], 130) else (splc ((List.range (l.length + 1)).map (brk (bcol l r.toNat))), 0)
def biF (l : List UInt8) (r : Int) : List UInt8 × Int := if 20000 < l.length then ([], 3) else if bbad l r then ([], 130) else if bok l r.toNat = true then (bout (bcol l r.toNat) l.length, 0) else ([], 130)
theorem bgood {l : List UInt8} {r : Int} (h : ¬ bbad l r) : ∃ k : Nat, r = (k : Int) ∧ k ≤ l.length ∧ (0 < l.length → 0 < k) := by
  unfold bbad at h
  refine ⟨r.toNat, ?_, ?_, fun h2 => ?_⟩ <;> by_cases e : l.length = 0 <;> omega
theorem bpr_good (s : List UInt8) : ¬ bbad (blast s) (bpr s) := by
  unfold bbad
  rw [blast_len]
  have h1 := bpr_le s
  have h2 := bpr_pos s
  rintro (⟨h3, h4⟩ | ⟨h3, h4⟩)
  · omega
  · have := h2 h3
    omega

/-! ### Back (P13.4) -/
theorem bout_back (s : List UInt8) : ∀ k, k ≤ s.length → bout (sbw s) k = s.drop (s.length - k)
  | 0, _ => by
    rw [Nat.sub_zero, List.drop_length]
    rfl
  | k + 1, hk => by
    obtain ⟨h, e⟩ := bwalk s k (by omega)
    show bch ((sbw s).getD (bro (sbw s) k) 0) :: bout (sbw s) k = _
    rw [bout_back s k (by omega), sbw_get s _ h, e, List.drop_eq_getElem_cons (show s.length - (k + 1) < s.length by omega), show s.length - (k + 1) + 1 = s.length - k from by omega]
    unfold bval
    have e9 : s.length - k - 1 = s.length - (k + 1) := by omega
    rw [if_neg (by omega), bch_nat, e9, List.getD_eq_getElem?_getD, List.getElem?_eq_getElem (by omega)]
    rfl
theorem bok_back (s : List UInt8) : bok (blast s) (bpr s) = true := by
  rw [bok_iff, bcol_sbw, blast_len]
  obtain ⟨h0, e0⟩ := bpr_get s
  constructor
  · intro k hk e
    obtain ⟨h, e2⟩ := bwalk s k (by omega)
    simp only [e] at e2
    omega
  · obtain ⟨h, e2⟩ := bwalk s s.length (Nat.le_refl _)
    exact sarr_inj s _ _ h h0 (by omega)
theorem bback (s : List UInt8) (h : s.length ≤ 20000) : biF (blast s) (bpr s) = (s, 0) := by
  unfold biF
  rw [if_neg (by rw [blast_len]; omega), if_neg (bpr_good s), Int.toNat_natCast, if_pos (bok_back s), bcol_sbw, blast_len, bout_back s _ (Nat.le_refl _), Nat.sub_self]
  rfl

/-! ### Only (P13.5) -/
theorem bcol_byte (l : List UInt8) (r i : Nat) (h : r ≤ l.length) (hi : i < l.length + 1) (hne : i ≠ r) : ∃ b : UInt8, (bcol l r).getD i 0 = (b.toNat : Int) := by
  rcases Nat.lt_or_gt_of_ne hne with h2 | h2
  · exact ⟨_, bcol_low l r i h h2⟩
  · exact ⟨_, bcol_high l r i h h2 hi⟩
theorem bcol_inj (l t : List UInt8) (r q : Nat) (h : r ≤ l.length) (k : q ≤ t.length) (e : bcol l r = bcol t q) : l = t ∧ r = q := by
  have hl := congrArg List.length e
  rw [bcol_len l r h, bcol_len t q k] at hl
  have er : r = q := by
    by_cases e2 : r = q
    · exact e2
    · have h1 := bcol_at l r h
      have h2 := bcol_ge t q r k (by omega) e2
      rw [e] at h1
      omega
  subst er
  unfold bcol at e
  have hlen : (bbs (l.take r)).length = (bbs (t.take r)).length := by
    rw [bbs_len, bbs_len, List.length_take, List.length_take]
    omega
  obtain ⟨e1, e2⟩ := List.append_inj e hlen
  have e3 := bbs_inj _ _ e1
  have e4 := bbs_inj _ _ (List.cons.inj e2).2
  refine ⟨?_, rfl⟩
  rw [← List.take_append_drop r l, ← List.take_append_drop r t, e3, e4]
section
variable (l : List UInt8) (r : Nat) (h : r ≤ l.length) (hN : ∀ k, k < l.length → bro (bcol l r) k ≠ r)
include h hN
theorem bonly_byte (k : Nat) (hk : k < l.length) : (bcol l r).getD (bro (bcol l r) k) 0 = (((bout (bcol l r) l.length).getD (l.length - 1 - k) 0).toNat : Int) := by
  obtain ⟨b, e⟩ := bcol_byte l r (bro (bcol l r) k) h (by have := bro_lt (bcol l r) (by rw [bcol_len l r h]; omega) k; rw [bcol_len l r h] at this; exact this) (hN k hk)
  rw [bout_get _ _ _ hk, e, bch_nat]
theorem bonly_lt : ∀ i j, i ≤ l.length → j ≤ l.length → (slt (bout (bcol l r) l.length) (l.length - i) (l.length - j) = true ↔ bro (bcol l r) i < bro (bcol l r) j)
  | i, 0, hi, _ => by
    unfold slt
    rw [Nat.sub_zero, show (bout (bcol l r) l.length).drop l.length = [] from List.drop_of_length_le (by rw [bout_len]; omega), slt_nil]
    constructor
    · intro h
      cases h
    · intro h
      exact absurd h (Nat.not_lt_zero _)
  | 0, j + 1, _, hj => by
    have h1 := bro_apart l r h hN 0 (j + 1) (by omega) hj
    unfold slt
    rw [Nat.sub_zero, show (bout (bcol l r) l.length).drop l.length = [] from List.drop_of_length_le (by rw [bout_len]; omega), List.drop_eq_getElem_cons (show l.length - (j + 1) < (bout (bcol l r) l.length).length by rw [bout_len]; omega)]
    have e0 : bro (bcol l r) 0 = 0 := rfl
    rw [e0] at h1 ⊢
    constructor
    · intro _
      exact Nat.pos_of_ne_zero fun e => h1 e.symm
    · intro _
      rfl
  | i + 1, j + 1, hi, hj => by
    have hl := bout_len (bcol l r) l.length
    have hi2 : l.length - (i + 1) < (bout (bcol l r) l.length).length := by omega
    have hj2 : l.length - (j + 1) < (bout (bcol l r) l.length).length := by omega
    have b1 := bonly_byte l r h hN i (by omega)
    have b2 := bonly_byte l r h hN j (by omega)
    have g : ∀ i, (hi : l.length - (i + 1) < (bout (bcol l r) l.length).length) → (bout (bcol l r) l.length).getD (l.length - 1 - i) 0 = (bout (bcol l r) l.length)[l.length - (i + 1)] := fun i hi => by
      have e9 : l.length - 1 - i = l.length - (i + 1) := by omega
      rw [e9, List.getD_eq_getElem?_getD, List.getElem?_eq_getElem hi, Option.getD_some]
    rw [g i hi2] at b1
    rw [g j hj2] at b2
    have ih := bonly_lt i j (by omega) (by omega)
    have hc := bcol_len l r h
    show _ ↔ brk (bcol l r) (bro (bcol l r) i) < brk (bcol l r) (bro (bcol l r) j)
    rw [brk_iff _ (bro_lt _ (by omega) i) (bro_lt _ (by omega) j), klt_iff, bslt_step _ _ _ hi2 hj2, b1, b2, show l.length - (i + 1) + 1 = l.length - i from by omega, show l.length - (j + 1) + 1 = l.length - j from by omega, ih]
    constructor
    · rintro (h | ⟨h, h2⟩)
      · exact Or.inl (by omega)
      · exact Or.inr ⟨by rw [h], h2⟩
    · rintro (h | ⟨h, h2⟩)
      · exact Or.inl (by omega)
      · exact Or.inr ⟨UInt8.toNat_inj.1 (by omega), h2⟩
theorem bonly_perm : ((List.range (l.length + 1)).map fun q => bro (bcol l r) (l.length - q)).Perm (List.range (l.length + 1)) := by
  refine wperm ?_ ?_ (by rw [List.length_map, List.length_range])
  · rw [List.nodup_iff_pairwise_ne, List.pairwise_iff_getElem]
    intro i j hi hj hij
    rw [List.length_map, List.length_range] at hj
    rw [List.getElem_map, List.getElem_map, List.getElem_range, List.getElem_range]
    exact (bro_apart l r h hN (l.length - j) (l.length - i) (by omega) (by omega)).symm
  · intro x hx
    obtain ⟨k, _, rfl⟩ := List.mem_map.1 hx
    have := bro_lt (bcol l r) (by rw [bcol_len l r h]; omega) (l.length - k)
    rw [bcol_len l r h] at this
    exact this
theorem bonly_row (i : Nat) (hi : i ≤ l.length) : ∃ k : bro (bcol l r) i < (sarr (bout (bcol l r) l.length)).length, (sarr (bout (bcol l r) l.length))[bro (bcol l r) i] = l.length - i := by
  have hl := bout_len (bcol l r) l.length
  obtain ⟨k, hk, e⟩ := bat (bout (bcol l r) l.length) (l.length - i) (by omega)
  have hc := wsort_idx (slt_ord _) (sarr_sort (bout (bcol l r) l.length)) k hk
  rw [e, (sarr_perm _).countP_eq, hl] at hc
  have hb : bro (bcol l r) i ≤ l.length + 1 := by
    have := bro_lt (bcol l r) (by rw [bcol_len l r h]; omega) i
    rw [bcol_len l r h] at this
    omega
  have h2 := wcount_below (l.length + 1) _ hb
  rw [← (bonly_perm l r h hN).countP_eq, List.countP_map] at h2
  have e2 : k = bro (bcol l r) i := by
    rw [← hc, ← h2]
    refine List.countP_congr fun q hq => ?_
    rw [List.mem_range] at hq
    have := bonly_lt l r h hN (l.length - q) i (by omega) hi
    rw [show l.length - (l.length - q) = q from by omega] at this
    rw [this]
    simp
  exact ⟨by omega, by simp only [← e2]; exact e⟩
theorem bonly_col (hE : bro (bcol l r) l.length = r) : sbw (bout (bcol l r) l.length) = bcol l r := by
  have hl := bout_len (bcol l r) l.length
  apply List.ext_getElem
  · rw [sbw_len, hl, bcol_len l r h]
  · intro a h1 h2
    have hm : a ∈ (List.range (l.length + 1)).map (bro (bcol l r)) := (bro_perm l r h hN).mem_iff.2 (by rw [List.mem_range, ← bcol_len l r h]; exact h2)
    obtain ⟨k, hk, e⟩ := List.mem_map.1 hm
    rw [List.mem_range] at hk
    obtain ⟨h3, e3⟩ := bonly_row l r h hN k (by omega)
    have e4 := sbw_get _ _ h3
    have key : (sbw (bout (bcol l r) l.length)).getD a 0 = (bcol l r).getD a 0 := by
      rw [← e, e4, e3]
      by_cases hkn : k = l.length
      · subst hkn
        rw [Nat.sub_self, hE, bcol_at l r h]
        rfl
      · rw [bonly_byte l r h hN k (by omega)]
        unfold bval
        rw [if_neg (by omega), show l.length - k - 1 = l.length - 1 - k from by omega]
    rw [List.getD_eq_getElem?_getD, List.getD_eq_getElem?_getD, List.getElem?_eq_getElem h1, List.getElem?_eq_getElem h2] at key
    exact key
end
theorem bonly (l : List UInt8) (r : Nat) (h : r ≤ l.length) (hk : bok l r = true) : blast (bout (bcol l r) l.length) = l ∧ bpr (bout (bcol l r) l.length) = r := by
  obtain ⟨hN, hE⟩ := (bok_iff l r).1 hk
  have := bonly_col l r h hN hE
  rw [← bcol_sbw] at this
  exact bcol_inj _ _ _ _ (by rw [blast_len]; exact bpr_le _) h this
/-- What Inverse takes is the transform of what it tells. -/
theorem bi_only (l : List UInt8) (r : Int) (h : (biF l r).2 = 0) : btF (biF l r).1 = (l, r, 0) ∧ (biF l r).1.length = l.length := by
  unfold biF at h ⊢
  by_cases h1 : 20000 < l.length
  · rw [if_pos h1] at h
    cases h
  · rw [if_neg h1] at h ⊢
    by_cases h2 : bbad l r
    · rw [if_pos h2] at h
      cases h
    · rw [if_neg h2] at h ⊢
      obtain ⟨k, rfl, hk, _⟩ := bgood h2
      rw [Int.toNat_natCast] at h ⊢
      by_cases h3 : bok l k = true
      · rw [if_pos h3]
        obtain ⟨e1, e2⟩ := bonly l k hk h3
        unfold btF
        dsimp only
        rw [if_neg (by rw [bout_len]; exact h1), e1, e2, bout_len]
        exact ⟨rfl, rfl⟩
      · rw [if_neg h3] at h
        cases h
theorem bi_none (l : List UInt8) (r : Int) (h : (biF l r).2 ≠ 0) : (biF l r).1 = [] := by
  unfold biF at h ⊢
  split
  · rfl
  · split
    · rfl
    · split
      · rename_i h1 h2 h3
        rw [if_neg h1, if_neg h2, if_pos h3] at h
        exact absurd rfl h
      · rfl
end Go.Proofs.Ytjdpogaaookoeaa
