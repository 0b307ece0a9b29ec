/-
  Layer 13, plain: the transform's rows are stepped as its text's places; back, and only (P13.4, P13.5; ahead of the code's landing).
-/
import Derived.Test.YtjdpogaaookoeaaBwtM
namespace Go.Proofs.Ytjdpogaaookoeaa
set_option linter.unusedSimpArgs false
set_option linter.unusedVariables false
open Go.ChangeShapes Go.WideShapes Go.ChangeAt Go.RowKit Go.Joins Go.Deep

/-! ### The transform -/
def bahead (s : List UInt8) (p : Nat) : Option UInt8 := if p = 0 then none else some (s.getD (p - 1) 0)
def blast (s : List UInt8) : List UInt8 := (sarr s).filterMap (bahead s)
def bpr (s : List UInt8) : Nat := (sarr s).idxOf 0
/-- The transform's rows. -/
def bval (s : List UInt8) (p : Nat) : Int := if p = 0 then -1 else ((s.getD (p - 1) 0).toNat : Int)
def sbw (s : List UInt8) : List Int := (sarr s).map (bval s)
theorem wfm (s : List UInt8) : ∀ A : List Nat, 0 ∉ A → A.filterMap (bahead s) = A.map (fun p => s.getD (p - 1) 0)
  | [], _ => rfl
  | p :: A, h => by
    have hp : p ≠ 0 := fun e => h (by rw [e]; exact List.mem_cons_self ..)
    rw [List.filterMap_cons_some (b := s.getD (p - 1) 0) (by unfold bahead; rw [if_neg hp]), List.map_cons, wfm s A fun h2 => h (List.mem_cons_of_mem _ h2)]
theorem wfb (s : List UInt8) : ∀ A : List Nat, 0 ∉ A → bbs (A.map (fun p => s.getD (p - 1) 0)) = A.map (bval s)
  | [], _ => rfl
  | p :: A, h => by
    have hp : p ≠ 0 := fun e => h (by rw [e]; exact List.mem_cons_self ..)
    have ih := wfb s A fun h2 => h (List.mem_cons_of_mem _ h2)
    have hv : bval s p = ((s.getD (p - 1) 0).toNat : Int) := if_neg hp
    rw [List.map_cons, List.map_cons, ← ih, hv]
    rfl
theorem widx : ∀ (A B : List Nat), 0 ∉ A → (A ++ 0 :: B).idxOf 0 = A.length
  | [], B, _ => by simp
  | a :: A, B, h => by
    have ha : a ≠ 0 := fun e => h (by rw [e]; exact List.mem_cons_self ..)
    rw [List.cons_append, List.idxOf_cons, widx A B fun h2 => h (List.mem_cons_of_mem _ h2), show (a == 0) = false from beq_eq_false_iff_ne.2 ha]
    rfl
theorem bsplit (s : List UInt8) : ∃ A B, sarr s = A ++ 0 :: B ∧ 0 ∉ A ∧ 0 ∉ B := by
  obtain ⟨A, B, e⟩ := List.append_of_mem ((sarr_mem s 0).2 (by omega))
  have hn := sarr_nodup s
  rw [e, List.nodup_append] at hn
  refine ⟨A, B, e, fun h => hn.2.2 0 h 0 (List.mem_cons_self ..) rfl, (List.nodup_cons.1 hn.2.1).1⟩
theorem bparts (s : List UInt8) : blast s = (blast s).take (bpr s) ++ (blast s).drop (bpr s) ∧ bpr s ≤ (blast s).length ∧ (blast s).length = s.length ∧ bcol (blast s) (bpr s) = sbw s := by
  obtain ⟨A, B, e, hA, hB⟩ := bsplit s
  have h1 : blast s = A.map (fun p => s.getD (p - 1) 0) ++ B.map (fun p => s.getD (p - 1) 0) := by
    unfold blast
    rw [e, List.filterMap_append, List.filterMap_cons_none (by rfl), wfm s A hA, wfm s B hB]
  have h2 : bpr s = A.length := by
    unfold bpr
    rw [e, widx A B hA]
  have h3 := sarr_len s
  rw [e, List.length_append, List.length_cons] at h3
  refine ⟨(List.take_append_drop _ _).symm, ?_, ?_, ?_⟩
  · rw [h1, h2, List.length_append, List.length_map]
    omega
  · rw [h1, List.length_append, List.length_map, List.length_map]
    omega
  · unfold bcol sbw
    rw [h1, h2, List.take_left' (by rw [List.length_map]), List.drop_left' (by rw [List.length_map]), wfb s A hA, wfb s B hB, e, List.map_append, List.map_cons]
    rfl
theorem blast_len (s : List UInt8) : (blast s).length = s.length := (bparts s).2.2.1
theorem bpr_le (s : List UInt8) : bpr s ≤ s.length := by rw [← blast_len s]; exact (bparts s).2.1
theorem bcol_sbw (s : List UInt8) : bcol (blast s) (bpr s) = sbw s := (bparts s).2.2.2
theorem sbw_len (s : List UInt8) : (sbw s).length = s.length + 1 := by unfold sbw; rw [List.length_map, sarr_len]
theorem sbw_get (s : List UInt8) (i : Nat) (h : i < (sarr s).length) : (sbw s).getD i 0 = bval s (sarr s)[i] := by
  rw [List.getD_eq_getElem?_getD, List.getElem?_eq_getElem (by rw [sbw_len, ← sarr_len s]; exact h)]
  simp [sbw]
theorem bpr_get (s : List UInt8) : ∃ h : bpr s < (sarr s).length, (sarr s)[bpr s] = 0 := by
  have h : (sarr s).idxOf 0 < (sarr s).length := List.idxOf_lt_length_of_mem ((sarr_mem s 0).2 (by omega))
  exact ⟨h, List.getElem_idxOf h⟩
theorem bat (s : List UInt8) (p : Nat) (h : p < s.length + 1) : ∃ k, ∃ hk : k < (sarr s).length, (sarr s)[k] = p := by
  obtain ⟨k, hk, e⟩ := List.getElem_of_mem ((sarr_mem s p).2 h)
  exact ⟨k, hk, e⟩
theorem sarr_first (s : List UInt8) : ∃ h : 0 < (sarr s).length, (sarr s)[0] = s.length := by
  have hl := sarr_len s
  obtain ⟨k, hk, e⟩ := bat s s.length (by omega)
  cases k with
  | zero => exact ⟨hk, e⟩
  | succ k =>
    have := ssort_get (sarr_sort s) 0 (k + 1) (by omega) hk (by omega)
    rw [e] at this
    unfold slt at this
    rw [List.drop_length, slt_nil] at this
    cases this
theorem bpr_pos (s : List UInt8) (h : 0 < s.length) : 0 < bpr s := by
  obtain ⟨h1, e1⟩ := bpr_get s
  obtain ⟨h2, e2⟩ := sarr_first s
  refine Nat.pos_of_ne_zero fun e => ?_
  have : (sarr s)[bpr s]'h1 = (sarr s)[0]'h2 := by simp only [e]
  omega
theorem blast_perm (s : List UInt8) : (blast s).Perm s := by
  have h := (sarr_perm s).filterMap (bahead s)
  have e : (List.range (s.length + 1)).filterMap (bahead s) = s := by
    rw [List.range_succ_eq_map, List.filterMap_cons_none (by rfl), wfm s _ (by simp), List.map_map]
    apply List.ext_getElem
    · simp
    · intro i h1 h2
      simp [h2]
  rw [e] at h
  exact h

/-! ### A step from a row of a transform is a step back in the text -/
theorem slt_row (s : List UInt8) (i k : Nat) (hi : i < (sarr s).length) (hk : k < (sarr s).length) : slt s (sarr s)[k] (sarr s)[i] = decide (k < i) := by
  by_cases h : k < i
  · rw [ssort_get (sarr_sort s) k i hk hi h, decide_eq_true h]
  · rw [decide_eq_false h]
    by_cases e : k = i
    · subst e
      exact (slt_ord s).irr _
    · exact (slt_ord s).asym _ _ (ssort_get (sarr_sort s) i k hi hk (by omega))
theorem bslt_step (s : List UInt8) (q p : Nat) (hq : q < s.length) (hp : p < s.length) : slt s q p = true ↔ s[q].toNat < s[p].toNat ∨ (s[q] = s[p] ∧ slt s (q + 1) (p + 1) = true) := by
  unfold slt
  rw [List.drop_eq_getElem_cons hq, List.drop_eq_getElem_cons hp]
  exact slt_iff _ _ _ _
theorem blf (s : List UInt8) (i p : Nat) (hi : i < (sarr s).length) (hp : (sarr s)[i] = p + 1) : ∃ h : brk (sbw s) i < (sarr s).length, (sarr s)[brk (sbw s) i] = p := by
  have hle := sarr_le s i hi
  have hl := sarr_len s
  obtain ⟨k, hk, e⟩ := bat s p (by omega)
  have hc := wsort_idx (slt_ord s) (sarr_sort s) k hk
  rw [e, (sarr_perm s).countP_eq, List.range_succ, List.countP_append, List.countP_singleton] at hc
  have hlast : slt s s.length p = true := by
    unfold slt
    rw [List.drop_length, List.drop_eq_getElem_cons (show p < s.length by omega)]
    rfl
  rw [if_pos hlast] at hc
  have hb : brk (sbw s) i = (sarr s).countP fun q => q == 0 || slt s (q - 1) p := by
    unfold brk
    rw [sbw_len, ← hl]
    have e2 : (sarr s).countP (fun q => q == 0 || slt s (q - 1) p) = ((List.range (sarr s).length).map fun k => (sarr s).getD k 0).countP (fun q => q == 0 || slt s (q - 1) p) := by
      congr 1
      apply List.ext_getElem
      · simp
      · intro j h1 h2
        simp [h1]
    rw [e2, List.countP_map]
    refine List.countP_congr fun j hj => ?_
    rw [List.mem_range] at hj
    rw [klt_iff, sbw_get s j hj, sbw_get s i hi, hp]
    show _ ↔ ((sarr s).getD j 0 == 0 || slt s ((sarr s).getD j 0 - 1) p) = true
    rw [show (sarr s).getD j 0 = (sarr s)[j] from by rw [List.getD_eq_getElem?_getD, List.getElem?_eq_getElem hj]; rfl]
    have hr := slt_row s i j hi hj
    have hle2 := sarr_le s j hj
    have hv : bval s (p + 1) = (s[p].toNat : Int) := by
      unfold bval
      rw [if_neg (by omega), Nat.add_sub_cancel, List.getD_eq_getElem?_getD, List.getElem?_eq_getElem (by omega)]
      rfl
    rw [hv]
    generalize hq : (sarr s)[j] = q at *
    cases q with
    | zero =>
      have : bval s 0 = -1 := rfl
      rw [this]
      simp
      omega
    | succ q =>
      have hv2 : bval s (q + 1) = (s[q].toNat : Int) := by
        unfold bval
        rw [if_neg (by omega), Nat.add_sub_cancel, List.getD_eq_getElem?_getD, List.getElem?_eq_getElem (by omega)]
        rfl
      rw [hv2, hp] at *
      have hs := bslt_step s q p (by omega) (by omega)
      rw [hr] at hs
      rw [Nat.add_sub_cancel, show ((q + 1 == 0) = false) from rfl, Bool.false_or, hs, decide_eq_true_iff]
      constructor
      · rintro (h | ⟨h, h2⟩)
        · exact Or.inl (by omega)
        · exact Or.inr ⟨UInt8.toNat_inj.1 (by omega), h2⟩
      · rintro (h | ⟨h, h2⟩)
        · exact Or.inl (by omega)
        · exact Or.inr ⟨by rw [h], h2⟩
  rw [(sarr_perm s).countP_eq, List.range_succ_eq_map, List.countP_cons, List.countP_map] at hb
  have e3 : brk (sbw s) i = k := by
    rw [hb, ← hc]
    congr 1
  exact ⟨by omega, by simp only [e3]; exact e⟩
/-- After k steps from row 0: the row of the end of k bytes. -/
theorem bwalk (s : List UInt8) : ∀ k, k ≤ s.length → ∃ h : bro (sbw s) k < (sarr s).length, (sarr s)[bro (sbw s) k] = s.length - k
  | 0, _ => by
    obtain ⟨h, e⟩ := sarr_first s
    exact ⟨h, by show (sarr s)[0] = _; rw [e]; rfl⟩
  | k + 1, hk => by
    obtain ⟨h, e⟩ := bwalk s k (by omega)
    exact blf s _ _ h (by rw [e]; omega)
end Go.Proofs.Ytjdpogaaookoeaa
