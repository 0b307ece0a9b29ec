/-
  Layer 13, plain: what the statement BwtSteps keeps of the rows that it has seen (ahead of the code's landing).
-/
import Derived.Test.YtjdpogaaookoeaaBwtO
namespace Go.Proofs.Ytjdpogaaookoeaa
set_option linter.unusedSimpArgs false
set_option linter.unusedVariables false
open Go.ChangeShapes Go.WideShapes Go.ChangeAt Go.RowKit Go.Joins Go.Deep

/-- The rows that have been stepped to. -/
def wse (c : List Int) (r N k : Nat) : List Bool := (List.range N).map fun p => (List.range k).any fun j => decide (j ≠ r) && decide (brk c j = p)
theorem wse_len (c : List Int) (r N k : Nat) : (wse c r N k).length = N := by simp [wse]
theorem wse_get (c : List Int) (r N k p : Nat) (h : p < (wse c r N k).length) : (wse c r N k)[p] = (List.range k).any fun j => decide (j ≠ r) && decide (brk c j = p) := by simp [wse]
theorem wse_zero (c : List Int) (r N : Nat) : wse c r N 0 = List.replicate N false := by
  unfold wse
  apply List.ext_getElem
  · simp
  · intro i h1 h2
    simp
theorem wse_skip (c : List Int) (r N : Nat) : wse c r N (r + 1) = wse c r N r := by
  apply List.ext_getElem
  · rw [wse_len, wse_len]
  · intro i h1 h2
    rw [wse_get, wse_get, List.range_succ, List.any_append]
    simp
theorem wse_set (c : List Int) (r N k : Nat) (hne : k ≠ r) : (wse c r N k).set (brk c k) true = wse c r N (k + 1) := by
  apply List.ext_getElem
  · rw [List.length_set, wse_len, wse_len]
  · intro i h1 h2
    rw [List.getElem_set, wse_get, wse_get, List.range_succ, List.any_append]
    by_cases e : brk c k = i
    · rw [if_pos e]
      simp [hne, e]
    · rw [if_neg e]
      simp [e]
theorem wse_fresh (c : List Int) (r N k : Nat) (hk : k < c.length) (h : brk c k < (wse c r N k).length) : (wse c r N k)[brk c k] = false := by
  rw [wse_get, List.any_eq_false]
  intro j hj
  rw [List.mem_range] at hj
  have : brk c j ≠ brk c k := fun e => by
    have := brk_inj c (by omega) hk e
    omega
  simp [this]
/-- Of each byte the highest row that has been stepped to. -/
def wtp (c : List Int) (r : Nat) : Nat → List Int
  | 0 => List.replicate 256 0
  | k + 1 => if k = r then wtp c r k else (wtp c r k).set (c.getD k 0).toNat ((brk c k : Nat) : Int)
theorem wtp_len (c : List Int) (r : Nat) : ∀ k, (wtp c r k).length = 256
  | 0 => List.length_replicate ..
  | k + 1 => by
    unfold wtp
    split
    · exact wtp_len c r k
    · rw [List.length_set]
      exact wtp_len c r k
theorem wtp_from (c : List Int) (r : Nat) : ∀ (k b : Nat) (h : b < (wtp c r k).length), (wtp c r k)[b] = 0 ∨ ∃ j, j < k ∧ j ≠ r ∧ (c.getD j 0).toNat = b ∧ (wtp c r k)[b] = ((brk c j : Nat) : Int)
  | 0, b, h => Or.inl (by
    show (List.replicate 256 (0 : Int))[b]'(by rw [List.length_replicate]; rw [wtp_len] at h; exact h) = 0
    exact List.getElem_replicate _)
  | k + 1, b, h => by
    have hb : b < (wtp c r k).length := by rw [wtp_len] at h ⊢; exact h
    have ih := wtp_from c r k b hb
    by_cases e : k = r
    · have e2 : wtp c r (k + 1) = wtp c r k := if_pos e
      simp only [e2]
      rcases ih with ih | ⟨j, h1, h2⟩
      · exact Or.inl ih
      · exact Or.inr ⟨j, by omega, h2⟩
    · have e2 : wtp c r (k + 1) = (wtp c r k).set (c.getD k 0).toNat ((brk c k : Nat) : Int) := if_neg e
      simp only [e2, List.getElem_set]
      by_cases e3 : (c.getD k 0).toNat = b
      · exact Or.inr ⟨k, by omega, e, e3, by rw [if_pos e3]⟩
      · rw [if_neg e3]
        rcases ih with ih | ⟨j, h1, h2⟩
        · exact Or.inl ih
        · exact Or.inr ⟨j, by omega, h2⟩
/-- What the statement's round finds at a row that is not the primary. -/
theorem wst_at (l : List UInt8) (r k : Nat) (h : r ≤ l.length) (hk : k < l.length + 1) (hne : k ≠ r) :
    ∃ (x i T Y : Nat) (b : UInt8) (hS : k < (splc ((List.range (l.length + 1)).map (brk (bcol l r)))).length) (hi : i < l.length),
      (splc ((List.range (l.length + 1)).map (brk (bcol l r))))[k] = (x : Int) ∧ (r < k → i + 1 = k) ∧ (k < r → i = k) ∧ l[i] = b ∧ b.toNat = Y ∧ Y < 256 ∧ 1 ≤ x ∧ x < l.length + 1 ∧
      (∃ hq : x < (wse (bcol l r) r (l.length + 1) k).length, (wse (bcol l r) r (l.length + 1) k)[x] = false) ∧ (wse (bcol l r) r (l.length + 1) k).set x true = wse (bcol l r) r (l.length + 1) (k + 1) ∧
      (∃ hb : Y < (wtp (bcol l r) r k).length, (wtp (bcol l r) r k)[Y] = (T : Int)) ∧ T < x ∧ (wtp (bcol l r) r k).set Y (x : Int) = wtp (bcol l r) r (k + 1) := by
  have hc := bcol_len l r h
  have hx1 := brk_pos l r k h hk hne
  have hx2 := brk_bound (bcol l r) (i := k) (by omega)
  obtain ⟨i, hi, hi1, hi2, hv⟩ : ∃ i, ∃ hi : i < l.length, (r < k → i + 1 = k) ∧ (k < r → i = k) ∧ (bcol l r).getD k 0 = (l[i].toNat : Int) := by
    rcases Nat.lt_or_gt_of_ne hne with h1 | h1
    · refine ⟨k, by omega, fun h => by omega, fun _ => rfl, ?_⟩
      rw [bcol_low l r k h h1, List.getD_eq_getElem?_getD, List.getElem?_eq_getElem (by omega)]
      rfl
    · refine ⟨k - 1, by omega, fun _ => by omega, fun h => by omega, ?_⟩
      rw [bcol_high l r k h h1 hk, List.getD_eq_getElem?_getD, List.getElem?_eq_getElem (by omega)]
      rfl
  have hY : l[i].toNat < (wtp (bcol l r) r k).length := by rw [wtp_len]; exact l[i].toNat_lt
  obtain ⟨T, hT, hTx⟩ : ∃ T : Nat, (wtp (bcol l r) r k)[l[i].toNat] = (T : Int) ∧ T < brk (bcol l r) k := by
    rcases wtp_from (bcol l r) r k _ hY with h0 | ⟨j, h1, h2, h3, h4⟩
    · exact ⟨0, h0, hx1⟩
    · refine ⟨brk (bcol l r) j, h4, brk_lt _ (by omega) ?_⟩
      rw [klt_iff]
      have hge := bcol_ge l r j h (by omega) h2
      exact Or.inr ⟨by omega, h1⟩
  refine ⟨brk (bcol l r) k, i, T, l[i].toNat, l[i], by rw [splc_len, List.length_map, List.length_range]; omega, hi, ?_, hi1, hi2, rfl, rfl, l[i].toNat_lt, hx1, by omega, ⟨by rw [wse_len]; omega, wse_fresh _ _ _ _ (by omega) _⟩, wse_set _ _ _ _ hne, ⟨hY, hT⟩, hTx, ?_⟩
  · rw [splc_get, List.getElem_map, List.getElem_range]
  · have e2 : wtp (bcol l r) r (k + 1) = (wtp (bcol l r) r k).set ((bcol l r).getD k 0).toNat ((brk (bcol l r) k : Nat) : Int) := if_neg hne
    rw [e2, hv, Int.toNat_natCast]
theorem wtp_skip (c : List Int) (r : Nat) : wtp c r (r + 1) = wtp c r r := if_pos rfl
end Go.Proofs.Ytjdpogaaookoeaa
