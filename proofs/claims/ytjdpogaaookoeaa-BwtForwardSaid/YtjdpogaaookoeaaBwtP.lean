/-
  Layer 13, plain: the step as the document's words tell it: as many last bytes below, and the same ahead, and 1 (ahead of the code's landing).
-/
import Derived.Test.YtjdpogaaookoeaaBwtO
namespace Go.Proofs.Ytjdpogaaookoeaa
set_option linter.unusedSimpArgs false
set_option linter.unusedVariables false
open Go.ChangeShapes Go.WideShapes Go.ChangeAt Go.RowKit Go.Joins Go.Deep

theorem wcount_or {p q : Nat → Bool} : ∀ l : List Nat, (∀ k ∈ l, ¬ (p k = true ∧ q k = true)) → l.countP (fun k => p k || q k) = l.countP p + l.countP q
  | [], _ => rfl
  | a :: l, h => by
    have ih := wcount_or l fun k hk => h k (List.mem_cons_of_mem _ hk)
    have ha := h a (List.mem_cons_self ..)
    rw [List.countP_cons, List.countP_cons, List.countP_cons, ih]
    cases h1 : p a <;> cases h2 : q a <;> simp_all <;> omega
theorem wcount_list (c : List Int) (f : Int → Bool) : (List.range c.length).countP (fun j => f (c.getD j 0)) = c.countP f := by
  have e : (List.range c.length).map (fun j => c.getD j 0) = c := by
    apply List.ext_getElem
    · simp
    · intro i h1 h2
      simp [h2]
  have h := List.countP_map (p := f) (f := fun j => c.getD j 0) (l := List.range c.length)
  rw [e] at h
  exact h.symm
theorem wcount_take (c : List Int) (f : Int → Bool) (k : Nat) (hk : k ≤ c.length) : (List.range c.length).countP (fun j => f (c.getD j 0) && decide (j < k)) = (c.take k).countP f := by
  have e : List.range c.length = List.range k ++ (List.range (c.length - k)).map (k + ·) := by
    rw [← List.range_add]
    congr 1
    omega
  rw [e, List.countP_append]
  have h2 : ((List.range (c.length - k)).map (k + ·)).countP (fun j => f (c.getD j 0) && decide (j < k)) = 0 := by
    rw [List.countP_eq_zero]
    intro j hj
    obtain ⟨i, _, rfl⟩ := List.mem_map.1 hj
    simp
  rw [h2, Nat.add_zero]
  have h3 : (List.range k).countP (fun j => f (c.getD j 0) && decide (j < k)) = (List.range k).countP (fun j => f ((c.take k).getD j 0)) := by
    refine List.countP_congr fun j hj => ?_
    rw [List.mem_range] at hj
    have : (c.take k).getD j 0 = c.getD j 0 := by
      rw [List.getD_eq_getElem?_getD, List.getD_eq_getElem?_getD, List.getElem?_take, if_pos hj]
    rw [this, decide_eq_true hj, Bool.and_true]
  have hl : (c.take k).length = k := by rw [List.length_take]; omega
  rw [h3]
  have := wcount_list (c.take k) f
  rw [hl] at this
  exact this
theorem bbs_count (l : List UInt8) (f : Int → Bool) : (bbs l).countP f = l.countP fun b => f (b.toNat : Int) := by
  unfold bbs
  rw [List.countP_map]
  rfl
theorem bbs_take (l : List UInt8) (k : Nat) : (bbs l).take k = bbs (l.take k) := by simp [bbs]
/-- How many last bytes are below a byte. -/
def bbelow (l : List UInt8) (b : Nat) : Nat := l.countP fun x => decide (x.toNat < b)
/-- How often a byte comes in the first i. -/
def bsame (l : List UInt8) (b i : Nat) : Nat := (l.take i).countP fun x => decide (x.toNat = b)
theorem brk_is (l : List UInt8) (r k i : Nat) (h : r ≤ l.length) (hk : k < l.length + 1) (hi : i < l.length) (hki : (k < r ∧ i = k) ∨ (r < k ∧ i + 1 = k)) : brk (bcol l r) k = bbelow l l[i].toNat + bsame l l[i].toNat i + 1 := by
  have hc := bcol_len l r h
  have hv : (bcol l r).getD k 0 = (l[i].toNat : Int) := by
    rcases hki with ⟨h1, rfl⟩ | ⟨h1, h2⟩
    · rw [bcol_low l r i h h1, List.getD_eq_getElem?_getD, List.getElem?_eq_getElem hi]
      rfl
    · rw [bcol_high l r k h h1 hk, List.getD_eq_getElem?_getD, show k - 1 = i from by omega, List.getElem?_eq_getElem hi]
      rfl
  generalize hb : l[i].toNat = b at *
  have h1 : brk (bcol l r) k = (List.range (bcol l r).length).countP (fun j => decide ((bcol l r).getD j 0 < (b : Int)) || (decide ((bcol l r).getD j 0 = (b : Int)) && decide (j < k))) := by
    unfold brk klt
    rw [hv]
  rw [h1, wcount_or _ fun j _ hj => by
    have e1 := of_decide_eq_true hj.1
    have e2 := of_decide_eq_true (Bool.and_eq_true_iff.1 hj.2).1
    omega]
  rw [wcount_list (bcol l r) (fun x => decide (x < (b : Int))), wcount_take (bcol l r) (fun x => decide (x = (b : Int))) k (by omega)]
  have h2 : (bcol l r).countP (fun x => decide (x < (b : Int))) = bbelow l b + 1 := by
    unfold bcol bbelow
    rw [List.countP_append, List.countP_cons, bbs_count, bbs_count, if_pos (by rw [decide_eq_true_iff]; omega)]
    have := List.countP_append (p := fun x : UInt8 => decide ((x.toNat : Int) < (b : Int))) (l₁ := l.take r) (l₂ := l.drop r)
    rw [List.take_append_drop] at this
    have e : l.countP (fun x => decide ((x.toNat : Int) < (b : Int))) = l.countP (fun x => decide (x.toNat < b)) := List.countP_congr fun x _ => by rw [decide_eq_true_iff, decide_eq_true_iff]; omega
    omega
  have h3 : ((bcol l r).take k).countP (fun x => decide (x = (b : Int))) = bsame l b i := by
    have e : ∀ m : List UInt8, m.countP (fun x => decide ((x.toNat : Int) = (b : Int))) = m.countP (fun x => decide (x.toNat = b)) := fun m => List.countP_congr fun x _ => by rw [decide_eq_true_iff, decide_eq_true_iff]; omega
    unfold bcol bsame
    rcases hki with ⟨h4, rfl⟩ | ⟨h4, h5⟩
    · rw [List.take_append_of_le_length (by rw [bbs_len, List.length_take]; omega), bbs_take, bbs_count, e, List.take_take, Nat.min_eq_left (by omega)]
    · have h6 : (bbs (l.take r)).length = r := by rw [bbs_len, List.length_take]; omega
      obtain ⟨m, hm⟩ : ∃ m, k - r = m + 1 := ⟨k - r - 1, by omega⟩
      rw [List.take_append, h6, hm, List.take_of_length_le (by omega), List.take_succ_cons, List.countP_append, List.countP_cons, if_neg (by rw [decide_eq_true_iff]; omega), bbs_take, bbs_count, bbs_count, e, e, Nat.add_zero]
      have e2 : l.take i = l.take r ++ (l.drop r).take m := by
        rw [← List.take_add]
        congr 1
        omega
      rw [e2, List.countP_append]
  omega
end Go.Proofs.Ytjdpogaaookoeaa
