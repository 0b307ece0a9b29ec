/-
  Layer 19, plain: a file, what is left of it; falls (P19.3), safe (P19.4) (ahead of the code's landing).
-/
import Derived.Test.YtckeoochoekgjaaBytes
namespace Go.Proofs.Ytckeoochoekgjaa
set_option linter.unusedSimpArgs false
set_option linter.unusedVariables false
open Go.ChangeShapes Go.WideShapes Go.ChangeAt Go.RowKit Go.Joins Go.Deep
abbrev Fl := List UInt8 × List UInt8
def flappF (f : Fl) (s : List UInt8) : Fl × Int := if 1000000 < f.2.length + s.length then (([], []), 3) else ((f.1, f.2 ++ s), 0)
def flcutF (f : Fl) (n : Int) : Fl × Int := if n < 0 ∨ (f.2.length : Int) < n then (([], []), 2) else ((f.1, f.2.take n.toNat), 0)
def flpre (f : Fl) : Bool := decide (f.1.length ≤ f.2.length ∧ f.2.take f.1.length = f.1)
def fln (f : Fl) (cut : Int) : Nat := if cut < (f.2.length : Int) - f.1.length then cut.toNat else f.2.length - f.1.length
def flm (f : Fl) (cut : Int) (mark : List UInt8) : Nat := min (min mark.length 64) (fln f cut)
def flleft (f : Fl) (cut : Int) (mark : List UInt8) : List UInt8 :=
  if flpre f = true then f.1 ++ ((f.2.drop f.1.length).take (fln f cut - flm f cut mark) ++ mark.drop (mark.length - flm f cut mark)) else if 0 < cut then f.2 else f.1
theorem fln_le (f : Fl) (cut : Int) (h : f.1.length ≤ f.2.length) : fln f cut ≤ f.2.length - f.1.length := by
  unfold fln
  split <;> omega
theorem flm_le (f : Fl) (cut : Int) (mark : List UInt8) : flm f cut mark ≤ fln f cut ∧ flm f cut mark ≤ 64 ∧ flm f cut mark ≤ mark.length := by unfold flm; omega
theorem flleft_len {f : Fl} (h : flpre f = true) (cut : Int) (mark : List UInt8) : (flleft f cut mark).length = f.1.length + fln f cut := by
  have h1 := of_decide_eq_true h
  have h2 := fln_le f cut h1.1
  have h3 := flm_le f cut mark
  unfold flleft
  rw [if_pos h]
  simp only [List.length_append, List.length_take, List.length_drop]
  omega
theorem flleft_le (f : Fl) (cut : Int) (mark : List UInt8) : (flleft f cut mark).length ≤ f.1.length + f.2.length := by
  cases h : flpre f with
  | true =>
    have h1 := of_decide_eq_true h
    have h2 := fln_le f cut h1.1
    rw [flleft_len h]
    omega
  | false =>
    unfold flleft
    rw [if_neg (by rw [h]; decide)]
    split <;> omega
theorem flleft_take {f : Fl} (h : flpre f = true) (cut : Int) (mark : List UInt8) (k : Nat) (hk : k ≤ f.1.length + (fln f cut - flm f cut mark)) : (flleft f cut mark).take k = f.2.take k := by
  have h1 := of_decide_eq_true h
  have h2 := fln_le f cut h1.1
  have h3 := flm_le f cut mark
  unfold flleft
  rw [if_pos h]
  have e : f.2.take (f.1.length + (fln f cut - flm f cut mark)) = f.1 ++ (f.2.drop f.1.length).take (fln f cut - flm f cut mark) := by
    rw [List.take_add, h1.2]
  rw [← List.append_assoc, ← e, List.take_append_of_le_length (by rw [List.length_take]; omega), List.take_take, Nat.min_eq_left hk]
theorem flpre_app (a s : List UInt8) : flpre (a, a ++ s) = true := by
  unfold flpre
  refine decide_eq_true ⟨by dsimp only; rw [List.length_append]; omega, ?_⟩
  exact List.take_left
theorem flpre_same (a : List UInt8) : flpre (a, a) = true := by
  unfold flpre
  exact decide_eq_true ⟨Nat.le_refl _, List.take_length⟩
theorem flleft_same (a : List UInt8) (cut : Int) (mark : List UInt8) : flleft (a, a) cut mark = a := by
  have h := flleft_len (flpre_same a) cut mark
  have hn : fln (a, a) cut = 0 := by unfold fln; dsimp only; split <;> omega
  have ht := flleft_take (flpre_same a) cut mark a.length (by dsimp only; omega)
  dsimp only at h ht
  rw [hn, Nat.add_zero] at h
  rw [List.take_of_length_le (by omega), List.take_length] at ht
  exact ht
section
variable (a s : List UInt8) (cut : Int) (mark : List UInt8)
theorem flfalls_len : (flleft (a, a ++ s) cut mark).length = (flleft (a, a ++ s) cut []).length ∧ a.length ≤ (flleft (a, a ++ s) cut mark).length ∧ (flleft (a, a ++ s) cut mark).length ≤ (a ++ s).length := by
  have h1 := flleft_len (flpre_app a s) cut mark
  have h2 := flleft_len (flpre_app a s) cut []
  have h3 := fln_le (a, a ++ s) cut (by dsimp only; rw [List.length_append]; omega)
  dsimp only at h1 h2 h3
  rw [List.length_append] at h3 ⊢
  omega
theorem flfalls_safe : (flleft (a, a ++ s) cut mark).take a.length = a := by
  rw [flleft_take (flpre_app a s) cut mark a.length (by dsimp only; omega)]
  exact List.take_left
theorem flfalls_begin : (a ++ s).take (flleft (a, a ++ s) cut []).length = flleft (a, a ++ s) cut [] := by
  have h2 := flleft_len (flpre_app a s) cut []
  have hm : flm (a, a ++ s) cut [] = 0 := by unfold flm; simp
  have ht := flleft_take (flpre_app a s) cut [] (flleft (a, a ++ s) cut []).length (by rw [h2, hm]; omega)
  rw [List.take_length] at ht
  exact ht.symm
theorem flfalls_whole (k : Nat) (hk : k ≤ a.length ∨ k + 64 ≤ (flleft (a, a ++ s) cut mark).length) : (flleft (a, a ++ s) cut mark).take k = (a ++ s).take k := by
  have h1 := flleft_len (flpre_app a s) cut mark
  have h3 := flm_le (a, a ++ s) cut mark
  refine flleft_take (flpre_app a s) cut mark k ?_
  dsimp only at h1 ⊢
  omega
theorem flfalls_all (h : (s.length : Int) ≤ cut) : (flleft (a, a ++ s) cut []).length = (a ++ s).length := by
  have h2 := flleft_len (flpre_app a s) cut []
  rw [h2]
  unfold fln
  dsimp only
  rw [List.length_append, if_neg (by omega)]
  omega
end
end Go.Proofs.Ytckeoochoekgjaa
