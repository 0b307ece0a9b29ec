/-
  Layer 19, plain: a file, what is left of it; falls (P19.3), safe (P19.4) (ahead of the code's landing).
-/
import Derived.Test.YtgoahcmgpjacjaaBytes
namespace Go.Proofs.Ytgoahcmgpjacjaa
set_option linter.unusedSimpArgs false
set_option linter.unusedVariables false
open Go.ChangeShapes Go.WideShapes Go.ChangeAt Go.RowKit Go.Joins Go.Deep
abbrev Fl := List UInt8 × List UInt8
def flappF (f : Fl) (s : List UInt8) : Fl × Int := if 1000000 < f.2.length + s.length then (([], []), 3) else ((f.1, f.2 ++ s), 0)
def flcutF (f : Fl) (n : Int) : Fl × Int := if n < 0 ∨ (f.2.length : Int) < n then (([], []), 2) else ((f.1, f.2.take n.toNat), 0)
def flpre (f : Fl) : Bool := decide (f.1.length ≤ f.2.length ∧ f.2.take f.1.length = f.1)
def fln (f : Fl) (cut : Int) : Nat := if cut < (f.2.length : Int) - f.1.length then cut.toNat else f.2.length - f.1.length
def flm (f : Fl) (cut : Int) (mark : List UInt8) : Nat := min (min mark.length 64) (fln f cut)
def flleft (f : Fl) (cut : Int) (mark : List UInt8) : List UInt8 :=
  if flpre f = true then f.1 ++ ((f.2.drop f.1.length).take (fln f cut - flm f cut mark) ++ mark.drop (mark.length - flm f cut mark)) else if 0 < cut then f.2 else f.1
theorem fln_le (f : Fl) (cut : Int) (h : f.1.length ≤ f.2.length) : fln f cut ≤ f.2.length - f.1.length := by
  unfold fln
  split <;> omega
theorem flm_le (f : Fl) (cut : Int) (mark : List UInt8) : flm f cut mark ≤ fln f cut ∧ flm f cut mark ≤ 64 ∧ flm f cut mark ≤ mark.length := by unfold flm; omega
theorem flleft_len {f : Fl} (h : flpre f = true) (cut : Int) (mark : List UInt8) : (flleft f cut mark).length = f.1.length + fln f cut := by
  have h1 := of_decide_eq_true h
  have h2 := fln_le f cut h1.1
  have h3 := flm_le f cut mark
  unfold flleft
  rw [if_pos h]
  simp only [List.length_append, List.length_take, List.length_drop]
  omega
end Go.Proofs.Ytgoahcmgpjacjaa
