/-
  Layer 20, the document's: New, List (ahead of the code's landing).
-/
import Derived.Test.YtgoahcmgpjacjaaDisA
import Derived.Deep.QuietTactic
import Derived.BigQuiet
import Derived.Test.YtgoahcmgpjacjaaGrow
import Derived.Test.YtgoahcmgpjacjaaMore
import Derived.Deep.RegionLaw
import Derived.Deep.DeepCutAuto
namespace Go.Proofs.Ytgoahcmgpjacjaa
set_option linter.unusedSimpArgs false
set_option linter.unusedVariables false
open Go.ChangeShapes Go.WideShapes Go.ChangeAt Go.RowKit Go.Joins Go.Deep
abbrev sfc (s : List UInt8) : List Value := [.string ⟨s.toArray⟩]
theorem sfc_len (s : List UInt8) : (sfc s).length = 1 := rfl
theorem str_info : (Try.prog.info? 9).map (fun i => (i.zero, i.size, i.bytes)) = some (some (.string ⟨#[]⟩), 1, 16) := by kernel_rfl
theorem DRow.from {α : Type} {A0 : Option Addr} {f : α → List Value} {m : Nat} {w w1 w' : World} {e : Ending} {l : List α} (h : DRow A0 f m w1 w' e l) (hb : Below w.heap.size w w1) : DRow A0 f m w w' e l := by
  obtain ⟨A, c, h1, h2, h3, h4, h5⟩ := h
  exact ⟨A, c, h1, h2, h3, hb.trans (h4.mono hb.size), h5.mono hb.size (Nat.le_refl _)⟩
end Go.Proofs.Ytgoahcmgpjacjaa
