/-
  Layer 20, the document's: Used, put (ahead of the code's landing).
-/
import Derived.Test.YtgoahcmgpjacjaaDisA
import Derived.Deep.QuietTactic
import Derived.BigQuiet
import Derived.Test.YtgoahcmgpjacjaaGrow
import Derived.Test.YtgoahcmgpjacjaaMore
import Derived.Deep.RegionLaw
import Derived.Deep.DeepCutAuto
import Derived.Test.YtgoahcmgpjacjaaDisO
import Derived.Test.YtgoahcmgpjacjaaBytes
import Derived.Deep.Upon
namespace Go.Proofs.Ytgoahcmgpjacjaa
set_option linter.unusedSimpArgs false
set_option linter.unusedVariables false
open Go.ChangeShapes Go.WideShapes Go.ChangeAt Go.RowKit Go.Joins Go.Deep
theorem owns_blk {W : World} {N n m : Nat} {t : TypeId} {A : Option Addr} {c : Nat} {xs : List Value} (h : W.ownsRow N t m (.slice A n c) n xs) (hn : 0 < n) : ∃ g cur, A = some ⟨g, 0, none⟩ ∧ N ≤ g ∧ Blk W g t cur ∧ n ≤ c ∧ cur.size = c * m ∧ cur.toList.take (n * m) = xs := by
  obtain ⟨h1, h2⟩ := h
  rcases h2 with ⟨h3, h4⟩ | ⟨g, cap, cur, h3, h4, h5, h6, h7, h8, h9⟩
  · injection h3 with _ h3 _
    omega
  · injection h3 with h3 h10 h11
    subst h3
    subst h11
    exact ⟨g, cur, rfl, h4, h5, h6, h8, h9⟩
end Go.Proofs.Ytgoahcmgpjacjaa
