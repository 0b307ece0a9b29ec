/-
  Layer 21: blocks in memory.
-/
import Derived.Test.YtjodckinfoldgaaHedM
import Derived.Test.YtjodckinfoldgaaDisA
import Derived.Test.YtjodckinfoldgaaMore
import Derived.Test.YtjodckinfoldgaaRows
namespace Go.Proofs.Ytjodckinfoldgaa
set_option linter.unusedSimpArgs false
set_option linter.unusedVariables false
open Go.ChangeShapes Go.WideShapes Go.ChangeAt Go.RowKit Go.Joins Go.Deep
abbrev mtc (m : Mt) : List Value := [.int .i64 m.1, .int .i64 m.2.1, .int .i64 m.2.2.1, .int .i64 m.2.2.2.1, .int .i64 m.2.2.2.2.1, .int .i64 m.2.2.2.2.2.1, .int .i64 m.2.2.2.2.2.2]
theorem mtc_len (m : Mt) : (mtc m).length = 7 := rfl
theorem mt_cells {w : World} {B n : Nat} {A : Option Addr} {l : List Mt} (hr : Reads w B 7 A n (dcs mtc l)) (hl : l.length = n) (hn : 0 < n) :
    ∃ b off, A = some ⟨b, off, none⟩ ∧ b < B ∧ ∀ i (hi : i < l.length), ∀ j u, (mtc l[i])[j]? = some u → w.cell? ⟨b, off + i * 7 + j, none⟩ = some u := by
  obtain ⟨b, off, e, hb, hc⟩ := dcs_cells mtc 7 mtc_len hr hl hn
  refine ⟨b, off, e, hb, fun i hi j u hj => ?_⟩
  rw [Nat.add_assoc]
  refine hc i hi j u ?_ hj
  by_cases h : j < 7
  · exact h
  · rw [List.getElem?_eq_none (by rw [mtc_len]; omega)] at hj
    cases hj
end Go.Proofs.Ytjodckinfoldgaa
