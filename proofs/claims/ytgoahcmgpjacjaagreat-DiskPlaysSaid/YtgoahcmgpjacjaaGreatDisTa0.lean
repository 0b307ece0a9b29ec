/-
  Layer 20: the law's texts' cells (ahead of the code's landing).
-/
import Derived.Test.YtgoahcmgpjacjaaGreatDisT
namespace Go.Proofs.YtgoahcmgpjacjaaGreat
set_option linter.unusedSimpArgs false
set_option linter.unusedVariables false
open Go.ChangeShapes Go.WideShapes Go.ChangeAt Go.RowKit Go.Joins Go.Deep
theorem txt_cells {w : World} {B n : Nat} {A : Option Addr} {l : List (List UInt8)} (hr : Reads w B 1 A n (dcs sfc l)) (hl : l.length = n) (hn : 0 < n) :
    ∃ b off, A = some ⟨b, off, none⟩ ∧ b < B ∧ ∀ i (hi : i < l.length), w.cell? ⟨b, off + i, none⟩ = some (.string ⟨l[i].toArray⟩) := by
  obtain ⟨b, off, e, hb, hc⟩ := hr.2 hn
  refine ⟨b, off, e, hb, fun i hi => ?_⟩
  have h1 := dcs_at sfc 1 sfc_len l i hi 0 (by omega)
  rw [Nat.mul_one, Nat.add_zero] at h1
  exact hc i _ (by rw [h1]; rfl)
end Go.Proofs.YtgoahcmgpjacjaaGreat
