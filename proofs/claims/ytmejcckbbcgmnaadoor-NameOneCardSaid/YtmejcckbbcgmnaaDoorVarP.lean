/-
  Layer 2: what lay and Put of package varint do, for every argument: the number's bytes lie at the place, and nothing else has turned.
-/
import Derived.Test.YtmejcckbbcgmnaaDoorVarM
import Derived.Test.YtmejcckbbcgmnaaDoorRows
import Derived.Deep.OwnRows
namespace Go.Proofs.YtmejcckbbcgmnaaDoor
set_option linter.unusedSimpArgs false
set_option linter.unusedVariables false
open Go.ChangeShapes Go.WideShapes Go.ChangeAt Go.RowKit Go.Joins Go.Deep
def hd : Nat → Nat → List UInt8
  | 0, _ => []
  | f + 1, n => UInt8.ofNat (128 + n % 128) :: hd f (n / 128)
theorem run_str (w : World) (g n c : Nat) (t : TypeId) (l : List UInt8) (hn : l.length = n) (h : Blk w g t (bc l)) :
    (convert 40 9 (.slice (some ⟨g, 0, none⟩) n c)).run Tryd.prog w = .ok (.string ⟨l.toArray⟩) w :=
  run_bytes_str Tryd.underlying40 Tryd.underlying5 Tryd.underlying9 w g 0 c l n hn fun j b hj => by rw [Nat.zero_add]; exact blk_byte h hj
end Go.Proofs.YtmejcckbbcgmnaaDoor
