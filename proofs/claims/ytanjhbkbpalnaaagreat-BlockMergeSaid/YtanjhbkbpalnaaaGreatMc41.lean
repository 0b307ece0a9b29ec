/-
 What the law of the last of these texts stands on, part 41.
-/
import Derived.Test.YtanjhbkbpalnaaaGreatMc18
import Derived.Test.YtanjhbkbpalnaaaGreatMc31
set_option maxRecDepth 100000
set_option maxHeartbeats 8000000
open Go.Proofs.Tryz
namespace Go.Proofs.YtanjhbkbpalnaaaGreat
set_option linter.unusedSimpArgs false
set_option linter.unusedVariables false
open Go.ChangeShapes Go.WideShapes Go.ChangeAt Go.RowKit Go.Joins Go.Deep
theorem cbits_snoc (ws : List (Int × Int)) (l : List Int) (k : Nat) (hk : k < l.length) : ycI ws (l.take (k + 1)) = ycI ws (l.take k) ++ (yaZ ws l[k]).1 := by
 rw [qap hk]
 unfold ycI
 rw [List.flatMap_append, List.flatMap_singleton]
theorem Reads.onto {w w' : World} {size n : Nat} {A : Option Addr} {xs : List Value} (h : Reads w w.heap.size size A n xs) (hb : Below w.heap.size w w') : Reads w' w'.heap.size size A n xs := (h.below hb).more hb.size
end Go.Proofs.YtanjhbkbpalnaaaGreat
