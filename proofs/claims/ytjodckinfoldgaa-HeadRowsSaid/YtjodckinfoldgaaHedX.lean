/-
  Layer 21: the contracts that the laws stand on.
-/
import Derived.Test.YtjodckinfoldgaaHedG
import Derived.Test.YtjodckinfoldgaaHedN
import Derived.Test.YtjodckinfoldgaaHedF
import Derived.Test.YtjodckinfoldgaaHdC
import Derived.Test.YtjodckinfoldgaaHdD
import Derived.Test.YtjodckinfoldgaaHdF
import Derived.Test.YtjodckinfoldgaaHdG
namespace Go.Proofs.Ytjodckinfoldgaa
theorem p_hgf_any (s : List UInt8) (w : World) (hs : s.length ≤ 1000000) : Calls Try.prog 16 #[.string ⟨s.toArray⟩] w fun e w' => HMP w w' e (hgfF s) := p_hgf2 s w hs
end Go.Proofs.Ytjodckinfoldgaa
