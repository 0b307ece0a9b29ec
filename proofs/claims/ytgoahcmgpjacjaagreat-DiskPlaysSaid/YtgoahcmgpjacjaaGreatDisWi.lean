/-
  Layer 20: a disk of a law's own beside the law's arguments (ahead of the code's landing).
-/
import Derived.Test.YtgoahcmgpjacjaaGreatDisAw
import Derived.Test.YtgoahcmgpjacjaaGreatDisX
import Derived.Test.YtgoahcmgpjacjaaGreatDisTa0
import Derived.Test.YtgoahcmgpjacjaaGreatDisZ
import Derived.Deep.QuietTactic
import Derived.BigQuiet
import Derived.Test.YtgoahcmgpjacjaaGreatDisDm
namespace Go.Proofs.YtgoahcmgpjacjaaGreat
set_option linter.unusedSimpArgs false
set_option linter.unusedVariables false
open Go.ChangeShapes Go.WideShapes Go.ChangeAt Go.RowKit Go.Joins Go.Deep
theorem DAt.out {w w2 W : World} {S : Nat → Prop} {g : Nat} {D : Dk} {t : Nat} (h : DAt w2 W S g D t) (hb : Below w.heap.size w w2) : Below w.heap.size w W := hb.trans (h.below.mono hb.size)
theorem DAt.far {w w2 W : World} {S : Nat → Prop} {g : Nat} {D : Dk} {t : Nat} (h : DAt w2 W S g D t) (hb : Below w.heap.size w w2) : ∀ k, S k → w.heap.size ≤ k := fun k hk => Nat.le_trans hb.size (h.new k hk)
theorem DAt.more {w2 W : World} {S : Nat → Prop} {g : Nat} {D : Dk} {t u : Nat} (h : DAt w2 W S g D t) (hu : t ≤ u) : DAt w2 W S g D u := ⟨h.dr, h.sm.more hu, h.new, h.below⟩
section
variable {w w2 W : World} {S : Nat → Prop} {g : Nat} {D : Dk} {t : Nat} (h : DAt w2 W S g D t) (hb : Below w.heap.size w w2) (ht : t ≤ 1000)
include h hb ht
theorem dwh_do (x : Ac) (hx : AcOk w w.heap.size x) (hf : AcFew x) : Calls Tryz.prog 9 #[.pointer (some ⟨g, 0, none⟩), .agg (acf x).toArray] W fun e w' => e = .returned (.int .i64 (dDoF D x).2) ∧ DOp W w' S g (dDoF D x).1 :=
  law_do_any x W h.dr (h.sm.more ht) (h.far hb) (h.out hb).size (hx.on (h.out hb)) hf
end
end Go.Proofs.YtgoahcmgpjacjaaGreat
