/-
  Layer 12: the program's Array, Sort, Ranks, Common and Find, for every argument.
-/
import Derived.Test.YtngenehleelcmaaSufZ
import Derived.Test.YtngenehleelcmaaSufB
import Derived.Test.YtngenehleelcmaaSufE
import Derived.Test.YtngenehleelcmaaSufCm
import Derived.Test.YtngenehleelcmaaSufU
namespace Go.Proofs.Ytngenehleelcmaa
set_option linter.unusedSimpArgs false
set_option linter.unusedVariables false
open Go.ChangeShapes Go.WideShapes Go.ChangeAt Go.RowKit Go.Joins Go.Deep

set_option maxRecDepth 100000 in
set_option maxHeartbeats 2000000 in
theorem s_common_no (s : List UInt8) (A : Option Addr) (n c : Nat) (w : World)
    (Hrk : Hid (∀ W, Below w.heap.size w W → Calls Try.prog 29 #[.string ⟨s.toArray⟩, .slice A n c] W fun e w' => ∃ A2 c2, e = .returned (.tuple #[.slice A2 0 c2, .int .i64 2]) ∧ Below W.heap.size W w')) :
    Calls Try.prog 16 #[.string ⟨s.toArray⟩, .slice A n c] w fun e w' => LPost w w' e ([], 2) := by
  go_enter Try.func16, Try.ntmps16
  go_wp2_with (go_at_call 29; refine (Hrk.out _ (Below.refl _ _)).mono ?_; rintro e w2 ⟨A2, c2, rfl, hb2⟩; have Hb2 := Lib.hid hb2; clear hb2)
  go_ret2
  exact lpost_none Hb2.out
theorem p_scommon_any (s : List UInt8) (a : List Int) (A : Option Addr) (n c : Nat) (w : World) (hs : s.length ≤ 1000000) (hm : n ≤ 1000000) (hr : Reads w w.heap.size 1 A n (ints a)) :
    Calls Try.prog 16 #[.string ⟨s.toArray⟩, .slice A n c] w fun e w' => LPost w w' e (scF s a) := by
  have en : a.length = n := by have := hr.1; rw [ints_length] at this; omega
  have Hrk := fun W (hW : Below w.heap.size w W) => s_ranksof_any s a A n c W hs hm (hr.upto hW)
  by_cases ho : sordF a = true ∧ a.length = s.length + 1
  · have hn : n = s.length + 1 := by omega
    rw [sc_yes ho, en]
    refine s_common_yes s a A n c w hs ho.1 ho.2 hn hr (srk a a.length) (Lib.hid fun W hW => (Hrk W hW).mono ?_)
    rw [sroF_yes ho]
    rintro e w' ⟨A2, c2, rfl, _, hr2, hb2⟩
    have hl9 : (srk a a.length).length = n := by rw [srk_len, en]
    dsimp only at hr2
    rw [hl9] at hr2
    refine ⟨A2, c2, ?_, hr2, hb2⟩
    dsimp only
    rw [hl9]
  · rw [sc_no ho]
    refine s_common_no s A n c w (Lib.hid fun W hW => (Hrk W hW).mono ?_)
    rw [sroF_no ho]
    rintro e w' ⟨A2, c2, rfl, _, hr2, hb2⟩
    exact ⟨A2, c2, rfl, hb2⟩
end Go.Proofs.Ytngenehleelcmaa
