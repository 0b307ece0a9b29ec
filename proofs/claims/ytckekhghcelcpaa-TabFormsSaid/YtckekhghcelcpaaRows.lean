/-
  No cell of these rows narrows 'for every input' (looked for: loops, veiled, ifaces, maps, wideKeys, modest, calm, conditions, laid).
  DERIVED. THE GIVEN ROWS OF THIS SEAT. 3 by the template 'for every input the law returns true; each argument reads behind the call as it read before'; 0 by the template 'total and deterministic' (their statements: YtckekhghcelcpaaTotals.lean).
  GIVEN WITH THE SEED: the statements are not yours to turn. If you find one false, say at which input.
  Laid BY PROGRAM, IN A SANDBOX (cutbox-rows.mjs): the forced cells as the released guide's own fill.sh prints them over the translation b01a3ff58d565d7c… (all of the seat's roots in one cut). By AI agents, Wed Nov 11 2026. No macro, syntax, notation, axiom, sorry.
-/
import Derived.Test.YtckekhghcelcpaaChecked
import GoSem.Claim
import GoSem.ClaimJoined
import GoSem.ClaimMapViews
import Derived.JoinedTies
import Derived.KernelRfl
namespace Go.Proofs.Ytckekhghcelcpaa
/- THE CELL 'sum', in the pinned program and in every row, IS THE sha256 OF THE DUMP (.gsa) THAT YtckekhghcelcpaaProg.lean LOADS. Nothing in Lean hashes anything: it is a label: what it is worth is what the hold of that sum in a sandbox is worth. -/
noncomputable def Try.pinned : Pinned := { name := "ytckekhghcelcpaa", sum := "b01a3ff58d565d7cd1dbf7d2bf57641a75f1e95fe254ea06ca14f8ff79473276", checked := Try.checked }
namespace Rows
def none {H : Type} : Left H := { results := [], args := [] }

/-- 'varvelaw10.TabPacks': WHATEVER THE INPUT: true; the input reads as it did. -/
def tabPacksSpec : ChangeSpec := { name := "tabPacks", fn := fun _ => fun
  | [d1, d2] => { results := [.lit (.bool true)], args := [d1, d2] }
  | _ => none }
def tabPacksRow : OpenClaim := { program := "ytckekhghcelcpaa", sum := "b01a3ff58d565d7cd1dbf7d2bf57641a75f1e95fe254ea06ca14f8ff79473276", func := "varve/varvelaw10.TabPacks", spec := "tabPacks", unfollowed := true, recurses := true, apart := false }
def TabPacksSaid : Prop := tabPacksRow.holds Try.pinned (OpenSpec.ofChange tabPacksSpec)

/-- ITS FALSE NEIGHBOUR: 'it returns false'. Refute it at one input. -/
def tabPacksWrong : ChangeSpec := { name := "tabPacks", fn := fun _ => fun
  | [d1, d2] => { results := [.lit (.bool false)], args := [d1, d2] }
  | _ => none }
def TabPacksWrongFalsely : Prop := tabPacksRow.holds Try.pinned (OpenSpec.ofChange tabPacksWrong)

/-- 'varvelaw10.TabBack': WHATEVER THE INPUT: true; the input reads as it did. -/
def tabBackSpec : ChangeSpec := { name := "tabBack", fn := fun _ => fun
  | [d1, d2] => { results := [.lit (.bool true)], args := [d1, d2] }
  | _ => none }
def tabBackRow : OpenClaim := { program := "ytckekhghcelcpaa", sum := "b01a3ff58d565d7cd1dbf7d2bf57641a75f1e95fe254ea06ca14f8ff79473276", func := "varve/varvelaw10.TabBack", spec := "tabBack", unfollowed := true, recurses := true, apart := false }
def TabBackSaid : Prop := tabBackRow.holds Try.pinned (OpenSpec.ofChange tabBackSpec)

/-- ITS FALSE NEIGHBOUR: 'it returns false'. Refute it at one input. -/
def tabBackWrong : ChangeSpec := { name := "tabBack", fn := fun _ => fun
  | [d1, d2] => { results := [.lit (.bool false)], args := [d1, d2] }
  | _ => none }
def TabBackWrongFalsely : Prop := tabBackRow.holds Try.pinned (OpenSpec.ofChange tabBackWrong)

/-- 'varvelaw10.TabForms': WHATEVER THE INPUT: true; the input reads as it did. -/
def tabFormsSpec : ChangeSpec := { name := "tabForms", fn := fun _ => fun
  | [d1, d2] => { results := [.lit (.bool true)], args := [d1, d2] }
  | _ => none }
def tabFormsRow : OpenClaim := { program := "ytckekhghcelcpaa", sum := "b01a3ff58d565d7cd1dbf7d2bf57641a75f1e95fe254ea06ca14f8ff79473276", func := "varve/varvelaw10.TabForms", spec := "tabForms", unfollowed := true, recurses := true, apart := false }
def TabFormsSaid : Prop := tabFormsRow.holds Try.pinned (OpenSpec.ofChange tabFormsSpec)

/-- ITS FALSE NEIGHBOUR: 'it returns false'. Refute it at one input. -/
def tabFormsWrong : ChangeSpec := { name := "tabForms", fn := fun _ => fun
  | [d1, d2] => { results := [.lit (.bool false)], args := [d1, d2] }
  | _ => none }
def TabFormsWrongFalsely : Prop := tabFormsRow.holds Try.pinned (OpenSpec.ofChange tabFormsWrong)

/- THE SECOND FORM. 'bulk': how many values and letters a reading holds, each counted each time it is reached (what is shared counts as often as it is met; a slice's spare places count too). A statement '..UptoSaid' is the law's where the arguments, and the package variables that the reading takes, are together of bulk at most 1048576: NARROWER than '..Said'. Prove '..Said' where nothing that the law and all that it calls make is longer than what came in: it says more and counts as full. Else prove '..UptoSaid'. A law counts once. -/
mutual
def uptoBulk {H : Type} : DataW H → Nat
  | .lit (.string bytes) => bytes.length + 1
  | .lit _ => 1
  | .nil => 1
  | .ptr d => uptoBulk d + 1
  | .slice elems spare => uptoBulkAll elems + uptoBulkAll spare + 1
  | .agg parts => uptoBulkAll parts + 1
  | .iface _ d => uptoBulk d + 1
  | .map entries => uptoBulkEntries entries + 1
  | .held _ => 1
def uptoBulkAll {H : Type} : List (DataW H) → Nat
  | [] => 0
  | d :: r => uptoBulk d + uptoBulkAll r
def uptoBulkEntries {H : Type} : List (Lit × DataW H) → Nat
  | [] => 0
  | x :: r => uptoBulkEntry x + uptoBulkEntries r
def uptoBulkEntry {H : Type} : Lit × DataW H → Nat
  | (.string bytes, d) => bytes.length + uptoBulk d + 1
  | (_, d) => uptoBulk d + 1
 end
def uptoSmall : (H : Type) → List (DataW H) → Bool := fun _ ds => decide (uptoBulkAll ds ≤ 1048576)
def OpenSpec.upto (s : _root_.Go.ChangeSpec) : _root_.Go.OpenSpec := { _root_.Go.OpenSpec.ofChange s with cond := some uptoSmall }

/-- 'varvelaw10.TabPacks', WHERE WHAT IT READS IS OF BULK AT MOST 1048576: true; the input reads as it did. -/
def tabPacksUptoRow : OpenClaim := { program := "ytckekhghcelcpaa", sum := "b01a3ff58d565d7cd1dbf7d2bf57641a75f1e95fe254ea06ca14f8ff79473276", func := "varve/varvelaw10.TabPacks", spec := "tabPacks", unfollowed := true, recurses := true, apart := false, narrowed := true }
def TabPacksUptoSaid : Prop := tabPacksUptoRow.holds Try.pinned (OpenSpec.upto tabPacksSpec)

/-- 'varvelaw10.TabBack', WHERE WHAT IT READS IS OF BULK AT MOST 1048576: true; the input reads as it did. -/
def tabBackUptoRow : OpenClaim := { program := "ytckekhghcelcpaa", sum := "b01a3ff58d565d7cd1dbf7d2bf57641a75f1e95fe254ea06ca14f8ff79473276", func := "varve/varvelaw10.TabBack", spec := "tabBack", unfollowed := true, recurses := true, apart := false, narrowed := true }
def TabBackUptoSaid : Prop := tabBackUptoRow.holds Try.pinned (OpenSpec.upto tabBackSpec)

/-- 'varvelaw10.TabForms', WHERE WHAT IT READS IS OF BULK AT MOST 1048576: true; the input reads as it did. -/
def tabFormsUptoRow : OpenClaim := { program := "ytckekhghcelcpaa", sum := "b01a3ff58d565d7cd1dbf7d2bf57641a75f1e95fe254ea06ca14f8ff79473276", func := "varve/varvelaw10.TabForms", spec := "tabForms", unfollowed := true, recurses := true, apart := false, narrowed := true }
def TabFormsUptoSaid : Prop := tabFormsUptoRow.holds Try.pinned (OpenSpec.upto tabFormsSpec)

end Rows
end Go.Proofs.Ytckekhghcelcpaa
