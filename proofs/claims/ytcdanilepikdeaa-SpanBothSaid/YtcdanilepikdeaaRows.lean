/-
  No cell of these rows narrows 'for every input' (looked for: loops, veiled, ifaces, maps, wideKeys, modest, calm, conditions, laid).
  DERIVED. THE GIVEN ROWS OF THIS SEAT. 4 by the template 'for every input the law returns true; each argument reads behind the call as it read before'; 0 by the template 'total and deterministic' (their statements: YtcdanilepikdeaaTotals.lean).
  GIVEN WITH THE SEED: the statements are not yours to turn. If you find one false, say at which input.
  Laid BY PROGRAM, IN A SANDBOX (cutbox-rows.mjs): the forced cells as the released guide's own fill.sh prints them over the translation 6c0a9f47283e1120… (all of the seat's roots in one cut). By AI agents, Wed Nov 11 2026. No macro, syntax, notation, axiom, sorry.
-/
import Derived.Test.YtcdanilepikdeaaChecked
import GoSem.Claim
import GoSem.ClaimJoined
import GoSem.ClaimMapViews
import Derived.JoinedTies
import Derived.KernelRfl
namespace Go.Proofs.Ytcdanilepikdeaa
/- THE CELL 'sum', in the pinned program and in every row, IS THE sha256 OF THE DUMP (.gsa) THAT YtcdanilepikdeaaProg.lean LOADS. Nothing in Lean hashes anything: it is a label: what it is worth is what the hold of that sum in a sandbox is worth. -/
noncomputable def Try.pinned : Pinned := { name := "ytcdanilepikdeaa", sum := "6c0a9f47283e11204e71caab5cfcc4e5559efa0b9486a3afc9e5907a025aa170", checked := Try.checked }
namespace Rows
def none {H : Type} : Left H := { results := [], args := [] }

/-- 'varvelaw01.SpanOne': WHATEVER THE INPUT: true; the input reads as it did. -/
def spanOneSpec : ChangeSpec := { name := "spanOne", fn := fun _ => fun
  | [d1, d2] => { results := [.lit (.bool true)], args := [d1, d2] }
  | _ => none }
def spanOneRow : OpenClaim := { program := "ytcdanilepikdeaa", sum := "6c0a9f47283e11204e71caab5cfcc4e5559efa0b9486a3afc9e5907a025aa170", func := "varve/varvelaw01.SpanOne", spec := "spanOne", unfollowed := true, recurses := true, apart := false }
def SpanOneSaid : Prop := spanOneRow.holds Try.pinned (OpenSpec.ofChange spanOneSpec)

/-- ITS FALSE NEIGHBOUR: 'it returns false'. Refute it at one input. -/
def spanOneWrong : ChangeSpec := { name := "spanOne", fn := fun _ => fun
  | [d1, d2] => { results := [.lit (.bool false)], args := [d1, d2] }
  | _ => none }
def SpanOneWrongFalsely : Prop := spanOneRow.holds Try.pinned (OpenSpec.ofChange spanOneWrong)

/-- 'varvelaw01.SpanFolds': WHATEVER THE INPUT: true; the input reads as it did. -/
def spanFoldsSpec : ChangeSpec := { name := "spanFolds", fn := fun _ => fun
  | [d1, d2, d3] => { results := [.lit (.bool true)], args := [d1, d2, d3] }
  | _ => none }
def spanFoldsRow : OpenClaim := { program := "ytcdanilepikdeaa", sum := "6c0a9f47283e11204e71caab5cfcc4e5559efa0b9486a3afc9e5907a025aa170", func := "varve/varvelaw01.SpanFolds", spec := "spanFolds", unfollowed := true, recurses := true, apart := false }
def SpanFoldsSaid : Prop := spanFoldsRow.holds Try.pinned (OpenSpec.ofChange spanFoldsSpec)

/-- ITS FALSE NEIGHBOUR: 'it returns false'. Refute it at one input. -/
def spanFoldsWrong : ChangeSpec := { name := "spanFolds", fn := fun _ => fun
  | [d1, d2, d3] => { results := [.lit (.bool false)], args := [d1, d2, d3] }
  | _ => none }
def SpanFoldsWrongFalsely : Prop := spanFoldsRow.holds Try.pinned (OpenSpec.ofChange spanFoldsWrong)

/-- 'varvelaw01.SpanBoth': WHATEVER THE INPUT: true; the input reads as it did. -/
def spanBothSpec : ChangeSpec := { name := "spanBoth", fn := fun _ => fun
  | [d1, d2, d3] => { results := [.lit (.bool true)], args := [d1, d2, d3] }
  | _ => none }
def spanBothRow : OpenClaim := { program := "ytcdanilepikdeaa", sum := "6c0a9f47283e11204e71caab5cfcc4e5559efa0b9486a3afc9e5907a025aa170", func := "varve/varvelaw01.SpanBoth", spec := "spanBoth", unfollowed := true, recurses := true, apart := false }
def SpanBothSaid : Prop := spanBothRow.holds Try.pinned (OpenSpec.ofChange spanBothSpec)

/-- ITS FALSE NEIGHBOUR: 'it returns false'. Refute it at one input. -/
def spanBothWrong : ChangeSpec := { name := "spanBoth", fn := fun _ => fun
  | [d1, d2, d3] => { results := [.lit (.bool false)], args := [d1, d2, d3] }
  | _ => none }
def SpanBothWrongFalsely : Prop := spanBothRow.holds Try.pinned (OpenSpec.ofChange spanBothWrong)

/-- 'varvelaw01.SpanCover': WHATEVER THE INPUT: true; the input reads as it did. -/
def spanCoverSpec : ChangeSpec := { name := "spanCover", fn := fun _ => fun
  | [d1, d2, d3] => { results := [.lit (.bool true)], args := [d1, d2, d3] }
  | _ => none }
def spanCoverRow : OpenClaim := { program := "ytcdanilepikdeaa", sum := "6c0a9f47283e11204e71caab5cfcc4e5559efa0b9486a3afc9e5907a025aa170", func := "varve/varvelaw01.SpanCover", spec := "spanCover", unfollowed := true, recurses := true, apart := false }
def SpanCoverSaid : Prop := spanCoverRow.holds Try.pinned (OpenSpec.ofChange spanCoverSpec)

/-- ITS FALSE NEIGHBOUR: 'it returns false'. Refute it at one input. -/
def spanCoverWrong : ChangeSpec := { name := "spanCover", fn := fun _ => fun
  | [d1, d2, d3] => { results := [.lit (.bool false)], args := [d1, d2, d3] }
  | _ => none }
def SpanCoverWrongFalsely : Prop := spanCoverRow.holds Try.pinned (OpenSpec.ofChange spanCoverWrong)

/- THE SECOND FORM. 'bulk': how many values and letters a reading holds, each counted each time it is reached (what is shared counts as often as it is met; a slice's spare places count too). A statement '..UptoSaid' is the law's where the arguments, and the package variables that the reading takes, are together of bulk at most 1048576: NARROWER than '..Said'. Prove '..Said' where nothing that the law and all that it calls make is longer than what came in: it says more and counts as full. Else prove '..UptoSaid'. A law counts once. -/
mutual
def uptoBulk {H : Type} : DataW H → Nat
  | .lit (.string bytes) => bytes.length + 1
  | .lit _ => 1
  | .nil => 1
  | .ptr d => uptoBulk d + 1
  | .slice elems spare => uptoBulkAll elems + uptoBulkAll spare + 1
  | .agg parts => uptoBulkAll parts + 1
  | .iface _ d => uptoBulk d + 1
  | .map entries => uptoBulkEntries entries + 1
  | .held _ => 1
def uptoBulkAll {H : Type} : List (DataW H) → Nat
  | [] => 0
  | d :: r => uptoBulk d + uptoBulkAll r
def uptoBulkEntries {H : Type} : List (Lit × DataW H) → Nat
  | [] => 0
  | x :: r => uptoBulkEntry x + uptoBulkEntries r
def uptoBulkEntry {H : Type} : Lit × DataW H → Nat
  | (.string bytes, d) => bytes.length + uptoBulk d + 1
  | (_, d) => uptoBulk d + 1
 end
def uptoSmall : (H : Type) → List (DataW H) → Bool := fun _ ds => decide (uptoBulkAll ds ≤ 1048576)
def OpenSpec.upto (s : _root_.Go.ChangeSpec) : _root_.Go.OpenSpec := { _root_.Go.OpenSpec.ofChange s with cond := some uptoSmall }

/-- 'varvelaw01.SpanOne', WHERE WHAT IT READS IS OF BULK AT MOST 1048576: true; the input reads as it did. -/
def spanOneUptoRow : OpenClaim := { program := "ytcdanilepikdeaa", sum := "6c0a9f47283e11204e71caab5cfcc4e5559efa0b9486a3afc9e5907a025aa170", func := "varve/varvelaw01.SpanOne", spec := "spanOne", unfollowed := true, recurses := true, apart := false, narrowed := true }
def SpanOneUptoSaid : Prop := spanOneUptoRow.holds Try.pinned (OpenSpec.upto spanOneSpec)

/-- 'varvelaw01.SpanFolds', WHERE WHAT IT READS IS OF BULK AT MOST 1048576: true; the input reads as it did. -/
def spanFoldsUptoRow : OpenClaim := { program := "ytcdanilepikdeaa", sum := "6c0a9f47283e11204e71caab5cfcc4e5559efa0b9486a3afc9e5907a025aa170", func := "varve/varvelaw01.SpanFolds", spec := "spanFolds", unfollowed := true, recurses := true, apart := false, narrowed := true }
def SpanFoldsUptoSaid : Prop := spanFoldsUptoRow.holds Try.pinned (OpenSpec.upto spanFoldsSpec)

/-- 'varvelaw01.SpanBoth', WHERE WHAT IT READS IS OF BULK AT MOST 1048576: true; the input reads as it did. -/
def spanBothUptoRow : OpenClaim := { program := "ytcdanilepikdeaa", sum := "6c0a9f47283e11204e71caab5cfcc4e5559efa0b9486a3afc9e5907a025aa170", func := "varve/varvelaw01.SpanBoth", spec := "spanBoth", unfollowed := true, recurses := true, apart := false, narrowed := true }
def SpanBothUptoSaid : Prop := spanBothUptoRow.holds Try.pinned (OpenSpec.upto spanBothSpec)

/-- 'varvelaw01.SpanCover', WHERE WHAT IT READS IS OF BULK AT MOST 1048576: true; the input reads as it did. -/
def spanCoverUptoRow : OpenClaim := { program := "ytcdanilepikdeaa", sum := "6c0a9f47283e11204e71caab5cfcc4e5559efa0b9486a3afc9e5907a025aa170", func := "varve/varvelaw01.SpanCover", spec := "spanCover", unfollowed := true, recurses := true, apart := false, narrowed := true }
def SpanCoverUptoSaid : Prop := spanCoverUptoRow.holds Try.pinned (OpenSpec.upto spanCoverSpec)

end Rows
end Go.Proofs.Ytcdanilepikdeaa
