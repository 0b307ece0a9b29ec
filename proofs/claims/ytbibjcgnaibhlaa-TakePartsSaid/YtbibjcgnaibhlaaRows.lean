/-
  No cell of these rows narrows 'for every input' (looked for: loops, veiled, ifaces, maps, wideKeys, modest, calm, conditions, laid).
  DERIVED. THE GIVEN ROWS OF THIS SEAT. 4 by the template 'for every input the law returns true; each argument reads behind the call as it read before'; 0 by the template 'total and deterministic' (their statements: YtbibjcgnaibhlaaTotals.lean).
  GIVEN WITH THE SEED: the statements are not yours to turn. If you find one false, say at which input.
  Laid BY PROGRAM, IN A SANDBOX (cutbox-rows.mjs): the forced cells as the released guide's own fill.sh prints them over the translation 982735a7c2bf4c2a… (all of the seat's roots in one cut). By AI agents, Wed Nov 11 2026. No macro, syntax, notation, axiom, sorry.
-/
import Derived.Test.YtbibjcgnaibhlaaChecked
import GoSem.Claim
import GoSem.ClaimJoined
import GoSem.ClaimMapViews
import Derived.JoinedTies
import Derived.KernelRfl
namespace Go.Proofs.Ytbibjcgnaibhlaa
/- THE CELL 'sum', in the pinned program and in every row, IS THE sha256 OF THE DUMP (.gsa) THAT YtbibjcgnaibhlaaProg.lean LOADS. Nothing in Lean hashes anything: it is a label: what it is worth is what the hold of that sum in a sandbox is worth. -/
noncomputable def Try.pinned : Pinned := { name := "ytbibjcgnaibhlaa", sum := "982735a7c2bf4c2a0b3b041d66a0f2c0265d7306ca7353d7a4c0ebdda8960e26", checked := Try.checked }
namespace Rows
def none {H : Type} : Left H := { results := [], args := [] }

/-- 'varvelaw03.TakeRuns': WHATEVER THE INPUT: true; the input reads as it did. -/
def takeRunsSpec : ChangeSpec := { name := "takeRuns", fn := fun _ => fun
  | [d1, d2] => { results := [.lit (.bool true)], args := [d1, d2] }
  | _ => none }
def takeRunsRow : OpenClaim := { program := "ytbibjcgnaibhlaa", sum := "982735a7c2bf4c2a0b3b041d66a0f2c0265d7306ca7353d7a4c0ebdda8960e26", func := "varve/varvelaw03.TakeRuns", spec := "takeRuns", unfollowed := true, recurses := true, apart := false }
def TakeRunsSaid : Prop := takeRunsRow.holds Try.pinned (OpenSpec.ofChange takeRunsSpec)

/-- ITS FALSE NEIGHBOUR: 'it returns false'. Refute it at one input. -/
def takeRunsWrong : ChangeSpec := { name := "takeRuns", fn := fun _ => fun
  | [d1, d2] => { results := [.lit (.bool false)], args := [d1, d2] }
  | _ => none }
def TakeRunsWrongFalsely : Prop := takeRunsRow.holds Try.pinned (OpenSpec.ofChange takeRunsWrong)

/-- 'varvelaw03.TakeMoves': WHATEVER THE INPUT: true; the input reads as it did. -/
def takeMovesSpec : ChangeSpec := { name := "takeMoves", fn := fun _ => fun
  | [d1, d2] => { results := [.lit (.bool true)], args := [d1, d2] }
  | _ => none }
def takeMovesRow : OpenClaim := { program := "ytbibjcgnaibhlaa", sum := "982735a7c2bf4c2a0b3b041d66a0f2c0265d7306ca7353d7a4c0ebdda8960e26", func := "varve/varvelaw03.TakeMoves", spec := "takeMoves", unfollowed := true, recurses := true, apart := false }
def TakeMovesSaid : Prop := takeMovesRow.holds Try.pinned (OpenSpec.ofChange takeMovesSpec)

/-- ITS FALSE NEIGHBOUR: 'it returns false'. Refute it at one input. -/
def takeMovesWrong : ChangeSpec := { name := "takeMoves", fn := fun _ => fun
  | [d1, d2] => { results := [.lit (.bool false)], args := [d1, d2] }
  | _ => none }
def TakeMovesWrongFalsely : Prop := takeMovesRow.holds Try.pinned (OpenSpec.ofChange takeMovesWrong)

/-- 'varvelaw03.TakeParts': WHATEVER THE INPUT: true; the input reads as it did. -/
def takePartsSpec : ChangeSpec := { name := "takeParts", fn := fun _ => fun
  | [d1, d2, d3] => { results := [.lit (.bool true)], args := [d1, d2, d3] }
  | _ => none }
def takePartsRow : OpenClaim := { program := "ytbibjcgnaibhlaa", sum := "982735a7c2bf4c2a0b3b041d66a0f2c0265d7306ca7353d7a4c0ebdda8960e26", func := "varve/varvelaw03.TakeParts", spec := "takeParts", unfollowed := true, recurses := true, apart := false }
def TakePartsSaid : Prop := takePartsRow.holds Try.pinned (OpenSpec.ofChange takePartsSpec)

/-- ITS FALSE NEIGHBOUR: 'it returns false'. Refute it at one input. -/
def takePartsWrong : ChangeSpec := { name := "takeParts", fn := fun _ => fun
  | [d1, d2, d3] => { results := [.lit (.bool false)], args := [d1, d2, d3] }
  | _ => none }
def TakePartsWrongFalsely : Prop := takePartsRow.holds Try.pinned (OpenSpec.ofChange takePartsWrong)

/-- 'varvelaw03.TakeCovers': WHATEVER THE INPUT: true; the input reads as it did. -/
def takeCoversSpec : ChangeSpec := { name := "takeCovers", fn := fun _ => fun
  | [d1, d2, d3] => { results := [.lit (.bool true)], args := [d1, d2, d3] }
  | _ => none }
def takeCoversRow : OpenClaim := { program := "ytbibjcgnaibhlaa", sum := "982735a7c2bf4c2a0b3b041d66a0f2c0265d7306ca7353d7a4c0ebdda8960e26", func := "varve/varvelaw03.TakeCovers", spec := "takeCovers", unfollowed := true, recurses := true, apart := false }
def TakeCoversSaid : Prop := takeCoversRow.holds Try.pinned (OpenSpec.ofChange takeCoversSpec)

/-- ITS FALSE NEIGHBOUR: 'it returns false'. Refute it at one input. -/
def takeCoversWrong : ChangeSpec := { name := "takeCovers", fn := fun _ => fun
  | [d1, d2, d3] => { results := [.lit (.bool false)], args := [d1, d2, d3] }
  | _ => none }
def TakeCoversWrongFalsely : Prop := takeCoversRow.holds Try.pinned (OpenSpec.ofChange takeCoversWrong)

/- THE SECOND FORM. 'bulk': how many values and letters a reading holds, each counted each time it is reached (what is shared counts as often as it is met; a slice's spare places count too). A statement '..UptoSaid' is the law's where the arguments, and the package variables that the reading takes, are together of bulk at most 1048576: NARROWER than '..Said'. Prove '..Said' where nothing that the law and all that it calls make is longer than what came in: it says more and counts as full. Else prove '..UptoSaid'. A law counts once. -/
mutual
def uptoBulk {H : Type} : DataW H → Nat
  | .lit (.string bytes) => bytes.length + 1
  | .lit _ => 1
  | .nil => 1
  | .ptr d => uptoBulk d + 1
  | .slice elems spare => uptoBulkAll elems + uptoBulkAll spare + 1
  | .agg parts => uptoBulkAll parts + 1
  | .iface _ d => uptoBulk d + 1
  | .map entries => uptoBulkEntries entries + 1
  | .held _ => 1
def uptoBulkAll {H : Type} : List (DataW H) → Nat
  | [] => 0
  | d :: r => uptoBulk d + uptoBulkAll r
def uptoBulkEntries {H : Type} : List (Lit × DataW H) → Nat
  | [] => 0
  | x :: r => uptoBulkEntry x + uptoBulkEntries r
def uptoBulkEntry {H : Type} : Lit × DataW H → Nat
  | (.string bytes, d) => bytes.length + uptoBulk d + 1
  | (_, d) => uptoBulk d + 1
 end
def uptoSmall : (H : Type) → List (DataW H) → Bool := fun _ ds => decide (uptoBulkAll ds ≤ 1048576)
def OpenSpec.upto (s : _root_.Go.ChangeSpec) : _root_.Go.OpenSpec := { _root_.Go.OpenSpec.ofChange s with cond := some uptoSmall }

/-- 'varvelaw03.TakeRuns', WHERE WHAT IT READS IS OF BULK AT MOST 1048576: true; the input reads as it did. -/
def takeRunsUptoRow : OpenClaim := { program := "ytbibjcgnaibhlaa", sum := "982735a7c2bf4c2a0b3b041d66a0f2c0265d7306ca7353d7a4c0ebdda8960e26", func := "varve/varvelaw03.TakeRuns", spec := "takeRuns", unfollowed := true, recurses := true, apart := false, narrowed := true }
def TakeRunsUptoSaid : Prop := takeRunsUptoRow.holds Try.pinned (OpenSpec.upto takeRunsSpec)

/-- 'varvelaw03.TakeMoves', WHERE WHAT IT READS IS OF BULK AT MOST 1048576: true; the input reads as it did. -/
def takeMovesUptoRow : OpenClaim := { program := "ytbibjcgnaibhlaa", sum := "982735a7c2bf4c2a0b3b041d66a0f2c0265d7306ca7353d7a4c0ebdda8960e26", func := "varve/varvelaw03.TakeMoves", spec := "takeMoves", unfollowed := true, recurses := true, apart := false, narrowed := true }
def TakeMovesUptoSaid : Prop := takeMovesUptoRow.holds Try.pinned (OpenSpec.upto takeMovesSpec)

/-- 'varvelaw03.TakeParts', WHERE WHAT IT READS IS OF BULK AT MOST 1048576: true; the input reads as it did. -/
def takePartsUptoRow : OpenClaim := { program := "ytbibjcgnaibhlaa", sum := "982735a7c2bf4c2a0b3b041d66a0f2c0265d7306ca7353d7a4c0ebdda8960e26", func := "varve/varvelaw03.TakeParts", spec := "takeParts", unfollowed := true, recurses := true, apart := false, narrowed := true }
def TakePartsUptoSaid : Prop := takePartsUptoRow.holds Try.pinned (OpenSpec.upto takePartsSpec)

/-- 'varvelaw03.TakeCovers', WHERE WHAT IT READS IS OF BULK AT MOST 1048576: true; the input reads as it did. -/
def takeCoversUptoRow : OpenClaim := { program := "ytbibjcgnaibhlaa", sum := "982735a7c2bf4c2a0b3b041d66a0f2c0265d7306ca7353d7a4c0ebdda8960e26", func := "varve/varvelaw03.TakeCovers", spec := "takeCovers", unfollowed := true, recurses := true, apart := false, narrowed := true }
def TakeCoversUptoSaid : Prop := takeCoversUptoRow.holds Try.pinned (OpenSpec.upto takeCoversSpec)

end Rows
end Go.Proofs.Ytbibjcgnaibhlaa
