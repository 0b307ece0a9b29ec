/-
  DERIVED. GIVEN WITH THE SEED: THE CARDS: each row of YtmejcckbbcgmnaaDoorRows.lean that lists a variable, with what it lists TIED to the program's text (the seventh form; the later family's looks); each row that meets fmt, with fmt's text TOLD by the authors' own Lean function (tested against real Go, not proved from fmt's source: count such statements apart). THE CARD IS WHAT COUNTS. Prove the row's statement (the work); the ties are given (YtmejcckbbcgmnaaDoorTie.lean); close each card by the builder's one call (the guide's Derived/Test/ToyasCard.lean, 'card_holds'). Laid BY PROGRAM, IN A SANDBOX (cutbox-door.mjs). By AI agents, Wed Nov 11 2026. No macro, syntax, notation, axiom, sorry.
-/
import Derived.Test.YtmejcckbbcgmnaaDoorRows
import GoSem.ClaimSeven
namespace Go.Proofs.YtmejcckbbcgmnaaDoor
namespace Rows

/-- THE TIED CARD OF 'varvelaw18.NameLooks'. -/
def nameLooksCard : Claim7 := { stood := { row := nameLooksRow, standIns := [], harness := (true, "7f83ffad1d0d1e2dfbd17503271ade9f691ec5a15bc6df347a523864f9edf1b1"), looks := false }, kinds := [], alts := [], laidByText := true, laidKinds := [.data, .data, .data], laidTests := true, laidLooks := .later }
def NameLooksCardSaid : Prop := Claim7.holds Tryd.pinned (.plain (OpenSpec.ofChange nameLooksSpec)) nameLooksCard

/-- THE TIED CARD OF 'varvelaw18.NameBack'. -/
def nameBackCard : Claim7 := { stood := { row := nameBackRow, standIns := [], harness := (true, "7f83ffad1d0d1e2dfbd17503271ade9f691ec5a15bc6df347a523864f9edf1b1"), looks := false }, kinds := [], alts := [], laidByText := true, laidKinds := [.data, .data, .data], laidTests := true, laidLooks := .later }
def NameBackCardSaid : Prop := Claim7.holds Tryd.pinned (.plain (OpenSpec.ofChange nameBackSpec)) nameBackCard

/-- THE TIED CARD OF 'varvelaw18.NameOne'. -/
def nameOneCard : Claim7 := { stood := { row := nameOneRow, standIns := [], harness := (true, "7f83ffad1d0d1e2dfbd17503271ade9f691ec5a15bc6df347a523864f9edf1b1"), looks := false }, kinds := [], alts := [], laidByText := true, laidKinds := [.data, .data, .data], laidTests := true, laidLooks := .later }
def NameOneCardSaid : Prop := Claim7.holds Tryd.pinned (.plain (OpenSpec.ofChange nameOneSpec)) nameOneCard

/-- THE SECOND FORM's CARD OF 'varvelaw18.NameLooks'. -/
def nameLooksUptoCard : Claim7 := { stood := { row := nameLooksUptoRow, standIns := [], harness := (true, "7f83ffad1d0d1e2dfbd17503271ade9f691ec5a15bc6df347a523864f9edf1b1"), looks := false }, kinds := [], alts := [], laidByText := true, laidKinds := [.data, .data, .data], laidTests := true, laidLooks := .later }
def NameLooksUptoCardSaid : Prop := Claim7.holds Tryd.pinned (.plain (OpenSpec.upto nameLooksSpec)) nameLooksUptoCard

/-- THE SECOND FORM's CARD OF 'varvelaw18.NameBack'. -/
def nameBackUptoCard : Claim7 := { stood := { row := nameBackUptoRow, standIns := [], harness := (true, "7f83ffad1d0d1e2dfbd17503271ade9f691ec5a15bc6df347a523864f9edf1b1"), looks := false }, kinds := [], alts := [], laidByText := true, laidKinds := [.data, .data, .data], laidTests := true, laidLooks := .later }
def NameBackUptoCardSaid : Prop := Claim7.holds Tryd.pinned (.plain (OpenSpec.upto nameBackSpec)) nameBackUptoCard

/-- THE SECOND FORM's CARD OF 'varvelaw18.NameOne'. -/
def nameOneUptoCard : Claim7 := { stood := { row := nameOneUptoRow, standIns := [], harness := (true, "7f83ffad1d0d1e2dfbd17503271ade9f691ec5a15bc6df347a523864f9edf1b1"), looks := false }, kinds := [], alts := [], laidByText := true, laidKinds := [.data, .data, .data], laidTests := true, laidLooks := .later }
def NameOneUptoCardSaid : Prop := Claim7.holds Tryd.pinned (.plain (OpenSpec.upto nameOneSpec)) nameOneUptoCard
end Rows
end Go.Proofs.YtmejcckbbcgmnaaDoor
