/-
  DERIVED. GIVEN WITH THE SEED: THE CARDS: each row of YtlhdapckenjigaaGreatDoorRows.lean that lists a variable, with what it lists TIED to the program's text (the seventh form; the later family's looks); each row that meets fmt, with fmt's text TOLD by the authors' own Lean function (tested against real Go, not proved from fmt's source: count such statements apart). THE CARD IS WHAT COUNTS. Prove the row's statement (the work); the ties are given (YtlhdapckenjigaaGreatDoorTie.lean); close each card by the builder's one call (the guide's Derived/Test/ToyasCard.lean, 'card_holds'). Laid BY PROGRAM, IN A SANDBOX (cutbox-door.mjs). By AI agents, Wed Nov 11 2026. No macro, syntax, notation, axiom, sorry.
-/
import Derived.Test.YtlhdapckenjigaaGreatDoorRows
import GoSem.ClaimSeven
namespace Go.Proofs.YtlhdapckenjigaaGreatDoor
namespace Rows

/-- THE TIED CARD OF 'gouachelaw16.ShortExpands'. -/
def shortExpandsCard : Claim7 := { stood := { row := shortExpandsRow, standIns := [], harness := (true, "1acb833b1e7088a0af136e06f9692e1477035b1d798dd368ba3799a7247fca7b"), looks := false }, kinds := [], alts := [], laidByText := true, laidKinds := [.data, .data, .data, .data, .data, .data, .pinned], laidTests := true, laidLooks := .later }
def ShortExpandsCardSaid : Prop := Claim7.holds Tryz.pinned (.plain (OpenSpec.ofChange shortExpandsSpec)) shortExpandsCard

/-- THE TIED CARD OF 'gouachelaw16.ShortJoins'. -/
def shortJoinsCard : Claim7 := { stood := { row := shortJoinsRow, standIns := [], harness := (true, "1acb833b1e7088a0af136e06f9692e1477035b1d798dd368ba3799a7247fca7b"), looks := false }, kinds := [], alts := [], laidByText := true, laidKinds := [.data, .data, .data, .data, .data, .data, .pinned], laidTests := true, laidLooks := .later }
def ShortJoinsCardSaid : Prop := Claim7.holds Tryz.pinned (.plain (OpenSpec.ofChange shortJoinsSpec)) shortJoinsCard

/-- THE TIED CARD OF 'gouachelaw16.ShortBack'. -/
def shortBackCard : Claim7 := { stood := { row := shortBackRow, standIns := [], harness := (true, "1acb833b1e7088a0af136e06f9692e1477035b1d798dd368ba3799a7247fca7b"), looks := false }, kinds := [], alts := [], laidByText := true, laidKinds := [.data, .data, .data, .data, .data, .data, .pinned], laidTests := true, laidLooks := .later }
def ShortBackCardSaid : Prop := Claim7.holds Tryz.pinned (.plain (OpenSpec.ofChange shortBackSpec)) shortBackCard

/-- THE TIED CARD OF 'gouachelaw16.ShortWide'. -/
def shortWideCard : Claim7 := { stood := { row := shortWideRow, standIns := [], harness := (true, "1acb833b1e7088a0af136e06f9692e1477035b1d798dd368ba3799a7247fca7b"), looks := false }, kinds := [], alts := [], laidByText := true, laidKinds := [.data, .data, .data, .data, .data, .data, .pinned], laidTests := true, laidLooks := .later }
def ShortWideCardSaid : Prop := Claim7.holds Tryz.pinned (.plain (OpenSpec.ofChange shortWideSpec)) shortWideCard

/-- THE TIED CARD OF 'gouachelaw16.ShortSides'. -/
def shortSidesCard : Claim7 := { stood := { row := shortSidesRow, standIns := [], harness := (true, "1acb833b1e7088a0af136e06f9692e1477035b1d798dd368ba3799a7247fca7b"), looks := false }, kinds := [], alts := [], laidByText := true, laidKinds := [.data, .data, .data, .data, .data, .data, .pinned], laidTests := true, laidLooks := .later }
def ShortSidesCardSaid : Prop := Claim7.holds Tryz.pinned (.plain (OpenSpec.ofChange shortSidesSpec)) shortSidesCard

/-- THE SECOND FORM's CARD OF 'gouachelaw16.ShortExpands'. -/
def shortExpandsUptoCard : Claim7 := { stood := { row := shortExpandsUptoRow, standIns := [], harness := (true, "1acb833b1e7088a0af136e06f9692e1477035b1d798dd368ba3799a7247fca7b"), looks := false }, kinds := [], alts := [], laidByText := true, laidKinds := [.data, .data, .data, .data, .data, .data, .pinned], laidTests := true, laidLooks := .later }
def ShortExpandsUptoCardSaid : Prop := Claim7.holds Tryz.pinned (.plain (OpenSpec.upto shortExpandsSpec)) shortExpandsUptoCard

/-- THE SECOND FORM's CARD OF 'gouachelaw16.ShortJoins'. -/
def shortJoinsUptoCard : Claim7 := { stood := { row := shortJoinsUptoRow, standIns := [], harness := (true, "1acb833b1e7088a0af136e06f9692e1477035b1d798dd368ba3799a7247fca7b"), looks := false }, kinds := [], alts := [], laidByText := true, laidKinds := [.data, .data, .data, .data, .data, .data, .pinned], laidTests := true, laidLooks := .later }
def ShortJoinsUptoCardSaid : Prop := Claim7.holds Tryz.pinned (.plain (OpenSpec.upto shortJoinsSpec)) shortJoinsUptoCard

/-- THE SECOND FORM's CARD OF 'gouachelaw16.ShortBack'. -/
def shortBackUptoCard : Claim7 := { stood := { row := shortBackUptoRow, standIns := [], harness := (true, "1acb833b1e7088a0af136e06f9692e1477035b1d798dd368ba3799a7247fca7b"), looks := false }, kinds := [], alts := [], laidByText := true, laidKinds := [.data, .data, .data, .data, .data, .data, .pinned], laidTests := true, laidLooks := .later }
def ShortBackUptoCardSaid : Prop := Claim7.holds Tryz.pinned (.plain (OpenSpec.upto shortBackSpec)) shortBackUptoCard

/-- THE SECOND FORM's CARD OF 'gouachelaw16.ShortWide'. -/
def shortWideUptoCard : Claim7 := { stood := { row := shortWideUptoRow, standIns := [], harness := (true, "1acb833b1e7088a0af136e06f9692e1477035b1d798dd368ba3799a7247fca7b"), looks := false }, kinds := [], alts := [], laidByText := true, laidKinds := [.data, .data, .data, .data, .data, .data, .pinned], laidTests := true, laidLooks := .later }
def ShortWideUptoCardSaid : Prop := Claim7.holds Tryz.pinned (.plain (OpenSpec.upto shortWideSpec)) shortWideUptoCard

/-- THE SECOND FORM's CARD OF 'gouachelaw16.ShortSides'. -/
def shortSidesUptoCard : Claim7 := { stood := { row := shortSidesUptoRow, standIns := [], harness := (true, "1acb833b1e7088a0af136e06f9692e1477035b1d798dd368ba3799a7247fca7b"), looks := false }, kinds := [], alts := [], laidByText := true, laidKinds := [.data, .data, .data, .data, .data, .data, .pinned], laidTests := true, laidLooks := .later }
def ShortSidesUptoCardSaid : Prop := Claim7.holds Tryz.pinned (.plain (OpenSpec.upto shortSidesSpec)) shortSidesUptoCard
end Rows
end Go.Proofs.YtlhdapckenjigaaGreatDoor
