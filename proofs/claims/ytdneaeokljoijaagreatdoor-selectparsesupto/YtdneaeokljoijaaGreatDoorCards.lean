/-
  DERIVED. GIVEN WITH THE SEED: THE CARDS: each row of YtdneaeokljoijaaGreatDoorRows.lean that lists a variable, with what it lists TIED to the program's text (the seventh form; the later family's looks); each row that meets fmt, with fmt's text TOLD by the authors' own Lean function (tested against real Go, not proved from fmt's source: count such statements apart). THE CARD IS WHAT COUNTS. Prove the row's statement (the work); the ties are given (YtdneaeokljoijaaGreatDoorTie.lean); close each card by the builder's one call (the guide's Derived/Test/ToyasCard.lean, 'card_holds'). Laid BY PROGRAM, IN A SANDBOX (cutbox-door.mjs). By AI agents, Wed Nov 11 2026. No macro, syntax, notation, axiom, sorry.
-/
import Derived.Test.YtdneaeokljoijaaGreatDoorRows
import GoSem.ClaimSeven
namespace Go.Proofs.YtdneaeokljoijaaGreatDoor
namespace Rows

/-- THE TIED CARD OF 'gouachelaw05.SelectParses'. -/
def selectParsesCard : Claim7 := { stood := { row := selectParsesRow, standIns := [], harness := (true, "c5c0348d8b621459d592ef5a5d020f5004d55d6771b31fc7111d9a0108ab1235"), looks := false }, kinds := [], alts := [], laidByText := true, laidKinds := [.data, .data, .pinned], laidTests := true, laidLooks := .later }
def SelectParsesCardSaid : Prop := Claim7.holds Tryz.pinned (.plain (OpenSpec.ofChange selectParsesSpec)) selectParsesCard

/-- THE SECOND FORM's CARD OF 'gouachelaw05.SelectParses'. -/
def selectParsesUptoCard : Claim7 := { stood := { row := selectParsesUptoRow, standIns := [], harness := (true, "c5c0348d8b621459d592ef5a5d020f5004d55d6771b31fc7111d9a0108ab1235"), looks := false }, kinds := [], alts := [], laidByText := true, laidKinds := [.data, .data, .pinned], laidTests := true, laidLooks := .later }
def SelectParsesUptoCardSaid : Prop := Claim7.holds Tryz.pinned (.plain (OpenSpec.upto selectParsesSpec)) selectParsesUptoCard
end Rows
end Go.Proofs.YtdneaeokljoijaaGreatDoor
