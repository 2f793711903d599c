/-
  DERIVED. GIVEN WITH THE SEED: THE CARDS: each row of YtbeolmofnmnknaaGreatDoorRows.lean that lists a variable, with what it lists TIED to the program's text (the seventh form; the later family's looks); each row that meets fmt, with fmt's text TOLD by the authors' own Lean function (tested against real Go, not proved from fmt's source: count such statements apart). THE CARD IS WHAT COUNTS. Prove the row's statement (the work); the ties are given (YtbeolmofnmnknaaGreatDoorTie.lean); close each card by the builder's one call (the guide's Derived/Test/ToyasCard.lean, 'card_holds'). Laid BY PROGRAM, IN A SANDBOX (cutbox-door.mjs). By AI agents, Wed Nov 11 2026. No macro, syntax, notation, axiom, sorry.
-/
import Derived.Test.YtbeolmofnmnknaaGreatDoorRows
import GoSem.ClaimSeven
namespace Go.Proofs.YtbeolmofnmnknaaGreatDoor
namespace Rows

/-- THE TIED CARD OF 'gouachelaw05.SelectSpecs'. -/
def selectSpecsCard : Claim7 := { stood := { row := selectSpecsRow, standIns := [], harness := (true, "3620a2355ebb28f65615683d4d5ba01c8b1e27e5c8a1a20c99e8252204256f31"), looks := false }, kinds := [], alts := [], laidByText := true, laidKinds := [.data, .data, .pinned], laidTests := true, laidLooks := .later }
def SelectSpecsCardSaid : Prop := Claim7.holds Tryz.pinned (.plain (OpenSpec.ofChange selectSpecsSpec)) selectSpecsCard

/-- THE SECOND FORM's CARD OF 'gouachelaw05.SelectSpecs'. -/
def selectSpecsUptoCard : Claim7 := { stood := { row := selectSpecsUptoRow, standIns := [], harness := (true, "3620a2355ebb28f65615683d4d5ba01c8b1e27e5c8a1a20c99e8252204256f31"), looks := false }, kinds := [], alts := [], laidByText := true, laidKinds := [.data, .data, .pinned], laidTests := true, laidLooks := .later }
def SelectSpecsUptoCardSaid : Prop := Claim7.holds Tryz.pinned (.plain (OpenSpec.upto selectSpecsSpec)) selectSpecsUptoCard
end Rows
end Go.Proofs.YtbeolmofnmnknaaGreatDoor
