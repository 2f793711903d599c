/-
  DERIVED. GIVEN WITH THE SEED: THE CARDS: each row of YtemlnblifkdenaaGreatDoorRows.lean that lists a variable, with what it lists TIED to the program's text (the seventh form; the later family's looks); each row that meets fmt, with fmt's text TOLD by the authors' own Lean function (tested against real Go, not proved from fmt's source: count such statements apart). THE CARD IS WHAT COUNTS. Prove the row's statement (the work); the ties are given (YtemlnblifkdenaaGreatDoorTie.lean); close each card by the builder's one call (the guide's Derived/Test/ToyasCard.lean, 'card_holds'). Laid BY PROGRAM, IN A SANDBOX (cutbox-door.mjs). By AI agents, Wed Nov 11 2026. No macro, syntax, notation, axiom, sorry.
-/
import Derived.Test.YtemlnblifkdenaaGreatDoorRows
import GoSem.ClaimSeven
namespace Go.Proofs.YtemlnblifkdenaaGreatDoor
namespace Rows

/-- THE TIED CARD OF 'gouachelaw05.SelectTexts'. -/
def selectTextsCard : Claim7 := { stood := { row := selectTextsRow, standIns := [], harness := (true, "0a86e5b2a64a7461aff69cdd3a614f0ecb7ac021efe1e364a278d9de9e31d70e"), looks := false }, kinds := [], alts := [], laidByText := true, laidKinds := [.data, .data, .pinned], laidTests := true, laidLooks := .later }
def SelectTextsCardSaid : Prop := Claim7.holds Tryz.pinned (.plain (OpenSpec.ofChange selectTextsSpec)) selectTextsCard

/-- THE SECOND FORM's CARD OF 'gouachelaw05.SelectTexts'. -/
def selectTextsUptoCard : Claim7 := { stood := { row := selectTextsUptoRow, standIns := [], harness := (true, "0a86e5b2a64a7461aff69cdd3a614f0ecb7ac021efe1e364a278d9de9e31d70e"), looks := false }, kinds := [], alts := [], laidByText := true, laidKinds := [.data, .data, .pinned], laidTests := true, laidLooks := .later }
def SelectTextsUptoCardSaid : Prop := Claim7.holds Tryz.pinned (.plain (OpenSpec.upto selectTextsSpec)) selectTextsUptoCard
end Rows
end Go.Proofs.YtemlnblifkdenaaGreatDoor
