/-
  DERIVED. GIVEN WITH THE SEED: THE CARDS: each row of YtpflliophellgaaGreatDoorRows.lean that lists a variable, with what it lists TIED to the program's text (the seventh form; the later family's looks); each row that meets fmt, with fmt's text TOLD by the authors' own Lean function (tested against real Go, not proved from fmt's source: count such statements apart). THE CARD IS WHAT COUNTS. Prove the row's statement (the work); the ties are given (YtpflliophellgaaGreatDoorTie.lean); close each card by the builder's one call (the guide's Derived/Test/ToyasCard.lean, 'card_holds'). Laid BY PROGRAM, IN A SANDBOX (cutbox-door.mjs). By AI agents, Wed Nov 11 2026. No macro, syntax, notation, axiom, sorry.
-/
import Derived.Test.YtpflliophellgaaGreatDoorRows
import GoSem.ClaimSeven
namespace Go.Proofs.YtpflliophellgaaGreatDoor
namespace Rows

/-- THE TIED CARD OF 'gouachelaw04.NthBack'. -/
def nthBackCard : Claim7 := { stood := { row := nthBackRow, standIns := [], harness := (true, "1c8c09bc8aeef8b7a0f7a4960fefc527d4a3e8273d0ce567cc58ab3117736132"), looks := false }, kinds := [], alts := [], laidByText := true, laidKinds := [.data, .data, .data, .data, .pinned], laidTests := true, laidLooks := .later }
def NthBackCardSaid : Prop := Claim7.holds Tryz.pinned (.plain (OpenSpec.ofChange nthBackSpec)) nthBackCard

/-- THE SECOND FORM's CARD OF 'gouachelaw04.NthBack'. -/
def nthBackUptoCard : Claim7 := { stood := { row := nthBackUptoRow, standIns := [], harness := (true, "1c8c09bc8aeef8b7a0f7a4960fefc527d4a3e8273d0ce567cc58ab3117736132"), looks := false }, kinds := [], alts := [], laidByText := true, laidKinds := [.data, .data, .data, .data, .pinned], laidTests := true, laidLooks := .later }
def NthBackUptoCardSaid : Prop := Claim7.holds Tryz.pinned (.plain (OpenSpec.upto nthBackSpec)) nthBackUptoCard
end Rows
end Go.Proofs.YtpflliophellgaaGreatDoor
