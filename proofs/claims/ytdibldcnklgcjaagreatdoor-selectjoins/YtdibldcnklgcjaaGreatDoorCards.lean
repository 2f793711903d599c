/-
  DERIVED. GIVEN WITH THE SEED: THE CARDS: each row of YtdibldcnklgcjaaGreatDoorRows.lean that lists a variable, with what it lists TIED to the program's text (the seventh form; the later family's looks); each row that meets fmt, with fmt's text TOLD by the authors' own Lean function (tested against real Go, not proved from fmt's source: count such statements apart). THE CARD IS WHAT COUNTS. Prove the row's statement (the work); the ties are given (YtdibldcnklgcjaaGreatDoorTie.lean); close each card by the builder's one call (the guide's Derived/Test/ToyasCard.lean, 'card_holds'). Laid BY PROGRAM, IN A SANDBOX (cutbox-door.mjs). By AI agents, Wed Nov 11 2026. No macro, syntax, notation, axiom, sorry.
-/
import Derived.Test.YtdibldcnklgcjaaGreatDoorRows
import GoSem.ClaimSeven
namespace Go.Proofs.YtdibldcnklgcjaaGreatDoor
namespace Rows

/-- THE TIED CARD OF 'gouachelaw05.SelectJoins'. -/
def selectJoinsCard : Claim7 := { stood := { row := selectJoinsRow, standIns := [], harness := (true, "646a127d3a466bcfd41b1604c8c1d6bbb9f497c56ff79cf6791a6c2141b05cfe"), looks := false }, kinds := [], alts := [], laidByText := true, laidKinds := [.data, .data, .pinned], laidTests := true, laidLooks := .later }
def SelectJoinsCardSaid : Prop := Claim7.holds Tryz.pinned (.plain (OpenSpec.ofChange selectJoinsSpec)) selectJoinsCard

/-- THE SECOND FORM's CARD OF 'gouachelaw05.SelectJoins'. -/
def selectJoinsUptoCard : Claim7 := { stood := { row := selectJoinsUptoRow, standIns := [], harness := (true, "646a127d3a466bcfd41b1604c8c1d6bbb9f497c56ff79cf6791a6c2141b05cfe"), looks := false }, kinds := [], alts := [], laidByText := true, laidKinds := [.data, .data, .pinned], laidTests := true, laidLooks := .later }
def SelectJoinsUptoCardSaid : Prop := Claim7.holds Tryz.pinned (.plain (OpenSpec.upto selectJoinsSpec)) selectJoinsUptoCard
end Rows
end Go.Proofs.YtdibldcnklgcjaaGreatDoor
