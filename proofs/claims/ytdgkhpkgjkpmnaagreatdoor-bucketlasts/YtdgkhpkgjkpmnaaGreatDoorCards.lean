/-
  DERIVED. GIVEN WITH THE SEED: THE CARDS: each row of YtdgkhpkgjkpmnaaGreatDoorRows.lean that lists a variable, with what it lists TIED to the program's text (the seventh form; the later family's looks); each row that meets fmt, with fmt's text TOLD by the authors' own Lean function (tested against real Go, not proved from fmt's source: count such statements apart). THE CARD IS WHAT COUNTS. Prove the row's statement (the work); the ties are given (YtdgkhpkgjkpmnaaGreatDoorTie.lean); close each card by the builder's one call (the guide's Derived/Test/ToyasCard.lean, 'card_holds'). Laid BY PROGRAM, IN A SANDBOX (cutbox-door.mjs). By AI agents, Wed Nov 11 2026. No macro, syntax, notation, axiom, sorry.
-/
import Derived.Test.YtdgkhpkgjkpmnaaGreatDoorRows
import GoSem.ClaimSeven
namespace Go.Proofs.YtdgkhpkgjkpmnaaGreatDoor
namespace Rows

/-- THE TIED CARD OF 'gouachelaw12.BucketLasts'. -/
def bucketLastsCard : Claim7 := { stood := { row := bucketLastsRow, standIns := [], harness := (true, "541afaa03b612f8554435df294fc0c3bbb9f8f40d4c4097fd5526989d3c3ede4"), looks := false }, kinds := [], alts := [], laidByText := true, laidKinds := [.data, .data, .pinned], laidTests := true, laidLooks := .later }
def BucketLastsCardSaid : Prop := Claim7.holds Tryz.pinned (.plain (OpenSpec.ofChange bucketLastsSpec)) bucketLastsCard

/-- THE SECOND FORM's CARD OF 'gouachelaw12.BucketLasts'. -/
def bucketLastsUptoCard : Claim7 := { stood := { row := bucketLastsUptoRow, standIns := [], harness := (true, "541afaa03b612f8554435df294fc0c3bbb9f8f40d4c4097fd5526989d3c3ede4"), looks := false }, kinds := [], alts := [], laidByText := true, laidKinds := [.data, .data, .pinned], laidTests := true, laidLooks := .later }
def BucketLastsUptoCardSaid : Prop := Claim7.holds Tryz.pinned (.plain (OpenSpec.upto bucketLastsSpec)) bucketLastsUptoCard
end Rows
end Go.Proofs.YtdgkhpkgjkpmnaaGreatDoor
