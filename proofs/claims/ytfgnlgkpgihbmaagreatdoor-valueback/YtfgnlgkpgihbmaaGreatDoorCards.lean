/-
  DERIVED. GIVEN WITH THE SEED: THE CARDS: each row of YtfgnlgkpgihbmaaGreatDoorRows.lean that lists a variable, with what it lists TIED to the program's text (the seventh form; the later family's looks); each row that meets fmt, with fmt's text TOLD by the authors' own Lean function (tested against real Go, not proved from fmt's source: count such statements apart). THE CARD IS WHAT COUNTS. Prove the row's statement (the work); the ties are given (YtfgnlgkpgihbmaaGreatDoorTie.lean); close each card by the builder's one call (the guide's Derived/Test/ToyasCard.lean, 'card_holds'). Laid BY PROGRAM, IN A SANDBOX (cutbox-door.mjs). By AI agents, Wed Nov 11 2026. No macro, syntax, notation, axiom, sorry.
-/
import Derived.Test.YtfgnlgkpgihbmaaGreatDoorRows
import GoSem.ClaimSeven
namespace Go.Proofs.YtfgnlgkpgihbmaaGreatDoor
namespace Rows

/-- THE TIED CARD OF 'gouachelaw15.ValueParses'. -/
def valueParsesCard : Claim7 := { stood := { row := valueParsesRow, standIns := [], harness := (true, "9aa51f73afc68e93e595cc4d3327b3631534b65ecca6f5f01b4a33b5f8ab53dd"), looks := false }, kinds := [], alts := [], laidByText := true, laidKinds := [.data, .data, .data, .data, .data, .pinned], laidTests := true, laidLooks := .later }
def ValueParsesCardSaid : Prop := Claim7.holds Tryz.pinned (.plain (OpenSpec.ofChange valueParsesSpec)) valueParsesCard

/-- THE TIED CARD OF 'gouachelaw15.ValueParts'. -/
def valuePartsCard : Claim7 := { stood := { row := valuePartsRow, standIns := [], harness := (true, "9aa51f73afc68e93e595cc4d3327b3631534b65ecca6f5f01b4a33b5f8ab53dd"), looks := false }, kinds := [], alts := [], laidByText := true, laidKinds := [.data, .data, .data, .data, .data, .pinned], laidTests := true, laidLooks := .later }
def ValuePartsCardSaid : Prop := Claim7.holds Tryz.pinned (.plain (OpenSpec.ofChange valuePartsSpec)) valuePartsCard

/-- THE TIED CARD OF 'gouachelaw15.ValueBack'. -/
def valueBackCard : Claim7 := { stood := { row := valueBackRow, standIns := [], harness := (true, "9aa51f73afc68e93e595cc4d3327b3631534b65ecca6f5f01b4a33b5f8ab53dd"), looks := false }, kinds := [], alts := [], laidByText := true, laidKinds := [.data, .data, .data, .data, .data, .pinned], laidTests := true, laidLooks := .later }
def ValueBackCardSaid : Prop := Claim7.holds Tryz.pinned (.plain (OpenSpec.ofChange valueBackSpec)) valueBackCard

/-- THE TIED CARD OF 'gouachelaw15.ValueInitial'. -/
def valueInitialCard : Claim7 := { stood := { row := valueInitialRow, standIns := [], harness := (true, "9aa51f73afc68e93e595cc4d3327b3631534b65ecca6f5f01b4a33b5f8ab53dd"), looks := false }, kinds := [], alts := [], laidByText := true, laidKinds := [.data, .data, .data, .data, .data, .pinned], laidTests := true, laidLooks := .later }
def ValueInitialCardSaid : Prop := Claim7.holds Tryz.pinned (.plain (OpenSpec.ofChange valueInitialSpec)) valueInitialCard

/-- THE TIED CARD OF 'gouachelaw15.ValueColors'. -/
def valueColorsCard : Claim7 := { stood := { row := valueColorsRow, standIns := [], harness := (true, "9aa51f73afc68e93e595cc4d3327b3631534b65ecca6f5f01b4a33b5f8ab53dd"), looks := false }, kinds := [], alts := [], laidByText := true, laidKinds := [.data, .data, .data, .data, .data, .pinned], laidTests := true, laidLooks := .later }
def ValueColorsCardSaid : Prop := Claim7.holds Tryz.pinned (.plain (OpenSpec.ofChange valueColorsSpec)) valueColorsCard

/-- THE SECOND FORM's CARD OF 'gouachelaw15.ValueParses'. -/
def valueParsesUptoCard : Claim7 := { stood := { row := valueParsesUptoRow, standIns := [], harness := (true, "9aa51f73afc68e93e595cc4d3327b3631534b65ecca6f5f01b4a33b5f8ab53dd"), looks := false }, kinds := [], alts := [], laidByText := true, laidKinds := [.data, .data, .data, .data, .data, .pinned], laidTests := true, laidLooks := .later }
def ValueParsesUptoCardSaid : Prop := Claim7.holds Tryz.pinned (.plain (OpenSpec.upto valueParsesSpec)) valueParsesUptoCard

/-- THE SECOND FORM's CARD OF 'gouachelaw15.ValueParts'. -/
def valuePartsUptoCard : Claim7 := { stood := { row := valuePartsUptoRow, standIns := [], harness := (true, "9aa51f73afc68e93e595cc4d3327b3631534b65ecca6f5f01b4a33b5f8ab53dd"), looks := false }, kinds := [], alts := [], laidByText := true, laidKinds := [.data, .data, .data, .data, .data, .pinned], laidTests := true, laidLooks := .later }
def ValuePartsUptoCardSaid : Prop := Claim7.holds Tryz.pinned (.plain (OpenSpec.upto valuePartsSpec)) valuePartsUptoCard

/-- THE SECOND FORM's CARD OF 'gouachelaw15.ValueBack'. -/
def valueBackUptoCard : Claim7 := { stood := { row := valueBackUptoRow, standIns := [], harness := (true, "9aa51f73afc68e93e595cc4d3327b3631534b65ecca6f5f01b4a33b5f8ab53dd"), looks := false }, kinds := [], alts := [], laidByText := true, laidKinds := [.data, .data, .data, .data, .data, .pinned], laidTests := true, laidLooks := .later }
def ValueBackUptoCardSaid : Prop := Claim7.holds Tryz.pinned (.plain (OpenSpec.upto valueBackSpec)) valueBackUptoCard

/-- THE SECOND FORM's CARD OF 'gouachelaw15.ValueInitial'. -/
def valueInitialUptoCard : Claim7 := { stood := { row := valueInitialUptoRow, standIns := [], harness := (true, "9aa51f73afc68e93e595cc4d3327b3631534b65ecca6f5f01b4a33b5f8ab53dd"), looks := false }, kinds := [], alts := [], laidByText := true, laidKinds := [.data, .data, .data, .data, .data, .pinned], laidTests := true, laidLooks := .later }
def ValueInitialUptoCardSaid : Prop := Claim7.holds Tryz.pinned (.plain (OpenSpec.upto valueInitialSpec)) valueInitialUptoCard

/-- THE SECOND FORM's CARD OF 'gouachelaw15.ValueColors'. -/
def valueColorsUptoCard : Claim7 := { stood := { row := valueColorsUptoRow, standIns := [], harness := (true, "9aa51f73afc68e93e595cc4d3327b3631534b65ecca6f5f01b4a33b5f8ab53dd"), looks := false }, kinds := [], alts := [], laidByText := true, laidKinds := [.data, .data, .data, .data, .data, .pinned], laidTests := true, laidLooks := .later }
def ValueColorsUptoCardSaid : Prop := Claim7.holds Tryz.pinned (.plain (OpenSpec.upto valueColorsSpec)) valueColorsUptoCard
end Rows
end Go.Proofs.YtfgnlgkpgihbmaaGreatDoor
