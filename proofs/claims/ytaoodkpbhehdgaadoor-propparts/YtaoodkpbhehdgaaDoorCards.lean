/-
  DERIVED. GIVEN WITH THE SEED: THE CARDS: each row of YtaoodkpbhehdgaaDoorRows.lean that lists a variable, with what it lists TIED to the program's text (the seventh form; the later family's looks); each row that meets fmt, with fmt's text TOLD by the authors' own Lean function (tested against real Go, not proved from fmt's source: count such statements apart). THE CARD IS WHAT COUNTS. Prove the row's statement (the work); the ties are given (YtaoodkpbhehdgaaDoorTie.lean); close each card by the builder's one call (the guide's Derived/Test/ToyasCard.lean, 'card_holds'). Laid BY PROGRAM, IN A SANDBOX (cutbox-door.mjs). By AI agents, Wed Nov 11 2026. No macro, syntax, notation, axiom, sorry.
-/
import Derived.Test.YtaoodkpbhehdgaaDoorRows
import GoSem.ClaimSeven
namespace Go.Proofs.YtaoodkpbhehdgaaDoor
namespace Rows

/-- THE TIED CARD OF 'gouachelaw14.PropFinds'. -/
def propFindsCard : Claim7 := { stood := { row := propFindsRow, standIns := [], harness := (true, "b9247165a0143a5ffb780ffbe2a0f582deb3c3ef8a0db8e0039d05cdf7bcc0b5"), looks := false }, kinds := [], alts := [], laidByText := true, laidKinds := [.data, .pinned], laidTests := true, laidLooks := .later }
def PropFindsCardSaid : Prop := Claim7.holds Tryd.pinned (.plain (OpenSpec.ofChange propFindsSpec)) propFindsCard

/-- THE TIED CARD OF 'gouachelaw14.PropForms'. -/
def propFormsCard : Claim7 := { stood := { row := propFormsRow, standIns := [], harness := (true, "b9247165a0143a5ffb780ffbe2a0f582deb3c3ef8a0db8e0039d05cdf7bcc0b5"), looks := false }, kinds := [], alts := [], laidByText := true, laidKinds := [.data, .pinned], laidTests := true, laidLooks := .later }
def PropFormsCardSaid : Prop := Claim7.holds Tryd.pinned (.plain (OpenSpec.ofChange propFormsSpec)) propFormsCard

/-- THE TIED CARD OF 'gouachelaw14.PropParts'. -/
def propPartsCard : Claim7 := { stood := { row := propPartsRow, standIns := [], harness := (true, "b9247165a0143a5ffb780ffbe2a0f582deb3c3ef8a0db8e0039d05cdf7bcc0b5"), looks := false }, kinds := [], alts := [], laidByText := true, laidKinds := [.data, .pinned], laidTests := true, laidLooks := .later }
def PropPartsCardSaid : Prop := Claim7.holds Tryd.pinned (.plain (OpenSpec.ofChange propPartsSpec)) propPartsCard

/-- THE SECOND FORM's CARD OF 'gouachelaw14.PropFinds'. -/
def propFindsUptoCard : Claim7 := { stood := { row := propFindsUptoRow, standIns := [], harness := (true, "b9247165a0143a5ffb780ffbe2a0f582deb3c3ef8a0db8e0039d05cdf7bcc0b5"), looks := false }, kinds := [], alts := [], laidByText := true, laidKinds := [.data, .pinned], laidTests := true, laidLooks := .later }
def PropFindsUptoCardSaid : Prop := Claim7.holds Tryd.pinned (.plain (OpenSpec.upto propFindsSpec)) propFindsUptoCard

/-- THE SECOND FORM's CARD OF 'gouachelaw14.PropForms'. -/
def propFormsUptoCard : Claim7 := { stood := { row := propFormsUptoRow, standIns := [], harness := (true, "b9247165a0143a5ffb780ffbe2a0f582deb3c3ef8a0db8e0039d05cdf7bcc0b5"), looks := false }, kinds := [], alts := [], laidByText := true, laidKinds := [.data, .pinned], laidTests := true, laidLooks := .later }
def PropFormsUptoCardSaid : Prop := Claim7.holds Tryd.pinned (.plain (OpenSpec.upto propFormsSpec)) propFormsUptoCard

/-- THE SECOND FORM's CARD OF 'gouachelaw14.PropParts'. -/
def propPartsUptoCard : Claim7 := { stood := { row := propPartsUptoRow, standIns := [], harness := (true, "b9247165a0143a5ffb780ffbe2a0f582deb3c3ef8a0db8e0039d05cdf7bcc0b5"), looks := false }, kinds := [], alts := [], laidByText := true, laidKinds := [.data, .pinned], laidTests := true, laidLooks := .later }
def PropPartsUptoCardSaid : Prop := Claim7.holds Tryd.pinned (.plain (OpenSpec.upto propPartsSpec)) propPartsUptoCard
end Rows
end Go.Proofs.YtaoodkpbhehdgaaDoor
