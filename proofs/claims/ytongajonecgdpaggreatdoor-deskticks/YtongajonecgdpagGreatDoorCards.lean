/-
  DERIVED. GIVEN WITH THE SEED: THE CARDS: each row of YtongajonecgdpagGreatDoorRows.lean that lists a variable, with what it lists TIED to the program's text (the seventh form; the later family's looks); each row that meets fmt, with fmt's text TOLD by the authors' own Lean function (tested against real Go, not proved from fmt's source: count such statements apart). THE CARD IS WHAT COUNTS. Prove the row's statement (the work); the ties are given (YtongajonecgdpagGreatDoorTie.lean); close each card by the builder's one call (the guide's Derived/Test/ToyasCard.lean, 'card_holds'). Laid BY PROGRAM, IN A SANDBOX (cutbox-door.mjs). By AI agents, Wed Nov 11 2026. No macro, syntax, notation, axiom, sorry.
-/
import Derived.Test.YtongajonecgdpagGreatDoorRows
import GoSem.ClaimSeven
namespace Go.Proofs.YtongajonecgdpagGreatDoor
namespace Rows

/-- THE TIED CARD OF 'linchpinlaw.DeskPlays'. -/
def deskPlaysCard : Claim7 := { stood := { row := deskPlaysRow, standIns := [], harness := (true, "50f295ef47ef342f039964f102b3746a080942f7cfb8b491abb8ab76295a0634"), looks := true }, kinds := [], alts := [], laidByText := true, laidKinds := [.data, .data, .data], laidTests := true, laidLooks := .later }
def DeskPlaysCardSaid : Prop := Claim7.holds Tryz.pinned (.plain (OpenSpec.ofChange deskPlaysSpec)) deskPlaysCard

/-- THE TIED CARD OF 'linchpinlaw.DeskTicks'. -/
def deskTicksCard : Claim7 := { stood := { row := deskTicksRow, standIns := [], harness := (true, "50f295ef47ef342f039964f102b3746a080942f7cfb8b491abb8ab76295a0634"), looks := true }, kinds := [], alts := [], laidByText := true, laidKinds := [.data, .data, .data], laidTests := true, laidLooks := .later }
def DeskTicksCardSaid : Prop := Claim7.holds Tryz.pinned (.plain (OpenSpec.ofChange deskTicksSpec)) deskTicksCard

/-- THE SECOND FORM's CARD OF 'linchpinlaw.DeskPlays'. -/
def deskPlaysUptoCard : Claim7 := { stood := { row := deskPlaysUptoRow, standIns := [], harness := (true, "50f295ef47ef342f039964f102b3746a080942f7cfb8b491abb8ab76295a0634"), looks := true }, kinds := [], alts := [], laidByText := true, laidKinds := [.data, .data, .data], laidTests := true, laidLooks := .later }
def DeskPlaysUptoCardSaid : Prop := Claim7.holds Tryz.pinned (.plain (OpenSpec.upto deskPlaysSpec)) deskPlaysUptoCard

/-- THE SECOND FORM's CARD OF 'linchpinlaw.DeskTicks'. -/
def deskTicksUptoCard : Claim7 := { stood := { row := deskTicksUptoRow, standIns := [], harness := (true, "50f295ef47ef342f039964f102b3746a080942f7cfb8b491abb8ab76295a0634"), looks := true }, kinds := [], alts := [], laidByText := true, laidKinds := [.data, .data, .data], laidTests := true, laidLooks := .later }
def DeskTicksUptoCardSaid : Prop := Claim7.holds Tryz.pinned (.plain (OpenSpec.upto deskTicksSpec)) deskTicksUptoCard
end Rows
end Go.Proofs.YtongajonecgdpagGreatDoor
