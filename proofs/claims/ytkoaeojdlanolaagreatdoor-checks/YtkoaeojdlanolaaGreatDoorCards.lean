/-
  DERIVED. GIVEN WITH THE SEED: THE CARDS: each row of YtkoaeojdlanolaaGreatDoorRows.lean that lists a variable, with what it lists TIED to the program's text (the seventh form; the later family's looks); each row that meets fmt, with fmt's text TOLD by the authors' own Lean function (tested against real Go, not proved from fmt's source: count such statements apart). THE CARD IS WHAT COUNTS. Prove the row's statement (the work); the ties are given (YtkoaeojdlanolaaGreatDoorTie.lean); close each card by the builder's one call (the guide's Derived/Test/ToyasCard.lean, 'card_holds'). Laid BY PROGRAM, IN A SANDBOX (cutbox-door.mjs). By AI agents, Wed Nov 11 2026. No macro, syntax, notation, axiom, sorry.
-/
import Derived.Test.YtkoaeojdlanolaaGreatDoorRows
import GoSem.ClaimSeven
namespace Go.Proofs.YtkoaeojdlanolaaGreatDoor
namespace Rows

/-- THE TIED CARD OF 'munchlaw.Checks'. -/
def checksCard : Claim7 := { stood := { row := checksRow, standIns := [], harness := (true, "69332089d8217e2dbd2aa56e864df98d125dae9e87c161b6c13b36f870207df2"), looks := true }, kinds := [], alts := [], goes := true, laidByText := true, laidKinds := [.data, .data, .data], laidTests := true, laidLooks := .later }
def ChecksCardSaid : Prop := Claim7.holds Tryz.pinned (.plain (OpenSpec.ofChange checksSpec)) checksCard

/-- THE TIED CARD OF 'munchlaw.Tags'. -/
def tagsCard : Claim7 := { stood := { row := tagsRow, standIns := [], harness := (true, "69332089d8217e2dbd2aa56e864df98d125dae9e87c161b6c13b36f870207df2"), looks := true }, kinds := [], alts := [], goes := true, laidByText := true, laidKinds := [.data, .data, .data], laidTests := true, laidLooks := .later }
def TagsCardSaid : Prop := Claim7.holds Tryz.pinned (.plain (OpenSpec.ofChange tagsSpec)) tagsCard

/-- THE SECOND FORM's CARD OF 'munchlaw.Checks'. -/
def checksUptoCard : Claim7 := { stood := { row := checksUptoRow, standIns := [], harness := (true, "69332089d8217e2dbd2aa56e864df98d125dae9e87c161b6c13b36f870207df2"), looks := true }, kinds := [], alts := [], goes := true, laidByText := true, laidKinds := [.data, .data, .data], laidTests := true, laidLooks := .later }
def ChecksUptoCardSaid : Prop := Claim7.holds Tryz.pinned (.plain (OpenSpec.upto checksSpec)) checksUptoCard

/-- THE SECOND FORM's CARD OF 'munchlaw.Tags'. -/
def tagsUptoCard : Claim7 := { stood := { row := tagsUptoRow, standIns := [], harness := (true, "69332089d8217e2dbd2aa56e864df98d125dae9e87c161b6c13b36f870207df2"), looks := true }, kinds := [], alts := [], goes := true, laidByText := true, laidKinds := [.data, .data, .data], laidTests := true, laidLooks := .later }
def TagsUptoCardSaid : Prop := Claim7.holds Tryz.pinned (.plain (OpenSpec.upto tagsSpec)) tagsUptoCard
end Rows
end Go.Proofs.YtkoaeojdlanolaaGreatDoor
