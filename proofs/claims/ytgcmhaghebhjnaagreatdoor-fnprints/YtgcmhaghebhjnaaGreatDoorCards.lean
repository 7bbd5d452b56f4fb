/-
  DERIVED. GIVEN WITH THE SEED: THE CARDS: each row of YtgcmhaghebhjnaaGreatDoorRows.lean that lists a variable, with what it lists TIED to the program's text (the seventh form; the later family's looks); each row that meets fmt, with fmt's text TOLD by the authors' own Lean function (tested against real Go, not proved from fmt's source: count such statements apart). THE CARD IS WHAT COUNTS. Prove the row's statement (the work); the ties are given (YtgcmhaghebhjnaaGreatDoorTie.lean); close each card by the builder's one call (the guide's Derived/Test/ToyasCard.lean, 'card_holds'). Laid BY PROGRAM, IN A SANDBOX (cutbox-door.mjs). By AI agents, Wed Nov 11 2026. No macro, syntax, notation, axiom, sorry.
-/
import Derived.Test.YtgcmhaghebhjnaaGreatDoorRows
import GoSem.ClaimSeven
namespace Go.Proofs.YtgcmhaghebhjnaaGreatDoor
namespace Rows

/-- THE TIED CARD OF 'laws.FnPrints'. -/
def fnPrintsCard : Claim7 := { stood := { row := fnPrintsRow, standIns := [], harness := (true, "13f2362adf091ae2eeb2c08f7c9b4a74ff167f006a62c7ea1f2548bd60d8dd82"), looks := true }, kinds := [], alts := [], laidByText := true, laidKinds := [.data, .data, .data, .sentinel, .sentinel, .data, .data, .data, .data, .data], laidTests := true, laidLooks := .later }
def FnPrintsCardSaid : Prop := Claim7.holds Tryz.pinned (.plain (OpenSpec.ofChange fnPrintsSpec)) fnPrintsCard

/-- THE SECOND FORM's CARD OF 'laws.FnPrints'. -/
def fnPrintsUptoCard : Claim7 := { stood := { row := fnPrintsUptoRow, standIns := [], harness := (true, "13f2362adf091ae2eeb2c08f7c9b4a74ff167f006a62c7ea1f2548bd60d8dd82"), looks := true }, kinds := [], alts := [], laidByText := true, laidKinds := [.data, .data, .data, .sentinel, .sentinel, .data, .data, .data, .data, .data], laidTests := true, laidLooks := .later }
def FnPrintsUptoCardSaid : Prop := Claim7.holds Tryz.pinned (.plain (OpenSpec.upto fnPrintsSpec)) fnPrintsUptoCard
end Rows
end Go.Proofs.YtgcmhaghebhjnaaGreatDoor
