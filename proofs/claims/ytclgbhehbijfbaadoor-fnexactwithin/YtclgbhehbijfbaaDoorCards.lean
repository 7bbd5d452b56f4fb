/-
  DERIVED. GIVEN WITH THE SEED: THE CARDS: each row of YtclgbhehbijfbaaDoorRows.lean that lists a variable, with what it lists TIED to the program's text (the seventh form; the later family's looks); each row that meets fmt, with fmt's text TOLD by the authors' own Lean function (tested against real Go, not proved from fmt's source: count such statements apart). THE CARD IS WHAT COUNTS. Prove the row's statement (the work); the ties are given (YtclgbhehbijfbaaDoorTie.lean); close each card by the builder's one call (the guide's Derived/Test/ToyasCard.lean, 'card_holds'). Laid BY PROGRAM, IN A SANDBOX (cutbox-door.mjs). By AI agents, Wed Nov 11 2026. No macro, syntax, notation, axiom, sorry.
-/
import Derived.Test.YtclgbhehbijfbaaDoorRows
import GoSem.ClaimSeven
namespace Go.Proofs.YtclgbhehbijfbaaDoor
namespace Rows

/-- THE TIED CARD OF 'laws.FnExactSameSeen'. -/
def fnExactSameSeenCard : Claim7 := { stood := { row := fnExactSameSeenRow, standIns := [], harness := (true, "fc428e478933b49dc3bef05b74e9c04c83cda9586136a5f4bc9b7de09e69f9b9"), looks := false }, kinds := [], alts := [], laidByText := true, laidKinds := [.data, .data, .data], laidTests := true, laidLooks := .later }
def FnExactSameSeenCardSaid : Prop := Claim7.holds Tryd.pinned (.plain (OpenSpec.ofChange fnExactSameSeenSpec)) fnExactSameSeenCard

/-- THE TIED CARD OF 'laws.FnExactWithin'. -/
def fnExactWithinCard : Claim7 := { stood := { row := fnExactWithinRow, standIns := [], harness := (true, "fc428e478933b49dc3bef05b74e9c04c83cda9586136a5f4bc9b7de09e69f9b9"), looks := false }, kinds := [], alts := [], laidByText := true, laidKinds := [.data, .data, .data], laidTests := true, laidLooks := .later }
def FnExactWithinCardSaid : Prop := Claim7.holds Tryd.pinned (.plain (OpenSpec.ofChange fnExactWithinSpec)) fnExactWithinCard

/-- THE SECOND FORM's CARD OF 'laws.FnExactSameSeen'. -/
def fnExactSameSeenUptoCard : Claim7 := { stood := { row := fnExactSameSeenUptoRow, standIns := [], harness := (true, "fc428e478933b49dc3bef05b74e9c04c83cda9586136a5f4bc9b7de09e69f9b9"), looks := false }, kinds := [], alts := [], laidByText := true, laidKinds := [.data, .data, .data], laidTests := true, laidLooks := .later }
def FnExactSameSeenUptoCardSaid : Prop := Claim7.holds Tryd.pinned (.plain (OpenSpec.upto fnExactSameSeenSpec)) fnExactSameSeenUptoCard

/-- THE SECOND FORM's CARD OF 'laws.FnExactWithin'. -/
def fnExactWithinUptoCard : Claim7 := { stood := { row := fnExactWithinUptoRow, standIns := [], harness := (true, "fc428e478933b49dc3bef05b74e9c04c83cda9586136a5f4bc9b7de09e69f9b9"), looks := false }, kinds := [], alts := [], laidByText := true, laidKinds := [.data, .data, .data], laidTests := true, laidLooks := .later }
def FnExactWithinUptoCardSaid : Prop := Claim7.holds Tryd.pinned (.plain (OpenSpec.upto fnExactWithinSpec)) fnExactWithinUptoCard
end Rows
end Go.Proofs.YtclgbhehbijfbaaDoor
