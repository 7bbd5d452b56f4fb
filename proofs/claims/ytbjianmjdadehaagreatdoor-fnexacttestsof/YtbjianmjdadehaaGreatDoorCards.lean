/-
  DERIVED. GIVEN WITH THE SEED: THE CARDS: each row of YtbjianmjdadehaaGreatDoorRows.lean that lists a variable, with what it lists TIED to the program's text (the seventh form; the later family's looks); each row that meets fmt, with fmt's text TOLD by the authors' own Lean function (tested against real Go, not proved from fmt's source: count such statements apart). THE CARD IS WHAT COUNTS. Prove the row's statement (the work); the ties are given (YtbjianmjdadehaaGreatDoorTie.lean); close each card by the builder's one call (the guide's Derived/Test/ToyasCard.lean, 'card_holds'). Laid BY PROGRAM, IN A SANDBOX (cutbox-door.mjs). By AI agents, Wed Nov 11 2026. No macro, syntax, notation, axiom, sorry.
-/
import Derived.Test.YtbjianmjdadehaaGreatDoorRows
import GoSem.ClaimSeven
namespace Go.Proofs.YtbjianmjdadehaaGreatDoor
namespace Rows

/-- THE TIED CARD OF 'laws.FnExactCheck'. -/
def fnExactCheckCard : Claim7 := { stood := { row := fnExactCheckRow, standIns := [], harness := (true, "2ea82dd0a169f132fbe2ac4086d9aa15a784f71b988146cdb984a1866f97fc6b"), looks := true }, kinds := [], alts := [], laidByText := true, laidKinds := [.handle, .data, .data, .data], laidTests := true, laidLooks := .later }
def FnExactCheckCardSaid : Prop := Claim7.holds Tryz.pinned (.plain (OpenSpec.ofChange fnExactCheckSpec)) fnExactCheckCard

/-- THE TIED CARD OF 'laws.FnExactTypesOf'. -/
def fnExactTypesOfCard : Claim7 := { stood := { row := fnExactTypesOfRow, standIns := [], harness := (true, "2ea82dd0a169f132fbe2ac4086d9aa15a784f71b988146cdb984a1866f97fc6b"), looks := true }, kinds := [], alts := [], laidByText := true, laidKinds := [.handle, .data, .data, .data], laidTests := true, laidLooks := .later }
def FnExactTypesOfCardSaid : Prop := Claim7.holds Tryz.pinned (.plain (OpenSpec.ofChange fnExactTypesOfSpec)) fnExactTypesOfCard

/-- THE TIED CARD OF 'laws.FnExactTestsOf'. -/
def fnExactTestsOfCard : Claim7 := { stood := { row := fnExactTestsOfRow, standIns := [], harness := (true, "2ea82dd0a169f132fbe2ac4086d9aa15a784f71b988146cdb984a1866f97fc6b"), looks := true }, kinds := [], alts := [], laidByText := true, laidKinds := [.handle, .data, .data, .data], laidTests := true, laidLooks := .later }
def FnExactTestsOfCardSaid : Prop := Claim7.holds Tryz.pinned (.plain (OpenSpec.ofChange fnExactTestsOfSpec)) fnExactTestsOfCard

/-- THE SECOND FORM's CARD OF 'laws.FnExactCheck'. -/
def fnExactCheckUptoCard : Claim7 := { stood := { row := fnExactCheckUptoRow, standIns := [], harness := (true, "2ea82dd0a169f132fbe2ac4086d9aa15a784f71b988146cdb984a1866f97fc6b"), looks := true }, kinds := [], alts := [], laidByText := true, laidKinds := [.handle, .data, .data, .data], laidTests := true, laidLooks := .later }
def FnExactCheckUptoCardSaid : Prop := Claim7.holds Tryz.pinned (.plain (OpenSpec.upto fnExactCheckSpec)) fnExactCheckUptoCard

/-- THE SECOND FORM's CARD OF 'laws.FnExactTypesOf'. -/
def fnExactTypesOfUptoCard : Claim7 := { stood := { row := fnExactTypesOfUptoRow, standIns := [], harness := (true, "2ea82dd0a169f132fbe2ac4086d9aa15a784f71b988146cdb984a1866f97fc6b"), looks := true }, kinds := [], alts := [], laidByText := true, laidKinds := [.handle, .data, .data, .data], laidTests := true, laidLooks := .later }
def FnExactTypesOfUptoCardSaid : Prop := Claim7.holds Tryz.pinned (.plain (OpenSpec.upto fnExactTypesOfSpec)) fnExactTypesOfUptoCard

/-- THE SECOND FORM's CARD OF 'laws.FnExactTestsOf'. -/
def fnExactTestsOfUptoCard : Claim7 := { stood := { row := fnExactTestsOfUptoRow, standIns := [], harness := (true, "2ea82dd0a169f132fbe2ac4086d9aa15a784f71b988146cdb984a1866f97fc6b"), looks := true }, kinds := [], alts := [], laidByText := true, laidKinds := [.handle, .data, .data, .data], laidTests := true, laidLooks := .later }
def FnExactTestsOfUptoCardSaid : Prop := Claim7.holds Tryz.pinned (.plain (OpenSpec.upto fnExactTestsOfSpec)) fnExactTestsOfUptoCard
end Rows
end Go.Proofs.YtbjianmjdadehaaGreatDoor
