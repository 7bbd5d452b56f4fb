/-
  DERIVED. GIVEN WITH THE SEED: THE CARDS: each row of YtnangkijokficaaDoorRows.lean that lists a variable, with what it lists TIED to the program's text (the seventh form; the later family's looks); each row that meets fmt, with fmt's text TOLD by the authors' own Lean function (tested against real Go, not proved from fmt's source: count such statements apart). THE CARD IS WHAT COUNTS. Prove the row's statement (the work); the ties are given (YtnangkijokficaaDoorTie.lean); close each card by the builder's one call (the guide's Derived/Test/ToyasCard.lean, 'card_holds'). Laid BY PROGRAM, IN A SANDBOX (cutbox-door.mjs). By AI agents, Wed Nov 11 2026. No macro, syntax, notation, axiom, sorry.
-/
import Derived.Test.YtnangkijokficaaDoorRows
import GoSem.ClaimSeven
namespace Go.Proofs.YtnangkijokficaaDoor
namespace Rows

/-- THE TIED CARD OF 'laws.FnExactDiffer'. -/
def fnExactDifferCard : Claim7 := { stood := { row := fnExactDifferRow, standIns := [], harness := (true, "50ac9a8d5a6f647f0c517b6f5eebc0cd5cc76d7ca89879ac786d1db2a6cd49ed"), looks := false }, kinds := [], alts := [], laidByText := true, laidKinds := [.data, .data, .data], laidTests := true, laidLooks := .later }
def FnExactDifferCardSaid : Prop := Claim7.holds Tryd.pinned (.plain (OpenSpec.ofChange fnExactDifferSpec)) fnExactDifferCard

/-- THE TIED CARD OF 'laws.FnExactNodeAt'. -/
def fnExactNodeAtCard : Claim7 := { stood := { row := fnExactNodeAtRow, standIns := [], harness := (true, "50ac9a8d5a6f647f0c517b6f5eebc0cd5cc76d7ca89879ac786d1db2a6cd49ed"), looks := false }, kinds := [], alts := [], laidByText := true, laidKinds := [.data, .data, .data], laidTests := true, laidLooks := .later }
def FnExactNodeAtCardSaid : Prop := Claim7.holds Tryd.pinned (.plain (OpenSpec.ofChange fnExactNodeAtSpec)) fnExactNodeAtCard

/-- THE SECOND FORM's CARD OF 'laws.FnExactDiffer'. -/
def fnExactDifferUptoCard : Claim7 := { stood := { row := fnExactDifferUptoRow, standIns := [], harness := (true, "50ac9a8d5a6f647f0c517b6f5eebc0cd5cc76d7ca89879ac786d1db2a6cd49ed"), looks := false }, kinds := [], alts := [], laidByText := true, laidKinds := [.data, .data, .data], laidTests := true, laidLooks := .later }
def FnExactDifferUptoCardSaid : Prop := Claim7.holds Tryd.pinned (.plain (OpenSpec.upto fnExactDifferSpec)) fnExactDifferUptoCard

/-- THE SECOND FORM's CARD OF 'laws.FnExactNodeAt'. -/
def fnExactNodeAtUptoCard : Claim7 := { stood := { row := fnExactNodeAtUptoRow, standIns := [], harness := (true, "50ac9a8d5a6f647f0c517b6f5eebc0cd5cc76d7ca89879ac786d1db2a6cd49ed"), looks := false }, kinds := [], alts := [], laidByText := true, laidKinds := [.data, .data, .data], laidTests := true, laidLooks := .later }
def FnExactNodeAtUptoCardSaid : Prop := Claim7.holds Tryd.pinned (.plain (OpenSpec.upto fnExactNodeAtSpec)) fnExactNodeAtUptoCard
end Rows
end Go.Proofs.YtnangkijokficaaDoor
