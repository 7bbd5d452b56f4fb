/-
  DERIVED. GIVEN WITH THE SEED: THE CARDS: each row of YtjgbjahcnnjfpaaDoorRows.lean that lists a variable, with what it lists TIED to the program's text (the seventh form; the later family's looks); each row that meets fmt, with fmt's text TOLD by the authors' own Lean function (tested against real Go, not proved from fmt's source: count such statements apart). THE CARD IS WHAT COUNTS. Prove the row's statement (the work); the ties are given (YtjgbjahcnnjfpaaDoorTie.lean); close each card by the builder's one call (the guide's Derived/Test/ToyasCard.lean, 'card_holds'). Laid BY PROGRAM, IN A SANDBOX (cutbox-door.mjs). By AI agents, Wed Nov 11 2026. No macro, syntax, notation, axiom, sorry.
-/
import Derived.Test.YtjgbjahcnnjfpaaDoorRows
import GoSem.ClaimSeven
namespace Go.Proofs.YtjgbjahcnnjfpaaDoor
namespace Rows

/-- THE TIED CARD OF 'laws.FnExactSameSeen'. -/
def fnExactSameSeenCard : Claim7 := { stood := { row := fnExactSameSeenRow, standIns := [], harness := (true, "2379bd2768ad5980cf4b016b023f10b24aa543c5148b576bdb547aa842f1a689"), looks := false }, kinds := [], alts := [], laidByText := true, laidKinds := [.data, .data, .data], laidTests := true, laidLooks := .later }
def FnExactSameSeenCardSaid : Prop := Claim7.holds Tryd.pinned (.plain (OpenSpec.ofChange fnExactSameSeenSpec)) fnExactSameSeenCard

/-- THE TIED CARD OF 'laws.FnExactWovenOK'. -/
def fnExactWovenOKCard : Claim7 := { stood := { row := fnExactWovenOKRow, standIns := [], harness := (true, "2379bd2768ad5980cf4b016b023f10b24aa543c5148b576bdb547aa842f1a689"), looks := false }, kinds := [], alts := [], laidByText := true, laidKinds := [.data, .data, .data], laidTests := true, laidLooks := .later }
def FnExactWovenOKCardSaid : Prop := Claim7.holds Tryd.pinned (.plain (OpenSpec.ofChange fnExactWovenOKSpec)) fnExactWovenOKCard

/-- THE TIED CARD OF 'laws.FnExactChoose'. -/
def fnExactChooseCard : Claim7 := { stood := { row := fnExactChooseRow, standIns := [], harness := (true, "2379bd2768ad5980cf4b016b023f10b24aa543c5148b576bdb547aa842f1a689"), looks := false }, kinds := [], alts := [], laidByText := true, laidKinds := [.data, .data, .data], laidTests := true, laidLooks := .later }
def FnExactChooseCardSaid : Prop := Claim7.holds Tryd.pinned (.plain (OpenSpec.ofChange fnExactChooseSpec)) fnExactChooseCard

/-- THE TIED CARD OF 'laws.FnExactPicks'. -/
def fnExactPicksCard : Claim7 := { stood := { row := fnExactPicksRow, standIns := [], harness := (true, "2379bd2768ad5980cf4b016b023f10b24aa543c5148b576bdb547aa842f1a689"), looks := false }, kinds := [], alts := [], laidByText := true, laidKinds := [.data, .data, .data], laidTests := true, laidLooks := .later }
def FnExactPicksCardSaid : Prop := Claim7.holds Tryd.pinned (.plain (OpenSpec.ofChange fnExactPicksSpec)) fnExactPicksCard

/-- THE SECOND FORM's CARD OF 'laws.FnExactSameSeen'. -/
def fnExactSameSeenUptoCard : Claim7 := { stood := { row := fnExactSameSeenUptoRow, standIns := [], harness := (true, "2379bd2768ad5980cf4b016b023f10b24aa543c5148b576bdb547aa842f1a689"), looks := false }, kinds := [], alts := [], laidByText := true, laidKinds := [.data, .data, .data], laidTests := true, laidLooks := .later }
def FnExactSameSeenUptoCardSaid : Prop := Claim7.holds Tryd.pinned (.plain (OpenSpec.upto fnExactSameSeenSpec)) fnExactSameSeenUptoCard

/-- THE SECOND FORM's CARD OF 'laws.FnExactWovenOK'. -/
def fnExactWovenOKUptoCard : Claim7 := { stood := { row := fnExactWovenOKUptoRow, standIns := [], harness := (true, "2379bd2768ad5980cf4b016b023f10b24aa543c5148b576bdb547aa842f1a689"), looks := false }, kinds := [], alts := [], laidByText := true, laidKinds := [.data, .data, .data], laidTests := true, laidLooks := .later }
def FnExactWovenOKUptoCardSaid : Prop := Claim7.holds Tryd.pinned (.plain (OpenSpec.upto fnExactWovenOKSpec)) fnExactWovenOKUptoCard

/-- THE SECOND FORM's CARD OF 'laws.FnExactChoose'. -/
def fnExactChooseUptoCard : Claim7 := { stood := { row := fnExactChooseUptoRow, standIns := [], harness := (true, "2379bd2768ad5980cf4b016b023f10b24aa543c5148b576bdb547aa842f1a689"), looks := false }, kinds := [], alts := [], laidByText := true, laidKinds := [.data, .data, .data], laidTests := true, laidLooks := .later }
def FnExactChooseUptoCardSaid : Prop := Claim7.holds Tryd.pinned (.plain (OpenSpec.upto fnExactChooseSpec)) fnExactChooseUptoCard

/-- THE SECOND FORM's CARD OF 'laws.FnExactPicks'. -/
def fnExactPicksUptoCard : Claim7 := { stood := { row := fnExactPicksUptoRow, standIns := [], harness := (true, "2379bd2768ad5980cf4b016b023f10b24aa543c5148b576bdb547aa842f1a689"), looks := false }, kinds := [], alts := [], laidByText := true, laidKinds := [.data, .data, .data], laidTests := true, laidLooks := .later }
def FnExactPicksUptoCardSaid : Prop := Claim7.holds Tryd.pinned (.plain (OpenSpec.upto fnExactPicksSpec)) fnExactPicksUptoCard
end Rows
end Go.Proofs.YtjgbjahcnnjfpaaDoor
