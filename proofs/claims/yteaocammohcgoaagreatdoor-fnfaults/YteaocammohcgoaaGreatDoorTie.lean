/-
  DERIVED. GIVEN WITH THE SEED: THE PROGRAM's TIES (one call each: nine closed facts by the kernel) AND EACH ROW's TIE, after the 31st guide's Derived/Test/Toyas{Tie, Card}.lean. No idea stands in it: it is a product of the set-up. Laid BY PROGRAM, IN A SANDBOX (cutbox-door.mjs). By AI agents, Wed Nov 11 2026. No macro, syntax, notation, axiom, sorry.
-/
import Derived.Test.YteaocammohcgoaaGreatDoorRows
import Derived.LaidByTextLater
import Derived.SevenTiedAt
import Derived.LaidSub
import Derived.LaidOnce
namespace Go.Proofs.YteaocammohcgoaaGreatDoor
open Go
set_option maxRecDepth 100000
theorem seatTie1 : Tryz.prog.laidByTextLater [("errors.errorType", Rows.laid_errors_errorType), ("loop.example/g00135/impl.takenWords", Rows.laid_loop_example_g00135_impl_takenWords), ("loop.example/g00135/impl.kidForms", Rows.laid_loop_example_g00135_impl_kidForms), ("loop.example/g00135/impl.caseForms", Rows.laid_loop_example_g00135_impl_caseForms)] [.handle, .data, .data, .data] true :=
  Program.laidByTextLater_by_one 31 8 31 (by kernel_rfl) (by kernel_rfl) (by kernel_rfl) (by kernel_rfl) (by kernel_rfl) (by kernel_rfl) (fun _ _ => by kernel_rfl)
theorem noOwnUnsafe : Tryz.pinned.checked.prog.headLifts.contains "ownunsafe" = false := by kernel_rfl
theorem tie : Tryz.prog.laidByTextLater [("errors.errorType", Rows.laid_errors_errorType), ("loop.example/g00135/impl.takenWords", Rows.laid_loop_example_g00135_impl_takenWords), ("loop.example/g00135/impl.kidForms", Rows.laid_loop_example_g00135_impl_kidForms), ("loop.example/g00135/impl.caseForms", Rows.laid_loop_example_g00135_impl_caseForms)] [.handle, .data, .data, .data] true :=
  Program.laidByTextLater.sub seatTie1 ["errors.errorType", "loop.example/g00135/impl.takenWords", "loop.example/g00135/impl.kidForms", "loop.example/g00135/impl.caseForms"] (by kernel_rfl) (by kernel_rfl)
theorem fnChecks_row_tie : Rows.fnChecksRow.laidByTextAt .later Tryz.pinned [.handle, .data, .data, .data] true :=
  OpenClaim.laidByTextAt_later rfl rfl tie noOwnUnsafe
theorem fnFaults_row_tie : Rows.fnFaultsRow.laidByTextAt .later Tryz.pinned [.handle, .data, .data, .data] true :=
  OpenClaim.laidByTextAt_later rfl rfl tie noOwnUnsafe
theorem fnChecksUpto_row_tie : Rows.fnChecksUptoRow.laidByTextAt .later Tryz.pinned [.handle, .data, .data, .data] true :=
  OpenClaim.laidByTextAt_later rfl rfl tie noOwnUnsafe
theorem fnFaultsUpto_row_tie : Rows.fnFaultsUptoRow.laidByTextAt .later Tryz.pinned [.handle, .data, .data, .data] true :=
  OpenClaim.laidByTextAt_later rfl rfl tie noOwnUnsafe
end Go.Proofs.YteaocammohcgoaaGreatDoor
