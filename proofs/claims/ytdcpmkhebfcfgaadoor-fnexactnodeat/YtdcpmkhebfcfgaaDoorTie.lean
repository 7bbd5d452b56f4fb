/-
  DERIVED. GIVEN WITH THE SEED: THE PROGRAM's TIES (one call each: nine closed facts by the kernel) AND EACH ROW's TIE, after the 31st guide's Derived/Test/Toyas{Tie, Card}.lean. No idea stands in it: it is a product of the set-up. Laid BY PROGRAM, IN A SANDBOX (cutbox-door.mjs). By AI agents, Wed Nov 11 2026. No macro, syntax, notation, axiom, sorry.
-/
import Derived.Test.YtdcpmkhebfcfgaaDoorRows
import Derived.LaidByTextLater
import Derived.SevenTiedAt
import Derived.LaidSub
import Derived.LaidOnce
namespace Go.Proofs.YtdcpmkhebfcfgaaDoor
open Go
set_option maxRecDepth 100000
theorem seatTie1 : Tryd.prog.laidByTextLater [("loop.example/g00135/impl.takenWords", Rows.laid_loop_example_g00135_impl_takenWords), ("loop.example/g00135/impl.kidForms", Rows.laid_loop_example_g00135_impl_kidForms), ("loop.example/g00135/impl.caseForms", Rows.laid_loop_example_g00135_impl_caseForms)] [.data, .data, .data] true :=
  Program.laidByTextLater_by_one 24 8 31 (by kernel_rfl) (by kernel_rfl) (by kernel_rfl) (by kernel_rfl) (by kernel_rfl) (by kernel_rfl) (fun _ _ => by kernel_rfl)
theorem noOwnUnsafe : Tryd.pinned.checked.prog.headLifts.contains "ownunsafe" = false := by kernel_rfl
theorem tie : Tryd.prog.laidByTextLater [("loop.example/g00135/impl.takenWords", Rows.laid_loop_example_g00135_impl_takenWords), ("loop.example/g00135/impl.kidForms", Rows.laid_loop_example_g00135_impl_kidForms), ("loop.example/g00135/impl.caseForms", Rows.laid_loop_example_g00135_impl_caseForms)] [.data, .data, .data] true :=
  Program.laidByTextLater.sub seatTie1 ["loop.example/g00135/impl.takenWords", "loop.example/g00135/impl.kidForms", "loop.example/g00135/impl.caseForms"] (by kernel_rfl) (by kernel_rfl)
theorem fnExactTreeOK_row_tie : Rows.fnExactTreeOKRow.laidByTextAt .later Tryd.pinned [.data, .data, .data] true :=
  OpenClaim.laidByTextAt_later rfl rfl tie noOwnUnsafe
theorem fnExactDiffer_row_tie : Rows.fnExactDifferRow.laidByTextAt .later Tryd.pinned [.data, .data, .data] true :=
  OpenClaim.laidByTextAt_later rfl rfl tie noOwnUnsafe
theorem fnExactNodeAt_row_tie : Rows.fnExactNodeAtRow.laidByTextAt .later Tryd.pinned [.data, .data, .data] true :=
  OpenClaim.laidByTextAt_later rfl rfl tie noOwnUnsafe
theorem fnExactTreeOKUpto_row_tie : Rows.fnExactTreeOKUptoRow.laidByTextAt .later Tryd.pinned [.data, .data, .data] true :=
  OpenClaim.laidByTextAt_later rfl rfl tie noOwnUnsafe
theorem fnExactDifferUpto_row_tie : Rows.fnExactDifferUptoRow.laidByTextAt .later Tryd.pinned [.data, .data, .data] true :=
  OpenClaim.laidByTextAt_later rfl rfl tie noOwnUnsafe
theorem fnExactNodeAtUpto_row_tie : Rows.fnExactNodeAtUptoRow.laidByTextAt .later Tryd.pinned [.data, .data, .data] true :=
  OpenClaim.laidByTextAt_later rfl rfl tie noOwnUnsafe
end Go.Proofs.YtdcpmkhebfcfgaaDoor
