/-
  NARROWER THAN 'FOR EVERY INPUT', by the rows' own cells (each row's printed sentence says how): FnChecks: laid · FnFaults: laid.
  DERIVED. THE GIVEN ROWS OF THIS SEAT. 2 by the template 'for every input the law returns true; each argument reads behind the call as it read before'; 0 by the template 'total and deterministic' (their statements: YteaocammohcgoaaGreatDoorTotals.lean).
  GIVEN WITH THE SEED: the statements are not yours to turn. If you find one false, say at which input.
  Laid BY PROGRAM, IN A SANDBOX (cutbox-rows.mjs): the forced cells as the released guide's own fill.sh prints them over the translation 51cb3709e712c8ff… (all of the seat's roots in one cut). By AI agents, Wed Nov 11 2026. No macro, syntax, notation, axiom, sorry.
-/
import Derived.Test.YteaocammohcgoaaGreatDoorChecked
import GoSem.Claim
import GoSem.ClaimJoined
import GoSem.ClaimMapViews
import Derived.JoinedTies
import Derived.KernelRfl
namespace Go.Proofs.YteaocammohcgoaaGreatDoor
/- THE CELL 'sum', in the pinned program and in every row, IS THE sha256 OF THE DUMP (.gsa) THAT YteaocammohcgoaaGreatDoorProg.lean LOADS. Nothing in Lean hashes anything: it is a label: what it is worth is what the hold of that sum in a sandbox is worth. -/
noncomputable def Tryz.pinned : Pinned := { name := "yteaocammohcgoaagreatdoor", sum := "51cb3709e712c8ff17dc9e1fd15e75fa23d18fef544d55d79e64af4cfe684d0c", checked := Tryz.checked }
namespace Rows
def none {H : Type} : Left H := { results := [], args := [] }

/- WHAT THE LISTED PACKAGE-LEVEL VARIABLES READ AS WHEN THE CALL BEGINS. Each datum BY PROGRAM (the guide's laid-datum.mjs) off the statement by which the dump's own 'gosem.cut.vars' lays the variable. In a bare row this is a premise. The card (YteaocammohcgoaaGreatDoorCards.lean) ties it to the program's text. -/
def laid_errors_errorType {H : Type} : DataW H := .iface "internal/reflectlite.rtype" (.agg [.ptr (.lit (.string [101, 114, 114, 111, 114]))])
def laid_loop_example_g00135_impl_takenWords {H : Type} : DataW H := .agg [.lit (.string [102, 117, 110, 99]), .lit (.string [105, 102]), .lit (.string [101, 108, 115, 101]), .lit (.string [102, 111, 114]), .lit (.string [114, 101, 116, 117, 114, 110]), .lit (.string [103, 111]), .lit (.string [100, 101, 102, 101, 114]), .lit (.string [115, 101, 108, 101, 99, 116]), .lit (.string [99, 97, 115, 101]), .lit (.string [100, 101, 102, 97, 117, 108, 116]), .lit (.string [98, 114, 101, 97, 107]), .lit (.string [99, 111, 110, 116, 105, 110, 117, 101]), .lit (.string [99, 104, 97, 110]), .lit (.string [105, 110, 116]), .lit (.string [98, 111, 111, 108]), .lit (.string [116, 114, 117, 101]), .lit (.string [102, 97, 108, 115, 101]), .lit (.string [109, 97, 107, 101]), .lit (.string [99, 108, 111, 115, 101]), .lit (.string [112, 114, 105, 110, 116]), .lit (.string [112, 97, 110, 105, 99])]
def laid_loop_example_g00135_impl_kidForms {H : Type} : DataW H := .agg [.lit (.string []), .lit (.string [102, 42]), .lit (.string [112, 42, 98]), .lit (.string []), .lit (.string [115, 42]), .lit (.string [101]), .lit (.string [101]), .lit (.string []), .lit (.string [101, 101]), .lit (.string [97]), .lit (.string [101, 98, 111, 63]), .lit (.string [101, 63, 98]), .lit (.string [101, 63]), .lit (.string [99]), .lit (.string [99]), .lit (.string [119, 42]), .lit (.string []), .lit (.string []), .lit (.string []), .lit (.string [101]), .lit (.string [101]), .lit (.string [101]), .lit (.string []), .lit (.string []), .lit (.string []), .lit (.string [101, 42]), .lit (.string [101, 63]), .lit (.string [101]), .lit (.string [101, 101]), .lit (.string [101])]
def laid_loop_example_g00135_impl_caseForms {H : Type} : DataW H := .agg [.lit (.string [98]), .lit (.string [101, 98]), .lit (.string [101, 101, 98])]

/-- 'laws.FnChecks': WHATEVER THE INPUT: true; the input reads as it did. -/
def fnChecksSpec : ChangeSpec := { name := "fnChecks", vars := ["loop.example/g00135/impl.takenWords", "loop.example/g00135/impl.caseForms", "loop.example/g00135/impl.kidForms"], fn := fun _ => fun
  | [d, g1, g2, g3] => { results := [.lit (.bool true)], args := [d], vars := [g1, g2, g3] }
  | _ => none }
def fnChecksRow : OpenClaim := { program := "yteaocammohcgoaagreatdoor", sum := "51cb3709e712c8ff17dc9e1fd15e75fa23d18fef544d55d79e64af4cfe684d0c", func := "loop.example/g00135/laws.FnChecks", spec := "fnChecks", inPlace := ["internal/reflectlite.ValueOf", "(internal/reflectlite.Value).Type", "(internal/reflectlite.Value).IsNil", "internal/reflectlite.TypeOf", "(internal/reflectlite.Value).Elem", "(internal/reflectlite.Value).Set"], unfollowed := true, recurses := true, named := ["loop.example/g00135/impl.takenWords", "loop.example/g00135/impl.caseForms", "loop.example/g00135/impl.kidForms", "errors.errorType"], apart := false, laid := [("errors.errorType", laid_errors_errorType), ("loop.example/g00135/impl.takenWords", laid_loop_example_g00135_impl_takenWords), ("loop.example/g00135/impl.kidForms", laid_loop_example_g00135_impl_kidForms), ("loop.example/g00135/impl.caseForms", laid_loop_example_g00135_impl_caseForms)] }
def FnChecksSaid : Prop := fnChecksRow.holds Tryz.pinned (OpenSpec.ofChange fnChecksSpec)

/-- ITS FALSE NEIGHBOUR: 'it returns false'. Refute it at one input. -/
def fnChecksWrong : ChangeSpec := { name := "fnChecks", vars := ["loop.example/g00135/impl.takenWords", "loop.example/g00135/impl.caseForms", "loop.example/g00135/impl.kidForms"], fn := fun _ => fun
  | [d, g1, g2, g3] => { results := [.lit (.bool false)], args := [d], vars := [g1, g2, g3] }
  | _ => none }
def FnChecksWrongFalsely : Prop := fnChecksRow.holds Tryz.pinned (OpenSpec.ofChange fnChecksWrong)

/-- 'laws.FnFaults': WHATEVER THE INPUT: true; the input reads as it did. -/
def fnFaultsSpec : ChangeSpec := { name := "fnFaults", vars := ["loop.example/g00135/impl.takenWords", "loop.example/g00135/impl.caseForms", "loop.example/g00135/impl.kidForms"], fn := fun _ => fun
  | [d, g1, g2, g3] => { results := [.lit (.bool true)], args := [d], vars := [g1, g2, g3] }
  | _ => none }
def fnFaultsRow : OpenClaim := { program := "yteaocammohcgoaagreatdoor", sum := "51cb3709e712c8ff17dc9e1fd15e75fa23d18fef544d55d79e64af4cfe684d0c", func := "loop.example/g00135/laws.FnFaults", spec := "fnFaults", inPlace := ["internal/reflectlite.ValueOf", "(internal/reflectlite.Value).Type", "(internal/reflectlite.Value).IsNil", "internal/reflectlite.TypeOf", "(internal/reflectlite.Value).Elem", "(internal/reflectlite.Value).Set"], unfollowed := true, recurses := true, named := ["loop.example/g00135/impl.takenWords", "loop.example/g00135/impl.caseForms", "loop.example/g00135/impl.kidForms", "errors.errorType"], apart := false, laid := [("errors.errorType", laid_errors_errorType), ("loop.example/g00135/impl.takenWords", laid_loop_example_g00135_impl_takenWords), ("loop.example/g00135/impl.kidForms", laid_loop_example_g00135_impl_kidForms), ("loop.example/g00135/impl.caseForms", laid_loop_example_g00135_impl_caseForms)] }
def FnFaultsSaid : Prop := fnFaultsRow.holds Tryz.pinned (OpenSpec.ofChange fnFaultsSpec)

/-- ITS FALSE NEIGHBOUR: 'it returns false'. Refute it at one input. -/
def fnFaultsWrong : ChangeSpec := { name := "fnFaults", vars := ["loop.example/g00135/impl.takenWords", "loop.example/g00135/impl.caseForms", "loop.example/g00135/impl.kidForms"], fn := fun _ => fun
  | [d, g1, g2, g3] => { results := [.lit (.bool false)], args := [d], vars := [g1, g2, g3] }
  | _ => none }
def FnFaultsWrongFalsely : Prop := fnFaultsRow.holds Tryz.pinned (OpenSpec.ofChange fnFaultsWrong)

/- THE SECOND FORM. 'bulk': how many values and letters a reading holds, each counted each time it is reached (what is shared counts as often as it is met; a slice's spare places count too). A statement '..UptoSaid' is the law's where the arguments, and the package variables that the reading takes, are together of bulk at most 1048576: NARROWER than '..Said'. Prove '..Said' where nothing that the law and all that it calls make is longer than what came in: it says more and counts as full. Else prove '..UptoSaid'. A law counts once. -/
mutual
def uptoBulk {H : Type} : DataW H → Nat
  | .lit (.string bytes) => bytes.length + 1
  | .lit _ => 1
  | .nil => 1
  | .ptr d => uptoBulk d + 1
  | .slice elems spare => uptoBulkAll elems + uptoBulkAll spare + 1
  | .agg parts => uptoBulkAll parts + 1
  | .iface _ d => uptoBulk d + 1
  | .map entries => uptoBulkEntries entries + 1
  | .held _ => 1
def uptoBulkAll {H : Type} : List (DataW H) → Nat
  | [] => 0
  | d :: r => uptoBulk d + uptoBulkAll r
def uptoBulkEntries {H : Type} : List (Lit × DataW H) → Nat
  | [] => 0
  | x :: r => uptoBulkEntry x + uptoBulkEntries r
def uptoBulkEntry {H : Type} : Lit × DataW H → Nat
  | (.string bytes, d) => bytes.length + uptoBulk d + 1
  | (_, d) => uptoBulk d + 1
 end
def uptoSmall : (H : Type) → List (DataW H) → Bool := fun _ ds => decide (uptoBulkAll ds ≤ 1048576)
def OpenSpec.upto (s : _root_.Go.ChangeSpec) : _root_.Go.OpenSpec := { _root_.Go.OpenSpec.ofChange s with cond := some uptoSmall }

/-- 'laws.FnChecks', WHERE WHAT IT READS IS OF BULK AT MOST 1048576: true; the input reads as it did. -/
def fnChecksUptoRow : OpenClaim := { program := "yteaocammohcgoaagreatdoor", sum := "51cb3709e712c8ff17dc9e1fd15e75fa23d18fef544d55d79e64af4cfe684d0c", func := "loop.example/g00135/laws.FnChecks", spec := "fnChecks", inPlace := ["internal/reflectlite.ValueOf", "(internal/reflectlite.Value).Type", "(internal/reflectlite.Value).IsNil", "internal/reflectlite.TypeOf", "(internal/reflectlite.Value).Elem", "(internal/reflectlite.Value).Set"], unfollowed := true, recurses := true, named := ["loop.example/g00135/impl.takenWords", "loop.example/g00135/impl.caseForms", "loop.example/g00135/impl.kidForms", "errors.errorType"], apart := false, laid := [("errors.errorType", laid_errors_errorType), ("loop.example/g00135/impl.takenWords", laid_loop_example_g00135_impl_takenWords), ("loop.example/g00135/impl.kidForms", laid_loop_example_g00135_impl_kidForms), ("loop.example/g00135/impl.caseForms", laid_loop_example_g00135_impl_caseForms)], narrowed := true }
def FnChecksUptoSaid : Prop := fnChecksUptoRow.holds Tryz.pinned (OpenSpec.upto fnChecksSpec)

/-- 'laws.FnFaults', WHERE WHAT IT READS IS OF BULK AT MOST 1048576: true; the input reads as it did. -/
def fnFaultsUptoRow : OpenClaim := { program := "yteaocammohcgoaagreatdoor", sum := "51cb3709e712c8ff17dc9e1fd15e75fa23d18fef544d55d79e64af4cfe684d0c", func := "loop.example/g00135/laws.FnFaults", spec := "fnFaults", inPlace := ["internal/reflectlite.ValueOf", "(internal/reflectlite.Value).Type", "(internal/reflectlite.Value).IsNil", "internal/reflectlite.TypeOf", "(internal/reflectlite.Value).Elem", "(internal/reflectlite.Value).Set"], unfollowed := true, recurses := true, named := ["loop.example/g00135/impl.takenWords", "loop.example/g00135/impl.caseForms", "loop.example/g00135/impl.kidForms", "errors.errorType"], apart := false, laid := [("errors.errorType", laid_errors_errorType), ("loop.example/g00135/impl.takenWords", laid_loop_example_g00135_impl_takenWords), ("loop.example/g00135/impl.kidForms", laid_loop_example_g00135_impl_kidForms), ("loop.example/g00135/impl.caseForms", laid_loop_example_g00135_impl_caseForms)], narrowed := true }
def FnFaultsUptoSaid : Prop := fnFaultsUptoRow.holds Tryz.pinned (OpenSpec.upto fnFaultsSpec)

end Rows
end Go.Proofs.YteaocammohcgoaaGreatDoor
