/-
  NARROWER THAN 'FOR EVERY INPUT', by the rows' own cells (each row's printed sentence says how): FnExactSameSeen: laid · FnExactWovenOK: loops, laid · FnExactChoose: loops, laid · FnExactPicks: loops, laid.
  DERIVED. THE GIVEN ROWS OF THIS SEAT. 4 by the template 'for every input the law returns true; each argument reads behind the call as it read before'; 0 by the template 'total and deterministic' (their statements: YtjgbjahcnnjfpaaDoorTotals.lean).
  GIVEN WITH THE SEED: the statements are not yours to turn. If you find one false, say at which input.
  Laid BY PROGRAM, IN A SANDBOX (cutbox-rows.mjs): the forced cells as the released guide's own fill.sh prints them over the translation d0b33569dfd9d9d7… (all of the seat's roots in one cut). By AI agents, Wed Nov 11 2026. No macro, syntax, notation, axiom, sorry.
-/
import Derived.Test.YtjgbjahcnnjfpaaDoorChecked
import GoSem.Claim
import GoSem.ClaimJoined
import GoSem.ClaimMapViews
import Derived.JoinedTies
import Derived.KernelRfl
namespace Go.Proofs.YtjgbjahcnnjfpaaDoor
/- THE CELL 'sum', in the pinned program and in every row, IS THE sha256 OF THE DUMP (.gsa) THAT YtjgbjahcnnjfpaaDoorProg.lean LOADS. Nothing in Lean hashes anything: it is a label: what it is worth is what the hold of that sum in a sandbox is worth. -/
noncomputable def Tryd.pinned : Pinned := { name := "ytjgbjahcnnjfpaadoor", sum := "d0b33569dfd9d9d7a5e460368a227ed89b2e7bb4c8e61800d75e222618d67860", checked := Tryd.checked }
namespace Rows
def none {H : Type} : Left H := { results := [], args := [] }

/- WHAT THE LISTED PACKAGE-LEVEL VARIABLES READ AS WHEN THE CALL BEGINS. Each datum BY PROGRAM (the guide's laid-datum.mjs) off the statement by which the dump's own 'gosem.cut.vars' lays the variable. In a bare row this is a premise. The card (YtjgbjahcnnjfpaaDoorCards.lean) ties it to the program's text. -/
def laid_math_bits_deBruijn32tab {H : Type} : DataW H := .agg [.lit (.int .u8 0), .lit (.int .u8 1), .lit (.int .u8 28), .lit (.int .u8 2), .lit (.int .u8 29), .lit (.int .u8 14), .lit (.int .u8 24), .lit (.int .u8 3), .lit (.int .u8 30), .lit (.int .u8 22), .lit (.int .u8 20), .lit (.int .u8 15), .lit (.int .u8 25), .lit (.int .u8 17), .lit (.int .u8 4), .lit (.int .u8 8), .lit (.int .u8 31), .lit (.int .u8 27), .lit (.int .u8 13), .lit (.int .u8 23), .lit (.int .u8 21), .lit (.int .u8 19), .lit (.int .u8 16), .lit (.int .u8 7), .lit (.int .u8 26), .lit (.int .u8 12), .lit (.int .u8 18), .lit (.int .u8 6), .lit (.int .u8 11), .lit (.int .u8 5), .lit (.int .u8 10), .lit (.int .u8 9)]
def laid_math_bits_deBruijn64tab {H : Type} : DataW H := .agg [.lit (.int .u8 0), .lit (.int .u8 1), .lit (.int .u8 56), .lit (.int .u8 2), .lit (.int .u8 57), .lit (.int .u8 49), .lit (.int .u8 28), .lit (.int .u8 3), .lit (.int .u8 61), .lit (.int .u8 58), .lit (.int .u8 42), .lit (.int .u8 50), .lit (.int .u8 38), .lit (.int .u8 29), .lit (.int .u8 17), .lit (.int .u8 4), .lit (.int .u8 62), .lit (.int .u8 47), .lit (.int .u8 59), .lit (.int .u8 36), .lit (.int .u8 45), .lit (.int .u8 43), .lit (.int .u8 51), .lit (.int .u8 22), .lit (.int .u8 53), .lit (.int .u8 39), .lit (.int .u8 33), .lit (.int .u8 30), .lit (.int .u8 24), .lit (.int .u8 18), .lit (.int .u8 12), .lit (.int .u8 5), .lit (.int .u8 63), .lit (.int .u8 55), .lit (.int .u8 48), .lit (.int .u8 27), .lit (.int .u8 60), .lit (.int .u8 41), .lit (.int .u8 37), .lit (.int .u8 16), .lit (.int .u8 46), .lit (.int .u8 35), .lit (.int .u8 44), .lit (.int .u8 21), .lit (.int .u8 52), .lit (.int .u8 32), .lit (.int .u8 23), .lit (.int .u8 11), .lit (.int .u8 54), .lit (.int .u8 26), .lit (.int .u8 40), .lit (.int .u8 15), .lit (.int .u8 34), .lit (.int .u8 20), .lit (.int .u8 31), .lit (.int .u8 10), .lit (.int .u8 25), .lit (.int .u8 14), .lit (.int .u8 19), .lit (.int .u8 9), .lit (.int .u8 13), .lit (.int .u8 8), .lit (.int .u8 7), .lit (.int .u8 6)]
def laid_internal_strconv_uint64pow10 {H : Type} : DataW H := .agg [.lit (.int .u64 1), .lit (.int .u64 10), .lit (.int .u64 100), .lit (.int .u64 1000), .lit (.int .u64 10000), .lit (.int .u64 100000), .lit (.int .u64 1000000), .lit (.int .u64 10000000), .lit (.int .u64 100000000), .lit (.int .u64 1000000000), .lit (.int .u64 10000000000), .lit (.int .u64 100000000000), .lit (.int .u64 1000000000000), .lit (.int .u64 10000000000000), .lit (.int .u64 100000000000000), .lit (.int .u64 1000000000000000), .lit (.int .u64 10000000000000000), .lit (.int .u64 100000000000000000), .lit (.int .u64 1000000000000000000), .lit (.int .u64 10000000000000000000)]
def laid_loop_example_g00135_impl_takenWords {H : Type} : DataW H := .agg [.lit (.string [102, 117, 110, 99]), .lit (.string [105, 102]), .lit (.string [101, 108, 115, 101]), .lit (.string [102, 111, 114]), .lit (.string [114, 101, 116, 117, 114, 110]), .lit (.string [103, 111]), .lit (.string [100, 101, 102, 101, 114]), .lit (.string [115, 101, 108, 101, 99, 116]), .lit (.string [99, 97, 115, 101]), .lit (.string [100, 101, 102, 97, 117, 108, 116]), .lit (.string [98, 114, 101, 97, 107]), .lit (.string [99, 111, 110, 116, 105, 110, 117, 101]), .lit (.string [99, 104, 97, 110]), .lit (.string [105, 110, 116]), .lit (.string [98, 111, 111, 108]), .lit (.string [116, 114, 117, 101]), .lit (.string [102, 97, 108, 115, 101]), .lit (.string [109, 97, 107, 101]), .lit (.string [99, 108, 111, 115, 101]), .lit (.string [112, 114, 105, 110, 116]), .lit (.string [112, 97, 110, 105, 99])]
def laid_loop_example_g00135_impl_kidForms {H : Type} : DataW H := .agg [.lit (.string []), .lit (.string [102, 42]), .lit (.string [112, 42, 98]), .lit (.string []), .lit (.string [115, 42]), .lit (.string [101]), .lit (.string [101]), .lit (.string []), .lit (.string [101, 101]), .lit (.string [97]), .lit (.string [101, 98, 111, 63]), .lit (.string [101, 63, 98]), .lit (.string [101, 63]), .lit (.string [99]), .lit (.string [99]), .lit (.string [119, 42]), .lit (.string []), .lit (.string []), .lit (.string []), .lit (.string [101]), .lit (.string [101]), .lit (.string [101]), .lit (.string []), .lit (.string []), .lit (.string []), .lit (.string [101, 42]), .lit (.string [101, 63]), .lit (.string [101]), .lit (.string [101, 101]), .lit (.string [101])]
def laid_loop_example_g00135_impl_caseForms {H : Type} : DataW H := .agg [.lit (.string [98]), .lit (.string [101, 98]), .lit (.string [101, 101, 98])]

/-- 'laws.FnExactSameSeen': WHATEVER THE INPUT: true; the input reads as it did. -/
def fnExactSameSeenSpec : ChangeSpec := { name := "fnExactSameSeen", fn := fun _ => fun
  | [d1, d2] => { results := [.lit (.bool true)], args := [d1, d2] }
  | _ => none }
def fnExactSameSeenRow : OpenClaim := { program := "ytjgbjahcnnjfpaadoor", sum := "d0b33569dfd9d9d7a5e460368a227ed89b2e7bb4c8e61800d75e222618d67860", func := "loop.example/g00135/laws.FnExactSameSeen", spec := "fnExactSameSeen", named := ["internal/strconv.uint64pow10", "math/bits.deBruijn32tab", "math/bits.deBruijn64tab"], apart := false, laid := [("math/bits.deBruijn32tab", laid_math_bits_deBruijn32tab), ("math/bits.deBruijn64tab", laid_math_bits_deBruijn64tab), ("internal/strconv.uint64pow10", laid_internal_strconv_uint64pow10)] }
def FnExactSameSeenSaid : Prop := fnExactSameSeenRow.holds Tryd.pinned (OpenSpec.ofChange fnExactSameSeenSpec)

/-- ITS FALSE NEIGHBOUR: 'it returns false'. Refute it at one input. -/
def fnExactSameSeenWrong : ChangeSpec := { name := "fnExactSameSeen", fn := fun _ => fun
  | [d1, d2] => { results := [.lit (.bool false)], args := [d1, d2] }
  | _ => none }
def FnExactSameSeenWrongFalsely : Prop := fnExactSameSeenRow.holds Tryd.pinned (OpenSpec.ofChange fnExactSameSeenWrong)

/-- 'laws.FnExactWovenOK': WHATEVER THE INPUT: true; the input reads as it did. -/
def fnExactWovenOKSpec : ChangeSpec := { name := "fnExactWovenOK", vars := ["loop.example/g00135/impl.takenWords", "loop.example/g00135/impl.caseForms", "loop.example/g00135/impl.kidForms"], fn := fun _ => fun
  | [d, g1, g2, g3] => { results := [.lit (.bool true)], args := [d], vars := [g1, g2, g3] }
  | _ => none }
def fnExactWovenOKRow : OpenClaim := { program := "ytjgbjahcnnjfpaadoor", sum := "d0b33569dfd9d9d7a5e460368a227ed89b2e7bb4c8e61800d75e222618d67860", func := "loop.example/g00135/laws.FnExactWovenOK", spec := "fnExactWovenOK", unfollowed := true, recurses := true, named := ["loop.example/g00135/impl.takenWords", "loop.example/g00135/impl.caseForms", "loop.example/g00135/impl.kidForms"], loops := true, apart := false, laid := [("loop.example/g00135/impl.takenWords", laid_loop_example_g00135_impl_takenWords), ("loop.example/g00135/impl.kidForms", laid_loop_example_g00135_impl_kidForms), ("loop.example/g00135/impl.caseForms", laid_loop_example_g00135_impl_caseForms)] }
def FnExactWovenOKSaid : Prop := fnExactWovenOKRow.holds Tryd.pinned (OpenSpec.ofChange fnExactWovenOKSpec)

/-- ITS FALSE NEIGHBOUR: 'it returns false'. Refute it at one input. -/
def fnExactWovenOKWrong : ChangeSpec := { name := "fnExactWovenOK", vars := ["loop.example/g00135/impl.takenWords", "loop.example/g00135/impl.caseForms", "loop.example/g00135/impl.kidForms"], fn := fun _ => fun
  | [d, g1, g2, g3] => { results := [.lit (.bool false)], args := [d], vars := [g1, g2, g3] }
  | _ => none }
def FnExactWovenOKWrongFalsely : Prop := fnExactWovenOKRow.holds Tryd.pinned (OpenSpec.ofChange fnExactWovenOKWrong)

/-- 'laws.FnExactChoose': WHATEVER THE INPUT: true; the input reads as it did. -/
def fnExactChooseSpec : ChangeSpec := { name := "fnExactChoose", vars := ["loop.example/g00135/impl.takenWords", "loop.example/g00135/impl.caseForms", "loop.example/g00135/impl.kidForms"], fn := fun _ => fun
  | [d1, d2, g1, g2, g3] => { results := [.lit (.bool true)], args := [d1, d2], vars := [g1, g2, g3] }
  | _ => none }
def fnExactChooseRow : OpenClaim := { program := "ytjgbjahcnnjfpaadoor", sum := "d0b33569dfd9d9d7a5e460368a227ed89b2e7bb4c8e61800d75e222618d67860", func := "loop.example/g00135/laws.FnExactChoose", spec := "fnExactChoose", unfollowed := true, recurses := true, named := ["loop.example/g00135/impl.takenWords", "loop.example/g00135/impl.caseForms", "loop.example/g00135/impl.kidForms"], loops := true, apart := false, laid := [("loop.example/g00135/impl.takenWords", laid_loop_example_g00135_impl_takenWords), ("loop.example/g00135/impl.kidForms", laid_loop_example_g00135_impl_kidForms), ("loop.example/g00135/impl.caseForms", laid_loop_example_g00135_impl_caseForms)] }
def FnExactChooseSaid : Prop := fnExactChooseRow.holds Tryd.pinned (OpenSpec.ofChange fnExactChooseSpec)

/-- ITS FALSE NEIGHBOUR: 'it returns false'. Refute it at one input. -/
def fnExactChooseWrong : ChangeSpec := { name := "fnExactChoose", vars := ["loop.example/g00135/impl.takenWords", "loop.example/g00135/impl.caseForms", "loop.example/g00135/impl.kidForms"], fn := fun _ => fun
  | [d1, d2, g1, g2, g3] => { results := [.lit (.bool false)], args := [d1, d2], vars := [g1, g2, g3] }
  | _ => none }
def FnExactChooseWrongFalsely : Prop := fnExactChooseRow.holds Tryd.pinned (OpenSpec.ofChange fnExactChooseWrong)

/-- 'laws.FnExactPicks': WHATEVER THE INPUT: true; the input reads as it did. -/
def fnExactPicksSpec : ChangeSpec := { name := "fnExactPicks", vars := ["loop.example/g00135/impl.takenWords", "loop.example/g00135/impl.caseForms", "loop.example/g00135/impl.kidForms"], fn := fun _ => fun
  | [d, g1, g2, g3] => { results := [.lit (.bool true)], args := [d], vars := [g1, g2, g3] }
  | _ => none }
def fnExactPicksRow : OpenClaim := { program := "ytjgbjahcnnjfpaadoor", sum := "d0b33569dfd9d9d7a5e460368a227ed89b2e7bb4c8e61800d75e222618d67860", func := "loop.example/g00135/laws.FnExactPicks", spec := "fnExactPicks", unfollowed := true, recurses := true, named := ["loop.example/g00135/impl.takenWords", "loop.example/g00135/impl.caseForms", "loop.example/g00135/impl.kidForms"], loops := true, apart := false, laid := [("loop.example/g00135/impl.takenWords", laid_loop_example_g00135_impl_takenWords), ("loop.example/g00135/impl.kidForms", laid_loop_example_g00135_impl_kidForms), ("loop.example/g00135/impl.caseForms", laid_loop_example_g00135_impl_caseForms)] }
def FnExactPicksSaid : Prop := fnExactPicksRow.holds Tryd.pinned (OpenSpec.ofChange fnExactPicksSpec)

/-- ITS FALSE NEIGHBOUR: 'it returns false'. Refute it at one input. -/
def fnExactPicksWrong : ChangeSpec := { name := "fnExactPicks", vars := ["loop.example/g00135/impl.takenWords", "loop.example/g00135/impl.caseForms", "loop.example/g00135/impl.kidForms"], fn := fun _ => fun
  | [d, g1, g2, g3] => { results := [.lit (.bool false)], args := [d], vars := [g1, g2, g3] }
  | _ => none }
def FnExactPicksWrongFalsely : Prop := fnExactPicksRow.holds Tryd.pinned (OpenSpec.ofChange fnExactPicksWrong)

/- THE SECOND FORM. 'bulk': how many values and letters a reading holds, each counted each time it is reached (what is shared counts as often as it is met; a slice's spare places count too). A statement '..UptoSaid' is the law's where the arguments, and the package variables that the reading takes, are together of bulk at most 1048576: NARROWER than '..Said'. Prove '..Said' where nothing that the law and all that it calls make is longer than what came in: it says more and counts as full. Else prove '..UptoSaid'. A law counts once. -/
mutual
def uptoBulk {H : Type} : DataW H → Nat
  | .lit (.string bytes) => bytes.length + 1
  | .lit _ => 1
  | .nil => 1
  | .ptr d => uptoBulk d + 1
  | .slice elems spare => uptoBulkAll elems + uptoBulkAll spare + 1
  | .agg parts => uptoBulkAll parts + 1
  | .iface _ d => uptoBulk d + 1
  | .map entries => uptoBulkEntries entries + 1
  | .held _ => 1
def uptoBulkAll {H : Type} : List (DataW H) → Nat
  | [] => 0
  | d :: r => uptoBulk d + uptoBulkAll r
def uptoBulkEntries {H : Type} : List (Lit × DataW H) → Nat
  | [] => 0
  | x :: r => uptoBulkEntry x + uptoBulkEntries r
def uptoBulkEntry {H : Type} : Lit × DataW H → Nat
  | (.string bytes, d) => bytes.length + uptoBulk d + 1
  | (_, d) => uptoBulk d + 1
 end
def uptoSmall : (H : Type) → List (DataW H) → Bool := fun _ ds => decide (uptoBulkAll ds ≤ 1048576)
def OpenSpec.upto (s : _root_.Go.ChangeSpec) : _root_.Go.OpenSpec := { _root_.Go.OpenSpec.ofChange s with cond := some uptoSmall }

/-- 'laws.FnExactSameSeen', WHERE WHAT IT READS IS OF BULK AT MOST 1048576: true; the input reads as it did. -/
def fnExactSameSeenUptoRow : OpenClaim := { program := "ytjgbjahcnnjfpaadoor", sum := "d0b33569dfd9d9d7a5e460368a227ed89b2e7bb4c8e61800d75e222618d67860", func := "loop.example/g00135/laws.FnExactSameSeen", spec := "fnExactSameSeen", named := ["internal/strconv.uint64pow10", "math/bits.deBruijn32tab", "math/bits.deBruijn64tab"], apart := false, laid := [("math/bits.deBruijn32tab", laid_math_bits_deBruijn32tab), ("math/bits.deBruijn64tab", laid_math_bits_deBruijn64tab), ("internal/strconv.uint64pow10", laid_internal_strconv_uint64pow10)], narrowed := true }
def FnExactSameSeenUptoSaid : Prop := fnExactSameSeenUptoRow.holds Tryd.pinned (OpenSpec.upto fnExactSameSeenSpec)

/-- 'laws.FnExactWovenOK', WHERE WHAT IT READS IS OF BULK AT MOST 1048576: true; the input reads as it did. -/
def fnExactWovenOKUptoRow : OpenClaim := { program := "ytjgbjahcnnjfpaadoor", sum := "d0b33569dfd9d9d7a5e460368a227ed89b2e7bb4c8e61800d75e222618d67860", func := "loop.example/g00135/laws.FnExactWovenOK", spec := "fnExactWovenOK", unfollowed := true, recurses := true, named := ["loop.example/g00135/impl.takenWords", "loop.example/g00135/impl.caseForms", "loop.example/g00135/impl.kidForms"], loops := true, apart := false, laid := [("loop.example/g00135/impl.takenWords", laid_loop_example_g00135_impl_takenWords), ("loop.example/g00135/impl.kidForms", laid_loop_example_g00135_impl_kidForms), ("loop.example/g00135/impl.caseForms", laid_loop_example_g00135_impl_caseForms)], narrowed := true }
def FnExactWovenOKUptoSaid : Prop := fnExactWovenOKUptoRow.holds Tryd.pinned (OpenSpec.upto fnExactWovenOKSpec)

/-- 'laws.FnExactChoose', WHERE WHAT IT READS IS OF BULK AT MOST 1048576: true; the input reads as it did. -/
def fnExactChooseUptoRow : OpenClaim := { program := "ytjgbjahcnnjfpaadoor", sum := "d0b33569dfd9d9d7a5e460368a227ed89b2e7bb4c8e61800d75e222618d67860", func := "loop.example/g00135/laws.FnExactChoose", spec := "fnExactChoose", unfollowed := true, recurses := true, named := ["loop.example/g00135/impl.takenWords", "loop.example/g00135/impl.caseForms", "loop.example/g00135/impl.kidForms"], loops := true, apart := false, laid := [("loop.example/g00135/impl.takenWords", laid_loop_example_g00135_impl_takenWords), ("loop.example/g00135/impl.kidForms", laid_loop_example_g00135_impl_kidForms), ("loop.example/g00135/impl.caseForms", laid_loop_example_g00135_impl_caseForms)], narrowed := true }
def FnExactChooseUptoSaid : Prop := fnExactChooseUptoRow.holds Tryd.pinned (OpenSpec.upto fnExactChooseSpec)

/-- 'laws.FnExactPicks', WHERE WHAT IT READS IS OF BULK AT MOST 1048576: true; the input reads as it did. -/
def fnExactPicksUptoRow : OpenClaim := { program := "ytjgbjahcnnjfpaadoor", sum := "d0b33569dfd9d9d7a5e460368a227ed89b2e7bb4c8e61800d75e222618d67860", func := "loop.example/g00135/laws.FnExactPicks", spec := "fnExactPicks", unfollowed := true, recurses := true, named := ["loop.example/g00135/impl.takenWords", "loop.example/g00135/impl.caseForms", "loop.example/g00135/impl.kidForms"], loops := true, apart := false, laid := [("loop.example/g00135/impl.takenWords", laid_loop_example_g00135_impl_takenWords), ("loop.example/g00135/impl.kidForms", laid_loop_example_g00135_impl_kidForms), ("loop.example/g00135/impl.caseForms", laid_loop_example_g00135_impl_caseForms)], narrowed := true }
def FnExactPicksUptoSaid : Prop := fnExactPicksUptoRow.holds Tryd.pinned (OpenSpec.upto fnExactPicksSpec)

end Rows
end Go.Proofs.YtjgbjahcnnjfpaaDoor
