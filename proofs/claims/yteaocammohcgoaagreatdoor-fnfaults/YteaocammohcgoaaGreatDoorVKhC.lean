import Derived.Test.YteaocammohcgoaaGreatDoorVKhA
import Derived.Test.YteaocammohcgoaaGreatDoorRows
import Derived.LaidMore
import Derived.OpenShut
import Derived.Stop.Joined
set_option linter.unusedVariables false
set_option maxHeartbeats 16000000
set_option maxRecDepth 100000
namespace Go.Proofs.YteaocammohcgoaaGreatDoor
open Go.RowKit
section
namespace Tr
open Go.ChangeShapes Go.WideShapes Go.ChangeAt Go.WideMaps Go.WideElems Go.RowKit
theorem own : ownKnob Tryz.prog.godebug = none := by kernel_rfl
theorem laidOut : laidOutB Tryz.prog = true := by kernel_rfl
theorem gWords : Tryz.prog.globalNamed "loop.example/g00135/impl.takenWords" = some 3 := by kernel_rfl
theorem tWords : (Tryz.prog.globals[3]?).map (·.type) = some 146 := by kernel_rfl
theorem cellsW : Tryz.prog.cellsOf 146 = 21 := by kernel_rfl
theorem gKids : Tryz.prog.globalNamed "loop.example/g00135/impl.kidForms" = some 2 := by kernel_rfl
theorem tKids : (Tryz.prog.globals[2]?).map (·.type) = some 118 := by kernel_rfl
theorem cellsK : Tryz.prog.cellsOf 118 = 30 := by kernel_rfl
theorem gCases : Tryz.prog.globalNamed "loop.example/g00135/impl.caseForms" = some 1 := by kernel_rfl
theorem tCases : (Tryz.prog.globals[1]?).map (·.type) = some 117 := by kernel_rfl
theorem cellsC : Tryz.prog.cellsOf 117 = 3 := by kernel_rfl
theorem cellsS : Tryz.prog.cellsOf 9 = 1 := by kernel_rfl
theorem datumW : (Rows.laid_loop_example_g00135_impl_takenWords : DataW Unit) = lM dg := by kernel_rfl
theorem datumK : (Rows.laid_loop_example_g00135_impl_kidForms : DataW Unit) = lM ik := by kernel_rfl
theorem datumC : (Rows.laid_loop_example_g00135_impl_caseForms : DataW Unit) = lM gj := by kernel_rfl
theorem et : Tryz.prog.globalNamed "errors.errorType" = some 0 := by kernel_rfl
theorem rt : (Tryz.prog.cutTypes.find? (·.1 == "internal/reflectlite.rtype")).map (·.2) = some 126 := by kernel_rfl
theorem oneRow : ((List.range 185).filter fun t => Tryz.prog.rowNamed t [101, 114, 114, 111, 114]) = [69] := by kernel_rfl
theorem size : Tryz.prog.types.size = 185 := by kernel_rfl
def laid : List (String × DataW Unit) := [("errors.errorType", Rows.laid_errors_errorType), ("loop.example/g00135/impl.takenWords", Rows.laid_loop_example_g00135_impl_takenWords), ("loop.example/g00135/impl.kidForms", Rows.laid_loop_example_g00135_impl_kidForms), ("loop.example/g00135/impl.caseForms", Rows.laid_loop_example_g00135_impl_caseForms)]
theorem door_met (os : Os) (args : Array Value) : laidMetH Tryz.prog laid ((World.doorLaid Tryz.prog 400 os).forCall (fun _ _ => 0) ⟨#[], args, []⟩).memory :=
 laidMetH_of_parts3 (fuel := 8) (laidMet_of_run' 8 (by kernel_rfl) (by kernel_rfl)) (by kernel_rfl) (by kernel_rfl)
theorem of_laid {W : World} (h : laidMetH Tryz.prog laid W) : qD W ∧ ErrG W := by
 have h' : laidMet Tryz.prog [("loop.example/g00135/impl.takenWords", Rows.laid_loop_example_g00135_impl_takenWords), ("loop.example/g00135/impl.kidForms", Rows.laid_loop_example_g00135_impl_kidForms), ("loop.example/g00135/impl.caseForms", Rows.laid_loop_example_g00135_impl_caseForms)] W ∧ handlesMet Tryz.prog [("errors.errorType", Rows.laid_errors_errorType)] W := h
 refine ⟨?_, ?_⟩
 ·obtain ⟨ps, ⟨g3, t3, cs3, f3, p3, q3, mq, ht3, hv3, hd3, ⟨g4, t4, cs4, f4, p4, q4, hg4, ht4, hv4, hd4, ⟨g5, t5, cs5, f5, p5, q5, hg5, ht5, hv5, hd5, _, _⟩, _⟩, _⟩, _, _⟩ := h'.1
  obtain rfl := Option.some.inj (gWords.symm.trans mq)
  obtain rfl := Option.some.inj (tWords.symm.trans ht3)
  obtain rfl := Option.some.inj (gKids.symm.trans hg4)
  obtain rfl := Option.some.inj (tKids.symm.trans ht4)
  obtain rfl := Option.some.inj (gCases.symm.trans hg5)
  obtain rfl := Option.some.inj (tCases.symm.trans ht5)
  have hl := LL mq hv3
  rw [datumW] at hd3
  rw [datumK] at hd4
  rw [datumC] at hd5
  exact ⟨fun i hi => j8 mq Tryz.underlying146 Tryz.underlying9 cellsS cellsW hv3 hd3 i hi,
   fun i hi => j8 hg4 Tryz.underlying118 Tryz.underlying9 cellsS cellsK hv4 hd4 i hi,
   fun i hi => j8 hg5 Tryz.underlying117 Tryz.underlying9 cellsS cellsC hv5 hd5 i hi, hl⟩
 ·obtain ⟨name, u, ty, e1, e2, e3, e4, e5⟩ := h'.2 _ (List.mem_singleton.2 rfl)
  have en : name = [101, 114, 114, 111, 114] := (Option.some.inj e1).symm
  subst en
  obtain rfl := Option.some.inj (rt.symm.trans e2)
  have hm : ty ∈ (List.range 185).filter fun t => Tryz.prog.rowNamed t [101, 114, 114, 111, 114] := List.mem_filter.2 ⟨List.mem_range.2 (by rw [← size]; exact e3), e4⟩
  rw [oneRow] at hm
  obtain rfl := List.mem_singleton.1 hm
  have hh : typeHandle Tryz.prog 69 = .pointer (some ⟨4, 69, none⟩) := by kernel_rfl
  rw [hh] at e5
  show W.cell? _ = _
  simpa using World.var?_cell et e5 0
theorem vars_len {H : Type} {enc : TypeId × Value → H} {P : Program} {w : World} {spare : Nat → Bool} : ∀ {ns : List String} {gs : List (DataW H)} {ps : List MemPlace}, DataW.TrodVars enc P w spare ns gs ps → gs.length = ns.length := by
 intro ns
 induction ns with
 |nil =>
  intro gs ps h
  cases gs with
  |nil => rfl
  |cons => simp [DataW.TrodVars] at h
 |cons n ns ih =>
  intro gs ps h
  cases gs with
  |nil => simp [DataW.TrodVars] at h
  |cons d ds =>
   obtain ⟨_, _, _, _, _, _, _, _, _, _, hs, _⟩ := h
   simp [ih hs]
theorem three {α : Type} (l : List α) (h : l.length = 3) : ∃ a b c, l = [a, b, c] := by
 match l, h with
 |[a, b, c], _ => exact ⟨a, b, c, rfl⟩
end Tr
end
end Go.Proofs.YteaocammohcgoaaGreatDoor
