/- Proved: for every tree of laws.Node, however deep and wide, and whatever it shares with itself, laws.FnExactPrint returns true, that is, impl.Print answers as the specification's Print, the text and the code (the law itself asks nothing of a tree whose lengths of names and lists of kids add up to more than 1048576), it writes into no argument, and nothing that was in memory is changed; the package variables takenWords, kidForms, caseForms, typeTexts, internal/strconv.uint64pow10 and math/bits.deBruijn32tab and deBruijn64tab hold what their initialisers lay (the card ties them). -/
import Derived.Test.YtacamenjijlemaaGreatDoorCards
import Derived.Test.YtacamenjijlemaaGreatDoorTie
import Derived.Test.YtacamenjijlemaaGreatDoorPmLaw
import Derived.Test.YtacamenjijlemaaGreatDoorPmBase
import Derived.Lib.LaidTab
import Derived.Lib.AppendIntMem
import Derived.ProofKit
import Derived.LaidMore
import Derived.OpenShut
import Derived.Stop.Joined
set_option linter.unusedVariables false
namespace Go.Proofs.YtacamenjijlemaaGreatDoor
namespace Tr
open Go.ChangeShapes Go.WideShapes Go.ChangeAt Go.WideMaps Go.WideElems Go.RowKit

theorem own : ownKnob Tryz.prog.godebug = none := by kernel_rfl
theorem laidOut : laidOutB Tryz.prog = true := by kernel_rfl
theorem gWords : Tryz.prog.globalNamed "loop.example/g00135/impl.takenWords" = some 3 := by kernel_rfl
theorem tWords : (Tryz.prog.globals[3]?).map (·.type) = some 98 := by kernel_rfl
theorem cellsW : Tryz.prog.cellsOf 98 = 21 := by kernel_rfl
theorem gKids : Tryz.prog.globalNamed "loop.example/g00135/impl.kidForms" = some 2 := by kernel_rfl
theorem tKids : (Tryz.prog.globals[2]?).map (·.type) = some 83 := by kernel_rfl
theorem cellsK : Tryz.prog.cellsOf 83 = 30 := by kernel_rfl
theorem gCases : Tryz.prog.globalNamed "loop.example/g00135/impl.caseForms" = some 1 := by kernel_rfl
theorem tCases : (Tryz.prog.globals[1]?).map (·.type) = some 82 := by kernel_rfl
theorem cellsC : Tryz.prog.cellsOf 82 = 3 := by kernel_rfl
theorem gTypes : Tryz.prog.globalNamed "loop.example/g00135/impl.typeTexts" = some 0 := by kernel_rfl
theorem tTypes : (Tryz.prog.globals[0]?).map (·.type) = some 73 := by kernel_rfl
theorem cellsT : Tryz.prog.cellsOf 73 = 4 := by kernel_rfl
theorem gPow : Tryz.prog.globalNamed "internal/strconv.uint64pow10" = some 5 := by kernel_rfl
theorem tPow : (Tryz.prog.globals[5]?).map (·.type) = some 120 := by kernel_rfl
theorem cellsP : Tryz.prog.cellsOf 120 = 20 := by kernel_rfl
theorem cellsU : Tryz.prog.cellsOf 102 = 1 := by kernel_rfl
theorem cellsS : Tryz.prog.cellsOf 9 = 1 := by kernel_rfl
theorem datumW : (Rows.laid_loop_example_g00135_impl_takenWords : DataW Unit) = strData kwWords := by kernel_rfl
theorem datumK : (Rows.laid_loop_example_g00135_impl_kidForms : DataW Unit) = strData kidWords := by kernel_rfl
theorem datumC : (Rows.laid_loop_example_g00135_impl_caseForms : DataW Unit) = strData caseWords := by kernel_rfl

theorem datumT : (Rows.laid_loop_example_g00135_impl_typeTexts : DataW Unit) = strData [⟨#[]⟩, ⟨#[105, 110, 116]⟩, ⟨#[98, 111, 111, 108]⟩, ⟨#[99, 104, 97, 110, 32, 105, 110, 116]⟩] := by kernel_rfl
theorem datumP : (Rows.laid_internal_strconv_uint64pow10 : DataW Unit) = Lib.tabData .u64 Lib.pow10Tab := by kernel_rfl

theorem door_met (os : Os) (args : Array Value) : laidMetH Tryz.prog Rows.fnExactPrintRow.laid ((World.doorLaid Tryz.prog 400 os).forCall (fun _ _ => 0) ⟨#[], args, []⟩).memory :=
  laidMetH_of_parts3 (fuel := 8) (laidMet_of_run' 8 (by kernel_rfl) (by kernel_rfl)) (by kernel_rfl) (by kernel_rfl)

theorem of_laid {W : World} (h : laidMetH Tryz.prog Rows.fnExactPrintRow.laid W) : Tabs W ∧ Gl W.heap.size W := by
  rw [MakeChecks.laidMetH_plain _ _ _ (by kernel_rfl)] at h
  obtain ⟨ps, ⟨g0, t0, cs0, f0, p0, q0, hg0, ht0, hv0, hd0, ⟨g1, t1, cs1, f1, p1, q1, hg1, ht1, hv1, hd1, ⟨g2, t2, cs2, f2, p2, q2, hg2, ht2, hv2, hd2, ⟨g3, t3, cs3, f3, p3, q3, hg3, ht3, hv3, hd3, ⟨g4, t4, cs4, f4, p4, q4, hg4, ht4, hv4, hd4, ⟨g5, t5, cs5, f5, p5, q5, hg5, ht5, hv5, hd5, ⟨g6, t6, cs6, f6, p6, q6, hg6, ht6, hv6, hd6, _, _⟩, _⟩, _⟩, _⟩, _⟩, _⟩, _⟩, _, _⟩ := h
  obtain rfl := Option.some.inj (gPow.symm.trans hg2)
  obtain rfl := Option.some.inj (tPow.symm.trans ht2)
  obtain rfl := Option.some.inj (gWords.symm.trans hg3)
  obtain rfl := Option.some.inj (tWords.symm.trans ht3)
  obtain rfl := Option.some.inj (gKids.symm.trans hg4)
  obtain rfl := Option.some.inj (tKids.symm.trans ht4)
  obtain rfl := Option.some.inj (gCases.symm.trans hg5)
  obtain rfl := Option.some.inj (tCases.symm.trans ht5)
  obtain rfl := Option.some.inj (gTypes.symm.trans hg6)
  obtain rfl := Option.some.inj (tTypes.symm.trans ht6)
  have hl := var_lt hg3 hv3
  have hlT := var_lt hg6 hv6
  rw [datumP] at hd2
  rw [datumW] at hd3
  rw [datumK] at hd4
  rw [datumC] at hd5
  rw [datumT] at hd6
  have hP : Lib.TabIs Tryz.prog W "internal/strconv.uint64pow10" .u64 Lib.pow10Tab := by
    unfold Lib.TabIs
    rw [hv2, ← Lib.cells_of_tab Tryz.underlying120 Tryz.underlying102 cellsU cellsP hd2]
  refine ⟨⟨fun i hi => strs_of_read hg3 Tryz.underlying98 Tryz.underlying9 cellsS cellsW hv3 hd3 i hi,
    fun i hi => strs_of_read hg4 Tryz.underlying83 Tryz.underlying9 cellsS cellsK hv4 hd4 i hi,
    fun i hi => strs_of_read hg5 Tryz.underlying82 Tryz.underlying9 cellsS cellsC hv5 hd5 i hi, hl⟩, fun V hV => ⟨Lib.tabBelow_of_tabIs hP V hV, fun i hi => ?_⟩⟩
  rw [hV.cell (p := ⟨0, i, none⟩) hlT]
  exact strs_of_read hg6 Tryz.underlying73 Tryz.underlying9 cellsS cellsT hv6 hd6 i hi

theorem vars_len {H : Type} {enc : TypeId × Value → H} {P : Program} {w : World} {spare : Nat → Bool} : ∀ {ns : List String} {gs : List (DataW H)} {ps : List MemPlace}, DataW.TrodVars enc P w spare ns gs ps → gs.length = ns.length := by
  intro ns
  induction ns with
  | nil =>
    intro gs ps h
    cases gs with
    | nil => rfl
    | cons => simp [DataW.TrodVars] at h
  | cons n ns ih =>
    intro gs ps h
    cases gs with
    | nil => simp [DataW.TrodVars] at h
    | cons d ds =>
      obtain ⟨_, _, _, _, _, _, _, _, _, _, hs, _⟩ := h
      simp [ih hs]
theorem four {α : Type} (l : List α) (h : l.length = 4) : ∃ a b c d, l = [a, b, c, d] := by
  match l, h with
  | [a, b, c, d], _ => exact ⟨a, b, c, d, rfl⟩

set_option maxRecDepth 100000 in
theorem lifted (os : Os) (started : os.Started) (H : Type) (enc : TypeId × Value → H) :
    ReturnsInHanded {} Tryz.checked os 3 .any (fun w args => (Rows.fnExactPrintSpec.pre enc Tryz.prog Tryz.f3 [] false w args ∧ laidMetH Tryz.prog Rows.fnExactPrintRow.laid w) ∧ sizedMet enc Tryz.prog Tryz.f3 (OpenSpec.ofChange Rows.fnExactPrintSpec) false w args)
      (Rows.fnExactPrintSpec.post enc Tryz.prog Tryz.f3 false true false false) := by
  refine returnsInHanded_of_change_and (C := Tryz.checked) (X := fun w _ => laidMetH Tryz.prog Rows.fnExactPrintRow.laid w) (fun _ _ _ hh h => h.of_heap hh) own started (by kernel_rfl) Tryz.func3
    (ChangeSpec.witness_shaped (enc := enc) (C := Tryz.checked) (os := os) (X := fun w _ => laidMetH Tryz.prog Rows.fnExactPrintRow.laid w) false (World.doorLaid Tryz.prog 400 os) #[.agg #[.int .i64 0, .int .i64 0, .string ByteArray.empty, .slice none 0 0]] 8 rfl (World.shaped_of_RefB (by kernel_rfl) (by kernel_rfl)) (by kernel_rfl) (by kernel_rfl) (by kernel_rfl) (door_met os _)) ?_
  intro W base args ds gs before hval0 hW _ _ hL _
  have hval : ∀ (j : Nat) t v, Tryz.f3.params[j]? = some t → args[j]? = some v → Value.okWide Tryz.prog W .any base t v := hval0
  have hW' := hW
  obtain ⟨p, q, hA0, hV, rfl, hfz, hnd⟩ := hW
  have hA : DataW.TrodAll enc Tryz.prog W 0 (fun _ => true) true Tryz.f3.params.toList args.toList ds p := hA0
  rw [Tryz.params3] at hA hval
  obtain ⟨v0, vs0, d0, ds0, p0, q0, hargs, rfl, rfl, h0, r0⟩ := trodAll_cons hA
  obtain ⟨rfl, rfl, rfl⟩ := trodAll_nil r0
  obtain rfl : args = #[v0] := by cases args; simp_all
  obtain ⟨d1, d2, d3, d4, rfl⟩ := four gs (show gs.length = 4 from vars_len hV)
  have hv0 := hval 0 24 v0 rfl rfl
  unfold Value.okWide at hv0
  rw [Tryz.underlying24] at hv0
  obtain ⟨cs, rfl, _, _⟩ := hv0
  obtain ⟨fuel, hfu⟩ := h0
  obtain ⟨T, u, hcs, hf, hr⟩ := open_nd Tryz.underlying24 rfl rfl rfl rfl Tryz.underlying3 Tryz.underlying3 Tryz.underlying9 Tryz.underlying22 (by kernel_rfl) (by kernel_rfl) (by kernel_rfl) (by kernel_rfl) (by kernel_rfl) fuel _ _ hfu
  have hcs' : cs.toList = [.int .i64 T.kind, .int .i64 T.num, .string T.name, u] := hcs
  obtain rfl : cs = #[.int .i64 T.kind, .int .i64 T.num, .string T.name, u] := by cases cs; simp_all
  refine (law_print T u W hf hr (of_laid hL).1 (of_laid hL).2).mono fun e W' ⟨he, hb⟩ => ?_
  subst he
  exact ⟨_, rfl, law_post laidOut Tryz.underlying4 (by kernel_rfl) (by kernel_rfl) (by kernel_rfl) rfl hW' hb⟩

theorem said : Rows.FnExactPrintSaid :=
  OpenClaim.holds_of_wide 3 Tryz.f3 rfl rfl rfl rfl rfl rfl rfl ⟨rfl, rfl, rfl, rfl, rfl⟩ rfl rfl rfl rfl rfl (by kernel_rfl) Tryz.func3 (by kernel_rfl)
    (of_decide_eq_true (by kernel_rfl)) (by unfold Func.isWrapper; first | (rw [if_pos (by decide +kernel)]; kernel_rfl) | (rw [if_neg (by decide +kernel)]; exact ⟨rfl, rfl⟩))
    (fun os started H enc _ => lifted os started H enc)

theorem plain (f : FuncId) (fn : Func) (hf : Tryz.pinned.checked.prog.funcNamed "loop.example/g00135/laws.FnExactPrint" = some f) (hfn : Tryz.pinned.checked.prog.funcs[f]? = some fn) :
    false = Tryz.pinned.checked.prog.looks [] ∧ ∀ (j : Nat) t, fn.params[j]? = some t → Tryz.pinned.checked.prog.wantsStandIn t = false := by
  obtain rfl : f = 3 := Option.some.inj ((show Tryz.prog.funcNamed "loop.example/g00135/laws.FnExactPrint" = some 3 by kernel_rfl).symm.trans hf) |>.symm
  obtain rfl : fn = Tryz.f3 := (Option.some.inj (Tryz.func3.symm.trans hfn)).symm
  refine ⟨by kernel_rfl, fun j t ht => ?_⟩
  rw [Tryz.params3] at ht
  obtain rfl : t = 24 := by simpa using Array.mem_of_getElem? ht
  exact (show Tryz.prog.wantsStandIn 24 = false by kernel_rfl)
end Tr

theorem fnExactPrint_card : Rows.FnExactPrintCardSaid :=
  Claim7.holds_tied_plain_at .later [] _ _ _ _ Tr.said (fun _ h => by cases h) (by kernel_rfl) (fun _ h => by cases h) fnExactPrint_row_tie rfl ⟨rfl, rfl⟩ (by kernel_rfl) rfl Tr.plain (by kernel_rfl)
#print axioms fnExactPrint_card
end Go.Proofs.YtacamenjijlemaaGreatDoor
