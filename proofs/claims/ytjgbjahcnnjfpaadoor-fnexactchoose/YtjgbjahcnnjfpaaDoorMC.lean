/- Proved: for every tree of laws.Node, however deep and wide, and whatever it shares with itself, and every number, laws.FnExactChoose returns true, that is, impl.Choose answers as the specification's Choose, node and code, its answer's lists share no memory with each other, nor with its argument (the law itself asks nothing of a tree whose lengths of names and lists of kids add up to more than 1048576), it writes into no argument, and nothing that was in memory is changed; the package variables takenWords, kidForms and caseForms hold what their initialisers lay (the card ties them). -/
import Derived.Test.YtjgbjahcnnjfpaaDoorCards
import Derived.Test.YtjgbjahcnnjfpaaDoorTie
import Derived.Test.YtjgbjahcnnjfpaaDoorMfD
import Derived.Test.YtjgbjahcnnjfpaaDoorMaA
import Derived.ProofKit
import Derived.LaidMore
import Derived.OpenShut
import Derived.Stop.Joined
set_option linter.unusedVariables false
namespace Go.Proofs.YtjgbjahcnnjfpaaDoor
namespace Wc
open Go.ChangeShapes Go.WideShapes Go.ChangeAt Go.WideMaps Go.WideElems Go.RowKit

theorem own : ownKnob Tryd.prog.godebug = none := by kernel_rfl
theorem laidOut : laidOutB Tryd.prog = true := by kernel_rfl
theorem gWords : Tryd.prog.globalNamed "loop.example/g00135/impl.takenWords" = some 3 := by kernel_rfl
theorem tWords : (Tryd.prog.globals[3]?).map (·.type) = some 109 := by kernel_rfl
theorem cellsW : Tryd.prog.cellsOf 109 = 21 := by kernel_rfl
theorem gKids : Tryd.prog.globalNamed "loop.example/g00135/impl.kidForms" = some 1 := by kernel_rfl
theorem tKids : (Tryd.prog.globals[1]?).map (·.type) = some 96 := by kernel_rfl
theorem cellsK : Tryd.prog.cellsOf 96 = 30 := by kernel_rfl
theorem gCases : Tryd.prog.globalNamed "loop.example/g00135/impl.caseForms" = some 0 := by kernel_rfl
theorem tCases : (Tryd.prog.globals[0]?).map (·.type) = some 95 := by kernel_rfl
theorem cellsC : Tryd.prog.cellsOf 95 = 3 := by kernel_rfl
theorem cellsS : Tryd.prog.cellsOf 9 = 1 := by kernel_rfl
theorem datumW : (Rows.laid_loop_example_g00135_impl_takenWords : DataW Unit) = strData kwWords := by kernel_rfl
theorem datumK : (Rows.laid_loop_example_g00135_impl_kidForms : DataW Unit) = strData kidWords := by kernel_rfl
theorem datumC : (Rows.laid_loop_example_g00135_impl_caseForms : DataW Unit) = strData caseWords := by kernel_rfl

theorem door_met (os : Os) (args : Array Value) : laidMetH Tryd.prog Rows.fnExactChooseRow.laid ((World.doorLaid Tryd.prog 400 os).forCall (fun _ _ => 0) ⟨#[], args, []⟩).memory :=
  laidMetH_of_parts3 (fuel := 8) (laidMet_of_run' 8 (by kernel_rfl) (by kernel_rfl)) (by kernel_rfl) (by kernel_rfl)

theorem of_laid {W : World} (h : laidMetH Tryd.prog Rows.fnExactChooseRow.laid W) : Tabs W := by
  rw [MakeChecks.laidMetH_plain _ _ _ (by kernel_rfl)] at h
  obtain ⟨ps, ⟨g0, t0, cs0, f0, p0, q0, hg0, ht0, hv0, hd0, ⟨g1, t1, cs1, f1, p1, q1, hg1, ht1, hv1, hd1, ⟨g2, t2, cs2, f2, p2, q2, hg2, ht2, hv2, hd2, _, _⟩, _⟩, _⟩, _, _⟩ := h
  obtain rfl := Option.some.inj (gWords.symm.trans hg0)
  obtain rfl := Option.some.inj (tWords.symm.trans ht0)
  obtain rfl := Option.some.inj (gKids.symm.trans hg1)
  obtain rfl := Option.some.inj (tKids.symm.trans ht1)
  obtain rfl := Option.some.inj (gCases.symm.trans hg2)
  obtain rfl := Option.some.inj (tCases.symm.trans ht2)
  have hl := var_lt hg0 hv0
  rw [datumW] at hd0
  rw [datumK] at hd1
  rw [datumC] at hd2
  exact ⟨fun i hi => strs_of_read hg0 Tryd.underlying109 Tryd.underlying9 cellsS cellsW hv0 hd0 i hi,
    fun i hi => strs_of_read hg1 Tryd.underlying96 Tryd.underlying9 cellsS cellsK hv1 hd1 i hi,
    fun i hi => strs_of_read hg2 Tryd.underlying95 Tryd.underlying9 cellsS cellsC hv2 hd2 i hi, hl⟩

theorem vars_three {H : Type} {enc : TypeId × Value → H} {P : Program} {w : World} {spare : Nat → Bool} {n0 n1 n2 : String} {gs : List (DataW H)} {ps : List MemPlace} (h : DataW.TrodVars enc P w spare [n0, n1, n2] gs ps) :
    ∃ d0 d1 d2, gs = [d0, d1, d2] := by
  cases gs with
  | nil => simp [DataW.TrodVars] at h
  | cons d ds =>
    obtain ⟨_, _, _, _, _, _, _, _, _, _, hs, _⟩ := h
    obtain ⟨_, _, _, _, d1, _, _, _, _, _, d2, _, rfl, _⟩ := trodVars_two hs
    exact ⟨d, d1, d2, rfl⟩

set_option maxRecDepth 100000 in
theorem lifted (os : Os) (started : os.Started) (H : Type) (enc : TypeId × Value → H) :
    ReturnsInHanded {} Tryd.checked os 5 .any (fun w args => (Rows.fnExactChooseSpec.pre enc Tryd.prog Tryd.f5 [] false w args ∧ laidMetH Tryd.prog Rows.fnExactChooseRow.laid w) ∧ sizedMet enc Tryd.prog Tryd.f5 (OpenSpec.ofChange Rows.fnExactChooseSpec) false w args)
      (Rows.fnExactChooseSpec.post enc Tryd.prog Tryd.f5 false true false false) := by
  refine returnsInHanded_of_change_and (C := Tryd.checked) (X := fun w _ => laidMetH Tryd.prog Rows.fnExactChooseRow.laid w) (fun _ _ _ hh h => h.of_heap hh) own started (by kernel_rfl) Tryd.func5
    (ChangeSpec.witness_shaped (enc := enc) (C := Tryd.checked) (os := os) (X := fun w _ => laidMetH Tryd.prog Rows.fnExactChooseRow.laid w) false (World.doorLaid Tryd.prog 400 os) #[.agg #[.int .i64 0, .int .i64 0, .string ByteArray.empty, .slice none 0 0], .int .i64 0] 8 rfl (World.shaped_of_RefB (by kernel_rfl) (by kernel_rfl)) (by kernel_rfl) (by kernel_rfl) (by kernel_rfl) (door_met os _)) ?_
  intro W base args ds gs before hval0 hW _ _ hL _
  have hval : ∀ (j : Nat) t v, Tryd.f5.params[j]? = some t → args[j]? = some v → Value.okWide Tryd.prog W .any base t v := hval0
  have hW' := hW
  obtain ⟨p, q, hA0, hV, rfl, hfz, hnd⟩ := hW
  have hA : DataW.TrodAll enc Tryd.prog W 0 (fun _ => true) true Tryd.f5.params.toList args.toList ds p := hA0
  rw [Tryd.params5] at hA hval
  obtain ⟨v0, vs0, d0, ds0, p0, q0, hargs, rfl, rfl, h0, r0⟩ := trodAll_cons hA
  obtain ⟨v1, vs1, e1, ds1, p1, q1, hargs1, rfl, rfl, h1, r1⟩ := trodAll_cons r0
  obtain ⟨rfl, rfl, rfl⟩ := trodAll_nil r1
  obtain rfl : args = #[v0, v1] := by cases args; simp_all
  obtain ⟨d1, d2, d3, rfl⟩ := vars_three hV
  have open1 : ∀ (v : Value) (d : DataW H) (q : List MemPlace) (fuel : Nat), Value.okWide Tryd.prog W .any base 32 v → DataW.trod enc Tryd.prog W 0 (fun _ => true) true fuel 32 v.cells.toList = some (d, q) → ∃ (T : Nd) (u : Value), v = T.val u ∧ T.Fine ∧ Row 0 W.heap.size W T u := by
    intro v d q fuel hv hfu
    unfold Value.okWide at hv
    rw [Tryd.underlying32] at hv
    obtain ⟨cs, rfl, _, _⟩ := hv
    obtain ⟨T, u, hcs, hf, hr⟩ := open_nd Tryd.underlying32 rfl rfl rfl rfl Tryd.underlying3 Tryd.underlying3 Tryd.underlying9 Tryd.underlying30 (by kernel_rfl) (by kernel_rfl) (by kernel_rfl) (by kernel_rfl) (by kernel_rfl) fuel _ _ hfu
    have hcs' : cs.toList = [.int .i64 T.kind, .int .i64 T.num, .string T.name, u] := hcs
    obtain rfl : cs = #[.int .i64 T.kind, .int .i64 T.num, .string T.name, u] := by cases cs; simp_all
    exact ⟨T, u, rfl, hf, hr⟩
  obtain ⟨fuel, hfu⟩ := h0
  obtain ⟨T, u, rfl, hf, hr⟩ := open1 v0 _ _ fuel (hval 0 32 v0 rfl rfl) hfu
  obtain ⟨n', rfl, -, -, w1⟩ := open_int Tryd.underlying3 (hval 1 3 v1 rfl rfl) h1
  have wk : -9223372036854775808 ≤ n' ∧ n' ≤ 9223372036854775807 := by simpa [Lit.wf, IntKind.min, IntKind.max, IntKind.signed, IntKind.bits] using w1
  refine (law_choose T n' u W hf hr (of_laid hL) wk).mono fun e W' ⟨he, hb⟩ => ?_
  subst he
  exact ⟨_, rfl, law_post laidOut Tryd.underlying4 (by kernel_rfl) (by kernel_rfl) (by kernel_rfl) rfl hW' hb⟩

theorem said : Rows.FnExactChooseSaid :=
  OpenClaim.holds_of_wide 5 Tryd.f5 rfl rfl rfl rfl rfl rfl rfl ⟨rfl, rfl, rfl, rfl, rfl⟩ rfl rfl rfl rfl rfl (by kernel_rfl) Tryd.func5 (by kernel_rfl)
    (of_decide_eq_true (by kernel_rfl)) (by unfold Func.isWrapper; first | (rw [if_pos (by decide +kernel)]; kernel_rfl) | (rw [if_neg (by decide +kernel)]; exact ⟨rfl, rfl⟩))
    (fun os started H enc _ => lifted os started H enc)

theorem plain (f : FuncId) (fn : Func) (hf : Tryd.pinned.checked.prog.funcNamed "loop.example/g00135/laws.FnExactChoose" = some f) (hfn : Tryd.pinned.checked.prog.funcs[f]? = some fn) :
    false = Tryd.pinned.checked.prog.looks [] ∧ ∀ (j : Nat) t, fn.params[j]? = some t → Tryd.pinned.checked.prog.wantsStandIn t = false := by
  obtain rfl : f = 5 := Option.some.inj ((show Tryd.prog.funcNamed "loop.example/g00135/laws.FnExactChoose" = some 5 by kernel_rfl).symm.trans hf) |>.symm
  obtain rfl : fn = Tryd.f5 := (Option.some.inj (Tryd.func5.symm.trans hfn)).symm
  refine ⟨by kernel_rfl, fun j t ht => ?_⟩
  rw [Tryd.params5] at ht
  have ht' : t = 32 ∨ t = 3 := by simpa using Array.mem_of_getElem? ht
  rcases ht' with rfl | rfl
  · exact (show Tryd.prog.wantsStandIn 32 = false by kernel_rfl)
  · exact (show Tryd.prog.wantsStandIn 3 = false by kernel_rfl)
end Wc

theorem fnExactChoose_card : Rows.FnExactChooseCardSaid :=
  Claim7.holds_tied_plain_at .later [] _ _ _ _ Wc.said (fun _ h => by cases h) (by kernel_rfl) (fun _ h => by cases h) fnExactChoose_row_tie rfl ⟨rfl, rfl⟩ (by kernel_rfl) rfl Wc.plain (by kernel_rfl)
#print axioms fnExactChoose_card
end Go.Proofs.YtjgbjahcnnjfpaaDoor
