/- Proved: for every tree of laws.Node, however deep and wide, and whatever it shares with itself, laws.FnExactPicks returns true, that is, impl.Picks answers as the specification's Picks (the law itself asks nothing of a tree whose lengths of names and lists of kids add up to more than 1048576), it writes into no argument, and nothing that was in memory is changed; the package variables takenWords, kidForms and caseForms hold what their initialisers lay (the card ties them). -/
import Derived.Test.YtjgbjahcnnjfpaaDoorMeG
import Derived.Test.YtjgbjahcnnjfpaaDoorMaA
import Derived.Test.YtjgbjahcnnjfpaaDoorMdA
import Derived.RegionTactic
import Derived.BigRegion
import Derived.Deep.RegionWith
import Derived.Test.YtjgbjahcnnjfpaaDoorCards
import Derived.Test.YtjgbjahcnnjfpaaDoorTie
import Derived.ProofKit
import Derived.LaidMore
import Derived.OpenShut
import Derived.Stop.Joined
set_option linter.unusedVariables false
namespace Go.Proofs.YtjgbjahcnnjfpaaDoor
open Go.RowKit

set_option maxHeartbeats 4000000 in
set_option maxRecDepth 100000 in
theorem law_picks (T : Nd) (u : Value) (w : World) (hf : T.Fine) (hr : Row 0 w.heap.size w T u) (ht : Tabs w) :
    Calls Tryd.prog 6 #[T.val u] w fun e w' => e = .returned (.bool true) ∧ Below w.heap.size w w' := by
  have HF := hid_mk hf
  have HR := hid_mk hr
  have hsc := T.size_cost
  obtain ⟨au, cu, hu, _⟩ := row_eq.1 hr
  subst hu
  have HB1 : ∀ o : Obj, Hid (Below w.heap.size w (w.alloc o)) := fun o => (Below.refl _ _).alloc (Nat.le_refl _) _
  have SZ := hid_mk (sz_node T)
  have TO := hid_mk (to_node T)
  have SP := hid_mk (fun (hc : T.cost ≤ 1048576) W v hi hhi hr => spec_picks T W v hi hf hhi hr hc)
  have IM := hid_mk (fun W v hr (hc : T.cost ≤ 1048576) (hb : Below w.heap.size w W) => impl_picks T W v hf hr hc (tabs_below ht hb))
  have EQ := hid_mk (eq_node T)
  unfold SzC at SZ
  unfold ToC at TO
  unfold EqC at EQ
  unfold Nd.val at *
  clear hf hr ht
  by_cases hc : T.cost ≤ 1048576
  · have hl : left' T.cost 1048576 = ((1048576 - T.cost : Nat) : Int) := by unfold left'; rw [if_pos hc]
    have SP := hid_mk (SP.out hc)
    generalize wovN T = tb at *
    generalize wovC T = tc at *
    have hbb : (tb != tb) = false := by simp
    have hbc : (tc != tc) = false := by simp
    go_enter Tryd.func6, Tryd.ntmps6
    have F0 : Hid (Four (w.alloc (.cells #[.int .i64 T.kind, .int .i64 T.num, .string T.name, .slice au T.len cu] 32)) w.heap.size (.int .i64 T.kind) (.int .i64 T.num) (.string T.name) (.slice au T.len cu)) := Four.new w _ _ _ _ _
    go_wp2_with fail
    refine (SZ.out _ 1048576 w.heap.size _ HF.out (by simp) (row_below (HB1 _).out (Nat.le_refl _) HR.out) (by omega)).mono ?_
    rw [hl]
    rintro e w1 ⟨rfl, hb1⟩
    have hz1 := hb1.size
    simp only [World.size_alloc] at hz1
    have B1 := hid_mk ((HB1 _).out.trans (hb1.mono (by simp)))
    have F1 := hid_mk (F0.out.keep hb1 (by simp))
    obtain ⟨p0, p1, p2, p3⟩ := F1.out
    clear hb1 F0 hl
    go_wp2_with fail
    refine (TO.out _ _ w.heap.size HF.out (by omega) (row_below B1.out (Nat.le_refl _) HR.out) hc).mono ?_
    rintro e w2 ⟨u2, rfl, hr2, hb2⟩
    obtain ⟨a2, c2, rfl⟩ := row_shape hr2
    have hz2 := hb2.size
    have B2 := hid_mk (B1.out.trans (hb2.mono (by omega)))
    have F2 := hid_mk (F1.out.keep hb2 (by omega))
    clear p0 p1 p2 p3 F1 hb2
    go_wp2_with fail
    refine (SP.out _ _ w2.heap.size (Nat.le_refl _) (row_wide hr2 (Nat.zero_le _) (Nat.le_refl _))).mono ?_
    rintro e w3 ⟨rfl, hb3⟩
    have hz3 := hb3.size
    have B3 := hid_mk (B2.out.trans (hb3.mono (by omega)))
    have F3 := hid_mk (F2.out.keep hb3 (by omega))
    obtain ⟨p0, p1, p2, p3⟩ := F3.out
    clear F2 hb3 hr2 B1 B2
    go_wp2_with fail
    refine (TO.out _ _ w.heap.size HF.out (by omega) (row_below B3.out (Nat.le_refl _) HR.out) hc).mono ?_
    rintro e w4 ⟨u4, rfl, hr4, hb4⟩
    obtain ⟨a4, c4, rfl⟩ := row_shape hr4
    have hz4 := hb4.size
    have B4 := hid_mk (B3.out.trans (hb4.mono (by omega)))
    have F4 := hid_mk (F3.out.keep hb4 (by omega))
    have HR4 := hid_mk hr4
    clear p0 p1 p2 p3 F3 hb4 hr4 B3
    go_wp2_with fail
    have hbA : Below w4.heap.size w4 (w4.alloc (.cells #[.int .i64 T.kind, .int .i64 T.num, .string T.name, .slice a4 T.len c4] 37)) := (Below.refl _ _).alloc (Nat.le_refl _) _
    have G4 : Hid (Four (w4.alloc (.cells #[.int .i64 T.kind, .int .i64 T.num, .string T.name, .slice a4 T.len c4] 37)) w4.heap.size (.int .i64 T.kind) (.int .i64 T.num) (.string T.name) (.slice a4 T.len c4)) := Four.new w4 _ _ _ _ _
    refine (IM.out _ _ (row_wide (row_below hbA (Nat.le_refl _) HR4.out) (Nat.zero_le _) (by simp)) hc (B4.out.trans (hbA.mono (by omega)))).mono ?_
    rintro e w5 ⟨rfl, hb5⟩
    have hz5 := hb5.size
    simp only [World.size_alloc] at hz5
    have hb45 := hbA.trans (hb5.mono (by simp))
    have B5 := hid_mk (B4.out.trans (hb45.mono (by omega)))
    have F5 := hid_mk (F4.out.keep hb45 (by omega))
    have G5 := hid_mk (G4.out.keep hb5 (by simp))
    have HR5 := hid_mk (row_below hb45 (Nat.le_refl _) HR4.out)
    obtain ⟨p0, p1, p2, p3⟩ := F5.out
    obtain ⟨g0, g1, g2, g3⟩ := G5.out
    clear F4 G4 hb5 hbA hb45 B4 HR4 SZ SP IM
    go_wp2_with fail
    go_region_with (first | (go_at_call 14; refine (TO.out _ _ w.heap.size HF.out (by show w.heap.size ≤ w5.heap.size; omega) (row_below B5.out.drew (Nat.le_refl _) HR.out) hc).mono ?_; rintro e w6 ⟨u6, rfl, hr6, hb6⟩; obtain ⟨a6, c6, rfl⟩ := row_shape hr6; have hz6 := hb6.size; have B6 := hid_mk (B5.out.drew.trans (hb6.mono (by show w.heap.size ≤ w5.heap.size; omega))); obtain ⟨k0, k1, k2, k3⟩ := (show Four w5.drew w4.heap.size _ _ _ _ from G5.out).keep hb6 (by show w4.heap.size < w5.heap.size; omega); have HR6 := hid_mk (row_below hb6 (show w4.heap.size ≤ w5.heap.size by omega) (row_drew HR5.out)); have HN6 := hid_mk hr6; clear hr6 hb6) | (go_at_call 16; refine (EQ.out _ _ _ HF.out (row_wide HR6.out (Nat.zero_le _) (show w4.heap.size ≤ w6.heap.size by have : w5.heap.size ≤ w6.heap.size := hz6; omega)) (row_wide HN6.out (Nat.zero_le _) (Nat.le_refl _))).mono ?_; rintro e w7 ⟨rfl, hb7⟩; have B7 := hid_mk (B6.out.trans (hb7.mono (by have : w5.heap.size ≤ w6.heap.size := hz6; omega)))))
    all_goals go_wp2
    all_goals go_ret
    all_goals exact ⟨rfl, B7.out⟩
  · have hl : left' T.cost 1048576 = -1 := by unfold left'; rw [if_neg hc]
    go_enter Tryd.func6, Tryd.ntmps6
    go_wp2_with (go_at_call 12; refine (SZ.out _ 1048576 w.heap.size _ HF.out (by simp) (row_below (HB1 _).out (Nat.le_refl _) HR.out) (by omega)).mono ?_; rw [hl]; rintro e w1 ⟨rfl, hb1⟩)
    go_ret
    exact ⟨rfl, (HB1 _).out.trans (hb1.mono (by simp))⟩
end Go.Proofs.YtjgbjahcnnjfpaaDoor
namespace Go.Proofs.YtjgbjahcnnjfpaaDoor
namespace Wk
open Go.ChangeShapes Go.WideShapes Go.ChangeAt Go.WideMaps Go.WideElems Go.RowKit

theorem own : ownKnob Tryd.prog.godebug = none := by kernel_rfl
theorem laidOut : laidOutB Tryd.prog = true := by kernel_rfl
theorem gWords : Tryd.prog.globalNamed "loop.example/g00135/impl.takenWords" = some 3 := by kernel_rfl
theorem tWords : (Tryd.prog.globals[3]?).map (·.type) = some 109 := by kernel_rfl
theorem cellsW : Tryd.prog.cellsOf 109 = 21 := by kernel_rfl
theorem gKids : Tryd.prog.globalNamed "loop.example/g00135/impl.kidForms" = some 1 := by kernel_rfl
theorem tKids : (Tryd.prog.globals[1]?).map (·.type) = some 96 := by kernel_rfl
theorem cellsK : Tryd.prog.cellsOf 96 = 30 := by kernel_rfl
theorem gCases : Tryd.prog.globalNamed "loop.example/g00135/impl.caseForms" = some 0 := by kernel_rfl
theorem tCases : (Tryd.prog.globals[0]?).map (·.type) = some 95 := by kernel_rfl
theorem cellsC : Tryd.prog.cellsOf 95 = 3 := by kernel_rfl
theorem cellsS : Tryd.prog.cellsOf 9 = 1 := by kernel_rfl
theorem datumW : (Rows.laid_loop_example_g00135_impl_takenWords : DataW Unit) = strData kwWords := by kernel_rfl
theorem datumK : (Rows.laid_loop_example_g00135_impl_kidForms : DataW Unit) = strData kidWords := by kernel_rfl
theorem datumC : (Rows.laid_loop_example_g00135_impl_caseForms : DataW Unit) = strData caseWords := by kernel_rfl

theorem door_met (os : Os) (args : Array Value) : laidMetH Tryd.prog Rows.fnExactPicksRow.laid ((World.doorLaid Tryd.prog 400 os).forCall (fun _ _ => 0) ⟨#[], args, []⟩).memory :=
  laidMetH_of_parts3 (fuel := 8) (laidMet_of_run' 8 (by kernel_rfl) (by kernel_rfl)) (by kernel_rfl) (by kernel_rfl)

theorem of_laid {W : World} (h : laidMetH Tryd.prog Rows.fnExactPicksRow.laid W) : Tabs W := by
  rw [MakeChecks.laidMetH_plain _ _ _ (by kernel_rfl)] at h
  obtain ⟨ps, ⟨g0, t0, cs0, f0, p0, q0, hg0, ht0, hv0, hd0, ⟨g1, t1, cs1, f1, p1, q1, hg1, ht1, hv1, hd1, ⟨g2, t2, cs2, f2, p2, q2, hg2, ht2, hv2, hd2, _, _⟩, _⟩, _⟩, _, _⟩ := h
  obtain rfl := Option.some.inj (gWords.symm.trans hg0)
  obtain rfl := Option.some.inj (tWords.symm.trans ht0)
  obtain rfl := Option.some.inj (gKids.symm.trans hg1)
  obtain rfl := Option.some.inj (tKids.symm.trans ht1)
  obtain rfl := Option.some.inj (gCases.symm.trans hg2)
  obtain rfl := Option.some.inj (tCases.symm.trans ht2)
  have hl := var_lt hg0 hv0
  rw [datumW] at hd0
  rw [datumK] at hd1
  rw [datumC] at hd2
  exact ⟨fun i hi => strs_of_read hg0 Tryd.underlying109 Tryd.underlying9 cellsS cellsW hv0 hd0 i hi,
    fun i hi => strs_of_read hg1 Tryd.underlying96 Tryd.underlying9 cellsS cellsK hv1 hd1 i hi,
    fun i hi => strs_of_read hg2 Tryd.underlying95 Tryd.underlying9 cellsS cellsC hv2 hd2 i hi, hl⟩

theorem vars_three {H : Type} {enc : TypeId × Value → H} {P : Program} {w : World} {spare : Nat → Bool} {n0 n1 n2 : String} {gs : List (DataW H)} {ps : List MemPlace} (h : DataW.TrodVars enc P w spare [n0, n1, n2] gs ps) :
    ∃ d0 d1 d2, gs = [d0, d1, d2] := by
  cases gs with
  | nil => simp [DataW.TrodVars] at h
  | cons d ds =>
    obtain ⟨_, _, _, _, _, _, _, _, _, _, hs, _⟩ := h
    obtain ⟨_, _, _, _, d1, _, _, _, _, _, d2, _, rfl, _⟩ := trodVars_two hs
    exact ⟨d, d1, d2, rfl⟩

set_option maxRecDepth 100000 in
theorem lifted (os : Os) (started : os.Started) (H : Type) (enc : TypeId × Value → H) :
    ReturnsInHanded {} Tryd.checked os 6 .any (fun w args => (Rows.fnExactPicksSpec.pre enc Tryd.prog Tryd.f6 [] false w args ∧ laidMetH Tryd.prog Rows.fnExactPicksRow.laid w) ∧ sizedMet enc Tryd.prog Tryd.f6 (OpenSpec.ofChange Rows.fnExactPicksSpec) false w args)
      (Rows.fnExactPicksSpec.post enc Tryd.prog Tryd.f6 false true false false) := by
  refine returnsInHanded_of_change_and (C := Tryd.checked) (X := fun w _ => laidMetH Tryd.prog Rows.fnExactPicksRow.laid w) (fun _ _ _ hh h => h.of_heap hh) own started (by kernel_rfl) Tryd.func6
    (ChangeSpec.witness_shaped (enc := enc) (C := Tryd.checked) (os := os) (X := fun w _ => laidMetH Tryd.prog Rows.fnExactPicksRow.laid w) false (World.doorLaid Tryd.prog 400 os) #[.agg #[.int .i64 0, .int .i64 0, .string ByteArray.empty, .slice none 0 0]] 8 rfl (World.shaped_of_RefB (by kernel_rfl) (by kernel_rfl)) (by kernel_rfl) (by kernel_rfl) (by kernel_rfl) (door_met os _)) ?_
  intro W base args ds gs before hval0 hW _ _ hL _
  have hval : ∀ (j : Nat) t v, Tryd.f6.params[j]? = some t → args[j]? = some v → Value.okWide Tryd.prog W .any base t v := hval0
  have hW' := hW
  obtain ⟨p, q, hA0, hV, rfl, hfz, hnd⟩ := hW
  have hA : DataW.TrodAll enc Tryd.prog W 0 (fun _ => true) true Tryd.f6.params.toList args.toList ds p := hA0
  rw [Tryd.params6] at hA hval
  obtain ⟨v0, vs0, d0, ds0, p0, q0, hargs, rfl, rfl, h0, r0⟩ := trodAll_cons hA
  obtain ⟨rfl, rfl, rfl⟩ := trodAll_nil r0
  obtain rfl : args = #[v0] := by cases args; simp_all
  obtain ⟨d1, d2, d3, rfl⟩ := vars_three hV
  have hv0 := hval 0 32 v0 rfl rfl
  unfold Value.okWide at hv0
  rw [Tryd.underlying32] at hv0
  obtain ⟨cs, rfl, _, _⟩ := hv0
  obtain ⟨fuel, hfu⟩ := h0
  obtain ⟨T, u, hcs, hf, hr⟩ := open_nd Tryd.underlying32 rfl rfl rfl rfl Tryd.underlying3 Tryd.underlying3 Tryd.underlying9 Tryd.underlying30 (by kernel_rfl) (by kernel_rfl) (by kernel_rfl) (by kernel_rfl) (by kernel_rfl) fuel _ _ hfu
  have hcs' : cs.toList = [.int .i64 T.kind, .int .i64 T.num, .string T.name, u] := hcs
  obtain rfl : cs = #[.int .i64 T.kind, .int .i64 T.num, .string T.name, u] := by cases cs; simp_all
  refine (law_picks T u W hf hr (of_laid hL)).mono fun e W' ⟨he, hb⟩ => ?_
  subst he
  exact ⟨_, rfl, law_post laidOut Tryd.underlying4 (by kernel_rfl) (by kernel_rfl) (by kernel_rfl) rfl hW' hb⟩

theorem said : Rows.FnExactPicksSaid :=
  OpenClaim.holds_of_wide 6 Tryd.f6 rfl rfl rfl rfl rfl rfl rfl ⟨rfl, rfl, rfl, rfl, rfl⟩ rfl rfl rfl rfl rfl (by kernel_rfl) Tryd.func6 (by kernel_rfl)
    (of_decide_eq_true (by kernel_rfl)) (by unfold Func.isWrapper; first | (rw [if_pos (by decide +kernel)]; kernel_rfl) | (rw [if_neg (by decide +kernel)]; exact ⟨rfl, rfl⟩))
    (fun os started H enc _ => lifted os started H enc)

theorem plain (f : FuncId) (fn : Func) (hf : Tryd.pinned.checked.prog.funcNamed "loop.example/g00135/laws.FnExactPicks" = some f) (hfn : Tryd.pinned.checked.prog.funcs[f]? = some fn) :
    false = Tryd.pinned.checked.prog.looks [] ∧ ∀ (j : Nat) t, fn.params[j]? = some t → Tryd.pinned.checked.prog.wantsStandIn t = false := by
  obtain rfl : f = 6 := Option.some.inj ((show Tryd.prog.funcNamed "loop.example/g00135/laws.FnExactPicks" = some 6 by kernel_rfl).symm.trans hf) |>.symm
  obtain rfl : fn = Tryd.f6 := (Option.some.inj (Tryd.func6.symm.trans hfn)).symm
  refine ⟨by kernel_rfl, fun j t ht => ?_⟩
  rw [Tryd.params6] at ht
  obtain rfl : t = 32 := by simpa using Array.mem_of_getElem? ht
  exact (show Tryd.prog.wantsStandIn 32 = false by kernel_rfl)
end Wk

theorem fnExactPicks_card : Rows.FnExactPicksCardSaid :=
  Claim7.holds_tied_plain_at .later [] _ _ _ _ Wk.said (fun _ h => by cases h) (by kernel_rfl) (fun _ h => by cases h) fnExactPicks_row_tie rfl ⟨rfl, rfl⟩ (by kernel_rfl) rfl Wk.plain (by kernel_rfl)
#print axioms fnExactPicks_card
end Go.Proofs.YtjgbjahcnnjfpaaDoor
