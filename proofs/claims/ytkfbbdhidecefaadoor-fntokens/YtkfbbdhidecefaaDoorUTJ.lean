/- Proved: for every slice of bytes, however long, laws.FnTokens returns true, that is, of the text that the specification prints of the program that spec.ProgramOf draws of the bytes impl.Tokens answers as the specification's Tokens, and the tokens, written with blanks and semicolons between them, are cut by impl.Tokens into the same tokens again (the law itself asks nothing of more than 1048576 bytes); it writes into no argument, and nothing that was in memory is changed; the package variables impl.takenWords and impl.signs hold what their initialisers lay (the card ties them). -/
import Derived.Test.YtkfbbdhidecefaaDoorCards
import Derived.Test.YtkfbbdhidecefaaDoorTie
import Derived.Test.YtkfbbdhidecefaaDoorUTI
import Derived.Test.YtkfbbdhidecefaaDoorUDJ
import Derived.LaidMore
import Derived.OpenShut
import Derived.ShutString
set_option linter.unusedVariables false
set_option maxHeartbeats 16000000
set_option maxRecDepth 100000
namespace Go.Proofs.YtkfbbdhidecefaaDoor
open Go.RowKit
section
open Go.RowKit Go.ChangeShapes Go.WideShapes
theorem A1 {H : Type} {enc : TypeId × Value → H} {P : Program} {W : World} {sp : Nat → Bool} {held : Bool} {t e : TypeId} {fuel : Nat} {d : Value} {x : DataW H × List MemPlace} (ht : P.underlying t = some (.slice e)) (he : P.underlying e = some (.int .u8)) (ce : P.cellsOf e = 1)
  (h : DataW.trod enc P W 0 sp held fuel t [d] = some x) : ∃ ca cn cc, d = .slice ca cn cc ∧ cn ≤ 9223372036854775807 ∧ Bytes W.heap.size W ca cn := by
 rcases DataW.trod_slice ht h with ⟨e3, _⟩ | ⟨ad, len, cap, elems, rest, q, hq, e3, _, _, hlc, uW, SM, KF, _, _⟩
 ·obtain rfl : d = .slice none 0 0 := by simpa using e3
  exact ⟨none, 0, 0, rfl, by omega, .inl rfl⟩
 ·obtain rfl : d = .slice (some ad) len cap := by simpa using e3
  unfold maxLen at uW
  refine ⟨some ad, len, cap, rfl, by omega, ?_⟩
  by_cases h0 : len = 0
  ·exact .inl h0
  ·have hk : ∀ i, i < len → ∃ b : Nat, b < 256 ∧ W.cells? 0 (ad.add (i * 1)) 1 = some [.int .u8 (b : Int)] := by
    intro i hi
    have := KF i hi
    rw [ce, List.getElem?_eq_getElem (by omega : i < elems.length), Option.bind_eq_some_iff] at this
    obtain ⟨cs', El, htr⟩ := this
    obtain ⟨z, e0, _, w0⟩ := DataW.trod_int he htr
    rw [e0] at El
    have w1 : 0 ≤ z ∧ z ≤ 255 := by simpa [Lit.wf, IntKind.min, IntKind.max, IntKind.signed, IntKind.bits] using w0
    exact ⟨z.toNat, by omega, by rw [show ((z.toNat : Nat) : Int) = z by omega]; exact El⟩
   obtain ⟨b0, _, sL⟩ := hk 0 (by omega)
   have iW := (World.cells?_some sL).2.2 0 (by omega)
   have e : (ad.add (0 * 1)).add 0 = ad := by simp [Addr.add]
   rw [e] at iW
   have had := DX iW
   refine .inr ⟨ad.block, ad.off, by rw [← had], Lf iW, fun i hi => ?_⟩
   obtain ⟨b, hb, hbc⟩ := hk i hi
   have hci := (World.cells?_some hbc).2.2 0 (by omega)
   rw [Aj (Aj had (i * 1)) 0] at hci
   exact ⟨b, hb, by simpa using hci⟩
end
section
namespace Tk
open Go.ChangeShapes Go.WideShapes Go.ChangeAt Go.WideMaps Go.WideElems Go.RowKit
open Go.ChangeMaps (open_string shut_string)
theorem own : ownKnob Tryd.prog.godebug = none := by kernel_rfl
theorem laidOut : laidOutB Tryd.prog = true := by kernel_rfl
theorem gWords : Tryd.prog.globalNamed "loop.example/g00135/impl.takenWords" = some 1 := by kernel_rfl
theorem tWords : (Tryd.prog.globals[1]?).map (·.type) = some 106 := by kernel_rfl
theorem cellsW : Tryd.prog.cellsOf 106 = 21 := by kernel_rfl
theorem gSigns : Tryd.prog.globalNamed "loop.example/g00135/impl.signs" = some 0 := by kernel_rfl
theorem tSigns : (Tryd.prog.globals[0]?).map (·.type) = some 103 := by kernel_rfl
theorem cellsG : Tryd.prog.cellsOf 103 = 25 := by kernel_rfl
theorem datumS : (Rows.laid_loop_example_g00135_impl_signs : DataW Unit) = rr aH := by kernel_rfl
theorem cellsS : Tryd.prog.cellsOf 9 = 1 := by kernel_rfl
theorem datum : (Rows.laid_loop_example_g00135_impl_takenWords : DataW Unit) = rr aS := by kernel_rfl
theorem door_met (os : Os) (args : Array Value) : laidMetH Tryd.prog Rows.fnTokensRow.laid ((World.doorLaid Tryd.prog 400 os).forCall (fun _ _ => 0) ⟨#[], args, []⟩).memory :=
 laidMetH_of_parts3 (fuel := 8) (laidMet_of_run' 8 (by kernel_rfl) (by kernel_rfl)) (by kernel_rfl) (by kernel_rfl)
theorem of_laid {W : World} (h : laidMetH Tryd.prog Rows.fnTokensRow.laid W) :
  1 < W.heap.size ∧ cg W 1 aS ∧ cg W 0 aH := by
 rw [MakeChecks.laidMetH_plain _ _ _ (by kernel_rfl)] at h
 obtain ⟨ps, ⟨g0, t0, cs0, f0, p0, q0, hg0, ht0, tw, P9, ⟨g1, t1, cs1, f1, p1, q1, SF, PZ, IW, hd1, _, _⟩, _⟩, _, _⟩ := h
 obtain rfl := Option.some.inj (gWords.symm.trans hg0)
 obtain rfl := Option.some.inj (tWords.symm.trans ht0)
 obtain rfl := Option.some.inj (gSigns.symm.trans SF)
 obtain rfl := Option.some.inj (tSigns.symm.trans PZ)
 have hl := Ni hg0 tw
 rw [datum] at P9
 rw [datumS] at hd1
 exact ⟨hl, fun i hi => rq hg0 Tryd.underlying106 Tryd.underlying9 cellsS cellsW tw P9 i hi, fun i hi => rq SF Tryd.underlying103 Tryd.underlying9 cellsS cellsG IW hd1 i hi⟩
theorem prc : PRC := fun sb A w hA h => (AZ 46184 233000 30 (by omega) (by omega) (by omega) bd_2 sb A w (by omega) h).mono fun e w' ⟨T, a, c, he, hd⟩ => ⟨T, a, c, he, hd.more (by omega)⟩
theorem lifted (os : Os) (started : os.Started) (H : Type) (enc : TypeId × Value → H) :
  ReturnsInHanded {} Tryd.checked os 3 .any (fun w args => (Rows.fnTokensSpec.pre enc Tryd.prog Tryd.f3 [] false w args ∧ laidMetH Tryd.prog Rows.fnTokensRow.laid w) ∧ sizedMet enc Tryd.prog Tryd.f3 (OpenSpec.ofChange Rows.fnTokensSpec) false w args)
   (Rows.fnTokensSpec.post enc Tryd.prog Tryd.f3 false true false false) := by
 refine returnsInHanded_of_change_and (C := Tryd.checked) (X := fun w _ => laidMetH Tryd.prog Rows.fnTokensRow.laid w) (fun _ _ _ hh h => h.of_heap hh) own started (by kernel_rfl) Tryd.func3
  (ChangeSpec.witness_shaped (enc := enc) (C := Tryd.checked) (os := os) (X := fun w _ => laidMetH Tryd.prog Rows.fnTokensRow.laid w) false (World.doorLaid Tryd.prog 400 os) #[.slice none 0 0] 8 rfl (World.shaped_of_RefB (by kernel_rfl) (by kernel_rfl)) (by kernel_rfl) (by kernel_rfl) (by kernel_rfl) (door_met os _)) ?_
 intro W base args ds gs before Rz hW _ _ hL _
 have cG : ∀ (j : Nat) t v, Tryd.f3.params[j]? = some t → args[j]? = some v → Value.okWide Tryd.prog W .any base t v := Rz
 have hW' := hW
 obtain ⟨p, q, hA0, hV, rfl, hfz, hnd⟩ := hW
 have hA : DataW.TrodAll enc Tryd.prog W 0 (fun _ => true) true Tryd.f3.params.toList args.toList ds p := hA0
 rw [Tryd.params3] at hA cG
 obtain ⟨v0, vs0, d0, ds0, p0, q0, hargs, rfl, rfl, h0, r0⟩ := trodAll_cons hA
 obtain ⟨rfl, rfl, rfl⟩ := trodAll_nil r0
 obtain rfl : args = #[v0] := by cases args; simp_all
 obtain ⟨_, _, _, _, d1, _, _, _, _, _, d2, _, rfl, _, _, _, _, _, _, _, _, _⟩ := trodVars_two hV
 obtain ⟨fuel, hfu⟩ := h0
 obtain ⟨va, vl, vc, rfl⟩ := okWide_slice Tryd.underlying22 (cG 0 22 v0 rfl rfl)
 have lR : (Value.slice va vl vc).cells.toList = [.slice va vl vc] := rfl
 rw [lR] at hfu
 obtain ⟨ca, cn, cc, xg, hn, yI⟩ := A1 Tryd.underlying22 Tryd.underlying5 (by kernel_rfl) hfu
 rw [xg]
 rw [xg] at hW'
 refine (Gy prc ca cn cc W hn yI (of_laid hL).1 (of_laid hL).2.1 (of_laid hL).2.2).mono fun e W' ⟨he, hb⟩ => ?_
 subst he
 exact ⟨_, rfl, Gz laidOut Tryd.underlying4 (by kernel_rfl) (by kernel_rfl) (by kernel_rfl) rfl hW' hb⟩
theorem said : Rows.FnTokensSaid :=
 OpenClaim.holds_of_wide 3 Tryd.f3 rfl rfl rfl rfl rfl rfl rfl ⟨rfl, rfl, rfl, rfl, rfl⟩ rfl rfl rfl rfl rfl (by kernel_rfl) Tryd.func3 (by kernel_rfl)
  (of_decide_eq_true (by kernel_rfl)) (by unfold Func.isWrapper; first | (rw [if_pos (by decide +kernel)]; kernel_rfl) | (rw [if_neg (by decide +kernel)]; exact ⟨rfl, rfl⟩))
  (fun os started H enc _ => lifted os started H enc)
theorem plain (f : FuncId) (fn : Func) (hf : Tryd.pinned.checked.prog.funcNamed "loop.example/g00135/laws.FnTokens" = some f) (Om : Tryd.pinned.checked.prog.funcs[f]? = some fn) :
  false = Tryd.pinned.checked.prog.looks [] ∧ ∀ (j : Nat) t, fn.params[j]? = some t → Tryd.pinned.checked.prog.wantsStandIn t = false := by
 obtain rfl : f = 3 := Option.some.inj ((show Tryd.prog.funcNamed "loop.example/g00135/laws.FnTokens" = some 3 by kernel_rfl).symm.trans hf) |>.symm
 obtain rfl : fn = Tryd.f3 := (Option.some.inj (Tryd.func3.symm.trans Om)).symm
 refine ⟨by kernel_rfl, fun j t ht => ?_⟩
 rw [Tryd.params3] at ht
 obtain rfl : t = 22 := by simpa using Array.mem_of_getElem? ht
 exact (show Tryd.prog.wantsStandIn 22 = false by kernel_rfl)
end Tk
theorem fnTokens_card : Rows.FnTokensCardSaid :=
 Claim7.holds_tied_plain_at .later [] _ _ _ _ Tk.said (fun _ h => by cases h) (by kernel_rfl) (fun _ h => by cases h) fnTokens_row_tie rfl ⟨rfl, rfl⟩ (by kernel_rfl) rfl Tk.plain (by kernel_rfl)
#print axioms fnTokens_card
end
end Go.Proofs.YtkfbbdhidecefaaDoor
