/- Proved: for every slice of bytes, however long, laws.FnChecks returns true, that is, of the program that spec.ProgramOf draws of the bytes impl.Check answers no fault, impl.TypesOf answers the types that the specification's TypesOf answers, one for each node, and impl.TestsOf the names that the specification's TestsOf answers (the law itself asks nothing of more than 1048576 bytes); it writes into no argument, and nothing that was in memory is changed; the package variables errors.errorType, impl.takenWords, impl.kidForms and impl.caseForms hold what their initialisers lay (the card ties them). -/
import Derived.Test.YteaocammohcgoaaGreatDoorCards
import Derived.Test.YteaocammohcgoaaGreatDoorTie
import Derived.Test.YteaocammohcgoaaGreatDoorQKhC
import Derived.Test.YteaocammohcgoaaGreatDoorQDK
import Derived.Test.YteaocammohcgoaaGreatDoorQDJ
set_option linter.unusedVariables false
set_option maxHeartbeats 16000000
set_option maxRecDepth 100000
namespace Go.Proofs.YteaocammohcgoaaGreatDoor
open Go.RowKit
section
open Go.RowKit Go.ChangeShapes Go.WideShapes
theorem wj {H : Type} {enc : TypeId × Value → H} {P : Program} {W : World} {sp : Nat → Bool} {held : Bool} {t e : TypeId} {fuel : Nat} {d : Value} {x : DataW H × List MemPlace} (ht : P.underlying t = some (.slice e)) (he : P.underlying e = some (.int .u8)) (ce : P.cellsOf e = 1)
  (h : DataW.trod enc P W 0 sp held fuel t [d] = some x) : ∃ ca cn cc, d = .slice ca cn cc ∧ cn ≤ 9223372036854775807 ∧ Bytes W.heap.size W ca cn := by
 rcases DataW.trod_slice ht h with ⟨e3, _⟩ | ⟨ad, len, cap, elems, rest, q, hq, e3, _, _, Kf, OH, RD, Ih, _, _⟩
 ·obtain rfl : d = .slice none 0 0 := by simpa using e3
  exact ⟨none, 0, 0, rfl, by omega, .inl rfl⟩
 ·obtain rfl : d = .slice (some ad) len cap := by simpa using e3
  unfold maxLen at OH
  refine ⟨some ad, len, cap, rfl, by omega, ?_⟩
  by_cases h0 : len = 0
  ·exact .inl h0
  ·have hk : ∀ i, i < len → ∃ b : Nat, b < 256 ∧ W.cells? 0 (ad.add (i * 1)) 1 = some [.int .u8 (b : Int)] := by
    intro i hi
    have := Ih i hi
    rw [ce, List.getElem?_eq_getElem (by omega : i < elems.length), Option.bind_eq_some_iff] at this
    obtain ⟨cs', vH, htr⟩ := this
    obtain ⟨z, e0, _, w0⟩ := DataW.trod_int he htr
    rw [e0] at vH
    have w1 : 0 ≤ z ∧ z ≤ 255 := by simpa [Lit.wf, IntKind.min, IntKind.max, IntKind.signed, IntKind.bits] using w0
    exact ⟨z.toNat, by omega, by rw [show ((z.toNat : Nat) : Int) = z by omega]; exact vH⟩
   obtain ⟨b0, _, iY⟩ := hk 0 (by omega)
   have eT := (World.cells?_some iY).2.2 0 (by omega)
   have e : (ad.add (0 * 1)).add 0 = ad := by simp [Addr.add]
   rw [e] at eT
   have had := At eT
   refine .inr ⟨ad.block, ad.off, by rw [← had], IQ eT, fun i hi => ?_⟩
   obtain ⟨b, hb, hbc⟩ := hk i hi
   have RN := (World.cells?_some hbc).2.2 0 (by omega)
   rw [vk (vk had (i * 1)) 0] at RN
   exact ⟨b, hb, by simpa using RN⟩
end
section
namespace Tr
open Go.ChangeShapes Go.WideShapes Go.ChangeAt Go.WideMaps Go.WideElems Go.RowKit
theorem prc : PRC := fun sb A w hA h => (wh 46184 233000 30 (by omega) (by omega) (by omega) bd_2 sb A w (by omega) h).mono fun e w' ⟨T, a, c, he, hd⟩ => ⟨T, a, c, he, hd.more (by omega)⟩
theorem lifted (os : Os) (started : os.Started) (H : Type) (enc : TypeId × Value → H) :
  ReturnsInHanded {} Tryz.checked os 3 .any (fun w args => (Rows.fnChecksSpec.pre enc Tryz.prog Tryz.f3 [] false w args ∧ laidMetH Tryz.prog laid w) ∧ sizedMet enc Tryz.prog Tryz.f3 (OpenSpec.ofChange Rows.fnChecksSpec) false w args)
   (Rows.fnChecksSpec.post enc Tryz.prog Tryz.f3 false true false false) := by
 refine returnsInHanded_of_change_and (C := Tryz.checked) (X := fun w _ => laidMetH Tryz.prog laid w) (fun _ _ _ hh h => h.of_heap hh) own started (by kernel_rfl) Tryz.func3
  (ChangeSpec.witness_shaped (enc := enc) (C := Tryz.checked) (os := os) (X := fun w _ => laidMetH Tryz.prog laid w) false (World.doorLaid Tryz.prog 400 os) #[.slice none 0 0] 8 rfl (World.shaped_of_RefB (by kernel_rfl) (by kernel_rfl)) (by kernel_rfl) (by kernel_rfl) (by kernel_rfl) (door_met os _)) ?_
 intro W base args ds gs before QK hW _ _ hL _
 have QL : ∀ (j : Nat) t v, Tryz.f3.params[j]? = some t → args[j]? = some v → Value.okWide Tryz.prog W .any base t v := QK
 have hW' := hW
 obtain ⟨p, q, hA0, hV, rfl, hfz, hnd⟩ := hW
 have hA : DataW.TrodAll enc Tryz.prog W 0 (fun _ => true) true Tryz.f3.params.toList args.toList ds p := hA0
 rw [Tryz.params3] at hA QL
 obtain ⟨v0, vs0, d0, ds0, p0, q0, hargs, rfl, rfl, h0, r0⟩ := trodAll_cons hA
 obtain ⟨rfl, rfl, rfl⟩ := trodAll_nil r0
 obtain rfl : args = #[v0] := by cases args; simp_all
 obtain ⟨d1, d2, d3, rfl⟩ := three gs (show gs.length = 3 from vars_len hV)
 obtain ⟨fuel, hfu⟩ := h0
 obtain ⟨va, vl, vc, rfl⟩ := okWide_slice Tryz.underlying22 (QL 0 22 v0 rfl rfl)
 have bV : (Value.slice va vl vc).cells.toList = [.slice va vl vc] := rfl
 rw [bV] at hfu
 obtain ⟨ca, cn, cc, rL, hn, OI⟩ := wj Tryz.underlying22 Tryz.underlying5 (by kernel_rfl) hfu
 rw [rL]
 rw [rL] at hW'
 refine (wy prc ca cn cc W hn OI (of_laid hL).1 (of_laid hL).2).mono fun e W' ⟨he, hb⟩ => ?_
 subst he
 exact ⟨_, rfl, Dx laidOut Tryz.underlying4 (by kernel_rfl) (by kernel_rfl) (by kernel_rfl) rfl hW' hb⟩
theorem said : Rows.FnChecksSaid :=
 OpenClaim.holds_of_wide 3 Tryz.f3 rfl rfl rfl rfl rfl rfl rfl ⟨rfl, rfl, rfl, rfl, rfl⟩ rfl rfl rfl rfl rfl (by kernel_rfl) Tryz.func3 (by kernel_rfl)
  (of_decide_eq_true (by kernel_rfl)) (by unfold Func.isWrapper; first | (rw [if_pos (by decide +kernel)]; kernel_rfl) | (rw [if_neg (by decide +kernel)]; exact ⟨rfl, rfl⟩))
  (fun os started H enc _ => lifted os started H enc)
theorem plain (f : FuncId) (fn : Func) (hf : Tryz.pinned.checked.prog.funcNamed "loop.example/g00135/laws.FnChecks" = some f) (MB : Tryz.pinned.checked.prog.funcs[f]? = some fn) :
  true = Tryz.pinned.checked.prog.looks [] ∧ ∀ (j : Nat) t, fn.params[j]? = some t → Tryz.pinned.checked.prog.wantsStandIn t = false := by
 obtain rfl : f = 3 := Option.some.inj ((show Tryz.prog.funcNamed "loop.example/g00135/laws.FnChecks" = some 3 by kernel_rfl).symm.trans hf) |>.symm
 obtain rfl : fn = Tryz.f3 := (Option.some.inj (Tryz.func3.symm.trans MB)).symm
 refine ⟨by kernel_rfl, fun j t ht => ?_⟩
 rw [Tryz.params3] at ht
 obtain rfl : t = 22 := by simpa using Array.mem_of_getElem? ht
 exact (show Tryz.prog.wantsStandIn 22 = false by kernel_rfl)
end Tr
theorem fnChecks_card : Rows.FnChecksCardSaid :=
 Claim7.holds_tied_plain_at .later [] _ _ _ _ Tr.said (fun _ h => by cases h) (by kernel_rfl) (fun _ h => by cases h) fnChecks_row_tie rfl ⟨rfl, rfl⟩ (by kernel_rfl) rfl Tr.plain (by kernel_rfl)
#print axioms fnChecks_card
end
end Go.Proofs.YteaocammohcgoaaGreatDoor
