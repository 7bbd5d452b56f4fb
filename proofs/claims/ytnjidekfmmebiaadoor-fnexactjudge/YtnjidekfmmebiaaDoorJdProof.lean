/- Proved: for every two of laws.Report, whatever they hold, however long their lists and the lists in them are and whatever memory they share, laws.FnExactJudge returns true, that is, impl.Judge answers as the specification's Judge, the verdict and the script (the law itself asks nothing where the lists, and the lists in them, together are longer than 1048576); it writes into no argument, its answer's list is memory of its own, also behind another call, and nothing that was in memory is changed; the package variables internal/strconv.uint64pow10, math/bits.deBruijn32tab and deBruijn64tab hold what their initialisers lay (the card ties them). -/
import Derived.Test.YtnjidekfmmebiaaDoorCards
import Derived.Test.YtnjidekfmmebiaaDoorTie
import Derived.Test.YtnjidekfmmebiaaDoorSeLaid
import Derived.Test.YtnjidekfmmebiaaDoorJdLaw
import Derived.Test.YtnjidekfmmebiaaDoorSwOpen
namespace Go.Proofs.YtnjidekfmmebiaaDoor
namespace Tr
open Go.ChangeShapes Go.WideShapes Go.ChangeAt Go.WideMaps Go.WideElems Go.RowKit

theorem open_laws {H : Type} {enc : TypeId × Value → H} {W : World} {sp : Nat → Bool} {held : Bool} {base : Nat} {v : Value} {fuel : Nat} {x : DataW H × List MemPlace} (hv : Value.okWide Tryd.prog W .any base 31 v) (h : DataW.trod enc Tryd.prog W 0 sp held fuel 31 v.cells.toList = some x) :
    ∃ (R : Rp) (a : Value), v = R.val a ∧ OkS R.ls ∧ Rw 0 W.heap.size W R.ls a := by
  unfold Value.okWide at hv
  rw [Tryd.underlying31] at hv
  obtain ⟨cs, rfl, _, _⟩ := hv
  have h' : DataW.trod enc Tryd.prog W 0 sp held fuel 31 cs.toList = some x := h
  obtain ⟨xs, n, rfl, _, hl, hxl, hx⟩ := DataW.trod_struct Tryd.underlying31 h'
  have ct : Tryd.prog.cellsOf 31 = 3 := by kernel_rfl
  rw [ct] at hl
  obtain ⟨a, b, c, hcs⟩ : ∃ a b c, cs.toList = [a, b, c] := by
    match cs.toList, hl with
    | [a, b, c], _ => exact ⟨a, b, c, rfl⟩
  obtain rfl : cs = #[a, b, c] := by cases cs; simp_all
  obtain ⟨y0, y1, y2, rfl⟩ : ∃ a b c, xs = [a, b, c] := by
    match xs, hxl with
    | [a, b, c], _ => exact ⟨a, b, c, rfl⟩
  have h0 := hx 0 _ rfl
  have h1 := hx 1 _ rfl
  have h2 := hx 2 _ rfl
  have c0 : Tryd.prog.cellsOf 22 = 1 := by kernel_rfl
  have c1 : Tryd.prog.cellsOf 4 = 1 := by kernel_rfl
  have c2 : Tryd.prog.cellsOf 3 = 1 := by kernel_rfl
  obtain ⟨ex, e1, _⟩ := DataW.trod_bool Tryd.underlying4 h1
  obtain ⟨ru, e2, _, _⟩ := DataW.trod_int Tryd.underlying3 h2
  obtain rfl : b = .bool ex := by simpa [c1] using e1
  obtain rfl : c = .int .i64 ru := by simpa [c2] using e2
  obtain ⟨ss, hok, hrw⟩ := open_sns Tryd.underlying22 Tryd.underlying46 rfl rfl rfl rfl rfl Tryd.underlying3 Tryd.underlying3 Tryd.underlying3 Tryd.underlying33 Tryd.underlying33 Tryd.underlying3 (by kernel_rfl) (by kernel_rfl) (by kernel_rfl) (by kernel_rfl) (by kernel_rfl) (by kernel_rfl) (by kernel_rfl) _ a _ (by simpa [c0] using h0)
  exact ⟨⟨ss, ex, ru⟩, a, rfl, hok, hrw⟩

set_option maxRecDepth 100000 in
theorem lifted (os : Os) (started : os.Started) (H : Type) (enc : TypeId × Value → H) :
    ReturnsInHanded {} Tryd.checked os 4 .any (fun w args => (Rows.fnExactJudgeSpec.pre enc Tryd.prog Tryd.f4 [] false w args ∧ laidMetH Tryd.prog laid w) ∧ sizedMet enc Tryd.prog Tryd.f4 (OpenSpec.ofChange Rows.fnExactJudgeSpec) false w args)
      (Rows.fnExactJudgeSpec.post enc Tryd.prog Tryd.f4 false true false false) := by
  refine returnsInHanded_of_change_and (C := Tryd.checked) (X := fun w _ => laidMetH Tryd.prog laid w) (fun _ _ _ hh h => h.of_heap hh) own started (by kernel_rfl) Tryd.func4
    (ChangeSpec.witness_shaped (enc := enc) (C := Tryd.checked) (os := os) (X := fun w _ => laidMetH Tryd.prog laid w) false (World.doorLaid Tryd.prog 400 os) #[.agg #[.slice none 0 0, .bool false, .int .i64 0], .agg #[.slice none 0 0, .bool false, .int .i64 0]] 8 rfl (World.shaped_of_RefB (by kernel_rfl) (by kernel_rfl)) (by kernel_rfl) (by kernel_rfl) (by kernel_rfl) (door_met os _)) ?_
  intro W base args ds gs before hval0 hW _ _ hL _
  have hval : ∀ (j : Nat) t v, Tryd.f4.params[j]? = some t → args[j]? = some v → Value.okWide Tryd.prog W .any base t v := hval0
  have hW' := hW
  obtain ⟨p, q, hA0, hV, rfl, hfz, hnd⟩ := hW
  have hA : DataW.TrodAll enc Tryd.prog W 0 (fun _ => true) true Tryd.f4.params.toList args.toList ds p := hA0
  rw [Tryd.params4] at hA hval
  obtain ⟨v0, vs0, d0, ds0, p0, q0, hargs, rfl, rfl, h0, r0⟩ := trodAll_cons hA
  obtain ⟨v1, vs1, d1, ds1, p1, q1, hargs1, rfl, rfl, h1, r1⟩ := trodAll_cons r0
  obtain ⟨rfl, rfl, rfl⟩ := trodAll_nil r1
  obtain rfl : args = #[v0, v1] := by cases args; simp_all
  obtain ⟨rfl, rfl⟩ : gs = [] ∧ q = [] := by
    cases gs with
    | nil => exact ⟨rfl, hV⟩
    | cons _ _ => exact hV.elim
  have hv0 := hval 0 31 v0 rfl rfl
  have hv1 := hval 1 31 v1 rfl rfl
  obtain ⟨fuel, hfu⟩ := h0
  obtain ⟨fuel1, hfu1⟩ := h1
  obtain ⟨B, a, rfl, hok, hat⟩ := open_laws hv0 hfu
  obtain ⟨M, b, rfl, hok1, hat1⟩ := open_laws hv1 hfu1
  refine (law_judge B M a b W hok hok1 hat hat1 (of_laid hL)).mono fun e W' ⟨he, hb⟩ => ?_
  subst he
  exact ⟨_, rfl, law_post laidOut Tryd.underlying4 (by kernel_rfl) (by kernel_rfl) (by kernel_rfl) rfl hW' hb⟩

theorem said : Rows.FnExactJudgeSaid :=
  OpenClaim.holds_of_wide 4 Tryd.f4 rfl rfl rfl rfl rfl rfl rfl ⟨rfl, rfl, rfl, rfl, rfl⟩ rfl rfl rfl rfl rfl (by kernel_rfl) Tryd.func4 (by kernel_rfl)
    (of_decide_eq_true (by kernel_rfl)) (by unfold Func.isWrapper; first | (rw [if_pos (by decide +kernel)]; kernel_rfl) | (rw [if_neg (by decide +kernel)]; exact ⟨rfl, rfl⟩))
    (fun os started H enc _ => lifted os started H enc)

theorem plain (f : FuncId) (fn : Func) (hf : Tryd.pinned.checked.prog.funcNamed "loop.example/g00135/laws.FnExactJudge" = some f) (hfn : Tryd.pinned.checked.prog.funcs[f]? = some fn) :
    false = Tryd.pinned.checked.prog.looks [] ∧ ∀ (j : Nat) t, fn.params[j]? = some t → Tryd.pinned.checked.prog.wantsStandIn t = false := by
  obtain rfl : f = 4 := Option.some.inj ((show Tryd.prog.funcNamed "loop.example/g00135/laws.FnExactJudge" = some 4 by kernel_rfl).symm.trans hf) |>.symm
  obtain rfl : fn = Tryd.f4 := (Option.some.inj (Tryd.func4.symm.trans hfn)).symm
  refine ⟨by kernel_rfl, fun j t ht => ?_⟩
  rw [Tryd.params4] at ht
  obtain rfl : t = 31 := by simpa using Array.mem_of_getElem? ht
  exact (show Tryd.prog.wantsStandIn 31 = false by kernel_rfl)
end Tr

theorem fnExactJudge_card : Rows.FnExactJudgeCardSaid :=
  Claim7.holds_tied_plain_at .later [] _ _ _ _ Tr.said (fun _ h => by cases h) (by kernel_rfl) (fun _ h => by cases h) fnExactJudge_row_tie rfl ⟨rfl, rfl⟩ (by kernel_rfl) rfl Tr.plain (by kernel_rfl)
#print axioms fnExactJudge_card
end Go.Proofs.YtnjidekfmmebiaaDoor
