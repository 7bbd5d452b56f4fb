/- Proved: for every tree of laws.Node, however deep and wide, and whatever it shares with itself, laws.FnExactSize returns true, that is, impl.Size answers as the specification's Size (the law itself asks nothing of a tree whose lengths of names and lists of kids add up to more than 1048576), it writes into no argument, and nothing that was in memory is changed. No condition but what the row's cell 'loops' says of the argument's type. -/
import Derived.Test.YtjgbjahcnnjfpaaRows
import Derived.Test.YtjgbjahcnnjfpaaSizeLaw
import Derived.Test.YtjgbjahcnnjfpaaNdOpen
import Derived.Test.YtjgbjahcnnjfpaaClose
import Derived.ProofKit
import Derived.JoinedOf
import Derived.OpenShut
namespace Go.Proofs.Ytjgbjahcnnjfpaa
namespace Sz
open Go.ChangeShapes Go.WideShapes Go.ChangeAt Go.RowKit

theorem own : ownKnob Try.prog.godebug = none := by kernel_rfl
theorem laidOut : laidOutB Try.prog = true := by kernel_rfl

set_option maxRecDepth 100000 in
theorem lifted (os : Os) (started : os.Started) (H : Type) (enc : TypeId × Value → H) :
    ReturnsInHanded {} Try.checked os 3 .any (Rows.fnExactSizeSpec.pre6 enc Try.prog Try.f3 [] false) (Rows.fnExactSizeSpec.post enc Try.prog Try.f3 false true false false) := by
  refine returnsInHanded_of_change (C := Try.checked) own started (by kernel_rfl) Try.func3
    (ChangeSpec.witness6 (enc := enc) (C := Try.checked) false ⟨#[], #[.agg #[.int .i64 0, .int .i64 0, .string ByteArray.empty, .slice none 0 0]], []⟩ 8 (by kernel_rfl) (by kernel_rfl) (by kernel_rfl) (by kernel_rfl)) ?_
  intro W base args ds gs before hval0 hW _ _
  have hval : ∀ (j : Nat) t v, Try.f3.params[j]? = some t → args[j]? = some v → Value.okWide Try.prog W .any base t v := hval0
  have hW' := hW
  obtain ⟨p, q, hA0, hV, rfl, hfz, hnd⟩ := hW
  have hA : DataW.TrodAll enc Try.prog W 0 (fun _ => true) true Try.f3.params.toList args.toList ds p := hA0
  rw [Try.params3] at hA hval
  obtain ⟨v0, vs0, d0, ds0, p0, q0, hargs, rfl, rfl, h0, r0⟩ := trodAll_cons hA
  obtain ⟨rfl, rfl, rfl⟩ := trodAll_nil r0
  obtain rfl : args = #[v0] := by cases args; simp_all
  obtain ⟨rfl, rfl⟩ : gs = [] ∧ q = [] := by
    cases gs with
    | nil => exact ⟨rfl, hV⟩
    | cons _ _ => exact hV.elim
  have hv0 := hval 0 24 v0 rfl rfl
  unfold Value.okWide at hv0
  rw [Try.underlying24] at hv0
  obtain ⟨cs, rfl, _, _⟩ := hv0
  obtain ⟨fuel, hfu⟩ := h0
  obtain ⟨T, u, hcs, hf, hr⟩ := open_nd Try.underlying24 rfl rfl rfl rfl Try.underlying3 Try.underlying3 Try.underlying9 Try.underlying22 (by kernel_rfl) (by kernel_rfl) (by kernel_rfl) (by kernel_rfl) (by kernel_rfl) fuel _ _ hfu
  have hcs' : cs.toList = [.int .i64 T.kind, .int .i64 T.num, .string T.name, u] := hcs
  obtain rfl : cs = #[.int .i64 T.kind, .int .i64 T.num, .string T.name, u] := by cases cs; simp_all
  refine (law_size T u W hf hr).mono fun e W' ⟨he, hb⟩ => ?_
  subst he
  exact ⟨_, rfl, law_post laidOut Try.underlying4 (by kernel_rfl) (by kernel_rfl) (by kernel_rfl) rfl hW' hb⟩
end Sz

theorem fnExactSize_said : Rows.FnExactSizeSaid :=
  OpenClaim.holds_of_wide 3 Try.f3 rfl rfl rfl rfl rfl rfl rfl ⟨rfl, rfl, rfl, rfl, rfl⟩ rfl rfl rfl rfl rfl (by kernel_rfl) Try.func3 (by kernel_rfl)
    (of_decide_eq_true (by kernel_rfl)) (by unfold Func.isWrapper; first | (rw [if_pos (by decide +kernel)]; kernel_rfl) | (rw [if_neg (by decide +kernel)]; exact ⟨rfl, rfl⟩))
    (fun os started H enc _ => Sz.lifted os started H enc)
#print axioms fnExactSize_said
end Go.Proofs.Ytjgbjahcnnjfpaa
