/- A region whose order is drawn, by an invariant: what holds of each operation that has come up, in whatever order they come up. -/
import Derived.Orders
set_option linter.unusedVariables false
namespace Go.Proofs.YtnjidekfmmebiaaDoor
open Go

/-- How many operations have not come up. -/
def unl (ops : Array Oper) (listed : Array Bool) : Nat := (List.range ops.size).countP fun i => !listed.getD i true
theorem ready_unl {md : Region.Mode} {ops : Array Oper} {listed : Array Bool} {i : Nat} (h : i ∈ Region.ready md ops listed) : i < ops.size ∧ listed.getD i true = false := by
  unfold Region.ready at h
  simp only [List.mem_filter, List.mem_range, Bool.and_eq_true, Bool.not_eq_true'] at h
  exact ⟨h.1, h.2.1⟩
theorem unl_pos {md : Region.Mode} {ops : Array Oper} {listed : Array Bool} {i : Nat} (h : i ∈ Region.ready md ops listed) : 0 < unl ops listed := by
  obtain ⟨h1, h2⟩ := ready_unl h
  unfold unl
  rw [List.countP_pos_iff]
  exact ⟨i, List.mem_range.2 h1, by simp [h2]⟩
theorem unl_set {md : Region.Mode} {ops : Array Oper} {listed : Array Bool} {i : Nat} (h : i ∈ Region.ready md ops listed) : unl ops (listed.setIfInBounds i true) < unl ops listed := by
  obtain ⟨h1, h2⟩ := ready_unl h
  have hlt : i < listed.size := by
    rcases Nat.lt_or_ge i listed.size with h | h
    · exact h
    · rw [Array.getD_eq_getD_getElem?, Array.getElem?_eq_none h] at h2; simp at h2
  unfold unl
  have hle : ∀ j, (!(listed.setIfInBounds i true).getD j true) = true → (!listed.getD j true) = true := by
    intro j hj
    rw [Array.getD_eq_getD_getElem?, Array.getElem?_setIfInBounds] at hj
    split at hj
    · rename_i e; simp at hj
    · rw [Array.getD_eq_getD_getElem?]; exact hj
  have hi : (!(listed.setIfInBounds i true).getD i true) = false := by
    rw [Array.getD_eq_getD_getElem?, Array.getElem?_setIfInBounds]; simp [hlt]
  have hi' : (!listed.getD i true) = true := by simp [h2]
  have hmem : i ∈ List.range ops.size := List.mem_range.2 h1
  revert hmem
  generalize List.range ops.size = l
  intro hmem
  induction l with
  | nil => cases hmem
  | cons x l ih =>
    have hmono := List.countP_mono_left (l := l) (fun j _ hj => hle j hj)
    simp only [List.countP_cons]
    rcases List.mem_cons.1 hmem with e | hm
    · subst e
      rw [hi, hi']
      simp only [Bool.false_eq_true, if_false, if_true]
      omega
    · have := ih hm
      have hx := hle x
      by_cases hb : (!(listed.setIfInBounds i true).getD x true) = true
      · rw [if_pos hb, if_pos (hx hb)]; omega
      · rw [if_neg hb]; omega
theorem wpAny_inv {P : Program} {ops : Array Oper} {Q : Exit → Act → World → Prop} {md : Region.Mode} (I : Array Bool → Act → World → Prop)
    (hstep : ∀ (listed : Array Bool) (a : Act) (w : World) (i : Nat), I listed a w → i ∈ Region.ready md ops listed → wpOp P ops Q i (fun a' w' => I (listed.setIfInBounds i true) a' w') a w)
    (hend : ∀ (listed : Array Bool) (a : Act) (w : World), I listed a w → Region.ready md ops listed = [] → Q .normal a w) :
    ∀ (fuel : Nat) (listed : Array Bool) (a : Act) (w : World), unl ops listed ≤ fuel → I listed a w → wpAny P md ops Q fuel listed a w := by
  intro fuel
  induction fuel with
  | zero =>
    intro listed a w hu hI
    have hr : Region.ready md ops listed = [] := by
      cases h : Region.ready md ops listed with
      | nil => rfl
      | cons i l => have := unl_pos (show i ∈ Region.ready md ops listed by rw [h]; simp); omega
    exact ⟨hr, hend _ _ _ hI hr⟩
  | succ fuel ih =>
    intro listed a w hu hI
    refine ⟨fun hr => hend _ _ _ hI hr, fun i hi => ?_⟩
    refine wpOp_mono (fun a' w' h => ih _ a' w' ?_ h) (hstep listed a w i hI hi)
    have := unl_set hi
    omega
end Go.Proofs.YtnjidekfmmebiaaDoor
