/- The specification's test of a statement: an expression that stands alone; lists; other kinds. -/
import Derived.Test.YtokhcdkhcbcljadDoorSpBits
import Derived.WalkSpells
import Derived.WalkSmall
import Derived.Deep.LoopGhost
set_option linter.unusedVariables false
namespace Go.Proofs.YtokhcdkhcbcljadDoor
open Go.RowKit


set_option maxHeartbeats 4000000 in
set_option maxRecDepth 100000 in
theorem expr_other (T : Nd) (hne : ∀ k : Int, k ∈ [22, 23, 24, 25, 26, 27, 28, 29] → T.kind ≠ k) : ExprC T := by
  intro w v hi hf hhi hr
  have hs := T.fine_name hf
  obtain ⟨a, cap, hv, _, hq⟩ := row_eq.1 hr
  have HEO : Hid (T.eOk = false) := by
    unfold Hid; rw [eOk_eq T]; unfold exprB
    simp only [List.mem_cons, List.not_mem_nil, or_false, forall_eq_or_imp, forall_eq] at hne
    simp only [hne, if_false]
  have HB : ∀ o : Obj, Hid (Below w.heap.size w (w.alloc o)) := fun o => (Below.refl _ _).alloc (Nat.le_refl _) _
  have n22 : (T.kind == 22) = false := beq_eq_false_iff_ne.2 (hne 22 (by simp))
  have n23 : (T.kind == 23) = false := beq_eq_false_iff_ne.2 (hne 23 (by simp))
  have n24 : (T.kind == 24) = false := beq_eq_false_iff_ne.2 (hne 24 (by simp))
  have n25 : (T.kind == 25) = false := beq_eq_false_iff_ne.2 (hne 25 (by simp))
  have n26 : (T.kind == 26) = false := beq_eq_false_iff_ne.2 (hne 26 (by simp))
  have n27 : (T.kind == 27) = false := beq_eq_false_iff_ne.2 (hne 27 (by simp))
  have n28 : (T.kind == 28) = false := beq_eq_false_iff_ne.2 (hne 28 (by simp))
  have n29 : (T.kind == 29) = false := beq_eq_false_iff_ne.2 (hne 29 (by simp))
  have m22 : (T.kind != 22) = true := by rw [bne_iff_ne]; exact hne 22 (by simp)
  have m23 : (T.kind != 23) = true := by rw [bne_iff_ne]; exact hne 23 (by simp)
  unfold Nd.val at *
  subst hv
  clear hf hr hq hne
  generalize T.kind = tk at *
  generalize T.num = tn at *
  generalize T.name = ts at *
  cases he : ts.toList.isEmpty
  all_goals cases h1 : (tn != 0)
  all_goals go_enter Tryd.func69, Tryd.ntmps69
  all_goals go_wp2
  all_goals go_ret
  all_goals exact ⟨ret_bool HEO.out.symm, (HB _).out⟩

set_option maxHeartbeats 4000000 in
set_option maxRecDepth 100000 in
theorem stmt_other (T : Nd) (hne : ∀ k : Int, k ∈ [4, 5, 6, 7, 8, 9, 10, 11, 12, 13, 14, 15, 17, 18, 19, 20, 21] → T.kind ≠ k) : StmtC T := by
  intro w v hi hf hhi hr
  have hs := T.fine_name hf
  obtain ⟨a, cap, hv, _, hq⟩ := row_eq.1 hr
  have HEO : Hid (T.sOk = false) := by
    unfold Hid; rw [sOk_eq T]; unfold stmtB
    simp only [List.mem_cons, List.not_mem_nil, or_false, forall_eq_or_imp, forall_eq] at hne
    simp only [hne, or_self, if_false]
  have HB : ∀ o : Obj, Hid (Below w.heap.size w (w.alloc o)) := fun o => (Below.refl _ _).alloc (Nat.le_refl _) _
  have n4 : (T.kind == 4) = false := beq_eq_false_iff_ne.2 (hne 4 (by simp))
  have n5 : (T.kind == 5) = false := beq_eq_false_iff_ne.2 (hne 5 (by simp))
  have n6 : (T.kind == 6) = false := beq_eq_false_iff_ne.2 (hne 6 (by simp))
  have n7 : (T.kind == 7) = false := beq_eq_false_iff_ne.2 (hne 7 (by simp))
  have n8 : (T.kind == 8) = false := beq_eq_false_iff_ne.2 (hne 8 (by simp))
  have n9 : (T.kind == 9) = false := beq_eq_false_iff_ne.2 (hne 9 (by simp))
  have n10 : (T.kind == 10) = false := beq_eq_false_iff_ne.2 (hne 10 (by simp))
  have n11 : (T.kind == 11) = false := beq_eq_false_iff_ne.2 (hne 11 (by simp))
  have n12 : (T.kind == 12) = false := beq_eq_false_iff_ne.2 (hne 12 (by simp))
  have n13 : (T.kind == 13) = false := beq_eq_false_iff_ne.2 (hne 13 (by simp))
  have n14 : (T.kind == 14) = false := beq_eq_false_iff_ne.2 (hne 14 (by simp))
  have n15 : (T.kind == 15) = false := beq_eq_false_iff_ne.2 (hne 15 (by simp))
  have n17 : (T.kind == 17) = false := beq_eq_false_iff_ne.2 (hne 17 (by simp))
  have n18 : (T.kind == 18) = false := beq_eq_false_iff_ne.2 (hne 18 (by simp))
  have n19 : (T.kind == 19) = false := beq_eq_false_iff_ne.2 (hne 19 (by simp))
  have n20 : (T.kind == 20) = false := beq_eq_false_iff_ne.2 (hne 20 (by simp))
  have n21 : (T.kind == 21) = false := beq_eq_false_iff_ne.2 (hne 21 (by simp))
  have m7 : (T.kind != 7) = true := by rw [bne_iff_ne]; exact hne 7 (by simp)
  unfold Nd.val at *
  subst hv
  clear hf hr hq hne
  generalize T.kind = tk at *
  generalize T.num = tn at *
  generalize T.name = ts at *
  cases he : ts.toList.isEmpty
  all_goals cases h1 : (tn != 0)
  all_goals go_enter Tryd.func44, Tryd.ntmps44
  all_goals go_wp2
  all_goals go_ret
  all_goals exact ⟨ret_bool HEO.out.symm, (HB _).out⟩
end Go.Proofs.YtokhcdkhcbcljadDoor
