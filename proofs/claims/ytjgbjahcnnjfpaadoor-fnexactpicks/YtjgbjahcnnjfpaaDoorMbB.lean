/- The specification's tests of nodes, a theorem a kind. -/
import Derived.Test.YtjgbjahcnnjfpaaDoorMbA
import Derived.WalkSpells
import Derived.WalkSmall
set_option linter.unusedVariables false
namespace Go.Proofs.YtjgbjahcnnjfpaaDoor
open Go.RowKit

set_option maxHeartbeats 4000000 in
theorem expr_22 (T : Nd) (hk : T.kind = 22) (hE : ExprsC T) (hK : KidsC T) : ExprC T := by
  intro w v hi hf hhi hr
  have hn := T.fine_len hf
  have hs := T.fine_name hf
  obtain ⟨a, cap, hv, _, hq⟩ := row_eq.1 hr
  have HEO : Hid (T.eOk = exprB 22 T.num T.name T.len (fun i => (T.kids i).eOk) (fun i => (T.kids i).sOk) T.kk) := by have := eOk_eq T; rw [hk] at this; exact this
  have HE := hid_mk (fun W (hb : Below w.heap.size w W) => hE W v hi hf (by have := hb.size; omega) (row_below hb hhi hr))
  have HK := hid_mk (fun W (hb : Below w.heap.size w W) sorts => hK W v hi sorts hf (by have := hb.size; omega) (row_below hb hhi hr))
  have HQ := hid_mk hq
  have HS : Hid (T.name.size ≤ maxLen) := by unfold Hid maxLen; exact hs
  have HB : ∀ o : Obj, Hid (Below w.heap.size w (w.alloc o)) := fun o => (Below.refl _ _).alloc (Nat.le_refl _) _
  unfold Nd.val at *
  rw [hk] at *
  subst hv
  clear hf hr hE hK hs hk hq
  generalize T.num = tn at *
  generalize T.name = ts at *
  cases he : ts.toList.isEmpty
  all_goals cases h1 : decide (0 ≤ tn)
  all_goals cases h2 : decide (tn ≤ 999999999999999999)
  all_goals cases h3 : ((T.len : Int) == 0)
  all_goals go_enter Tryd.func79, Tryd.ntmps79
  all_goals go_wp2
  all_goals go_ret
  all_goals refine ⟨ret_bool (by rw [HEO.out]; unfold exprB; simp only [emptyB, he, h1, h2, len0_b h3]; rfl), ?_⟩
  all_goals first | exact (HB _).out | exact (HB _).out.trans (hb1.mono (by simp)) | exact (HB _).out.trans (hb2.mono (by simp)) | exact ((HB _).out.trans (hb1.mono (by simp))).trans (hb2.mono (by omega)) | exact ((HB _).out.trans (hb2.mono (by simp))).trans (hb3.mono (by omega))

set_option maxHeartbeats 4000000 in
theorem expr_23 (T : Nd) (hk : T.kind = 23) (hE : ExprsC T) (hK : KidsC T) : ExprC T := by
  intro w v hi hf hhi hr
  have hn := T.fine_len hf
  have hs := T.fine_name hf
  obtain ⟨a, cap, hv, _, hq⟩ := row_eq.1 hr
  have HEO : Hid (T.eOk = exprB 23 T.num T.name T.len (fun i => (T.kids i).eOk) (fun i => (T.kids i).sOk) T.kk) := by have := eOk_eq T; rw [hk] at this; exact this
  have HE := hid_mk (fun W (hb : Below w.heap.size w W) => hE W v hi hf (by have := hb.size; omega) (row_below hb hhi hr))
  have HK := hid_mk (fun W (hb : Below w.heap.size w W) sorts => hK W v hi sorts hf (by have := hb.size; omega) (row_below hb hhi hr))
  have HQ := hid_mk hq
  have HS : Hid (T.name.size ≤ maxLen) := by unfold Hid maxLen; exact hs
  have HB : ∀ o : Obj, Hid (Below w.heap.size w (w.alloc o)) := fun o => (Below.refl _ _).alloc (Nat.le_refl _) _
  unfold Nd.val at *
  rw [hk] at *
  subst hv
  clear hf hr hE hK hs hk hq
  generalize T.num = tn at *
  generalize T.name = ts at *
  cases he : ts.toList.isEmpty
  all_goals cases h1 : (tn == 0)
  all_goals cases h2 : (tn == 1)
  all_goals cases h3 : ((T.len : Int) == 0)
  all_goals go_enter Tryd.func79, Tryd.ntmps79
  all_goals go_wp2
  all_goals go_ret
  all_goals refine ⟨ret_bool (by rw [HEO.out]; unfold exprB; simp only [emptyB, he, num_b h1, num_b h2, len0_b h3]; rfl), ?_⟩
  all_goals first | exact (HB _).out | exact (HB _).out.trans (hb1.mono (by simp)) | exact (HB _).out.trans (hb2.mono (by simp)) | exact ((HB _).out.trans (hb1.mono (by simp))).trans (hb2.mono (by omega)) | exact ((HB _).out.trans (hb2.mono (by simp))).trans (hb3.mono (by omega))

end Go.Proofs.YtjgbjahcnnjfpaaDoor
