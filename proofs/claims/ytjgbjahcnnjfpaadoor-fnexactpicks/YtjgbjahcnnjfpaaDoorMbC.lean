/- The specification's tests of nodes, a theorem a kind. -/
import Derived.Test.YtjgbjahcnnjfpaaDoorMbA
import Derived.WalkSpells
import Derived.WalkSmall
set_option linter.unusedVariables false
namespace Go.Proofs.YtjgbjahcnnjfpaaDoor
open Go.RowKit

set_option maxHeartbeats 4000000 in
theorem expr_24 (T : Nd) (hk : T.kind = 24) (hE : ExprsC T) (hK : KidsC T) : ExprC T := by
  intro w v hi hf hhi hr
  have hn := T.fine_len hf
  have hs := T.fine_name hf
  obtain ⟨a, cap, hv, _, hq⟩ := row_eq.1 hr
  have HEO : Hid (T.eOk = exprB 24 T.num T.name T.len (fun i => (T.kids i).eOk) (fun i => (T.kids i).sOk) T.kk) := by have := eOk_eq T; rw [hk] at this; exact this
  have HE := hid_mk (fun W (hb : Below w.heap.size w W) => hE W v hi hf (by have := hb.size; omega) (row_below hb hhi hr))
  have HK := hid_mk (fun W (hb : Below w.heap.size w W) sorts => hK W v hi sorts hf (by have := hb.size; omega) (row_below hb hhi hr))
  have HQ := hid_mk hq
  have HS : Hid (T.name.size ≤ maxLen) := by unfold Hid maxLen; exact hs
  have HB : ∀ o : Obj, Hid (Below w.heap.size w (w.alloc o)) := fun o => (Below.refl _ _).alloc (Nat.le_refl _) _
  unfold Nd.val at *
  rw [hk] at *
  subst hv
  clear hf hr hE hK hs hk hq
  generalize T.num = tn at *
  generalize T.name = ts at *
  cases h1 : (tn != 0)
  all_goals cases hnm : nameB ts
  all_goals cases h3 : ((T.len : Int) == 0)
  all_goals go_enter Tryd.func79, Tryd.ntmps79
  all_goals go_wp2_with (first | (go_at_call 55; refine (spec_name _ _ HS.out).mono ?_; rw [hnm]; rintro e w1 ⟨rfl, hb1⟩; have hz1 := hb1.size; simp only [World.size_alloc] at hz1; obtain ⟨hc1, hf1⟩ := bcell hb1))
  all_goals go_ret
  all_goals refine ⟨ret_bool (by rw [HEO.out]; unfold exprB; simp only [emptyB, nz_b h1, hnm, len0_b h3]; rfl), ?_⟩
  all_goals first | exact (HB _).out | exact (HB _).out.trans (hb1.mono (by simp)) | exact (HB _).out.trans (hb2.mono (by simp)) | exact ((HB _).out.trans (hb1.mono (by simp))).trans (hb2.mono (by omega)) | exact ((HB _).out.trans (hb2.mono (by simp))).trans (hb3.mono (by omega))

set_option maxHeartbeats 4000000 in
theorem expr_25 (T : Nd) (hk : T.kind = 25) (hE : ExprsC T) (hK : KidsC T) : ExprC T := by
  intro w v hi hf hhi hr
  have hn := T.fine_len hf
  have hs := T.fine_name hf
  obtain ⟨a, cap, hv, _, hq⟩ := row_eq.1 hr
  have HEO : Hid (T.eOk = exprB 25 T.num T.name T.len (fun i => (T.kids i).eOk) (fun i => (T.kids i).sOk) T.kk) := by have := eOk_eq T; rw [hk] at this; exact this
  have HE := hid_mk (fun W (hb : Below w.heap.size w W) => hE W v hi hf (by have := hb.size; omega) (row_below hb hhi hr))
  have HK := hid_mk (fun W (hb : Below w.heap.size w W) sorts => hK W v hi sorts hf (by have := hb.size; omega) (row_below hb hhi hr))
  have HQ := hid_mk hq
  have HS : Hid (T.name.size ≤ maxLen) := by unfold Hid maxLen; exact hs
  have HB : ∀ o : Obj, Hid (Below w.heap.size w (w.alloc o)) := fun o => (Below.refl _ _).alloc (Nat.le_refl _) _
  unfold Nd.val at *
  rw [hk] at *
  subst hv
  clear hf hr hE hK hs hk hq
  generalize T.num = tn at *
  generalize T.name = ts at *
  cases h1 : (tn != 0)
  all_goals cases hnm : nameB ts
  all_goals cases hae : allTo (fun i => (T.kids i).eOk) T.len
  all_goals go_enter Tryd.func79, Tryd.ntmps79
  all_goals go_wp2_with (first | (go_at_call 55; refine (spec_name _ _ HS.out).mono ?_; rw [hnm]; rintro e w1 ⟨rfl, hb1⟩; have hz1 := hb1.size; simp only [World.size_alloc] at hz1; obtain ⟨hc1, hf1⟩ := bcell hb1) | (go_at_call 88; refine (HE.out _ (by first | exact (HB _).out | exact (HB _).out.trans (hb1.mono (by simp)))).mono ?_; rw [hae]; rintro e w2 ⟨rfl, hb2⟩))
  all_goals go_ret
  all_goals refine ⟨ret_bool (by rw [HEO.out]; unfold exprB; simp only [emptyB, nz_b h1, hnm, hae]; rfl), ?_⟩
  all_goals first | exact (HB _).out | exact (HB _).out.trans (hb1.mono (by simp)) | exact (HB _).out.trans (hb2.mono (by simp)) | exact ((HB _).out.trans (hb1.mono (by simp))).trans (hb2.mono (by omega)) | exact ((HB _).out.trans (hb2.mono (by simp))).trans (hb3.mono (by omega))

set_option maxHeartbeats 4000000 in
theorem expr_26 (T : Nd) (hk : T.kind = 26) (hE : ExprsC T) (hK : KidsC T) : ExprC T := by
  intro w v hi hf hhi hr
  have hn := T.fine_len hf
  have hs := T.fine_name hf
  obtain ⟨a, cap, hv, _, hq⟩ := row_eq.1 hr
  have HEO : Hid (T.eOk = exprB 26 T.num T.name T.len (fun i => (T.kids i).eOk) (fun i => (T.kids i).sOk) T.kk) := by have := eOk_eq T; rw [hk] at this; exact this
  have HE := hid_mk (fun W (hb : Below w.heap.size w W) => hE W v hi hf (by have := hb.size; omega) (row_below hb hhi hr))
  have HK := hid_mk (fun W (hb : Below w.heap.size w W) sorts => hK W v hi sorts hf (by have := hb.size; omega) (row_below hb hhi hr))
  have HQ := hid_mk hq
  have HS : Hid (T.name.size ≤ maxLen) := by unfold Hid maxLen; exact hs
  have HB : ∀ o : Obj, Hid (Below w.heap.size w (w.alloc o)) := fun o => (Below.refl _ _).alloc (Nat.le_refl _) _
  unfold Nd.val at *
  rw [hk] at *
  subst hv
  clear hf hr hE hK hs hk hq
  generalize T.num = tn at *
  generalize T.name = ts at *
  cases he : ts.toList.isEmpty
  all_goals cases h1 : (tn != 0)
  all_goals cases h2 : decide ((T.len : Int) < 2)
  all_goals cases hae : allTo (fun i => (T.kids i).eOk) T.len
  all_goals go_enter Tryd.func79, Tryd.ntmps79
  all_goals go_wp2_with (first | (go_at_call 88; refine (HE.out _ (by first | exact (HB _).out | exact (HB _).out.trans (hb1.mono (by simp)))).mono ?_; rw [hae]; rintro e w2 ⟨rfl, hb2⟩))
  all_goals go_ret
  all_goals refine ⟨ret_bool (by rw [HEO.out]; unfold exprB; simp only [emptyB, he, nz_b h1, lt2_b h2, hae]; rfl), ?_⟩
  all_goals first | exact (HB _).out | exact (HB _).out.trans (hb1.mono (by simp)) | exact (HB _).out.trans (hb2.mono (by simp)) | exact ((HB _).out.trans (hb1.mono (by simp))).trans (hb2.mono (by omega)) | exact ((HB _).out.trans (hb2.mono (by simp))).trans (hb3.mono (by omega))

end Go.Proofs.YtjgbjahcnnjfpaaDoor
