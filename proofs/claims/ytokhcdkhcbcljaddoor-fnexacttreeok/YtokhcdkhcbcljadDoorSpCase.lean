/- The specification's test of a statement: a case, a function, a tree. -/
import Derived.Test.YtokhcdkhcbcljadDoorSpBits
import Derived.WalkSpells
import Derived.WalkSmall
import Derived.Deep.LoopGhost
set_option linter.unusedVariables false
namespace Go.Proofs.YtokhcdkhcbcljadDoor
open Go.RowKit


theorem case_out (T : Nd) (h : T.kind ≠ 16) : T.cOk = false := by rw [cOk_eq]; unfold caseB; rw [if_neg h]

set_option maxHeartbeats 4000000 in
set_option maxRecDepth 100000 in
theorem case_any (T : Nd) (hK : KidsC T) : CaseC T := by
  intro w v hi hf hhi hr
  have hn := T.fine_len hf
  have hs := T.fine_name hf
  obtain ⟨a, cap, hv, hcap, hq⟩ := row_eq.1 hr
  have HB : ∀ o : Obj, Hid (Below w.heap.size w (w.alloc o)) := fun o => (Below.refl _ _).alloc (Nat.le_refl _) _
  have HK := hid_mk (fun W (hb : Below w.heap.size w W) sorts => hK W v hi sorts hf (by have := hb.size; omega) (row_below hb hhi hr))
  have HS : Hid (T.name.size ≤ maxLen) := by unfold Hid maxLen; exact hs
  by_cases hk : T.kind = 16
  · have HEO : Hid (T.cOk = caseB 16 T.num T.name T.len (fun i => (T.kids i).eOk) (fun i => (T.kids i).sOk) T.kk) := by have := cOk_eq T; rw [hk] at this; exact this
    unfold Nd.val at HK ⊢
    rw [hk] at HK ⊢
    subst hv
    clear hf hr hK hs hk hq hcap
    generalize T.num = tn at *
    generalize T.name = ts at *
    by_cases c0 : tn = 0
    · subst c0
      cases he : ts.toList.isEmpty
      all_goals cases hks : sortsB (fun i => (T.kids i).eOk) (fun i => (T.kids i).sOk) T.kk T.len ⟨#[98]⟩
      all_goals go_enter Tryd.func60, Tryd.ntmps60
      all_goals go_wp2_with ((go_at_call 59; refine (HK.out _ (by first | exact (HB _).out | exact (HB _).out.trans (hb1.mono (by simp)) | exact (HB _).out.trans (hb2.mono (by simp))) ⟨#[98]⟩ (by decide)).mono ?_; rw [hks]; rintro e w2 ⟨rfl, hb2⟩; have hz2 := hb2.size; (try simp only [World.size_alloc] at hz2); obtain ⟨hc2, hf2⟩ := bcell hb2))
      all_goals go_ret
      all_goals refine ⟨ret_bool (by rw [HEO.out]; unfold caseB; simp only [emptyB, he, hks]; rfl), ?_⟩
      all_goals first | exact (HB _).out | exact (HB _).out.trans (hb2.mono (by simp))
    by_cases c1 : tn = 1
    · subst c1
      cases he : ts.toList.isEmpty
      all_goals cases hnm : nameB ts
      all_goals cases hks : sortsB (fun i => (T.kids i).eOk) (fun i => (T.kids i).sOk) T.kk T.len ⟨#[101, 98]⟩
      all_goals go_enter Tryd.func60, Tryd.ntmps60
      all_goals go_wp2_with (first | (go_at_call 43; refine (spec_name _ _ HS.out).mono ?_; rw [hnm]; rintro e w1 ⟨rfl, hb1⟩; have hz1 := hb1.size; simp only [World.size_alloc] at hz1; obtain ⟨hc1, hf1⟩ := bcell hb1) | (go_at_call 59; refine (HK.out _ (by first | exact (HB _).out | exact (HB _).out.trans (hb1.mono (by simp)) | exact (HB _).out.trans (hb2.mono (by simp))) ⟨#[101, 98]⟩ (by decide)).mono ?_; rw [hks]; rintro e w2 ⟨rfl, hb2⟩; have hz2 := hb2.size; (try simp only [World.size_alloc] at hz2); obtain ⟨hc2, hf2⟩ := bcell hb2))
      all_goals go_ret
      all_goals refine ⟨ret_bool (by rw [HEO.out]; unfold caseB; simp only [emptyB, he, hnm, hks]; rfl), ?_⟩
      all_goals first | exact (HB _).out | exact (HB _).out.trans (hb1.mono (by simp)) | exact (HB _).out.trans (hb2.mono (by simp)) | exact ((HB _).out.trans (hb1.mono (by simp))).trans (hb2.mono (by omega))
    by_cases c2 : tn = 2
    · subst c2
      cases he : ts.toList.isEmpty
      all_goals cases hks : sortsB (fun i => (T.kids i).eOk) (fun i => (T.kids i).sOk) T.kk T.len ⟨#[101, 101, 98]⟩
      all_goals go_enter Tryd.func60, Tryd.ntmps60
      all_goals go_wp2_with ((go_at_call 59; refine (HK.out _ (by first | exact (HB _).out | exact (HB _).out.trans (hb1.mono (by simp)) | exact (HB _).out.trans (hb2.mono (by simp))) ⟨#[101, 101, 98]⟩ (by decide)).mono ?_; rw [hks]; rintro e w2 ⟨rfl, hb2⟩; have hz2 := hb2.size; (try simp only [World.size_alloc] at hz2); obtain ⟨hc2, hf2⟩ := bcell hb2))
      all_goals go_ret
      all_goals refine ⟨ret_bool (by rw [HEO.out]; unfold caseB; simp only [emptyB, he, hks]; rfl), ?_⟩
      all_goals first | exact (HB _).out | exact (HB _).out.trans (hb2.mono (by simp))
    · have HF : Hid (T.cOk = false) := by unfold Hid; rw [HEO.out]; unfold caseB; rw [if_pos rfl, if_neg c0, if_neg c1, if_neg c2, Bool.and_false]
      have n0 : (tn == 0) = false := beq_eq_false_iff_ne.2 c0
      have n1 : (tn == 1) = false := beq_eq_false_iff_ne.2 c1
      have n2 : (tn == 2) = false := beq_eq_false_iff_ne.2 c2
      have m1 : (tn != 1) = true := by rw [bne_iff_ne]; exact c1
      clear c0 c1 c2
      cases he : ts.toList.isEmpty
      all_goals go_enter Tryd.func60, Tryd.ntmps60
      all_goals go_wp2
      all_goals go_ret
      all_goals exact ⟨ret_bool HF.out.symm, (HB _).out⟩
  · have HF := hid_mk (case_out T hk)
    have m1 : (T.kind != 16) = true := by rw [bne_iff_ne]; exact hk
    unfold Nd.val at *
    subst hv
    clear hf hr hK hs hk hq hcap
    generalize T.kind = tk at *
    generalize T.num = tn at *
    generalize T.name = ts at *
    go_enter Tryd.func60, Tryd.ntmps60
    go_wp2
    go_ret
    exact ⟨ret_bool HF.out.symm, (HB _).out⟩
end Go.Proofs.YtokhcdkhcbcljadDoor
