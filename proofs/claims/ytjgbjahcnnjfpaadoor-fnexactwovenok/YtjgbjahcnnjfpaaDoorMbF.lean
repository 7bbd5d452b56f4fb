/- The specification's tests of nodes, a theorem a kind. -/
import Derived.Test.YtjgbjahcnnjfpaaDoorMbA
import Derived.WalkSpells
import Derived.WalkSmall
set_option linter.unusedVariables false
namespace Go.Proofs.YtjgbjahcnnjfpaaDoor
open Go.RowKit

set_option maxHeartbeats 4000000 in
set_option maxRecDepth 100000 in
theorem stmt_7 (T : Nd) (hk : T.kind = 7) (hE : ExprsC T) (hK : KidsC T) : StmtC T := by
  intro w v hi hf hhi hr
  have hn := T.fine_len hf
  have hs := T.fine_name hf
  obtain ⟨a, cap, hv, _, hq⟩ := row_eq.1 hr
  have HEO : Hid (T.sOk = stmtB 7 T.num T.name T.len (fun i => (T.kids i).eOk) (fun i => (T.kids i).sOk) (fun i => (T.kids i).cOk) T.kk) := by have := sOk_eq T; rw [hk] at this; exact this
  have HE := hid_mk (fun W (hb : Below w.heap.size w W) => hE W v hi hf (by have := hb.size; omega) (row_below hb hhi hr))
  have HK := hid_mk (fun W (hb : Below w.heap.size w W) sorts => hK W v hi sorts hf (by have := hb.size; omega) (row_below hb hhi hr))
  have HQ := hid_mk hq
  have HS : Hid (T.name.size ≤ maxLen) := by unfold Hid maxLen; exact hs
  have HB : ∀ o : Obj, Hid (Below w.heap.size w (w.alloc o)) := fun o => (Below.refl _ _).alloc (Nat.le_refl _) _
  unfold Nd.val at *
  rw [hk] at *
  subst hv
  clear hf hr hE hK hs hk hq
  generalize T.num = tn at *
  generalize T.name = ts at *
  cases he : ts.toList.isEmpty
  all_goals cases hnm : nameB ts
  all_goals cases h1 : (tn == 1)
  all_goals cases h2 : (tn == -1)
  all_goals cases h3 : ((T.len : Int) == 0)
  all_goals go_enter Tryd.func56, Tryd.ntmps56
  all_goals go_wp2_with (first | (go_at_call 55; refine (spec_name _ _ HS.out).mono ?_; rw [hnm]; rintro e w1 ⟨rfl, hb1⟩; have hz1 := hb1.size; simp only [World.size_alloc] at hz1; obtain ⟨hc1, hf1⟩ := bcell hb1))
  all_goals go_ret
  all_goals refine ⟨ret_bool (by rw [HEO.out]; unfold stmtB; simp only [emptyB, he, hnm, num_b h1, num_b h2, len0_b h3]; rfl), ?_⟩
  all_goals first | exact (HB _).out | exact (HB _).out.trans (hb1.mono (by simp)) | exact (HB _).out.trans (hb2.mono (by simp)) | exact ((HB _).out.trans (hb1.mono (by simp))).trans (hb2.mono (by omega)) | exact ((HB _).out.trans (hb2.mono (by simp))).trans (hb3.mono (by omega))

set_option maxHeartbeats 4000000 in
set_option maxRecDepth 100000 in
theorem stmt_8 (T : Nd) (hk : T.kind = 8) (hE : ExprsC T) (hK : KidsC T) : StmtC T := by
  intro w v hi hf hhi hr
  have hn := T.fine_len hf
  have hs := T.fine_name hf
  obtain ⟨a, cap, hv, _, hq⟩ := row_eq.1 hr
  have HEO : Hid (T.sOk = stmtB 8 T.num T.name T.len (fun i => (T.kids i).eOk) (fun i => (T.kids i).sOk) (fun i => (T.kids i).cOk) T.kk) := by have := sOk_eq T; rw [hk] at this; exact this
  have HE := hid_mk (fun W (hb : Below w.heap.size w W) => hE W v hi hf (by have := hb.size; omega) (row_below hb hhi hr))
  have HK := hid_mk (fun W (hb : Below w.heap.size w W) sorts => hK W v hi sorts hf (by have := hb.size; omega) (row_below hb hhi hr))
  have HQ := hid_mk hq
  have HS : Hid (T.name.size ≤ maxLen) := by unfold Hid maxLen; exact hs
  have HB : ∀ o : Obj, Hid (Below w.heap.size w (w.alloc o)) := fun o => (Below.refl _ _).alloc (Nat.le_refl _) _
  unfold Nd.val at *
  rw [hk] at *
  subst hv
  clear hf hr hE hK hs hk hq
  generalize T.num = tn at *
  generalize T.name = ts at *
  cases he : ts.toList.isEmpty
  all_goals cases h1 : (tn != 0)
  all_goals cases hks : sortsB (fun i => (T.kids i).eOk) (fun i => (T.kids i).sOk) T.kk T.len ⟨#[101, 101]⟩
  all_goals go_enter Tryd.func56, Tryd.ntmps56
  all_goals go_wp2_with (first | (go_at_call 67; refine (HK.out _ (by first | exact (HB _).out | exact (HB _).out.trans (hb1.mono (by simp)) | exact (HB _).out.trans (hb2.mono (by simp))) ⟨#[101, 101]⟩ (by decide)).mono ?_; rw [hks]; rintro e w2 ⟨rfl, hb2⟩; have hz2 := hb2.size; (try simp only [World.size_alloc] at hz2); obtain ⟨hc2, hf2⟩ := bcell hb2))
  all_goals go_ret
  all_goals refine ⟨ret_bool (by rw [HEO.out]; unfold stmtB; simp only [emptyB, he, nz_b h1, hks]; rfl), ?_⟩
  all_goals first | exact (HB _).out | exact (HB _).out.trans (hb1.mono (by simp)) | exact (HB _).out.trans (hb2.mono (by simp)) | exact ((HB _).out.trans (hb1.mono (by simp))).trans (hb2.mono (by omega)) | exact ((HB _).out.trans (hb2.mono (by simp))).trans (hb3.mono (by omega))

set_option maxHeartbeats 4000000 in
set_option maxRecDepth 100000 in
theorem stmt_17 (T : Nd) (hk : T.kind = 17) (hE : ExprsC T) (hK : KidsC T) : StmtC T := by
  intro w v hi hf hhi hr
  have hn := T.fine_len hf
  have hs := T.fine_name hf
  obtain ⟨a, cap, hv, _, hq⟩ := row_eq.1 hr
  have HEO : Hid (T.sOk = stmtB 17 T.num T.name T.len (fun i => (T.kids i).eOk) (fun i => (T.kids i).sOk) (fun i => (T.kids i).cOk) T.kk) := by have := sOk_eq T; rw [hk] at this; exact this
  have HE := hid_mk (fun W (hb : Below w.heap.size w W) => hE W v hi hf (by have := hb.size; omega) (row_below hb hhi hr))
  have HK := hid_mk (fun W (hb : Below w.heap.size w W) sorts => hK W v hi sorts hf (by have := hb.size; omega) (row_below hb hhi hr))
  have HQ := hid_mk hq
  have HS : Hid (T.name.size ≤ maxLen) := by unfold Hid maxLen; exact hs
  have HB : ∀ o : Obj, Hid (Below w.heap.size w (w.alloc o)) := fun o => (Below.refl _ _).alloc (Nat.le_refl _) _
  unfold Nd.val at *
  rw [hk] at *
  subst hv
  clear hf hr hE hK hs hk hq
  generalize T.num = tn at *
  generalize T.name = ts at *
  cases he : ts.toList.isEmpty
  all_goals cases h1 : (tn != 0)
  all_goals cases h3 : ((T.len : Int) == 0)
  all_goals go_enter Tryd.func56, Tryd.ntmps56
  all_goals go_wp2
  all_goals go_ret
  all_goals refine ⟨ret_bool (by rw [HEO.out]; unfold stmtB; simp only [emptyB, he, nz_b h1, len0_b h3]; rfl), ?_⟩
  all_goals first | exact (HB _).out | exact (HB _).out.trans (hb1.mono (by simp)) | exact (HB _).out.trans (hb2.mono (by simp)) | exact ((HB _).out.trans (hb1.mono (by simp))).trans (hb2.mono (by omega)) | exact ((HB _).out.trans (hb2.mono (by simp))).trans (hb3.mono (by omega))

end Go.Proofs.YtjgbjahcnnjfpaaDoor
