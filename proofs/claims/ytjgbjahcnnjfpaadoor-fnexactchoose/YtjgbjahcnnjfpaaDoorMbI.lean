/- The specification's test of a statement: an expression that stands alone; lists; other kinds. -/
import Derived.Test.YtjgbjahcnnjfpaaDoorMbA
import Derived.WalkSpells
import Derived.WalkSmall
import Derived.Deep.LoopGhost
import Derived.Test.YtjgbjahcnnjfpaaDoorMbB
import Derived.Test.YtjgbjahcnnjfpaaDoorMbC
import Derived.Test.YtjgbjahcnnjfpaaDoorMbD
import Derived.Test.YtjgbjahcnnjfpaaDoorMbE
import Derived.Test.YtjgbjahcnnjfpaaDoorMbF
import Derived.Test.YtjgbjahcnnjfpaaDoorMbG
import Derived.Test.YtjgbjahcnnjfpaaDoorMbH
set_option linter.unusedVariables false
namespace Go.Proofs.YtjgbjahcnnjfpaaDoor
open Go.RowKit


set_option maxHeartbeats 4000000 in
set_option maxRecDepth 100000 in
theorem expr_other (T : Nd) (hne : ∀ k : Int, k ∈ [22, 23, 24, 25, 26, 27, 28, 29] → T.kind ≠ k) : ExprC T := by
  intro w v hi hf hhi hr
  have hs := T.fine_name hf
  obtain ⟨a, cap, hv, _, hq⟩ := row_eq.1 hr
  have HEO : Hid (T.eOk = false) := by
    unfold Hid; rw [eOk_eq T]; unfold exprB
    simp only [List.mem_cons, List.not_mem_nil, or_false, forall_eq_or_imp, forall_eq] at hne
    simp only [hne, if_false]
  have HB : ∀ o : Obj, Hid (Below w.heap.size w (w.alloc o)) := fun o => (Below.refl _ _).alloc (Nat.le_refl _) _
  have n22 : (T.kind == 22) = false := beq_eq_false_iff_ne.2 (hne 22 (by simp))
  have n23 : (T.kind == 23) = false := beq_eq_false_iff_ne.2 (hne 23 (by simp))
  have n24 : (T.kind == 24) = false := beq_eq_false_iff_ne.2 (hne 24 (by simp))
  have n25 : (T.kind == 25) = false := beq_eq_false_iff_ne.2 (hne 25 (by simp))
  have n26 : (T.kind == 26) = false := beq_eq_false_iff_ne.2 (hne 26 (by simp))
  have n27 : (T.kind == 27) = false := beq_eq_false_iff_ne.2 (hne 27 (by simp))
  have n28 : (T.kind == 28) = false := beq_eq_false_iff_ne.2 (hne 28 (by simp))
  have n29 : (T.kind == 29) = false := beq_eq_false_iff_ne.2 (hne 29 (by simp))
  have m22 : (T.kind != 22) = true := by rw [bne_iff_ne]; exact hne 22 (by simp)
  have m23 : (T.kind != 23) = true := by rw [bne_iff_ne]; exact hne 23 (by simp)
  unfold Nd.val at *
  subst hv
  clear hf hr hq hne
  generalize T.kind = tk at *
  generalize T.num = tn at *
  generalize T.name = ts at *
  cases he : ts.toList.isEmpty
  all_goals cases h1 : (tn != 0)
  all_goals go_enter Tryd.func79, Tryd.ntmps79
  all_goals go_wp2
  all_goals go_ret
  all_goals exact ⟨ret_bool HEO.out.symm, (HB _).out⟩

set_option maxHeartbeats 4000000 in
set_option maxRecDepth 100000 in
theorem stmt_other (T : Nd) (hne : ∀ k : Int, k ∈ [4, 5, 6, 7, 8, 9, 10, 11, 12, 13, 14, 15, 17, 18, 19, 20, 21] → T.kind ≠ k) : StmtC T := by
  intro w v hi hf hhi hr
  have hs := T.fine_name hf
  obtain ⟨a, cap, hv, _, hq⟩ := row_eq.1 hr
  have HEO : Hid (T.sOk = false) := by
    unfold Hid; rw [sOk_eq T]; unfold stmtB
    simp only [List.mem_cons, List.not_mem_nil, or_false, forall_eq_or_imp, forall_eq] at hne
    simp only [hne, or_self, if_false]
  have HB : ∀ o : Obj, Hid (Below w.heap.size w (w.alloc o)) := fun o => (Below.refl _ _).alloc (Nat.le_refl _) _
  have n4 : (T.kind == 4) = false := beq_eq_false_iff_ne.2 (hne 4 (by simp))
  have n5 : (T.kind == 5) = false := beq_eq_false_iff_ne.2 (hne 5 (by simp))
  have n6 : (T.kind == 6) = false := beq_eq_false_iff_ne.2 (hne 6 (by simp))
  have n7 : (T.kind == 7) = false := beq_eq_false_iff_ne.2 (hne 7 (by simp))
  have n8 : (T.kind == 8) = false := beq_eq_false_iff_ne.2 (hne 8 (by simp))
  have n9 : (T.kind == 9) = false := beq_eq_false_iff_ne.2 (hne 9 (by simp))
  have n10 : (T.kind == 10) = false := beq_eq_false_iff_ne.2 (hne 10 (by simp))
  have n11 : (T.kind == 11) = false := beq_eq_false_iff_ne.2 (hne 11 (by simp))
  have n12 : (T.kind == 12) = false := beq_eq_false_iff_ne.2 (hne 12 (by simp))
  have n13 : (T.kind == 13) = false := beq_eq_false_iff_ne.2 (hne 13 (by simp))
  have n14 : (T.kind == 14) = false := beq_eq_false_iff_ne.2 (hne 14 (by simp))
  have n15 : (T.kind == 15) = false := beq_eq_false_iff_ne.2 (hne 15 (by simp))
  have n17 : (T.kind == 17) = false := beq_eq_false_iff_ne.2 (hne 17 (by simp))
  have n18 : (T.kind == 18) = false := beq_eq_false_iff_ne.2 (hne 18 (by simp))
  have n19 : (T.kind == 19) = false := beq_eq_false_iff_ne.2 (hne 19 (by simp))
  have n20 : (T.kind == 20) = false := beq_eq_false_iff_ne.2 (hne 20 (by simp))
  have n21 : (T.kind == 21) = false := beq_eq_false_iff_ne.2 (hne 21 (by simp))
  have m7 : (T.kind != 7) = true := by rw [bne_iff_ne]; exact hne 7 (by simp)
  unfold Nd.val at *
  subst hv
  clear hf hr hq hne
  generalize T.kind = tk at *
  generalize T.num = tn at *
  generalize T.name = ts at *
  cases he : ts.toList.isEmpty
  all_goals cases h1 : (tn != 0)
  all_goals go_enter Tryd.func56, Tryd.ntmps56
  all_goals go_wp2
  all_goals go_ret
  all_goals exact ⟨ret_bool HEO.out.symm, (HB _).out⟩
end Go.Proofs.YtjgbjahcnnjfpaaDoor
namespace Go.Proofs.YtjgbjahcnnjfpaaDoor
open Go.RowKit


theorem case_out (T : Nd) (h : T.kind ≠ 16) : T.cOk = false := by rw [cOk_eq]; unfold caseB; rw [if_neg h]

set_option maxHeartbeats 4000000 in
set_option maxRecDepth 100000 in
theorem case_any (T : Nd) (hK : KidsC T) : CaseC T := by
  intro w v hi hf hhi hr
  have hn := T.fine_len hf
  have hs := T.fine_name hf
  obtain ⟨a, cap, hv, hcap, hq⟩ := row_eq.1 hr
  have HB : ∀ o : Obj, Hid (Below w.heap.size w (w.alloc o)) := fun o => (Below.refl _ _).alloc (Nat.le_refl _) _
  have HK := hid_mk (fun W (hb : Below w.heap.size w W) sorts => hK W v hi sorts hf (by have := hb.size; omega) (row_below hb hhi hr))
  have HS : Hid (T.name.size ≤ maxLen) := by unfold Hid maxLen; exact hs
  by_cases hk : T.kind = 16
  · have HEO : Hid (T.cOk = caseB 16 T.num T.name T.len (fun i => (T.kids i).eOk) (fun i => (T.kids i).sOk) T.kk) := by have := cOk_eq T; rw [hk] at this; exact this
    unfold Nd.val at HK ⊢
    rw [hk] at HK ⊢
    subst hv
    clear hf hr hK hs hk hq hcap
    generalize T.num = tn at *
    generalize T.name = ts at *
    by_cases c0 : tn = 0
    · subst c0
      cases he : ts.toList.isEmpty
      all_goals cases hks : sortsB (fun i => (T.kids i).eOk) (fun i => (T.kids i).sOk) T.kk T.len ⟨#[98]⟩
      all_goals go_enter Tryd.func68, Tryd.ntmps68
      all_goals go_wp2_with ((go_at_call 67; refine (HK.out _ (by first | exact (HB _).out | exact (HB _).out.trans (hb1.mono (by simp)) | exact (HB _).out.trans (hb2.mono (by simp))) ⟨#[98]⟩ (by decide)).mono ?_; rw [hks]; rintro e w2 ⟨rfl, hb2⟩; have hz2 := hb2.size; (try simp only [World.size_alloc] at hz2); obtain ⟨hc2, hf2⟩ := bcell hb2))
      all_goals go_ret
      all_goals refine ⟨ret_bool (by rw [HEO.out]; unfold caseB; simp only [emptyB, he, hks]; rfl), ?_⟩
      all_goals first | exact (HB _).out | exact (HB _).out.trans (hb2.mono (by simp))
    by_cases c1 : tn = 1
    · subst c1
      cases he : ts.toList.isEmpty
      all_goals cases hnm : nameB ts
      all_goals cases hks : sortsB (fun i => (T.kids i).eOk) (fun i => (T.kids i).sOk) T.kk T.len ⟨#[101, 98]⟩
      all_goals go_enter Tryd.func68, Tryd.ntmps68
      all_goals go_wp2_with (first | (go_at_call 55; refine (spec_name _ _ HS.out).mono ?_; rw [hnm]; rintro e w1 ⟨rfl, hb1⟩; have hz1 := hb1.size; simp only [World.size_alloc] at hz1; obtain ⟨hc1, hf1⟩ := bcell hb1) | (go_at_call 67; refine (HK.out _ (by first | exact (HB _).out | exact (HB _).out.trans (hb1.mono (by simp)) | exact (HB _).out.trans (hb2.mono (by simp))) ⟨#[101, 98]⟩ (by decide)).mono ?_; rw [hks]; rintro e w2 ⟨rfl, hb2⟩; have hz2 := hb2.size; (try simp only [World.size_alloc] at hz2); obtain ⟨hc2, hf2⟩ := bcell hb2))
      all_goals go_ret
      all_goals refine ⟨ret_bool (by rw [HEO.out]; unfold caseB; simp only [emptyB, he, hnm, hks]; rfl), ?_⟩
      all_goals first | exact (HB _).out | exact (HB _).out.trans (hb1.mono (by simp)) | exact (HB _).out.trans (hb2.mono (by simp)) | exact ((HB _).out.trans (hb1.mono (by simp))).trans (hb2.mono (by omega))
    by_cases c2 : tn = 2
    · subst c2
      cases he : ts.toList.isEmpty
      all_goals cases hks : sortsB (fun i => (T.kids i).eOk) (fun i => (T.kids i).sOk) T.kk T.len ⟨#[101, 101, 98]⟩
      all_goals go_enter Tryd.func68, Tryd.ntmps68
      all_goals go_wp2_with ((go_at_call 67; refine (HK.out _ (by first | exact (HB _).out | exact (HB _).out.trans (hb1.mono (by simp)) | exact (HB _).out.trans (hb2.mono (by simp))) ⟨#[101, 101, 98]⟩ (by decide)).mono ?_; rw [hks]; rintro e w2 ⟨rfl, hb2⟩; have hz2 := hb2.size; (try simp only [World.size_alloc] at hz2); obtain ⟨hc2, hf2⟩ := bcell hb2))
      all_goals go_ret
      all_goals refine ⟨ret_bool (by rw [HEO.out]; unfold caseB; simp only [emptyB, he, hks]; rfl), ?_⟩
      all_goals first | exact (HB _).out | exact (HB _).out.trans (hb2.mono (by simp))
    · have HF : Hid (T.cOk = false) := by unfold Hid; rw [HEO.out]; unfold caseB; rw [if_pos rfl, if_neg c0, if_neg c1, if_neg c2, Bool.and_false]
      have n0 : (tn == 0) = false := beq_eq_false_iff_ne.2 c0
      have n1 : (tn == 1) = false := beq_eq_false_iff_ne.2 c1
      have n2 : (tn == 2) = false := beq_eq_false_iff_ne.2 c2
      have m1 : (tn != 1) = true := by rw [bne_iff_ne]; exact c1
      clear c0 c1 c2
      cases he : ts.toList.isEmpty
      all_goals go_enter Tryd.func68, Tryd.ntmps68
      all_goals go_wp2
      all_goals go_ret
      all_goals exact ⟨ret_bool HF.out.symm, (HB _).out⟩
  · have HF := hid_mk (case_out T hk)
    have m1 : (T.kind != 16) = true := by rw [bne_iff_ne]; exact hk
    unfold Nd.val at *
    subst hv
    clear hf hr hK hs hk hq hcap
    generalize T.kind = tk at *
    generalize T.num = tn at *
    generalize T.name = ts at *
    go_enter Tryd.func68, Tryd.ntmps68
    go_wp2
    go_ret
    exact ⟨ret_bool HF.out.symm, (HB _).out⟩
end Go.Proofs.YtjgbjahcnnjfpaaDoor
namespace Go.Proofs.YtjgbjahcnnjfpaaDoor
open Go.RowKit


def FuncC (T : Nd) : Prop := ∀ (w : World) (v : Value) (hi : Nat), T.Fine → hi ≤ w.heap.size → Row 0 hi w T v →
  Calls Tryd.prog 42 #[T.val v] w fun e w' => e = .returned (.bool (funcB T)) ∧ Below w.heap.size w w'

set_option maxHeartbeats 4000000 in
set_option maxRecDepth 100000 in
theorem func_any (T : Nd) (ih : ∀ i, i < T.len → StmtC (T.kids i)) : FuncC T := by
  intro w v hi hf hhi hr
  have hn := T.fine_len hf
  have hs := T.fine_name hf
  obtain ⟨a, cap, hv, hcap, hq⟩ := row_eq.1 hr
  have HB : ∀ o : Obj, Hid (Below w.heap.size w (w.alloc o)) := fun o => (Below.refl _ _).alloc (Nat.le_refl _) _
  have HS : Hid (T.name.size ≤ maxLen) := by unfold Hid maxLen; exact hs
  have HEO : Hid (funcB T = (decide (T.kind = 2) && nameB T.name && (decide (0 ≤ T.num) && decide (T.num ≤ 3)) && decide (1 ≤ T.len) && (allTo (fun i => paramB (T.kids i)) (T.len - 1) && (decide ((T.kids (T.len - 1)).kind = 4) && (T.kids (T.len - 1)).sOk)))) := rfl
  have HI := hid_mk ih
  have HF := hid_mk hf
  have HR := hid_mk hq
  unfold Nd.val at *
  subst hv
  clear hf hr hs hq hcap ih
  generalize T.kind = tk at *
  generalize T.num = tn at *
  generalize T.name = ts at *
  by_cases hk : tk = 2
  case neg =>
    have m1 : (tk != 2) = true := by rw [bne_iff_ne]; exact hk
    have HO : Hid (funcB T = false) := by unfold Hid; rw [HEO.out]; simp [hk]
    clear hk
    go_enter Tryd.func42, Tryd.ntmps42
    go_wp2
    go_ret
    exact ⟨ret_bool HO.out.symm, (HB _).out⟩
  subst hk
  cases hnm : nameB ts
  · have HO : Hid (funcB T = false) := by unfold Hid; rw [HEO.out, hnm]; simp
    go_enter Tryd.func42, Tryd.ntmps42
    go_wp2_with (go_at_call 55; refine (spec_name _ _ HS.out).mono ?_; rw [hnm]; rintro e w1 ⟨rfl, hb1⟩; have hz1 := hb1.size; simp only [World.size_alloc] at hz1; obtain ⟨hc1, hf1⟩ := bcell hb1)
    go_ret
    exact ⟨ret_bool HO.out.symm, (HB _).out.trans (hb1.mono (by simp))⟩
  by_cases h0 : tn < 0
  · have HO : Hid (funcB T = false) := by unfold Hid; rw [HEO.out]; simp; omega
    go_enter Tryd.func42, Tryd.ntmps42
    go_wp2_with (go_at_call 55; refine (spec_name _ _ HS.out).mono ?_; rw [hnm]; rintro e w1 ⟨rfl, hb1⟩; have hz1 := hb1.size; simp only [World.size_alloc] at hz1; obtain ⟨hc1, hf1⟩ := bcell hb1)
    go_ret
    exact ⟨ret_bool HO.out.symm, (HB _).out.trans (hb1.mono (by simp))⟩
  by_cases h3 : 3 < tn
  · have HO : Hid (funcB T = false) := by unfold Hid; rw [HEO.out]; simp; omega
    go_enter Tryd.func42, Tryd.ntmps42
    go_wp2_with (go_at_call 55; refine (spec_name _ _ HS.out).mono ?_; rw [hnm]; rintro e w1 ⟨rfl, hb1⟩; have hz1 := hb1.size; simp only [World.size_alloc] at hz1; obtain ⟨hc1, hf1⟩ := bcell hb1)
    go_ret
    exact ⟨ret_bool HO.out.symm, (HB _).out.trans (hb1.mono (by simp))⟩
  by_cases hl : T.len < 1
  · have HO : Hid (funcB T = false) := by unfold Hid; rw [HEO.out]; simp; omega
    go_enter Tryd.func42, Tryd.ntmps42
    go_wp2_with (go_at_call 55; refine (spec_name _ _ HS.out).mono ?_; rw [hnm]; rintro e w1 ⟨rfl, hb1⟩; have hz1 := hb1.size; simp only [World.size_alloc] at hz1; obtain ⟨hc1, hf1⟩ := bcell hb1)
    go_ret
    exact ⟨ret_bool HO.out.symm, (HB _).out.trans (hb1.mono (by simp))⟩
  have HO : Hid (funcB T = (allTo (fun i => paramB (T.kids i)) (T.len - 1) && (decide ((T.kids (T.len - 1)).kind = 4) && (T.kids (T.len - 1)).sOk))) := by
    unfold Hid; rw [HEO.out, hnm]
    have q1 : 0 ≤ tn := by omega
    have q2 : tn ≤ 3 := by omega
    have q3 : 1 ≤ T.len := by omega
    simp [q1, q2, q3]
  clear HEO
  have hl1 : (1 : Int) ≤ (T.len : Int) := by omega
  go_enter Tryd.func42, Tryd.ntmps42
  go_wp2_with (go_at_call 55; refine (spec_name _ _ HS.out).mono ?_; rw [hnm]; rintro e w1 ⟨rfl, hb1⟩; have hz1 := hb1.size; simp only [World.size_alloc] at hz1; obtain ⟨hc1, hf1⟩ := bcell hb1)
  have hb01 := hb1
  simp only [World.size_alloc] at hb01
  clear hb1 hc1 hf1 hz1 hnm h0 h3
  go_loopg [4] T.len (fun gk i wr => ∃ (j : Nat), gk = T.len - j ∧ j ≤ T.len - 1 ∧ i = .int .i64 j ∧ Hid (∀ i, i < j → paramB (T.kids i) = true) ∧ Below (w.heap.size + 1) (w.alloc (.cells #[.int .i64 2, .int .i64 tn, .string ts, .slice a T.len cap] 37)) wr)
  case atStart => exact ⟨0, by omega, by omega, rfl, (fun i hi => by omega), hb01⟩
  case round =>
    obtain ⟨j, hgk, hj, rfl, hall, hb⟩ := hrel
    have HGK := hid_mk hgk
    clear hgk hb01
    have k3 : wr.cell? ⟨w.heap.size, 3, none⟩ = some (.slice a T.len cap) := by
      rw [hb.cell (p := ⟨w.heap.size, 3, none⟩) (by show w.heap.size < _; omega)]; simp
    have hbw := (HB (.cells #[.int .i64 2, .int .i64 tn, .string ts, .slice a T.len cap] 37)).out.trans (hb.mono (by omega))
    have hbz := hbw.size
    have hbx : w.heap.size + 1 ≤ wr.heap.size := by have := hb.size; simpa using this
    have hjl : j < T.len := by omega
    rcases HR.out with h0 | ⟨g, off, rfl, g1, g2, g3⟩
    · omega
    obtain ⟨u, e0, e1, e2, e3, hu⟩ := g3 j hjl
    have hgl : g < w.heap.size := by omega
    rw [← hbw.cell (p := ⟨g, _, none⟩) hgl] at e0 e1 e2 e3
    by_cases hlt : j < T.len - 1
    · have hlt' : (j : Int) < (T.len : Int) - 1 := by omega
      obtain ⟨au, cu, rfl, _⟩ := row_eq.1 hu
      have hns := Nd.fine_name (Nd.fine_kid HF.out hjl)
      have HSJ : Hid ((T.kids j).name.size ≤ maxLen) := by unfold Hid maxLen; exact hns
      have HN : Hid (paramB (T.kids j) = false → false = funcB T) := fun h => by rw [HO.out, allTo_false hlt h]; simp
      have HY : Hid (paramB (T.kids j) = true → ∀ i, i < j + 1 → paramB (T.kids i) = true) := fun h i hi => by
        by_cases e : i = j
        · subst e; exact h
        · exact hall.out i (by omega)
      have HPB : Hid (paramB (T.kids j) = (decide ((T.kids j).kind = 3) && nameB (T.kids j).name && (decide (1 ≤ (T.kids j).num) && decide ((T.kids j).num ≤ 3)) && decide ((T.kids j).len = 0))) := rfl
      have hbN : ∀ o : Obj, Hid (Below wr.heap.size wr (wr.alloc o)) := fun o => (Below.refl _ _).alloc (Nat.le_refl _) _
      clear g3 hu hall hns
      generalize paramB (T.kids j) = pb at *
      generalize T.kids j = P at *
      generalize P.kind = pk at *
      generalize P.num = pn at *
      generalize P.name = ps at *
      by_cases hk : pk = 3
      case neg =>
        have m1 : (pk != 3) = true := by rw [bne_iff_ne]; exact hk
        have HO2 : Hid (pb = false) := by unfold Hid; rw [HPB.out]; simp [hk]
        clear hk
        go_wp2
        go_ret
        exact ⟨ret_bool (HN.out HO2.out), hbw.trans ((hbN _).out.mono hbz)⟩
      subst hk
      cases hnm : nameB ps
      · have HO2 : Hid (pb = false) := by unfold Hid; rw [HPB.out, hnm]; simp
        go_wp2_with (go_at_call 55; refine (spec_name _ _ HSJ.out).mono ?_; rw [hnm]; rintro e w1 ⟨rfl, hb1⟩; have hz1 := hb1.size; simp only [World.size_alloc] at hz1; obtain ⟨hc1, hf1⟩ := bcell hb1)
        go_ret
        exact ⟨ret_bool (HN.out HO2.out), hbw.trans ((((hbN _).out.trans (hb1.mono (by simp)))).mono hbz)⟩
      by_cases h0 : pn < 1
      · have HO2 : Hid (pb = false) := by unfold Hid; rw [HPB.out]; simp; omega
        go_wp2_with (go_at_call 55; refine (spec_name _ _ HSJ.out).mono ?_; rw [hnm]; rintro e w1 ⟨rfl, hb1⟩; have hz1 := hb1.size; simp only [World.size_alloc] at hz1; obtain ⟨hc1, hf1⟩ := bcell hb1)
        go_ret
        exact ⟨ret_bool (HN.out HO2.out), hbw.trans ((((hbN _).out.trans (hb1.mono (by simp)))).mono hbz)⟩
      by_cases h3 : 3 < pn
      · have HO2 : Hid (pb = false) := by unfold Hid; rw [HPB.out]; simp; omega
        go_wp2_with (go_at_call 55; refine (spec_name _ _ HSJ.out).mono ?_; rw [hnm]; rintro e w1 ⟨rfl, hb1⟩; have hz1 := hb1.size; simp only [World.size_alloc] at hz1; obtain ⟨hc1, hf1⟩ := bcell hb1)
        go_ret
        exact ⟨ret_bool (HN.out HO2.out), hbw.trans ((((hbN _).out.trans (hb1.mono (by simp)))).mono hbz)⟩
      cases hpl : ((P.len : Int) != 0)
      · have HO2 : Hid (pb = true) := by
          unfold Hid; rw [HPB.out, hnm]
          have q1 : 1 ≤ pn := by omega
          have q2 : pn ≤ 3 := by omega
          have q3 : P.len = 0 := by have : (P.len : Int) = 0 := by simpa using hpl
                                    omega
          simp [q1, q2, q3]
        go_wp2_with (go_at_call 55; refine (spec_name _ _ HSJ.out).mono ?_; rw [hnm]; rintro e w1 ⟨rfl, hb1⟩; have hz1 := hb1.size; simp only [World.size_alloc] at hz1; obtain ⟨hc1, hf1⟩ := bcell hb1)
        go_roundg (T.len - (j + 1))
        case rel => exact ⟨j + 1, rfl, by omega, by go_num, HY.out HO2.out, hb.trans ((((hbN _).out.trans (hb1.mono (by simp)))).mono hbx)⟩
        case measure => have := HGK.out; omega
      · have HO2 : Hid (pb = false) := by
          unfold Hid; rw [HPB.out]
          have q3 : ¬ P.len = 0 := by
            intro h; rw [h] at hpl; simp at hpl
          simp [q3]
        go_wp2_with (go_at_call 55; refine (spec_name _ _ HSJ.out).mono ?_; rw [hnm]; rintro e w1 ⟨rfl, hb1⟩; have hz1 := hb1.size; simp only [World.size_alloc] at hz1; obtain ⟨hc1, hf1⟩ := bcell hb1)
        go_ret
        exact ⟨ret_bool (HN.out HO2.out), hbw.trans ((((hbN _).out.trans (hb1.mono (by simp)))).mono hbz)⟩
    · obtain rfl : j = T.len - 1 := by omega
      have hcast : ((T.len - 1 : Nat) : Int) = (T.len : Int) - 1 := by omega
      have HAL : Hid (allTo (fun i => paramB (T.kids i)) (T.len - 1) = true) := allTo_true hall.out
      have HU := hid_mk (row_below hbw hhi hu)
      have HC := HI.out (T.len - 1) hjl
      have HFJ := hid_mk (Nd.fine_kid HF.out hjl)
      have hoff : off + (T.len - 1) * 4 = off + (T.len - 1) * 4 := rfl
      unfold StmtC Nd.val at HC
      have HCC := hid_mk HC
      have HOO : Hid (funcB T = (decide ((T.kids (T.len - 1)).kind = 4) && (T.kids (T.len - 1)).sOk)) := by unfold Hid; rw [HO.out, HAL.out, Bool.true_and]
      clear g3 hu hall HC HO HAL hoff
      generalize T.kids (T.len - 1) = K at *
      rw [hcast] at *
      by_cases hk : K.kind = 4
      · have hkb : (K.kind == 4) = true := beq_iff_eq.2 hk
        replace HOO : Hid (funcB T = K.sOk) := by have := HOO.out; simpa [hk, Hid] using this
        clear hk
        cases hx : K.sOk
        all_goals have HX := hid_mk hx
        all_goals clear hx
        all_goals go_wp2_with (go_at_call 56; refine (HCC.out _ _ hi HFJ.out (by omega) HU.out).mono ?_; rw [HX.out]; rintro e w1 ⟨rfl, hb1⟩)
        all_goals go_ret
        all_goals exact ⟨ret_bool (by rw [HOO.out, HX.out]), hbw.trans (hb1.mono hbz)⟩
      · have hkb : (K.kind == 4) = false := beq_eq_false_iff_ne.2 hk
        replace HOO : Hid (funcB T = false) := by have := HOO.out; simpa [hk, Hid] using this
        clear hk
        go_wp2
        go_ret
        exact ⟨ret_bool HOO.out.symm, hbw⟩
end Go.Proofs.YtjgbjahcnnjfpaaDoor
namespace Go.Proofs.YtjgbjahcnnjfpaaDoor
open Go.RowKit


theorem ok_all (T : Nd) : ExprC T ∧ StmtC T ∧ CaseC T := by
  have step : ∀ T : Nd, (∀ i, i < T.len → ExprC (T.kids i) ∧ StmtC (T.kids i) ∧ CaseC (T.kids i)) → ExprC T ∧ StmtC T ∧ CaseC T := by
    intro T ih
    have hE := exprs_of T fun i hi => (ih i hi).1
    have hK := kids_of T fun i hi => ⟨(ih i hi).1, (ih i hi).2.1⟩
    refine ⟨?_, ?_, case_any T hK⟩
    · by_cases h22 : T.kind = 22
      · exact expr_22 T h22 hE hK
      by_cases h23 : T.kind = 23
      · exact expr_23 T h23 hE hK
      by_cases h24 : T.kind = 24
      · exact expr_24 T h24 hE hK
      by_cases h25 : T.kind = 25
      · exact expr_25 T h25 hE hK
      by_cases h26 : T.kind = 26
      · exact expr_26 T h26 hE hK
      by_cases h27 : T.kind = 27
      · exact expr_27 T h27 hE hK
      by_cases h28 : T.kind = 28
      · exact expr_28 T h28 hE hK
      by_cases h29 : T.kind = 29
      · exact expr_29 T h29 hE hK
      exact expr_other T fun k hk => by
        simp only [List.mem_cons, List.not_mem_nil, or_false] at hk
        rcases hk with rfl | rfl | rfl | rfl | rfl | rfl | rfl | rfl <;> assumption
    · by_cases h4 : T.kind = 4
      · exact stmt_4 T h4 fun i hi => (ih i hi).2.1
      by_cases h9 : T.kind = 9
      · exact stmt_9 T h9 hK
      by_cases h15 : T.kind = 15
      · exact stmt_15 T h15 fun i hi => (ih i hi).2.2
      by_cases h5 : T.kind = 5
      · exact stmt_5 T h5 hE hK
      by_cases h6 : T.kind = 6
      · exact stmt_6 T h6 hE hK
      by_cases h7 : T.kind = 7
      · exact stmt_7 T h7 hE hK
      by_cases h8 : T.kind = 8
      · exact stmt_8 T h8 hE hK
      by_cases h10 : T.kind = 10
      · exact stmt_10 T h10 hE hK
      by_cases h11 : T.kind = 11
      · exact stmt_11 T h11 hE hK
      by_cases h12 : T.kind = 12
      · exact stmt_12 T h12 hE hK
      by_cases h13 : T.kind = 13
      · exact stmt_13 T h13 hE hK
      by_cases h14 : T.kind = 14
      · exact stmt_14 T h14 hE hK
      by_cases h17 : T.kind = 17
      · exact stmt_17 T h17 hE hK
      by_cases h18 : T.kind = 18
      · exact stmt_18 T h18 hE hK
      by_cases h19 : T.kind = 19
      · exact stmt_19 T h19 hE hK
      by_cases h20 : T.kind = 20
      · exact stmt_20 T h20 hE hK
      by_cases h21 : T.kind = 21
      · exact stmt_21 T h21 hE hK
      exact stmt_other T fun k hk => by
        simp only [List.mem_cons, List.not_mem_nil, or_false] at hk
        rcases hk with rfl | rfl | rfl | rfl | rfl | rfl | rfl | rfl | rfl | rfl | rfl | rfl | rfl | rfl | rfl | rfl | rfl <;> assumption
  induction T with
  | nil => exact step _ fun i hi => absurd hi (Nat.not_lt_zero i)
  | mk k n s len kids ih => exact step _ fun i _ => ih i

set_option maxHeartbeats 4000000 in
set_option maxRecDepth 100000 in
theorem spec_tree (T : Nd) (w : World) (v : Value) (hi : Nat) (hf : T.Fine) (hhi : hi ≤ w.heap.size) (hr : Row 0 hi w T v) :
    Calls Tryd.prog 31 #[T.val v] w fun e w' => e = .returned (.bool (treeB T)) ∧ Below w.heap.size w w' := by
  have hn := T.fine_len hf
  obtain ⟨a, cap, hv, hcap, hq⟩ := row_eq.1 hr
  have HB : ∀ o : Obj, Hid (Below w.heap.size w (w.alloc o)) := fun o => (Below.refl _ _).alloc (Nat.le_refl _) _
  have HL := hid_mk (fun W (hb : Below w.heap.size w W) => left_any T W 600 v hi hf (by have := hb.size; omega) (row_below hb hhi hr) (by omega))
  have HEO : Hid (treeB T = (decide (T.size ≤ 600) && decide (T.kind = 1) && decide (T.num = 0) && emptyB T.name && allTo (fun i => funcB (T.kids i)) T.len)) := rfl
  have HI : Hid (∀ i, i < T.len → FuncC (T.kids i)) := fun i hi => func_any _ fun j _ => (ok_all _).2.1
  have HF := hid_mk hf
  have HR := hid_mk hq
  have HSZ : Hid (left' T.size 600 = if T.size ≤ 600 then ((600 - T.size : Nat) : Int) else -1) := rfl
  unfold Nd.val at *
  subst hv
  clear hf hr hq hcap
  generalize T.kind = tk at *
  generalize T.num = tn at *
  generalize T.name = ts at *
  by_cases hz : T.size ≤ 600
  case neg =>
    have HO : Hid (treeB T = false) := by unfold Hid; rw [HEO.out]; simp [hz]
    have hl : left' T.size 600 = -1 := by have := HSZ.out; rw [if_neg hz] at this; exact this
    go_enter Tryd.func31, Tryd.ntmps31
    go_wp2_with (go_at_call 29; refine (HL.out _ (HB _).out).mono ?_; rw [hl]; rintro e w1 ⟨rfl, hb1⟩)
    go_ret
    exact ⟨ret_bool HO.out.symm, (HB _).out.trans (hb1.mono (by simp))⟩
  have hl : left' T.size 600 = ((600 - T.size : Nat) : Int) := by have := HSZ.out; rw [if_pos hz] at this; exact this
  have hln : ¬ (((600 - T.size : Nat) : Int) < 0) := by omega
  by_cases hgood : tk = 1 ∧ tn = 0 ∧ ts.toList.isEmpty = true
  case neg =>
    have HO : Hid (treeB T = false) := by
      unfold Hid; rw [HEO.out]
      cases h1 : decide (tk = 1)
      · simp
      cases h2 : decide (tn = 0)
      · simp
      cases h3 : ts.toList.isEmpty
      · simp [emptyB, h3]
      · exact absurd ⟨of_decide_eq_true h1, of_decide_eq_true h2, h3⟩ hgood
    have HG : Hid ((tk != 1) = false → (tn != 0) = false → ts.toList.isEmpty = true → False) := fun h1 h2 h3 => hgood ⟨by simpa using h1, by simpa using h2, h3⟩
    clear hgood HSZ HEO
    cases h1 : (tk != 1)
    · cases h2 : (tn != 0)
      · cases h3 : ts.toList.isEmpty
        · go_enter Tryd.func31, Tryd.ntmps31
          go_wp2_with (go_at_call 29; refine (HL.out _ (HB _).out).mono ?_; rw [hl]; rintro e w1 ⟨rfl, hb1⟩; have hz1 := hb1.size; simp only [World.size_alloc] at hz1; obtain ⟨hc1, hf1⟩ := bcell hb1)
          go_ret
          exact ⟨ret_bool HO.out.symm, (HB _).out.trans (hb1.mono (by simp))⟩
        · exact (HG.out h1 h2 h3).elim
      · go_enter Tryd.func31, Tryd.ntmps31
        go_wp2_with (go_at_call 29; refine (HL.out _ (HB _).out).mono ?_; rw [hl]; rintro e w1 ⟨rfl, hb1⟩; have hz1 := hb1.size; simp only [World.size_alloc] at hz1; obtain ⟨hc1, hf1⟩ := bcell hb1)
        go_ret
        exact ⟨ret_bool HO.out.symm, (HB _).out.trans (hb1.mono (by simp))⟩
    · go_enter Tryd.func31, Tryd.ntmps31
      go_wp2_with (go_at_call 29; refine (HL.out _ (HB _).out).mono ?_; rw [hl]; rintro e w1 ⟨rfl, hb1⟩; have hz1 := hb1.size; simp only [World.size_alloc] at hz1; obtain ⟨hc1, hf1⟩ := bcell hb1)
      go_ret
      exact ⟨ret_bool HO.out.symm, (HB _).out.trans (hb1.mono (by simp))⟩
  obtain ⟨rfl, rfl, he⟩ := hgood
  have HO : Hid (treeB T = allTo (fun i => funcB (T.kids i)) T.len) := by unfold Hid; rw [HEO.out]; simp [hz, emptyB, he]
  clear HEO HSZ hz
  go_enter Tryd.func31, Tryd.ntmps31
  go_wp2_with (go_at_call 29; refine (HL.out _ (HB _).out).mono ?_; rw [hl]; rintro e w1 ⟨rfl, hb1⟩; have hz1 := hb1.size; simp only [World.size_alloc] at hz1; obtain ⟨hc1, hf1⟩ := bcell hb1)
  have hb01 := hb1
  simp only [World.size_alloc] at hb01
  clear hb1 hc1 hf1 hz1 he hl HL
  go_loopg [3] T.len (fun gk i wr => ∃ (j : Nat), gk = T.len - j ∧ j ≤ T.len ∧ i = .int .i64 j ∧ Hid (∀ i, i < j → funcB (T.kids i) = true) ∧ Below (w.heap.size + 1) (w.alloc (.cells #[.int .i64 1, .int .i64 0, .string ts, .slice a T.len cap] 37)) wr)
  case atStart => exact ⟨0, by omega, by omega, rfl, (fun i hi => by omega), hb01⟩
  case round =>
    obtain ⟨j, hgk, hj, rfl, hall, hb⟩ := hrel
    have HGK := hid_mk hgk
    clear hgk hb01
    have k3 : wr.cell? ⟨w.heap.size, 3, none⟩ = some (.slice a T.len cap) := by
      rw [hb.cell (p := ⟨w.heap.size, 3, none⟩) (by show w.heap.size < _; omega)]; simp
    have hbw := (HB (.cells #[.int .i64 1, .int .i64 0, .string ts, .slice a T.len cap] 37)).out.trans (hb.mono (by omega))
    have hbz := hbw.size
    have hbx : w.heap.size + 1 ≤ wr.heap.size := by have := hb.size; simpa using this
    by_cases hlt : j < T.len
    · rcases HR.out with h0 | ⟨g, off, rfl, g1, g2, g3⟩
      · omega
      obtain ⟨u, e0, e1, e2, e3, hu⟩ := g3 j hlt
      have hgl : g < w.heap.size := by omega
      rw [← hbw.cell (p := ⟨g, _, none⟩) hgl] at e0 e1 e2 e3
      have HU := hid_mk (row_below hbw hhi hu)
      have HC := HI.out j hlt
      have HFJ := hid_mk (Nd.fine_kid HF.out hlt)
      have HN : Hid (funcB (T.kids j) = false → false = treeB T) := fun h => by rw [HO.out, allTo_false hlt h]
      have HY : Hid (funcB (T.kids j) = true → ∀ i, i < j + 1 → funcB (T.kids i) = true) := fun h i hi => by
        by_cases e : i = j
        · subst e; exact h
        · exact hall.out i (by omega)
      unfold FuncC Nd.val at HC
      have HCC := hid_mk HC
      clear g3 HC hu hall
      generalize T.kids j = K at *
      cases hx : funcB K
      all_goals have HX := hid_mk hx
      all_goals clear hx
      all_goals go_wp2_with (go_at_call 42; refine (HCC.out _ _ hi HFJ.out (by omega) HU.out).mono ?_; rw [HX.out]; rintro e w1 ⟨rfl, hb1⟩)
      · go_ret
        exact ⟨ret_bool (HN.out HX.out), hbw.trans (hb1.mono hbz)⟩
      · go_roundg (T.len - (j + 1))
        case rel => exact ⟨j + 1, rfl, by omega, by go_num, HY.out HX.out, hb.trans (hb1.mono hbx)⟩
        case measure => have := HGK.out; omega
    · obtain rfl : j = T.len := by omega
      go_wp2
      go_ret
      exact ⟨ret_bool (by rw [HO.out, allTo_true hall.out]), hbw⟩
end Go.Proofs.YtjgbjahcnnjfpaaDoor
