/- The specification's test of a statement: a case, a function, a tree. -/
import Derived.Test.YtokhcdkhcbcljadDoorSpBits
import Derived.WalkSpells
import Derived.WalkSmall
import Derived.Deep.LoopGhost
set_option linter.unusedVariables false
namespace Go.Proofs.YtokhcdkhcbcljadDoor
open Go.RowKit


def FuncC (T : Nd) : Prop := ∀ (w : World) (v : Value) (hi : Nat), T.Fine → hi ≤ w.heap.size → Row 0 hi w T v →
  Calls Tryd.prog 31 #[T.val v] w fun e w' => e = .returned (.bool (funcB T)) ∧ Below w.heap.size w w'

set_option maxHeartbeats 4000000 in
set_option maxRecDepth 100000 in
theorem func_any (T : Nd) (ih : ∀ i, i < T.len → StmtC (T.kids i)) : FuncC T := by
  intro w v hi hf hhi hr
  have hn := T.fine_len hf
  have hs := T.fine_name hf
  obtain ⟨a, cap, hv, hcap, hq⟩ := row_eq.1 hr
  have HB : ∀ o : Obj, Hid (Below w.heap.size w (w.alloc o)) := fun o => (Below.refl _ _).alloc (Nat.le_refl _) _
  have HS : Hid (T.name.size ≤ maxLen) := by unfold Hid maxLen; exact hs
  have HEO : Hid (funcB T = (decide (T.kind = 2) && nameB T.name && (decide (0 ≤ T.num) && decide (T.num ≤ 3)) && decide (1 ≤ T.len) && (allTo (fun i => paramB (T.kids i)) (T.len - 1) && (decide ((T.kids (T.len - 1)).kind = 4) && (T.kids (T.len - 1)).sOk)))) := rfl
  have HI := hid_mk ih
  have HF := hid_mk hf
  have HR := hid_mk hq
  unfold Nd.val at *
  subst hv
  clear hf hr hs hq hcap ih
  generalize T.kind = tk at *
  generalize T.num = tn at *
  generalize T.name = ts at *
  by_cases hk : tk = 2
  case neg =>
    have m1 : (tk != 2) = true := by rw [bne_iff_ne]; exact hk
    have HO : Hid (funcB T = false) := by unfold Hid; rw [HEO.out]; simp [hk]
    clear hk
    go_enter Tryd.func31, Tryd.ntmps31
    go_wp2
    go_ret
    exact ⟨ret_bool HO.out.symm, (HB _).out⟩
  subst hk
  cases hnm : nameB ts
  · have HO : Hid (funcB T = false) := by unfold Hid; rw [HEO.out, hnm]; simp
    go_enter Tryd.func31, Tryd.ntmps31
    go_wp2_with (go_at_call 43; refine (spec_name _ _ HS.out).mono ?_; rw [hnm]; rintro e w1 ⟨rfl, hb1⟩; have hz1 := hb1.size; simp only [World.size_alloc] at hz1; obtain ⟨hc1, hf1⟩ := bcell hb1)
    go_ret
    exact ⟨ret_bool HO.out.symm, (HB _).out.trans (hb1.mono (by simp))⟩
  by_cases h0 : tn < 0
  · have HO : Hid (funcB T = false) := by unfold Hid; rw [HEO.out]; simp; omega
    go_enter Tryd.func31, Tryd.ntmps31
    go_wp2_with (go_at_call 43; refine (spec_name _ _ HS.out).mono ?_; rw [hnm]; rintro e w1 ⟨rfl, hb1⟩; have hz1 := hb1.size; simp only [World.size_alloc] at hz1; obtain ⟨hc1, hf1⟩ := bcell hb1)
    go_ret
    exact ⟨ret_bool HO.out.symm, (HB _).out.trans (hb1.mono (by simp))⟩
  by_cases h3 : 3 < tn
  · have HO : Hid (funcB T = false) := by unfold Hid; rw [HEO.out]; simp; omega
    go_enter Tryd.func31, Tryd.ntmps31
    go_wp2_with (go_at_call 43; refine (spec_name _ _ HS.out).mono ?_; rw [hnm]; rintro e w1 ⟨rfl, hb1⟩; have hz1 := hb1.size; simp only [World.size_alloc] at hz1; obtain ⟨hc1, hf1⟩ := bcell hb1)
    go_ret
    exact ⟨ret_bool HO.out.symm, (HB _).out.trans (hb1.mono (by simp))⟩
  by_cases hl : T.len < 1
  · have HO : Hid (funcB T = false) := by unfold Hid; rw [HEO.out]; simp; omega
    go_enter Tryd.func31, Tryd.ntmps31
    go_wp2_with (go_at_call 43; refine (spec_name _ _ HS.out).mono ?_; rw [hnm]; rintro e w1 ⟨rfl, hb1⟩; have hz1 := hb1.size; simp only [World.size_alloc] at hz1; obtain ⟨hc1, hf1⟩ := bcell hb1)
    go_ret
    exact ⟨ret_bool HO.out.symm, (HB _).out.trans (hb1.mono (by simp))⟩
  have HO : Hid (funcB T = (allTo (fun i => paramB (T.kids i)) (T.len - 1) && (decide ((T.kids (T.len - 1)).kind = 4) && (T.kids (T.len - 1)).sOk))) := by
    unfold Hid; rw [HEO.out, hnm]
    have q1 : 0 ≤ tn := by omega
    have q2 : tn ≤ 3 := by omega
    have q3 : 1 ≤ T.len := by omega
    simp [q1, q2, q3]
  clear HEO
  have hl1 : (1 : Int) ≤ (T.len : Int) := by omega
  go_enter Tryd.func31, Tryd.ntmps31
  go_wp2_with (go_at_call 43; refine (spec_name _ _ HS.out).mono ?_; rw [hnm]; rintro e w1 ⟨rfl, hb1⟩; have hz1 := hb1.size; simp only [World.size_alloc] at hz1; obtain ⟨hc1, hf1⟩ := bcell hb1)
  have hb01 := hb1
  simp only [World.size_alloc] at hb01
  clear hb1 hc1 hf1 hz1 hnm h0 h3
  go_loopg [4] T.len (fun gk i wr => ∃ (j : Nat), gk = T.len - j ∧ j ≤ T.len - 1 ∧ i = .int .i64 j ∧ Hid (∀ i, i < j → paramB (T.kids i) = true) ∧ Below (w.heap.size + 1) (w.alloc (.cells #[.int .i64 2, .int .i64 tn, .string ts, .slice a T.len cap] 36)) wr)
  case atStart => exact ⟨0, by omega, by omega, rfl, (fun i hi => by omega), hb01⟩
  case round =>
    obtain ⟨j, hgk, hj, rfl, hall, hb⟩ := hrel
    have HGK := hid_mk hgk
    clear hgk hb01
    have k3 : wr.cell? ⟨w.heap.size, 3, none⟩ = some (.slice a T.len cap) := by
      rw [hb.cell (p := ⟨w.heap.size, 3, none⟩) (by show w.heap.size < _; omega)]; simp
    have hbw := (HB (.cells #[.int .i64 2, .int .i64 tn, .string ts, .slice a T.len cap] 36)).out.trans (hb.mono (by omega))
    have hbz := hbw.size
    have hbx : w.heap.size + 1 ≤ wr.heap.size := by have := hb.size; simpa using this
    have hjl : j < T.len := by omega
    rcases HR.out with h0 | ⟨g, off, rfl, g1, g2, g3⟩
    · omega
    obtain ⟨u, e0, e1, e2, e3, hu⟩ := g3 j hjl
    have hgl : g < w.heap.size := by omega
    rw [← hbw.cell (p := ⟨g, _, none⟩) hgl] at e0 e1 e2 e3
    by_cases hlt : j < T.len - 1
    · have hlt' : (j : Int) < (T.len : Int) - 1 := by omega
      obtain ⟨au, cu, rfl, _⟩ := row_eq.1 hu
      have hns := Nd.fine_name (Nd.fine_kid HF.out hjl)
      have HSJ : Hid ((T.kids j).name.size ≤ maxLen) := by unfold Hid maxLen; exact hns
      have HN : Hid (paramB (T.kids j) = false → false = funcB T) := fun h => by rw [HO.out, allTo_false hlt h]; simp
      have HY : Hid (paramB (T.kids j) = true → ∀ i, i < j + 1 → paramB (T.kids i) = true) := fun h i hi => by
        by_cases e : i = j
        · subst e; exact h
        · exact hall.out i (by omega)
      have HPB : Hid (paramB (T.kids j) = (decide ((T.kids j).kind = 3) && nameB (T.kids j).name && (decide (1 ≤ (T.kids j).num) && decide ((T.kids j).num ≤ 3)) && decide ((T.kids j).len = 0))) := rfl
      have hbN : ∀ o : Obj, Hid (Below wr.heap.size wr (wr.alloc o)) := fun o => (Below.refl _ _).alloc (Nat.le_refl _) _
      clear g3 hu hall hns
      generalize paramB (T.kids j) = pb at *
      generalize T.kids j = P at *
      generalize P.kind = pk at *
      generalize P.num = pn at *
      generalize P.name = ps at *
      by_cases hk : pk = 3
      case neg =>
        have m1 : (pk != 3) = true := by rw [bne_iff_ne]; exact hk
        have HO2 : Hid (pb = false) := by unfold Hid; rw [HPB.out]; simp [hk]
        clear hk
        go_wp2
        go_ret
        exact ⟨ret_bool (HN.out HO2.out), hbw.trans ((hbN _).out.mono hbz)⟩
      subst hk
      cases hnm : nameB ps
      · have HO2 : Hid (pb = false) := by unfold Hid; rw [HPB.out, hnm]; simp
        go_wp2_with (go_at_call 43; refine (spec_name _ _ HSJ.out).mono ?_; rw [hnm]; rintro e w1 ⟨rfl, hb1⟩; have hz1 := hb1.size; simp only [World.size_alloc] at hz1; obtain ⟨hc1, hf1⟩ := bcell hb1)
        go_ret
        exact ⟨ret_bool (HN.out HO2.out), hbw.trans ((((hbN _).out.trans (hb1.mono (by simp)))).mono hbz)⟩
      by_cases h0 : pn < 1
      · have HO2 : Hid (pb = false) := by unfold Hid; rw [HPB.out]; simp; omega
        go_wp2_with (go_at_call 43; refine (spec_name _ _ HSJ.out).mono ?_; rw [hnm]; rintro e w1 ⟨rfl, hb1⟩; have hz1 := hb1.size; simp only [World.size_alloc] at hz1; obtain ⟨hc1, hf1⟩ := bcell hb1)
        go_ret
        exact ⟨ret_bool (HN.out HO2.out), hbw.trans ((((hbN _).out.trans (hb1.mono (by simp)))).mono hbz)⟩
      by_cases h3 : 3 < pn
      · have HO2 : Hid (pb = false) := by unfold Hid; rw [HPB.out]; simp; omega
        go_wp2_with (go_at_call 43; refine (spec_name _ _ HSJ.out).mono ?_; rw [hnm]; rintro e w1 ⟨rfl, hb1⟩; have hz1 := hb1.size; simp only [World.size_alloc] at hz1; obtain ⟨hc1, hf1⟩ := bcell hb1)
        go_ret
        exact ⟨ret_bool (HN.out HO2.out), hbw.trans ((((hbN _).out.trans (hb1.mono (by simp)))).mono hbz)⟩
      cases hpl : ((P.len : Int) != 0)
      · have HO2 : Hid (pb = true) := by
          unfold Hid; rw [HPB.out, hnm]
          have q1 : 1 ≤ pn := by omega
          have q2 : pn ≤ 3 := by omega
          have q3 : P.len = 0 := by have : (P.len : Int) = 0 := by simpa using hpl
                                    omega
          simp [q1, q2, q3]
        go_wp2_with (go_at_call 43; refine (spec_name _ _ HSJ.out).mono ?_; rw [hnm]; rintro e w1 ⟨rfl, hb1⟩; have hz1 := hb1.size; simp only [World.size_alloc] at hz1; obtain ⟨hc1, hf1⟩ := bcell hb1)
        go_roundg (T.len - (j + 1))
        case rel => exact ⟨j + 1, rfl, by omega, by go_num, HY.out HO2.out, hb.trans ((((hbN _).out.trans (hb1.mono (by simp)))).mono hbx)⟩
        case measure => have := HGK.out; omega
      · have HO2 : Hid (pb = false) := by
          unfold Hid; rw [HPB.out]
          have q3 : ¬ P.len = 0 := by
            intro h; rw [h] at hpl; simp at hpl
          simp [q3]
        go_wp2_with (go_at_call 43; refine (spec_name _ _ HSJ.out).mono ?_; rw [hnm]; rintro e w1 ⟨rfl, hb1⟩; have hz1 := hb1.size; simp only [World.size_alloc] at hz1; obtain ⟨hc1, hf1⟩ := bcell hb1)
        go_ret
        exact ⟨ret_bool (HN.out HO2.out), hbw.trans ((((hbN _).out.trans (hb1.mono (by simp)))).mono hbz)⟩
    · obtain rfl : j = T.len - 1 := by omega
      have hcast : ((T.len - 1 : Nat) : Int) = (T.len : Int) - 1 := by omega
      have HAL : Hid (allTo (fun i => paramB (T.kids i)) (T.len - 1) = true) := allTo_true hall.out
      have HU := hid_mk (row_below hbw hhi hu)
      have HC := HI.out (T.len - 1) hjl
      have HFJ := hid_mk (Nd.fine_kid HF.out hjl)
      have hoff : off + (T.len - 1) * 4 = off + (T.len - 1) * 4 := rfl
      unfold StmtC Nd.val at HC
      have HCC := hid_mk HC
      have HOO : Hid (funcB T = (decide ((T.kids (T.len - 1)).kind = 4) && (T.kids (T.len - 1)).sOk)) := by unfold Hid; rw [HO.out, HAL.out, Bool.true_and]
      clear g3 hu hall HC HO HAL hoff
      generalize T.kids (T.len - 1) = K at *
      rw [hcast] at *
      by_cases hk : K.kind = 4
      · have hkb : (K.kind == 4) = true := beq_iff_eq.2 hk
        replace HOO : Hid (funcB T = K.sOk) := by have := HOO.out; simpa [hk, Hid] using this
        clear hk
        cases hx : K.sOk
        all_goals have HX := hid_mk hx
        all_goals clear hx
        all_goals go_wp2_with (go_at_call 44; refine (HCC.out _ _ hi HFJ.out (by omega) HU.out).mono ?_; rw [HX.out]; rintro e w1 ⟨rfl, hb1⟩)
        all_goals go_ret
        all_goals exact ⟨ret_bool (by rw [HOO.out, HX.out]), hbw.trans (hb1.mono hbz)⟩
      · have hkb : (K.kind == 4) = false := beq_eq_false_iff_ne.2 hk
        replace HOO : Hid (funcB T = false) := by have := HOO.out; simpa [hk, Hid] using this
        clear hk
        go_wp2
        go_ret
        exact ⟨ret_bool HOO.out.symm, hbw⟩
end Go.Proofs.YtokhcdkhcbcljadDoor
