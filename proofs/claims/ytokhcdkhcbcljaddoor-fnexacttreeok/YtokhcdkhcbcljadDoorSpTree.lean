/- The specification's test of a statement: a case, a function, a tree. -/
import Derived.Test.YtokhcdkhcbcljadDoorSpExprA
import Derived.Test.YtokhcdkhcbcljadDoorSpExprB
import Derived.Test.YtokhcdkhcbcljadDoorSpExprC
import Derived.Test.YtokhcdkhcbcljadDoorSpExprD
import Derived.Test.YtokhcdkhcbcljadDoorSpStmtA
import Derived.Test.YtokhcdkhcbcljadDoorSpStmtB
import Derived.Test.YtokhcdkhcbcljadDoorSpStmtC
import Derived.Test.YtokhcdkhcbcljadDoorSpStmtD
import Derived.Test.YtokhcdkhcbcljadDoorSpStmtE
import Derived.Test.YtokhcdkhcbcljadDoorSpStmtF
import Derived.Test.YtokhcdkhcbcljadDoorSpStmtG
import Derived.Test.YtokhcdkhcbcljadDoorSpStmtH
import Derived.Test.YtokhcdkhcbcljadDoorSpOther
import Derived.Test.YtokhcdkhcbcljadDoorSpCase
import Derived.Test.YtokhcdkhcbcljadDoorSpFunc
import Derived.Test.YtokhcdkhcbcljadDoorSpLeft
import Derived.WalkSpells
import Derived.WalkSmall
import Derived.Deep.LoopGhost
set_option linter.unusedVariables false
namespace Go.Proofs.YtokhcdkhcbcljadDoor
open Go.RowKit


theorem ok_all (T : Nd) : ExprC T ∧ StmtC T ∧ CaseC T := by
  have step : ∀ T : Nd, (∀ i, i < T.len → ExprC (T.kids i) ∧ StmtC (T.kids i) ∧ CaseC (T.kids i)) → ExprC T ∧ StmtC T ∧ CaseC T := by
    intro T ih
    have hE := exprs_of T fun i hi => (ih i hi).1
    have hK := kids_of T fun i hi => ⟨(ih i hi).1, (ih i hi).2.1⟩
    refine ⟨?_, ?_, case_any T hK⟩
    · by_cases h22 : T.kind = 22
      · exact expr_22 T h22 hE hK
      by_cases h23 : T.kind = 23
      · exact expr_23 T h23 hE hK
      by_cases h24 : T.kind = 24
      · exact expr_24 T h24 hE hK
      by_cases h25 : T.kind = 25
      · exact expr_25 T h25 hE hK
      by_cases h26 : T.kind = 26
      · exact expr_26 T h26 hE hK
      by_cases h27 : T.kind = 27
      · exact expr_27 T h27 hE hK
      by_cases h28 : T.kind = 28
      · exact expr_28 T h28 hE hK
      by_cases h29 : T.kind = 29
      · exact expr_29 T h29 hE hK
      exact expr_other T fun k hk => by
        simp only [List.mem_cons, List.not_mem_nil, or_false] at hk
        rcases hk with rfl | rfl | rfl | rfl | rfl | rfl | rfl | rfl <;> assumption
    · by_cases h4 : T.kind = 4
      · exact stmt_4 T h4 fun i hi => (ih i hi).2.1
      by_cases h9 : T.kind = 9
      · exact stmt_9 T h9 hK
      by_cases h15 : T.kind = 15
      · exact stmt_15 T h15 fun i hi => (ih i hi).2.2
      by_cases h5 : T.kind = 5
      · exact stmt_5 T h5 hE hK
      by_cases h6 : T.kind = 6
      · exact stmt_6 T h6 hE hK
      by_cases h7 : T.kind = 7
      · exact stmt_7 T h7 hE hK
      by_cases h8 : T.kind = 8
      · exact stmt_8 T h8 hE hK
      by_cases h10 : T.kind = 10
      · exact stmt_10 T h10 hE hK
      by_cases h11 : T.kind = 11
      · exact stmt_11 T h11 hE hK
      by_cases h12 : T.kind = 12
      · exact stmt_12 T h12 hE hK
      by_cases h13 : T.kind = 13
      · exact stmt_13 T h13 hE hK
      by_cases h14 : T.kind = 14
      · exact stmt_14 T h14 hE hK
      by_cases h17 : T.kind = 17
      · exact stmt_17 T h17 hE hK
      by_cases h18 : T.kind = 18
      · exact stmt_18 T h18 hE hK
      by_cases h19 : T.kind = 19
      · exact stmt_19 T h19 hE hK
      by_cases h20 : T.kind = 20
      · exact stmt_20 T h20 hE hK
      by_cases h21 : T.kind = 21
      · exact stmt_21 T h21 hE hK
      exact stmt_other T fun k hk => by
        simp only [List.mem_cons, List.not_mem_nil, or_false] at hk
        rcases hk with rfl | rfl | rfl | rfl | rfl | rfl | rfl | rfl | rfl | rfl | rfl | rfl | rfl | rfl | rfl | rfl | rfl <;> assumption
  induction T with
  | nil => exact step _ fun i hi => absurd hi (Nat.not_lt_zero i)
  | mk k n s len kids ih => exact step _ fun i _ => ih i

set_option maxHeartbeats 4000000 in
set_option maxRecDepth 100000 in
theorem spec_tree (T : Nd) (w : World) (v : Value) (hi : Nat) (hf : T.Fine) (hhi : hi ≤ w.heap.size) (hr : Row 0 hi w T v) :
    Calls Tryd.prog 14 #[T.val v] w fun e w' => e = .returned (.bool (treeB T)) ∧ Below w.heap.size w w' := by
  have hn := T.fine_len hf
  obtain ⟨a, cap, hv, hcap, hq⟩ := row_eq.1 hr
  have HB : ∀ o : Obj, Hid (Below w.heap.size w (w.alloc o)) := fun o => (Below.refl _ _).alloc (Nat.le_refl _) _
  have HL := hid_mk (fun W (hb : Below w.heap.size w W) => left_any T W 600 v hi hf (by have := hb.size; omega) (row_below hb hhi hr) (by omega))
  have HEO : Hid (treeB T = (decide (T.size ≤ 600) && decide (T.kind = 1) && decide (T.num = 0) && emptyB T.name && allTo (fun i => funcB (T.kids i)) T.len)) := rfl
  have HI : Hid (∀ i, i < T.len → FuncC (T.kids i)) := fun i hi => func_any _ fun j _ => (ok_all _).2.1
  have HF := hid_mk hf
  have HR := hid_mk hq
  have HSZ : Hid (left' T.size 600 = if T.size ≤ 600 then ((600 - T.size : Nat) : Int) else -1) := rfl
  unfold Nd.val at *
  subst hv
  clear hf hr hq hcap
  generalize T.kind = tk at *
  generalize T.num = tn at *
  generalize T.name = ts at *
  by_cases hz : T.size ≤ 600
  case neg =>
    have HO : Hid (treeB T = false) := by unfold Hid; rw [HEO.out]; simp [hz]
    have hl : left' T.size 600 = -1 := by have := HSZ.out; rw [if_neg hz] at this; exact this
    go_enter Tryd.func14, Tryd.ntmps14
    go_wp2_with (go_at_call 30; refine (HL.out _ (HB _).out).mono ?_; rw [hl]; rintro e w1 ⟨rfl, hb1⟩)
    go_ret
    exact ⟨ret_bool HO.out.symm, (HB _).out.trans (hb1.mono (by simp))⟩
  have hl : left' T.size 600 = ((600 - T.size : Nat) : Int) := by have := HSZ.out; rw [if_pos hz] at this; exact this
  have hln : ¬ (((600 - T.size : Nat) : Int) < 0) := by omega
  by_cases hgood : tk = 1 ∧ tn = 0 ∧ ts.toList.isEmpty = true
  case neg =>
    have HO : Hid (treeB T = false) := by
      unfold Hid; rw [HEO.out]
      cases h1 : decide (tk = 1)
      · simp
      cases h2 : decide (tn = 0)
      · simp
      cases h3 : ts.toList.isEmpty
      · simp [emptyB, h3]
      · exact absurd ⟨of_decide_eq_true h1, of_decide_eq_true h2, h3⟩ hgood
    have HG : Hid ((tk != 1) = false → (tn != 0) = false → ts.toList.isEmpty = true → False) := fun h1 h2 h3 => hgood ⟨by simpa using h1, by simpa using h2, h3⟩
    clear hgood HSZ HEO
    cases h1 : (tk != 1)
    · cases h2 : (tn != 0)
      · cases h3 : ts.toList.isEmpty
        · go_enter Tryd.func14, Tryd.ntmps14
          go_wp2_with (go_at_call 30; refine (HL.out _ (HB _).out).mono ?_; rw [hl]; rintro e w1 ⟨rfl, hb1⟩; have hz1 := hb1.size; simp only [World.size_alloc] at hz1; obtain ⟨hc1, hf1⟩ := bcell hb1)
          go_ret
          exact ⟨ret_bool HO.out.symm, (HB _).out.trans (hb1.mono (by simp))⟩
        · exact (HG.out h1 h2 h3).elim
      · go_enter Tryd.func14, Tryd.ntmps14
        go_wp2_with (go_at_call 30; refine (HL.out _ (HB _).out).mono ?_; rw [hl]; rintro e w1 ⟨rfl, hb1⟩; have hz1 := hb1.size; simp only [World.size_alloc] at hz1; obtain ⟨hc1, hf1⟩ := bcell hb1)
        go_ret
        exact ⟨ret_bool HO.out.symm, (HB _).out.trans (hb1.mono (by simp))⟩
    · go_enter Tryd.func14, Tryd.ntmps14
      go_wp2_with (go_at_call 30; refine (HL.out _ (HB _).out).mono ?_; rw [hl]; rintro e w1 ⟨rfl, hb1⟩; have hz1 := hb1.size; simp only [World.size_alloc] at hz1; obtain ⟨hc1, hf1⟩ := bcell hb1)
      go_ret
      exact ⟨ret_bool HO.out.symm, (HB _).out.trans (hb1.mono (by simp))⟩
  obtain ⟨rfl, rfl, he⟩ := hgood
  have HO : Hid (treeB T = allTo (fun i => funcB (T.kids i)) T.len) := by unfold Hid; rw [HEO.out]; simp [hz, emptyB, he]
  clear HEO HSZ hz
  go_enter Tryd.func14, Tryd.ntmps14
  go_wp2_with (go_at_call 30; refine (HL.out _ (HB _).out).mono ?_; rw [hl]; rintro e w1 ⟨rfl, hb1⟩; have hz1 := hb1.size; simp only [World.size_alloc] at hz1; obtain ⟨hc1, hf1⟩ := bcell hb1)
  have hb01 := hb1
  simp only [World.size_alloc] at hb01
  clear hb1 hc1 hf1 hz1 he hl HL
  go_loopg [3] T.len (fun gk i wr => ∃ (j : Nat), gk = T.len - j ∧ j ≤ T.len ∧ i = .int .i64 j ∧ Hid (∀ i, i < j → funcB (T.kids i) = true) ∧ Below (w.heap.size + 1) (w.alloc (.cells #[.int .i64 1, .int .i64 0, .string ts, .slice a T.len cap] 36)) wr)
  case atStart => exact ⟨0, by omega, by omega, rfl, (fun i hi => by omega), hb01⟩
  case round =>
    obtain ⟨j, hgk, hj, rfl, hall, hb⟩ := hrel
    have HGK := hid_mk hgk
    clear hgk hb01
    have k3 : wr.cell? ⟨w.heap.size, 3, none⟩ = some (.slice a T.len cap) := by
      rw [hb.cell (p := ⟨w.heap.size, 3, none⟩) (by show w.heap.size < _; omega)]; simp
    have hbw := (HB (.cells #[.int .i64 1, .int .i64 0, .string ts, .slice a T.len cap] 36)).out.trans (hb.mono (by omega))
    have hbz := hbw.size
    have hbx : w.heap.size + 1 ≤ wr.heap.size := by have := hb.size; simpa using this
    by_cases hlt : j < T.len
    · rcases HR.out with h0 | ⟨g, off, rfl, g1, g2, g3⟩
      · omega
      obtain ⟨u, e0, e1, e2, e3, hu⟩ := g3 j hlt
      have hgl : g < w.heap.size := by omega
      rw [← hbw.cell (p := ⟨g, _, none⟩) hgl] at e0 e1 e2 e3
      have HU := hid_mk (row_below hbw hhi hu)
      have HC := HI.out j hlt
      have HFJ := hid_mk (Nd.fine_kid HF.out hlt)
      have HN : Hid (funcB (T.kids j) = false → false = treeB T) := fun h => by rw [HO.out, allTo_false hlt h]
      have HY : Hid (funcB (T.kids j) = true → ∀ i, i < j + 1 → funcB (T.kids i) = true) := fun h i hi => by
        by_cases e : i = j
        · subst e; exact h
        · exact hall.out i (by omega)
      unfold FuncC Nd.val at HC
      have HCC := hid_mk HC
      clear g3 HC hu hall
      generalize T.kids j = K at *
      cases hx : funcB K
      all_goals have HX := hid_mk hx
      all_goals clear hx
      all_goals go_wp2_with (go_at_call 31; refine (HCC.out _ _ hi HFJ.out (by omega) HU.out).mono ?_; rw [HX.out]; rintro e w1 ⟨rfl, hb1⟩)
      · go_ret
        exact ⟨ret_bool (HN.out HX.out), hbw.trans (hb1.mono hbz)⟩
      · go_roundg (T.len - (j + 1))
        case rel => exact ⟨j + 1, rfl, by omega, by go_num, HY.out HX.out, hb.trans (hb1.mono hbx)⟩
        case measure => have := HGK.out; omega
    · obtain rfl : j = T.len := by omega
      go_wp2
      go_ret
      exact ⟨ret_bool (by rw [HO.out, allTo_true hall.out]), hbw⟩
end Go.Proofs.YtokhcdkhcbcljadDoor
