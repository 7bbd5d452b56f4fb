/- The program's test of a tree and the specification's come to one. -/
import Derived.Test.YtokhcdkhcbcljadDoorImEqv2
set_option linter.unusedVariables false
namespace Go.Proofs.YtokhcdkhcbcljadDoor
open Go.RowKit

theorem good_rhs (T : Nd) : good T = rhs T.kind T.num T.name T.len T.kk (fun i => good (T.kids i)) := good_cons T

theorem case_rhs (n : Int) (s : ByteArray) (len : Nat) (kk : Nat → Int) (g : Nat → Bool) : caseB 16 n s len (fun i => isE (kk i) && g i) (fun i => isS (kk i) && g i) kk = rhs 16 n s len kk g := by
  have e1 : caseB 16 n s len (fun i => isE (kk i) && g i) (fun i => isS (kk i) && g i) kk = ((emptyB s || (decide (n = 1) && nameB s)) &&
    (if n = 0 then sortsB (fun i => isE (kk i) && g i) (fun i => isS (kk i) && g i) kk len ⟨#[98]⟩ else if n = 1 then sortsB (fun i => isE (kk i) && g i) (fun i => isS (kk i) && g i) kk len ⟨#[101, 98]⟩ else if n = 2 then sortsB (fun i => isE (kk i) && g i) (fun i => isS (kk i) && g i) kk len ⟨#[101, 101, 98]⟩ else false)) := rfl
  have e2 : rhs 16 n s len kk g = (decide (0 ≤ n) && decide (n ≤ 2) && (emptyB s || (decide (n = 1) && nameB s)) && fitsF kk len (formOf 16 n).size (formOf 16 n).data.toList 0 && allTo g len) := rfl
  rw [e1, e2]
  by_cases h0 : n = 0
  · subst h0
    show ((emptyB s || (false && nameB s)) && sortsB _ _ kk len ⟨#[98]⟩) = (true && true && (emptyB s || (false && nameB s)) && fitsF kk len 1 [98] 0 && allTo g len)
    rw [fits_one, sorts1]
    simp only [show (98 : UInt8).toNat = 98 from rfl, ofBk, sortB]
    have hb := blk1 (kk 0)
    by_cases hl : len = 1
    · subst hl
      simp only [allTo]
      cases hx : decide (kk 0 = 4)
      · cases emptyB s <;> cases g 0 <;> rfl
      · rw [hb hx]; cases emptyB s <;> cases g 0 <;> rfl
    · simp [hl]
  by_cases h1 : n = 1
  · subst h1
    show ((emptyB s || (true && nameB s)) && sortsB _ _ kk len ⟨#[101, 98]⟩) = (true && true && (emptyB s || (true && nameB s)) && fitsF kk len 2 [101, 98] 0 && allTo g len)
    rw [fits_two _ _ _ _ (by decide) (by decide), sorts2]
    simp only [show (98 : UInt8).toNat = 98 from rfl, show (101 : UInt8).toNat = 101 from rfl, ofBk, ofE, sortB]
    have hb := blk1 (kk 1)
    by_cases hl : len = 2
    · subst hl
      simp only [allTo]
      cases hx : decide (kk 1 = 4)
      · cases (emptyB s || (true && nameB s)) <;> cases isE (kk 0) <;> cases g 0 <;> cases g 1 <;> rfl
      · rw [hb hx]; cases (emptyB s || (true && nameB s)) <;> cases isE (kk 0) <;> cases g 0 <;> cases g 1 <;> rfl
    · simp [hl]
  by_cases h2 : n = 2
  · subst h2
    show ((emptyB s || (false && nameB s)) && sortsB _ _ kk len ⟨#[101, 101, 98]⟩) = (true && true && (emptyB s || (false && nameB s)) && fitsF kk len 3 [101, 101, 98] 0 && allTo g len)
    rw [fits_three _ _ _ _ _ (by decide) (by decide) (by decide) (by decide), sorts3]
    simp only [show (98 : UInt8).toNat = 98 from rfl, show (101 : UInt8).toNat = 101 from rfl, ofBk, ofE, sortB]
    have hb := blk1 (kk 2)
    by_cases hl : len = 3
    · subst hl
      simp only [allTo]
      cases hx : decide (kk 2 = 4)
      · cases emptyB s <;> cases isE (kk 0) <;> cases isE (kk 1) <;> cases g 0 <;> cases g 1 <;> cases g 2 <;> rfl
      · rw [hb hx]; cases emptyB s <;> cases isE (kk 0) <;> cases isE (kk 1) <;> cases g 0 <;> cases g 1 <;> cases g 2 <;> rfl
    · simp [hl]
  · rw [if_neg h0, if_neg h1, if_neg h2, Bool.and_false]
    have : (decide (0 ≤ n) && decide (n ≤ 2)) = false := by
      rw [Bool.and_eq_false_iff]
      by_cases hx : 0 ≤ n
      · exact .inr (decide_eq_false (by omega))
      · exact .inl (decide_eq_false hx)
    rw [this]; rfl

theorem eqv (T : Nd) : T.eOk = (isE T.kind && good T) ∧ T.sOk = (isS T.kind && good T) ∧ T.cOk = (decide (T.kind = 16) && good T) := by
  have step : ∀ T : Nd, (∀ i, (T.kids i).eOk = (isE (T.kids i).kind && good (T.kids i)) ∧ (T.kids i).sOk = (isS (T.kids i).kind && good (T.kids i)) ∧ (T.kids i).cOk = (decide ((T.kids i).kind = 16) && good (T.kids i))) →
      T.eOk = (isE T.kind && good T) ∧ T.sOk = (isS T.kind && good T) ∧ T.cOk = (decide (T.kind = 16) && good T) := by
    intro T ih
    have hE : (fun i => (T.kids i).eOk) = fun i => isE (T.kk i) && good (T.kids i) := funext fun i => (ih i).1
    have hS : (fun i => (T.kids i).sOk) = fun i => isS (T.kk i) && good (T.kids i) := funext fun i => (ih i).2.1
    have hC : (fun i => (T.kids i).cOk) = fun i => decide (T.kk i = 16) && good (T.kids i) := funext fun i => (ih i).2.2
    refine ⟨?_, ?_, ?_⟩
    · rw [eOk_eq, hE, hS, good_rhs]
      by_cases h22 : T.kind = 22
      · rw [h22]; exact rhs22 _ _ _ _ _
      by_cases h23 : T.kind = 23
      · rw [h23]; exact rhs23 _ _ _ _ _
      by_cases h24 : T.kind = 24
      · rw [h24]; exact rhs24 _ _ _ _ _
      by_cases h25 : T.kind = 25
      · rw [h25]; exact rhs25 _ _ _ _ _
      by_cases h26 : T.kind = 26
      · rw [h26]; exact rhs26 _ _ _ _ _
      by_cases h27 : T.kind = 27
      · rw [h27]; exact rhs27 _ _ _ _ _
      by_cases h28 : T.kind = 28
      · rw [h28]; exact rhs28 _ _ _ _ _
      by_cases h29 : T.kind = 29
      · rw [h29]; exact rhs29 _ _ _ _ _
      have hf : isE T.kind = false := by
        cases hx : isE T.kind with
        | false => rfl
        | true => exfalso; simp [isE] at hx; omega
      rw [hf, Bool.false_and]
      unfold exprB
      simp only [h22, h23, h24, h25, h26, h27, h28, h29, if_false]
    · rw [sOk_eq, hE, hS, hC, good_rhs]
      by_cases h4 : T.kind = 4
      · rw [h4]; exact rhs4 _ _ _ _ _ _
      by_cases h5 : T.kind = 5
      · rw [h5]; exact rhs5 _ _ _ _ _ _
      by_cases h6 : T.kind = 6
      · rw [h6]; exact rhs6 _ _ _ _ _ _
      by_cases h7 : T.kind = 7
      · rw [h7]; exact rhs7 _ _ _ _ _ _
      by_cases h8 : T.kind = 8
      · rw [h8]; exact rhs8 _ _ _ _ _ _
      by_cases h9 : T.kind = 9
      · rw [h9]; exact rhs9 _ _ _ _ _ _
      by_cases h10 : T.kind = 10
      · rw [h10]; exact rhs10 _ _ _ _ _ _
      by_cases h11 : T.kind = 11
      · rw [h11]; exact rhs11 _ _ _ _ _ _
      by_cases h12 : T.kind = 12
      · rw [h12]; exact rhs12 _ _ _ _ _ _
      by_cases h13 : T.kind = 13
      · rw [h13]; exact rhs13 _ _ _ _ _ _
      by_cases h14 : T.kind = 14
      · rw [h14]; exact rhs14 _ _ _ _ _ _
      by_cases h17 : T.kind = 17
      · rw [h17]; exact rhs17 _ _ _ _ _ _
      by_cases h18 : T.kind = 18
      · rw [h18]; exact rhs18 _ _ _ _ _ _
      by_cases h19 : T.kind = 19
      · rw [h19]; exact rhs19 _ _ _ _ _ _
      by_cases h20 : T.kind = 20
      · rw [h20]; exact rhs20 _ _ _ _ _ _
      by_cases h21 : T.kind = 21
      · rw [h21]; exact rhs21 _ _ _ _ _ _
      by_cases h15 : T.kind = 15
      · rw [h15]; exact rhs15 _ _ _ _ _ _ rfl
      have hf : isS T.kind = false := by
        cases hx : isS T.kind with
        | false => rfl
        | true => exfalso; simp [isS] at hx; omega
      rw [hf, Bool.false_and]
      unfold stmtB
      simp only [h4, h5, h6, h7, h8, h9, h10, h11, h12, h13, h14, h17, h18, h19, h20, h21, h15, or_self, if_false]
    · rw [cOk_eq, hE, hS, good_rhs]
      by_cases h16 : T.kind = 16
      · rw [h16]; exact case_rhs _ _ _ _ _
      · unfold caseB
        simp [h16]
  induction T with
  | nil => exact step .nil fun i => ⟨rfl, rfl, rfl⟩
  | mk k n s len kids ih => exact step _ fun i => ih i

theorem param_good (P : Nd) : paramB P = (decide (P.kind = 3) && good P) := by
  rw [good_rhs]
  by_cases hk : P.kind = 3
  · unfold paramB
    rw [hk]
    show (true && nameB P.name && (decide (1 ≤ P.num) && decide (P.num ≤ 3)) && decide (P.len = 0)) = (true && ((decide (1 ≤ P.num) && decide (P.num ≤ 3)) && nameB P.name && fitsF P.kk P.len 0 [] 0 && allTo _ P.len))
    rw [fits_none]
    by_cases hl : P.len = 0
    · rw [hl]
      cases nameB P.name <;> cases (decide (1 ≤ P.num) && decide (P.num ≤ 3)) <;> rfl
    · simp [hl]
  · unfold paramB; simp [hk]

theorem func_good (T : Nd) : funcB T = (decide (T.kind = 2) && good T) := by
  rw [good_rhs]
  by_cases hk : T.kind = 2
  · unfold funcB
    rw [hk]
    show (true && nameB T.name && (decide (0 ≤ T.num) && decide (T.num ≤ 3)) && decide (1 ≤ T.len) && (allTo (fun i => paramB (T.kids i)) (T.len - 1) && (decide ((T.kids (T.len - 1)).kind = 4) && (T.kids (T.len - 1)).sOk))) =
      (true && ((decide (0 ≤ T.num) && decide (T.num ≤ 3)) && nameB T.name && fitsF T.kk T.len 3 [112, 42, 98] 0 && allTo (fun i => good (T.kids i)) T.len))
    rw [fits_func, (eqv _).2.1]
    have hp : (fun i => paramB (T.kids i)) = fun i => decide (T.kk i = 3) && good (T.kids i) := funext fun i => param_good _
    rw [hp, all_and]
    simp only [ofP, ofBk]
    by_cases hl : 1 ≤ T.len
    · obtain ⟨m, hm⟩ : ∃ m, T.len = m + 1 := ⟨T.len - 1, by omega⟩
      rw [hm]
      show _ = (true && ((decide (0 ≤ T.num) && decide (T.num ≤ 3)) && nameB T.name && (decide (1 ≤ m + 1) && (allTo (fun i => decide (T.kk i = 3)) m && decide (T.kk m = 4))) && (allTo (fun i => good (T.kids i)) m && good (T.kids m))))
      have hb := blk1 (T.kids m).kind
      have hkk : T.kk m = (T.kids m).kind := rfl
      rw [hkk]
      simp only [Nat.add_sub_cancel]
      cases hx : decide ((T.kids m).kind = 4)
      · cases nameB T.name <;> cases (decide (0 ≤ T.num) && decide (T.num ≤ 3)) <;> cases decide (1 ≤ m + 1) <;> cases allTo (fun i => decide (T.kk i = 3)) m <;> cases allTo (fun i => good (T.kids i)) m <;> cases good (T.kids m) <;> rfl
      · rw [hb hx]
        cases nameB T.name <;> cases (decide (0 ≤ T.num) && decide (T.num ≤ 3)) <;> cases decide (1 ≤ m + 1) <;> cases allTo (fun i => decide (T.kk i = 3)) m <;> cases allTo (fun i => good (T.kids i)) m <;> cases good (T.kids m) <;> rfl
    · simp [hl]
  · unfold funcB; simp [hk]

theorem tree_one (T : Nd) : implB T = treeB T := by
  have hg : ((T.pre 0).all fun p => fitB p.1) = good T := rfl
  unfold implB treeB
  rw [hg, good_rhs]
  by_cases hk : T.kind = 1
  · rw [hk]
    show (true && decide (T.size ≤ 600) && (decide (T.num = 0) && emptyB T.name && fitsF T.kk T.len 2 [102, 42] 0 && allTo (fun i => good (T.kids i)) T.len)) = (decide (T.size ≤ 600) && true && decide (T.num = 0) && emptyB T.name && allTo (fun i => funcB (T.kids i)) T.len)
    have hp : (fun i => funcB (T.kids i)) = fun i => decide (T.kk i = 2) && good (T.kids i) := funext fun i => func_good _
    rw [hp, all_and, fits_star]
    simp only [show (102 : UInt8).toNat = 102 from rfl, ofF]
    cases decide (T.size ≤ 600) <;> cases decide (T.num = 0) <;> cases emptyB T.name <;> cases allTo (fun i => decide (T.kk i = 2)) T.len <;> cases allTo (fun i => good (T.kids i)) T.len <;> rfl
  · simp [hk]
end Go.Proofs.YtokhcdkhcbcljadDoor
