/- The program's test and the specification's are one: kind by kind. -/
import Derived.Test.YtokhcdkhcbcljadDoorImEqv
set_option linter.unusedVariables false
namespace Go.Proofs.YtokhcdkhcbcljadDoor
open Go.RowKit

def rhs (k n : Int) (s : ByteArray) (len : Nat) (kk : Nat → Int) (g : Nat → Bool) : Bool := numB k n && nmB k n s && fitsF kk len (formOf k n).size (formOf k n).data.toList 0 && allTo g len

theorem ofE (k : Int) : ofB k 101 = isE k := by simp [ofB, isE]
theorem ofS (k : Int) : ofB k 115 = isS k := by simp [ofB, isS]
theorem ofBk (k : Int) : ofB k 98 = decide (k = 4) := by simp [ofB]
theorem ofC (k : Int) : ofB k 99 = decide (k = 25) := by simp [ofB]
theorem ofA (k : Int) : ofB k 97 = (decide (k = 25) || decide (k = 29)) := by simp [ofB]
theorem ofO (k : Int) : ofB k 111 = (decide (k = 4) || decide (k = 10)) := by simp [ofB]
theorem ofW (k : Int) : ofB k 119 = decide (k = 16) := by simp [ofB]
theorem ofF (k : Int) : ofB k 102 = decide (k = 2) := by simp [ofB]
theorem ofP (k : Int) : ofB k 112 = decide (k = 3) := by simp [ofB]
theorem all_and (p g : Nat → Bool) : ∀ n, allTo (fun i => p i && g i) n = (allTo p n && allTo g n)
  | 0 => rfl
  | n + 1 => by
    simp only [allTo, all_and p g n]
    cases allTo p n <;> cases p n <;> cases allTo g n <;> cases g n <;> rfl

theorem name_full (s : ByteArray) (h : nameB s = true) : emptyB s = false := by
  unfold emptyB
  rw [empty_list]
  cases hl : s.data.toList with
  | nil =>
    have hz : s.size = 0 := by rw [← size_list', hl]; rfl
    simp [nameB, wordOkB, hz] at h
  | cons => rfl

section
variable (n : Int) (s : ByteArray) (len : Nat) (kk : Nat → Int) (g : Nat → Bool)

theorem rhs22 : exprB 22 n s len (fun i => isE (kk i) && g i) (fun i => isS (kk i) && g i) kk = rhs 22 n s len kk g := by
  show (emptyB s && (decide (0 ≤ n) && decide (n ≤ 999999999999999999) && decide (len = 0))) = (decide (0 ≤ n) && decide (n ≤ 999999999999999999) && emptyB s && fitsF kk len 0 [] 0 && allTo g len)
  rw [fits_none]
  rcases len with _ | len <;> cases emptyB s <;> simp [allTo]
theorem rhs23 : exprB 23 n s len (fun i => isE (kk i) && g i) (fun i => isS (kk i) && g i) kk = rhs 23 n s len kk g := by
  show (emptyB s && ((decide (n = 0) || decide (n = 1)) && decide (len = 0))) = ((decide (n = 0) || decide (n = 1)) && emptyB s && fitsF kk len 0 [] 0 && allTo g len)
  rw [fits_none]
  rcases len with _ | len <;> cases emptyB s <;> simp [allTo]
theorem rhs24 : exprB 24 n s len (fun i => isE (kk i) && g i) (fun i => isS (kk i) && g i) kk = rhs 24 n s len kk g := by
  show (decide (n = 0) && (nameB s && decide (len = 0))) = (decide (n = 0) && nameB s && fitsF kk len 0 [] 0 && allTo g len)
  rw [fits_none]
  rcases len with _ | len <;> cases nameB s <;> simp [allTo]
theorem rhs25 : exprB 25 n s len (fun i => isE (kk i) && g i) (fun i => isS (kk i) && g i) kk = rhs 25 n s len kk g := by
  show (decide (n = 0) && (nameB s && allTo (fun i => isE (kk i) && g i) len)) = (decide (n = 0) && nameB s && fitsF kk len 2 [101, 42] 0 && allTo g len)
  rw [fits_star, all_and]
  simp only [show (101 : UInt8).toNat = 101 from rfl, ofE]
  cases nameB s <;> cases allTo (fun i => isE (kk i)) len <;> simp
theorem rhs26 : exprB 26 n s len (fun i => isE (kk i) && g i) (fun i => isS (kk i) && g i) kk = rhs 26 n s len kk g := by
  show (emptyB s && decide (n = 0) && (decide (len < 2) && allTo (fun i => isE (kk i) && g i) len)) = (decide (n = 0) && emptyB s && fitsF kk len 2 [101, 63] 0 && allTo g len)
  rw [fits_may]
  simp only [show (101 : UInt8).toNat = 101 from rfl, ofE]
  by_cases h0 : len = 0
  · subst h0
    cases decide (n = 0) <;> cases emptyB s <;> rfl
  by_cases h1 : len = 1
  · subst h1
    simp only [allTo, decide_true, Bool.true_and]
    cases decide (n = 0) <;> cases emptyB s <;> cases isE (kk 0) <;> cases g 0 <;> rfl
  · have h2 : ¬ len < 2 := by omega
    simp [h0, h1, h2]
theorem rhs27 : exprB 27 n s len (fun i => isE (kk i) && g i) (fun i => isS (kk i) && g i) kk = rhs 27 n s len kk g := by
  show (decide (n = 0) && ((s.toList == [45] || s.toList == [33]) && sortsB (fun i => isE (kk i) && g i) (fun i => isS (kk i) && g i) kk len ⟨#[101]⟩)) = (decide (n = 0) && (s.toList == [45] || s.toList == [33]) && fitsF kk len 1 [101] 0 && allTo g len)
  rw [fits_one, sorts1]
  simp only [show (101 : UInt8).toNat = 101 from rfl, ofE, sortB]
  by_cases hl : len = 1
  · subst hl
    simp only [allTo, decide_true, Bool.true_and]
    cases decide (n = 0) <;> cases (s.toList == [45] || s.toList == [33]) <;> cases isE (kk 0) <;> cases g 0 <;> rfl
  · simp [hl]
theorem rhs28 : exprB 28 n s len (fun i => isE (kk i) && g i) (fun i => isS (kk i) && g i) kk = rhs 28 n s len kk g := by
  show (decide (n = 0) && (decide (0 < lvl s) && sortsB (fun i => isE (kk i) && g i) (fun i => isS (kk i) && g i) kk len ⟨#[101, 101]⟩)) = (decide (n = 0) && decide (0 < lvl s) && fitsF kk len 2 [101, 101] 0 && allTo g len)
  rw [fits_two _ _ _ _ (by decide) (by decide), sorts2]
  simp only [show (101 : UInt8).toNat = 101 from rfl, ofE, sortB]
  by_cases hl : len = 2
  · subst hl
    simp only [allTo, decide_true, Bool.true_and]
    cases decide (n = 0) <;> cases decide (0 < lvl s) <;> cases isE (kk 0) <;> cases isE (kk 1) <;> cases g 0 <;> cases g 1 <;> rfl
  · simp [hl]
theorem rhs29 : exprB 29 n s len (fun i => isE (kk i) && g i) (fun i => isS (kk i) && g i) kk = rhs 29 n s len kk g := by
  show (emptyB s && decide (n = 0) && sortsB (fun i => isE (kk i) && g i) (fun i => isS (kk i) && g i) kk len ⟨#[101]⟩) = (decide (n = 0) && emptyB s && fitsF kk len 1 [101] 0 && allTo g len)
  rw [fits_one, sorts1]
  simp only [show (101 : UInt8).toNat = 101 from rfl, ofE, sortB]
  by_cases hl : len = 1
  · subst hl
    simp only [allTo, decide_true, Bool.true_and]
    cases decide (n = 0) <;> cases emptyB s <;> cases isE (kk 0) <;> cases g 0 <;> rfl
  · simp [hl]
variable (cs : Nat → Bool)
theorem rhs4 : stmtB 4 n s len (fun i => isE (kk i) && g i) (fun i => isS (kk i) && g i) cs kk = rhs 4 n s len kk g := by
  show (emptyB s && decide (n = 0) && allTo (fun i => isS (kk i) && g i) len) = (decide (n = 0) && emptyB s && fitsF kk len 2 [115, 42] 0 && allTo g len)
  rw [fits_star, all_and]
  simp only [show (115 : UInt8).toNat = 115 from rfl, ofS]
  cases decide (n = 0) <;> cases emptyB s <;> cases allTo (fun i => isS (kk i)) len <;> cases allTo g len <;> rfl
theorem rhs5 : stmtB 5 n s len (fun i => isE (kk i) && g i) (fun i => isS (kk i) && g i) cs kk = rhs 5 n s len kk g := by
  show (!emptyB s && nameB s && decide (n = 0) && sortsB (fun i => isE (kk i) && g i) (fun i => isS (kk i) && g i) kk len ⟨#[101]⟩) = (decide (n = 0) && nameB s && fitsF kk len 1 [101] 0 && allTo g len)
  rw [fits_one, sorts1]
  simp only [show (101 : UInt8).toNat = 101 from rfl, ofE, sortB]
  by_cases hl : len = 1
  · subst hl
    simp only [allTo, decide_true, Bool.true_and]
    have hne := name_full s
    cases hnm : nameB s
    · cases decide (n = 0) <;> cases emptyB s <;> rfl
    rw [hne hnm]
    cases decide (n = 0) <;> cases isE (kk 0) <;> cases g 0 <;> rfl
  · simp [hl]
theorem rhs6 : stmtB 6 n s len (fun i => isE (kk i) && g i) (fun i => isS (kk i) && g i) cs kk = rhs 6 n s len kk g := by
  show (!emptyB s && nameB s && decide (n = 0) && sortsB (fun i => isE (kk i) && g i) (fun i => isS (kk i) && g i) kk len ⟨#[101]⟩) = (decide (n = 0) && nameB s && fitsF kk len 1 [101] 0 && allTo g len)
  rw [fits_one, sorts1]
  simp only [show (101 : UInt8).toNat = 101 from rfl, ofE, sortB]
  by_cases hl : len = 1
  · subst hl
    simp only [allTo, decide_true, Bool.true_and]
    have hne := name_full s
    cases hnm : nameB s
    · cases decide (n = 0) <;> cases emptyB s <;> rfl
    rw [hne hnm]
    cases decide (n = 0) <;> cases isE (kk 0) <;> cases g 0 <;> rfl
  · simp [hl]
theorem rhs7 : stmtB 7 n s len (fun i => isE (kk i) && g i) (fun i => isS (kk i) && g i) cs kk = rhs 7 n s len kk g := by
  show (!emptyB s && nameB s && ((decide (n = 1) || decide (n = -1)) && decide (len = 0))) = ((decide (n = 1) || decide (n = -1)) && nameB s && fitsF kk len 0 [] 0 && allTo g len)
  rw [fits_none]
  have hne := name_full s
  by_cases hl : len = 0
  · subst hl
    cases hnm : nameB s
    · cases (decide (n = 1) || decide (n = -1)) <;> cases emptyB s <;> rfl
    rw [hne hnm]
    cases (decide (n = 1) || decide (n = -1)) <;> rfl
  · simp [hl]
theorem rhs8 : stmtB 8 n s len (fun i => isE (kk i) && g i) (fun i => isS (kk i) && g i) cs kk = rhs 8 n s len kk g := by
  show (emptyB s && decide (n = 0) && sortsB (fun i => isE (kk i) && g i) (fun i => isS (kk i) && g i) kk len ⟨#[101, 101]⟩) = (decide (n = 0) && emptyB s && fitsF kk len 2 [101, 101] 0 && allTo g len)
  rw [fits_two _ _ _ _ (by decide) (by decide), sorts2]
  simp only [show (101 : UInt8).toNat = 101 from rfl, ofE, sortB]
  by_cases hl : len = 2
  · subst hl
    simp only [allTo, decide_true, Bool.true_and]
    cases decide (n = 0) <;> cases emptyB s <;> cases isE (kk 0) <;> cases isE (kk 1) <;> cases g 0 <;> cases g 1 <;> rfl
  · simp [hl]
theorem rhs19 : stmtB 19 n s len (fun i => isE (kk i) && g i) (fun i => isS (kk i) && g i) cs kk = rhs 19 n s len kk g := by
  show (emptyB s && decide (n = 0) && sortsB (fun i => isE (kk i) && g i) (fun i => isS (kk i) && g i) kk len ⟨#[101]⟩) = (decide (n = 0) && emptyB s && fitsF kk len 1 [101] 0 && allTo g len)
  rw [fits_one, sorts1]
  simp only [show (101 : UInt8).toNat = 101 from rfl, ofE, sortB]
  by_cases hl : len = 1
  · subst hl
    simp only [allTo, decide_true, Bool.true_and]
    cases decide (n = 0) <;> cases emptyB s <;> cases isE (kk 0) <;> cases g 0 <;> rfl
  · simp [hl]
theorem rhs20 : stmtB 20 n s len (fun i => isE (kk i) && g i) (fun i => isS (kk i) && g i) cs kk = rhs 20 n s len kk g := by
  show (emptyB s && decide (n = 0) && sortsB (fun i => isE (kk i) && g i) (fun i => isS (kk i) && g i) kk len ⟨#[101]⟩) = (decide (n = 0) && emptyB s && fitsF kk len 1 [101] 0 && allTo g len)
  rw [fits_one, sorts1]
  simp only [show (101 : UInt8).toNat = 101 from rfl, ofE, sortB]
  by_cases hl : len = 1
  · subst hl
    simp only [allTo, decide_true, Bool.true_and]
    cases decide (n = 0) <;> cases emptyB s <;> cases isE (kk 0) <;> cases g 0 <;> rfl
  · simp [hl]
theorem rhs21 : stmtB 21 n s len (fun i => isE (kk i) && g i) (fun i => isS (kk i) && g i) cs kk = rhs 21 n s len kk g := by
  show (emptyB s && decide (n = 0) && sortsB (fun i => isE (kk i) && g i) (fun i => isS (kk i) && g i) kk len ⟨#[101]⟩) = (decide (n = 0) && emptyB s && fitsF kk len 1 [101] 0 && allTo g len)
  rw [fits_one, sorts1]
  simp only [show (101 : UInt8).toNat = 101 from rfl, ofE, sortB]
  by_cases hl : len = 1
  · subst hl
    simp only [allTo, decide_true, Bool.true_and]
    cases decide (n = 0) <;> cases emptyB s <;> cases isE (kk 0) <;> cases g 0 <;> rfl
  · simp [hl]
theorem call_isE (k : Int) (h : (decide (k = 25) || decide (k = 29)) = true) : isE k = true := by
  simp [isE] at h ⊢; omega
theorem rhs9 : stmtB 9 n s len (fun i => isE (kk i) && g i) (fun i => isS (kk i) && g i) cs kk = rhs 9 n s len kk g := by
  show (emptyB s && decide (n = 0) && (sortsB (fun i => isE (kk i) && g i) (fun i => isS (kk i) && g i) kk len ⟨#[101]⟩ && (decide (kk 0 = 25) || decide (kk 0 = 29)))) = (decide (n = 0) && emptyB s && fitsF kk len 1 [97] 0 && allTo g len)
  rw [fits_one, sorts1]
  simp only [show (101 : UInt8).toNat = 101 from rfl, show (97 : UInt8).toNat = 97 from rfl, ofA, sortB]
  by_cases hl : len = 1
  · subst hl
    simp only [allTo, decide_true, Bool.true_and, if_true]
    have hc := call_isE (kk 0)
    cases hx : (decide (kk 0 = 25) || decide (kk 0 = 29))
    · cases decide (n = 0) <;> cases emptyB s <;> cases isE (kk 0) <;> cases g 0 <;> rfl
    · rw [hc hx]
      cases decide (n = 0) <;> cases emptyB s <;> cases g 0 <;> rfl
  · simp [hl]
theorem call1 (k : Int) (h : decide (k = 25) = true) : isE k = true := by
  simp [isE] at h ⊢; omega
theorem blk1 (k : Int) (h : decide (k = 4) = true) : isS k = true := by
  simp [isS] at h ⊢; omega
theorem blk2 (k : Int) (h : (decide (k = 4) || decide (k = 10)) = true) : isS k = true := by
  simp [isS] at h ⊢; omega
theorem rhs13 : stmtB 13 n s len (fun i => isE (kk i) && g i) (fun i => isS (kk i) && g i) cs kk = rhs 13 n s len kk g := by
  show (emptyB s && decide (n = 0) && sortsB (fun i => isE (kk i) && g i) (fun i => isS (kk i) && g i) kk len ⟨#[99]⟩) = (decide (n = 0) && emptyB s && fitsF kk len 1 [99] 0 && allTo g len)
  rw [fits_one, sorts1]
  simp only [show (99 : UInt8).toNat = 99 from rfl, ofC, sortB]
  by_cases hl : len = 1
  · subst hl
    simp only [allTo]
    have hc := call1 (kk 0)
    cases hx : decide (kk 0 = 25)
    · cases decide (n = 0) <;> cases emptyB s <;> cases g 0 <;> rfl
    · rw [hc hx]
      cases decide (n = 0) <;> cases emptyB s <;> cases g 0 <;> rfl
  · simp [hl]
theorem rhs14 : stmtB 14 n s len (fun i => isE (kk i) && g i) (fun i => isS (kk i) && g i) cs kk = rhs 14 n s len kk g := by
  show (emptyB s && decide (n = 0) && sortsB (fun i => isE (kk i) && g i) (fun i => isS (kk i) && g i) kk len ⟨#[99]⟩) = (decide (n = 0) && emptyB s && fitsF kk len 1 [99] 0 && allTo g len)
  rw [fits_one, sorts1]
  simp only [show (99 : UInt8).toNat = 99 from rfl, ofC, sortB]
  by_cases hl : len = 1
  · subst hl
    simp only [allTo]
    have hc := call1 (kk 0)
    cases hx : decide (kk 0 = 25)
    · cases decide (n = 0) <;> cases emptyB s <;> cases g 0 <;> rfl
    · rw [hc hx]
      cases decide (n = 0) <;> cases emptyB s <;> cases g 0 <;> rfl
  · simp [hl]
theorem rhs17 : stmtB 17 n s len (fun i => isE (kk i) && g i) (fun i => isS (kk i) && g i) cs kk = rhs 17 n s len kk g := by
  show (emptyB s && decide (n = 0) && decide (len = 0)) = (decide (n = 0) && emptyB s && fitsF kk len 0 [] 0 && allTo g len)
  rw [fits_none]
  by_cases hl : len = 0
  · subst hl
    cases decide (n = 0) <;> cases emptyB s <;> rfl
  · simp [hl]
theorem rhs18 : stmtB 18 n s len (fun i => isE (kk i) && g i) (fun i => isS (kk i) && g i) cs kk = rhs 18 n s len kk g := by
  show (emptyB s && decide (n = 0) && decide (len = 0)) = (decide (n = 0) && emptyB s && fitsF kk len 0 [] 0 && allTo g len)
  rw [fits_none]
  by_cases hl : len = 0
  · subst hl
    cases decide (n = 0) <;> cases emptyB s <;> rfl
  · simp [hl]
theorem rhs12 : stmtB 12 n s len (fun i => isE (kk i) && g i) (fun i => isS (kk i) && g i) cs kk = rhs 12 n s len kk g := by
  show (emptyB s && decide (n = 0) && (decide (len = 0) || sortsB (fun i => isE (kk i) && g i) (fun i => isS (kk i) && g i) kk len ⟨#[101]⟩)) = (decide (n = 0) && emptyB s && fitsF kk len 2 [101, 63] 0 && allTo g len)
  rw [fits_may, sorts1]
  simp only [show (101 : UInt8).toNat = 101 from rfl, ofE, sortB]
  by_cases h0 : len = 0
  · subst h0
    cases decide (n = 0) <;> cases emptyB s <;> rfl
  by_cases h1 : len = 1
  · subst h1
    simp only [allTo]
    cases decide (n = 0) <;> cases emptyB s <;> cases isE (kk 0) <;> cases g 0 <;> rfl
  · simp [h0, h1]
theorem rhs15 (hcs : cs = fun i => decide (kk i = 16) && g i) : stmtB 15 n s len (fun i => isE (kk i) && g i) (fun i => isS (kk i) && g i) cs kk = rhs 15 n s len kk g := by
  subst hcs
  show (emptyB s && decide (n = 0) && allTo (fun i => decide (kk i = 16) && g i) len) = (decide (n = 0) && emptyB s && fitsF kk len 2 [119, 42] 0 && allTo g len)
  rw [fits_star, all_and]
  simp only [show (119 : UInt8).toNat = 119 from rfl, ofW]
  cases decide (n = 0) <;> cases emptyB s <;> cases allTo (fun i => decide (kk i = 16)) len <;> cases allTo g len <;> rfl
theorem rhs10 : stmtB 10 n s len (fun i => isE (kk i) && g i) (fun i => isS (kk i) && g i) cs kk = rhs 10 n s len kk g := by
  show (emptyB s && decide (n = 0) && (sortsB (fun i => isE (kk i) && g i) (fun i => isS (kk i) && g i) kk len ⟨#[101, 98]⟩ || sortsB (fun i => isE (kk i) && g i) (fun i => isS (kk i) && g i) kk len ⟨#[101, 98, 105]⟩)) = (decide (n = 0) && emptyB s && fitsF kk len 4 [101, 98, 111, 63] 0 && allTo g len)
  rw [fits_if, sorts2, sorts3]
  simp only [show (101 : UInt8).toNat = 101 from rfl, ofE, show (98 : UInt8).toNat = 98 from rfl, show (105 : UInt8).toNat = 105 from rfl, ofBk, ofO, sortB]
  have hb1 := blk1 (kk 1)
  have hb2 := blk2 (kk 2)
  by_cases h2 : len = 2
  · subst h2
    simp only [allTo]
    cases hx : decide (kk 1 = 4)
    · cases decide (n = 0) <;> cases emptyB s <;> cases isE (kk 0) <;> cases g 0 <;> cases g 1 <;> rfl
    · rw [hb1 hx]
      cases decide (n = 0) <;> cases emptyB s <;> cases isE (kk 0) <;> cases g 0 <;> cases g 1 <;> rfl
  by_cases h3 : len = 3
  · subst h3
    simp only [allTo]
    cases hx : decide (kk 1 = 4)
    · cases decide (n = 0) <;> cases emptyB s <;> cases isE (kk 0) <;> cases g 0 <;> rfl
    · rw [hb1 hx]
      cases hy : (decide (kk 2 = 4) || decide (kk 2 = 10))
      · cases decide (n = 0) <;> cases emptyB s <;> cases isE (kk 0) <;> cases g 0 <;> cases g 1 <;> rfl
      · rw [hb2 hy]
        cases decide (n = 0) <;> cases emptyB s <;> cases isE (kk 0) <;> cases g 0 <;> cases g 1 <;> cases g 2 <;> rfl
  · simp [h2, h3]
theorem rhs11 : stmtB 11 n s len (fun i => isE (kk i) && g i) (fun i => isS (kk i) && g i) cs kk = rhs 11 n s len kk g := by
  show (emptyB s && decide (n = 0) && (sortsB (fun i => isE (kk i) && g i) (fun i => isS (kk i) && g i) kk len ⟨#[98]⟩ || sortsB (fun i => isE (kk i) && g i) (fun i => isS (kk i) && g i) kk len ⟨#[101, 98]⟩)) = (decide (n = 0) && emptyB s && fitsF kk len 3 [101, 63, 98] 0 && allTo g len)
  rw [fits_mayb, sorts1, sorts2]
  simp only [show (101 : UInt8).toNat = 101 from rfl, ofE, show (98 : UInt8).toNat = 98 from rfl, ofBk, sortB]
  have hb0 := blk1 (kk 0)
  have hb1 := blk1 (kk 1)
  by_cases h1 : len = 1
  · subst h1
    simp only [allTo]
    cases hx : decide (kk 0 = 4)
    · cases decide (n = 0) <;> cases emptyB s <;> cases isE (kk 0) <;> cases g 0 <;> rfl
    · rw [hb0 hx]
      cases decide (n = 0) <;> cases emptyB s <;> cases isE (kk 0) <;> cases g 0 <;> rfl
  by_cases h2 : len = 2
  · subst h2
    simp only [allTo]
    cases hx : decide (kk 1 = 4)
    · cases decide (n = 0) <;> cases emptyB s <;> cases isE (kk 0) <;> cases g 0 <;> cases g 1 <;> cases decide (kk 0 = 4) <;> cases isS (kk 0) <;> rfl
    · rw [hb1 hx]
      cases decide (n = 0) <;> cases emptyB s <;> cases isE (kk 0) <;> cases g 0 <;> cases g 1 <;> cases decide (kk 0 = 4) <;> cases isS (kk 0) <;> rfl
  · simp [h1, h2]
end
end Go.Proofs.YtokhcdkhcbcljadDoor
