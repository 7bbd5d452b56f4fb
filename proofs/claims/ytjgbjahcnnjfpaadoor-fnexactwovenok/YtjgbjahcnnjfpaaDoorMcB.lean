/- The program's test and the specification's are one. -/
import Derived.Test.YtjgbjahcnnjfpaaDoorMcA
set_option linter.unusedVariables false
namespace Go.Proofs.YtjgbjahcnnjfpaaDoor
open Go.RowKit

def goodA (T : Nd) (d : Nat) : Bool := (T.pre d).all fun p => fitB p.1
theorem good_eq (T : Nd) (d : Nat) : goodA T d = (fitB T && allTo (fun i => goodA (T.kids i) (d + 1)) T.len) := by
  unfold goodA
  rw [pre_eq, List.all_cons]
  congr 1
  unfold preL
  generalize T.len = n
  induction n with
  | zero => rfl
  | succ n ih => rw [List.range_succ, List.flatMap_append, List.all_append, ih]; simp [allTo]
theorem good_deep (T : Nd) : ∀ d e, goodA T d = goodA T e := by
  induction T with
  | nil => intro d e; rfl
  | mk k n s len kids ih =>
    intro d e
    rw [good_eq, good_eq]
    congr 1
    congr 1
    funext i
    exact ih i (d + 1) (e + 1)
def good (T : Nd) : Bool := goodA T 0
theorem good_cons (T : Nd) : good T = (fitB T && allTo (fun i => good (T.kids i)) T.len) := by
  unfold good
  rw [good_eq]
  congr 1
  congr 1
  funext i
  exact good_deep _ _ _

def isE (k : Int) : Bool := decide (22 ≤ k) && decide (k ≤ 29)
def isS (k : Int) : Bool := decide (4 ≤ k) && decide (k ≤ 21) && !decide (k = 16)

theorem twm (kk : Nat → Int) (c m d : Nat) : twF kk c (m + 1) d = if ofB (kk d) c then twF kk c m (d + 1) + 1 else 0 := rfl
theorem tw0 (kk : Nat → Int) (c d : Nat) : twF kk c 0 d = 0 := rfl
theorem tw_all (kk : Nat → Int) (c : Nat) : ∀ (m d : Nat), decide (twF kk c m d = m) = allTo (fun i => ofB (kk (d + i)) c) m
  | 0, d => rfl
  | m + 1, d => by
    rw [Bool.eq_iff_iff, decide_eq_true_eq, allTo_iff]
    constructor
    · intro h i hi
      exact tw_spec (m := m + 1) (by omega)
    · intro h
      exact tw_of h (Nat.le_refl _) (.inl rfl)
theorem tw_le (kk : Nat → Int) (c : Nat) : ∀ (m d : Nat), twF kk c m d ≤ m
  | 0, d => Nat.le_refl _
  | m + 1, d => by
    rw [twm]; split
    · have := tw_le kk c m (d + 1); omega
    · omega
theorem fits_star (kk : Nat → Int) (len : Nat) (c : UInt8) : fitsF kk len 2 [c, 42] 0 = allTo (fun i => ofB (kk i) c.toNat) len := by
  have h : fitsF kk len 2 [c, 42] 0 = decide (0 + twF kk c.toNat (len - 0) 0 = len) := by
    simp [fitsF]
  rw [h]
  have := tw_all kk c.toNat len 0
  simp only [Nat.zero_add, Nat.sub_zero] at this ⊢
  exact this

theorem fits_none (kk : Nat → Int) (len : Nat) : fitsF kk len 0 [] 0 = decide (len = 0) := by
  simp [fitsF, eq_comm]
theorem fits_one (kk : Nat → Int) (len : Nat) (c : UInt8) : fitsF kk len 1 [c] 0 = (decide (len = 1) && ofB (kk 0) c.toNat) := by
  rcases len with _ | _ | n
  · simp [fitsF, twF]
  · cases h : ofB (kk 0) c.toNat <;> simp [fitsF, twF, h]
  · cases h : ofB (kk 0) c.toNat <;> simp [fitsF, twF, h]
theorem fits_two (kk : Nat → Int) (len : Nat) (c c' : UInt8) (h1 : c' ≠ 63) (h2 : c' ≠ 42) : fitsF kk len 2 [c, c'] 0 = (decide (len = 2) && (ofB (kk 0) c.toNat && ofB (kk 1) c'.toNat)) := by
  rcases len with _ | _ | _ | n
  · simp [fitsF, twF, h1, h2]
  · cases h : ofB (kk 0) c.toNat <;> simp [fitsF, twF, h, h1, h2]
  · cases h : ofB (kk 0) c.toNat <;> cases h' : ofB (kk 1) c'.toNat <;> simp [fitsF, twF, h, h', h1, h2]
  · cases h : ofB (kk 0) c.toNat <;> cases h' : ofB (kk 1) c'.toNat <;> simp [fitsF, twF, h, h', h1, h2]
theorem fits_three (kk : Nat → Int) (len : Nat) (c c' c'' : UInt8) (h1 : c' ≠ 63) (h2 : c' ≠ 42) (h3 : c'' ≠ 63) (h4 : c'' ≠ 42) : fitsF kk len 3 [c, c', c''] 0 = (decide (len = 3) && (ofB (kk 0) c.toNat && ofB (kk 1) c'.toNat && ofB (kk 2) c''.toNat)) := by
  rcases len with _ | _ | _ | _ | n
  · simp [fitsF, twF, h1, h2]
  · cases h : ofB (kk 0) c.toNat <;> simp [fitsF, twF, h, h1, h2, h3, h4]
  · cases h : ofB (kk 0) c.toNat <;> cases h' : ofB (kk 1) c'.toNat <;> simp [fitsF, twF, h, h', h1, h2, h3, h4]
  · cases h : ofB (kk 0) c.toNat <;> cases h' : ofB (kk 1) c'.toNat <;> cases h'' : ofB (kk 2) c''.toNat <;> simp [fitsF, twF, h, h', h'', h1, h2, h3, h4]
  · cases h : ofB (kk 0) c.toNat <;> cases h' : ofB (kk 1) c'.toNat <;> cases h'' : ofB (kk 2) c''.toNat <;> simp [fitsF, twF, h, h', h'', h1, h2, h3, h4]
theorem fits_may (kk : Nat → Int) (len : Nat) (c : UInt8) : fitsF kk len 2 [c, 63] 0 = (decide (len = 0) || (decide (len = 1) && ofB (kk 0) c.toNat)) := by
  rcases len with _ | _ | n
  · simp [fitsF, twF]
  · cases h : ofB (kk 0) c.toNat <;> simp [fitsF, twF, h]
  · cases h : ofB (kk 0) c.toNat <;> simp [fitsF, twF, h]
theorem fits_mayb (kk : Nat → Int) (len : Nat) : fitsF kk len 3 [101, 63, 98] 0 = ((decide (len = 1) && ofB (kk 0) 98) || (decide (len = 2) && (ofB (kk 0) 101 && ofB (kk 1) 98))) := by
  have hd : ofB (kk 0) 101 = true → ofB (kk 0) 98 = false := fun h => by simp [ofB] at h ⊢; omega
  rcases len with _ | _ | _ | n
  · simp [fitsF, twF]
  · cases h : ofB (kk 0) 101 <;> cases h' : ofB (kk 0) 98 <;> simp_all [fitsF, twF]
  · cases h : ofB (kk 0) 101 <;> cases h' : ofB (kk 0) 98 <;> cases h'' : ofB (kk 1) 98 <;> simp_all [fitsF, twF]
  · cases h : ofB (kk 0) 101 <;> cases h' : ofB (kk 0) 98 <;> cases h'' : ofB (kk 1) 98 <;> simp_all [fitsF, twF]
theorem fits_if (kk : Nat → Int) (len : Nat) : fitsF kk len 4 [101, 98, 111, 63] 0 = (ofB (kk 0) 101 && ofB (kk 1) 98 && (decide (len = 2) || (decide (len = 3) && ofB (kk 2) 111))) := by
  rcases len with _ | _ | _ | _ | n
  · simp [fitsF, twF]
  · cases h : ofB (kk 0) 101 <;> simp [fitsF, twF, h]
  · cases h : ofB (kk 0) 101 <;> cases h' : ofB (kk 1) 98 <;> simp [fitsF, twF, h, h']
  · cases h : ofB (kk 0) 101 <;> cases h' : ofB (kk 1) 98 <;> cases h'' : ofB (kk 2) 111 <;> simp [fitsF, twF, h, h', h'']
  · cases h : ofB (kk 0) 101 <;> cases h' : ofB (kk 1) 98 <;> cases h'' : ofB (kk 2) 111 <;> simp [fitsF, twF, h, h', h'']
theorem fits_func (kk : Nat → Int) (len : Nat) : fitsF kk len 3 [112, 42, 98] 0 = (decide (1 ≤ len) && (allTo (fun i => ofB (kk i) 112) (len - 1) && ofB (kk (len - 1)) 98)) := by
  have hd : ∀ k, ofB k 112 = true → ofB k 98 = false := fun k h => by simp [ofB] at h ⊢; omega
  have h0 : fitsF kk len 3 [112, 42, 98] 0 = if twF kk 98 (min 1 (len - twF kk 112 len 0)) (twF kk 112 len 0) < 1 then false else decide (twF kk 112 len 0 + twF kk 98 (min 1 (len - twF kk 112 len 0)) (twF kk 112 len 0) = len) := by
    simp [fitsF]
  rw [h0]
  have hle := tw_le kk 112 len 0
  have hsp := fun i (hi : i < twF kk 112 len 0) => tw_spec (kk := kk) (c := 112) (m := len) (d := 0) (i := i) hi
  simp only [Nat.zero_add] at hsp
  have hof := fun t (h1 : ∀ i, i < t → ofB (kk (0 + i)) 112 = true) (h2 : t ≤ len) (h3 : t = len ∨ ofB (kk (0 + t)) 112 = false) => tw_of (kk := kk) (c := 112) (m := len) (t := t) (d := 0) h1 h2 h3
  simp only [Nat.zero_add] at hof
  rw [Bool.eq_iff_iff]
  generalize ht : twF kk 112 len 0 = t at *
  constructor
  · intro h
    split at h
    · cases h
    · rename_i hn
      have hlt : t < len := by
        rcases Nat.lt_or_ge t len with h | h
        · exact h
        · exfalso; apply hn; rw [show len - t = 0 by omega]; simp [twF]
      have hb : ofB (kk t) 98 = true := by
        rw [show min 1 (len - t) = 0 + 1 by omega, twm] at hn
        cases hb : ofB (kk t) 98 with
        | true => rfl
        | false => exfalso; apply hn; simp [hb]
      have h1 : twF kk 98 (min 1 (len - t)) t = 1 := by rw [show min 1 (len - t) = 0 + 1 by omega, twm]; simp [hb, tw0]
      rw [h1] at h
      have hl : len = t + 1 := by have := of_decide_eq_true h; omega
      subst hl
      simp only [Nat.add_sub_cancel, hb, Bool.and_true, Bool.and_eq_true, decide_eq_true_eq]
      exact ⟨by omega, allTo_true hsp⟩
  · intro h
    simp only [Bool.and_eq_true, decide_eq_true_eq] at h
    obtain ⟨h1, h2, h3⟩ := h
    have hall := allTo_iff.1 h2
    have hn : ofB (kk (len - 1)) 112 = false := by
      cases hx : ofB (kk (len - 1)) 112 with
      | false => rfl
      | true => rw [hd _ hx] at h3; cases h3
    have := hof (len - 1) hall (by omega) (.inr hn)
    subst this
    have hw : twF kk 98 (min 1 (len - (len - 1))) (len - 1) = 1 := by rw [show min 1 (len - (len - 1)) = 0 + 1 by omega, twm]; simp [h3, tw0]
    rw [hw]
    simp
    omega

end Go.Proofs.YtjgbjahcnnjfpaaDoor
namespace Go.Proofs.YtjgbjahcnnjfpaaDoor
open Go.RowKit

def rhs (k n : Int) (s : ByteArray) (len : Nat) (kk : Nat → Int) (g : Nat → Bool) : Bool := numB k n && nmB k n s && fitsF kk len (formOf k n).size (formOf k n).data.toList 0 && allTo g len

theorem ofE (k : Int) : ofB k 101 = isE k := by simp [ofB, isE]
theorem ofS (k : Int) : ofB k 115 = isS k := by simp [ofB, isS]
theorem ofBk (k : Int) : ofB k 98 = decide (k = 4) := by simp [ofB]
theorem ofC (k : Int) : ofB k 99 = decide (k = 25) := by simp [ofB]
theorem ofA (k : Int) : ofB k 97 = (decide (k = 25) || decide (k = 29)) := by simp [ofB]
theorem ofO (k : Int) : ofB k 111 = (decide (k = 4) || decide (k = 10)) := by simp [ofB]
theorem ofW (k : Int) : ofB k 119 = decide (k = 16) := by simp [ofB]
theorem ofF (k : Int) : ofB k 102 = decide (k = 2) := by simp [ofB]
theorem ofP (k : Int) : ofB k 112 = decide (k = 3) := by simp [ofB]
theorem all_and (p g : Nat → Bool) : ∀ n, allTo (fun i => p i && g i) n = (allTo p n && allTo g n)
  | 0 => rfl
  | n + 1 => by
    simp only [allTo, all_and p g n]
    cases allTo p n <;> cases p n <;> cases allTo g n <;> cases g n <;> rfl

theorem name_full (s : ByteArray) (h : nameB s = true) : emptyB s = false := by
  unfold emptyB
  rw [empty_list]
  cases hl : s.data.toList with
  | nil =>
    have hz : s.size = 0 := by rw [← size_list', hl]; rfl
    simp [nameB, wordOkB, hz] at h
  | cons => rfl

section
variable (n : Int) (s : ByteArray) (len : Nat) (kk : Nat → Int) (g : Nat → Bool)

theorem rhs22 : exprB 22 n s len (fun i => isE (kk i) && g i) (fun i => isS (kk i) && g i) kk = rhs 22 n s len kk g := by
  show (emptyB s && (decide (0 ≤ n) && decide (n ≤ 999999999999999999) && decide (len = 0))) = (decide (0 ≤ n) && decide (n ≤ 999999999999999999) && emptyB s && fitsF kk len 0 [] 0 && allTo g len)
  rw [fits_none]
  rcases len with _ | len <;> cases emptyB s <;> simp [allTo]
theorem rhs23 : exprB 23 n s len (fun i => isE (kk i) && g i) (fun i => isS (kk i) && g i) kk = rhs 23 n s len kk g := by
  show (emptyB s && ((decide (n = 0) || decide (n = 1)) && decide (len = 0))) = ((decide (n = 0) || decide (n = 1)) && emptyB s && fitsF kk len 0 [] 0 && allTo g len)
  rw [fits_none]
  rcases len with _ | len <;> cases emptyB s <;> simp [allTo]
theorem rhs24 : exprB 24 n s len (fun i => isE (kk i) && g i) (fun i => isS (kk i) && g i) kk = rhs 24 n s len kk g := by
  show (decide (n = 0) && (nameB s && decide (len = 0))) = (decide (n = 0) && nameB s && fitsF kk len 0 [] 0 && allTo g len)
  rw [fits_none]
  rcases len with _ | len <;> cases nameB s <;> simp [allTo]
theorem rhs25 : exprB 25 n s len (fun i => isE (kk i) && g i) (fun i => isS (kk i) && g i) kk = rhs 25 n s len kk g := by
  show (decide (n = 0) && (nameB s && allTo (fun i => isE (kk i) && g i) len)) = (decide (n = 0) && nameB s && fitsF kk len 2 [101, 42] 0 && allTo g len)
  rw [fits_star, all_and]
  simp only [show (101 : UInt8).toNat = 101 from rfl, ofE]
  cases nameB s <;> cases allTo (fun i => isE (kk i)) len <;> simp
theorem rhs26 : exprB 26 n s len (fun i => isE (kk i) && g i) (fun i => isS (kk i) && g i) kk = rhs 26 n s len kk g := by
  show (emptyB s && decide (n = 0) && (decide (len < 2) && allTo (fun i => isE (kk i) && g i) len)) = (decide (n = 0) && emptyB s && fitsF kk len 2 [101, 63] 0 && allTo g len)
  rw [fits_may]
  simp only [show (101 : UInt8).toNat = 101 from rfl, ofE]
  by_cases h0 : len = 0
  · subst h0
    cases decide (n = 0) <;> cases emptyB s <;> rfl
  by_cases h1 : len = 1
  · subst h1
    simp only [allTo, decide_true, Bool.true_and]
    cases decide (n = 0) <;> cases emptyB s <;> cases isE (kk 0) <;> cases g 0 <;> rfl
  · have h2 : ¬ len < 2 := by omega
    simp [h0, h1, h2]
theorem rhs27 : exprB 27 n s len (fun i => isE (kk i) && g i) (fun i => isS (kk i) && g i) kk = rhs 27 n s len kk g := by
  show (decide (n = 0) && ((s.toList == [45] || s.toList == [33]) && sortsB (fun i => isE (kk i) && g i) (fun i => isS (kk i) && g i) kk len ⟨#[101]⟩)) = (decide (n = 0) && (s.toList == [45] || s.toList == [33]) && fitsF kk len 1 [101] 0 && allTo g len)
  rw [fits_one, sorts1]
  simp only [show (101 : UInt8).toNat = 101 from rfl, ofE, sortB]
  by_cases hl : len = 1
  · subst hl
    simp only [allTo, decide_true, Bool.true_and]
    cases decide (n = 0) <;> cases (s.toList == [45] || s.toList == [33]) <;> cases isE (kk 0) <;> cases g 0 <;> rfl
  · simp [hl]
theorem rhs28 : exprB 28 n s len (fun i => isE (kk i) && g i) (fun i => isS (kk i) && g i) kk = rhs 28 n s len kk g := by
  show (decide (n = 0) && (decide (0 < lvl s) && sortsB (fun i => isE (kk i) && g i) (fun i => isS (kk i) && g i) kk len ⟨#[101, 101]⟩)) = (decide (n = 0) && decide (0 < lvl s) && fitsF kk len 2 [101, 101] 0 && allTo g len)
  rw [fits_two _ _ _ _ (by decide) (by decide), sorts2]
  simp only [show (101 : UInt8).toNat = 101 from rfl, ofE, sortB]
  by_cases hl : len = 2
  · subst hl
    simp only [allTo, decide_true, Bool.true_and]
    cases decide (n = 0) <;> cases decide (0 < lvl s) <;> cases isE (kk 0) <;> cases isE (kk 1) <;> cases g 0 <;> cases g 1 <;> rfl
  · simp [hl]
theorem rhs29 : exprB 29 n s len (fun i => isE (kk i) && g i) (fun i => isS (kk i) && g i) kk = rhs 29 n s len kk g := by
  show (emptyB s && decide (n = 0) && sortsB (fun i => isE (kk i) && g i) (fun i => isS (kk i) && g i) kk len ⟨#[101]⟩) = (decide (n = 0) && emptyB s && fitsF kk len 1 [101] 0 && allTo g len)
  rw [fits_one, sorts1]
  simp only [show (101 : UInt8).toNat = 101 from rfl, ofE, sortB]
  by_cases hl : len = 1
  · subst hl
    simp only [allTo, decide_true, Bool.true_and]
    cases decide (n = 0) <;> cases emptyB s <;> cases isE (kk 0) <;> cases g 0 <;> rfl
  · simp [hl]
variable (cs : Nat → Bool)
theorem rhs4 : stmtB 4 n s len (fun i => isE (kk i) && g i) (fun i => isS (kk i) && g i) cs kk = rhs 4 n s len kk g := by
  show (emptyB s && decide (n = 0) && allTo (fun i => isS (kk i) && g i) len) = (decide (n = 0) && emptyB s && fitsF kk len 2 [115, 42] 0 && allTo g len)
  rw [fits_star, all_and]
  simp only [show (115 : UInt8).toNat = 115 from rfl, ofS]
  cases decide (n = 0) <;> cases emptyB s <;> cases allTo (fun i => isS (kk i)) len <;> cases allTo g len <;> rfl
theorem rhs5 : stmtB 5 n s len (fun i => isE (kk i) && g i) (fun i => isS (kk i) && g i) cs kk = rhs 5 n s len kk g := by
  show (!emptyB s && nameB s && decide (n = 0) && sortsB (fun i => isE (kk i) && g i) (fun i => isS (kk i) && g i) kk len ⟨#[101]⟩) = (decide (n = 0) && nameB s && fitsF kk len 1 [101] 0 && allTo g len)
  rw [fits_one, sorts1]
  simp only [show (101 : UInt8).toNat = 101 from rfl, ofE, sortB]
  by_cases hl : len = 1
  · subst hl
    simp only [allTo, decide_true, Bool.true_and]
    have hne := name_full s
    cases hnm : nameB s
    · cases decide (n = 0) <;> cases emptyB s <;> rfl
    rw [hne hnm]
    cases decide (n = 0) <;> cases isE (kk 0) <;> cases g 0 <;> rfl
  · simp [hl]
theorem rhs6 : stmtB 6 n s len (fun i => isE (kk i) && g i) (fun i => isS (kk i) && g i) cs kk = rhs 6 n s len kk g := by
  show (!emptyB s && nameB s && decide (n = 0) && sortsB (fun i => isE (kk i) && g i) (fun i => isS (kk i) && g i) kk len ⟨#[101]⟩) = (decide (n = 0) && nameB s && fitsF kk len 1 [101] 0 && allTo g len)
  rw [fits_one, sorts1]
  simp only [show (101 : UInt8).toNat = 101 from rfl, ofE, sortB]
  by_cases hl : len = 1
  · subst hl
    simp only [allTo, decide_true, Bool.true_and]
    have hne := name_full s
    cases hnm : nameB s
    · cases decide (n = 0) <;> cases emptyB s <;> rfl
    rw [hne hnm]
    cases decide (n = 0) <;> cases isE (kk 0) <;> cases g 0 <;> rfl
  · simp [hl]
theorem rhs7 : stmtB 7 n s len (fun i => isE (kk i) && g i) (fun i => isS (kk i) && g i) cs kk = rhs 7 n s len kk g := by
  show (!emptyB s && nameB s && ((decide (n = 1) || decide (n = -1)) && decide (len = 0))) = ((decide (n = 1) || decide (n = -1)) && nameB s && fitsF kk len 0 [] 0 && allTo g len)
  rw [fits_none]
  have hne := name_full s
  by_cases hl : len = 0
  · subst hl
    cases hnm : nameB s
    · cases (decide (n = 1) || decide (n = -1)) <;> cases emptyB s <;> rfl
    rw [hne hnm]
    cases (decide (n = 1) || decide (n = -1)) <;> rfl
  · simp [hl]
theorem rhs8 : stmtB 8 n s len (fun i => isE (kk i) && g i) (fun i => isS (kk i) && g i) cs kk = rhs 8 n s len kk g := by
  show (emptyB s && decide (n = 0) && sortsB (fun i => isE (kk i) && g i) (fun i => isS (kk i) && g i) kk len ⟨#[101, 101]⟩) = (decide (n = 0) && emptyB s && fitsF kk len 2 [101, 101] 0 && allTo g len)
  rw [fits_two _ _ _ _ (by decide) (by decide), sorts2]
  simp only [show (101 : UInt8).toNat = 101 from rfl, ofE, sortB]
  by_cases hl : len = 2
  · subst hl
    simp only [allTo, decide_true, Bool.true_and]
    cases decide (n = 0) <;> cases emptyB s <;> cases isE (kk 0) <;> cases isE (kk 1) <;> cases g 0 <;> cases g 1 <;> rfl
  · simp [hl]
theorem rhs19 : stmtB 19 n s len (fun i => isE (kk i) && g i) (fun i => isS (kk i) && g i) cs kk = rhs 19 n s len kk g := by
  show (emptyB s && decide (n = 0) && sortsB (fun i => isE (kk i) && g i) (fun i => isS (kk i) && g i) kk len ⟨#[101]⟩) = (decide (n = 0) && emptyB s && fitsF kk len 1 [101] 0 && allTo g len)
  rw [fits_one, sorts1]
  simp only [show (101 : UInt8).toNat = 101 from rfl, ofE, sortB]
  by_cases hl : len = 1
  · subst hl
    simp only [allTo, decide_true, Bool.true_and]
    cases decide (n = 0) <;> cases emptyB s <;> cases isE (kk 0) <;> cases g 0 <;> rfl
  · simp [hl]
theorem rhs20 : stmtB 20 n s len (fun i => isE (kk i) && g i) (fun i => isS (kk i) && g i) cs kk = rhs 20 n s len kk g := by
  show (emptyB s && decide (n = 0) && sortsB (fun i => isE (kk i) && g i) (fun i => isS (kk i) && g i) kk len ⟨#[101]⟩) = (decide (n = 0) && emptyB s && fitsF kk len 1 [101] 0 && allTo g len)
  rw [fits_one, sorts1]
  simp only [show (101 : UInt8).toNat = 101 from rfl, ofE, sortB]
  by_cases hl : len = 1
  · subst hl
    simp only [allTo, decide_true, Bool.true_and]
    cases decide (n = 0) <;> cases emptyB s <;> cases isE (kk 0) <;> cases g 0 <;> rfl
  · simp [hl]
theorem rhs21 : stmtB 21 n s len (fun i => isE (kk i) && g i) (fun i => isS (kk i) && g i) cs kk = rhs 21 n s len kk g := by
  show (emptyB s && decide (n = 0) && sortsB (fun i => isE (kk i) && g i) (fun i => isS (kk i) && g i) kk len ⟨#[101]⟩) = (decide (n = 0) && emptyB s && fitsF kk len 1 [101] 0 && allTo g len)
  rw [fits_one, sorts1]
  simp only [show (101 : UInt8).toNat = 101 from rfl, ofE, sortB]
  by_cases hl : len = 1
  · subst hl
    simp only [allTo, decide_true, Bool.true_and]
    cases decide (n = 0) <;> cases emptyB s <;> cases isE (kk 0) <;> cases g 0 <;> rfl
  · simp [hl]
theorem call_isE (k : Int) (h : (decide (k = 25) || decide (k = 29)) = true) : isE k = true := by
  simp [isE] at h ⊢; omega
theorem rhs9 : stmtB 9 n s len (fun i => isE (kk i) && g i) (fun i => isS (kk i) && g i) cs kk = rhs 9 n s len kk g := by
  show (emptyB s && decide (n = 0) && (sortsB (fun i => isE (kk i) && g i) (fun i => isS (kk i) && g i) kk len ⟨#[101]⟩ && (decide (kk 0 = 25) || decide (kk 0 = 29)))) = (decide (n = 0) && emptyB s && fitsF kk len 1 [97] 0 && allTo g len)
  rw [fits_one, sorts1]
  simp only [show (101 : UInt8).toNat = 101 from rfl, show (97 : UInt8).toNat = 97 from rfl, ofA, sortB]
  by_cases hl : len = 1
  · subst hl
    simp only [allTo, decide_true, Bool.true_and, if_true]
    have hc := call_isE (kk 0)
    cases hx : (decide (kk 0 = 25) || decide (kk 0 = 29))
    · cases decide (n = 0) <;> cases emptyB s <;> cases isE (kk 0) <;> cases g 0 <;> rfl
    · rw [hc hx]
      cases decide (n = 0) <;> cases emptyB s <;> cases g 0 <;> rfl
  · simp [hl]
theorem call1 (k : Int) (h : decide (k = 25) = true) : isE k = true := by
  simp [isE] at h ⊢; omega
theorem blk1 (k : Int) (h : decide (k = 4) = true) : isS k = true := by
  simp [isS] at h ⊢; omega
theorem blk2 (k : Int) (h : (decide (k = 4) || decide (k = 10)) = true) : isS k = true := by
  simp [isS] at h ⊢; omega
theorem rhs13 : stmtB 13 n s len (fun i => isE (kk i) && g i) (fun i => isS (kk i) && g i) cs kk = rhs 13 n s len kk g := by
  show (emptyB s && decide (n = 0) && sortsB (fun i => isE (kk i) && g i) (fun i => isS (kk i) && g i) kk len ⟨#[99]⟩) = (decide (n = 0) && emptyB s && fitsF kk len 1 [99] 0 && allTo g len)
  rw [fits_one, sorts1]
  simp only [show (99 : UInt8).toNat = 99 from rfl, ofC, sortB]
  by_cases hl : len = 1
  · subst hl
    simp only [allTo]
    have hc := call1 (kk 0)
    cases hx : decide (kk 0 = 25)
    · cases decide (n = 0) <;> cases emptyB s <;> cases g 0 <;> rfl
    · rw [hc hx]
      cases decide (n = 0) <;> cases emptyB s <;> cases g 0 <;> rfl
  · simp [hl]
theorem rhs14 : stmtB 14 n s len (fun i => isE (kk i) && g i) (fun i => isS (kk i) && g i) cs kk = rhs 14 n s len kk g := by
  show (emptyB s && decide (n = 0) && sortsB (fun i => isE (kk i) && g i) (fun i => isS (kk i) && g i) kk len ⟨#[99]⟩) = (decide (n = 0) && emptyB s && fitsF kk len 1 [99] 0 && allTo g len)
  rw [fits_one, sorts1]
  simp only [show (99 : UInt8).toNat = 99 from rfl, ofC, sortB]
  by_cases hl : len = 1
  · subst hl
    simp only [allTo]
    have hc := call1 (kk 0)
    cases hx : decide (kk 0 = 25)
    · cases decide (n = 0) <;> cases emptyB s <;> cases g 0 <;> rfl
    · rw [hc hx]
      cases decide (n = 0) <;> cases emptyB s <;> cases g 0 <;> rfl
  · simp [hl]
theorem rhs17 : stmtB 17 n s len (fun i => isE (kk i) && g i) (fun i => isS (kk i) && g i) cs kk = rhs 17 n s len kk g := by
  show (emptyB s && decide (n = 0) && decide (len = 0)) = (decide (n = 0) && emptyB s && fitsF kk len 0 [] 0 && allTo g len)
  rw [fits_none]
  by_cases hl : len = 0
  · subst hl
    cases decide (n = 0) <;> cases emptyB s <;> rfl
  · simp [hl]
theorem rhs18 : stmtB 18 n s len (fun i => isE (kk i) && g i) (fun i => isS (kk i) && g i) cs kk = rhs 18 n s len kk g := by
  show (emptyB s && decide (n = 0) && decide (len = 0)) = (decide (n = 0) && emptyB s && fitsF kk len 0 [] 0 && allTo g len)
  rw [fits_none]
  by_cases hl : len = 0
  · subst hl
    cases decide (n = 0) <;> cases emptyB s <;> rfl
  · simp [hl]
theorem rhs12 : stmtB 12 n s len (fun i => isE (kk i) && g i) (fun i => isS (kk i) && g i) cs kk = rhs 12 n s len kk g := by
  show (emptyB s && decide (n = 0) && (decide (len = 0) || sortsB (fun i => isE (kk i) && g i) (fun i => isS (kk i) && g i) kk len ⟨#[101]⟩)) = (decide (n = 0) && emptyB s && fitsF kk len 2 [101, 63] 0 && allTo g len)
  rw [fits_may, sorts1]
  simp only [show (101 : UInt8).toNat = 101 from rfl, ofE, sortB]
  by_cases h0 : len = 0
  · subst h0
    cases decide (n = 0) <;> cases emptyB s <;> rfl
  by_cases h1 : len = 1
  · subst h1
    simp only [allTo]
    cases decide (n = 0) <;> cases emptyB s <;> cases isE (kk 0) <;> cases g 0 <;> rfl
  · simp [h0, h1]
theorem rhs15 (hcs : cs = fun i => decide (kk i = 16) && g i) : stmtB 15 n s len (fun i => isE (kk i) && g i) (fun i => isS (kk i) && g i) cs kk = rhs 15 n s len kk g := by
  subst hcs
  show (emptyB s && decide (n = 0) && allTo (fun i => decide (kk i = 16) && g i) len) = (decide (n = 0) && emptyB s && fitsF kk len 2 [119, 42] 0 && allTo g len)
  rw [fits_star, all_and]
  simp only [show (119 : UInt8).toNat = 119 from rfl, ofW]
  cases decide (n = 0) <;> cases emptyB s <;> cases allTo (fun i => decide (kk i = 16)) len <;> cases allTo g len <;> rfl
theorem rhs10 : stmtB 10 n s len (fun i => isE (kk i) && g i) (fun i => isS (kk i) && g i) cs kk = rhs 10 n s len kk g := by
  show (emptyB s && decide (n = 0) && (sortsB (fun i => isE (kk i) && g i) (fun i => isS (kk i) && g i) kk len ⟨#[101, 98]⟩ || sortsB (fun i => isE (kk i) && g i) (fun i => isS (kk i) && g i) kk len ⟨#[101, 98, 105]⟩)) = (decide (n = 0) && emptyB s && fitsF kk len 4 [101, 98, 111, 63] 0 && allTo g len)
  rw [fits_if, sorts2, sorts3]
  simp only [show (101 : UInt8).toNat = 101 from rfl, ofE, show (98 : UInt8).toNat = 98 from rfl, show (105 : UInt8).toNat = 105 from rfl, ofBk, ofO, sortB]
  have hb1 := blk1 (kk 1)
  have hb2 := blk2 (kk 2)
  by_cases h2 : len = 2
  · subst h2
    simp only [allTo]
    cases hx : decide (kk 1 = 4)
    · cases decide (n = 0) <;> cases emptyB s <;> cases isE (kk 0) <;> cases g 0 <;> cases g 1 <;> rfl
    · rw [hb1 hx]
      cases decide (n = 0) <;> cases emptyB s <;> cases isE (kk 0) <;> cases g 0 <;> cases g 1 <;> rfl
  by_cases h3 : len = 3
  · subst h3
    simp only [allTo]
    cases hx : decide (kk 1 = 4)
    · cases decide (n = 0) <;> cases emptyB s <;> cases isE (kk 0) <;> cases g 0 <;> rfl
    · rw [hb1 hx]
      cases hy : (decide (kk 2 = 4) || decide (kk 2 = 10))
      · cases decide (n = 0) <;> cases emptyB s <;> cases isE (kk 0) <;> cases g 0 <;> cases g 1 <;> rfl
      · rw [hb2 hy]
        cases decide (n = 0) <;> cases emptyB s <;> cases isE (kk 0) <;> cases g 0 <;> cases g 1 <;> cases g 2 <;> rfl
  · simp [h2, h3]
theorem rhs11 : stmtB 11 n s len (fun i => isE (kk i) && g i) (fun i => isS (kk i) && g i) cs kk = rhs 11 n s len kk g := by
  show (emptyB s && decide (n = 0) && (sortsB (fun i => isE (kk i) && g i) (fun i => isS (kk i) && g i) kk len ⟨#[98]⟩ || sortsB (fun i => isE (kk i) && g i) (fun i => isS (kk i) && g i) kk len ⟨#[101, 98]⟩)) = (decide (n = 0) && emptyB s && fitsF kk len 3 [101, 63, 98] 0 && allTo g len)
  rw [fits_mayb, sorts1, sorts2]
  simp only [show (101 : UInt8).toNat = 101 from rfl, ofE, show (98 : UInt8).toNat = 98 from rfl, ofBk, sortB]
  have hb0 := blk1 (kk 0)
  have hb1 := blk1 (kk 1)
  by_cases h1 : len = 1
  · subst h1
    simp only [allTo]
    cases hx : decide (kk 0 = 4)
    · cases decide (n = 0) <;> cases emptyB s <;> cases isE (kk 0) <;> cases g 0 <;> rfl
    · rw [hb0 hx]
      cases decide (n = 0) <;> cases emptyB s <;> cases isE (kk 0) <;> cases g 0 <;> rfl
  by_cases h2 : len = 2
  · subst h2
    simp only [allTo]
    cases hx : decide (kk 1 = 4)
    · cases decide (n = 0) <;> cases emptyB s <;> cases isE (kk 0) <;> cases g 0 <;> cases g 1 <;> cases decide (kk 0 = 4) <;> cases isS (kk 0) <;> rfl
    · rw [hb1 hx]
      cases decide (n = 0) <;> cases emptyB s <;> cases isE (kk 0) <;> cases g 0 <;> cases g 1 <;> cases decide (kk 0 = 4) <;> cases isS (kk 0) <;> rfl
  · simp [h1, h2]
end
end Go.Proofs.YtjgbjahcnnjfpaaDoor
namespace Go.Proofs.YtjgbjahcnnjfpaaDoor
open Go.RowKit

theorem good_rhs (T : Nd) : good T = rhs T.kind T.num T.name T.len T.kk (fun i => good (T.kids i)) := good_cons T

theorem case_rhs (n : Int) (s : ByteArray) (len : Nat) (kk : Nat → Int) (g : Nat → Bool) : caseB 16 n s len (fun i => isE (kk i) && g i) (fun i => isS (kk i) && g i) kk = rhs 16 n s len kk g := by
  have e1 : caseB 16 n s len (fun i => isE (kk i) && g i) (fun i => isS (kk i) && g i) kk = ((emptyB s || (decide (n = 1) && nameB s)) &&
    (if n = 0 then sortsB (fun i => isE (kk i) && g i) (fun i => isS (kk i) && g i) kk len ⟨#[98]⟩ else if n = 1 then sortsB (fun i => isE (kk i) && g i) (fun i => isS (kk i) && g i) kk len ⟨#[101, 98]⟩ else if n = 2 then sortsB (fun i => isE (kk i) && g i) (fun i => isS (kk i) && g i) kk len ⟨#[101, 101, 98]⟩ else false)) := rfl
  have e2 : rhs 16 n s len kk g = (decide (0 ≤ n) && decide (n ≤ 2) && (emptyB s || (decide (n = 1) && nameB s)) && fitsF kk len (formOf 16 n).size (formOf 16 n).data.toList 0 && allTo g len) := rfl
  rw [e1, e2]
  by_cases h0 : n = 0
  · subst h0
    show ((emptyB s || (false && nameB s)) && sortsB _ _ kk len ⟨#[98]⟩) = (true && true && (emptyB s || (false && nameB s)) && fitsF kk len 1 [98] 0 && allTo g len)
    rw [fits_one, sorts1]
    simp only [show (98 : UInt8).toNat = 98 from rfl, ofBk, sortB]
    have hb := blk1 (kk 0)
    by_cases hl : len = 1
    · subst hl
      simp only [allTo]
      cases hx : decide (kk 0 = 4)
      · cases emptyB s <;> cases g 0 <;> rfl
      · rw [hb hx]; cases emptyB s <;> cases g 0 <;> rfl
    · simp [hl]
  by_cases h1 : n = 1
  · subst h1
    show ((emptyB s || (true && nameB s)) && sortsB _ _ kk len ⟨#[101, 98]⟩) = (true && true && (emptyB s || (true && nameB s)) && fitsF kk len 2 [101, 98] 0 && allTo g len)
    rw [fits_two _ _ _ _ (by decide) (by decide), sorts2]
    simp only [show (98 : UInt8).toNat = 98 from rfl, show (101 : UInt8).toNat = 101 from rfl, ofBk, ofE, sortB]
    have hb := blk1 (kk 1)
    by_cases hl : len = 2
    · subst hl
      simp only [allTo]
      cases hx : decide (kk 1 = 4)
      · cases (emptyB s || (true && nameB s)) <;> cases isE (kk 0) <;> cases g 0 <;> cases g 1 <;> rfl
      · rw [hb hx]; cases (emptyB s || (true && nameB s)) <;> cases isE (kk 0) <;> cases g 0 <;> cases g 1 <;> rfl
    · simp [hl]
  by_cases h2 : n = 2
  · subst h2
    show ((emptyB s || (false && nameB s)) && sortsB _ _ kk len ⟨#[101, 101, 98]⟩) = (true && true && (emptyB s || (false && nameB s)) && fitsF kk len 3 [101, 101, 98] 0 && allTo g len)
    rw [fits_three _ _ _ _ _ (by decide) (by decide) (by decide) (by decide), sorts3]
    simp only [show (98 : UInt8).toNat = 98 from rfl, show (101 : UInt8).toNat = 101 from rfl, ofBk, ofE, sortB]
    have hb := blk1 (kk 2)
    by_cases hl : len = 3
    · subst hl
      simp only [allTo]
      cases hx : decide (kk 2 = 4)
      · cases emptyB s <;> cases isE (kk 0) <;> cases isE (kk 1) <;> cases g 0 <;> cases g 1 <;> cases g 2 <;> rfl
      · rw [hb hx]; cases emptyB s <;> cases isE (kk 0) <;> cases isE (kk 1) <;> cases g 0 <;> cases g 1 <;> cases g 2 <;> rfl
    · simp [hl]
  · rw [if_neg h0, if_neg h1, if_neg h2, Bool.and_false]
    have : (decide (0 ≤ n) && decide (n ≤ 2)) = false := by
      rw [Bool.and_eq_false_iff]
      by_cases hx : 0 ≤ n
      · exact .inr (decide_eq_false (by omega))
      · exact .inl (decide_eq_false hx)
    rw [this]; rfl

theorem eqv (T : Nd) : T.eOk = (isE T.kind && good T) ∧ T.sOk = (isS T.kind && good T) ∧ T.cOk = (decide (T.kind = 16) && good T) := by
  have step : ∀ T : Nd, (∀ i, (T.kids i).eOk = (isE (T.kids i).kind && good (T.kids i)) ∧ (T.kids i).sOk = (isS (T.kids i).kind && good (T.kids i)) ∧ (T.kids i).cOk = (decide ((T.kids i).kind = 16) && good (T.kids i))) →
      T.eOk = (isE T.kind && good T) ∧ T.sOk = (isS T.kind && good T) ∧ T.cOk = (decide (T.kind = 16) && good T) := by
    intro T ih
    have hE : (fun i => (T.kids i).eOk) = fun i => isE (T.kk i) && good (T.kids i) := funext fun i => (ih i).1
    have hS : (fun i => (T.kids i).sOk) = fun i => isS (T.kk i) && good (T.kids i) := funext fun i => (ih i).2.1
    have hC : (fun i => (T.kids i).cOk) = fun i => decide (T.kk i = 16) && good (T.kids i) := funext fun i => (ih i).2.2
    refine ⟨?_, ?_, ?_⟩
    · rw [eOk_eq, hE, hS, good_rhs]
      by_cases h22 : T.kind = 22
      · rw [h22]; exact rhs22 _ _ _ _ _
      by_cases h23 : T.kind = 23
      · rw [h23]; exact rhs23 _ _ _ _ _
      by_cases h24 : T.kind = 24
      · rw [h24]; exact rhs24 _ _ _ _ _
      by_cases h25 : T.kind = 25
      · rw [h25]; exact rhs25 _ _ _ _ _
      by_cases h26 : T.kind = 26
      · rw [h26]; exact rhs26 _ _ _ _ _
      by_cases h27 : T.kind = 27
      · rw [h27]; exact rhs27 _ _ _ _ _
      by_cases h28 : T.kind = 28
      · rw [h28]; exact rhs28 _ _ _ _ _
      by_cases h29 : T.kind = 29
      · rw [h29]; exact rhs29 _ _ _ _ _
      have hf : isE T.kind = false := by
        cases hx : isE T.kind with
        | false => rfl
        | true => exfalso; simp [isE] at hx; omega
      rw [hf, Bool.false_and]
      unfold exprB
      simp only [h22, h23, h24, h25, h26, h27, h28, h29, if_false]
    · rw [sOk_eq, hE, hS, hC, good_rhs]
      by_cases h4 : T.kind = 4
      · rw [h4]; exact rhs4 _ _ _ _ _ _
      by_cases h5 : T.kind = 5
      · rw [h5]; exact rhs5 _ _ _ _ _ _
      by_cases h6 : T.kind = 6
      · rw [h6]; exact rhs6 _ _ _ _ _ _
      by_cases h7 : T.kind = 7
      · rw [h7]; exact rhs7 _ _ _ _ _ _
      by_cases h8 : T.kind = 8
      · rw [h8]; exact rhs8 _ _ _ _ _ _
      by_cases h9 : T.kind = 9
      · rw [h9]; exact rhs9 _ _ _ _ _ _
      by_cases h10 : T.kind = 10
      · rw [h10]; exact rhs10 _ _ _ _ _ _
      by_cases h11 : T.kind = 11
      · rw [h11]; exact rhs11 _ _ _ _ _ _
      by_cases h12 : T.kind = 12
      · rw [h12]; exact rhs12 _ _ _ _ _ _
      by_cases h13 : T.kind = 13
      · rw [h13]; exact rhs13 _ _ _ _ _ _
      by_cases h14 : T.kind = 14
      · rw [h14]; exact rhs14 _ _ _ _ _ _
      by_cases h17 : T.kind = 17
      · rw [h17]; exact rhs17 _ _ _ _ _ _
      by_cases h18 : T.kind = 18
      · rw [h18]; exact rhs18 _ _ _ _ _ _
      by_cases h19 : T.kind = 19
      · rw [h19]; exact rhs19 _ _ _ _ _ _
      by_cases h20 : T.kind = 20
      · rw [h20]; exact rhs20 _ _ _ _ _ _
      by_cases h21 : T.kind = 21
      · rw [h21]; exact rhs21 _ _ _ _ _ _
      by_cases h15 : T.kind = 15
      · rw [h15]; exact rhs15 _ _ _ _ _ _ rfl
      have hf : isS T.kind = false := by
        cases hx : isS T.kind with
        | false => rfl
        | true => exfalso; simp [isS] at hx; omega
      rw [hf, Bool.false_and]
      unfold stmtB
      simp only [h4, h5, h6, h7, h8, h9, h10, h11, h12, h13, h14, h17, h18, h19, h20, h21, h15, or_self, if_false]
    · rw [cOk_eq, hE, hS, good_rhs]
      by_cases h16 : T.kind = 16
      · rw [h16]; exact case_rhs _ _ _ _ _
      · unfold caseB
        simp [h16]
  induction T with
  | nil => exact step .nil fun i => ⟨rfl, rfl, rfl⟩
  | mk k n s len kids ih => exact step _ fun i => ih i

theorem param_good (P : Nd) : paramB P = (decide (P.kind = 3) && good P) := by
  rw [good_rhs]
  by_cases hk : P.kind = 3
  · unfold paramB
    rw [hk]
    show (true && nameB P.name && (decide (1 ≤ P.num) && decide (P.num ≤ 3)) && decide (P.len = 0)) = (true && ((decide (1 ≤ P.num) && decide (P.num ≤ 3)) && nameB P.name && fitsF P.kk P.len 0 [] 0 && allTo _ P.len))
    rw [fits_none]
    by_cases hl : P.len = 0
    · rw [hl]
      cases nameB P.name <;> cases (decide (1 ≤ P.num) && decide (P.num ≤ 3)) <;> rfl
    · simp [hl]
  · unfold paramB; simp [hk]

theorem func_good (T : Nd) : funcB T = (decide (T.kind = 2) && good T) := by
  rw [good_rhs]
  by_cases hk : T.kind = 2
  · unfold funcB
    rw [hk]
    show (true && nameB T.name && (decide (0 ≤ T.num) && decide (T.num ≤ 3)) && decide (1 ≤ T.len) && (allTo (fun i => paramB (T.kids i)) (T.len - 1) && (decide ((T.kids (T.len - 1)).kind = 4) && (T.kids (T.len - 1)).sOk))) =
      (true && ((decide (0 ≤ T.num) && decide (T.num ≤ 3)) && nameB T.name && fitsF T.kk T.len 3 [112, 42, 98] 0 && allTo (fun i => good (T.kids i)) T.len))
    rw [fits_func, (eqv _).2.1]
    have hp : (fun i => paramB (T.kids i)) = fun i => decide (T.kk i = 3) && good (T.kids i) := funext fun i => param_good _
    rw [hp, all_and]
    simp only [ofP, ofBk]
    by_cases hl : 1 ≤ T.len
    · obtain ⟨m, hm⟩ : ∃ m, T.len = m + 1 := ⟨T.len - 1, by omega⟩
      rw [hm]
      show _ = (true && ((decide (0 ≤ T.num) && decide (T.num ≤ 3)) && nameB T.name && (decide (1 ≤ m + 1) && (allTo (fun i => decide (T.kk i = 3)) m && decide (T.kk m = 4))) && (allTo (fun i => good (T.kids i)) m && good (T.kids m))))
      have hb := blk1 (T.kids m).kind
      have hkk : T.kk m = (T.kids m).kind := rfl
      rw [hkk]
      simp only [Nat.add_sub_cancel]
      cases hx : decide ((T.kids m).kind = 4)
      · cases nameB T.name <;> cases (decide (0 ≤ T.num) && decide (T.num ≤ 3)) <;> cases decide (1 ≤ m + 1) <;> cases allTo (fun i => decide (T.kk i = 3)) m <;> cases allTo (fun i => good (T.kids i)) m <;> cases good (T.kids m) <;> rfl
      · rw [hb hx]
        cases nameB T.name <;> cases (decide (0 ≤ T.num) && decide (T.num ≤ 3)) <;> cases decide (1 ≤ m + 1) <;> cases allTo (fun i => decide (T.kk i = 3)) m <;> cases allTo (fun i => good (T.kids i)) m <;> cases good (T.kids m) <;> rfl
    · simp [hl]
  · unfold funcB; simp [hk]

theorem tree_one (T : Nd) : implB T = treeB T := by
  have hg : ((T.pre 0).all fun p => fitB p.1) = good T := rfl
  unfold implB treeB
  rw [hg, good_rhs]
  by_cases hk : T.kind = 1
  · rw [hk]
    show (true && decide (T.size ≤ 600) && (decide (T.num = 0) && emptyB T.name && fitsF T.kk T.len 2 [102, 42] 0 && allTo (fun i => good (T.kids i)) T.len)) = (decide (T.size ≤ 600) && true && decide (T.num = 0) && emptyB T.name && allTo (fun i => funcB (T.kids i)) T.len)
    have hp : (fun i => funcB (T.kids i)) = fun i => decide (T.kk i = 2) && good (T.kids i) := funext fun i => func_good _
    rw [hp, all_and, fits_star]
    simp only [show (102 : UInt8).toNat = 102 from rfl, ofF]
    cases decide (T.size ≤ 600) <;> cases decide (T.num = 0) <;> cases emptyB T.name <;> cases allTo (fun i => decide (T.kk i = 2)) T.len <;> cases allTo (fun i => good (T.kids i)) T.len <;> rfl
  · simp [hk]
end Go.Proofs.YtjgbjahcnnjfpaaDoor
