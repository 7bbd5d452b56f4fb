/- The program's test and the specification's are one. -/
import Derived.Test.YtokhcdkhcbcljadDoorImPre
set_option linter.unusedVariables false
namespace Go.Proofs.YtokhcdkhcbcljadDoor
open Go.RowKit

/-- All nodes of a tree fit. -/
def goodA (T : Nd) (d : Nat) : Bool := (T.pre d).all fun p => fitB p.1
theorem good_eq (T : Nd) (d : Nat) : goodA T d = (fitB T && allTo (fun i => goodA (T.kids i) (d + 1)) T.len) := by
  unfold goodA
  rw [pre_eq, List.all_cons]
  congr 1
  unfold preL
  generalize T.len = n
  induction n with
  | zero => rfl
  | succ n ih => rw [List.range_succ, List.flatMap_append, List.all_append, ih]; simp [allTo]
theorem good_deep (T : Nd) : ∀ d e, goodA T d = goodA T e := by
  induction T with
  | nil => intro d e; rfl
  | mk k n s len kids ih =>
    intro d e
    rw [good_eq, good_eq]
    congr 1
    congr 1
    funext i
    exact ih i (d + 1) (e + 1)
def good (T : Nd) : Bool := goodA T 0
theorem good_cons (T : Nd) : good T = (fitB T && allTo (fun i => good (T.kids i)) T.len) := by
  unfold good
  rw [good_eq]
  congr 1
  congr 1
  funext i
  exact good_deep _ _ _

def isE (k : Int) : Bool := decide (22 ≤ k) && decide (k ≤ 29)
def isS (k : Int) : Bool := decide (4 ≤ k) && decide (k ≤ 21) && !decide (k = 16)

/-- The closed forms of a list against a form. -/
theorem twm (kk : Nat → Int) (c m d : Nat) : twF kk c (m + 1) d = if ofB (kk d) c then twF kk c m (d + 1) + 1 else 0 := rfl
theorem tw0 (kk : Nat → Int) (c d : Nat) : twF kk c 0 d = 0 := rfl
theorem tw_all (kk : Nat → Int) (c : Nat) : ∀ (m d : Nat), decide (twF kk c m d = m) = allTo (fun i => ofB (kk (d + i)) c) m
  | 0, d => rfl
  | m + 1, d => by
    rw [Bool.eq_iff_iff, decide_eq_true_eq, allTo_iff]
    constructor
    · intro h i hi
      exact tw_spec (m := m + 1) (by omega)
    · intro h
      exact tw_of h (Nat.le_refl _) (.inl rfl)
theorem tw_le (kk : Nat → Int) (c : Nat) : ∀ (m d : Nat), twF kk c m d ≤ m
  | 0, d => Nat.le_refl _
  | m + 1, d => by
    rw [twm]; split
    · have := tw_le kk c m (d + 1); omega
    · omega
/-- 'x*' -/
theorem fits_star (kk : Nat → Int) (len : Nat) (c : UInt8) : fitsF kk len 2 [c, 42] 0 = allTo (fun i => ofB (kk i) c.toNat) len := by
  have h : fitsF kk len 2 [c, 42] 0 = decide (0 + twF kk c.toNat (len - 0) 0 = len) := by
    simp [fitsF]
  rw [h]
  have := tw_all kk c.toNat len 0
  simp only [Nat.zero_add, Nat.sub_zero] at this ⊢
  exact this

theorem fits_none (kk : Nat → Int) (len : Nat) : fitsF kk len 0 [] 0 = decide (len = 0) := by
  simp [fitsF, eq_comm]
theorem fits_one (kk : Nat → Int) (len : Nat) (c : UInt8) : fitsF kk len 1 [c] 0 = (decide (len = 1) && ofB (kk 0) c.toNat) := by
  rcases len with _ | _ | n
  · simp [fitsF, twF]
  · cases h : ofB (kk 0) c.toNat <;> simp [fitsF, twF, h]
  · cases h : ofB (kk 0) c.toNat <;> simp [fitsF, twF, h]
theorem fits_two (kk : Nat → Int) (len : Nat) (c c' : UInt8) (h1 : c' ≠ 63) (h2 : c' ≠ 42) : fitsF kk len 2 [c, c'] 0 = (decide (len = 2) && (ofB (kk 0) c.toNat && ofB (kk 1) c'.toNat)) := by
  rcases len with _ | _ | _ | n
  · simp [fitsF, twF, h1, h2]
  · cases h : ofB (kk 0) c.toNat <;> simp [fitsF, twF, h, h1, h2]
  · cases h : ofB (kk 0) c.toNat <;> cases h' : ofB (kk 1) c'.toNat <;> simp [fitsF, twF, h, h', h1, h2]
  · cases h : ofB (kk 0) c.toNat <;> cases h' : ofB (kk 1) c'.toNat <;> simp [fitsF, twF, h, h', h1, h2]
theorem fits_three (kk : Nat → Int) (len : Nat) (c c' c'' : UInt8) (h1 : c' ≠ 63) (h2 : c' ≠ 42) (h3 : c'' ≠ 63) (h4 : c'' ≠ 42) : fitsF kk len 3 [c, c', c''] 0 = (decide (len = 3) && (ofB (kk 0) c.toNat && ofB (kk 1) c'.toNat && ofB (kk 2) c''.toNat)) := by
  rcases len with _ | _ | _ | _ | n
  · simp [fitsF, twF, h1, h2]
  · cases h : ofB (kk 0) c.toNat <;> simp [fitsF, twF, h, h1, h2, h3, h4]
  · cases h : ofB (kk 0) c.toNat <;> cases h' : ofB (kk 1) c'.toNat <;> simp [fitsF, twF, h, h', h1, h2, h3, h4]
  · cases h : ofB (kk 0) c.toNat <;> cases h' : ofB (kk 1) c'.toNat <;> cases h'' : ofB (kk 2) c''.toNat <;> simp [fitsF, twF, h, h', h'', h1, h2, h3, h4]
  · cases h : ofB (kk 0) c.toNat <;> cases h' : ofB (kk 1) c'.toNat <;> cases h'' : ofB (kk 2) c''.toNat <;> simp [fitsF, twF, h, h', h'', h1, h2, h3, h4]
theorem fits_may (kk : Nat → Int) (len : Nat) (c : UInt8) : fitsF kk len 2 [c, 63] 0 = (decide (len = 0) || (decide (len = 1) && ofB (kk 0) c.toNat)) := by
  rcases len with _ | _ | n
  · simp [fitsF, twF]
  · cases h : ofB (kk 0) c.toNat <;> simp [fitsF, twF, h]
  · cases h : ofB (kk 0) c.toNat <;> simp [fitsF, twF, h]
theorem fits_mayb (kk : Nat → Int) (len : Nat) : fitsF kk len 3 [101, 63, 98] 0 = ((decide (len = 1) && ofB (kk 0) 98) || (decide (len = 2) && (ofB (kk 0) 101 && ofB (kk 1) 98))) := by
  have hd : ofB (kk 0) 101 = true → ofB (kk 0) 98 = false := fun h => by simp [ofB] at h ⊢; omega
  rcases len with _ | _ | _ | n
  · simp [fitsF, twF]
  · cases h : ofB (kk 0) 101 <;> cases h' : ofB (kk 0) 98 <;> simp_all [fitsF, twF]
  · cases h : ofB (kk 0) 101 <;> cases h' : ofB (kk 0) 98 <;> cases h'' : ofB (kk 1) 98 <;> simp_all [fitsF, twF]
  · cases h : ofB (kk 0) 101 <;> cases h' : ofB (kk 0) 98 <;> cases h'' : ofB (kk 1) 98 <;> simp_all [fitsF, twF]
theorem fits_if (kk : Nat → Int) (len : Nat) : fitsF kk len 4 [101, 98, 111, 63] 0 = (ofB (kk 0) 101 && ofB (kk 1) 98 && (decide (len = 2) || (decide (len = 3) && ofB (kk 2) 111))) := by
  rcases len with _ | _ | _ | _ | n
  · simp [fitsF, twF]
  · cases h : ofB (kk 0) 101 <;> simp [fitsF, twF, h]
  · cases h : ofB (kk 0) 101 <;> cases h' : ofB (kk 1) 98 <;> simp [fitsF, twF, h, h']
  · cases h : ofB (kk 0) 101 <;> cases h' : ofB (kk 1) 98 <;> cases h'' : ofB (kk 2) 111 <;> simp [fitsF, twF, h, h', h'']
  · cases h : ofB (kk 0) 101 <;> cases h' : ofB (kk 1) 98 <;> cases h'' : ofB (kk 2) 111 <;> simp [fitsF, twF, h, h', h'']
theorem fits_func (kk : Nat → Int) (len : Nat) : fitsF kk len 3 [112, 42, 98] 0 = (decide (1 ≤ len) && (allTo (fun i => ofB (kk i) 112) (len - 1) && ofB (kk (len - 1)) 98)) := by
  have hd : ∀ k, ofB k 112 = true → ofB k 98 = false := fun k h => by simp [ofB] at h ⊢; omega
  have h0 : fitsF kk len 3 [112, 42, 98] 0 = if twF kk 98 (min 1 (len - twF kk 112 len 0)) (twF kk 112 len 0) < 1 then false else decide (twF kk 112 len 0 + twF kk 98 (min 1 (len - twF kk 112 len 0)) (twF kk 112 len 0) = len) := by
    simp [fitsF]
  rw [h0]
  have hle := tw_le kk 112 len 0
  have hsp := fun i (hi : i < twF kk 112 len 0) => tw_spec (kk := kk) (c := 112) (m := len) (d := 0) (i := i) hi
  simp only [Nat.zero_add] at hsp
  have hof := fun t (h1 : ∀ i, i < t → ofB (kk (0 + i)) 112 = true) (h2 : t ≤ len) (h3 : t = len ∨ ofB (kk (0 + t)) 112 = false) => tw_of (kk := kk) (c := 112) (m := len) (t := t) (d := 0) h1 h2 h3
  simp only [Nat.zero_add] at hof
  rw [Bool.eq_iff_iff]
  generalize ht : twF kk 112 len 0 = t at *
  constructor
  · intro h
    split at h
    · cases h
    · rename_i hn
      have hlt : t < len := by
        rcases Nat.lt_or_ge t len with h | h
        · exact h
        · exfalso; apply hn; rw [show len - t = 0 by omega]; simp [twF]
      have hb : ofB (kk t) 98 = true := by
        rw [show min 1 (len - t) = 0 + 1 by omega, twm] at hn
        cases hb : ofB (kk t) 98 with
        | true => rfl
        | false => exfalso; apply hn; simp [hb]
      have h1 : twF kk 98 (min 1 (len - t)) t = 1 := by rw [show min 1 (len - t) = 0 + 1 by omega, twm]; simp [hb, tw0]
      rw [h1] at h
      have hl : len = t + 1 := by have := of_decide_eq_true h; omega
      subst hl
      simp only [Nat.add_sub_cancel, hb, Bool.and_true, Bool.and_eq_true, decide_eq_true_eq]
      exact ⟨by omega, allTo_true hsp⟩
  · intro h
    simp only [Bool.and_eq_true, decide_eq_true_eq] at h
    obtain ⟨h1, h2, h3⟩ := h
    have hall := allTo_iff.1 h2
    have hn : ofB (kk (len - 1)) 112 = false := by
      cases hx : ofB (kk (len - 1)) 112 with
      | false => rfl
      | true => rw [hd _ hx] at h3; cases h3
    have := hof (len - 1) hall (by omega) (.inr hn)
    subst this
    have hw : twF kk 98 (min 1 (len - (len - 1))) (len - 1) = 1 := by rw [show min 1 (len - (len - 1)) = 0 + 1 by omega, twm]; simp [h3, tw0]
    rw [hw]
    simp
    omega

theorem sorts1 (e st : Nat → Bool) (kk : Nat → Int) (len : Nat) (c : UInt8) : sortsB e st kk len ⟨#[c]⟩ = (decide (len = 1) && sortB e st kk c.toNat 0) := by
  unfold sortsB
  show (decide (len = 1) && (allTo _ 1)) = _
  simp [allTo]
theorem sorts2 (e st : Nat → Bool) (kk : Nat → Int) (len : Nat) (c c' : UInt8) : sortsB e st kk len ⟨#[c, c']⟩ = (decide (len = 2) && (sortB e st kk c.toNat 0 && sortB e st kk c'.toNat 1)) := by
  unfold sortsB
  show (decide (len = 2) && (allTo _ 2)) = _
  simp [allTo]
theorem sorts3 (e st : Nat → Bool) (kk : Nat → Int) (len : Nat) (c c' c'' : UInt8) : sortsB e st kk len ⟨#[c, c', c'']⟩ = (decide (len = 3) && (sortB e st kk c.toNat 0 && sortB e st kk c'.toNat 1 && sortB e st kk c''.toNat 2)) := by
  unfold sortsB
  show (decide (len = 3) && (allTo _ 3)) = _
  simp [allTo]
end Go.Proofs.YtokhcdkhcbcljadDoor
