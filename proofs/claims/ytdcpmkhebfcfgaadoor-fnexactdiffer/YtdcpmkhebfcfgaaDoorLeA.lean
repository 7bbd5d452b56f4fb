/- Two trees held against each other, as functions. -/
import Derived.Test.YtdcpmkhebfcfgaaDoorLaA
set_option linter.unusedVariables false
namespace Go.Proofs.YtdcpmkhebfcfgaaDoor
open Go.RowKit

def aloneB (a b : Nd) : Bool := decide (a.kind = b.kind) && (decide (a.num = b.num) && decide (a.name = b.name))
def eachTo (f : Nat → Bool) : Nat → Bool
  | 0 => true
  | n + 1 => eachTo f n && f n
def sameB : Nd → Nd → Bool
  | .nil, b => aloneB .nil b && (decide (0 = b.len) && true)
  | .mk k n s len kids, b => aloneB (.mk k n s len kids) b && (decide (len = b.len) && eachTo (fun i => sameB (kids i) (b.kids i)) len)
theorem sameB_eq (a b : Nd) : sameB a b = (aloneB a b && (decide (a.len = b.len) && eachTo (fun i => sameB (a.kids i) (b.kids i)) a.len)) := by cases a <;> rfl
theorem eachTo_iff (f : Nat → Bool) (n : Nat) : eachTo f n = true ↔ ∀ i, i < n → f i = true := by
  induction n with
  | zero => simp [eachTo]
  | succ n ih =>
    simp only [eachTo, Bool.and_eq_true, ih]
    constructor
    · rintro ⟨h1, h2⟩ i hi
      by_cases e : i = n
      · subst e; exact h2
      · exact h1 i (by omega)
    · intro h
      exact ⟨fun i hi => h i (by omega), h n (by omega)⟩

def foundT (f : Nat → Int) : Nat → Option Int
  | 0 => some (-1)
  | n + 1 => match foundT f n with
    | none => none
    | some k => if 0 ≤ f n then (if 0 ≤ k then none else some (f n)) else some k
theorem found_none {f : Nat → Int} {j n : Nat} (h : foundT f j = none) (hj : j ≤ n) : foundT f n = none := by
  induction hj with
  | refl => exact h
  | step _ ih => simp only [foundT, ih]
theorem found_up {f : Nat → Int} {j : Nat} {k : Int} (h : foundT f j = some k) (hf : 0 ≤ f j) (hk : ¬ 0 ≤ k) : foundT f (j + 1) = some (f j) := by simp [foundT, h, hf, hk]
theorem found_two' {f : Nat → Int} {j : Nat} {k : Int} (h : foundT f j = some k) (hf : 0 ≤ f j) (hk : 0 ≤ k) : foundT f (j + 1) = none := by simp [foundT, h, hf, hk]
theorem found_on {f : Nat → Int} {j : Nat} {k : Int} (h : foundT f j = some k) (hf : ¬ 0 ≤ f j) : foundT f (j + 1) = some k := by simp [foundT, h, hf]
theorem found_all {f : Nat → Int} {n : Nat} (h : ∀ i, i < n → f i < 0) : foundT f n = some (-1) := by
  induction n with
  | zero => rfl
  | succ n ih => exact found_on (ih fun i hi => h i (by omega)) (by have := h n (by omega); omega)
theorem found_one {f : Nat → Int} {n i : Nat} (hi : i < n) (h : 0 ≤ f i) (ho : ∀ j, j < n → j ≠ i → f j < 0) : foundT f n = some (f i) := by
  induction n with
  | zero => omega
  | succ n ih =>
    by_cases e : i = n
    · subst e
      exact found_up (found_all fun j hj => ho j (by omega) (by omega)) h (by omega)
    · exact found_on (ih (by omega) fun j hj hn => ho j (by omega) hn) (by have := ho n (by omega) (by omega); omega)
theorem found_two {f : Nat → Int} {n i j : Nat} (hij : i < j) (hj : j < n) (h : 0 ≤ f i) (h' : 0 ≤ f j) : foundT f n = none := by
  refine found_none (j := j + 1) ?_ (by omega)
  cases e : foundT f j with
  | none => simp only [foundT, e]
  | some k =>
    refine found_two' e h' ?_
    have key : ∀ m, i < m → ∀ k, foundT f m = some k → 0 ≤ k := by
      intro m
      induction m with
      | zero => intro hm; omega
      | succ m ih =>
        intro hm k hk
        cases em : foundT f m with
        | none => simp [foundT, em] at hk
        | some k' =>
          simp only [foundT, em] at hk
          by_cases e1 : 0 ≤ f m
          · rw [if_pos e1] at hk
            by_cases e2 : 0 ≤ k'
            · rw [if_pos e2] at hk; cases hk
            · rw [if_neg e2] at hk; cases hk; exact e1
          · rw [if_neg e1] at hk
            cases hk
            by_cases e3 : i = m
            · subst e3; exact absurd h e1
            · exact ih (by omega) _ em
    exact key j hij k e
theorem three_ways (g : Nat → Bool) (n : Nat) : (∀ i, i < n → g i = true) ∨ (∃ i, i < n ∧ g i = false ∧ ∀ j, j < n → j ≠ i → g j = true) ∨ ∃ i j, i < j ∧ j < n ∧ g i = false ∧ g j = false := by
  induction n with
  | zero => exact .inl fun i hi => absurd hi (Nat.not_lt_zero _)
  | succ n ih =>
    rcases ih with h | ⟨i, hi, h1, h2⟩ | ⟨i, j, h1, h2, h3, h4⟩
    · cases e : g n with
      | true =>
        refine .inl fun i hi => ?_
        by_cases en : i = n
        · subst en; exact e
        · exact h i (by omega)
      | false => exact .inr (.inl ⟨n, by omega, e, fun j hj hn => h j (by omega)⟩)
    · cases e : g n with
      | true =>
        refine .inr (.inl ⟨i, by omega, h1, fun j hj hn => ?_⟩)
        by_cases en : j = n
        · subst en; exact e
        · exact h2 j (by omega) hn
      | false => exact .inr (.inr ⟨i, n, hi, by omega, h1, e⟩)
    · exact .inr (.inr ⟨i, j, h1, by omega, h3, h4⟩)

def diffT : Nd → Nd → Nat → Int
  | .nil, b, at' => if (aloneB .nil b && decide (0 = b.len)) = true then -1 else (at' : Int)
  | .mk k n s len kids, b, at' => if (aloneB (.mk k n s len kids) b && decide (len = b.len)) = true then (foundT (fun i => diffT (kids i) (b.kids i) (kidAt (.mk k n s len kids) at' i)) len).getD (at' : Int) else (at' : Int)
theorem diffT_eq (a b : Nd) (at' : Nat) : diffT a b at' = if (aloneB a b && decide (a.len = b.len)) = true then (foundT (fun i => diffT (a.kids i) (b.kids i) (kidAt a at' i)) a.len).getD (at' : Int) else (at' : Int) := by cases a <;> rfl

theorem diff_same (a : Nd) : ∀ (b : Nd) (at' : Nat), (sameB a b = true → diffT a b at' = -1) ∧ (sameB a b = false → 0 ≤ diffT a b at') := by
  have step : ∀ a : Nd, (∀ i, i < a.len → ∀ (b : Nd) (at' : Nat), (sameB (a.kids i) b = true → diffT (a.kids i) b at' = -1) ∧ (sameB (a.kids i) b = false → 0 ≤ diffT (a.kids i) b at')) → ∀ (b : Nd) (at' : Nat), (sameB a b = true → diffT a b at' = -1) ∧ (sameB a b = false → 0 ≤ diffT a b at') := by
    intro a ih b at'
    rw [sameB_eq, diffT_eq]
    cases h1 : aloneB a b with
    | false => simp
    | true =>
      by_cases h2 : a.len = b.len
      · simp only [h2, decide_true, Bool.and_self, Bool.true_and, if_true]
        rw [← h2]
        constructor
        · intro h
          rw [eachTo_iff] at h
          rw [found_all fun i hi => by rw [(ih i hi _ _).1 (h i hi)]; omega]
          rfl
        · intro h
          rcases three_ways (fun i => sameB (a.kids i) (b.kids i)) a.len with hw | ⟨i, hi, g1, g2⟩ | ⟨i, j, hij, hj, g1, g2⟩
          · rw [(eachTo_iff _ _).2 hw] at h; cases h
          · rw [found_one (f := fun i => diffT (a.kids i) (b.kids i) (kidAt a at' i)) hi ((ih i hi _ _).2 g1) fun j hj hn => by rw [(ih j hj _ _).1 (g2 j hj hn)]; omega]
            exact (ih i hi _ _).2 g1
          · rw [found_two (f := fun i => diffT (a.kids i) (b.kids i) (kidAt a at' i)) hij hj ((ih i (by omega) _ _).2 g1) ((ih j hj _ _).2 g2)]
            simp
      · simp [h2]
  induction a with
  | nil => exact step _ fun i hi => absurd hi (Nat.not_lt_zero _)
  | mk k n s len kids ih => exact step _ fun i _ => ih i

def onlyT (a b : Nd) : Int := if (aloneB a b && decide (a.len = b.len)) = true then (foundT (fun i => if sameB (a.kids i) (b.kids i) = true then -1 else (i : Int)) a.len).getD (-1) else -1

theorem only_step (a b : Nd) (at' : Nat) (h : sameB a b = false) :
    (onlyT a b = -1 ∧ diffT a b at' = (at' : Int)) ∨ ∃ i : Nat, onlyT a b = (i : Int) ∧ i < a.len ∧ i < b.len ∧ sameB (a.kids i) (b.kids i) = false ∧ diffT a b at' = diffT (a.kids i) (b.kids i) (kidAt a at' i) := by
  have hd := fun i => diff_same (a.kids i)
  rw [sameB_eq] at h
  rw [diffT_eq]
  unfold onlyT
  cases h1 : aloneB a b with
  | false => simp
  | true =>
    by_cases h2 : a.len = b.len
    · have h3 : eachTo (fun i => sameB (a.kids i) (b.kids i)) a.len = false := by simpa [h1, h2] using h
      simp only [h2, decide_true, Bool.and_self, if_true]
      rw [← h2]
      rcases three_ways (fun i => sameB (a.kids i) (b.kids i)) a.len with hw | ⟨i, hi, g1, g2⟩ | ⟨i, j, hij, hj, g1, g2⟩
      · rw [(eachTo_iff _ _).2 hw] at h3; cases h3
      · refine .inr ⟨i, ?_, hi, by omega, g1, ?_⟩
        · rw [found_one (f := fun i => if sameB (a.kids i) (b.kids i) = true then -1 else (i : Int)) hi (by simp [g1]) fun j hj hn => by
            have := g2 j hj hn
            simp only [this, if_true]; omega]
          simp [g1]
        · rw [found_one (f := fun i => diffT (a.kids i) (b.kids i) (kidAt a at' i)) hi ((hd i _ _).2 g1) fun j hj hn => by rw [(hd j _ _).1 (g2 j hj hn)]; omega]
          rfl
      · refine .inl ⟨?_, ?_⟩
        · rw [found_two (f := fun i => if sameB (a.kids i) (b.kids i) = true then -1 else (i : Int)) hij hj (by simp [g1]) (by simp [g2])]; rfl
        · rw [found_two (f := fun i => diffT (a.kids i) (b.kids i) (kidAt a at' i)) hij hj ((hd i _ _).2 g1) ((hd j _ _).2 g2)]; rfl
    · simp [h2]
end Go.Proofs.YtdcpmkhebfcfgaaDoor
