/- The region 'a, b = a.Kids[i], b.Kids[i]', whatever comes up first: what has been stored. -/
import Derived.Test.YtnjidekfmmebiaaDoorDrInv2
set_option linter.unusedVariables false
namespace Go.Proofs.YtnjidekfmmebiaaDoor
open Go

theorem set_mono {l : Array Bool} {i j : Nat} (h : l.getD j false = true) : (l.setIfInBounds i true).getD j false = true := by
  by_cases e : i = j
  · subst e
    refine set_same ?_
    rcases Nat.lt_or_ge i l.size with h' | h'
    · exact h'
    · rw [Array.getD_eq_getD_getElem?, Array.getElem?_eq_none h'] at h; simp at h
  · rw [set_other e]; exact h
theorem fl_ne {l : Array Bool} {i : Nat} (h : l.getD i true = false) (h' : l.getD i false = true) : False := by
  rw [getD_tr h'] at h; cases h

/-- The first store is operation p, behind the operations below m; the second one is operation p + 1, behind all. -/
def S2 (p m : Nat) (W0 W1 W2 : World) (l : Array Bool) (v : World) : Prop :=
  v = (if l.getD (p + 1) false = true then W2 else if l.getD p false = true then W1 else W0) ∧ (l.getD p false = true → ∀ i, i < m → l.getD i false = true) ∧ (l.getD (p + 1) false = true → ∀ i, i < p + 1 → l.getD i false = true)
theorem S2.start (n p m : Nat) (W0 W1 W2 : World) : S2 p m W0 W1 W2 (Array.replicate n false) W0 := by
  have h : ∀ j, (Array.replicate n false).getD j false = false := fun j => by
    rw [Array.getD_eq_getD_getElem?, Array.getElem?_replicate]; split <;> rfl
  exact ⟨(by rw [h, h]; simp), (fun e => absurd e (by rw [h]; simp)), (fun e => absurd e (by rw [h]; simp))⟩
theorem S2.low {p m : Nat} {W0 W1 W2 : World} {l : Array Bool} {v : World} (h : S2 p m W0 W1 W2 l v) {i : Nat} (hi : i < m) (hm : m ≤ p) (hu : l.getD i true = false) : v = W0 := by
  have h1 : ¬ l.getD p false = true := fun e => fl_ne hu (h.2.1 e i hi)
  have h2 : ¬ l.getD (p + 1) false = true := fun e => fl_ne hu (h.2.2 e i (by omega))
  rw [h.1, if_neg h2, if_neg h1]
theorem S2.mid {p m : Nat} {W0 W1 W2 : World} {l : Array Bool} {v : World} (h : S2 p m W0 W1 W2 l v) {i : Nat} (hi : i < p + 1) (hu : l.getD i true = false) : v = W0 ∨ v = W1 := by
  have h2 : ¬ l.getD (p + 1) false = true := fun e => fl_ne hu (h.2.2 e i hi)
  rw [h.1, if_neg h2]
  by_cases e : l.getD p false = true
  · rw [if_pos e]; exact .inr rfl
  · rw [if_neg e]; exact .inl rfl
theorem S2.put {p m : Nat} {W0 W1 W2 : World} {l : Array Bool} {v : World} (h : S2 p m W0 W1 W2 l v) {i : Nat} (hi : i < p) : S2 p m W0 W1 W2 (l.setIfInBounds i true) v := by
  unfold S2
  rw [set_other (by omega : i ≠ p), set_other (by omega : i ≠ p + 1)]
  exact ⟨h.1, fun e j hj => set_mono (h.2.1 e j hj), fun e j hj => set_mono (h.2.2 e j hj)⟩
theorem S2.first {p m : Nat} {W0 W1 W2 : World} {l : Array Bool} {v : World} (h : S2 p m W0 W1 W2 l v) (hs : p < l.size) (hu : l.getD p true = false) (hd : ∀ i, i < m → l.getD i false = true) : v = W0 ∧ S2 p m W0 W1 W2 (l.setIfInBounds p true) W1 := by
  have h1 : ¬ l.getD p false = true := fun e => fl_ne hu e
  have h2 : ¬ l.getD (p + 1) false = true := fun e => fl_ne hu (h.2.2 e p (by omega))
  refine ⟨by rw [h.1, if_neg h2, if_neg h1], ?_⟩
  unfold S2
  rw [set_other (by omega : p ≠ p + 1), set_same hs, if_neg h2]
  exact ⟨by simp, fun _ j hj => set_mono (hd j hj), fun e => absurd e h2⟩
theorem S2.second {p m : Nat} {W0 W1 W2 : World} {l : Array Bool} {v : World} (h : S2 p m W0 W1 W2 l v) (hm : m ≤ p) (hs : p + 1 < l.size) (hu : l.getD (p + 1) true = false) (hd : ∀ i, i < p + 1 → l.getD i false = true) : v = W1 ∧ S2 p m W0 W1 W2 (l.setIfInBounds (p + 1) true) W2 := by
  have h2 : ¬ l.getD (p + 1) false = true := fun e => fl_ne hu e
  refine ⟨by rw [h.1, if_neg h2, if_pos (hd p (by omega))], ?_⟩
  unfold S2
  rw [set_same hs]
  exact ⟨by simp, fun _ j hj => set_mono (hd j (by omega)), fun _ j hj => set_mono (hd j hj)⟩
theorem S2.done {p m : Nat} {W0 W1 W2 : World} {l : Array Bool} {v : World} (h : S2 p m W0 W1 W2 l v) (hd : l.getD (p + 1) false = true) : v = W2 := by rw [h.1, if_pos hd]
/-- One store, the last operation of all. -/
def S1 (p : Nat) (R R' : World → Prop) (l : Array Bool) (v : World) : Prop := (l.getD p false = true → ∀ i, i < p → l.getD i false = true) ∧ (l.getD p false = false → R v) ∧ (l.getD p false = true → R' v)
theorem S1.start (n p : Nat) {R R' : World → Prop} {v : World} (h : R v) : S1 p R R' (Array.replicate n false) v := by
  have e : ∀ j, (Array.replicate n false).getD j false = false := fun j => by
    rw [Array.getD_eq_getD_getElem?, Array.getElem?_replicate]; split <;> rfl
  exact ⟨(fun h => absurd h (by rw [e]; simp)), (fun _ => h), (fun h => absurd h (by rw [e]; simp))⟩
theorem S1.low {p : Nat} {R R' : World → Prop} {l : Array Bool} {v : World} (h : S1 p R R' l v) {i : Nat} (hi : i < p) (hu : l.getD i true = false) : l.getD p false = false ∧ R v := by
  cases e : l.getD p false with
  | true => exact (fl_ne hu (h.1 e i hi)).elim
  | false => exact ⟨rfl, h.2.1 e⟩
theorem S1.put {p : Nat} {R R' : World → Prop} {l : Array Bool} {v v' : World} (h : S1 p R R' l v) {i : Nat} (hi : i < p) (hu : l.getD i true = false) (hv : R v') : S1 p R R' (l.setIfInBounds i true) v' := by
  have h0 := (h.low hi hu).1
  unfold S1
  rw [set_other (by omega : i ≠ p), h0]
  exact ⟨(fun e => by cases e), (fun _ => hv), (fun e => by cases e)⟩
theorem S1.last {p : Nat} {R R' : World → Prop} {l : Array Bool} {v : World} (h : S1 p R R' l v) (hs : p < l.size) (hu : l.getD p true = false) (hd : ∀ i, i < p → l.getD i false = true) : R v ∧ ∀ v', R' v' → S1 p R R' (l.setIfInBounds p true) v' := by
  refine ⟨h.2.1 (getD_fl hu), fun v' hv => ?_⟩
  unfold S1
  rw [set_same hs]
  exact ⟨(fun _ j hj => set_mono (hd j hj)), (fun e => by cases e), (fun _ => hv)⟩
/-- A value that an operation has: the one of its place. -/
def Vf (n : Nat) (f : Nat → Value) (i : Nat) (_ : World) (x : Value) : Prop := i < n → x = f i
end Go.Proofs.YtnjidekfmmebiaaDoor
