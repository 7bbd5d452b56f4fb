/- What the program's walk over a tree comes to. -/
import Derived.Test.YtokhcdkhcbcljadDoorImNode
import Derived.Test.YtokhcdkhcbcljadDoorNdPre
set_option linter.unusedVariables false
namespace Go.Proofs.YtokhcdkhcbcljadDoor
open Go.RowKit

def lens (l : List (Nd × Nat)) : Nat := (l.map fun p => p.1.len).sum
theorem lens_app (a b : List (Nd × Nat)) : lens (a ++ b) = lens a + lens b := by simp [lens]
theorem lens_flat (f : Nat → List (Nd × Nat)) : ∀ n, lens ((List.range n).flatMap f) = sumTo (fun i => lens (f i)) n
  | 0 => rfl
  | n + 1 => by rw [List.range_succ, List.flatMap_append, lens_app, lens_flat f n]; simp [sumTo]
theorem sumTo_add {f g : Nat → Nat} : ∀ {n : Nat}, (∀ i, i < n → f i = 1 + g i) → sumTo f n = n + sumTo g n
  | 0, _ => rfl
  | n + 1, h => by simp only [sumTo]; rw [sumTo_add fun i hi => h i (by omega), h n (by omega)]; omega
theorem lens_pre (T : Nd) : ∀ d, T.size = 1 + lens (T.pre d) := by
  induction T with
  | nil => intro d; rfl
  | mk k n s len kids ih =>
    intro d
    rw [pre_eq, Nd.size_eq]
    show 1 + _ = 1 + lens ((_, d) :: preL _ (d + 1))
    have h1 : lens ((Nd.mk k n s len kids, d) :: preL (.mk k n s len kids) (d + 1)) = len + lens (preL (.mk k n s len kids) (d + 1)) := by simp [lens, Nd.len]
    rw [h1]
    unfold preL
    rw [lens_flat, sumTo_add (f := fun i => ((Nd.mk k n s len kids).kids i).size) (g := fun i => lens (((Nd.mk k n s len kids).kids i).pre (d + 1))) (fun i _ => ih i (d + 1))]
    rfl

theorem split_flat {f : Nat → List (Nd × Nat)} {p : Nd × Nat} : ∀ {n : Nat} {A B : List (Nd × Nat)}, A ++ p :: B = (List.range n).flatMap f → ∃ j, j < n ∧ ∃ A1 A2 B2, A = A1 ++ A2 ∧ f j = A2 ++ p :: B2
  | 0, A, B, h => by simp at h
  | n + 1, A, B, h => by
    rw [List.range_succ, List.flatMap_append] at h
    simp only [List.flatMap_cons, List.flatMap_nil, List.append_nil] at h
    rcases List.append_eq_append_iff.1 h with ⟨C, h1, h2⟩ | ⟨C, h1, h2⟩
    · cases C with
      | nil => exact ⟨n, by omega, A, [], B, by simp, by simpa using h2.symm⟩
      | cons c C' =>
        have hc : p = c ∧ B = C' ++ f n := by simpa using h2
        rw [← hc.1] at h1
        obtain ⟨j, hj, r⟩ := split_flat (A := A) (B := C') h1.symm
        exact ⟨j, by omega, r⟩
    · exact ⟨n, by omega, _, C, B, h1, h2⟩

/-- A node stands first, or is a kid of one ahead. -/
theorem parent (T : Nd) : ∀ (d : Nat) (A B : List (Nd × Nat)) (p : Nd × Nat), A ++ p :: B = T.pre d → (A = [] ∧ p.1 = T) ∨ ∃ q, q ∈ A ∧ ∃ i, i < q.1.len ∧ p.1 = q.1.kids i := by
  induction T with
  | nil =>
    intro d A B p h
    cases A with
    | nil => left; simp [Nd.pre] at h; exact ⟨rfl, by rw [h.1]⟩
    | cons a A' => simp [Nd.pre] at h
  | mk k n s len kids ih =>
    intro d A B p h
    rw [pre_eq] at h
    cases A with
    | nil => left; simp at h; exact ⟨rfl, by rw [h.1]⟩
    | cons a A' =>
      right
      simp only [List.cons_append, List.cons.injEq] at h
      obtain ⟨rfl, h⟩ := h
      obtain ⟨j, hj, A1, A2, B2, rfl, hf⟩ := split_flat h
      rcases ih j (d + 1) A2 B2 p hf.symm with ⟨_, hp⟩ | ⟨q, hq, r⟩
      · exact ⟨_, List.mem_cons_self .., j, hj, hp⟩
      · exact ⟨q, by simp [hq], r⟩

theorem tw_spec {kk : Nat → Int} {c : Nat} : ∀ {m d i : Nat}, i < twF kk c m d → ofB (kk (d + i)) c = true
  | 0, d, i, h => by simp [twF] at h
  | m + 1, d, i, h => by
    simp only [twF] at h
    split at h
    · rename_i h0
      cases i with
      | zero => simpa using h0
      | succ i => have := tw_spec (kk := kk) (c := c) (m := m) (d := d + 1) (i := i) (by omega); rwa [show d + (i + 1) = d + 1 + i by omega]
    · omega
theorem fits_kinds {kk : Nat → Int} {len : Nat} : ∀ (f : Nat) (l : List UInt8) (d : Nat), fitsF kk len f l d = true → ∀ i, d ≤ i → i < len → ∃ c, ofB (kk i) c = true
  | 0, l, d, h, i, h1, h2 => by simp [fitsF] at h; omega
  | f + 1, [], d, h, i, h1, h2 => by simp [fitsF] at h; omega
  | f + 1, c :: r, d, h, i, h1, h2 => by
    have key : ∀ (m : Nat) (l : List UInt8), fitsF kk len f l (d + twF kk c.toNat m d) = true → ∃ c, ofB (kk i) c = true := fun m l hf => by
      by_cases hi : i < d + twF kk c.toNat m d
      · exact ⟨c.toNat, by have := tw_spec (kk := kk) (c := c.toNat) (m := m) (d := d) (i := i - d) (by omega); rwa [show d + (i - d) = i by omega] at this⟩
      · exact fits_kinds f l _ hf i (by omega) h2
    simp only [fitsF] at h
    split at h
    · exact key _ _ h
    · split at h
      · exact key _ _ h
      · split at h
        · cases h
        · exact key _ _ h
theorem of_range {k : Int} {c : Nat} (h : ofB k c = true) : 2 ≤ k ∧ k ≤ 29 := by
  unfold ofB at h
  repeat' split at h
  all_goals simp at h
  all_goals omega
theorem fit_kids {T : Nd} (h : fitB T = true) {i : Nat} (hi : i < T.len) : 2 ≤ (T.kids i).kind ∧ (T.kids i).kind ≤ 29 := by
  unfold fitB at h
  simp only [Bool.and_eq_true] at h
  obtain ⟨c, hc⟩ := fits_kinds _ _ _ h.2 i (by omega) hi
  exact of_range hc

def implB (T : Nd) : Bool := decide (T.kind = 1) && decide (T.size ≤ 600) && (T.pre 0).all fun p => fitB p.1

/-- The next node's Kind is one of the table, if all ahead fit. -/
theorem next_kind {T : Nd} {A B : List (Nd × Nat)} {p : Nd × Nat} (hT : T.kind = 1) (h : A ++ p :: B = T.pre 0) (hA : ∀ q ∈ A, fitB q.1 = true) : 1 ≤ p.1.kind ∧ p.1.kind ≤ 29 := by
  rcases parent T 0 A B p h with ⟨_, hp⟩ | ⟨q, hq, i, hi, hp⟩
  · rw [hp, hT]; omega
  · rw [hp]; have := fit_kids (hA q hq) hi; omega
theorem impl_bad {T : Nd} {A B : List (Nd × Nat)} {p : Nd × Nat} (h : A ++ p :: B = T.pre 0) (hb : 600 < 1 + lens A + p.1.len ∨ fitB p.1 = false) : implB T = false := by
  unfold implB
  rcases hb with hb | hb
  · have hs := lens_pre T 0
    rw [← h, lens_app] at hs
    have : lens (p :: B) = p.1.len + lens B := by simp [lens]
    have h6 : ¬ T.size ≤ 600 := by omega
    simp [h6]
  · have : (T.pre 0).all (fun p => fitB p.1) = false := by
      rw [← h, List.all_append, List.all_cons, hb]; simp
    rw [this, Bool.and_false]
theorem impl_good {T : Nd} (hT : T.kind = 1) (h6 : 1 + lens (T.pre 0) ≤ 600) (hA : ∀ q ∈ T.pre 0, fitB q.1 = true) : implB T = true := by
  unfold implB
  have hs := lens_pre T 0
  have h6' : T.size ≤ 600 := by omega
  have : (T.pre 0).all (fun p => fitB p.1) = true := by rw [List.all_eq_true]; exact hA
  simp [hT, h6', this]
end Go.Proofs.YtokhcdkhcbcljadDoor
