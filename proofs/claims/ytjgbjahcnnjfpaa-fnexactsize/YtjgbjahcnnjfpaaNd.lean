/- Trees, as memory holds them: a node is four cells, its kids a row of nodes behind a slice. Kids beyond 'len' are nothing. -/
import Derived.Test.YtjgbjahcnnjfpaaProg
import Derived.WalkKit
import Derived.Below
import Derived.Outline
import Derived.ProofKit
set_option linter.unusedVariables false
namespace Go.Proofs.Ytjgbjahcnnjfpaa
open Go.RowKit Go.ChangeShapes Go.WideShapes

inductive Nd where
  | nil
  | mk (k n : Int) (s : ByteArray) (len : Nat) (kids : Nat → Nd)

def Nd.kind : Nd → Int | .nil => 0 | .mk k _ _ _ _ => k
def Nd.num : Nd → Int | .nil => 0 | .mk _ n _ _ _ => n
def Nd.name : Nd → ByteArray | .nil => ⟨#[]⟩ | .mk _ _ s _ _ => s
def Nd.len : Nd → Nat | .nil => 0 | .mk _ _ _ l _ => l
def Nd.kids : Nd → Nat → Nd | .nil => fun _ => .nil | .mk _ _ _ _ f => f

def sumTo (f : Nat → Nat) : Nat → Nat
  | 0 => 0
  | n + 1 => sumTo f n + f n
theorem sumTo_le (f : Nat → Nat) {a b : Nat} (h : a ≤ b) : sumTo f a ≤ sumTo f b := by
  induction h with
  | refl => exact Nat.le_refl _
  | step _ ih => exact Nat.le_trans ih (by simp [sumTo])
theorem sumTo_at (f : Nat → Nat) {a b : Nat} (h : a < b) : sumTo f a + f a ≤ sumTo f b := sumTo_le f (show a + 1 ≤ b from h)

/-- What the laws' budget counts of a tree. -/
def Nd.cost : Nd → Nat | .nil => 0 | .mk _ _ s len kids => s.size + (len + sumTo (fun i => (kids i).cost) len)
/-- How many nodes. -/
def Nd.size : Nd → Nat | .nil => 1 | .mk _ _ _ len kids => 1 + sumTo (fun i => (kids i).size) len
/-- Numbers and lengths that the machine has. -/
def Nd.Fine : Nd → Prop | .nil => True | .mk k n s len kids => (-9223372036854775808 ≤ k ∧ k ≤ 9223372036854775807) ∧ (-9223372036854775808 ≤ n ∧ n ≤ 9223372036854775807) ∧ s.size ≤ 9223372036854775807 ∧ len ≤ 9223372036854775807 ∧ ∀ i, i < len → (kids i).Fine

theorem Nd.cost_eq (T : Nd) : T.cost = T.name.size + (T.len + sumTo (fun i => (T.kids i).cost) T.len) := by cases T <;> rfl
theorem Nd.size_eq (T : Nd) : T.size = 1 + sumTo (fun i => (T.kids i).size) T.len := by cases T <;> rfl
theorem Nd.cost_kid (T : Nd) {i : Nat} (h : i < T.len) : (T.kids i).cost ≤ T.cost := by
  rw [T.cost_eq]; have := sumTo_at (fun i => (T.kids i).cost) h; omega
theorem sumTo_size {f g : Nat → Nat} {n : Nat} (h : ∀ i, i < n → f i ≤ 1 + g i) : sumTo f n ≤ n + sumTo g n := by
  induction n with
  | zero => simp [sumTo]
  | succ n ih => have := ih fun i hi => h i (by omega); have := h n (by omega); simp [sumTo]; omega
theorem Nd.size_cost (T : Nd) : T.size ≤ 1 + T.cost := by
  induction T with
  | nil => simp [Nd.size]
  | mk k n s len kids ih =>
    have := sumTo_size (f := fun i => (kids i).size) (g := fun i => (kids i).cost) (n := len) fun i _ => ih i
    simp only [Nd.size, Nd.cost]; omega
theorem Nd.fine_kid {T : Nd} (h : T.Fine) {i : Nat} (hi : i < T.len) : (T.kids i).Fine := by cases T; exact absurd hi (Nat.not_lt_zero _); exact h.2.2.2.2 i hi
theorem Nd.fine_len {T : Nd} (h : T.Fine) : T.len ≤ 9223372036854775807 := by cases T; exact Nat.zero_le _; exact h.2.2.2.1
theorem Nd.fine_name {T : Nd} (h : T.Fine) : T.name.size ≤ 9223372036854775807 := by cases T; exact Nat.zero_le _; exact h.2.2.1

/-- THE KIDS OF A TREE, behind a slice: blocks from 'lo' on, ahead of 'hi'. -/
def Row (lo hi : Nat) (w : World) : Nd → Value → Prop
  | .nil, v => ∃ a cap, v = .slice a 0 cap ∧ (0 ≤ cap ∧ cap ≤ 9223372036854775807)
  | .mk _ _ _ len kids, v => ∃ a cap, v = .slice a len cap ∧ (len ≤ cap ∧ cap ≤ 9223372036854775807) ∧ (len = 0 ∨ ∃ g off, a = some ⟨g, off, none⟩ ∧ lo ≤ g ∧ g < hi ∧ ∀ i, i < len →
      ∃ u, w.cell? ⟨g, off + i * 4, none⟩ = some (.int .i64 (kids i).kind) ∧ w.cell? ⟨g, off + i * 4 + 1, none⟩ = some (.int .i64 (kids i).num) ∧
        w.cell? ⟨g, off + i * 4 + 2, none⟩ = some (.string (kids i).name) ∧ w.cell? ⟨g, off + i * 4 + 3, none⟩ = some u ∧ Row lo hi w (kids i) u)

theorem row_eq {lo hi : Nat} {w : World} {T : Nd} {v : Value} : Row lo hi w T v ↔ ∃ a cap, v = .slice a T.len cap ∧ (T.len ≤ cap ∧ cap ≤ 9223372036854775807) ∧ (T.len = 0 ∨ ∃ g off, a = some ⟨g, off, none⟩ ∧ lo ≤ g ∧ g < hi ∧ ∀ i, i < T.len →
      ∃ u, w.cell? ⟨g, off + i * 4, none⟩ = some (.int .i64 (T.kids i).kind) ∧ w.cell? ⟨g, off + i * 4 + 1, none⟩ = some (.int .i64 (T.kids i).num) ∧
        w.cell? ⟨g, off + i * 4 + 2, none⟩ = some (.string (T.kids i).name) ∧ w.cell? ⟨g, off + i * 4 + 3, none⟩ = some u ∧ Row lo hi w (T.kids i) u) := by
  cases T with
  | nil => exact ⟨fun ⟨a, cap, h, hc⟩ => ⟨a, cap, h, hc, .inl rfl⟩, fun ⟨a, cap, h, hc, _⟩ => ⟨a, cap, h, hc⟩⟩
  | mk => exact Iff.rfl

/-- It lies there still where its blocks are as they were; bounds may widen. -/
theorem row_keep {lo hi lo' hi' : Nat} {w w' : World} (hlo : lo' ≤ lo) (hhi : hi ≤ hi') (hc : ∀ g o, lo ≤ g → g < hi → w'.cell? ⟨g, o, none⟩ = w.cell? ⟨g, o, none⟩) :
    ∀ {T : Nd} {v : Value}, Row lo hi w T v → Row lo' hi' w' T v := by
  intro T
  induction T with
  | nil => exact fun h => h
  | mk k n s len kids ih =>
    rintro v ⟨a, cap, rfl, hcap, h⟩
    refine ⟨a, cap, rfl, hcap, ?_⟩
    rcases h with h | ⟨g, off, rfl, h1, h2, h3⟩
    · exact .inl h
    · refine .inr ⟨g, off, rfl, by omega, by omega, fun i hi => ?_⟩
      obtain ⟨u, e0, e1, e2, e3, hr⟩ := h3 i hi
      exact ⟨u, by rw [hc _ _ h1 h2]; exact e0, by rw [hc _ _ h1 h2]; exact e1, by rw [hc _ _ h1 h2]; exact e2, by rw [hc _ _ h1 h2]; exact e3, ih i hr⟩
theorem row_below {lo hi : Nat} {w w' : World} {B : Nat} (hb : Below B w w') (hB : hi ≤ B) {T : Nd} {v : Value} (h : Row lo hi w T v) : Row lo hi w' T v :=
  row_keep (Nat.le_refl _) (Nat.le_refl _) (fun g o _ h2 => hb.cell (p := ⟨g, o, none⟩) (by show g < B; omega)) h
theorem row_wide {lo hi lo' hi' : Nat} {w : World} {T : Nd} {v : Value} (h : Row lo hi w T v) (hlo : lo' ≤ lo) (hhi : hi ≤ hi') : Row lo' hi' w T v := row_keep hlo hhi (fun _ _ _ _ => rfl) h

theorem row_drew {lo hi : Nat} {w : World} {T : Nd} {v : Value} (h : Row lo hi w T v) : Row lo hi w.drew T v := row_keep (w := w) (w' := w.drew) (Nat.le_refl _) (Nat.le_refl _) (fun _ _ _ _ => rfl) h
theorem hid_mk {p : Prop} (h : p) : Hid p := h
theorem ret_in {k : IntKind} {a b : Int} (h : a = b) : Ending.returned (.int k a) = .returned (.int k b) := by rw [h]
/-- A node as a value. -/
def Nd.val (T : Nd) (v : Value) : Value := .agg #[.int .i64 T.kind, .int .i64 T.num, .string T.name, v]
end Go.Proofs.Ytjgbjahcnnjfpaa
