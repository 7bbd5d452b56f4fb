/- Lists of numbers behind a slice, and what was seen, as memory holds them. -/
import Derived.Test.YtjgbjahcnnjfpaaDoorProg
import Derived.WalkKit
import Derived.Below
import Derived.Outline
import Derived.ProofKit
import Derived.OwnWalk
set_option linter.unusedVariables false
namespace Go.Proofs.YtjgbjahcnnjfpaaDoor
open Go.RowKit

theorem hid_mk {p : Prop} (h : p) : Hid p := h

def OkI (x : Int) : Prop := -9223372036854775808 ≤ x ∧ x ≤ 9223372036854775807
def OkL (xs : List Int) : Prop := xs.length ≤ 9223372036854775807 ∧ ∀ x ∈ xs, OkI x
theorem OkL.at {xs : List Int} (h : OkL xs) (i : Nat) (hi : i < xs.length) : OkI xs[i] := h.2 _ (List.getElem_mem hi)

/-- A list of numbers behind a slice: in a block from lo on, ahead of hi. -/
def Il (lo hi : Nat) (w : World) (xs : List Int) (v : Value) : Prop := ∃ a cap, v = .slice a xs.length cap ∧ (xs.length = 0 ∨ ∃ g off, a = some ⟨g, off, none⟩ ∧ lo ≤ g ∧ g < hi ∧ ∀ i (h : i < xs.length), w.cell? ⟨g, off + i, none⟩ = some (.int .i64 xs[i]))
theorem Il.keep {lo hi lo' hi' : Nat} {w w' : World} {xs : List Int} {v : Value} (h : Il lo hi w xs v) (hlo : lo' ≤ lo) (hhi : hi ≤ hi') (hc : ∀ g o, lo ≤ g → g < hi → w'.cell? ⟨g, o, none⟩ = w.cell? ⟨g, o, none⟩) : Il lo' hi' w' xs v := by
  obtain ⟨a, cap, rfl, h⟩ := h
  refine ⟨a, cap, rfl, ?_⟩
  rcases h with h | ⟨g, off, rfl, h1, h2, h3⟩
  · exact .inl h
  · exact .inr ⟨g, off, rfl, by omega, by omega, fun i hi => by rw [hc _ _ h1 h2]; exact h3 i hi⟩
theorem Il.below {lo hi : Nat} {w w' : World} {B : Nat} {xs : List Int} {v : Value} (h : Il lo hi w xs v) (hb : Below B w w') (hB : hi ≤ B) : Il lo hi w' xs v :=
  h.keep (Nat.le_refl _) (Nat.le_refl _) (fun g o _ h2 => hb.cell (p := ⟨g, o, none⟩) (by show g < B; omega))
theorem Il.wide {lo hi lo' hi' : Nat} {w : World} {xs : List Int} {v : Value} (h : Il lo hi w xs v) (hlo : lo' ≤ lo) (hhi : hi ≤ hi') : Il lo' hi' w xs v := h.keep hlo hhi (fun _ _ _ _ => rfl)
theorem Il.drew {lo hi : Nat} {w : World} {xs : List Int} {v : Value} (h : Il lo hi w xs v) : Il lo hi w.drew xs v := h.keep (w' := w.drew) (Nat.le_refl _) (Nat.le_refl _) (fun _ _ _ _ => rfl)
theorem Il.shape {lo hi : Nat} {w : World} {xs : List Int} {v : Value} (h : Il lo hi w xs v) : ∃ a cap, v = .slice a xs.length cap := by obtain ⟨a, cap, h, _⟩ := h; exact ⟨a, cap, h⟩

/-- What was seen. -/
structure Sn where
  k : Int
  c : Int
  v : Int
  tr : List Int
  sc : List Int
def Sn.Ok (s : Sn) : Prop := (OkI s.k ∧ OkI s.c ∧ OkI s.v) ∧ OkL s.tr ∧ OkL s.sc
def Sn.cost (s : Sn) : Nat := s.tr.length + s.sc.length
def Sn.val (s : Sn) (a b : Value) : Value := .agg #[.int .i64 s.k, .int .i64 s.c, .int .i64 s.v, a, b]
/-- Its two lists. -/
def At (lo hi : Nat) (w : World) (s : Sn) (a b : Value) : Prop := Il lo hi w s.tr a ∧ Il lo hi w s.sc b
theorem At.keep {lo hi lo' hi' : Nat} {w w' : World} {s : Sn} {a b : Value} (h : At lo hi w s a b) (hlo : lo' ≤ lo) (hhi : hi ≤ hi') (hc : ∀ g o, lo ≤ g → g < hi → w'.cell? ⟨g, o, none⟩ = w.cell? ⟨g, o, none⟩) : At lo' hi' w' s a b := ⟨h.1.keep hlo hhi hc, h.2.keep hlo hhi hc⟩
theorem At.below {lo hi : Nat} {w w' : World} {B : Nat} {s : Sn} {a b : Value} (h : At lo hi w s a b) (hb : Below B w w') (hB : hi ≤ B) : At lo hi w' s a b := ⟨h.1.below hb hB, h.2.below hb hB⟩
theorem At.wide {lo hi lo' hi' : Nat} {w : World} {s : Sn} {a b : Value} (h : At lo hi w s a b) (hlo : lo' ≤ lo) (hhi : hi ≤ hi') : At lo' hi' w s a b := ⟨h.1.wide hlo hhi, h.2.wide hlo hhi⟩
theorem At.drew {lo hi : Nat} {w : World} {s : Sn} {a b : Value} (h : At lo hi w s a b) : At lo hi w.drew s a b := ⟨h.1.drew, h.2.drew⟩

/-- Alike but for the script. -/
def sameB (s t : Sn) : Bool := decide (s.k = t.k ∧ s.c = t.c ∧ s.v = t.v ∧ s.tr = t.tr)

/-- Five cells of a block hold these. -/
def Five (W : World) (b o : Nat) (x0 x1 x2 x3 x4 : Value) : Prop := W.cell? ⟨b, o, none⟩ = some x0 ∧ W.cell? ⟨b, o + 1, none⟩ = some x1 ∧ W.cell? ⟨b, o + 2, none⟩ = some x2 ∧ W.cell? ⟨b, o + 3, none⟩ = some x3 ∧ W.cell? ⟨b, o + 4, none⟩ = some x4
theorem Five.keep {B b o : Nat} {A C : World} {x0 x1 x2 x3 x4 : Value} (h : Five A b o x0 x1 x2 x3 x4) (hb : Below B A C) (hB : b < B) : Five C b o x0 x1 x2 x3 x4 := by
  obtain ⟨h0, h1, h2, h3, h4⟩ := h
  exact ⟨(hb.cell (p := ⟨b, o, none⟩) hB).trans h0, (hb.cell (p := ⟨b, o + 1, none⟩) hB).trans h1, (hb.cell (p := ⟨b, o + 2, none⟩) hB).trans h2, (hb.cell (p := ⟨b, o + 3, none⟩) hB).trans h3, (hb.cell (p := ⟨b, o + 4, none⟩) hB).trans h4⟩
theorem Five.new (W : World) (x0 x1 x2 x3 x4 : Value) (t : TypeId) : Five (W.alloc (.cells #[x0, x1, x2, x3, x4] t)) W.heap.size 0 x0 x1 x2 x3 x4 := by
  unfold Five; simp [go_sem]

/-- What is left of the laws' budget. -/
def left' (c l : Nat) : Int := if c ≤ l then ((l - c : Nat) : Int) else -1
end Go.Proofs.YtjgbjahcnnjfpaaDoor
