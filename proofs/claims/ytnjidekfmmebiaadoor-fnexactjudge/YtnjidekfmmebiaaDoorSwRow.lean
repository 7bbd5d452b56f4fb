/- Lists of what was seen, as memory holds them. -/
import Derived.Test.YtnjidekfmmebiaaDoorSeIl
set_option linter.unusedVariables false
namespace Go.Proofs.YtnjidekfmmebiaaDoor
open Go.RowKit

def OkS (ss : List Sn) : Prop := ss.length ≤ 9223372036854775807 ∧ ∀ s ∈ ss, s.Ok
theorem OkS.at {ss : List Sn} (h : OkS ss) (i : Nat) (hi : i < ss.length) : (ss[i]).Ok := h.2 _ (List.getElem_mem hi)
/-- What the laws' budget counts of the first i. -/
def costTo (ss : List Sn) : Nat → Nat
  | 0 => ss.length
  | i + 1 => costTo ss i + (match ss[i]? with | some s => s.cost | none => 0)
def costS (ss : List Sn) : Nat := costTo ss ss.length
theorem costTo_succ (ss : List Sn) (i : Nat) (h : i < ss.length) : costTo ss (i + 1) = costTo ss i + (ss[i]).cost := by
  simp [costTo, h]
theorem costTo_mono (ss : List Sn) {i j : Nat} (h : i ≤ j) : costTo ss i ≤ costTo ss j := by
  induction h with
  | refl => exact Nat.le_refl _
  | step _ ih => exact Nat.le_trans ih (by simp [costTo])
theorem cost_at (ss : List Sn) (i : Nat) (h : i < ss.length) : (ss[i]).cost ≤ costS ss := by
  have h1 := costTo_succ ss i h
  have h2 := costTo_mono ss (show i + 1 ≤ ss.length from h)
  unfold costS; omega
theorem len_cost (ss : List Sn) : ss.length ≤ costS ss := costTo_mono ss (Nat.zero_le ss.length)

/-- A list of what was seen behind a slice: its blocks from lo on, ahead of hi. -/
def Rw (lo hi : Nat) (w : World) (ss : List Sn) (v : Value) : Prop := ∃ a cap, v = .slice a ss.length cap ∧ (ss.length = 0 ∨ ∃ g off, a = some ⟨g, off, none⟩ ∧ lo ≤ g ∧ g < hi ∧ ∀ i (h : i < ss.length),
  ∃ x y, Five w g (off + i * 5) (.int .i64 (ss[i]).k) (.int .i64 (ss[i]).c) (.int .i64 (ss[i]).v) x y ∧ At lo hi w ss[i] x y)
theorem Five.same {b o : Nat} {A C : World} {x0 x1 x2 x3 x4 : Value} (h : Five A b o x0 x1 x2 x3 x4) (hc : ∀ o, C.cell? ⟨b, o, none⟩ = A.cell? ⟨b, o, none⟩) : Five C b o x0 x1 x2 x3 x4 := by
  obtain ⟨h0, h1, h2, h3, h4⟩ := h
  exact ⟨(hc _).trans h0, (hc _).trans h1, (hc _).trans h2, (hc _).trans h3, (hc _).trans h4⟩
theorem Rw.keep {lo hi lo' hi' : Nat} {w w' : World} {ss : List Sn} {v : Value} (h : Rw lo hi w ss v) (hlo : lo' ≤ lo) (hhi : hi ≤ hi') (hc : ∀ g o, lo ≤ g → g < hi → w'.cell? ⟨g, o, none⟩ = w.cell? ⟨g, o, none⟩) : Rw lo' hi' w' ss v := by
  obtain ⟨a, cap, rfl, h⟩ := h
  refine ⟨a, cap, rfl, ?_⟩
  rcases h with h | ⟨g, off, rfl, h1, h2, h3⟩
  · exact .inl h
  · refine .inr ⟨g, off, rfl, by omega, by omega, fun i hi => ?_⟩
    obtain ⟨x, y, hf, ha⟩ := h3 i hi
    exact ⟨x, y, hf.same (fun o => hc g o h1 h2), ha.keep hlo hhi hc⟩
theorem Rw.below {lo hi : Nat} {w w' : World} {B : Nat} {ss : List Sn} {v : Value} (h : Rw lo hi w ss v) (hb : Below B w w') (hB : hi ≤ B) : Rw lo hi w' ss v :=
  h.keep (Nat.le_refl _) (Nat.le_refl _) (fun g o _ h2 => hb.cell (p := ⟨g, o, none⟩) (by show g < B; omega))
theorem Rw.wide {lo hi lo' hi' : Nat} {w : World} {ss : List Sn} {v : Value} (h : Rw lo hi w ss v) (hlo : lo' ≤ lo) (hhi : hi ≤ hi') : Rw lo' hi' w ss v := h.keep hlo hhi (fun _ _ _ _ => rfl)
theorem Rw.drew {lo hi : Nat} {w : World} {ss : List Sn} {v : Value} (h : Rw lo hi w ss v) : Rw lo hi w.drew ss v := h.keep (w' := w.drew) (Nat.le_refl _) (Nat.le_refl _) (fun _ _ _ _ => rfl)
theorem Rw.shape {lo hi : Nat} {w : World} {ss : List Sn} {v : Value} (h : Rw lo hi w ss v) : ∃ a cap, v = .slice a ss.length cap := by obtain ⟨a, cap, h, _⟩ := h; exact ⟨a, cap, h⟩
end Go.Proofs.YtnjidekfmmebiaaDoor
