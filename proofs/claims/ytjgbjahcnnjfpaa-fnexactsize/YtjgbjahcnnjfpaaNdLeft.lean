/- What is left of a budget. -/
import Derived.Test.YtjgbjahcnnjfpaaNd
set_option linter.unusedVariables false
namespace Go.Proofs.Ytjgbjahcnnjfpaa
open Go.RowKit

def left' (c left : Nat) : Int := if c ≤ left then ((left - c : Nat) : Int) else -1
theorem left_neg {c l : Nat} (h : left' c l < 0) : l < c := by unfold left' at h; split at h <;> omega
theorem left_pos {c l : Nat} (h : 0 ≤ left' c l) : c ≤ l ∧ left' c l = ((l - c : Nat) : Int) := by
  unfold left' at h ⊢
  split at h
  · rename_i hc; exact ⟨hc, by rw [if_pos hc]⟩
  · omega
end Go.Proofs.Ytjgbjahcnnjfpaa
