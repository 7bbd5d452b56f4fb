/- The shape of a tree's value. -/
import Derived.Test.YtjgbjahcnnjfpaaNd
set_option linter.unusedVariables false
namespace Go.Proofs.Ytjgbjahcnnjfpaa
open Go.RowKit

theorem row_shape {lo hi : Nat} {w : World} {T : Nd} {v : Value} (h : Row lo hi w T v) : ∃ a cap, v = .slice a T.len cap := by
  obtain ⟨a, cap, h, _⟩ := row_eq.1 h; exact ⟨a, cap, h⟩
end Go.Proofs.Ytjgbjahcnnjfpaa
