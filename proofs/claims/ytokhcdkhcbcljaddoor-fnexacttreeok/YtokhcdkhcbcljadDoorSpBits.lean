/- The specification's tests of nodes, a theorem a kind. -/
import Derived.Test.YtokhcdkhcbcljadDoorSpKids
import Derived.Test.YtokhcdkhcbcljadDoorSpLvl
import Derived.WalkSpells
import Derived.WalkSmall
set_option linter.unusedVariables false
namespace Go.Proofs.YtokhcdkhcbcljadDoor
open Go.RowKit

theorem len0_b {n : Nat} {b : Bool} (h : ((n : Int) == 0) = b) : decide (n = 0) = b := by
  subst h; rw [Bool.eq_iff_iff]; simp
theorem num_b {n m : Int} {b : Bool} (h : (n == m) = b) : decide (n = m) = b := by
  subst h; rw [Bool.eq_iff_iff]; simp
theorem nz_b {n : Int} {b : Bool} (h : (n != 0) = b) : decide (n = 0) = !b := by
  subst h; rw [Bool.eq_iff_iff]; simp
theorem lt2_b {n : Nat} {b : Bool} (h : decide ((n : Int) < 2) = b) : decide (n < 2) = b := by
  subst h; rw [Bool.eq_iff_iff]; simp; omega
theorem pos_b {n : Nat} {b : Bool} (h : decide (0 < (n : Int)) = b) : decide (0 < n) = b := by
  subst h; rw [Bool.eq_iff_iff]; simp
theorem bcell {W w1 : World} (hb : Below W.heap.size W w1) : (∀ b o, b < W.heap.size → w1.cell? ⟨b, o, none⟩ = W.cell? ⟨b, o, none⟩) ∧ (∀ b o, b < W.heap.size → w1.frozen? ⟨b, o, none⟩ = W.frozen? ⟨b, o, none⟩) :=
  ⟨fun b o h => hb.cell (p := ⟨b, o, none⟩) h, fun b o h => hb.frozen (p := ⟨b, o, none⟩) h⟩

end Go.Proofs.YtokhcdkhcbcljadDoor
