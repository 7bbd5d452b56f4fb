/- The specification's printer: types; the text that is handed back. -/
import Derived.Test.YtacamenjijlemaaGreatDoorPmPrE
import Derived.Laws.IdiomStrings
import Derived.Laws.BytesString
set_option linter.unusedVariables false
namespace Go.Proofs.YtacamenjijlemaaGreatDoor
open Go.RowKit

set_option maxHeartbeats 4000000 in
set_option maxRecDepth 100000 in
theorem type_any (n : Int) (h0 : 0 ≤ n) (h3 : n ≤ 3) (w : World) : Calls Tryz.prog 20 #[.int .i64 n] w fun e w' => e = .returned (.string (strT (typeT n))) ∧ Below w.heap.size w w' := by
  have HB : Hid (∀ o, Below w.heap.size w (w.alloc o)) := fun o => (Below.refl _ _).alloc (Nat.le_refl _) _
  have h : n = 0 ∨ n = 1 ∨ n = 2 ∨ n = 3 := by omega
  clear h0 h3
  rcases h with rfl | rfl | rfl | rfl
  all_goals go_enter Tryz.func20, Tryz.ntmps20
  all_goals go_wp2
  all_goals go_ret
  all_goals exact ⟨rfl, HB.out _⟩

/-- The text as a string. -/
theorem conv_buf {ob : Nat} {W : World} {own : Option Nat} {Y : List UInt8} (h : Buf ob W own Y) : ∃ a l c, W.cell? ⟨ob, 0, none⟩ = some (.slice a l c) ∧ (convert 39 9 (.slice a l c)).run Tryz.prog W = .ok (.string (strT Y)) W := by
  obtain ⟨v, hv, ho, rfl⟩ := h
  have k0 : W.cell? ⟨ob, 0, none⟩ = some v := by simp [World.cell?, hv]
  rcases ho.2 with ⟨rfl, h0⟩ | ⟨g, cap, cur, rfl, h1, h2, h3, h4, h5, h6⟩
  · refine ⟨none, 0, 0, k0, ?_⟩
    have : Y = [] := List.eq_nil_of_length_eq_zero h0
    subst this
    rw [run_convert_bytes_string W 39 9 5 none 0 0 Tryz.underlying39 Tryz.underlying5 Tryz.underlying9]
    simp [Conv.bytesToString]
    try rfl
  · refine ⟨some ⟨g, 0, none⟩, Y.length, cap, k0, ?_⟩
    refine run_convert_bytes_back (P := Tryz.prog) W 39 9 5 ⟨g, 0, none⟩ cap Y Tryz.underlying39 Tryz.underlying5 Tryz.underlying9 ?_
    intro j hj
    have := ho.cells (g := g) rfl j (.int .u8 Y[j].toNat) (by simp [u8s, hj])
    simpa [Addr.add] using this
theorem Pst.join {ob : Nat} {own0 : Option Nat} {w0 wr : World} {Y : List UInt8} (h : Pst ob own0 w0 Y wr) : ∃ own, Buf ob wr own Y ∧ ∀ Y' W o, Pst ob own (wr.alloc o) Y' W → Pst ob own0 w0 Y' W := by
  obtain ⟨own, h1, h2⟩ := h.buf
  refine ⟨own, h1, fun Y' W o h' => ?_⟩
  obtain ⟨own', h3, h4⟩ := h'.buf
  exact ⟨⟨own', h3, h2.trans ((Wrote.alloc ob own wr o).trans h4)⟩, h.below.trans (h'.belowB h1)⟩
end Go.Proofs.YtacamenjijlemaaGreatDoor
