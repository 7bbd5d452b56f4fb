/- The laws' copies: of a list of numbers, of what was seen. -/
import Derived.Test.YtjgbjahcnnjfpaaDoorSeIl
import Derived.WalkSpells
import Derived.WalkSmall
import Derived.OwnWalk
import Derived.Laws.MakeOwn
set_option linter.unusedVariables false
namespace Go.Proofs.YtjgbjahcnnjfpaaDoor
open Go.RowKit

theorem info_int : (Tryd.prog.info? 3).map (fun i => (i.zero, i.size, i.bytes)) = some (some (.int .i64 0), 1, 8) := by kernel_rfl

/-- The row that is being filled: j of its elements stand. -/
structure FillI (xs : List Int) (w : World) (j : Nat) (wr : World) : Prop where
  below : Below w.heap.size w wr
  size : wr.heap.size = w.heap.size + 1
  warm : ∀ o, wr.frozen? ⟨w.heap.size, o, none⟩ = false
  there : ∀ o, o < xs.length → ∃ x, wr.cell? ⟨w.heap.size, o, none⟩ = some x
  cells : ∀ i (h : i < xs.length), i < j → wr.cell? ⟨w.heap.size, i, none⟩ = some (.int .i64 xs[i])
theorem FillI.start (xs : List Int) (w : World) : FillI xs w 0 (w.alloc (.cells (madeCells #[.int .i64 0] xs.length) 3)) := by
  refine ⟨(Below.refl _ _).alloc (Nat.le_refl _) _, by simp, fun o => frozen_of_row _ _ _ _ _ (heap_alloc_new w _), fun o ho => ?_, fun i _ hi => absurd hi (Nat.not_lt_zero _)⟩
  refine ⟨(madeCells #[.int .i64 0] xs.length)[o]'(by rw [size_madeCells]; exact ho), ?_⟩
  rw [cell_of_row _ _ _ _ _ (0, 0) (heap_alloc_new w _)]
  simp [size_madeCells, ho]
theorem FillI.step {xs : List Int} {w : World} {j : Nat} {wr : World} (h : FillI xs w j wr) (hj : j < xs.length) : FillI xs w (j + 1) (wr.setCell ⟨w.heap.size, j, none⟩ (.int .i64 xs[j])) := by
  obtain ⟨y, hy⟩ := h.there j hj
  have hc : ∀ o, (wr.setCell ⟨w.heap.size, j, none⟩ (.int .i64 xs[j])).cell? ⟨w.heap.size, o, none⟩ = if o = j then some (.int .i64 xs[j]) else wr.cell? ⟨w.heap.size, o, none⟩ := by
    intro o
    split
    · rename_i h; subst h; exact World.cell?_setCell_same _ _ _ hy
    · rename_i h; exact World.cell?_setCell_other _ _ _ _ (fun e => h (by cases e; rfl))
  refine ⟨h.below.setCell (p := ⟨w.heap.size, j, none⟩) (Nat.le_refl _) _, by simpa [World.setCell] using h.size, fun o => by simpa [go_sem] using h.warm o, fun o ho => ?_, fun i hi hij => ?_⟩
  · rw [hc]; split
    · exact ⟨_, rfl⟩
    · exact h.there o ho
  · rw [hc]
    by_cases e : i = j
    · subst e; rw [if_pos rfl]
    · rw [if_neg e]; exact h.cells i hi (by omega)
theorem FillI.done {xs : List Int} {w wr : World} (h : FillI xs w xs.length wr) (cap : Nat) : Il w.heap.size wr.heap.size wr xs (.slice (some ⟨w.heap.size, 0, none⟩) xs.length cap) :=
  ⟨_, cap, rfl, .inr ⟨w.heap.size, 0, rfl, Nat.le_refl _, by have := h.size; omega, fun i hi => by rw [Nat.zero_add]; exact h.cells i hi hi⟩⟩

set_option maxHeartbeats 2000000 in
theorem to_ints (xs : List Int) (v : Value) (lo hi : Nat) (w : World) (hl : xs.length ≤ 1048576) (hhi : hi ≤ w.heap.size) (h : Il lo hi w xs v) :
    Calls Tryd.prog 25 #[v] w fun e w' => ∃ u, e = .returned u ∧ Il w.heap.size w'.heap.size w' xs u ∧ Below w.heap.size w w' ∧ (∀ g o, w.heap.size ≤ g → w'.frozen? ⟨g, o, none⟩ = false) := by
  obtain ⟨a, cap, rfl, hq⟩ := h
  have HR := hid_mk hq
  clear hq
  obtain ⟨i0, hi0, hz0, hz1, hz2⟩ := info_parts info_int
  have hmk : ∀ W : World, (Instr.makeSlice 22 (.int .i64 (xs.length : Int)) (.int .i64 (xs.length : Int))).run Tryd.prog W = .ok (.slice (some ⟨W.heap.size, 0, none⟩) xs.length xs.length) (W.alloc (.cells (madeCells #[.int .i64 0] xs.length) 3)) := by
    intro W
    have := run_make (P := Tryd.prog) W 22 3 i0 _ Tryd.underlying22 hi0 hz0 .i64 .i64 (xs.length : Int) (xs.length : Int) (by omega) (by omega) (by rw [hz2]; omega) (by omega)
    rw [hz1] at this
    simpa [Value.cells] using this
  clear hi0 hz0 hz1 hz2
  go_enter Tryd.func25, Tryd.ntmps25
  go_wp2
  have HF0 : Hid (FillI xs w 0 (w.alloc (.cells (madeCells #[.int .i64 0] xs.length) 3))) := FillI.start xs w
  go_loopw [4] (fun i wr => ∃ j : Nat, j ≤ xs.length ∧ i = .int .i64 j ∧ FillI xs w j wr) (fun i _ => xs.length - (intOf i).toNat)
  case atStart => exact ⟨0, by omega, rfl, HF0.out⟩
  case round =>
    obtain ⟨j, hj, rfl, hfl⟩ := hrel
    clear HF0 hmk
    by_cases hlt : j < xs.length
    · rcases HR.out with h0 | ⟨g, off, rfl, h1, h2, h3⟩
      · omega
      have e0 := h3 j hlt
      have hb := hfl.below
      rw [← hb.cell (p := ⟨g, _, none⟩) (by show g < w.heap.size; omega)] at e0
      obtain ⟨x0, t0⟩ := hfl.there j hlt
      have hwm := hfl.warm j
      have HST := hid_mk (hfl.step hlt)
      clear h3 hfl
      generalize xs[j] = tk at *
      have hji : (j : Int) < (xs.length : Int) := by omega
      go_wp2
      exact ⟨⟨j + 1, by omega, by go_num, HST.out⟩, by simp [intOf]; omega⟩
    · go_wp2
      go_ret
      obtain rfl : j = xs.length := by omega
      refine ⟨_, rfl, hfl.done _, hfl.below, fun g o hg => ?_⟩
      by_cases e : g = w.heap.size
      · subst e; exact hfl.warm o
      · have : wr.heap[g]? = none := Array.getElem?_eq_none (by have := hfl.size; omega)
        simp [World.frozen?, this]
end Go.Proofs.YtjgbjahcnnjfpaaDoor
