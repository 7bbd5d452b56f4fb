/- The laws' marks in lists of numbers and of what was seen: numbers are written over, slices are not. -/
import Derived.Test.YtnjidekfmmebiaaDoorSwTo
import Derived.RegionTactic
import Derived.BigRegion
import Derived.Deep.RegionWith
set_option linter.unusedVariables false
namespace Go.Proofs.YtnjidekfmmebiaaDoor
open Go.RowKit

theorem lt_of_cell {w : World} {g o : Nat} {v : Value} (h : w.cell? ⟨g, o, none⟩ = some v) : g < w.heap.size := by
  rcases Nat.lt_or_ge g w.heap.size with h1 | h1
  · exact h1
  · simp [World.cell?, Array.getElem?_eq_none h1] at h

/-- What marking turns: nothing but numbers of the blocks from lo on, ahead of hi. -/
structure Mw (lo hi : Nat) (w w' : World) : Prop where
  os : w'.os = w.os
  tape : w'.tape = w.tape
  output : w'.output = w.output
  size : w.heap.size ≤ w'.heap.size
  out : ∀ k, k < w.heap.size → (k < lo ∨ hi ≤ k) → w'.heap[k]? = w.heap[k]?
  ints : ∀ g o x, w.cell? ⟨g, o, none⟩ = some (.int .i64 x) → ∃ y, w'.cell? ⟨g, o, none⟩ = some (.int .i64 y)
  slcs : ∀ g o a n c, w.cell? ⟨g, o, none⟩ = some (.slice a n c) → w'.cell? ⟨g, o, none⟩ = some (.slice a n c)
  warm : ∀ g o, g < w.heap.size → w'.frozen? ⟨g, o, none⟩ = w.frozen? ⟨g, o, none⟩
theorem Mw.refl (lo hi : Nat) (w : World) : Mw lo hi w w := ⟨rfl, rfl, rfl, Nat.le_refl _, fun _ _ _ => rfl, fun _ _ x h => ⟨x, h⟩, fun _ _ _ _ _ h => h, fun _ _ _ => rfl⟩
theorem Mw.trans {lo hi : Nat} {a b c : World} (h : Mw lo hi a b) (k : Mw lo hi b c) : Mw lo hi a c :=
  ⟨k.os.trans h.os, k.tape.trans h.tape, k.output.trans h.output, Nat.le_trans h.size k.size, fun i hi ho => (k.out i (Nat.lt_of_lt_of_le hi h.size) ho).trans (h.out i hi ho),
    fun g o x e => by obtain ⟨y, hy⟩ := h.ints g o x e; exact k.ints g o y hy,
    fun g o x n q e => k.slcs g o x n q (h.slcs g o x n q e), fun g o hg => (k.warm g o (Nat.lt_of_lt_of_le hg h.size)).trans (h.warm g o hg)⟩
theorem Mw.of_below {lo hi : Nat} {w w' : World} (h : Below w.heap.size w w') : Mw lo hi w w' :=
  ⟨h.os, h.tape, h.output, h.size, fun k hk _ => h.block k hk, fun g o x e => ⟨x, (h.cell (p := ⟨g, o, none⟩) (lt_of_cell e)).trans e⟩,
    fun g o a n c e => (h.cell (p := ⟨g, o, none⟩) (lt_of_cell e)).trans e, fun g o hg => h.frozen (p := ⟨g, o, none⟩) hg⟩
theorem Mw.setInt {lo hi : Nat} {w : World} {g o : Nat} {x : Int} (hx : w.cell? ⟨g, o, none⟩ = some (.int .i64 x)) (hl : lo ≤ g) (hh : g < hi) (y : Int) : Mw lo hi w (w.setCell ⟨g, o, none⟩ (.int .i64 y)) := by
  have hc := cell_set hx (.int .i64 y)
  refine ⟨rfl, rfl, rfl, by simp [World.setCell], fun k hk ho => Below.heap_setCell _ _ _ _ (by show k ≠ g; omega), fun g' o' x' e => ?_, fun g' o' a n c e => ?_, fun g' o' _ => by simp [go_sem]⟩
  · rw [hc]; split
    · exact ⟨y, rfl⟩
    · exact ⟨x', e⟩
  · rw [hc]; split
    · rename_i h; obtain ⟨rfl, rfl⟩ := h; rw [hx] at e; cases e
    · exact e
theorem Mw.below {lo hi : Nat} {w w' : World} (h : Mw lo hi w w') {B : Nat} (hB : B ≤ lo) (hlo : lo ≤ w.heap.size) : Below B w w' := ⟨h.os, h.tape, h.output, h.size, fun k hk => h.out k (by omega) (.inl (by omega))⟩

/-- A list of numbers, whatever they are. -/
def SkI (lo hi : Nat) (w : World) (n : Nat) (v : Value) : Prop := ∃ a cap, v = .slice a n cap ∧ (n = 0 ∨ ∃ g off, a = some ⟨g, off, none⟩ ∧ lo ≤ g ∧ g < hi ∧ ∀ i, i < n → ∃ x, w.cell? ⟨g, off + i, none⟩ = some (.int .i64 x))
theorem SkI.of {lo hi : Nat} {w : World} {xs : List Int} {v : Value} (h : Il lo hi w xs v) : SkI lo hi w xs.length v := by
  obtain ⟨a, cap, rfl, h⟩ := h
  refine ⟨a, cap, rfl, ?_⟩
  rcases h with h | ⟨g, off, ha, h1, h2, h3⟩
  · exact .inl h
  · exact .inr ⟨g, off, ha, h1, h2, fun i hi => ⟨_, h3 i hi⟩⟩
theorem Mw.ski {lo hi n : Nat} {w w' : World} {v : Value} (h : Mw lo hi w w') (k : SkI lo hi w n v) : SkI lo hi w' n v := by
  obtain ⟨a, cap, rfl, k⟩ := k
  refine ⟨a, cap, rfl, ?_⟩
  rcases k with k | ⟨g, off, ha, h1, h2, h3⟩
  · exact .inl k
  · refine .inr ⟨g, off, ha, h1, h2, fun i hi => ?_⟩
    obtain ⟨x, hx⟩ := h3 i hi
    exact h.ints _ _ _ hx
/-- A list of numbers that is marked from 1 on. -/
def HeldI (lo hi : Nat) (w : World) (n : Nat) (v : Value) : Prop := ∃ a cap, v = .slice a n cap ∧ (n = 0 ∨ ∃ g off, a = some ⟨g, off, none⟩ ∧ lo ≤ g ∧ g < hi ∧ ∀ i, i < n → w.cell? ⟨g, off + i, none⟩ = some (.int .i64 ((i : Int) + 1)))
theorem HeldI.below {lo hi n : Nat} {w w' : World} {B : Nat} {v : Value} (h : HeldI lo hi w n v) (hb : Below B w w') (hB : hi ≤ B) : HeldI lo hi w' n v := by
  obtain ⟨a, cap, rfl, h⟩ := h
  refine ⟨a, cap, rfl, ?_⟩
  rcases h with h | ⟨g, off, ha, h1, h2, h3⟩
  · exact .inl h
  · exact .inr ⟨g, off, ha, h1, h2, fun i hi => (hb.cell (p := ⟨g, off + i, none⟩) (by show g < B; omega)).trans (h3 i hi)⟩

set_option maxHeartbeats 4000000 in
theorem mark_ints (n k : Nat) (v : Value) (lo hi : Nat) (w : World) (hhi : hi ≤ w.heap.size) (h : SkI lo hi w n v) (hw : ∀ g o, lo ≤ g → g < hi → w.frozen? ⟨g, o, none⟩ = false) (hkn : k + n ≤ 1099511627776) :
    Calls Tryd.prog 17 #[v, .int .i64 (k : Int)] w fun e w' => e = .returned (.int .i64 ((k + n : Nat) : Int)) ∧ Mw lo hi w w' ∧ (k = 1 → HeldI lo hi w' n v) := by
  obtain ⟨a, cap, rfl, hq⟩ := h
  have HQ := hid_mk hq
  have HW := hid_mk hw
  clear hq hw
  go_enter Tryd.func17, Tryd.ntmps17
  go_wp2
  go_loopw [1, 5] (fun kv i wr => ∃ j : Nat, j ≤ n ∧ kv = .int .i64 ((k + j : Nat) : Int) ∧ i = .int .i64 j ∧ Mw lo hi w wr ∧ Hid (∀ g off, a = some ⟨g, off, none⟩ → ∀ i, i < j → wr.cell? ⟨g, off + i, none⟩ = some (.int .i64 ((k + i : Nat) : Int)))) (fun _ i _ => n - (intOf i).toNat)
  case atStart => exact ⟨0, by omega, by simp, rfl, Mw.refl _ _ _, fun g off _ i hi => absurd hi (Nat.not_lt_zero _)⟩
  case round =>
    obtain ⟨j, hj, rfl, rfl, hm, hd⟩ := hrel
    by_cases hlt : j < n
    · rcases HQ.out with h0 | ⟨g, off, rfl, h1, h2, h3⟩
      · omega
      obtain ⟨x, hx⟩ := h3 j hlt
      obtain ⟨y, hy⟩ := hm.ints _ _ _ hx
      have hf := (hm.warm g (off + j) (by omega)).trans (HW.out g (off + j) h1 h2)
      have hji : (j : Int) < (n : Int) := by omega
      have HM := hid_mk (hm.trans (Mw.setInt hy h1 h2 ((k + j : Nat) : Int)))
      have HD : Hid (∀ g' off', some (⟨g, off, none⟩ : Addr) = some ⟨g', off', none⟩ → ∀ i, i < j + 1 → (wr.setCell ⟨g, off + j, none⟩ (.int .i64 ((k + j : Nat) : Int))).cell? ⟨g', off' + i, none⟩ = some (.int .i64 ((k + i : Nat) : Int))) := by
        intro g' off' e i hi
        cases e
        rw [cell_set hy]
        by_cases e : i = j
        · subst e; rw [if_pos ⟨rfl, rfl⟩]
        · rw [if_neg (by omega)]; exact hd.out g off rfl i (by omega)
      clear h3 hx hm hd
      have hci : ((k + j : Nat) : Int) = (k : Int) + (j : Int) := by omega
      go_wp2
      exact ⟨⟨j + 1, by omega, by go_num, by go_num, HM.out, HD.out⟩, by simp [intOf]; omega⟩
    · obtain rfl : j = n := by omega
      go_wp2
      go_ret
      refine ⟨rfl, hm, fun hk1 => ⟨a, cap, rfl, ?_⟩⟩
      rcases HQ.out with h0 | ⟨g, off, rfl, h1, h2, h3⟩
      · exact .inl h0
      · refine .inr ⟨g, off, rfl, h1, h2, fun i hi => ?_⟩
        rw [hd.out g off rfl i hi, hk1]
        congr 2
        omega

set_option maxHeartbeats 4000000 in
theorem held_ints (n : Nat) (v : Value) (lo hi : Nat) (w : World) (hhi : hi ≤ w.heap.size) (hn : n ≤ 1000000000) (h : HeldI lo hi w n v) :
    Calls Tryd.prog 18 #[v, .int .i64 1] w fun e w' => e = .returned (.int .i64 ((1 + n : Nat) : Int)) ∧ Below w.heap.size w w' := by
  obtain ⟨a, cap, rfl, hq⟩ := h
  have HQ := hid_mk hq
  clear hq
  go_enter Tryd.func18, Tryd.ntmps18
  go_wp2
  go_loopw [1, 5] (fun kv i wr => ∃ j : Nat, j ≤ n ∧ kv = .int .i64 ((j : Int) + 1) ∧ i = .int .i64 j ∧ Below w.heap.size w wr) (fun _ i _ => n - (intOf i).toNat)
  case atStart => exact ⟨0, by omega, rfl, rfl, Below.refl _ _⟩
  case round =>
    obtain ⟨j, hj, rfl, rfl, hb⟩ := hrel
    by_cases hlt : j < n
    · rcases HQ.out with h0 | ⟨g, off, rfl, h1, h2, h3⟩
      · omega
      have k0 := (hb.cell (p := ⟨g, off + j, none⟩) (by show g < w.heap.size; omega)).trans (h3 j hlt)
      have hji : (j : Int) < (n : Int) := by omega
      have hbb : ((j : Int) + 1 != (j : Int) + 1) = false := by simp
      have HBD := hid_mk hb.drew
      clear h3
      go_wp2
      all_goals exact ⟨⟨j + 1, by omega, by go_num, by go_num, by first | exact hb | exact HBD.out⟩, by simp [intOf]; omega⟩
    · obtain rfl : j = n := by omega
      have HE : Hid ((j : Int) + 1 = ((1 + j : Nat) : Int)) := by unfold Hid; omega
      go_wp2
      go_ret
      exact ⟨by rw [← HE.out]; rfl, hb⟩
end Go.Proofs.YtnjidekfmmebiaaDoor
