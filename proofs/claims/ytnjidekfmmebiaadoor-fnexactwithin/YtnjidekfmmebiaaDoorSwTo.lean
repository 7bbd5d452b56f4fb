/- The laws' copy of a list of what was seen. -/
import Derived.Test.YtnjidekfmmebiaaDoorSwRow
import Derived.Test.YtnjidekfmmebiaaDoorSeTo2
set_option linter.unusedVariables false
namespace Go.Proofs.YtnjidekfmmebiaaDoor
open Go.RowKit

/-- Five cells behind one another, stored. -/
theorem store5 (W : World) (g o : Nat) (a b c d e : Value) (hx : ∀ k, k < 5 → ∃ y, W.cell? ⟨g, o + k, none⟩ = some y) :
    let V := ((((W.setCell ⟨g, o, none⟩ a).setCell ⟨g, o + 1, none⟩ b).setCell ⟨g, o + 2, none⟩ c).setCell ⟨g, o + 3, none⟩ d).setCell ⟨g, o + 4, none⟩ e
    Five V g o a b c d e ∧ (∀ k, (k < o ∨ o + 5 ≤ k) → V.cell? ⟨g, k, none⟩ = W.cell? ⟨g, k, none⟩) ∧ (∀ k, k ≠ g → V.heap[k]? = W.heap[k]?) ∧ V.heap.size = W.heap.size ∧ (∀ p, V.frozen? p = W.frozen? p) := by
  intro V
  obtain ⟨y0, s0⟩ := hx 0 (by omega)
  obtain ⟨y1, s1⟩ := hx 1 (by omega)
  obtain ⟨y2, s2⟩ := hx 2 (by omega)
  obtain ⟨y3, s3⟩ := hx 3 (by omega)
  obtain ⟨y4, s4⟩ := hx 4 (by omega)
  have h0 := cell_set s0 a
  have t1 : (W.setCell ⟨g, o, none⟩ a).cell? ⟨g, o + 1, none⟩ = some y1 := by have := h0 g (o + 1); simp only [Nat.add_zero] at this; rw [this, if_neg (by omega)]; exact s1
  have h1 := cell_set t1 b
  have t2 : ((W.setCell ⟨g, o, none⟩ a).setCell ⟨g, o + 1, none⟩ b).cell? ⟨g, o + 2, none⟩ = some y2 := by have := h0 g (o + 2); simp only [Nat.add_zero] at this; rw [h1, if_neg (by omega), this, if_neg (by omega)]; exact s2
  have h2 := cell_set t2 c
  have t3 : (((W.setCell ⟨g, o, none⟩ a).setCell ⟨g, o + 1, none⟩ b).setCell ⟨g, o + 2, none⟩ c).cell? ⟨g, o + 3, none⟩ = some y3 := by have := h0 g (o + 3); simp only [Nat.add_zero] at this; rw [h2, if_neg (by omega), h1, if_neg (by omega), this, if_neg (by omega)]; exact s3
  have h3 := cell_set t3 d
  have t4 : ((((W.setCell ⟨g, o, none⟩ a).setCell ⟨g, o + 1, none⟩ b).setCell ⟨g, o + 2, none⟩ c).setCell ⟨g, o + 3, none⟩ d).cell? ⟨g, o + 4, none⟩ = some y4 := by have := h0 g (o + 4); simp only [Nat.add_zero] at this; rw [h3, if_neg (by omega), h2, if_neg (by omega), h1, if_neg (by omega), this, if_neg (by omega)]; exact s4
  have h4 := cell_set t4 e
  have hV : ∀ k, V.cell? ⟨g, k, none⟩ = if k = o + 4 then some e else if k = o + 3 then some d else if k = o + 2 then some c else if k = o + 1 then some b else if k = o then some a else W.cell? ⟨g, k, none⟩ := by
    intro k
    have := h0 g k
    simp only [Nat.add_zero] at this
    show (((((W.setCell ⟨g, o, none⟩ a).setCell ⟨g, o + 1, none⟩ b).setCell ⟨g, o + 2, none⟩ c).setCell ⟨g, o + 3, none⟩ d).setCell ⟨g, o + 4, none⟩ e).cell? ⟨g, k, none⟩ = _
    rw [h4, h3, h2, h1, this]
    simp only [true_and]
  refine ⟨⟨?_, ?_, ?_, ?_, ?_⟩, fun k hk => ?_, fun k hk => ?_, by simp [V, World.setCell], fun p => by simp [V, go_sem]⟩
  · rw [hV, if_neg (by omega), if_neg (by omega), if_neg (by omega), if_neg (by omega), if_pos rfl]
  · rw [hV, if_neg (by omega), if_neg (by omega), if_neg (by omega), if_pos rfl]
  · rw [hV, if_neg (by omega), if_neg (by omega), if_pos rfl]
  · rw [hV, if_neg (by omega), if_pos rfl]
  · rw [hV, if_pos rfl]
  · rw [hV, if_neg (by omega), if_neg (by omega), if_neg (by omega), if_neg (by omega), if_neg (by omega)]
  · show (((((W.setCell ⟨g, o, none⟩ a).setCell ⟨g, o + 1, none⟩ b).setCell ⟨g, o + 2, none⟩ c).setCell ⟨g, o + 3, none⟩ d).setCell ⟨g, o + 4, none⟩ e).heap[k]? = _
    rw [Below.heap_setCell _ _ _ _ hk, Below.heap_setCell _ _ _ _ hk, Below.heap_setCell _ _ _ _ hk, Below.heap_setCell _ _ _ _ hk, Below.heap_setCell _ _ _ _ hk]

/-- The row that is being filled: j of its elements stand. -/
structure FillS (ss : List Sn) (w : World) (j : Nat) (wr : World) : Prop where
  wm : Warm w.heap.size wr
  below : Below w.heap.size w wr
  lt : w.heap.size < wr.heap.size
  warm : ∀ o, wr.frozen? ⟨w.heap.size, o, none⟩ = false
  there : ∀ o, o < ss.length * 5 → ∃ x, wr.cell? ⟨w.heap.size, o, none⟩ = some x
  elems : ∀ i (h : i < ss.length), i < j → ∃ x y, Five wr w.heap.size (i * 5) (.int .i64 (ss[i]).k) (.int .i64 (ss[i]).c) (.int .i64 (ss[i]).v) x y ∧ At (w.heap.size + 1) wr.heap.size wr ss[i] x y
theorem FillS.start (ss : List Sn) (w : World) : FillS ss w 0 (w.alloc (.cells (madeCells #[.int .i64 0, .int .i64 0, .int .i64 0, .slice none 0 0, .slice none 0 0] (ss.length * 5)) 48)) := by
  refine ⟨(Warm.start w).alloc _ _, (Below.refl _ _).alloc (Nat.le_refl _) _, by simp, fun o => frozen_of_row _ _ _ _ _ (heap_alloc_new w _), fun o ho => ?_, fun i _ hi => absurd hi (Nat.not_lt_zero _)⟩
  refine ⟨(madeCells #[.int .i64 0, .int .i64 0, .int .i64 0, .slice none 0 0, .slice none 0 0] (ss.length * 5))[o]'(by rw [size_madeCells]; exact ho), ?_⟩
  rw [cell_of_row _ _ _ _ _ (0, 0) (heap_alloc_new w _)]
  simp [size_madeCells, ho]
theorem FillS.step {ss : List Sn} {w wr w1 : World} {j : Nat} {u v : Value} (h : FillS ss w j wr) (hlt : j < ss.length) (hb1 : Below wr.heap.size wr w1) (hat : At wr.heap.size w1.heap.size w1 ss[j] u v) (hwm : Warm wr.heap.size w1) :
    FillS ss w (j + 1) (((((w1.setCell ⟨w.heap.size, j * 5, none⟩ (.int .i64 (ss[j]).k)).setCell ⟨w.heap.size, j * 5 + 1, none⟩ (.int .i64 (ss[j]).c)).setCell ⟨w.heap.size, j * 5 + 2, none⟩ (.int .i64 (ss[j]).v)).setCell ⟨w.heap.size, j * 5 + 3, none⟩ u).setCell ⟨w.heap.size, j * 5 + 4, none⟩ v) := by
  have hl := h.lt
  have hz := hb1.size
  have hc : ∀ o, w1.cell? ⟨w.heap.size, o, none⟩ = wr.cell? ⟨w.heap.size, o, none⟩ := fun o => hb1.cell (p := ⟨_, o, none⟩) hl
  obtain ⟨p5, pk, po, ps, pf⟩ := store5 w1 w.heap.size (j * 5) (.int .i64 (ss[j]).k) (.int .i64 (ss[j]).c) (.int .i64 (ss[j]).v) u v (fun k hk => by rw [hc]; exact h.there _ (by omega))
  have hbV := (((((h.below.trans (hb1.mono (by omega))).setCell (p := ⟨w.heap.size, j * 5, none⟩) (Nat.le_refl _) (.int .i64 (ss[j]).k)).setCell (p := ⟨w.heap.size, j * 5 + 1, none⟩) (Nat.le_refl _) (.int .i64 (ss[j]).c)).setCell (p := ⟨w.heap.size, j * 5 + 2, none⟩) (Nat.le_refl _) (.int .i64 (ss[j]).v)).setCell (p := ⟨w.heap.size, j * 5 + 3, none⟩) (Nat.le_refl _) u).setCell (p := ⟨w.heap.size, j * 5 + 4, none⟩) (Nat.le_refl _) v
  revert p5 pk po ps pf hbV
  generalize (((((w1.setCell ⟨w.heap.size, j * 5, none⟩ (.int .i64 (ss[j]).k)).setCell ⟨w.heap.size, j * 5 + 1, none⟩ (.int .i64 (ss[j]).c)).setCell ⟨w.heap.size, j * 5 + 2, none⟩ (.int .i64 (ss[j]).v)).setCell ⟨w.heap.size, j * 5 + 3, none⟩ u).setCell ⟨w.heap.size, j * 5 + 4, none⟩ v) = V
  intro p5 pk po ps pf hbV
  have keepV : ∀ g o, w.heap.size < g → V.cell? ⟨g, o, none⟩ = w1.cell? ⟨g, o, none⟩ := fun g o hg => World.cell?_of_block (a := ⟨g, o, none⟩) (po g (by omega))
  refine ⟨fun g o hg => by rw [pf]; exact (h.wm.later hb1 hwm) g o hg, hbV, by omega, fun o => by rw [pf]; exact (hb1.frozen (p := ⟨_, o, none⟩) hl).trans (h.warm o), fun o ho => ?_, fun i hi hij => ?_⟩
  · by_cases hin : o < j * 5 ∨ j * 5 + 5 ≤ o
    · rw [pk o hin, hc]; exact h.there o ho
    · obtain ⟨q0, q1, q2, q3, q4⟩ := p5
      have : o = j * 5 ∨ o = j * 5 + 1 ∨ o = j * 5 + 2 ∨ o = j * 5 + 3 ∨ o = j * 5 + 4 := by omega
      rcases this with rfl | rfl | rfl | rfl | rfl
      · exact ⟨_, q0⟩
      · exact ⟨_, q1⟩
      · exact ⟨_, q2⟩
      · exact ⟨_, q3⟩
      · exact ⟨_, q4⟩
  · by_cases e : i = j
    · subst e
      exact ⟨u, v, p5, hat.keep (by omega) (by omega) (fun g o h1 h2 => keepV g o (by omega))⟩
    · obtain ⟨x, y, hf, ha⟩ := h.elems i hi (by omega)
      refine ⟨x, y, ?_, (ha.below hb1 (Nat.le_refl _)).keep (Nat.le_refl _) (by omega) (fun g o h1 h2 => keepV g o (by omega))⟩
      obtain ⟨q0, q1, q2, q3, q4⟩ := hf
      exact ⟨by rw [pk _ (by omega), hc]; exact q0, by rw [pk _ (by omega), hc]; exact q1, by rw [pk _ (by omega), hc]; exact q2, by rw [pk _ (by omega), hc]; exact q3, by rw [pk _ (by omega), hc]; exact q4⟩
theorem FillS.done {ss : List Sn} {w wr : World} (h : FillS ss w ss.length wr) (cap : Nat) : Rw w.heap.size wr.heap.size wr ss (.slice (some ⟨w.heap.size, 0, none⟩) ss.length cap) :=
  ⟨_, cap, rfl, .inr ⟨w.heap.size, 0, rfl, Nat.le_refl _, h.lt, fun i hi => by
    obtain ⟨x, y, hf, ha⟩ := h.elems i hi hi
    rw [Nat.zero_add]
    exact ⟨x, y, hf, ha.wide (by omega) (Nat.le_refl _)⟩⟩⟩
theorem info_seen : (Tryd.prog.info? 48).map (fun i => (i.zero, i.size, i.bytes)) = some (some (.agg #[.int .i64 0, .int .i64 0, .int .i64 0, .slice none 0 0, .slice none 0 0]), 5, 72) := by kernel_rfl

set_option maxHeartbeats 4000000 in
theorem to_seensW (ss : List Sn) (v : Value) (hi : Nat) (w : World) (hc : costS ss ≤ 1048576) (hhi : hi ≤ w.heap.size) (h : Rw 0 hi w ss v) :
    Calls Tryd.prog 7 #[v] w fun e w' => ∃ u, e = .returned u ∧ Rw w.heap.size w'.heap.size w' ss u ∧ Below w.heap.size w w' ∧ Warm w.heap.size w' := by
  obtain ⟨a, cap, rfl, hq⟩ := h
  have hl20 : ss.length ≤ 1048576 := Nat.le_trans (len_cost ss) hc
  have HQ := hid_mk hq
  have HC := hid_mk (fun i (hi : i < ss.length) => Nat.le_trans (cost_at ss i hi) hc)
  clear hq hc
  obtain ⟨i0, hi0, hz0, hz1, hz2⟩ := info_parts info_seen
  have hmk : ∀ W : World, (Instr.makeSlice 26 (.int .i64 (ss.length : Int)) (.int .i64 (ss.length : Int))).run Tryd.prog W = .ok (.slice (some ⟨W.heap.size, 0, none⟩) ss.length ss.length) (W.alloc (.cells (madeCells #[.int .i64 0, .int .i64 0, .int .i64 0, .slice none 0 0, .slice none 0 0] (ss.length * 5)) 48)) := by
    intro W
    have := run_make (P := Tryd.prog) W 26 48 i0 _ Tryd.underlying26 hi0 hz0 .i64 .i64 (ss.length : Int) (ss.length : Int) (by omega) (by omega) (by rw [hz2]; omega) (by omega)
    rw [hz1] at this
    simpa [Value.cells] using this
  clear hi0 hz0 hz1 hz2
  go_enter Tryd.func7, Tryd.ntmps7
  go_wp2
  have HF0 := hid_mk (FillS.start ss w)
  go_loopw [4] (fun i wr => ∃ j : Nat, j ≤ ss.length ∧ i = .int .i64 j ∧ FillS ss w j wr) (fun i _ => ss.length - (intOf i).toNat)
  case atStart => exact ⟨0, by omega, rfl, HF0.out⟩
  case round =>
    obtain ⟨j, hj, rfl, hfl⟩ := hrel
    clear HF0 hmk
    by_cases hlt : j < ss.length
    · rcases HQ.out with h0 | ⟨g, off, rfl, _, hg, h3⟩
      · omega
      obtain ⟨x, y, hf, hat⟩ := h3 j hlt
      have hb := hfl.below
      have hlw := hfl.lt
      obtain ⟨f0, f1, f2, f3, f4⟩ := hf.keep hb (by omega)
      obtain ⟨xa, xc, rfl⟩ := hat.1.shape
      obtain ⟨ya, yc, rfl⟩ := hat.2.shape
      have C := hid_mk (to_seenW ss[j] _ _ 0 hi wr (HC.out j hlt) (by have := hb.size; omega) (hat.below hb hhi))
      obtain ⟨x0, t0⟩ := hfl.there (j * 5) (by omega)
      obtain ⟨x1, t1⟩ := hfl.there (j * 5 + 1) (by omega)
      obtain ⟨x2, t2⟩ := hfl.there (j * 5 + 2) (by omega)
      obtain ⟨x3, t3⟩ := hfl.there (j * 5 + 3) (by omega)
      obtain ⟨x4, t4⟩ := hfl.there (j * 5 + 4) (by omega)
      have hwm := hfl.warm
      have HFL := hid_mk hfl
      have HST := hid_mk (fun w1 u v => hfl.step (w1 := w1) (u := u) (v := v) hlt)
      clear h3 hf hat hfl
      unfold Sn.val at C
      have hji : (j : Int) < (ss.length : Int) := by omega
      generalize ss[j] = s at *
      go_wp2_with fail
      refine C.out.mono ?_
      rintro e w1 ⟨u1, v1, rfl, hr1, hb1, hw1⟩
      obtain ⟨a1, c1, e1⟩ := hr1.1.shape
      obtain ⟨a2, c2, e2⟩ := hr1.2.shape
      subst e1 e2
      obtain ⟨hc1, hf1⟩ := bcellT hb1
      rw [← hc1 _ _ hlw] at t0 t1 t2 t3 t4
      have hwm1 := fun o => (hf1 _ o hlw).trans (hwm o)
      have HN := hid_mk (HST.out w1 _ _ hb1 hr1 hw1)
      clear hc1 hf1 hwm hr1 hb1 hw1 C f0 f1 f2 f3 f4 HST
      go_wp2
      exact ⟨⟨j + 1, by omega, by go_num, HN.out⟩, by simp [intOf]; omega⟩
    · go_wp2
      go_ret
      obtain rfl : j = ss.length := by omega
      exact ⟨_, rfl, hfl.done _, hfl.below, hfl.wm⟩
theorem to_seens (ss : List Sn) (v : Value) (hi : Nat) (w : World) (hc : costS ss ≤ 1048576) (hhi : hi ≤ w.heap.size) (h : Rw 0 hi w ss v) :
    Calls Tryd.prog 7 #[v] w fun e w' => ∃ u, e = .returned u ∧ Rw w.heap.size w'.heap.size w' ss u ∧ Below w.heap.size w w' :=
  (to_seensW ss v hi w hc hhi h).mono fun e w' ⟨u, h1, h2, h3, _⟩ => ⟨u, h1, h2, h3⟩
end Go.Proofs.YtnjidekfmmebiaaDoor
