/- The laws' copy of what was seen. -/
import Derived.Test.YtjgbjahcnnjfpaaDoorSeTo
set_option linter.unusedVariables false
namespace Go.Proofs.YtjgbjahcnnjfpaaDoor
open Go.RowKit

theorem bcellT {W w1 : World} (hb : Below W.heap.size W w1) : (∀ b o, b < W.heap.size → w1.cell? ⟨b, o, none⟩ = W.cell? ⟨b, o, none⟩) ∧ (∀ b o, b < W.heap.size → w1.frozen? ⟨b, o, none⟩ = W.frozen? ⟨b, o, none⟩) :=
  ⟨fun b o h => hb.cell (p := ⟨b, o, none⟩) h, fun b o h => hb.frozen (p := ⟨b, o, none⟩) h⟩

/-- From this block on nothing is frozen. -/
def Warm (lo : Nat) (w : World) : Prop := ∀ g o, lo ≤ g → w.frozen? ⟨g, o, none⟩ = false
theorem Warm.start (w : World) : Warm w.heap.size w := fun g o h => by simp [World.frozen?, Array.getElem?_eq_none h]
theorem Warm.mono {lo hi : Nat} {w : World} (h : Warm lo w) (hl : lo ≤ hi) : Warm hi w := fun g o hg => h g o (Nat.le_trans hl hg)
theorem Warm.alloc {lo : Nat} {w : World} (h : Warm lo w) (cs : Array Value) (t : TypeId) : Warm lo (w.alloc (.cells cs t)) := by
  intro g o hg
  by_cases e : g = w.heap.size
  · subst e; exact frozen_of_row _ _ _ _ _ (heap_alloc_new w _)
  · rw [World.frozen?_alloc_old _ _ ⟨g, o, none⟩ e]; exact h g o hg
theorem Warm.setCell {lo : Nat} {w : World} (h : Warm lo w) (p : Addr) (v : Value) : Warm lo (w.setCell p v) := fun g o hg => by simpa [go_sem] using h g o hg
theorem Warm.later {lo : Nat} {w w1 : World} (h : Warm lo w) (hb : Below w.heap.size w w1) (h1 : Warm w.heap.size w1) : Warm lo w1 := by
  intro g o hg
  by_cases e : g < w.heap.size
  · rw [hb.frozen (p := ⟨g, o, none⟩) e]; exact h g o hg
  · exact h1 g o (by omega)

/-- The three blocks of a copy: what came in, what is handed back, what is made. -/
structure Three (w W : World) (x0 x1 x2 x3 x4 y0 y1 y2 y3 y4 z0 z1 z2 z3 z4 : Value) : Prop where
  below : Below w.heap.size w W
  size : w.heap.size + 3 ≤ W.heap.size
  x : Five W w.heap.size 0 x0 x1 x2 x3 x4
  y : Five W (w.heap.size + 1) 0 y0 y1 y2 y3 y4
  z : Five W (w.heap.size + 1 + 1) 0 z0 z1 z2 z3 z4
  fy : ∀ o, W.frozen? ⟨w.heap.size + 1, o, none⟩ = false
  fz : ∀ o, W.frozen? ⟨w.heap.size + 1 + 1, o, none⟩ = false
  wm : Warm w.heap.size W
theorem Three.start (w : World) (x0 x1 x2 x3 x4 y0 y1 y2 y3 y4 z0 z1 z2 z3 z4 : Value) (t0 t1 t2 : TypeId) :
    Three w (((w.alloc (.cells #[x0, x1, x2, x3, x4] t0)).alloc (.cells #[y0, y1, y2, y3, y4] t1)).alloc (.cells #[z0, z1, z2, z3, z4] t2)) x0 x1 x2 x3 x4 y0 y1 y2 y3 y4 z0 z1 z2 z3 z4 := by
  refine ⟨(((Below.refl _ _).alloc (Nat.le_refl _) _).alloc (by simp) _).alloc (by simp; omega) _, by simp, ?_, ?_, ?_, fun o => by simp [go_sem], fun o => by simp [go_sem], (((Warm.start w).alloc _ _).alloc _ _).alloc _ _⟩
  · unfold Five; simp [go_sem]
  · unfold Five; simp [go_sem]
  · unfold Five; simp [go_sem]
theorem Three.call {w W W' : World} {x0 x1 x2 x3 x4 y0 y1 y2 y3 y4 z0 z1 z2 z3 z4 : Value} (h : Three w W x0 x1 x2 x3 x4 y0 y1 y2 y3 y4 z0 z1 z2 z3 z4) (hb : Below W.heap.size W W') (hw : Warm W.heap.size W') : Three w W' x0 x1 x2 x3 x4 y0 y1 y2 y3 y4 z0 z1 z2 z3 z4 := by
  have hs := h.size
  have hs' := hb.size
  exact ⟨h.below.trans (hb.mono (by omega)), by omega, h.x.keep hb (by omega), h.y.keep hb (by omega), h.z.keep hb (by omega),
    fun o => (hb.frozen (p := ⟨_, o, none⟩) (by show w.heap.size + 1 < _; omega)).trans (h.fy o), fun o => (hb.frozen (p := ⟨_, o, none⟩) (by show w.heap.size + 1 + 1 < _; omega)).trans (h.fz o), h.wm.later hb hw⟩
theorem cell_set {W : World} {g o : Nat} {y : Value} (hy : W.cell? ⟨g, o, none⟩ = some y) (x : Value) (g' o' : Nat) : (W.setCell ⟨g, o, none⟩ x).cell? ⟨g', o', none⟩ = if g' = g ∧ o' = o then some x else W.cell? ⟨g', o', none⟩ := by
  split
  · rename_i h; obtain ⟨rfl, rfl⟩ := h; exact World.cell?_setCell_same _ _ _ hy
  · rename_i h; exact World.cell?_setCell_other _ _ _ _ (fun e => h (by cases e; exact ⟨rfl, rfl⟩))
theorem Three.z3' {w W : World} {x0 x1 x2 x3 x4 y0 y1 y2 y3 y4 z0 z1 z2 z3 z4 : Value} (h : Three w W x0 x1 x2 x3 x4 y0 y1 y2 y3 y4 z0 z1 z2 z3 z4) (v : Value) : Three w (W.setCell ⟨w.heap.size + 1 + 1, 3, none⟩ v) x0 x1 x2 x3 x4 y0 y1 y2 y3 y4 z0 z1 z2 v z4 := by
  have hc := cell_set h.z.2.2.2.1 v
  simp only [Nat.zero_add] at hc
  obtain ⟨a0, a1, a2, a3, a4⟩ := h.x
  obtain ⟨b0, b1, b2, b3, b4⟩ := h.y
  obtain ⟨c0, c1, c2, c3, c4⟩ := h.z
  refine ⟨h.below.setCell (p := ⟨w.heap.size + 1 + 1, 3, none⟩) (by show w.heap.size ≤ w.heap.size + 1 + 1; omega) _, by simpa [World.setCell] using h.size, ⟨?_, ?_, ?_, ?_, ?_⟩, ⟨?_, ?_, ?_, ?_, ?_⟩, ⟨?_, ?_, ?_, ?_, ?_⟩, fun o => by simpa [go_sem] using h.fy o, fun o => by simpa [go_sem] using h.fz o, h.wm.setCell _ _⟩
  all_goals first | (rw [hc, if_neg (by omega)]; assumption) | (rw [hc, if_pos (by omega)])
theorem Three.z4' {w W : World} {x0 x1 x2 x3 x4 y0 y1 y2 y3 y4 z0 z1 z2 z3 z4 : Value} (h : Three w W x0 x1 x2 x3 x4 y0 y1 y2 y3 y4 z0 z1 z2 z3 z4) (v : Value) : Three w (W.setCell ⟨w.heap.size + 1 + 1, 4, none⟩ v) x0 x1 x2 x3 x4 y0 y1 y2 y3 y4 z0 z1 z2 z3 v := by
  have hc := cell_set h.z.2.2.2.2 v
  simp only [Nat.zero_add] at hc
  obtain ⟨a0, a1, a2, a3, a4⟩ := h.x
  obtain ⟨b0, b1, b2, b3, b4⟩ := h.y
  obtain ⟨c0, c1, c2, c3, c4⟩ := h.z
  refine ⟨h.below.setCell (p := ⟨w.heap.size + 1 + 1, 4, none⟩) (by show w.heap.size ≤ w.heap.size + 1 + 1; omega) _, by simpa [World.setCell] using h.size, ⟨?_, ?_, ?_, ?_, ?_⟩, ⟨?_, ?_, ?_, ?_, ?_⟩, ⟨?_, ?_, ?_, ?_, ?_⟩, fun o => by simpa [go_sem] using h.fy o, fun o => by simpa [go_sem] using h.fz o, h.wm.setCell _ _⟩
  all_goals first | (rw [hc, if_neg (by omega)]; assumption) | (rw [hc, if_pos (by omega)])

set_option maxHeartbeats 4000000 in
theorem to_seenW (s : Sn) (va vb : Value) (lo hi : Nat) (w : World) (hc : s.cost ≤ 1048576) (hhi : hi ≤ w.heap.size) (h : At lo hi w s va vb) :
    Calls Tryd.prog 9 #[s.val va vb] w fun e w' => ∃ ua ub, e = .returned (s.val ua ub) ∧ At w.heap.size w'.heap.size w' s ua ub ∧ Below w.heap.size w w' ∧ Warm w.heap.size w' := by
  unfold Sn.cost at hc
  obtain ⟨aa, ca, rfl⟩ := h.1.shape
  obtain ⟨ab, cb, rfl⟩ := h.2.shape
  have HA := hid_mk h.1
  have HB := hid_mk h.2
  clear h
  have T1 := hid_mk (fun W (hb : Below w.heap.size w W) => to_ints s.tr (.slice aa s.tr.length ca) lo hi W (by omega) (by have := hb.size; omega) (HA.out.below hb hhi))
  have T2 := hid_mk (fun W (hb : Below w.heap.size w W) => to_ints s.sc (.slice ab s.sc.length cb) lo hi W (by omega) (by have := hb.size; omega) (HB.out.below hb hhi))
  clear HA HB
  unfold Sn.val
  generalize s.k = sk
  generalize s.c = sc
  generalize s.v = sv
  go_enter Tryd.func9, Tryd.ntmps9
  have P0 := hid_mk (Three.start w (.int .i64 sk) (.int .i64 sc) (.int .i64 sv) (.slice aa s.tr.length ca) (.slice ab s.sc.length cb) (.int .i64 0) (.int .i64 0) (.int .i64 0) (.slice none 0 0) (.slice none 0 0) (.int .i64 sk) (.int .i64 sc) (.int .i64 sv) (.slice none 0 0) (.slice none 0 0) 24 27 27)
  go_wp2_with fail
  revert P0
  generalize (((w.alloc (Obj.cells #[Value.int .i64 sk, .int .i64 sc, .int .i64 sv, .slice aa s.tr.length ca, .slice ab s.sc.length cb] 24)).alloc _).alloc _) = W0
  intro P0
  refine (T1.out _ P0.out.below).mono ?_
  rintro e w1 ⟨u1, rfl, hi1, hb1, hf1⟩
  obtain ⟨a1, c1, rfl⟩ := hi1.shape
  have P1 := hid_mk (P0.out.call hb1 hf1)
  have hz0 := P0.out.size
  have hz1 := hb1.size
  have I1 := hid_mk hi1
  obtain ⟨x0, x1, x2, x3, x4⟩ := P1.out.x
  obtain ⟨z0, z1, z2, z3, z4⟩ := P1.out.z
  have fz := P1.out.fz
  clear hi1 hb1 hf1 P0 T1
  go_wp2_with fail
  have P2 := hid_mk (P1.out.z3' (.slice a1 s.tr.length c1))
  have I2 := hid_mk (I1.out.keep (w' := w1.setCell ⟨w.heap.size + 1 + 1, 3, none⟩ (.slice a1 s.tr.length c1)) (Nat.le_refl _) (Nat.le_refl _) (fun g o h1 h2 => World.cell?_of_block (a := ⟨g, o, none⟩) (Below.heap_setCell _ _ _ _ (by show g ≠ w.heap.size + 1 + 1; omega))))
  have hsz : (w1.setCell ⟨w.heap.size + 1 + 1, 3, none⟩ (.slice a1 s.tr.length c1)).heap.size = w1.heap.size := by simp [World.setCell]
  clear x0 x1 x2 x3 x4 z0 z1 z2 z3 z4 fz P1 I1
  revert P2 I2 hsz
  generalize w1.setCell ⟨w.heap.size + 1 + 1, 3, none⟩ (.slice a1 s.tr.length c1) = W1
  intro P2 I2 hsz
  refine (T2.out _ P2.out.below).mono ?_
  rintro e w2 ⟨u2, rfl, hi2, hb2, hf2⟩
  obtain ⟨a2, c2, rfl⟩ := hi2.shape
  have P3 := hid_mk (P2.out.call hb2 hf2)
  have hz2 := hb2.size
  have I3 := hid_mk (I2.out.below hb2 (by omega))
  have J3 := hid_mk hi2
  obtain ⟨x0, x1, x2, x3, x4⟩ := P3.out.x
  obtain ⟨y0, y1, y2, y3, y4⟩ := P3.out.y
  obtain ⟨z0, z1, z2, z3, z4⟩ := P3.out.z
  have fz := P3.out.fz
  have fy := P3.out.fy
  clear hi2 hb2 hf2 P2 I2 T2
  simp only [Nat.zero_add] at z1 z2 z3 z4 y1 y2 y3 y4
  go_wp2
  refine bodyPost_ret (v := .agg #[.int .i64 sk, .int .i64 sc, .int .i64 sv, .slice a1 s.tr.length c1, .slice a2 s.sc.length c2]) (by simp [results, Tryd.results9, go_sem, y0, y1, y2, y3, y4]) rfl ⟨_, _, rfl, ?_, ?_, (((((P3.out.wm.setCell _ _).setCell _ _).setCell _ _).setCell _ _).setCell _ _).setCell _ _⟩
  · have hk : ∀ g o, w.heap.size + 3 ≤ g → ∀ a b c d e f : Value, ((((((w2.setCell ⟨w.heap.size + 1 + 1, 4, none⟩ a).setCell ⟨w.heap.size + 1, 0, none⟩ b).setCell ⟨w.heap.size + 1, 1, none⟩ c).setCell ⟨w.heap.size + 1, 2, none⟩ d).setCell ⟨w.heap.size + 1, 3, none⟩ e).setCell ⟨w.heap.size + 1, 4, none⟩ f).cell? ⟨g, o, none⟩ = w2.cell? ⟨g, o, none⟩ := by
      intro g o hg a b c d e f
      refine World.cell?_of_block (a := ⟨g, o, none⟩) ?_
      rw [Below.heap_setCell _ _ _ _ (by show g ≠ w.heap.size + 1; omega), Below.heap_setCell _ _ _ _ (by show g ≠ w.heap.size + 1; omega), Below.heap_setCell _ _ _ _ (by show g ≠ w.heap.size + 1; omega), Below.heap_setCell _ _ _ _ (by show g ≠ w.heap.size + 1; omega), Below.heap_setCell _ _ _ _ (by show g ≠ w.heap.size + 1; omega), Below.heap_setCell _ _ _ _ (by show g ≠ w.heap.size + 1 + 1; omega)]
    exact ⟨I3.out.keep (by omega) (by simp [World.setCell]; omega) (fun g o h1 h2 => hk g o (by omega) _ _ _ _ _ _), J3.out.keep (by omega) (by simp [World.setCell]) (fun g o h1 h2 => hk g o (by omega) _ _ _ _ _ _)⟩
  · exact ((((((P3.out.below.setCell (p := ⟨w.heap.size + 1 + 1, 4, none⟩) (by show w.heap.size ≤ w.heap.size + 1 + 1; omega) _).setCell (p := ⟨w.heap.size + 1, 0, none⟩) (by show w.heap.size ≤ w.heap.size + 1; omega) _).setCell (p := ⟨w.heap.size + 1, 1, none⟩) (by show w.heap.size ≤ w.heap.size + 1; omega) _).setCell (p := ⟨w.heap.size + 1, 2, none⟩) (by show w.heap.size ≤ w.heap.size + 1; omega) _).setCell (p := ⟨w.heap.size + 1, 3, none⟩) (by show w.heap.size ≤ w.heap.size + 1; omega) _).setCell (p := ⟨w.heap.size + 1, 4, none⟩) (by show w.heap.size ≤ w.heap.size + 1; omega) _)
theorem to_seen (s : Sn) (va vb : Value) (lo hi : Nat) (w : World) (hc : s.cost ≤ 1048576) (hhi : hi ≤ w.heap.size) (h : At lo hi w s va vb) :
    Calls Tryd.prog 9 #[s.val va vb] w fun e w' => ∃ ua ub, e = .returned (s.val ua ub) ∧ At w.heap.size w'.heap.size w' s ua ub ∧ Below w.heap.size w w' :=
  (to_seenW s va vb lo hi w hc hhi h).mono fun e w' ⟨ua, ub, h1, h2, h3, _⟩ => ⟨ua, ub, h1, h2, h3⟩
end Go.Proofs.YtjgbjahcnnjfpaaDoor
