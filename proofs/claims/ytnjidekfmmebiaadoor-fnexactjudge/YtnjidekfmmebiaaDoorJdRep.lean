/- The laws' budget, copy and comparison of reports. -/
import Derived.Test.YtnjidekfmmebiaaDoorJdMark2
import Derived.Test.YtnjidekfmmebiaaDoorSwSz
import Derived.Test.YtnjidekfmmebiaaDoorSwEq
set_option linter.unusedVariables false
namespace Go.Proofs.YtnjidekfmmebiaaDoor
open Go.RowKit

/-- Three cells of a block hold these. -/
def Tri (W : World) (b : Nat) (x0 x1 x2 : Value) : Prop := W.cell? ⟨b, 0, none⟩ = some x0 ∧ W.cell? ⟨b, 1, none⟩ = some x1 ∧ W.cell? ⟨b, 2, none⟩ = some x2
theorem Tri.keep {B b : Nat} {A C : World} {x0 x1 x2 : Value} (h : Tri A b x0 x1 x2) (hb : Below B A C) (hB : b < B) : Tri C b x0 x1 x2 := by
  obtain ⟨h0, h1, h2⟩ := h
  exact ⟨(hb.cell (p := ⟨b, 0, none⟩) hB).trans h0, (hb.cell (p := ⟨b, 1, none⟩) hB).trans h1, (hb.cell (p := ⟨b, 2, none⟩) hB).trans h2⟩
theorem Tri.new (W : World) (x0 x1 x2 : Value) (t : TypeId) : Tri (W.alloc (.cells #[x0, x1, x2] t)) W.heap.size x0 x1 x2 := by
  unfold Tri; simp [go_sem]
theorem Tri.same {W W' : World} {b : Nat} {x0 x1 x2 : Value} (h : Tri W b x0 x1 x2) (hb : W'.heap[b]? = W.heap[b]?) : Tri W' b x0 x1 x2 := by
  obtain ⟨h0, h1, h2⟩ := h
  have hc : ∀ o, W'.cell? ⟨b, o, none⟩ = W.cell? ⟨b, o, none⟩ := fun o => World.cell?_of_block (a := ⟨b, o, none⟩) hb
  exact ⟨(hc 0).trans h0, (hc 1).trans h1, (hc 2).trans h2⟩

set_option maxHeartbeats 4000000 in
theorem sz_report (R : Rp) (v : Value) (hi l : Nat) (w : World) (hs : OkS R.ls) (hhi : hi ≤ w.heap.size) (h : Rw 0 hi w R.ls v) (hl : l ≤ 1048576) :
    Calls Tryd.prog 10 #[R.val v, .int .i64 l] w fun e w' => e = .returned (.int .i64 (left' (costS R.ls) l)) ∧ Below w.heap.size w w' := by
  have B0 := hid_mk (fun o : Obj => (Below.refl w.heap.size w).alloc (Nat.le_refl _) o)
  have C := hid_mk (fun o : Obj => sz_seens R.ls v hi l (w.alloc o) hs (by simp; omega) (h.below (B0.out o) hhi) hl)
  obtain ⟨a, c, rfl⟩ := h.shape
  clear h hs
  unfold Rp.val
  by_cases hc : costS R.ls ≤ l
  · have e : left' (costS R.ls) l = ((l - costS R.ls : Nat) : Int) := by unfold left'; rw [if_pos hc]
    rw [e] at C
    rw [e]
    clear e hc
    generalize l - costS R.ls = q at *
    go_enter Tryd.func10, Tryd.ntmps10
    go_wp2_with (go_at_call 5; refine (C.out _).mono ?_; rintro e w1 ⟨rfl, hb1⟩; have B1 := hid_mk ((B0.out _).trans (hb1.mono (by simp))); clear hb1)
    go_ret
    exact ⟨rfl, B1.out⟩
  · have e : left' (costS R.ls) l = -1 := by unfold left'; rw [if_neg hc]
    rw [e] at C
    rw [e]
    clear e hc
    go_enter Tryd.func10, Tryd.ntmps10
    go_wp2_with (go_at_call 5; refine (C.out _).mono ?_; rintro e w1 ⟨rfl, hb1⟩; have B1 := hid_mk ((B0.out _).trans (hb1.mono (by simp))); clear hb1)
    go_ret
    exact ⟨rfl, B1.out⟩

set_option maxHeartbeats 4000000 in
theorem eq_report (R : Rp) (u v : Value) (la ha lb hb : Nat) (w : World) (hc : costS R.ls ≤ 1048576) (hha : ha ≤ w.heap.size) (hhb : hb ≤ w.heap.size) (h : Rw la ha w R.ls u) (h' : Rw lb hb w R.ls v) :
    Calls Tryd.prog 15 #[R.val u, R.val v] w fun e w' => e = .returned (.bool true) ∧ Below w.heap.size w w' := by
  obtain ⟨ua, uc, rfl⟩ := h.shape
  obtain ⟨va, vc, rfl⟩ := h'.shape
  have B0 := hid_mk (fun o o' : Obj => ((Below.refl w.heap.size w).alloc (Nat.le_refl _) o).alloc (by simp) o')
  have C := hid_mk (fun W (hW : Below w.heap.size w W) => eq_seens R.ls _ _ la ha lb hb W hc (by have := hW.size; omega) (by have := hW.size; omega) (h.below hW hha) (h'.below hW hhb))
  clear h h' hc
  unfold Rp.val
  have X0 : Hid (∀ x0 x1 x2 y0 y1 y2 : Value, ∀ t t' : TypeId, Tri ((w.alloc (.cells #[x0, x1, x2] t)).alloc (.cells #[y0, y1, y2] t')) w.heap.size x0 x1 x2 ∧ Tri ((w.alloc (.cells #[x0, x1, x2] t)).alloc (.cells #[y0, y1, y2] t')) (w.heap.size + 1) y0 y1 y2) := by
    intro x0 x1 x2 y0 y1 y2 t t'
    unfold Tri
    simp [go_sem]
  have hbe : (R.ex != R.ex) = false := by simp
  have hru : (R.ru != R.ru) = false := by simp
  generalize R.ex = ex at *
  generalize R.ru = ru at *
  go_enter Tryd.func15, Tryd.ntmps15
  go_wp2_with fail
  refine (C.out _ (B0.out _ _)).mono ?_
  rintro e w1 ⟨rfl, hb1⟩
  have B1 := hid_mk ((B0.out _ _).trans (hb1.mono (by simp; omega)))
  obtain ⟨x0, x1, x2⟩ := (X0.out _ _ _ _ _ _ _ _).1.keep hb1 (by simp; omega)
  obtain ⟨y0, y1, y2⟩ := (X0.out _ _ _ _ _ _ _ _).2.keep hb1 (by simp)
  clear hb1 X0 B0
  go_wp2
  go_ret
  exact ⟨rfl, B1.out⟩

/-- The three blocks of a copy: what came in, what is handed back, what is made. -/
structure Thr (w W : World) (x0 x1 x2 z0 z1 z2 : Value) : Prop where
  below : Below w.heap.size w W
  size : w.heap.size + 3 ≤ W.heap.size
  x : Tri W w.heap.size x0 x1 x2
  y : ∃ y0 y1 y2, Tri W (w.heap.size + 1) y0 y1 y2
  z : Tri W (w.heap.size + 1 + 1) z0 z1 z2
  wm : Warm w.heap.size W
theorem Thr.start (w : World) (x0 x1 x2 y0 y1 y2 z0 z1 z2 : Value) (t0 t1 t2 : TypeId) :
    Thr w (((w.alloc (.cells #[x0, x1, x2] t0)).alloc (.cells #[y0, y1, y2] t1)).alloc (.cells #[z0, z1, z2] t2)) x0 x1 x2 z0 z1 z2 := by
  refine ⟨(((Below.refl _ _).alloc (Nat.le_refl _) _).alloc (by simp) _).alloc (by simp; omega) _, by simp, ?_, ⟨y0, y1, y2, ?_⟩, ?_, (((Warm.start w).alloc _ _).alloc _ _).alloc _ _⟩
  · unfold Tri; simp [go_sem]
  · unfold Tri; simp [go_sem]
  · unfold Tri; simp [go_sem]
theorem Thr.call {w W W' : World} {x0 x1 x2 z0 z1 z2 : Value} (h : Thr w W x0 x1 x2 z0 z1 z2) (hb : Below W.heap.size W W') (hw : Warm W.heap.size W') : Thr w W' x0 x1 x2 z0 z1 z2 := by
  have hs := h.size
  have hs' := hb.size
  obtain ⟨y0, y1, y2, hy⟩ := h.y
  exact ⟨h.below.trans (hb.mono (by omega)), by omega, h.x.keep hb (by omega), ⟨y0, y1, y2, hy.keep hb (by omega)⟩, h.z.keep hb (by omega), h.wm.later hb hw⟩

set_option maxHeartbeats 4000000 in
theorem to_report (R : Rp) (v : Value) (hi : Nat) (w : World) (hc : costS R.ls ≤ 1048576) (hhi : hi ≤ w.heap.size) (h : Rw 0 hi w R.ls v) :
    Calls Tryd.prog 12 #[R.val v] w fun e w' => ∃ u, e = .returned (R.val u) ∧ Rw w.heap.size w'.heap.size w' R.ls u ∧ Below w.heap.size w w' ∧ Warm w.heap.size w' := by
  obtain ⟨a, c, rfl⟩ := h.shape
  have C := hid_mk (fun W (hb : Below w.heap.size w W) => to_seensW R.ls _ hi W hc (by have := hb.size; omega) (h.below hb hhi))
  clear h
  unfold Rp.val
  generalize R.ex = ex
  generalize R.ru = ru
  go_enter Tryd.func12, Tryd.ntmps12
  have P0 := hid_mk (Thr.start w (.slice a R.ls.length c) (.bool ex) (.int .i64 ru) (.slice none 0 0) (.bool false) (.int .i64 0) (.slice none 0 0) (.bool false) (.int .i64 0) 31 37 37)
  go_wp2_with fail
  revert P0
  generalize (((w.alloc (Obj.cells #[.slice a R.ls.length c, .bool ex, .int .i64 ru] 31)).alloc _).alloc _) = W0
  intro P0
  refine (C.out _ P0.out.below).mono ?_
  rintro e w1 ⟨u1, rfl, hr1, hb1, hw1⟩
  obtain ⟨a1, c1, rfl⟩ := hr1.shape
  have P1 := hid_mk (P0.out.call hb1 hw1)
  have hz0 := P0.out.size
  have hz1 := hb1.size
  have R1 := hid_mk hr1
  obtain ⟨x0, x1, x2⟩ := P1.out.x
  obtain ⟨v0, v1, v2, y0, y1, y2⟩ := P1.out.y
  obtain ⟨z0, z1, z2⟩ := P1.out.z
  have fz : ∀ o, w1.frozen? ⟨w.heap.size + 1 + 1, o, none⟩ = false := fun o => P1.out.wm _ o (by omega)
  have fy : ∀ o, w1.frozen? ⟨w.heap.size + 1, o, none⟩ = false := fun o => P1.out.wm _ o (by omega)
  clear hr1 hb1 hw1 P0 C
  go_wp2
  refine bodyPost_ret (v := .agg #[.slice a1 R.ls.length c1, .bool ex, .int .i64 ru]) (by simp [results, Tryd.results12, go_sem, y0, y1, y2]) rfl ⟨_, rfl, ?_, ?_, (((((P1.out.wm.setCell _ _).setCell _ _).setCell _ _).setCell _ _).setCell _ _).setCell _ _⟩
  · have hk : ∀ g o, w.heap.size + 3 ≤ g → ∀ a b c d e f : Value, ((((((w1.setCell ⟨w.heap.size + 1 + 1, 0, none⟩ a).setCell ⟨w.heap.size + 1 + 1, 1, none⟩ b).setCell ⟨w.heap.size + 1 + 1, 2, none⟩ c).setCell ⟨w.heap.size + 1, 0, none⟩ d).setCell ⟨w.heap.size + 1, 1, none⟩ e).setCell ⟨w.heap.size + 1, 2, none⟩ f).cell? ⟨g, o, none⟩ = w1.cell? ⟨g, o, none⟩ := by
      intro g o hg a b c d e f
      refine World.cell?_of_block (a := ⟨g, o, none⟩) ?_
      rw [Below.heap_setCell _ _ _ _ (by show g ≠ w.heap.size + 1; omega), Below.heap_setCell _ _ _ _ (by show g ≠ w.heap.size + 1; omega), Below.heap_setCell _ _ _ _ (by show g ≠ w.heap.size + 1; omega), Below.heap_setCell _ _ _ _ (by show g ≠ w.heap.size + 1 + 1; omega), Below.heap_setCell _ _ _ _ (by show g ≠ w.heap.size + 1 + 1; omega), Below.heap_setCell _ _ _ _ (by show g ≠ w.heap.size + 1 + 1; omega)]
    exact R1.out.keep (by omega) (by simp [World.setCell]) (fun g o h1 h2 => hk g o (by omega) _ _ _ _ _ _)
  · exact ((((((P1.out.below.setCell (p := ⟨w.heap.size + 1 + 1, 0, none⟩) (by show w.heap.size ≤ w.heap.size + 1 + 1; omega) _).setCell (p := ⟨w.heap.size + 1 + 1, 1, none⟩) (by show w.heap.size ≤ w.heap.size + 1 + 1; omega) _).setCell (p := ⟨w.heap.size + 1 + 1, 2, none⟩) (by show w.heap.size ≤ w.heap.size + 1 + 1; omega) _).setCell (p := ⟨w.heap.size + 1, 0, none⟩) (by show w.heap.size ≤ w.heap.size + 1; omega) _).setCell (p := ⟨w.heap.size + 1, 1, none⟩) (by show w.heap.size ≤ w.heap.size + 1; omega) _).setCell (p := ⟨w.heap.size + 1, 2, none⟩) (by show w.heap.size ≤ w.heap.size + 1; omega) _)
end Go.Proofs.YtnjidekfmmebiaaDoor
