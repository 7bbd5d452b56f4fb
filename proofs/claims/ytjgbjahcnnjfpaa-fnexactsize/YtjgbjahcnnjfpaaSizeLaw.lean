/- The walk of the law FnExactSize. -/
import Derived.Test.YtjgbjahcnnjfpaaNdImpl
import Derived.Test.YtjgbjahcnnjfpaaNdTo
import Derived.Test.YtjgbjahcnnjfpaaNdSz
import Derived.Test.YtjgbjahcnnjfpaaNdSize
import Derived.Test.YtjgbjahcnnjfpaaNdEq
set_option linter.unusedVariables false
namespace Go.Proofs.Ytjgbjahcnnjfpaa
open Go.RowKit

/-- Four cells of a block hold these. -/
def Four (W : World) (b : Nat) (x0 x1 x2 x3 : Value) : Prop := W.cell? ⟨b, 0, none⟩ = some x0 ∧ W.cell? ⟨b, 1, none⟩ = some x1 ∧ W.cell? ⟨b, 2, none⟩ = some x2 ∧ W.cell? ⟨b, 3, none⟩ = some x3
theorem Four.keep {B b : Nat} {A C : World} {x0 x1 x2 x3 : Value} (h : Four A b x0 x1 x2 x3) (hb : Below B A C) (hB : b < B) : Four C b x0 x1 x2 x3 := by
  obtain ⟨h0, h1, h2, h3⟩ := h
  exact ⟨(hb.cell (p := ⟨b, 0, none⟩) hB).trans h0, (hb.cell (p := ⟨b, 1, none⟩) hB).trans h1, (hb.cell (p := ⟨b, 2, none⟩) hB).trans h2, (hb.cell (p := ⟨b, 3, none⟩) hB).trans h3⟩
theorem Four.new (W : World) (x0 x1 x2 x3 : Value) (t : TypeId) : Four (W.alloc (.cells #[x0, x1, x2, x3] t)) W.heap.size x0 x1 x2 x3 := by
  unfold Four; simp [go_sem]

set_option maxHeartbeats 4000000 in
set_option maxRecDepth 100000 in
theorem law_size (T : Nd) (u : Value) (w : World) (hf : T.Fine) (hr : Row 0 w.heap.size w T u) :
    Calls Try.prog 3 #[T.val u] w fun e w' => e = .returned (.bool true) ∧ Below w.heap.size w w' := by
  have HF := hid_mk hf
  have HR := hid_mk hr
  have hsc := T.size_cost
  obtain ⟨au, cu, hu, _⟩ := row_eq.1 hr
  subst hu
  clear hf hr
  have HB1 : ∀ o : Obj, Hid (Below w.heap.size w (w.alloc o)) := fun o => (Below.refl _ _).alloc (Nat.le_refl _) _
  have SZ := hid_mk (sz_node T)
  have TO := hid_mk (to_node T)
  have SP := hid_mk (spec_size T)
  have IM := hid_mk (impl_size T)
  have EQ := hid_mk (eq_node T)
  unfold SzC at SZ
  unfold ToC at TO
  unfold EqC at EQ
  unfold Nd.val at *
  by_cases hc : T.cost ≤ 1048576
  · have hl : left' T.cost 1048576 = ((1048576 - T.cost : Nat) : Int) := by unfold left'; rw [if_pos hc]
    go_enter Try.func3, Try.ntmps3
    have F0 : Hid (Four (w.alloc (.cells #[.int .i64 T.kind, .int .i64 T.num, .string T.name, .slice au T.len cu] 24)) w.heap.size (.int .i64 T.kind) (.int .i64 T.num) (.string T.name) (.slice au T.len cu)) := Four.new w _ _ _ _ _
    go_wp2_with fail
    refine (SZ.out _ 1048576 w.heap.size _ HF.out (by simp) (row_below (HB1 _).out (Nat.le_refl _) HR.out) (by omega)).mono ?_
    rw [hl]
    rintro e w1 ⟨rfl, hb1⟩
    have hz1 := hb1.size
    simp only [World.size_alloc] at hz1
    have B1 := hid_mk ((HB1 _).out.trans (hb1.mono (by simp)))
    have F1 := hid_mk (F0.out.keep hb1 (by simp))
    obtain ⟨p0, p1, p2, p3⟩ := F1.out
    clear hb1 F0 hl
    go_wp2_with fail
    refine (TO.out _ _ w.heap.size HF.out (by omega) (row_below B1.out (Nat.le_refl _) HR.out) hc).mono ?_
    rintro e w2 ⟨u2, rfl, hr2, hb2⟩
    obtain ⟨a2, c2, rfl⟩ := row_shape hr2
    have hz2 := hb2.size
    have B2 := hid_mk (B1.out.trans (hb2.mono (by omega)))
    have F2 := hid_mk (F1.out.keep hb2 (by omega))
    clear p0 p1 p2 p3 F1 hb2
    go_wp2_with fail
    refine (SP.out _ _ w2.heap.size HF.out (Nat.le_refl _) (row_wide hr2 (Nat.zero_le _) (Nat.le_refl _)) hc).mono ?_
    rintro e w3 ⟨rfl, hb3⟩
    have hz3 := hb3.size
    have B3 := hid_mk (B2.out.trans (hb3.mono (by omega)))
    have F3 := hid_mk (F2.out.keep hb3 (by omega))
    obtain ⟨p0, p1, p2, p3⟩ := F3.out
    clear F2 hb3 hr2 B1 B2
    go_wp2_with fail
    refine (TO.out _ _ w.heap.size HF.out (by omega) (row_below B3.out (Nat.le_refl _) HR.out) hc).mono ?_
    rintro e w4 ⟨u4, rfl, hr4, hb4⟩
    obtain ⟨a4, c4, rfl⟩ := row_shape hr4
    have hz4 := hb4.size
    have B4 := hid_mk (B3.out.trans (hb4.mono (by omega)))
    have F4 := hid_mk (F3.out.keep hb4 (by omega))
    have HR4 := hid_mk hr4
    clear p0 p1 p2 p3 F3 hb4 hr4 B3
    go_wp2_with fail
    have hbA : Below w4.heap.size w4 (w4.alloc (.cells #[.int .i64 T.kind, .int .i64 T.num, .string T.name, .slice a4 T.len c4] 29)) := (Below.refl _ _).alloc (Nat.le_refl _) _
    have G4 : Hid (Four (w4.alloc (.cells #[.int .i64 T.kind, .int .i64 T.num, .string T.name, .slice a4 T.len c4] 29)) w4.heap.size (.int .i64 T.kind) (.int .i64 T.num) (.string T.name) (.slice a4 T.len c4)) := Four.new w4 _ _ _ _ _
    refine (IM.out _ _ HF.out (row_wide (row_below hbA (Nat.le_refl _) HR4.out) (Nat.zero_le _) (by simp)) hc).mono ?_
    rintro e w5 ⟨rfl, hb5⟩
    have hz5 := hb5.size
    simp only [World.size_alloc] at hz5
    have hb45 := hbA.trans (hb5.mono (by simp))
    have B5 := hid_mk (B4.out.trans (hb45.mono (by omega)))
    have F5 := hid_mk (F4.out.keep hb45 (by omega))
    have G5 := hid_mk (G4.out.keep hb5 (by simp))
    have HR5 := hid_mk (row_below hb45 (Nat.le_refl _) HR4.out)
    obtain ⟨p0, p1, p2, p3⟩ := F5.out
    obtain ⟨g0, g1, g2, g3⟩ := G5.out
    clear F4 G4 hb5 hbA hb45 B4 HR4 SZ SP IM
    go_wp2_with fail
    go_region_with (first | (go_at_call 6; refine (TO.out _ _ w.heap.size HF.out (by show w.heap.size ≤ w5.heap.size; omega) (row_below B5.out.drew (Nat.le_refl _) HR.out) hc).mono ?_; rintro e w6 ⟨u6, rfl, hr6, hb6⟩; obtain ⟨a6, c6, rfl⟩ := row_shape hr6; have hz6 := hb6.size; have B6 := hid_mk (B5.out.drew.trans (hb6.mono (by show w.heap.size ≤ w5.heap.size; omega))); obtain ⟨k0, k1, k2, k3⟩ := (show Four w5.drew w4.heap.size _ _ _ _ from G5.out).keep hb6 (by show w4.heap.size < w5.heap.size; omega); have HR6 := hid_mk (row_below hb6 (show w4.heap.size ≤ w5.heap.size by omega) (row_drew HR5.out)); have HN6 := hid_mk hr6; clear hr6 hb6) | (go_at_call 8; refine (EQ.out _ _ _ HF.out (row_wide HR6.out (Nat.zero_le _) (show w4.heap.size ≤ w6.heap.size by have : w5.heap.size ≤ w6.heap.size := hz6; omega)) (row_wide HN6.out (Nat.zero_le _) (Nat.le_refl _))).mono ?_; rintro e w7 ⟨rfl, hb7⟩; have B7 := hid_mk (B6.out.trans (hb7.mono (by have : w5.heap.size ≤ w6.heap.size := hz6; omega)))))
    all_goals go_wp2
    all_goals go_ret
    all_goals exact ⟨rfl, B7.out⟩
  · have hl : left' T.cost 1048576 = -1 := by unfold left'; rw [if_neg hc]
    go_enter Try.func3, Try.ntmps3
    go_wp2_with (go_at_call 4; refine (SZ.out _ 1048576 w.heap.size _ HF.out (by simp) (row_below (HB1 _).out (Nat.le_refl _) HR.out) (by omega)).mono ?_; rw [hl]; rintro e w1 ⟨rfl, hb1⟩)
    go_ret
    exact ⟨rfl, (HB1 _).out.trans (hb1.mono (by simp))⟩
end Go.Proofs.Ytjgbjahcnnjfpaa
