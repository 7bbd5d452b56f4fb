/- The walk of the law FnExactChoose. -/
import Derived.Test.YtjgbjahcnnjfpaaDoorMfC
import Derived.Test.YtjgbjahcnnjfpaaDoorMfB
import Derived.Test.YtjgbjahcnnjfpaaDoorMaA
import Derived.Test.YtjgbjahcnnjfpaaDoorMdA
import Derived.RegionTactic
import Derived.BigRegion
import Derived.Deep.RegionWith
set_option linter.unusedVariables false
namespace Go.Proofs.YtjgbjahcnnjfpaaDoor
open Go.RowKit

theorem Mk.toBelow {lo hi : Nat} {w w' : World} (h : Mk lo hi w w') {B : Nat} (hB : B ≤ lo) (hlo : lo ≤ w.heap.size) : Below B w w' := ⟨h.os, h.tape, h.output, h.size, fun k hk => h.out k (by omega) (.inl (by omega))⟩
theorem four_same {W W' : World} {b : Nat} {x0 x1 x2 x3 : Value} (h : Four W b x0 x1 x2 x3) (hb : W'.heap[b]? = W.heap[b]?) : Four W' b x0 x1 x2 x3 := by
  obtain ⟨h0, h1, h2, h3⟩ := h
  have hc : ∀ o, W'.cell? ⟨b, o, none⟩ = W.cell? ⟨b, o, none⟩ := fun o => World.cell?_of_block (a := ⟨b, o, none⟩) hb
  exact ⟨(hc 0).trans h0, (hc 1).trans h1, (hc 2).trans h2, (hc 3).trans h3⟩
theorem row_same {W W' : World} {lo hi : Nat} {T : Nd} {v : Value} (h : Row lo hi W T v) (hb : ∀ k, lo ≤ k → k < hi → W'.heap[k]? = W.heap[k]?) : Row lo hi W' T v :=
  row_keep (Nat.le_refl _) (Nat.le_refl _) (fun g o h1 h2 => World.cell?_of_block (a := ⟨g, o, none⟩) (hb g h1 h2)) h

set_option maxHeartbeats 8000000 in
set_option maxRecDepth 100000 in
theorem law_choose (T : Nd) (a : Int) (u : Value) (w : World) (hf : T.Fine) (hr : Row 0 w.heap.size w T u) (ht : Tabs w) (ha : -9223372036854775808 ≤ a ∧ a ≤ 9223372036854775807) :
    Calls Tryd.prog 5 #[T.val u, .int .i64 a] w fun e w' => e = .returned (.bool true) ∧ Below w.heap.size w w' := by
  have HF := hid_mk hf
  have HR := hid_mk hr
  have hsc := T.size_cost
  obtain ⟨au, cu, hu, -⟩ := row_eq.1 hr
  subst hu
  have HB1 : ∀ o : Obj, Hid (Below w.heap.size w (w.alloc o)) := fun o => (Below.refl _ _).alloc (Nat.le_refl _) _
  have SZ := hid_mk (sz_node T)
  have TO := hid_mk (to_nodeW T)
  have SP := hid_mk (fun (hc : T.cost ≤ 1048576) W v hi hhi hr => spec_choose T a W v hi hf hhi hr hc ha)
  have IM := hid_mk (fun W v hr (hc : T.cost ≤ 1048576) (hb : Below w.heap.size w W) => impl_choose T a W v hf hr hc (tabs_below ht hb))
  have EQT := hid_mk (eq_node T)
  have EQX := hid_mk (eq_node (chT T a))
  obtain ⟨sx1, sx2, sx3⟩ := ch_sub T a
  have HFX := hid_mk (sx3 hf)
  unfold SzC at SZ
  unfold ToCW at TO
  unfold EqC at EQT EQX
  clear hf hr ht sx3
  by_cases hc : T.cost ≤ 1048576
  · have hl : left' T.cost 1048576 = ((1048576 - T.cost : Nat) : Int) := by unfold left'; rw [if_pos hc]
    have SP := hid_mk (SP.out hc)
    have MKN := hid_mk (fun lo hi W v h1 h2 h3 h4 => mark_node T lo hi W v h1 h2 h3 h4 (by omega))
    have MKT := hid_mk (fun lo hi W v h1 h3 => mark_tree (chT T a) lo hi W v h1 h3 (by omega))
    have HDT := hid_mk (fun lo hi W v h1 h3 => held_tree (chT T a) lo hi W v h1 h3 (by omega))
    have hnl : T.len ≤ 9223372036854775807 := Nd.fine_len HF.out
    generalize chT T a = X at *
    generalize chC T a = cd at *
    have hbb : (cd != cd) = false := by simp
    unfold Nd.val at *
    go_enter Tryd.func5, Tryd.ntmps5
    have FN_wA : Hid (Four (w.alloc (.cells #[.int .i64 T.kind, .int .i64 T.num, .string T.name, .slice au T.len cu] 32)) w.heap.size (.int .i64 T.kind) (.int .i64 T.num) (.string T.name) (.slice au T.len cu)) := Four.new w _ _ _ _ _
    go_wp2_with fail
    refine (SZ.out _ 1048576 w.heap.size _ HF.out (by simp) (row_below (HB1 _).out (Nat.le_refl _) HR.out) (by omega)).mono ?_
    rw [hl]
    rintro e w1 ⟨rfl, hb1⟩
    have hz1 := hb1.size
    simp only [World.size_alloc] at hz1
    have B_w1 := hid_mk ((HB1 _).out.trans (hb1.mono (by simp)))
    have FN_w1 := hid_mk (FN_wA.out.keep hb1 (by simp))
    clear hb1 FN_wA hl
    obtain ⟨FNa, FNb, FNc, FNd⟩ := FN_w1.out
    go_wp2_with fail
    refine (TO.out _ _ w.heap.size HF.out (by omega) (row_below B_w1.out (Nat.le_refl _) HR.out) hc).mono ?_
    rintro e w2 ⟨u2, rfl, hr2, hb2, _⟩
    obtain ⟨a2, c2, rfl⟩ := row_shape hr2
    have hz2 := hb2.size
    clear FNa FNb FNc FNd
    have B_w2 := hid_mk (B_w1.out.trans (hb2.mono (by omega)))
    have FN_w2 := hid_mk (FN_w1.out.keep hb2 (by omega))
    clear B_w1 FN_w1
    clear hb2
    go_wp2_with fail
    refine (SP.out _ _ w2.heap.size (Nat.le_refl _) (row_wide hr2 (Nat.zero_le _) (Nat.le_refl _))).mono ?_
    rintro e w3 ⟨u3, rfl, ht3, hb3⟩
    obtain ⟨a3, c3, rfl⟩ := tr_shape ht3
    have hz3 := hb3.size
    have B_w3 := hid_mk (B_w2.out.trans (hb3.mono (by omega)))
    have FN_w3 := hid_mk (FN_w2.out.keep hb3 (by omega))
    clear B_w2 FN_w2
    have R6_w3 := hid_mk (tr_row ht3)
    clear hb3 ht3 hr2
    obtain ⟨w3b, hw3b⟩ : ∃ W, w3.alloc (.cells #[.int .i64 X.kind, .int .i64 X.num, .string X.name, .slice a3 X.len c3] 37) = W := ⟨_, rfl⟩
    have hb_w3b : Below w3.heap.size w3 w3b := by rw [← hw3b]; exact (Below.refl _ _).alloc (Nat.le_refl _) _
    have hz_w3b : w3b.heap.size = w3.heap.size + 1 := by rw [← hw3b]; simp
    have F6_w3b : Hid (Four w3b w3.heap.size (.int .i64 X.kind) (.int .i64 X.num) (.string X.name) (.slice a3 X.len c3)) := by rw [← hw3b]; exact Four.new _ _ _ _ _ _
    have B_w3b := hid_mk (B_w3.out.trans (hb_w3b.mono (by omega)))
    have FN_w3b := hid_mk (FN_w3.out.keep hb_w3b (by omega))
    have R6_w3b := hid_mk (row_below hb_w3b (by omega) R6_w3.out)
    clear B_w3 FN_w3 R6_w3
    have Hw3b := hid_mk hw3b
    clear hb_w3b hw3b
    obtain ⟨FNa, FNb, FNc, FNd⟩ := FN_w3b.out
    rw [← Hw3b.out] at FNa FNb FNc FNd
    go_wp2_with fail
    rw [Hw3b.out]
    refine (TO.out w3b _ w.heap.size HF.out (by omega) (row_below B_w3b.out (Nat.le_refl _) HR.out) hc).mono ?_
    rintro e w4 ⟨u4, rfl, hr4, hb4, hw4⟩
    obtain ⟨a4, c4, rfl⟩ := row_shape hr4
    have hz4 := hb4.size
    clear FNa FNb FNc FNd
    have B_w4 := hid_mk (B_w3b.out.trans (hb4.mono (by omega)))
    have FN_w4 := hid_mk (FN_w3b.out.keep hb4 (by omega))
    have R6_w4 := hid_mk (row_below hb4 (by omega) R6_w3b.out)
    have F6_w4 := hid_mk (F6_w3b.out.keep hb4 (by omega))
    clear B_w3b FN_w3b R6_w3b F6_w3b
    obtain ⟨l8, hl8⟩ : ∃ l, l = w3b.heap.size := ⟨_, rfl⟩
    obtain ⟨h8, hh8⟩ : ∃ h, h = w4.heap.size := ⟨_, rfl⟩
    have R8_w4 : Hid (Row l8 h8 w4 T (.slice a4 T.len c4)) := by rw [hl8, hh8]; exact hr4
    have W8_w4 : Hid (∀ g o, l8 ≤ g → g < h8 → w4.frozen? ⟨g, o, none⟩ = false) := fun g o h1 _ => hw4 g o (by omega)
    have hlh : l8 ≤ h8 := by omega
    clear hb4 hr4 hw4
    obtain ⟨w4b, hw4b⟩ : ∃ W, w4.alloc (.cells #[.int .i64 T.kind, .int .i64 T.num, .string T.name, .slice a4 T.len c4] 37) = W := ⟨_, rfl⟩
    have hb_w4b : Below w4.heap.size w4 w4b := by rw [← hw4b]; exact (Below.refl _ _).alloc (Nat.le_refl _) _
    have hz_w4b : w4b.heap.size = w4.heap.size + 1 := by rw [← hw4b]; simp
    have F8_w4b : Hid (Four w4b w4.heap.size (.int .i64 T.kind) (.int .i64 T.num) (.string T.name) (.slice a4 T.len c4)) := by rw [← hw4b]; exact Four.new _ _ _ _ _ _
    have B_w4b := hid_mk (B_w4.out.trans (hb_w4b.mono (by omega)))
    have FN_w4b := hid_mk (FN_w4.out.keep hb_w4b (by omega))
    have R6_w4b := hid_mk (row_below hb_w4b (by omega) R6_w4.out)
    have F6_w4b := hid_mk (F6_w4.out.keep hb_w4b (by omega))
    have R8_w4b := hid_mk (row_below hb_w4b (by omega) R8_w4.out)
    have W8_w4b : Hid (∀ g o, l8 ≤ g → g < h8 → w4b.frozen? ⟨g, o, none⟩ = false) := fun g o h1 h2 => (hb_w4b.frozen (p := ⟨g, o, none⟩) (by show g < w4.heap.size; omega)).trans (W8_w4.out g o h1 h2)
    clear B_w4 FN_w4 R6_w4 F6_w4 R8_w4 W8_w4
    have Hw4b := hid_mk hw4b
    clear hb_w4b hw4b
    obtain ⟨F8a, F8b, F8c, F8d⟩ := F8_w4b.out
    rw [← Hw4b.out] at F8a F8b F8c F8d
    go_wp2_with fail
    rw [Hw4b.out]
    refine (IM.out w4b _ (row_wide R8_w4b.out (Nat.zero_le _) (by omega)) hc B_w4b.out).mono ?_
    rintro e w5 ⟨u5, rfl, ht5, hb5⟩
    obtain ⟨a5, c5, rfl⟩ := tr_shape ht5
    have hz5 := hb5.size
    clear F8a F8b F8c F8d
    have B_w5 := hid_mk (B_w4b.out.trans (hb5.mono (by omega)))
    have FN_w5 := hid_mk (FN_w4b.out.keep hb5 (by omega))
    have R6_w5 := hid_mk (row_below hb5 (by omega) R6_w4b.out)
    have F6_w5 := hid_mk (F6_w4b.out.keep hb5 (by omega))
    have R8_w5 := hid_mk (row_below hb5 (by omega) R8_w4b.out)
    have W8_w5 : Hid (∀ g o, l8 ≤ g → g < h8 → w5.frozen? ⟨g, o, none⟩ = false) := fun g o h1 h2 => (hb5.frozen (p := ⟨g, o, none⟩) (by show g < w4b.heap.size; omega)).trans (W8_w4b.out g o h1 h2)
    have F8_w5 := hid_mk (F8_w4b.out.keep hb5 (by omega))
    clear B_w4b FN_w4b R6_w4b F6_w4b R8_w4b W8_w4b F8_w4b
    obtain ⟨l9, hl9⟩ : ∃ l, l = w4b.heap.size := ⟨_, rfl⟩
    obtain ⟨h9, hh9⟩ : ∃ h, h = w5.heap.size := ⟨_, rfl⟩
    have T9_w5 : Hid (Tr w5 X l9 h9 (.slice a5 X.len c5)) := by rw [hl9, hh9]; exact ht5
    have hlh9 : l9 ≤ h9 := by omega
    clear hb5 ht5
    obtain ⟨w5b, hw5b⟩ : ∃ W, w5.alloc (.cells #[.int .i64 X.kind, .int .i64 X.num, .string X.name, .slice a5 X.len c5] 37) = W := ⟨_, rfl⟩
    have hb_w5b : Below w5.heap.size w5 w5b := by rw [← hw5b]; exact (Below.refl _ _).alloc (Nat.le_refl _) _
    have hz_w5b : w5b.heap.size = w5.heap.size + 1 := by rw [← hw5b]; simp
    have F9_w5b : Hid (Four w5b w5.heap.size (.int .i64 X.kind) (.int .i64 X.num) (.string X.name) (.slice a5 X.len c5)) := by rw [← hw5b]; exact Four.new _ _ _ _ _ _
    have B_w5b := hid_mk (B_w5.out.trans (hb_w5b.mono (by omega)))
    have FN_w5b := hid_mk (FN_w5.out.keep hb_w5b (by omega))
    have R6_w5b := hid_mk (row_below hb_w5b (by omega) R6_w5.out)
    have F6_w5b := hid_mk (F6_w5.out.keep hb_w5b (by omega))
    have R8_w5b := hid_mk (row_below hb_w5b (by omega) R8_w5.out)
    have W8_w5b : Hid (∀ g o, l8 ≤ g → g < h8 → w5b.frozen? ⟨g, o, none⟩ = false) := fun g o h1 h2 => (hb_w5b.frozen (p := ⟨g, o, none⟩) (by show g < w5.heap.size; omega)).trans (W8_w5.out g o h1 h2)
    have F8_w5b := hid_mk (F8_w5.out.keep hb_w5b (by omega))
    have T9_w5b := hid_mk (tr_below T9_w5.out hb_w5b (by omega))
    clear B_w5 FN_w5 R6_w5 F6_w5 R8_w5 W8_w5 F8_w5 T9_w5
    have Hw5b := hid_mk hw5b
    clear hb_w5b hw5b
    obtain ⟨F9a, F9b, F9c, F9d⟩ := F9_w5b.out
    rw [← Hw5b.out] at F9a F9b F9c F9d
    obtain ⟨F6a, F6b, F6c, F6d⟩ := F6_w5b.out
    rw [← Hw5b.out] at F6a F6b F6c F6d
    go_wp2_with fail
    rw [Hw5b.out]
    refine (EQX.out w5b _ _ HFX.out (row_wide (tr_row T9_w5b.out) (Nat.zero_le _) (by omega)) (row_wide R6_w5b.out (Nat.zero_le _) (by omega))).mono ?_
    rintro e w6 ⟨rfl, hb6⟩
    have hz6 := hb6.size
    clear F9a F9b F9c F9d F6a F6b F6c F6d
    have B_w6 := hid_mk (B_w5b.out.trans (hb6.mono (by omega)))
    have FN_w6 := hid_mk (FN_w5b.out.keep hb6 (by omega))
    have R6_w6 := hid_mk (row_below hb6 (by omega) R6_w5b.out)
    have F6_w6 := hid_mk (F6_w5b.out.keep hb6 (by omega))
    have R8_w6 := hid_mk (row_below hb6 (by omega) R8_w5b.out)
    have W8_w6 : Hid (∀ g o, l8 ≤ g → g < h8 → w6.frozen? ⟨g, o, none⟩ = false) := fun g o h1 h2 => (hb6.frozen (p := ⟨g, o, none⟩) (by show g < w5b.heap.size; omega)).trans (W8_w5b.out g o h1 h2)
    have F8_w6 := hid_mk (F8_w5b.out.keep hb6 (by omega))
    have T9_w6 := hid_mk (tr_below T9_w5b.out hb6 (by omega))
    have F9_w6 := hid_mk (F9_w5b.out.keep hb6 (by omega))
    clear B_w5b FN_w5b R6_w5b F6_w5b R8_w5b W8_w5b F8_w5b T9_w5b F9_w5b
    clear hb6
    obtain ⟨FNa, FNb, FNc, FNd⟩ := FN_w6.out
    obtain ⟨F8a, F8b, F8c, F8d⟩ := F8_w6.out
    go_wp2_with fail
    go_region_with (first | (go_at_call 14; refine (TO.out _ _ w.heap.size HF.out (by show w.heap.size ≤ w6.heap.size; omega) (row_below B_w6.out.drew (Nat.le_refl _) HR.out) hc).mono ?_; rintro e w7 ⟨u7, rfl, hr7, hb7, _⟩; obtain ⟨a7, c7, rfl⟩ := row_shape hr7; have hz7 : w6.heap.size ≤ w7.heap.size := hb7.size; obtain ⟨k0, k1, k2, k3⟩ := (show Four w6.drew w4.heap.size _ _ _ _ from F8_w6.out).keep hb7 (by show w4.heap.size < w6.heap.size; omega); have HR7 := hid_mk (row_below hb7 (show h8 ≤ w6.heap.size by omega) (row_drew R8_w6.out)); have HN7 := hid_mk hr7; have H7 : Hid (Below w6.heap.size w6 w7) := ((Below.refl w6.heap.size w6).drew.trans hb7); clear hr7 hb7) | (go_at_call 16; refine (EQT.out _ _ _ HF.out (row_wide HR7.out (Nat.zero_le _) (show h8 ≤ w7.heap.size by omega)) (row_wide HN7.out (Nat.zero_le _) (Nat.le_refl _))).mono ?_; rintro e w8 ⟨rfl, hb8⟩; have H8 := hid_mk (H7.out.trans (hb8.mono hz7)); clear hb8))
    all_goals
      have hz8 := H8.out.size
      clear FNa FNb FNc FNd F8a F8b F8c F8d
      clear k0 k1 k2 k3 H7 HR7 HN7
      have B_w8 := hid_mk (B_w6.out.trans (H8.out.mono (by omega)))
      have FN_w8 := hid_mk (FN_w6.out.keep H8.out (by omega))
      have R6_w8 := hid_mk (row_below H8.out (by omega) R6_w6.out)
      have F6_w8 := hid_mk (F6_w6.out.keep H8.out (by omega))
      have R8_w8 := hid_mk (row_below H8.out (by omega) R8_w6.out)
      have W8_w8 : Hid (∀ g o, l8 ≤ g → g < h8 → w8.frozen? ⟨g, o, none⟩ = false) := fun g o h1 h2 => (H8.out.frozen (p := ⟨g, o, none⟩) (by show g < w6.heap.size; omega)).trans (W8_w6.out g o h1 h2)
      have F8_w8 := hid_mk (F8_w6.out.keep H8.out (by omega))
      have T9_w8 := hid_mk (tr_below T9_w6.out H8.out (by omega))
      have F9_w8 := hid_mk (F9_w6.out.keep H8.out (by omega))
      clear B_w6 FN_w6 R6_w6 F6_w6 R8_w6 W8_w6 F8_w6 T9_w6 F9_w6
      clear H8
      obtain ⟨F8a, F8b, F8c, F8d⟩ := F8_w8.out
      go_wp2_with fail
      refine (MKN.out l8 h8 _ _ (by omega) hnl R8_w8.out W8_w8.out).mono ?_
      rintro e w9 ⟨kk, rfl, hm9⟩
      have hkk : ¬ ((kk : Int) < 0) := by omega
      have hz9 := hm9.size
      clear F8a F8b F8c F8d
      have B_w9 := hid_mk (B_w8.out.trans (hm9.toBelow (by omega) (by omega)))
      have FN_w9 := hid_mk (four_same FN_w8.out (hm9.out _ (by omega) (.inl (by omega))))
      have F6_w9 := hid_mk (four_same F6_w8.out (hm9.out _ (by omega) (.inl (by omega))))
      have F9_w9 := hid_mk (four_same F9_w8.out (hm9.out _ (by omega) (.inr (by omega))))
      have R6_w9 := hid_mk (row_same R6_w8.out fun k k1 k2 => hm9.out k (by omega) (.inl (by omega)))
      have T9_w9 := hid_mk (tr_keep (fun k k1 k2 => hm9.out k (by omega) (.inr (by omega))) T9_w8.out)
      clear B_w8 FN_w8 F6_w8 F8_w8 F9_w8 R6_w8 R8_w8 W8_w8 T9_w8 hm9 MKN
      obtain ⟨F9a, F9b, F9c, F9d⟩ := F9_w9.out
      obtain ⟨F6a, F6b, F6c, F6d⟩ := F6_w9.out
      go_wp2_with fail
      refine (EQX.out w9 _ _ HFX.out (row_wide (tr_row T9_w9.out) (Nat.zero_le _) (by omega)) (row_wide R6_w9.out (Nat.zero_le _) (by omega))).mono ?_
      rintro e w10 ⟨rfl, hb10⟩
      have hz10 := hb10.size
      clear F9a F9b F9c F9d F6a F6b F6c F6d
      have B_w10 := hid_mk (B_w9.out.trans (hb10.mono (by omega)))
      have FN_w10 := hid_mk (FN_w9.out.keep hb10 (by omega))
      have R6_w10 := hid_mk (row_below hb10 (by omega) R6_w9.out)
      have F6_w10 := hid_mk (F6_w9.out.keep hb10 (by omega))
      have T9_w10 := hid_mk (tr_below T9_w9.out hb10 (by omega))
      have F9_w10 := hid_mk (F9_w9.out.keep hb10 (by omega))
      clear B_w9 FN_w9 R6_w9 F6_w9 T9_w9 F9_w9
      clear hb10
      obtain ⟨F9a, F9b, F9c, F9d⟩ := F9_w10.out
      go_wp2_with fail
      refine (MKT.out l9 h9 _ _ (by omega) T9_w10.out).mono ?_
      rintro e w11 ⟨rfl, hmr, hkb⟩
      have hz11 := hkb.size
      clear F9a F9b F9c F9d
      have B_w11 := hid_mk (B_w10.out.trans (hkb.below (by omega) (by omega)))
      have FN_w11 := hid_mk (four_same FN_w10.out (hkb.out _ (by omega) (.inl (by omega))))
      have F6_w11 := hid_mk (four_same F6_w10.out (hkb.out _ (by omega) (.inl (by omega))))
      have F9_w11 := hid_mk (four_same F9_w10.out (hkb.out _ (by omega) (.inr (by omega))))
      have R6_w11 := hid_mk (row_same R6_w10.out fun k k1 k2 => hkb.out k (by omega) (.inl (by omega)))
      have M9_w11 := hid_mk hmr
      clear B_w10 FN_w10 F6_w10 F9_w10 R6_w10 T9_w10 hkb hmr
      obtain ⟨mm, hmm⟩ : ∃ m, m = 1 + 3 * X.under := ⟨_, rfl⟩
      rw [← hmm]
      have HDM := hid_mk (fun lo hi W v h1 h3 => by have := HDT.out lo hi W v h1 h3; rw [← hmm] at this; exact this)
      have hm0 : ¬ ((mm : Int) < 0) := by omega
      have hmq : ((mm : Int) != (mm : Int)) = false := by simp
      clear hmm HDT MKT
      obtain ⟨F9a, F9b, F9c, F9d⟩ := F9_w11.out
      go_wp2_with fail
      refine (HDM.out l9 h9 _ _ (by omega) M9_w11.out).mono ?_
      rintro e w12 ⟨rfl, hb12⟩
      have hz12 := hb12.size
      clear F9a F9b F9c F9d
      have B_w12 := hid_mk (B_w11.out.trans (hb12.mono (by omega)))
      have FN_w12 := hid_mk (FN_w11.out.keep hb12 (by omega))
      have R6_w12 := hid_mk (row_below hb12 (by omega) R6_w11.out)
      have F6_w12 := hid_mk (F6_w11.out.keep hb12 (by omega))
      have F9_w12 := hid_mk (F9_w11.out.keep hb12 (by omega))
      have M9_w12 := hid_mk (mr_below M9_w11.out hb12 (by omega))
      clear B_w11 FN_w11 R6_w11 F6_w11 F9_w11 M9_w11
      clear hb12
      obtain ⟨FNa, FNb, FNc, FNd⟩ := FN_w12.out
      go_wp2_with fail
      refine (TO.out _ _ w.heap.size HF.out (by omega) (row_below B_w12.out (Nat.le_refl _) HR.out) hc).mono ?_
      rintro e w13 ⟨u13, rfl, hr13, hb13, _⟩
      obtain ⟨a13, c13, rfl⟩ := row_shape hr13
      have hz13 := hb13.size
      clear FNa FNb FNc FNd
      have B_w13 := hid_mk (B_w12.out.trans (hb13.mono (by omega)))
      have FN_w13 := hid_mk (FN_w12.out.keep hb13 (by omega))
      have R6_w13 := hid_mk (row_below hb13 (by omega) R6_w12.out)
      have F6_w13 := hid_mk (F6_w12.out.keep hb13 (by omega))
      have F9_w13 := hid_mk (F9_w12.out.keep hb13 (by omega))
      have M9_w13 := hid_mk (mr_below M9_w12.out hb13 (by omega))
      clear B_w12 FN_w12 R6_w12 F6_w12 F9_w12 M9_w12
      clear hb13
      go_wp2_with fail
      refine (IM.out w13 _ (row_wide hr13 (Nat.zero_le _) (Nat.le_refl _)) hc B_w13.out).mono ?_
      rintro e w14 ⟨u14, rfl, ht14, hb14⟩
      obtain ⟨a14, c14, rfl⟩ := tr_shape ht14
      have hz14 := hb14.size
      have B_w14 := hid_mk (B_w13.out.trans (hb14.mono (by omega)))
      have FN_w14 := hid_mk (FN_w13.out.keep hb14 (by omega))
      have R6_w14 := hid_mk (row_below hb14 (by omega) R6_w13.out)
      have F6_w14 := hid_mk (F6_w13.out.keep hb14 (by omega))
      have F9_w14 := hid_mk (F9_w13.out.keep hb14 (by omega))
      have M9_w14 := hid_mk (mr_below M9_w13.out hb14 (by omega))
      clear B_w13 FN_w13 R6_w13 F6_w13 F9_w13 M9_w13
      have T14_w14 := hid_mk ht14
      clear hb14 ht14 hr13
      obtain ⟨w14b, hw14b⟩ : ∃ W, w14.alloc (.cells #[.int .i64 X.kind, .int .i64 X.num, .string X.name, .slice a14 X.len c14] 37) = W := ⟨_, rfl⟩
      have hb_w14b : Below w14.heap.size w14 w14b := by rw [← hw14b]; exact (Below.refl _ _).alloc (Nat.le_refl _) _
      have hz_w14b : w14b.heap.size = w14.heap.size + 1 := by rw [← hw14b]; simp
      have F14_w14b : Hid (Four w14b w14.heap.size (.int .i64 X.kind) (.int .i64 X.num) (.string X.name) (.slice a14 X.len c14)) := by rw [← hw14b]; exact Four.new _ _ _ _ _ _
      have B_w14b := hid_mk (B_w14.out.trans (hb_w14b.mono (by omega)))
      have FN_w14b := hid_mk (FN_w14.out.keep hb_w14b (by omega))
      have R6_w14b := hid_mk (row_below hb_w14b (by omega) R6_w14.out)
      have F6_w14b := hid_mk (F6_w14.out.keep hb_w14b (by omega))
      have F9_w14b := hid_mk (F9_w14.out.keep hb_w14b (by omega))
      have M9_w14b := hid_mk (mr_below M9_w14.out hb_w14b (by omega))
      have T14_w14b := hid_mk (tr_below T14_w14.out hb_w14b (by omega))
      clear B_w14 FN_w14 R6_w14 F6_w14 F9_w14 M9_w14 T14_w14
      have Hw14b := hid_mk hw14b
      clear hb_w14b hw14b
      obtain ⟨F14a, F14b, F14c, F14d⟩ := F14_w14b.out
      rw [← Hw14b.out] at F14a F14b F14c F14d
      obtain ⟨F6a, F6b, F6c, F6d⟩ := F6_w14b.out
      rw [← Hw14b.out] at F6a F6b F6c F6d
      go_wp2_with fail
      rw [Hw14b.out]
      refine (EQX.out w14b _ _ HFX.out (row_wide (tr_row T14_w14b.out) (Nat.zero_le _) (by omega)) (row_wide R6_w14b.out (Nat.zero_le _) (by omega))).mono ?_
      rintro e w15 ⟨rfl, hb15⟩
      have hz15 := hb15.size
      clear F14a F14b F14c F14d F6a F6b F6c F6d
      have B_w15 := hid_mk (B_w14b.out.trans (hb15.mono (by omega)))
      have FN_w15 := hid_mk (FN_w14b.out.keep hb15 (by omega))
      have R6_w15 := hid_mk (row_below hb15 (by omega) R6_w14b.out)
      have F6_w15 := hid_mk (F6_w14b.out.keep hb15 (by omega))
      have F9_w15 := hid_mk (F9_w14b.out.keep hb15 (by omega))
      have M9_w15 := hid_mk (mr_below M9_w14b.out hb15 (by omega))
      have T14_w15 := hid_mk (tr_below T14_w14b.out hb15 (by omega))
      have F14_w15 := hid_mk (F14_w14b.out.keep hb15 (by omega))
      clear B_w14b FN_w14b R6_w14b F6_w14b F9_w14b M9_w14b T14_w14b F14_w14b
      clear hb15
      obtain ⟨F9a, F9b, F9c, F9d⟩ := F9_w15.out
      go_wp2_with fail
      refine (HDM.out l9 h9 _ _ (by omega) M9_w15.out).mono ?_
      rintro e w16 ⟨rfl, hb16⟩
      have B_w16 := hid_mk (B_w15.out.trans (hb16.mono (by omega)))
      go_wp2
      go_ret
      exact ⟨rfl, B_w16.out⟩
  · have hl : left' T.cost 1048576 = -1 := by unfold left'; rw [if_neg hc]
    unfold Nd.val at *
    go_enter Tryd.func5, Tryd.ntmps5
    go_wp2_with (go_at_call 12; refine (SZ.out _ 1048576 w.heap.size _ HF.out (by simp) (row_below (HB1 _).out (Nat.le_refl _) HR.out) (by omega)).mono ?_; rw [hl]; rintro e w1 ⟨rfl, hb1⟩)
    go_ret
    exact ⟨rfl, (HB1 _).out.trans (hb1.mono (by simp))⟩
end Go.Proofs.YtjgbjahcnnjfpaaDoor
