/- The program's copy of a tree. -/
import Derived.Test.YtjgbjahcnnjfpaaDoorMeA
import Derived.Test.YtjgbjahcnnjfpaaDoorMeG
set_option linter.unusedVariables false
namespace Go.Proofs.YtjgbjahcnnjfpaaDoor
open Go.RowKit

def CpC (T : Nd) : Prop := ∀ (w : World) (v : Value) (hi : Nat), T.Fine → hi ≤ w.heap.size → Row 0 hi w T v → T.cost ≤ 1048576 →
  Calls Tryd.prog 37 #[T.val v] w fun e w' => ∃ u, e = .returned (T.val u) ∧ Tr w' T w.heap.size w'.heap.size u ∧ Below w.heap.size w w'

set_option maxHeartbeats 4000000 in
theorem copied_of (T : Nd) (ih : ∀ i, i < T.len → CpC (T.kids i)) : CpC T := by
  intro w v hi hf hhi hr hcost
  have hce := T.cost_eq
  have hn20 : T.name.size ≤ 1048576 := by omega
  have HRE := hid_mk (fun (W : World) (hb : Below w.heap.size w W) => remade_cp T T.kids W v hi hf (Nat.le_trans hhi hb.size) (row_below hb hhi hr) hcost (fun i hi' W' x hb' hx => ih i hi' W' x hi (Nd.fine_kid hf hi') (Nat.le_trans (Nat.le_trans hhi hb.size) hb'.size) hx (Nat.le_trans (T.cost_kid hi') hcost)))
  obtain ⟨a, cap, rfl, hcap, hq⟩ := row_eq.1 hr
  clear hr hf ih hq hce hcap
  unfold Nd.val at HRE
  unfold Nd.val
  generalize hW0 : (w.alloc (.cells #[.int .i64 T.kind, .int .i64 T.num, .string T.name, .slice a T.len cap] 37)).alloc (.cells #[.int .i64 0, .int .i64 0, .string ⟨#[]⟩, .slice none 0 0] 37) = W0
  have HB0 : Hid (Below w.heap.size w W0) := by rw [← hW0]; exact ((Below.refl _ _).alloc (Nat.le_refl _) _).alloc (by simp) _
  have HZ0 : Hid (W0.heap.size = w.heap.size + 1 + 1) := by unfold Hid; rw [← hW0]; simp
  have HC0 : Hid ((W0.cell? ⟨w.heap.size, 0, none⟩ = some (.int .i64 T.kind) ∧ W0.cell? ⟨w.heap.size, 1, none⟩ = some (.int .i64 T.num) ∧ W0.cell? ⟨w.heap.size, 2, none⟩ = some (.string T.name) ∧ W0.cell? ⟨w.heap.size, 3, none⟩ = some (.slice a T.len cap)) ∧
      (W0.cell? ⟨w.heap.size + 1, 0, none⟩ = some (.int .i64 0) ∧ W0.cell? ⟨w.heap.size + 1, 1, none⟩ = some (.int .i64 0) ∧ W0.cell? ⟨w.heap.size + 1, 2, none⟩ = some (.string ⟨#[]⟩) ∧ W0.cell? ⟨w.heap.size + 1, 3, none⟩ = some (.slice none 0 0)) ∧ (∀ o, W0.frozen? ⟨w.heap.size, o, none⟩ = false) ∧ ∀ o, W0.frozen? ⟨w.heap.size + 1, o, none⟩ = false) := by
    rw [← hW0]; unfold Hid; simp [go_sem]
  have HW0 := hid_mk hW0
  clear hW0
  go_enter Tryd.func37, Tryd.ntmps37
  go_wp2_with fail
  rw [HW0.out]
  refine (clone_any T.name W0 (by omega)).mono ?_
  rintro e w1 ⟨rfl, hb1⟩
  have hz1 := hb1.size
  obtain ⟨⟨c0, c1, c2, c3⟩, ⟨d0, d1, d2, d3⟩, hfc, hfd⟩ := HC0.out
  have hc : ∀ b o, b < w.heap.size + 1 + 1 → w1.cell? ⟨b, o, none⟩ = W0.cell? ⟨b, o, none⟩ := fun b o h => hb1.cell (p := ⟨b, o, none⟩) (show b < W0.heap.size by have := HZ0.out; omega)
  rw [← hc _ _ (by omega)] at c0 c1 c2 c3
  rw [← hc _ _ (by omega)] at d0 d1 d2 d3
  have hfc' : ∀ o, w1.frozen? ⟨w.heap.size, o, none⟩ = false := fun o => (hb1.frozen (p := ⟨w.heap.size, o, none⟩) (show w.heap.size < W0.heap.size by have := HZ0.out; omega)).trans (hfc o)
  have hfd' : ∀ o, w1.frozen? ⟨w.heap.size + 1, o, none⟩ = false := fun o => (hb1.frozen (p := ⟨w.heap.size + 1, o, none⟩) (show w.heap.size + 1 < W0.heap.size by have := HZ0.out; omega)).trans (hfd o)
  have HB1 := hid_mk (HB0.out.trans (hb1.mono (by have := HZ0.out; omega)))
  clear hc hfc hfd hb1
  go_wp2_with fail
  have hbS : Below w.heap.size w (w1.setCell ⟨w.heap.size, 2, none⟩ (.string T.name)) := HB1.out.setCell (p := ⟨w.heap.size, 2, none⟩) (Nat.le_refl _) _
  refine (HRE.out _ hbS).mono ?_
  have hzS : (w1.setCell ⟨w.heap.size, 2, none⟩ (.string T.name)).heap.size = w1.heap.size := by simp only [World.setCell, Array.size_modify]
  have ho : ∀ o, (w1.setCell ⟨w.heap.size, 2, none⟩ (.string T.name)).cell? ⟨w.heap.size + 1, o, none⟩ = w1.cell? ⟨w.heap.size + 1, o, none⟩ := fun o => World.cell?_of_block (a := ⟨w.heap.size + 1, o, none⟩) (Below.heap_setCell _ _ _ _ (by show w.heap.size + 1 ≠ w.heap.size; omega))
  have hof : ∀ o, (w1.setCell ⟨w.heap.size, 2, none⟩ (.string T.name)).frozen? ⟨w.heap.size + 1, o, none⟩ = false := fun o => by simp [go_sem, hfd']
  rw [← ho] at d0 d1 d2 d3
  clear ho hfd' hfc' c0 c1 c2 c3
  rintro e w4 ⟨u, rfl, htr, hb4⟩
  obtain ⟨sa, sc, rfl⟩ := tr_shape htr
  have hz0 := HZ0.out
  rw [hzS] at htr hb4
  have hz4 := hb4.size
  rw [hzS] at hz4
  have hlt : w.heap.size + 1 < w1.heap.size := by omega
  rw [← hb4.cell (p := ⟨w.heap.size + 1, _, none⟩) hlt] at d0 d1 d2 d3
  have hfz4 : ∀ o, w4.frozen? ⟨w.heap.size + 1, o, none⟩ = false := fun o => (hb4.frozen (p := ⟨w.heap.size + 1, o, none⟩) hlt).trans (hof o)
  have HB4 := hid_mk (hbS.trans (hb4.mono (by omega)))
  have HT4 : Hid (Tr w4 T w1.heap.size w4.heap.size (.slice sa T.len sc)) := by
    have h1 := tr_eq.1 htr
    exact tr_eq.2 h1
  clear htr hb4 hof hbS
  rw [show (mapN T T.kids).kind = T.kind from rfl, show (mapN T T.kids).num = T.num from rfl, show (mapN T T.kids).name = T.name from rfl, show (mapN T T.kids).len = T.len from rfl]
  go_wp2
  obtain ⟨p0, p1, p2, p3, _, po, ps, pf⟩ := store4C w4 (w.heap.size + 1) (.int .i64 T.kind) (.int .i64 T.num) (.string T.name) (.slice sa T.len sc) ⟨_, d0⟩ ⟨_, d1⟩ ⟨_, d2⟩ ⟨_, d3⟩
  have hbV : Below w.heap.size w ((((w4.setCell ⟨w.heap.size + 1, 0, none⟩ (.int .i64 T.kind)).setCell ⟨w.heap.size + 1, 1, none⟩ (.int .i64 T.num)).setCell ⟨w.heap.size + 1, 2, none⟩ (.string T.name)).setCell ⟨w.heap.size + 1, 3, none⟩ (.slice sa T.len sc)) :=
    (((HB4.out.setCell (p := ⟨w.heap.size + 1, 0, none⟩) (Nat.le_succ _) _).setCell (p := ⟨w.heap.size + 1, 1, none⟩) (Nat.le_succ _) _).setCell (p := ⟨w.heap.size + 1, 2, none⟩) (Nat.le_succ _) _).setCell (p := ⟨w.heap.size + 1, 3, none⟩) (Nat.le_succ _) _
  have htr : Tr ((((w4.setCell ⟨w.heap.size + 1, 0, none⟩ (.int .i64 T.kind)).setCell ⟨w.heap.size + 1, 1, none⟩ (.int .i64 T.num)).setCell ⟨w.heap.size + 1, 2, none⟩ (.string T.name)).setCell ⟨w.heap.size + 1, 3, none⟩ (.slice sa T.len sc)) T w.heap.size w4.heap.size (.slice sa T.len sc) :=
    tr_wide (tr_keep (fun k k1 k2 => po k (by omega)) HT4.out) (by omega) (Nat.le_refl _)
  revert p0 p1 p2 p3 po ps pf hbV htr
  generalize (((w4.setCell ⟨w.heap.size + 1, 0, none⟩ (.int .i64 T.kind)).setCell ⟨w.heap.size + 1, 1, none⟩ (.int .i64 T.num)).setCell ⟨w.heap.size + 1, 2, none⟩ (.string T.name)).setCell ⟨w.heap.size + 1, 3, none⟩ (.slice sa T.len sc) = X
  intro p0 p1 p2 p3 po ps pf hbV htr
  exact bodyPost_ret (v := .agg #[.int .i64 T.kind, .int .i64 T.num, .string T.name, .slice sa T.len sc]) (by simp [results, Tryd.results37, go_sem, p0, p1, p2, p3]) rfl ⟨.slice sa T.len sc, rfl, by rw [ps]; exact htr, hbV⟩

theorem copied_any (T : Nd) : CpC T := by
  induction T with
  | nil => exact copied_of _ fun i hi => absurd hi (Nat.not_lt_zero i)
  | mk k n s len kids ih => exact copied_of _ fun i _ => ih i
end Go.Proofs.YtjgbjahcnnjfpaaDoor
namespace Go.Proofs.YtjgbjahcnnjfpaaDoor
open Go.RowKit

def chT (T : Nd) (sel : Int) : Nd := if wovB T = true then (if 0 ≤ sel ∧ sel ≤ wovN T then chooseT sel T else .nil) else .nil
def chC (T : Nd) (sel : Int) : Int := if wovB T = true then (if 0 ≤ sel ∧ sel ≤ wovN T then 0 else 11) else 1
theorem ch_sub (T : Nd) (sel : Int) : (chT T sel).cost ≤ T.cost ∧ (chT T sel).size ≤ T.size ∧ (T.Fine → (chT T sel).Fine) := by
  have hn : (Nd.nil).cost ≤ T.cost ∧ (Nd.nil).size ≤ T.size ∧ (T.Fine → (Nd.nil).Fine) := ⟨Nat.zero_le _, size_pos T, fun _ => trivial⟩
  unfold chT
  split
  · split
    · exact choose_sub sel T
    · exact hn
  · exact hn

set_option maxHeartbeats 4000000 in
theorem impl_choose (T : Nd) (sel : Int) (w : World) (v : Value) (hf : T.Fine) (hr : Row 0 w.heap.size w T v) (hc : T.cost ≤ 1048576) (ht : Tabs w) :
    Calls Tryd.prog 18 #[T.val v, .int .i64 sel] w fun e w' => ∃ u, e = .returned (.tuple #[(chT T sel).val u, .int .i64 (chC T sel)]) ∧ Tr w' (chT T sel) w.heap.size w'.heap.size u ∧ Below w.heap.size w w' := by
  have HW := hid_mk (fun (W : World) (hb : Below w.heap.size w W) => woven_any T W v hf (row_wide (row_below hb (Nat.le_refl _) hr) (Nat.le_refl _) hb.size) hc (tabs_below ht hb))
  have HCH := hid_mk (fun (h0 : 0 ≤ sel) (h1 : sel ≤ 400) (h : ¬ rightT T 1 = -1) (W : World) (hb : Below w.heap.size w W) => chosen_any sel h0 (by omega) T.size T (Nat.le_refl _) W v w.heap.size hf hb.size (row_below hb (Nat.le_refl _) hr) hc (gd_right hc h))
  obtain ⟨sc1, sc2, sc3⟩ := choose_sub sel T
  have HCP := hid_mk (fun (W : World) (u : Value) (hrw : Row 0 W.heap.size W (chooseT sel T) u) => copied_any (chooseT sel T) W u W.heap.size (sc3 hf) (Nat.le_refl _) hrw (by omega))
  have HP := hid_mk (@wov_parts T)
  have HWY := hid_mk (@wov_ways T)
  have HT0 : Hid (wovB T = false → chT T sel = .nil ∧ chC T sel = 1) := fun h => by unfold chT chC; rw [h]; simp
  have HT1 : Hid (wovB T = true → ¬ (0 ≤ sel ∧ sel ≤ wovN T) → chT T sel = .nil ∧ chC T sel = 11) := fun h h2 => by unfold chT chC; rw [if_pos h, if_pos h, if_neg h2, if_neg h2]; exact ⟨rfl, rfl⟩
  have HT2 : Hid (wovB T = true → (0 ≤ sel ∧ sel ≤ wovN T) → chT T sel = chooseT sel T ∧ chC T sel = 0) := fun h h2 => by unfold chT chC; rw [if_pos h, if_pos h, if_pos h2, if_pos h2]; exact ⟨rfl, rfl⟩
  obtain ⟨a, cap, rfl, hcap, hq⟩ := row_eq.1 hr
  unfold Nd.val at HW HCH HCP
  clear hr hf hq hcap ht sc1 sc2 sc3
  unfold Nd.val
  generalize hW0 : (w.alloc (.cells #[.int .i64 T.kind, .int .i64 T.num, .string T.name, .slice a T.len cap] 37)).alloc (.cells #[.int .i64 0, .int .i64 0, .string ⟨#[]⟩, .slice none 0 0] 37) = W0
  have HB0 : Hid (Below w.heap.size w W0) := by rw [← hW0]; exact ((Below.refl _ _).alloc (Nat.le_refl _) _).alloc (by simp) _
  have HZ0 : Hid (W0.heap.size = w.heap.size + 1 + 1) := by unfold Hid; rw [← hW0]; simp
  have HF0 : Hid ((W0.cell? ⟨w.heap.size, 0, none⟩ = some (.int .i64 T.kind) ∧ W0.cell? ⟨w.heap.size, 1, none⟩ = some (.int .i64 T.num) ∧ W0.cell? ⟨w.heap.size, 2, none⟩ = some (.string T.name) ∧ W0.cell? ⟨w.heap.size, 3, none⟩ = some (.slice a T.len cap)) ∧
      (W0.cell? ⟨w.heap.size + 1, 0, none⟩ = some (.int .i64 0) ∧ W0.cell? ⟨w.heap.size + 1, 1, none⟩ = some (.int .i64 0) ∧ W0.cell? ⟨w.heap.size + 1, 2, none⟩ = some (.string ⟨#[]⟩) ∧ W0.cell? ⟨w.heap.size + 1, 3, none⟩ = some (.slice none 0 0)) ∧ ∀ o, W0.frozen? ⟨w.heap.size + 1, o, none⟩ = false) := by
    rw [← hW0]; unfold Hid; simp [go_sem]
  have HW0 := hid_mk hW0
  clear hW0
  have HFB : Hid (∀ W, Below W0.heap.size W0 W → (W.cell? ⟨w.heap.size, 0, none⟩ = some (.int .i64 T.kind) ∧ W.cell? ⟨w.heap.size, 1, none⟩ = some (.int .i64 T.num) ∧ W.cell? ⟨w.heap.size, 2, none⟩ = some (.string T.name) ∧ W.cell? ⟨w.heap.size, 3, none⟩ = some (.slice a T.len cap)) ∧
      (W.cell? ⟨w.heap.size + 1, 0, none⟩ = some (.int .i64 0) ∧ W.cell? ⟨w.heap.size + 1, 1, none⟩ = some (.int .i64 0) ∧ W.cell? ⟨w.heap.size + 1, 2, none⟩ = some (.string ⟨#[]⟩) ∧ W.cell? ⟨w.heap.size + 1, 3, none⟩ = some (.slice none 0 0)) ∧ ∀ o, W.frozen? ⟨w.heap.size + 1, o, none⟩ = false) := fun W hb => by
    have hz := HZ0.out
    have hc : ∀ b o, b < w.heap.size + 1 + 1 → W.cell? ⟨b, o, none⟩ = W0.cell? ⟨b, o, none⟩ := fun b o h => hb.cell (p := ⟨b, o, none⟩) (show b < W0.heap.size by omega)
    obtain ⟨⟨h0, h1, h2, h3⟩, ⟨g0, g1, g2, g3⟩, hf⟩ := HF0.out
    exact ⟨⟨(hc _ _ (by omega)).trans h0, (hc _ _ (by omega)).trans h1, (hc _ _ (by omega)).trans h2, (hc _ _ (by omega)).trans h3⟩, ⟨(hc _ _ (by omega)).trans g0, (hc _ _ (by omega)).trans g1, (hc _ _ (by omega)).trans g2, (hc _ _ (by omega)).trans g3⟩, fun o => (hb.frozen (p := ⟨w.heap.size + 1, o, none⟩) (show w.heap.size + 1 < W0.heap.size by omega)).trans (hf o)⟩
  cases hb : wovB T
  · obtain ⟨h1, h2⟩ := HT0.out hb
    rw [h1, h2]
    rw [hb] at HW
    rw [show (Nd.nil).kind = 0 from rfl, show (Nd.nil).num = 0 from rfl, show (Nd.nil).name = ⟨#[]⟩ from rfl]
    clear h1 h2 HT0 HT1 HT2 HCH HCP HP HWY hb
    generalize wovN T = n at *
    go_enter Tryd.func18, Tryd.ntmps18
    go_wp2_with (go_at_call 34; rw [HW0.out]; refine (HW.out _ HB0.out).mono ?_; rintro e w1 ⟨rfl, hb1⟩; obtain ⟨-, ⟨d0, d1, d2, d3⟩, hfd⟩ := HFB.out _ hb1; have HBE := hid_mk (HB0.out.trans (hb1.mono (by have := HZ0.out; omega))); clear hb1)
    obtain ⟨p0, p1, p2, p3, _, po, ps, pf⟩ := store4C w1 (w.heap.size + 1) (.int .i64 0) (.int .i64 0) (.string ⟨#[]⟩) (.slice none 0 0) ⟨_, d0⟩ ⟨_, d1⟩ ⟨_, d2⟩ ⟨_, d3⟩
    have hbV : Below w.heap.size w ((((w1.setCell ⟨w.heap.size + 1, 0, none⟩ (.int .i64 0)).setCell ⟨w.heap.size + 1, 1, none⟩ (.int .i64 0)).setCell ⟨w.heap.size + 1, 2, none⟩ (.string ⟨#[]⟩)).setCell ⟨w.heap.size + 1, 3, none⟩ (.slice none 0 0)) :=
      (((HBE.out.setCell (p := ⟨w.heap.size + 1, 0, none⟩) (Nat.le_succ _) _).setCell (p := ⟨w.heap.size + 1, 1, none⟩) (Nat.le_succ _) _).setCell (p := ⟨w.heap.size + 1, 2, none⟩) (Nat.le_succ _) _).setCell (p := ⟨w.heap.size + 1, 3, none⟩) (Nat.le_succ _) _
    revert p0 p1 p2 p3 po ps pf hbV
    generalize (((w1.setCell ⟨w.heap.size + 1, 0, none⟩ (.int .i64 0)).setCell ⟨w.heap.size + 1, 1, none⟩ (.int .i64 0)).setCell ⟨w.heap.size + 1, 2, none⟩ (.string ⟨#[]⟩)).setCell ⟨w.heap.size + 1, 3, none⟩ (.slice none 0 0) = Y
    intro p0 p1 p2 p3 po ps pf hbV
    exact bodyPost_ret (v := .tuple #[.agg #[.int .i64 0, .int .i64 0, .string ⟨#[]⟩, .slice none 0 0], .int .i64 1]) (by simp [results, Tryd.results18, go_sem, p0, p1, p2, p3]) rfl ⟨.slice none 0 0, rfl, ⟨none, 0, rfl, by omega, by omega⟩, hbV⟩
  obtain ⟨hrn, hr4⟩ := HP.out hb
  obtain ⟨hw1, hw2, hw3⟩ := HWY.out hb
  by_cases hin : 0 ≤ sel ∧ sel ≤ wovN T
  · obtain ⟨h1, h2⟩ := HT2.out hb hin
    rw [h1, h2]
    rw [hb] at HW
    have HCC := hid_mk (HCH.out hin.1 (by omega) hrn)
    clear h1 h2 HT0 HT1 HT2 HCH HP HWY hb hrn hr4
    obtain ⟨hin1, hin2⟩ := hin
    rw [hw1] at hin2 HW
    clear hw1
    generalize waysT T = n at *
    generalize chooseT sel T = C at *
    go_enter Tryd.func18, Tryd.ntmps18
    go_wp2_with (first
      | (go_at_call 34; rw [HW0.out]; refine (HW.out _ HB0.out).mono ?_; rintro e w1 ⟨rfl, hb1⟩; obtain ⟨⟨q0, q1, q2, q3⟩, -, -⟩ := HFB.out _ hb1; have HL1 := hid_mk hb1; have hz1 := hb1.size; have HB1 := hid_mk (HB0.out.trans (hb1.mono (by have := HZ0.out; omega))); clear hb1)
      | (go_at_call 38; refine (HCC.out _ HB1.out).mono ?_; rintro e w2 ⟨u2, rfl, ht2, hb2⟩; obtain ⟨a2, c2, rfl⟩ := tr_shape ht2; have HR2 := hid_mk (row_wide (tr_row ht2) (Nat.zero_le _) (Nat.le_refl _)); have hz2 := hb2.size; have HL2 := hid_mk (HL1.out.trans (hb2.mono hz1)); have HB2 := hid_mk (HB1.out.trans (hb2.mono (by have := HZ0.out; omega))); clear hb2 ht2)
      | (go_at_call 37; refine (HCP.out _ _ HR2.out).mono ?_; rintro e w3 ⟨u3, rfl, ht3, hb3⟩; obtain ⟨sa, sc, rfl⟩ := tr_shape ht3; have HTE := hid_mk ht3; have hz3 := hb3.size; have HBE := hid_mk (HB2.out.trans (hb3.mono (by have := HZ0.out; omega))); obtain ⟨-, ⟨d0, d1, d2, d3⟩, hfd⟩ := HFB.out _ (HL2.out.trans (hb3.mono (Nat.le_trans hz1 hz2))); clear hb3 ht3))
    have hz0 := HZ0.out
    obtain ⟨p0, p1, p2, p3, _, po, ps, pf⟩ := store4C w3 (w.heap.size + 1) (.int .i64 C.kind) (.int .i64 C.num) (.string C.name) (.slice sa C.len sc) ⟨_, d0⟩ ⟨_, d1⟩ ⟨_, d2⟩ ⟨_, d3⟩
    have hbV : Below w.heap.size w ((((w3.setCell ⟨w.heap.size + 1, 0, none⟩ (.int .i64 C.kind)).setCell ⟨w.heap.size + 1, 1, none⟩ (.int .i64 C.num)).setCell ⟨w.heap.size + 1, 2, none⟩ (.string C.name)).setCell ⟨w.heap.size + 1, 3, none⟩ (.slice sa C.len sc)) :=
      (((HBE.out.setCell (p := ⟨w.heap.size + 1, 0, none⟩) (Nat.le_succ _) _).setCell (p := ⟨w.heap.size + 1, 1, none⟩) (Nat.le_succ _) _).setCell (p := ⟨w.heap.size + 1, 2, none⟩) (Nat.le_succ _) _).setCell (p := ⟨w.heap.size + 1, 3, none⟩) (Nat.le_succ _) _
    have htr : Tr ((((w3.setCell ⟨w.heap.size + 1, 0, none⟩ (.int .i64 C.kind)).setCell ⟨w.heap.size + 1, 1, none⟩ (.int .i64 C.num)).setCell ⟨w.heap.size + 1, 2, none⟩ (.string C.name)).setCell ⟨w.heap.size + 1, 3, none⟩ (.slice sa C.len sc)) C w.heap.size w3.heap.size (.slice sa C.len sc) :=
      tr_wide (tr_keep (fun k k1 k2 => po k (by omega)) HTE.out) (by omega) (Nat.le_refl _)
    revert p0 p1 p2 p3 po ps pf hbV htr
    generalize (((w3.setCell ⟨w.heap.size + 1, 0, none⟩ (.int .i64 C.kind)).setCell ⟨w.heap.size + 1, 1, none⟩ (.int .i64 C.num)).setCell ⟨w.heap.size + 1, 2, none⟩ (.string C.name)).setCell ⟨w.heap.size + 1, 3, none⟩ (.slice sa C.len sc) = Y
    intro p0 p1 p2 p3 po ps pf hbV htr
    exact bodyPost_ret (v := .tuple #[.agg #[.int .i64 C.kind, .int .i64 C.num, .string C.name, .slice sa C.len sc], .int .i64 0]) (by simp [results, Tryd.results18, go_sem, p0, p1, p2, p3]) rfl ⟨.slice sa C.len sc, rfl, by rw [ps]; exact htr, hbV⟩
  · obtain ⟨h1, h2⟩ := HT1.out hb hin
    rw [h1, h2]
    rw [hb] at HW
    rw [show (Nd.nil).kind = 0 from rfl, show (Nd.nil).num = 0 from rfl, show (Nd.nil).name = ⟨#[]⟩ from rfl]
    clear h1 h2 HT0 HT1 HT2 HCH HCP HP HWY hb hrn hr4
    rw [hw1] at hin HW
    clear hw1
    generalize waysT T = n at *
    by_cases hs0 : sel < 0
    · clear hin
      go_enter Tryd.func18, Tryd.ntmps18
      go_wp2_with (go_at_call 34; rw [HW0.out]; refine (HW.out _ HB0.out).mono ?_; rintro e w1 ⟨rfl, hb1⟩; obtain ⟨-, ⟨d0, d1, d2, d3⟩, hfd⟩ := HFB.out _ hb1; have HBE := hid_mk (HB0.out.trans (hb1.mono (by have := HZ0.out; omega))); clear hb1)
      obtain ⟨p0, p1, p2, p3, _, po, ps, pf⟩ := store4C w1 (w.heap.size + 1) (.int .i64 0) (.int .i64 0) (.string ⟨#[]⟩) (.slice none 0 0) ⟨_, d0⟩ ⟨_, d1⟩ ⟨_, d2⟩ ⟨_, d3⟩
      have hbV : Below w.heap.size w ((((w1.setCell ⟨w.heap.size + 1, 0, none⟩ (.int .i64 0)).setCell ⟨w.heap.size + 1, 1, none⟩ (.int .i64 0)).setCell ⟨w.heap.size + 1, 2, none⟩ (.string ⟨#[]⟩)).setCell ⟨w.heap.size + 1, 3, none⟩ (.slice none 0 0)) :=
        (((HBE.out.setCell (p := ⟨w.heap.size + 1, 0, none⟩) (Nat.le_succ _) _).setCell (p := ⟨w.heap.size + 1, 1, none⟩) (Nat.le_succ _) _).setCell (p := ⟨w.heap.size + 1, 2, none⟩) (Nat.le_succ _) _).setCell (p := ⟨w.heap.size + 1, 3, none⟩) (Nat.le_succ _) _
      revert p0 p1 p2 p3 po ps pf hbV
      generalize (((w1.setCell ⟨w.heap.size + 1, 0, none⟩ (.int .i64 0)).setCell ⟨w.heap.size + 1, 1, none⟩ (.int .i64 0)).setCell ⟨w.heap.size + 1, 2, none⟩ (.string ⟨#[]⟩)).setCell ⟨w.heap.size + 1, 3, none⟩ (.slice none 0 0) = Y
      intro p0 p1 p2 p3 po ps pf hbV
      exact bodyPost_ret (v := .tuple #[.agg #[.int .i64 0, .int .i64 0, .string ⟨#[]⟩, .slice none 0 0], .int .i64 11]) (by simp [results, Tryd.results18, go_sem, p0, p1, p2, p3]) rfl ⟨.slice none 0 0, rfl, ⟨none, 0, rfl, by omega, by omega⟩, hbV⟩
    · have hs1 : n < sel := by omega
      clear hin
      go_enter Tryd.func18, Tryd.ntmps18
      go_wp2_with (go_at_call 34; rw [HW0.out]; refine (HW.out _ HB0.out).mono ?_; rintro e w1 ⟨rfl, hb1⟩; obtain ⟨-, ⟨d0, d1, d2, d3⟩, hfd⟩ := HFB.out _ hb1; have HBE := hid_mk (HB0.out.trans (hb1.mono (by have := HZ0.out; omega))); clear hb1)
      obtain ⟨p0, p1, p2, p3, _, po, ps, pf⟩ := store4C w1 (w.heap.size + 1) (.int .i64 0) (.int .i64 0) (.string ⟨#[]⟩) (.slice none 0 0) ⟨_, d0⟩ ⟨_, d1⟩ ⟨_, d2⟩ ⟨_, d3⟩
      have hbV : Below w.heap.size w ((((w1.setCell ⟨w.heap.size + 1, 0, none⟩ (.int .i64 0)).setCell ⟨w.heap.size + 1, 1, none⟩ (.int .i64 0)).setCell ⟨w.heap.size + 1, 2, none⟩ (.string ⟨#[]⟩)).setCell ⟨w.heap.size + 1, 3, none⟩ (.slice none 0 0)) :=
        (((HBE.out.setCell (p := ⟨w.heap.size + 1, 0, none⟩) (Nat.le_succ _) _).setCell (p := ⟨w.heap.size + 1, 1, none⟩) (Nat.le_succ _) _).setCell (p := ⟨w.heap.size + 1, 2, none⟩) (Nat.le_succ _) _).setCell (p := ⟨w.heap.size + 1, 3, none⟩) (Nat.le_succ _) _
      revert p0 p1 p2 p3 po ps pf hbV
      generalize (((w1.setCell ⟨w.heap.size + 1, 0, none⟩ (.int .i64 0)).setCell ⟨w.heap.size + 1, 1, none⟩ (.int .i64 0)).setCell ⟨w.heap.size + 1, 2, none⟩ (.string ⟨#[]⟩)).setCell ⟨w.heap.size + 1, 3, none⟩ (.slice none 0 0) = Y
      intro p0 p1 p2 p3 po ps pf hbV
      exact bodyPost_ret (v := .tuple #[.agg #[.int .i64 0, .int .i64 0, .string ⟨#[]⟩, .slice none 0 0], .int .i64 11]) (by simp [results, Tryd.results18, go_sem, p0, p1, p2, p3]) rfl ⟨.slice none 0 0, rfl, ⟨none, 0, rfl, by omega, by omega⟩, hbV⟩

set_option maxHeartbeats 4000000 in
theorem spec_choose (T : Nd) (sel : Int) (w : World) (v : Value) (hi : Nat) (hf : T.Fine) (hhi : hi ≤ w.heap.size) (hr : Row 0 hi w T v) (hc : T.cost ≤ 1048576) (ha : -9223372036854775808 ≤ sel ∧ sel ≤ 9223372036854775807) :
    Calls Tryd.prog 17 #[T.val v, .int .i64 sel] w fun e w' => ∃ u, e = .returned (.tuple #[(chT T sel).val u, .int .i64 (chC T sel)]) ∧ Tr w' (chT T sel) w.heap.size w'.heap.size u ∧ Below w.heap.size w w' := by
  have HW := hid_mk (fun (W : World) (hb : Below w.heap.size w W) => spec_woven T W v hi hf (Nat.le_trans hhi hb.size) (row_below hb hhi hr) hc)
  have HCN := hid_mk (fun (W : World) (hb : Below w.heap.size w W) => count_any T W v hi hf (Nat.le_trans hhi hb.size) (row_below hb hhi hr) hc)
  have HCH := hid_mk (fun (h0 : 0 ≤ sel) (h1 : sel ≤ 400) (h : ¬ rightT T 1 = -1) (W : World) (hb : Below w.heap.size w W) => chooseS_any sel h0 (by omega) T W v hi hf (Nat.le_trans hhi hb.size) (row_below hb hhi hr) hc (gd_right hc h))
  have HP := hid_mk (@wov_parts T)
  have HWY := hid_mk (@wov_ways T)
  have HT0 : Hid (wovB T = false → chT T sel = .nil ∧ chC T sel = 1) := fun h => by unfold chT chC; rw [h]; simp
  have HT1 : Hid (wovB T = true → ¬ (0 ≤ sel ∧ sel ≤ wovN T) → chT T sel = .nil ∧ chC T sel = 11) := fun h h2 => by unfold chT chC; rw [if_pos h, if_pos h, if_neg h2, if_neg h2]; exact ⟨rfl, rfl⟩
  have HT2 : Hid (wovB T = true → (0 ≤ sel ∧ sel ≤ wovN T) → chT T sel = chooseT sel T ∧ chC T sel = 0) := fun h h2 => by unfold chT chC; rw [if_pos h, if_pos h, if_pos h2, if_pos h2]; exact ⟨rfl, rfl⟩
  obtain ⟨a, cap, rfl, hcap, hq⟩ := row_eq.1 hr
  unfold Nd.val at HW HCN HCH
  clear hr hf hq hcap
  unfold Nd.val
  generalize hW0 : (w.alloc (.cells #[.int .i64 T.kind, .int .i64 T.num, .string T.name, .slice a T.len cap] 37)).alloc (.cells #[.int .i64 0, .int .i64 0, .string ⟨#[]⟩, .slice none 0 0] 37) = W0
  have HB0 : Hid (Below w.heap.size w W0) := by rw [← hW0]; exact ((Below.refl _ _).alloc (Nat.le_refl _) _).alloc (by simp) _
  have HZ0 : Hid (W0.heap.size = w.heap.size + 1 + 1) := by unfold Hid; rw [← hW0]; simp
  have HF0 : Hid ((W0.cell? ⟨w.heap.size, 0, none⟩ = some (.int .i64 T.kind) ∧ W0.cell? ⟨w.heap.size, 1, none⟩ = some (.int .i64 T.num) ∧ W0.cell? ⟨w.heap.size, 2, none⟩ = some (.string T.name) ∧ W0.cell? ⟨w.heap.size, 3, none⟩ = some (.slice a T.len cap)) ∧
      (W0.cell? ⟨w.heap.size + 1, 0, none⟩ = some (.int .i64 0) ∧ W0.cell? ⟨w.heap.size + 1, 1, none⟩ = some (.int .i64 0) ∧ W0.cell? ⟨w.heap.size + 1, 2, none⟩ = some (.string ⟨#[]⟩) ∧ W0.cell? ⟨w.heap.size + 1, 3, none⟩ = some (.slice none 0 0)) ∧ ∀ o, W0.frozen? ⟨w.heap.size + 1, o, none⟩ = false) := by
    rw [← hW0]; unfold Hid; simp [go_sem]
  have HW0 := hid_mk hW0
  clear hW0
  have HFB : Hid (∀ W, Below W0.heap.size W0 W → (W.cell? ⟨w.heap.size, 0, none⟩ = some (.int .i64 T.kind) ∧ W.cell? ⟨w.heap.size, 1, none⟩ = some (.int .i64 T.num) ∧ W.cell? ⟨w.heap.size, 2, none⟩ = some (.string T.name) ∧ W.cell? ⟨w.heap.size, 3, none⟩ = some (.slice a T.len cap)) ∧
      (W.cell? ⟨w.heap.size + 1, 0, none⟩ = some (.int .i64 0) ∧ W.cell? ⟨w.heap.size + 1, 1, none⟩ = some (.int .i64 0) ∧ W.cell? ⟨w.heap.size + 1, 2, none⟩ = some (.string ⟨#[]⟩) ∧ W.cell? ⟨w.heap.size + 1, 3, none⟩ = some (.slice none 0 0)) ∧ ∀ o, W.frozen? ⟨w.heap.size + 1, o, none⟩ = false) := fun W hb => by
    have hz := HZ0.out
    have hc : ∀ b o, b < w.heap.size + 1 + 1 → W.cell? ⟨b, o, none⟩ = W0.cell? ⟨b, o, none⟩ := fun b o h => hb.cell (p := ⟨b, o, none⟩) (show b < W0.heap.size by omega)
    obtain ⟨⟨h0, h1, h2, h3⟩, ⟨g0, g1, g2, g3⟩, hf⟩ := HF0.out
    exact ⟨⟨(hc _ _ (by omega)).trans h0, (hc _ _ (by omega)).trans h1, (hc _ _ (by omega)).trans h2, (hc _ _ (by omega)).trans h3⟩, ⟨(hc _ _ (by omega)).trans g0, (hc _ _ (by omega)).trans g1, (hc _ _ (by omega)).trans g2, (hc _ _ (by omega)).trans g3⟩, fun o => (hb.frozen (p := ⟨w.heap.size + 1, o, none⟩) (show w.heap.size + 1 < W0.heap.size by omega)).trans (hf o)⟩
  cases hb : wovB T
  · obtain ⟨h1, h2⟩ := HT0.out hb
    rw [h1, h2]
    rw [hb] at HW
    rw [show (Nd.nil).kind = 0 from rfl, show (Nd.nil).num = 0 from rfl, show (Nd.nil).name = ⟨#[]⟩ from rfl]
    clear h1 h2 HT0 HT1 HT2 HCH HCN HP HWY hb
    go_enter Tryd.func17, Tryd.ntmps17
    go_wp2_with (go_at_call 13; rw [HW0.out]; refine (HW.out _ HB0.out).mono ?_; rintro e w1 ⟨rfl, hb1⟩; obtain ⟨-, ⟨d0, d1, d2, d3⟩, hfd⟩ := HFB.out _ hb1; have HBE := hid_mk (HB0.out.trans (hb1.mono (by have := HZ0.out; omega))); clear hb1)
    obtain ⟨p0, p1, p2, p3, _, po, ps, pf⟩ := store4C w1 (w.heap.size + 1) (.int .i64 0) (.int .i64 0) (.string ⟨#[]⟩) (.slice none 0 0) ⟨_, d0⟩ ⟨_, d1⟩ ⟨_, d2⟩ ⟨_, d3⟩
    have hbV : Below w.heap.size w ((((w1.setCell ⟨w.heap.size + 1, 0, none⟩ (.int .i64 0)).setCell ⟨w.heap.size + 1, 1, none⟩ (.int .i64 0)).setCell ⟨w.heap.size + 1, 2, none⟩ (.string ⟨#[]⟩)).setCell ⟨w.heap.size + 1, 3, none⟩ (.slice none 0 0)) :=
      (((HBE.out.setCell (p := ⟨w.heap.size + 1, 0, none⟩) (Nat.le_succ _) _).setCell (p := ⟨w.heap.size + 1, 1, none⟩) (Nat.le_succ _) _).setCell (p := ⟨w.heap.size + 1, 2, none⟩) (Nat.le_succ _) _).setCell (p := ⟨w.heap.size + 1, 3, none⟩) (Nat.le_succ _) _
    revert p0 p1 p2 p3 po ps pf hbV
    generalize (((w1.setCell ⟨w.heap.size + 1, 0, none⟩ (.int .i64 0)).setCell ⟨w.heap.size + 1, 1, none⟩ (.int .i64 0)).setCell ⟨w.heap.size + 1, 2, none⟩ (.string ⟨#[]⟩)).setCell ⟨w.heap.size + 1, 3, none⟩ (.slice none 0 0) = Y
    intro p0 p1 p2 p3 po ps pf hbV
    exact bodyPost_ret (v := .tuple #[.agg #[.int .i64 0, .int .i64 0, .string ⟨#[]⟩, .slice none 0 0], .int .i64 1]) (by simp [results, Tryd.results17, go_sem, p0, p1, p2, p3]) rfl ⟨.slice none 0 0, rfl, ⟨none, 0, rfl, by omega, by omega⟩, hbV⟩
  obtain ⟨hrn, hr4⟩ := HP.out hb
  obtain ⟨hw1, hw2, hw3⟩ := HWY.out hb
  have HC2 := hid_mk (fun (W : World) (hb : Below w.heap.size w W) => HCN.out W hb)
  by_cases hin : 0 ≤ sel ∧ sel ≤ wovN T
  · obtain ⟨h1, h2⟩ := HT2.out hb hin
    rw [h1, h2]
    rw [hb] at HW
    have HCC := hid_mk (HCH.out hin.1 (by omega) hrn)
    clear h1 h2 HT0 HT1 HT2 HCH HP HWY hb hrn hr4 HCN
    obtain ⟨hin1, hin2⟩ := hin
    rw [hw1] at hin2
    clear hw1
    generalize waysT T = n at *
    generalize picksT T = m at *
    generalize chooseT sel T = C at *
    go_enter Tryd.func17, Tryd.ntmps17
    go_wp2_with (first
      | (go_at_call 13; rw [HW0.out]; refine (HW.out _ HB0.out).mono ?_; rintro e w1 ⟨rfl, hb1⟩; obtain ⟨⟨q0, q1, q2, q3⟩, -, -⟩ := HFB.out _ hb1; have HL1 := hid_mk hb1; have hz1 := hb1.size; have HB1 := hid_mk (HB0.out.trans (hb1.mono (by have := HZ0.out; omega))); clear hb1)
      | (go_at_call 36; refine (HC2.out _ HB1.out).mono ?_; rintro e w2 ⟨rfl, hb2⟩; have hz2 := hb2.size; have HL2 := hid_mk (HL1.out.trans (hb2.mono hz1)); have HB2 := hid_mk (HB1.out.trans (hb2.mono (by have := HZ0.out; omega))); clear q0 q1 q2 q3; obtain ⟨⟨q0, q1, q2, q3⟩, -, -⟩ := HFB.out _ HL2.out; clear hb2)
      | (go_at_call 32; refine (HCC.out _ HB2.out).mono ?_; rintro e w3 ⟨u3, rfl, ht3, hb3⟩; obtain ⟨sa, sc, rfl⟩ := tr_shape ht3; have HTE := hid_mk ht3; have hz3 := hb3.size; have HBE := hid_mk (HB2.out.trans (hb3.mono (by have := HZ0.out; omega))); obtain ⟨-, ⟨d0, d1, d2, d3⟩, hfd⟩ := HFB.out _ (HL2.out.trans (hb3.mono (Nat.le_trans hz1 hz2))); clear hb3 ht3))
    have hz0 := HZ0.out
    obtain ⟨p0, p1, p2, p3, _, po, ps, pf⟩ := store4C w3 (w.heap.size + 1) (.int .i64 C.kind) (.int .i64 C.num) (.string C.name) (.slice sa C.len sc) ⟨_, d0⟩ ⟨_, d1⟩ ⟨_, d2⟩ ⟨_, d3⟩
    have hbV : Below w.heap.size w ((((w3.setCell ⟨w.heap.size + 1, 0, none⟩ (.int .i64 C.kind)).setCell ⟨w.heap.size + 1, 1, none⟩ (.int .i64 C.num)).setCell ⟨w.heap.size + 1, 2, none⟩ (.string C.name)).setCell ⟨w.heap.size + 1, 3, none⟩ (.slice sa C.len sc)) :=
      (((HBE.out.setCell (p := ⟨w.heap.size + 1, 0, none⟩) (Nat.le_succ _) _).setCell (p := ⟨w.heap.size + 1, 1, none⟩) (Nat.le_succ _) _).setCell (p := ⟨w.heap.size + 1, 2, none⟩) (Nat.le_succ _) _).setCell (p := ⟨w.heap.size + 1, 3, none⟩) (Nat.le_succ _) _
    have htr : Tr ((((w3.setCell ⟨w.heap.size + 1, 0, none⟩ (.int .i64 C.kind)).setCell ⟨w.heap.size + 1, 1, none⟩ (.int .i64 C.num)).setCell ⟨w.heap.size + 1, 2, none⟩ (.string C.name)).setCell ⟨w.heap.size + 1, 3, none⟩ (.slice sa C.len sc)) C w.heap.size w3.heap.size (.slice sa C.len sc) :=
      tr_wide (tr_keep (fun k k1 k2 => po k (by omega)) HTE.out) (by omega) (Nat.le_refl _)
    revert p0 p1 p2 p3 po ps pf hbV htr
    generalize (((w3.setCell ⟨w.heap.size + 1, 0, none⟩ (.int .i64 C.kind)).setCell ⟨w.heap.size + 1, 1, none⟩ (.int .i64 C.num)).setCell ⟨w.heap.size + 1, 2, none⟩ (.string C.name)).setCell ⟨w.heap.size + 1, 3, none⟩ (.slice sa C.len sc) = Y
    intro p0 p1 p2 p3 po ps pf hbV htr
    exact bodyPost_ret (v := .tuple #[.agg #[.int .i64 C.kind, .int .i64 C.num, .string C.name, .slice sa C.len sc], .int .i64 0]) (by simp [results, Tryd.results17, go_sem, p0, p1, p2, p3]) rfl ⟨.slice sa C.len sc, rfl, by rw [ps]; exact htr, hbV⟩
  · obtain ⟨h1, h2⟩ := HT1.out hb hin
    rw [h1, h2]
    rw [hb] at HW
    rw [show (Nd.nil).kind = 0 from rfl, show (Nd.nil).num = 0 from rfl, show (Nd.nil).name = ⟨#[]⟩ from rfl]
    clear h1 h2 HT0 HT1 HT2 HCH HP HWY hb hrn hr4 HCN
    rw [hw1] at hin
    clear hw1
    generalize waysT T = n at *
    generalize picksT T = m at *
    by_cases hs0 : sel < 0
    · clear hin
      go_enter Tryd.func17, Tryd.ntmps17
      go_wp2_with (first
        | (go_at_call 13; rw [HW0.out]; refine (HW.out _ HB0.out).mono ?_; rintro e w1 ⟨rfl, hb1⟩; obtain ⟨⟨q0, q1, q2, q3⟩, -, -⟩ := HFB.out _ hb1; have HL1 := hid_mk hb1; have hz1 := hb1.size; have HB1 := hid_mk (HB0.out.trans (hb1.mono (by have := HZ0.out; omega))); clear hb1)
        | (go_at_call 36; refine (HC2.out _ HB1.out).mono ?_; rintro e w2 ⟨rfl, hb2⟩; have HBE := hid_mk (HB1.out.trans (hb2.mono (by have := HZ0.out; omega))); obtain ⟨-, ⟨d0, d1, d2, d3⟩, hfd⟩ := HFB.out _ (HL1.out.trans (hb2.mono hz1)); clear hb2))
      obtain ⟨p0, p1, p2, p3, _, po, ps, pf⟩ := store4C w2 (w.heap.size + 1) (.int .i64 0) (.int .i64 0) (.string ⟨#[]⟩) (.slice none 0 0) ⟨_, d0⟩ ⟨_, d1⟩ ⟨_, d2⟩ ⟨_, d3⟩
      have hbV : Below w.heap.size w ((((w2.setCell ⟨w.heap.size + 1, 0, none⟩ (.int .i64 0)).setCell ⟨w.heap.size + 1, 1, none⟩ (.int .i64 0)).setCell ⟨w.heap.size + 1, 2, none⟩ (.string ⟨#[]⟩)).setCell ⟨w.heap.size + 1, 3, none⟩ (.slice none 0 0)) :=
        (((HBE.out.setCell (p := ⟨w.heap.size + 1, 0, none⟩) (Nat.le_succ _) _).setCell (p := ⟨w.heap.size + 1, 1, none⟩) (Nat.le_succ _) _).setCell (p := ⟨w.heap.size + 1, 2, none⟩) (Nat.le_succ _) _).setCell (p := ⟨w.heap.size + 1, 3, none⟩) (Nat.le_succ _) _
      revert p0 p1 p2 p3 po ps pf hbV
      generalize (((w2.setCell ⟨w.heap.size + 1, 0, none⟩ (.int .i64 0)).setCell ⟨w.heap.size + 1, 1, none⟩ (.int .i64 0)).setCell ⟨w.heap.size + 1, 2, none⟩ (.string ⟨#[]⟩)).setCell ⟨w.heap.size + 1, 3, none⟩ (.slice none 0 0) = Y
      intro p0 p1 p2 p3 po ps pf hbV
      exact bodyPost_ret (v := .tuple #[.agg #[.int .i64 0, .int .i64 0, .string ⟨#[]⟩, .slice none 0 0], .int .i64 11]) (by simp [results, Tryd.results17, go_sem, p0, p1, p2, p3]) rfl ⟨.slice none 0 0, rfl, ⟨none, 0, rfl, by omega, by omega⟩, hbV⟩
    · have hs1 : n < sel := by omega
      clear hin
      go_enter Tryd.func17, Tryd.ntmps17
      go_wp2_with (first
        | (go_at_call 13; rw [HW0.out]; refine (HW.out _ HB0.out).mono ?_; rintro e w1 ⟨rfl, hb1⟩; obtain ⟨⟨q0, q1, q2, q3⟩, -, -⟩ := HFB.out _ hb1; have HL1 := hid_mk hb1; have hz1 := hb1.size; have HB1 := hid_mk (HB0.out.trans (hb1.mono (by have := HZ0.out; omega))); clear hb1)
        | (go_at_call 36; refine (HC2.out _ HB1.out).mono ?_; rintro e w2 ⟨rfl, hb2⟩; have HBE := hid_mk (HB1.out.trans (hb2.mono (by have := HZ0.out; omega))); obtain ⟨-, ⟨d0, d1, d2, d3⟩, hfd⟩ := HFB.out _ (HL1.out.trans (hb2.mono hz1)); clear hb2))
      obtain ⟨p0, p1, p2, p3, _, po, ps, pf⟩ := store4C w2 (w.heap.size + 1) (.int .i64 0) (.int .i64 0) (.string ⟨#[]⟩) (.slice none 0 0) ⟨_, d0⟩ ⟨_, d1⟩ ⟨_, d2⟩ ⟨_, d3⟩
      have hbV : Below w.heap.size w ((((w2.setCell ⟨w.heap.size + 1, 0, none⟩ (.int .i64 0)).setCell ⟨w.heap.size + 1, 1, none⟩ (.int .i64 0)).setCell ⟨w.heap.size + 1, 2, none⟩ (.string ⟨#[]⟩)).setCell ⟨w.heap.size + 1, 3, none⟩ (.slice none 0 0)) :=
        (((HBE.out.setCell (p := ⟨w.heap.size + 1, 0, none⟩) (Nat.le_succ _) _).setCell (p := ⟨w.heap.size + 1, 1, none⟩) (Nat.le_succ _) _).setCell (p := ⟨w.heap.size + 1, 2, none⟩) (Nat.le_succ _) _).setCell (p := ⟨w.heap.size + 1, 3, none⟩) (Nat.le_succ _) _
      revert p0 p1 p2 p3 po ps pf hbV
      generalize (((w2.setCell ⟨w.heap.size + 1, 0, none⟩ (.int .i64 0)).setCell ⟨w.heap.size + 1, 1, none⟩ (.int .i64 0)).setCell ⟨w.heap.size + 1, 2, none⟩ (.string ⟨#[]⟩)).setCell ⟨w.heap.size + 1, 3, none⟩ (.slice none 0 0) = Y
      intro p0 p1 p2 p3 po ps pf hbV
      exact bodyPost_ret (v := .tuple #[.agg #[.int .i64 0, .int .i64 0, .string ⟨#[]⟩, .slice none 0 0], .int .i64 11]) (by simp [results, Tryd.results17, go_sem, p0, p1, p2, p3]) rfl ⟨.slice none 0 0, rfl, ⟨none, 0, rfl, by omega, by omega⟩, hbV⟩
end Go.Proofs.YtjgbjahcnnjfpaaDoor
