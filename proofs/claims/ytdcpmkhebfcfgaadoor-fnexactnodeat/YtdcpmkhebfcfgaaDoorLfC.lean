/- The program's copy of a tree. -/
import Derived.Test.YtdcpmkhebfcfgaaDoorLfB
set_option linter.unusedVariables false
namespace Go.Proofs.YtdcpmkhebfcfgaaDoor
open Go.RowKit

def CpC (T : Nd) : Prop := ∀ (w : World) (v : Value) (hi : Nat), T.Fine → hi ≤ w.heap.size → Row 0 hi w T v → T.cost ≤ 1048576 →
  Calls Tryd.prog 33 #[T.val v] w fun e w' => ∃ u, e = .returned (T.val u) ∧ Tr w' T w.heap.size w'.heap.size u ∧ Below w.heap.size w w'

set_option maxHeartbeats 4000000 in
theorem copied_of (T : Nd) (ih : ∀ i, i < T.len → CpC (T.kids i)) : CpC T := by
  intro w v hi hf hhi hr hcost
  have hce := T.cost_eq
  have hn20 : T.name.size ≤ 1048576 := by omega
  have HRE := hid_mk (fun (W : World) (hb : Below w.heap.size w W) => remade_cp T T.kids W v hi hf (Nat.le_trans hhi hb.size) (row_below hb hhi hr) hcost (fun i hi' W' x hb' hx => ih i hi' W' x hi (Nd.fine_kid hf hi') (Nat.le_trans (Nat.le_trans hhi hb.size) hb'.size) hx (Nat.le_trans (T.cost_kid hi') hcost)))
  obtain ⟨a, cap, rfl, hcap, hq⟩ := row_eq.1 hr
  clear hr hf ih hq hce hcap
  unfold Nd.val at HRE
  unfold Nd.val
  generalize hW0 : (w.alloc (.cells #[.int .i64 T.kind, .int .i64 T.num, .string T.name, .slice a T.len cap] 29)).alloc (.cells #[.int .i64 0, .int .i64 0, .string ⟨#[]⟩, .slice none 0 0] 29) = W0
  have HB0 : Hid (Below w.heap.size w W0) := by rw [← hW0]; exact ((Below.refl _ _).alloc (Nat.le_refl _) _).alloc (by simp) _
  have HZ0 : Hid (W0.heap.size = w.heap.size + 1 + 1) := by unfold Hid; rw [← hW0]; simp
  have HC0 : Hid ((W0.cell? ⟨w.heap.size, 0, none⟩ = some (.int .i64 T.kind) ∧ W0.cell? ⟨w.heap.size, 1, none⟩ = some (.int .i64 T.num) ∧ W0.cell? ⟨w.heap.size, 2, none⟩ = some (.string T.name) ∧ W0.cell? ⟨w.heap.size, 3, none⟩ = some (.slice a T.len cap)) ∧
      (W0.cell? ⟨w.heap.size + 1, 0, none⟩ = some (.int .i64 0) ∧ W0.cell? ⟨w.heap.size + 1, 1, none⟩ = some (.int .i64 0) ∧ W0.cell? ⟨w.heap.size + 1, 2, none⟩ = some (.string ⟨#[]⟩) ∧ W0.cell? ⟨w.heap.size + 1, 3, none⟩ = some (.slice none 0 0)) ∧ (∀ o, W0.frozen? ⟨w.heap.size, o, none⟩ = false) ∧ ∀ o, W0.frozen? ⟨w.heap.size + 1, o, none⟩ = false) := by
    rw [← hW0]; unfold Hid; simp [go_sem]
  have HW0 := hid_mk hW0
  clear hW0
  go_enter Tryd.func33, Tryd.ntmps33
  go_wp2_with fail
  rw [HW0.out]
  refine (clone_any T.name W0 (by omega)).mono ?_
  rintro e w1 ⟨rfl, hb1⟩
  have hz1 := hb1.size
  obtain ⟨⟨c0, c1, c2, c3⟩, ⟨d0, d1, d2, d3⟩, hfc, hfd⟩ := HC0.out
  have hc : ∀ b o, b < w.heap.size + 1 + 1 → w1.cell? ⟨b, o, none⟩ = W0.cell? ⟨b, o, none⟩ := fun b o h => hb1.cell (p := ⟨b, o, none⟩) (show b < W0.heap.size by have := HZ0.out; omega)
  rw [← hc _ _ (by omega)] at c0 c1 c2 c3
  rw [← hc _ _ (by omega)] at d0 d1 d2 d3
  have hfc' : ∀ o, w1.frozen? ⟨w.heap.size, o, none⟩ = false := fun o => (hb1.frozen (p := ⟨w.heap.size, o, none⟩) (show w.heap.size < W0.heap.size by have := HZ0.out; omega)).trans (hfc o)
  have hfd' : ∀ o, w1.frozen? ⟨w.heap.size + 1, o, none⟩ = false := fun o => (hb1.frozen (p := ⟨w.heap.size + 1, o, none⟩) (show w.heap.size + 1 < W0.heap.size by have := HZ0.out; omega)).trans (hfd o)
  have HB1 := hid_mk (HB0.out.trans (hb1.mono (by have := HZ0.out; omega)))
  clear hc hfc hfd hb1
  go_wp2_with fail
  have hbS : Below w.heap.size w (w1.setCell ⟨w.heap.size, 2, none⟩ (.string T.name)) := HB1.out.setCell (p := ⟨w.heap.size, 2, none⟩) (Nat.le_refl _) _
  refine (HRE.out _ hbS).mono ?_
  have hzS : (w1.setCell ⟨w.heap.size, 2, none⟩ (.string T.name)).heap.size = w1.heap.size := by simp only [World.setCell, Array.size_modify]
  have ho : ∀ o, (w1.setCell ⟨w.heap.size, 2, none⟩ (.string T.name)).cell? ⟨w.heap.size + 1, o, none⟩ = w1.cell? ⟨w.heap.size + 1, o, none⟩ := fun o => World.cell?_of_block (a := ⟨w.heap.size + 1, o, none⟩) (Below.heap_setCell _ _ _ _ (by show w.heap.size + 1 ≠ w.heap.size; omega))
  have hof : ∀ o, (w1.setCell ⟨w.heap.size, 2, none⟩ (.string T.name)).frozen? ⟨w.heap.size + 1, o, none⟩ = false := fun o => by simp [go_sem, hfd']
  rw [← ho] at d0 d1 d2 d3
  clear ho hfd' hfc' c0 c1 c2 c3
  rintro e w4 ⟨u, rfl, htr, hb4⟩
  obtain ⟨sa, sc, rfl⟩ := tr_shape htr
  have hz0 := HZ0.out
  rw [hzS] at htr hb4
  have hz4 := hb4.size
  rw [hzS] at hz4
  have hlt : w.heap.size + 1 < w1.heap.size := by omega
  rw [← hb4.cell (p := ⟨w.heap.size + 1, _, none⟩) hlt] at d0 d1 d2 d3
  have hfz4 : ∀ o, w4.frozen? ⟨w.heap.size + 1, o, none⟩ = false := fun o => (hb4.frozen (p := ⟨w.heap.size + 1, o, none⟩) hlt).trans (hof o)
  have HB4 := hid_mk (hbS.trans (hb4.mono (by omega)))
  have HT4 : Hid (Tr w4 T w1.heap.size w4.heap.size (.slice sa T.len sc)) := by
    have h1 := tr_eq.1 htr
    exact tr_eq.2 h1
  clear htr hb4 hof hbS
  rw [show (mapN T T.kids).kind = T.kind from rfl, show (mapN T T.kids).num = T.num from rfl, show (mapN T T.kids).name = T.name from rfl, show (mapN T T.kids).len = T.len from rfl]
  go_wp2
  obtain ⟨p0, p1, p2, p3, _, po, ps, pf⟩ := store4C w4 (w.heap.size + 1) (.int .i64 T.kind) (.int .i64 T.num) (.string T.name) (.slice sa T.len sc) ⟨_, d0⟩ ⟨_, d1⟩ ⟨_, d2⟩ ⟨_, d3⟩
  have hbV : Below w.heap.size w ((((w4.setCell ⟨w.heap.size + 1, 0, none⟩ (.int .i64 T.kind)).setCell ⟨w.heap.size + 1, 1, none⟩ (.int .i64 T.num)).setCell ⟨w.heap.size + 1, 2, none⟩ (.string T.name)).setCell ⟨w.heap.size + 1, 3, none⟩ (.slice sa T.len sc)) :=
    (((HB4.out.setCell (p := ⟨w.heap.size + 1, 0, none⟩) (Nat.le_succ _) _).setCell (p := ⟨w.heap.size + 1, 1, none⟩) (Nat.le_succ _) _).setCell (p := ⟨w.heap.size + 1, 2, none⟩) (Nat.le_succ _) _).setCell (p := ⟨w.heap.size + 1, 3, none⟩) (Nat.le_succ _) _
  have htr : Tr ((((w4.setCell ⟨w.heap.size + 1, 0, none⟩ (.int .i64 T.kind)).setCell ⟨w.heap.size + 1, 1, none⟩ (.int .i64 T.num)).setCell ⟨w.heap.size + 1, 2, none⟩ (.string T.name)).setCell ⟨w.heap.size + 1, 3, none⟩ (.slice sa T.len sc)) T w.heap.size w4.heap.size (.slice sa T.len sc) :=
    tr_wide (tr_keep (fun k k1 k2 => po k (by omega)) HT4.out) (by omega) (Nat.le_refl _)
  revert p0 p1 p2 p3 po ps pf hbV htr
  generalize (((w4.setCell ⟨w.heap.size + 1, 0, none⟩ (.int .i64 T.kind)).setCell ⟨w.heap.size + 1, 1, none⟩ (.int .i64 T.num)).setCell ⟨w.heap.size + 1, 2, none⟩ (.string T.name)).setCell ⟨w.heap.size + 1, 3, none⟩ (.slice sa T.len sc) = X
  intro p0 p1 p2 p3 po ps pf hbV htr
  exact bodyPost_ret (v := .agg #[.int .i64 T.kind, .int .i64 T.num, .string T.name, .slice sa T.len sc]) (by simp [results, Tryd.results33, go_sem, p0, p1, p2, p3]) rfl ⟨.slice sa T.len sc, rfl, by rw [ps]; exact htr, hbV⟩

theorem copied_any (T : Nd) : CpC T := by
  induction T with
  | nil => exact copied_of _ fun i hi => absurd hi (Nat.not_lt_zero i)
  | mk k n s len kids ih => exact copied_of _ fun i _ => ih i
end Go.Proofs.YtdcpmkhebfcfgaaDoor
namespace Go.Proofs.YtdcpmkhebfcfgaaDoor
open Go.RowKit

def CpS (T : Nd) : Prop := ∀ (w : World) (v : Value) (hi : Nat), T.Fine → hi ≤ w.heap.size → Row 0 hi w T v → T.cost ≤ 1048576 →
  Calls Tryd.prog 30 #[T.val v] w fun e w' => ∃ u, e = .returned (T.val u) ∧ Tr w' T w.heap.size w'.heap.size u ∧ Below w.heap.size w w'

set_option maxHeartbeats 4000000 in
theorem l07copy_of (T : Nd) (ih : ∀ i, i < T.len → CpS (T.kids i)) : CpS T := by
  intro w v hi hf hhi hr hcost
  have hn := T.fine_len hf
  have hce := T.cost_eq
  have hck : ∀ j, j < T.len → (T.kids j).cost ≤ 1048576 := fun j hj => Nat.le_trans (T.cost_kid hj) hcost
  have hl20 : T.len ≤ 1048576 := by omega
  have hn20 : T.name.size ≤ 1048576 := by omega
  obtain ⟨a, cap, rfl, hcap, hq⟩ := row_eq.1 hr
  obtain ⟨i0, hi0, hz0, hz1, hz2⟩ := info_parts info_nodeC
  have HI := hid_mk ih
  have HF := hid_mk hf
  have HR := hid_mk hq
  have HK := hid_mk hck
  clear hr hf ih hq hck hce hcap
  unfold Nd.val
  generalize hW0 : (w.alloc (.cells #[.int .i64 T.kind, .int .i64 T.num, .string T.name, .slice a T.len cap] 29)).alloc (.cells #[.int .i64 0, .int .i64 0, .string ⟨#[]⟩, .slice none 0 0] 29) = W0
  have hb0 : Hid (Below w.heap.size w W0) := by rw [← hW0]; exact ((Below.refl _ _).alloc (Nat.le_refl _) _).alloc (by simp) _
  have hz0' : W0.heap.size = w.heap.size + 1 + 1 := by rw [← hW0]; simp
  have HC0 : Hid ((W0.cell? ⟨w.heap.size, 0, none⟩ = some (.int .i64 T.kind) ∧ W0.cell? ⟨w.heap.size, 1, none⟩ = some (.int .i64 T.num) ∧ W0.cell? ⟨w.heap.size, 2, none⟩ = some (.string T.name) ∧ W0.cell? ⟨w.heap.size, 3, none⟩ = some (.slice a T.len cap)) ∧
      (W0.cell? ⟨w.heap.size + 1, 0, none⟩ = some (.int .i64 0) ∧ W0.cell? ⟨w.heap.size + 1, 1, none⟩ = some (.int .i64 0) ∧ W0.cell? ⟨w.heap.size + 1, 2, none⟩ = some (.string ⟨#[]⟩) ∧ W0.cell? ⟨w.heap.size + 1, 3, none⟩ = some (.slice none 0 0)) ∧ ∀ o, W0.frozen? ⟨w.heap.size + 1, o, none⟩ = false) := by
    rw [← hW0]; unfold Hid; simp [go_sem]
  have HW0 := hid_mk hW0
  have HZ0 := hid_mk hz0'
  clear hW0 hz0'
  go_enter Tryd.func30, Tryd.ntmps30
  go_wp2
  rw [HW0.out]
  go_loopw [3, 4] (fun kv i wr => ∃ (j : Nat) (sa : Option Addr) (sc : Nat) (us : Nat → Value) (s e : Nat → Nat), j ≤ T.len ∧ i = .int .i64 j ∧ kv = .slice sa j sc ∧ CpI T W0 j (.slice sa j sc) us s e wr) (fun _ i _ => T.len - (intOf i).toNat)
  case atStart =>
    have hh := World.ownsRow_made (base := W0.heap.size) (e := 29) (size := 4) W0 #[] 0 (Nat.le_refl _) (by unfold maxLen; omega) (by simp)
    exact ⟨0, _, _, _, _, _, Nat.zero_le _, rfl, rfl, CpI.start T (by have h2 := hh; rw [HZ0.out] at h2 ⊢; simpa using h2) ((Below.refl _ _).alloc (Nat.le_refl _) _)⟩
  case round =>
    obtain ⟨j, sa, sc, us, s, e, hj, rfl, rfl, hcp⟩ := hrel
    have HCP := hid_mk hcp
    have hz := hcp.below.size
    have HZ := hid_mk (show w.heap.size + 1 + 1 ≤ wr.heap.size by have := HZ0.out; omega)
    by_cases hlt : j < T.len
    · rcases HR.out with h0 | ⟨g, off, rfl, h1, h2, h3⟩
      · omega
      obtain ⟨x, e0, e1, e2, e3, hx⟩ := h3 j hlt
      have hgl : g < w.heap.size := by omega
      have hbw := hb0.out.trans (hcp.below.mono (by have := HZ0.out; omega))
      rw [← hbw.cell (p := ⟨g, _, none⟩) hgl] at e0 e1 e2 e3
      have HX := hid_mk (row_below hbw hhi hx)
      obtain ⟨xa, xc, rfl⟩ : ∃ xa xc, x = .slice xa (T.kids j).len xc := by obtain ⟨a', c', h, _⟩ := row_eq.1 hx; exact ⟨a', c', h⟩
      have hkc := HK.out j hlt
      have HC := HI.out j hlt
      have HFJ := hid_mk (Nd.fine_kid HF.out hlt)
      unfold CpS at HC
      have HCC := hid_mk HC
      have hjl : (j : Int) < (T.len : Int) := by omega
      have k3 : wr.cell? ⟨w.heap.size, 3, none⟩ = some (.slice (some ⟨g, off, none⟩) T.len cap) := (hcp.below.cell (p := ⟨w.heap.size, 3, none⟩) (show w.heap.size < W0.heap.size by have := HZ0.out; omega)).trans HC0.out.1.2.2.2
      have HKJ := hid_mk (rfl : T.kids j = T.kids j)
      unfold Nd.val at HCC
      clear h3 HC hx hcp hbw
      go_wp2_with (first
        | (go_at_call 30; refine (HCC.out _ _ hi HFJ.out (by have := HZ.out; omega) HX.out hkc).mono ?_; rintro e w1 ⟨u1, rfl, ht1, hb1⟩; obtain ⟨a1, p1, rfl⟩ := tr_shape ht1; have HT1 := hid_mk ht1; have HB1 := hid_mk hb1; clear ht1 hb1)
        | (at_builtin; refine wpList_append_freshG _ rfl _ _ 27 rfl W0.heap.size 29 i0 (.agg #[.int .i64 0, .int .i64 0, .string ⟨#[]⟩, .slice none 0 0]) 4 56 Tryd.underlying27 hi0 hz0 hz1 hz2 rfl (by decide) _ j _ rfl ((HCP.out.later HB1.out).own.alloc _) ⟨w1.heap.size, 0, none⟩ 1 1 [.int .i64 (T.kids j).kind, .int .i64 (T.kids j).num, .string (T.kids j).name, .slice a1 (T.kids j).len p1] rfl rfl (four_new _ _ _ _ _ _) (four_one _ _ _ _ _ _) (by unfold maxLen; omega) (by omega) (by have := (HCP.out.later HB1.out).below.size; simp; omega) ?_; intro v' w3 hown hgrow hloc hsh))
      obtain ⟨sa', sc', rfl⟩ := hsh.out
      have hst := HCP.out.step HB1.out HT1.out ((Below.refl _ _).alloc (Nat.le_refl _) _) hown.out hgrow.out hloc.out
      exact ⟨⟨j + 1, sa', sc', _, _, _, by omega, by go_num, rfl, hst⟩, by simp [intOf]; omega⟩
    · obtain rfl : j = T.len := by omega
      obtain ⟨⟨c0, c1, c2, c3⟩, ⟨d0, d1, d2, d3⟩, hfz⟩ := HC0.out
      have hc : ∀ b o, b < w.heap.size + 1 + 1 → wr.cell? ⟨b, o, none⟩ = W0.cell? ⟨b, o, none⟩ := fun b o h => hcp.below.cell (p := ⟨b, o, none⟩) (show b < W0.heap.size by have := HZ0.out; omega)
      rw [← hc _ _ (by omega)] at c0 c1 c2 c3
      rw [← hc _ _ (by omega)] at d0 d1 d2 d3
      have hfz' : ∀ o, wr.frozen? ⟨w.heap.size + 1, o, none⟩ = false := fun o => (hcp.below.frozen (p := ⟨w.heap.size + 1, o, none⟩) (show w.heap.size + 1 < W0.heap.size by have := HZ0.out; omega)).trans (hfz o)
      have hzw := HZ.out
      have hza : w.heap.size < wr.heap.size := by omega
      have hzb : w.heap.size + 1 < wr.heap.size := by omega
      clear hc hfz hcp
      go_wp2_with fail
      refine (node_of _ _ _ _ _ _ _).mono ?_
      rintro e w4 ⟨rfl, hb4⟩
      obtain ⟨g4, f4⟩ := bcellO hb4
      rw [← g4 _ _ hzb] at d0 d1 d2 d3
      have hfz4 : ∀ o, w4.frozen? ⟨w.heap.size + 1, o, none⟩ = false := fun o => (f4 _ _ hzb).trans (hfz' o)
      have HB4 := hid_mk hb4
      clear hfz' c0 c1 c2 c3 g4 f4 hb4
      obtain ⟨p0, p1, p2, p3, _, po, ps, pf⟩ := store4C w4 (w.heap.size + 1) (.int .i64 T.kind) (.int .i64 T.num) (.string T.name) (.slice sa T.len sc) ⟨_, d0⟩ ⟨_, d1⟩ ⟨_, d2⟩ ⟨_, d3⟩
      have HBV : Hid (Below w.heap.size w ((((w4.setCell ⟨w.heap.size + 1, 0, none⟩ (.int .i64 T.kind)).setCell ⟨w.heap.size + 1, 1, none⟩ (.int .i64 T.num)).setCell ⟨w.heap.size + 1, 2, none⟩ (.string T.name)).setCell ⟨w.heap.size + 1, 3, none⟩ (.slice sa T.len sc))) := by
        have hx := hb0.out.trans ((HCP.out.below.trans (HB4.out.mono hz)).mono (by have := HZ0.out; omega))
        exact (((hx.setCell (p := ⟨w.heap.size + 1, 0, none⟩) (Nat.le_succ _) _).setCell (p := ⟨w.heap.size + 1, 1, none⟩) (Nat.le_succ _) _).setCell (p := ⟨w.heap.size + 1, 2, none⟩) (Nat.le_succ _) _).setCell (p := ⟨w.heap.size + 1, 3, none⟩) (Nat.le_succ _) _
      have HTR : Hid (Tr ((((w4.setCell ⟨w.heap.size + 1, 0, none⟩ (.int .i64 T.kind)).setCell ⟨w.heap.size + 1, 1, none⟩ (.int .i64 T.num)).setCell ⟨w.heap.size + 1, 2, none⟩ (.string T.name)).setCell ⟨w.heap.size + 1, 3, none⟩ (.slice sa T.len sc)) T w.heap.size w4.heap.size (.slice sa T.len sc)) :=
        tr_wide (tr_keep (fun k k1 k2 => po k (by have := HZ0.out; omega)) (tr_below HCP.out.done HB4.out (Nat.le_refl _))) (by have := HZ0.out; omega) HB4.out.size
      have HPO := hid_mk po
      have HPS := hid_mk ps
      clear po ps pf
      go_wp2
      exact bodyPost_ret (v := .agg #[.int .i64 T.kind, .int .i64 T.num, .string T.name, .slice sa T.len sc]) (by simp [results, Tryd.results30, go_sem, p0, p1, p2, p3]) rfl ⟨.slice sa T.len sc, rfl, by rw [HPS.out]; exact HTR.out, HBV.out⟩

theorem l07copy_any (T : Nd) : CpS T := by
  induction T with
  | nil => exact l07copy_of _ fun i hi => absurd hi (Nat.not_lt_zero i)
  | mk k n s len kids ih => exact l07copy_of _ fun i _ => ih i
end Go.Proofs.YtdcpmkhebfcfgaaDoor
