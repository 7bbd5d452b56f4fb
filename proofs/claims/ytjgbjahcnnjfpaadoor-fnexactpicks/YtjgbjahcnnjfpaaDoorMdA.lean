/- The laws' copy of a tree that came in. -/
import Derived.Test.YtjgbjahcnnjfpaaDoorMaA
import Derived.RegionTactic
import Derived.BigRegion
import Derived.Deep.RegionWith
import Derived.WalkSpells
import Derived.WalkSmall
import Derived.OwnWalk
import Derived.Laws.MakeOwn
set_option linter.unusedVariables false
namespace Go.Proofs.YtjgbjahcnnjfpaaDoor
open Go.RowKit

def Warm (lo : Nat) (w : World) : Prop := ∀ g o, lo ≤ g → w.frozen? ⟨g, o, none⟩ = false
theorem Warm.start (w : World) : Warm w.heap.size w := fun g o h => by simp [World.frozen?, Array.getElem?_eq_none h]
theorem Warm.mono {lo hi : Nat} {w : World} (h : Warm lo w) (hl : lo ≤ hi) : Warm hi w := fun g o hg => h g o (Nat.le_trans hl hg)
theorem Warm.alloc {lo : Nat} {w : World} (h : Warm lo w) (cs : Array Value) (t : TypeId) : Warm lo (w.alloc (.cells cs t)) := by
  intro g o hg
  by_cases e : g = w.heap.size
  · subst e; exact frozen_of_row _ _ _ _ _ (heap_alloc_new w _)
  · rw [World.frozen?_alloc_old _ _ ⟨g, o, none⟩ e]; exact h g o hg
theorem Warm.setCell {lo : Nat} {w : World} (h : Warm lo w) (p : Addr) (v : Value) : Warm lo (w.setCell p v) := fun g o hg => by simpa [go_sem] using h g o hg
theorem Warm.later {lo : Nat} {w w1 : World} (h : Warm lo w) (hb : Below w.heap.size w w1) (h1 : Warm w.heap.size w1) : Warm lo w1 := by
  intro g o hg
  by_cases e : g < w.heap.size
  · rw [hb.frozen (p := ⟨g, o, none⟩) e]; exact h g o hg
  · exact h1 g o (by omega)
def ToCW (T : Nd) : Prop := ∀ (w : World) (v : Value) (hi : Nat), T.Fine → hi ≤ w.heap.size → Row 0 hi w T v → T.cost ≤ 1048576 →
  Calls Tryd.prog 14 #[T.val v] w fun e w' => ∃ u, e = .returned (T.val u) ∧ Row w.heap.size w'.heap.size w' T u ∧ Below w.heap.size w w' ∧ Warm w.heap.size w'
def ToC (T : Nd) : Prop := ∀ (w : World) (v : Value) (hi : Nat), T.Fine → hi ≤ w.heap.size → Row 0 hi w T v → T.cost ≤ 1048576 →
  Calls Tryd.prog 14 #[T.val v] w fun e w' => ∃ u, e = .returned (T.val u) ∧ Row w.heap.size w'.heap.size w' T u ∧ Below w.heap.size w w'
def ToS (T : Nd) : Prop := ∀ (w : World) (v : Value) (hi : Nat), T.Fine → hi ≤ w.heap.size → Row 0 hi w T v → T.cost ≤ 1048576 →
  Calls Tryd.prog 33 #[v] w fun e w' => ∃ u, e = .returned u ∧ Row w.heap.size w'.heap.size w' T u ∧ Below w.heap.size w w' ∧ Warm w.heap.size w'

structure Fill (T : Nd) (w : World) (j : Nat) (wr : World) : Prop where
  below : Below w.heap.size w wr
  lt : w.heap.size < wr.heap.size
  there : ∀ o, o < T.len * 4 → ∃ x, wr.cell? ⟨w.heap.size, o, none⟩ = some x
  warmA : Warm w.heap.size wr
  kids : ∀ i, i < j → ∃ u, wr.cell? ⟨w.heap.size, i * 4, none⟩ = some (.int .i64 (T.kids i).kind) ∧ wr.cell? ⟨w.heap.size, i * 4 + 1, none⟩ = some (.int .i64 (T.kids i).num) ∧
    wr.cell? ⟨w.heap.size, i * 4 + 2, none⟩ = some (.string (T.kids i).name) ∧ wr.cell? ⟨w.heap.size, i * 4 + 3, none⟩ = some u ∧ Row (w.heap.size + 1) wr.heap.size wr (T.kids i) u

theorem Fill.warm {T : Nd} {w : World} {j : Nat} {wr : World} (h : Fill T w j wr) (o : Nat) : wr.frozen? ⟨w.heap.size, o, none⟩ = false := h.warmA _ o (Nat.le_refl _)
theorem bcellT {W w1 : World} (hb : Below W.heap.size W w1) : (∀ b o, b < W.heap.size → w1.cell? ⟨b, o, none⟩ = W.cell? ⟨b, o, none⟩) ∧ (∀ b o, b < W.heap.size → w1.frozen? ⟨b, o, none⟩ = W.frozen? ⟨b, o, none⟩) :=
  ⟨fun b o h => hb.cell (p := ⟨b, o, none⟩) h, fun b o h => hb.frozen (p := ⟨b, o, none⟩) h⟩
theorem fill_start (T : Nd) (w : World) : Fill T w 0 (w.alloc (.cells (madeCells #[.int .i64 0, .int .i64 0, .string ⟨#[]⟩, .slice none 0 0] (T.len * 4)) 37)) := by
  refine ⟨(Below.refl _ _).alloc (Nat.le_refl _) _, by simp, fun o ho => ?_, (Warm.start w).alloc _ _, fun i hi => absurd hi (Nat.not_lt_zero _)⟩
  · refine ⟨(madeCells #[.int .i64 0, .int .i64 0, .string ⟨#[]⟩, .slice none 0 0] (T.len * 4))[o]'(by rw [size_madeCells]; exact ho), ?_⟩
    rw [cell_of_row _ _ _ _ _ (0, 0) (heap_alloc_new w _)]
    simp [size_madeCells, ho]
theorem setCell_cell (W : World) (g o o' : Nat) (x : Value) (hx : ∃ y, W.cell? ⟨g, o, none⟩ = some y) : (W.setCell ⟨g, o, none⟩ x).cell? ⟨g, o', none⟩ = if o' = o then some x else W.cell? ⟨g, o', none⟩ := by
  obtain ⟨y, hy⟩ := hx
  split
  · rename_i h; subst h; exact World.cell?_setCell_same _ _ _ hy
  · rename_i h; exact World.cell?_setCell_other _ _ _ _ (fun e => h (by cases e; rfl))
theorem store4 (W : World) (g o : Nat) (a b c d : Value) (hx : ∀ k, k < 4 → ∃ y, W.cell? ⟨g, o + k, none⟩ = some y) :
    let V := (((W.setCell ⟨g, o, none⟩ a).setCell ⟨g, o + 1, none⟩ b).setCell ⟨g, o + 2, none⟩ c).setCell ⟨g, o + 3, none⟩ d
    V.cell? ⟨g, o, none⟩ = some a ∧ V.cell? ⟨g, o + 1, none⟩ = some b ∧ V.cell? ⟨g, o + 2, none⟩ = some c ∧ V.cell? ⟨g, o + 3, none⟩ = some d ∧ (∀ k, (k < o ∨ o + 4 ≤ k) → V.cell? ⟨g, k, none⟩ = W.cell? ⟨g, k, none⟩) ∧
      (∀ k, k ≠ g → V.heap[k]? = W.heap[k]?) ∧ V.heap.size = W.heap.size ∧ (∀ k, V.frozen? ⟨g, k, none⟩ = W.frozen? ⟨g, k, none⟩) := by
  intro V
  have s0 : ∃ y, W.cell? ⟨g, o, none⟩ = some y := hx 0 (by omega)
  have s1 : ∃ y, (W.setCell ⟨g, o, none⟩ a).cell? ⟨g, o + 1, none⟩ = some y := by rw [setCell_cell _ _ _ _ _ s0, if_neg (by omega)]; exact hx 1 (by omega)
  have s2 : ∃ y, ((W.setCell ⟨g, o, none⟩ a).setCell ⟨g, o + 1, none⟩ b).cell? ⟨g, o + 2, none⟩ = some y := by rw [setCell_cell _ _ _ _ _ s1, if_neg (by omega), setCell_cell _ _ _ _ _ s0, if_neg (by omega)]; exact hx 2 (by omega)
  have s3 : ∃ y, (((W.setCell ⟨g, o, none⟩ a).setCell ⟨g, o + 1, none⟩ b).setCell ⟨g, o + 2, none⟩ c).cell? ⟨g, o + 3, none⟩ = some y := by rw [setCell_cell _ _ _ _ _ s2, if_neg (by omega), setCell_cell _ _ _ _ _ s1, if_neg (by omega), setCell_cell _ _ _ _ _ s0, if_neg (by omega)]; exact hx 3 (by omega)
  have hV : ∀ k, V.cell? ⟨g, k, none⟩ = if k = o + 3 then some d else if k = o + 2 then some c else if k = o + 1 then some b else if k = o then some a else W.cell? ⟨g, k, none⟩ := fun k => by
    show ((((W.setCell ⟨g, o, none⟩ a).setCell ⟨g, o + 1, none⟩ b).setCell ⟨g, o + 2, none⟩ c).setCell ⟨g, o + 3, none⟩ d).cell? ⟨g, k, none⟩ = _
    rw [setCell_cell _ _ _ _ _ s3, setCell_cell _ _ _ _ _ s2, setCell_cell _ _ _ _ _ s1, setCell_cell _ _ _ _ _ s0]
  refine ⟨?_, ?_, ?_, ?_, fun k hk => ?_, fun k hk => ?_, by simp [V, World.setCell], fun k => by simp [V, go_sem]⟩
  · rw [hV, if_neg (by omega), if_neg (by omega), if_neg (by omega), if_pos rfl]
  · rw [hV, if_neg (by omega), if_neg (by omega), if_pos rfl]
  · rw [hV, if_neg (by omega), if_pos rfl]
  · rw [hV, if_pos rfl]
  · rw [hV, if_neg (by omega), if_neg (by omega), if_neg (by omega), if_neg (by omega)]
  · show ((((W.setCell ⟨g, o, none⟩ a).setCell ⟨g, o + 1, none⟩ b).setCell ⟨g, o + 2, none⟩ c).setCell ⟨g, o + 3, none⟩ d).heap[k]? = _
    rw [Below.heap_setCell _ _ _ _ hk, Below.heap_setCell _ _ _ _ hk, Below.heap_setCell _ _ _ _ hk, Below.heap_setCell _ _ _ _ hk]
theorem fill_step {T : Nd} {w wr w1 : World} {j : Nat} {u : Value} (h : Fill T w j wr) (hlt : j < T.len) (hb1 : Below wr.heap.size wr w1) (hw1 : Warm wr.heap.size w1) (hr : Row wr.heap.size w1.heap.size w1 (T.kids j) u) :
    Fill T w (j + 1) ((((w1.setCell ⟨w.heap.size, j * 4, none⟩ (.int .i64 (T.kids j).kind)).setCell ⟨w.heap.size, j * 4 + 1, none⟩ (.int .i64 (T.kids j).num)).setCell ⟨w.heap.size, j * 4 + 2, none⟩ (.string (T.kids j).name)).setCell ⟨w.heap.size, j * 4 + 3, none⟩ u) := by
  have hlt1 := h.lt
  have hsz := hb1.size
  have hc : ∀ o, w1.cell? ⟨w.heap.size, o, none⟩ = wr.cell? ⟨w.heap.size, o, none⟩ := fun o => (bcellT hb1).1 _ o hlt1
  obtain ⟨p0, p1, p2, p3, pk, po, ps, pf⟩ := store4 w1 w.heap.size (j * 4) (.int .i64 (T.kids j).kind) (.int .i64 (T.kids j).num) (.string (T.kids j).name) u (fun k hk => by rw [hc]; exact h.there _ (by omega))
  have hbV := (((((h.below.trans (hb1.mono (by omega))).setCell (p := ⟨w.heap.size, j * 4, none⟩) (Nat.le_refl _) (.int .i64 (T.kids j).kind)).setCell (p := ⟨w.heap.size, j * 4 + 1, none⟩) (Nat.le_refl _) (.int .i64 (T.kids j).num)).setCell (p := ⟨w.heap.size, j * 4 + 2, none⟩) (Nat.le_refl _) (.string (T.kids j).name)).setCell (p := ⟨w.heap.size, j * 4 + 3, none⟩) (Nat.le_refl _) u)
  have hwV : Warm w.heap.size ((((w1.setCell ⟨w.heap.size, j * 4, none⟩ (.int .i64 (T.kids j).kind)).setCell ⟨w.heap.size, j * 4 + 1, none⟩ (.int .i64 (T.kids j).num)).setCell ⟨w.heap.size, j * 4 + 2, none⟩ (.string (T.kids j).name)).setCell ⟨w.heap.size, j * 4 + 3, none⟩ u) := (((((h.warmA.later hb1 hw1).setCell _ _).setCell _ _).setCell _ _).setCell _ _)
  revert p0 p1 p2 p3 pk po ps pf hbV hwV
  generalize ((((w1.setCell ⟨w.heap.size, j * 4, none⟩ (.int .i64 (T.kids j).kind)).setCell ⟨w.heap.size, j * 4 + 1, none⟩ (.int .i64 (T.kids j).num)).setCell ⟨w.heap.size, j * 4 + 2, none⟩ (.string (T.kids j).name)).setCell ⟨w.heap.size, j * 4 + 3, none⟩ u) = V
  intro p0 p1 p2 p3 pk po ps pf hbV hwV
  have keep : ∀ {lo hi : Nat} {K : Nd} {v : Value}, w.heap.size < lo → hi ≤ w1.heap.size → Row lo hi w1 K v → Row (w.heap.size + 1) V.heap.size V K v := fun hlo hhi hr =>
    row_keep (by omega) (by omega) (fun g o h1 h2 => World.cell?_of_block (a := ⟨g, o, none⟩) (po g (by omega))) hr
  refine ⟨hbV, by omega, fun o ho => ?_, hwV, fun i hi => ?_⟩
  · by_cases hin : o < j * 4 ∨ j * 4 + 4 ≤ o
    · rw [pk o hin, hc]; exact h.there o ho
    · have : o = j * 4 ∨ o = j * 4 + 1 ∨ o = j * 4 + 2 ∨ o = j * 4 + 3 := by omega
      rcases this with rfl | rfl | rfl | rfl
      · exact ⟨_, p0⟩
      · exact ⟨_, p1⟩
      · exact ⟨_, p2⟩
      · exact ⟨_, p3⟩
  · by_cases hij : i = j
    · subst hij
      exact ⟨u, p0, p1, p2, p3, keep (by omega) (Nat.le_refl _) hr⟩
    · obtain ⟨x, e0, e1, e2, e3, hx⟩ := h.kids i (by omega)
      refine ⟨x, ?_, ?_, ?_, ?_, keep (by omega) hsz (row_keep (Nat.le_refl _) (Nat.le_refl _) (fun g o _ h2 => (bcellT hb1).1 g o h2) hx)⟩
      · rw [pk _ (by omega), hc]; exact e0
      · rw [pk _ (by omega), hc]; exact e1
      · rw [pk _ (by omega), hc]; exact e2
      · rw [pk _ (by omega), hc]; exact e3
theorem fill_done {T : Nd} {w wr : World} (h : Fill T w T.len wr) {cap : Nat} (hc : T.len ≤ cap ∧ cap ≤ 9223372036854775807) : Row w.heap.size wr.heap.size wr T (.slice (some ⟨w.heap.size, 0, none⟩) T.len cap) := by
  refine row_eq.2 ⟨_, cap, rfl, hc, ?_⟩
  by_cases h0 : T.len = 0
  · exact .inl h0
  · refine .inr ⟨w.heap.size, 0, rfl, Nat.le_refl _, h.lt, fun i hi => ?_⟩
    obtain ⟨u, e0, e1, e2, e3, hr⟩ := h.kids i hi
    rw [Nat.zero_add]
    exact ⟨u, e0, e1, e2, e3, row_wide hr (by omega) (Nat.le_refl _)⟩
theorem info_node : (Tryd.prog.info? 37).map (fun i => (i.zero, i.size, i.bytes)) = some (some (.agg #[.int .i64 0, .int .i64 0, .string ⟨#[]⟩, .slice none 0 0]), 4, 56) := by kernel_rfl

set_option maxHeartbeats 2000000 in
theorem toS_of (T : Nd) (ih : ∀ i, i < T.len → ToCW (T.kids i)) : ToS T := by
  intro w v hi hf hhi hr hcost
  have hn := T.fine_len hf
  have hce := T.cost_eq
  have hck : ∀ j, j < T.len → (T.kids j).cost ≤ 1048576 := fun j hj => Nat.le_trans (T.cost_kid hj) hcost
  have hl20 : T.len ≤ 1048576 := by omega
  obtain ⟨a, cap, rfl, hcap, hq⟩ := row_eq.1 hr
  clear hcap
  have HI := hid_mk ih
  have HF := hid_mk hf
  have HR := hid_mk hq
  have HK := hid_mk hck
  clear hr hf ih hq hck hce
  obtain ⟨i0, hi0, hz0, hz1, hz2⟩ := info_parts info_node
  have hmk : ∀ W : World, (Instr.makeSlice 35 (.int .i64 (T.len : Int)) (.int .i64 (T.len : Int))).run Tryd.prog W = .ok (.slice (some ⟨W.heap.size, 0, none⟩) T.len T.len) (W.alloc (.cells (madeCells #[.int .i64 0, .int .i64 0, .string ⟨#[]⟩, .slice none 0 0] (T.len * 4)) 37)) := by
    intro W
    have := run_make (P := Tryd.prog) W 35 37 i0 _ Tryd.underlying35 hi0 hz0 .i64 .i64 (T.len : Int) (T.len : Int) (by omega) (by omega) (by rw [hz2]; omega) (by omega)
    rw [hz1] at this
    simpa [Value.cells] using this
  clear hi0 hz0 hz1 hz2
  go_enter Tryd.func33, Tryd.ntmps33
  go_wp2
  have HF0 : Hid (Fill T w 0 (w.alloc (.cells (madeCells #[.int .i64 0, .int .i64 0, .string ⟨#[]⟩, .slice none 0 0] (T.len * 4)) 37))) := fill_start T w
  go_loopw [4] (fun i wr => ∃ j : Nat, j ≤ T.len ∧ i = .int .i64 j ∧ Fill T w j wr) (fun i _ => T.len - (intOf i).toNat)
  case atStart => exact ⟨0, by omega, rfl, HF0.out⟩
  case round =>
    obtain ⟨j, hj, rfl, hfl⟩ := hrel
    clear HF0 hmk
    by_cases hlt : j < T.len
    · rcases HR.out with h0 | ⟨g, off, rfl, h1, h2, h3⟩
      · omega
      obtain ⟨x, e0, e1, e2, e3, hx⟩ := h3 j hlt
      have hgl : g < w.heap.size := by omega
      have hb := hfl.below
      have hlw := hfl.lt
      rw [← hb.cell (p := ⟨g, _, none⟩) hgl] at e0 e1 e2 e3
      have HX := hid_mk (row_below hb hhi hx)
      have hkc := HK.out j hlt
      have HC := HI.out j hlt
      have HFJ := hid_mk (Nd.fine_kid HF.out hlt)
      have HFL := hid_mk hfl
      obtain ⟨x0, t0⟩ := hfl.there (j * 4) (by omega)
      obtain ⟨x1, t1⟩ := hfl.there (j * 4 + 1) (by omega)
      obtain ⟨x2, t2⟩ := hfl.there (j * 4 + 2) (by omega)
      obtain ⟨x3, t3⟩ := hfl.there (j * 4 + 3) (by omega)
      have hwm := hfl.warm
      unfold ToCW Nd.val at HC
      have HCC := hid_mk HC
      have HKJ := hid_mk (show ∃ K, K = T.kids j from ⟨_, rfl⟩)
      clear h3 HC hx hfl
      go_wp2_with (go_at_call 14; refine (HCC.out _ _ hi HFJ.out (by have := hb.size; omega) HX.out (by omega)).mono ?_; rintro e w1 ⟨u1, rfl, hr1, hb1, hww1⟩; obtain ⟨a1, p1, rfl⟩ := row_shape hr1; have HR1 := hid_mk hr1; have HW1 := hid_mk hww1; clear hr1 hww1; obtain ⟨hc1, hf1⟩ := bcellT hb1; rw [← hc1 _ _ hlw] at t0 t1 t2 t3; have hwm1 := fun o => (hf1 _ o hlw).trans (hwm o))
      have HST := fill_step HFL.out hlt hb1 HW1.out HR1.out
      exact ⟨⟨j + 1, by omega, by go_num, HST⟩, by simp [intOf]; omega⟩
    · go_wp2
      go_ret
      obtain rfl : j = T.len := by omega
      exact ⟨_, rfl, fill_done hfl ⟨Nat.le_refl _, hn⟩, hfl.below, hfl.warmA⟩

set_option maxHeartbeats 1000000 in
theorem to_of (T : Nd) (h : ToS T) : ToCW T := by
  intro w v hi hf hhi hr hcost
  have HS := (show Hid (ToS T) from h)
  have HR := hid_mk hr
  have HF := hid_mk hf
  clear hr h hf
  unfold Nd.val
  generalize T.kind = tk
  generalize T.num = tn
  generalize T.name = ts
  have HB : ∀ a b c : Obj, Hid (Below w.heap.size w (((w.alloc a).alloc b).alloc c)) := fun a b c => (((Below.refl _ _).alloc (Nat.le_refl _) _).alloc (by simp) _).alloc (by simp; omega) _
  go_enter Tryd.func14, Tryd.ntmps14
  go_wp2_with (go_at_call 33; refine (HS.out _ _ hi HF.out (by simp; omega) (row_below (HB _ _ _).out hhi HR.out) hcost).mono ?_; rintro e w1 ⟨u1, rfl, hr1, hb1, hww1⟩; obtain ⟨a1, p1, rfl⟩ := row_shape hr1; have HR1 := hid_mk hr1; have HW1 := hid_mk hww1; clear hr1 hww1; obtain ⟨hc1, hf1⟩ := bcellT hb1)
  have hz1 := hb1.size
  simp only [World.size_alloc] at hz1
  refine bodyPost_ret (v := .agg #[.int .i64 tk, .int .i64 tn, .string ts, .slice a1 T.len p1]) (by simp [results, Tryd.results14, go_sem, hc1]) rfl ⟨_, rfl, ?_, ?_, ?_⟩
  · refine row_keep (by simp; omega) (by simp [World.setCell]) (fun g o h1 h2 => ?_) HR1.out
    simp only [World.size_alloc] at h1
    refine World.cell?_of_block (a := ⟨g, o, none⟩) ?_
    rw [Below.heap_setCell _ _ _ _ (by show g ≠ w.heap.size + 1; omega), Below.heap_setCell _ _ _ _ (by show g ≠ w.heap.size + 1; omega), Below.heap_setCell _ _ _ _ (by show g ≠ w.heap.size + 1; omega), Below.heap_setCell _ _ _ _ (by show g ≠ w.heap.size + 1; omega), Below.heap_setCell _ _ _ _ (by show g ≠ w.heap.size + 1 + 1; omega)]
  · exact (((((((HB _ _ _).out.trans (hb1.mono (by simp; omega))).setCell (p := ⟨w.heap.size + 1 + 1, 3, none⟩) (by show w.heap.size ≤ w.heap.size + 1 + 1; omega) _).setCell (p := ⟨w.heap.size + 1, 0, none⟩) (by show w.heap.size ≤ w.heap.size + 1; omega) _).setCell (p := ⟨w.heap.size + 1, 1, none⟩) (by show w.heap.size ≤ w.heap.size + 1; omega) _).setCell (p := ⟨w.heap.size + 1, 2, none⟩) (by show w.heap.size ≤ w.heap.size + 1; omega) _).setCell (p := ⟨w.heap.size + 1, 3, none⟩) (by show w.heap.size ≤ w.heap.size + 1; omega) _)
  · exact ((((((((((Warm.start w).alloc _ _).alloc _ _).alloc _ _).later hb1 HW1.out).setCell _ _).setCell _ _).setCell _ _).setCell _ _).setCell _ _)

theorem to_nodeW (T : Nd) : ToCW T := by
  induction T with
  | nil => exact to_of _ (toS_of _ fun i hi => absurd hi (Nat.not_lt_zero i))
  | mk k n s len kids ih => exact to_of _ (toS_of _ fun i _ => ih i)
theorem to_node (T : Nd) : ToC T := fun w v hi h1 h2 h3 h4 => (to_nodeW T w v hi h1 h2 h3 h4).mono fun e w' ⟨u, a, b, c, _⟩ => ⟨u, a, b, c⟩
end Go.Proofs.YtjgbjahcnnjfpaaDoor
namespace Go.Proofs.YtjgbjahcnnjfpaaDoor
open Go.RowKit

def SzC (T : Nd) : Prop := ∀ (w : World) (left hi : Nat) (v : Value), T.Fine → hi ≤ w.heap.size → Row 0 hi w T v → left ≤ 1048576 →
  Calls Tryd.prog 12 #[T.val v, .int .i64 left] w fun e w' => e = .returned (.int .i64 (left' T.cost left)) ∧ Below w.heap.size w w'
def SzS (T : Nd) : Prop := ∀ (w : World) (left hi : Nat) (v : Value), T.Fine → hi ≤ w.heap.size → Row 0 hi w T v → left ≤ 1048576 →
  Calls Tryd.prog 28 #[v, .int .i64 left] w fun e w' => e = .returned (.int .i64 (left' (T.len + sumTo (fun i => (T.kids i).cost) T.len) left)) ∧ Below w.heap.size w w'

set_option maxHeartbeats 1000000 in
theorem sz_of (T : Nd) (h : SzS T) : SzC T := by
  intro w left hi v hf hhi hr hl
  have hs := T.fine_name hf
  have HC : Hid (T.cost = T.name.size + (T.len + sumTo (fun i => (T.kids i).cost) T.len)) := T.cost_eq
  have HS := (show Hid (SzS T) from h)
  have HR := (show Hid (Row 0 hi w T v) from hr)
  have HF := (show Hid T.Fine from hf)
  clear hr h hf
  unfold Nd.val
  generalize T.kind = tk
  generalize T.num = tn
  go_enter Tryd.func12, Tryd.ntmps12
  by_cases hc : T.name.size ≤ left
  · have hlc : ((left - T.name.size : Nat) : Int) = (left : Int) - T.name.size := by omega
    have HX : Hid (left' T.cost left = left' (T.len + sumTo (fun i => (T.kids i).cost) T.len) (left - T.name.size)) := by
      unfold Hid left'; rw [HC.out]; split <;> split <;> omega
    generalize hg : T.len + sumTo (fun i => (T.kids i).cost) T.len = c at *
    go_wp2_with (go_at_call 28; rw [← hlc]; refine (HS.out _ (left - T.name.size) hi _ HF.out (by simp; omega) (row_below ((Below.refl _ _).alloc (Nat.le_refl _) _) hhi HR.out) (by omega)).mono ?_; rintro e w1 ⟨rfl, hb1⟩; rw [hg])
    · go_ret
      have hm : ∀ c l, left' c l < 0 → left' c l = -1 := fun c l h => by unfold left' at h ⊢; split at h <;> omega
      exact ⟨ret_in (by rw [HX.out, hm _ _ (by assumption)]), ((Below.refl _ _).alloc (Nat.le_refl _) _).trans (hb1.mono (by simp))⟩
    · go_ret
      exact ⟨ret_in HX.out.symm, ((Below.refl _ _).alloc (Nat.le_refl _) _).trans (hb1.mono (by simp))⟩
  · have HX : Hid (left' T.cost left = -1) := by
      unfold Hid left'; rw [HC.out, if_neg (by omega)]
    go_wp2
    go_ret
    exact ⟨ret_in HX.out.symm, (Below.refl _ _).alloc (Nat.le_refl _) _⟩

set_option maxHeartbeats 2000000 in
theorem szS_of (T : Nd) (ih : ∀ i, i < T.len → SzC (T.kids i)) : SzS T := by
  intro w left hi v hf hhi hr hl
  have hn := T.fine_len hf
  obtain ⟨a, cap, rfl, hcap, hq⟩ := row_eq.1 hr
  clear hcap
  have hq := hid_mk hq
  have HI := (show Hid (∀ i, i < T.len → SzC (T.kids i)) from ih)
  have HF := (show Hid T.Fine from hf)
  have HR := hq
  clear hr hf ih hq
  have hst : ∀ j, j < T.len → sumTo (fun i => (T.kids i).cost) j + (T.kids j).cost ≤ sumTo (fun i => (T.kids i).cost) T.len := fun j hj => sumTo_at _ hj
  have hss : ∀ j, sumTo (fun i => (T.kids i).cost) (j + 1) = sumTo (fun i => (T.kids i).cost) j + (T.kids j).cost := fun j => rfl
  have h00 : sumTo (fun i => (T.kids i).cost) 0 = 0 := rfl
  generalize sumTo (fun i => (T.kids i).cost) = S at *
  have HST := (show Hid (∀ j, j < T.len → S j + (T.kids j).cost ≤ S T.len) from hst)
  have HSS := (show Hid (∀ j, S (j + 1) = S j + (T.kids j).cost) from hss)
  clear hst hss
  go_enter Tryd.func28, Tryd.ntmps28
  by_cases hc : T.len ≤ left
  · go_wp2
    go_loopw [1, 5] (fun l i wr => ∃ (j k : Nat), j ≤ T.len ∧ i = .int .i64 j ∧ l = .int .i64 k ∧ k + (T.len + S j) = left ∧ Below w.heap.size w wr) (fun _ i _ => T.len - (intOf i).toNat)
    case atStart => exact ⟨0, left - T.len, by omega, rfl, by congr 1; omega, by omega, Below.refl _ _⟩
    case round =>
      obtain ⟨j, k, hj, rfl, rfl, hk, hb⟩ := hrel
      by_cases hlt : j < T.len
      · rcases HR.out with h0 | ⟨g, off, rfl, h1, h2, h3⟩
        · omega
        obtain ⟨u, e0, e1, e2, e3, hu⟩ := h3 j hlt
        have hgl : g < w.heap.size := by omega
        rw [← hb.cell (p := ⟨g, _, none⟩) hgl] at e0 e1 e2 e3
        have HU := (show Hid (Row 0 hi wr (T.kids j) u) from row_below hb hhi hu)
        have hbz := hb.size
        have h1' := HST.out j hlt
        have h2' := HSS.out j
        have HC := HI.out j hlt
        have HFJ := (show Hid (T.kids j).Fine from Nd.fine_kid HF.out hlt)
        unfold SzC Nd.val at HC
        have HCC := (show Hid _ from HC)
        clear h3 HC hu
        generalize T.kids j = K at *
        go_wp2_with (go_at_call 12; refine (HCC.out _ k hi _ HFJ.out (by omega) HU.out (by omega)).mono ?_; rintro e w1 ⟨rfl, hb1⟩)
        · go_ret
          have hx := left_neg (by assumption)
          exact ⟨ret_in (by unfold left'; rw [if_neg (by omega)]), hb.trans (hb1.mono (by omega))⟩
        · obtain ⟨hx, hy⟩ := left_pos (by assumption)
          exact ⟨⟨j + 1, k - K.cost, by omega, by go_num, by rw [hy], by omega, hb.trans (hb1.mono (by omega))⟩, by simp [intOf]; omega⟩
      · go_wp2
        go_ret
        obtain rfl : j = T.len := by omega
        exact ⟨ret_in (by unfold left'; rw [if_pos (by omega)]; omega), hb⟩
  · have HX : Hid (left' (T.len + S T.len) left = -1) := by
      unfold Hid left'; rw [if_neg (by omega)]
    go_wp2
    go_ret
    exact ⟨ret_in HX.out.symm, Below.refl _ _⟩

theorem sz_node (T : Nd) : SzC T := by
  induction T with
  | nil => exact sz_of _ (szS_of _ fun i hi => absurd hi (Nat.not_lt_zero i))
  | mk k n s len kids ih => exact sz_of _ (szS_of _ fun i _ => ih i)
end Go.Proofs.YtjgbjahcnnjfpaaDoor
namespace Go.Proofs.YtjgbjahcnnjfpaaDoor
open Go.RowKit

def EqC (T : Nd) : Prop := ∀ (w : World) (u v : Value), T.Fine → Row 0 w.heap.size w T u → Row 0 w.heap.size w T v →
  Calls Tryd.prog 16 #[T.val u, T.val v] w fun e w' => e = .returned (.bool true) ∧ Below w.heap.size w w'
def EqS (T : Nd) : Prop := ∀ (w : World) (u v : Value) (hi : Nat), T.Fine → hi ≤ w.heap.size → Row 0 hi w T u → Row 0 hi w T v →
  Calls Tryd.prog 35 #[u, v] w fun e w' => e = .returned (.bool true) ∧ Below w.heap.size w w'

set_option maxHeartbeats 1000000 in
theorem eqN_of (T : Nd) (h : EqS T) : EqC T := by
  intro w u v hf hr hr'
  have HS := (show Hid (EqS T) from h)
  have HR := hid_mk hr
  have HR' := hid_mk hr'
  have HF := hid_mk hf
  clear hr hr' h hf
  unfold Nd.val
  generalize T.kind = tk
  generalize T.num = tn
  generalize T.name = ts
  go_enter Tryd.func16, Tryd.ntmps16
  have HB : ∀ a b : Obj, Hid (Below w.heap.size w ((w.alloc a).alloc b)) := fun a b => ((Below.refl _ _).alloc (Nat.le_refl _) _).alloc (by simp) _
  go_wp2_with (go_at_call 35; refine (HS.out _ _ _ w.heap.size HF.out (by simp; omega) (row_below (HB _ _).out (Nat.le_refl _) HR.out) (row_below (HB _ _).out (Nat.le_refl _) HR'.out)).mono ?_; rintro e w1 ⟨rfl, hb1⟩)
  go_ret
  exact ⟨rfl, (HB _ _).out.trans (hb1.mono (by simp; omega))⟩

set_option maxHeartbeats 2000000 in
theorem eqS_of (T : Nd) (ih : ∀ i, i < T.len → EqC (T.kids i)) : EqS T := by
  intro w u v hi hf hhi hr hr'
  have hn := T.fine_len hf
  obtain ⟨a, ca, rfl, hcap, hq⟩ := row_eq.1 hr
  clear hcap
  obtain ⟨b, cb, rfl, hcap, hq'⟩ := row_eq.1 hr'
  clear hcap
  have HI := hid_mk ih
  have HF := hid_mk hf
  have HR := hid_mk hq
  have HR' := hid_mk hq'
  clear hr hr' hf ih hq hq'
  go_enter Tryd.func35, Tryd.ntmps35
  go_wp2
  go_loopw [5] (fun i wr => ∃ j : Nat, j ≤ T.len ∧ i = .int .i64 j ∧ Below w.heap.size w wr) (fun i _ => T.len - (intOf i).toNat)
  case atStart => exact ⟨0, by omega, rfl, Below.refl _ _⟩
  case round =>
    obtain ⟨j, hj, rfl, hb⟩ := hrel
    by_cases hlt : j < T.len
    · rcases HR.out with h0 | ⟨g, off, rfl, h1, h2, h3⟩
      · omega
      rcases HR'.out with h0 | ⟨g', off', rfl, h1', h2', h3'⟩
      · omega
      obtain ⟨x, e0, e1, e2, e3, hx⟩ := h3 j hlt
      obtain ⟨y, f0, f1, f2, f3, hy⟩ := h3' j hlt
      have hgl : g < w.heap.size := by omega
      have hgl' : g' < w.heap.size := by omega
      rw [← hb.cell (p := ⟨g, _, none⟩) hgl] at e0 e1 e2 e3
      rw [← hb.cell (p := ⟨g', _, none⟩) hgl'] at f0 f1 f2 f3
      have hbz := hb.size
      have HX := hid_mk (row_wide (row_below hb hhi hx) (Nat.le_refl 0) (show hi ≤ wr.heap.size by omega))
      have HY := hid_mk (row_wide (row_below hb hhi hy) (Nat.le_refl 0) (show hi ≤ wr.heap.size by omega))
      have HC := HI.out j hlt
      have HFJ := hid_mk (Nd.fine_kid HF.out hlt)
      unfold EqC Nd.val at HC
      have HCC := hid_mk HC
      clear h3 h3' HC hx hy
      generalize T.kids j = K at *
      generalize K.kind = kk at *
      generalize K.num = kn at *
      generalize K.name = ks at *
      go_wp2_with fail
      go_region_with (go_at_call 16; (refine (HCC.out _ _ _ HFJ.out ?_ ?_).mono ?_; exact row_drew HX.out; exact row_drew HY.out; rintro e w1 ⟨rfl, hb1⟩))
      all_goals go_wp2
      all_goals exact ⟨⟨j + 1, by omega, by go_num, hb.drew.trans (hb1.mono hb.size)⟩, by simp [intOf]; omega⟩
    · go_wp2
      go_ret
      exact ⟨rfl, hb⟩

theorem eq_node (T : Nd) : EqC T := by
  induction T with
  | nil => exact eqN_of _ (eqS_of _ fun i hi => absurd hi (Nat.not_lt_zero i))
  | mk k n s len kids ih => exact eqN_of _ (eqS_of _ fun i _ => ih i)
end Go.Proofs.YtjgbjahcnnjfpaaDoor
