/- impl.remade at the closure that chooses. -/
import Derived.Test.YtjgbjahcnnjfpaaDoorMeA
import Derived.Test.YtjgbjahcnnjfpaaDoorMeB
import Derived.RangeFuncBox
set_option linter.unusedVariables false
namespace Go.Proofs.YtjgbjahcnnjfpaaDoor
open Go.RowKit

set_option maxHeartbeats 4000000 in
theorem remade_ch (T : Nd) (f : Nat → Nd) (sb : Nat) (w : World) (v : Value) (hi : Nat) (hf : T.Fine) (hhi : hi ≤ w.heap.size) (hr : Row 0 hi w T v) (hcost : T.cost ≤ 1048576)
    (hcall : ∀ i, i < T.len → ∀ (W : World) (x : Value), Below w.heap.size w W → Row 0 hi W (T.kids i) x → Calls Tryd.prog 52 #[(T.kids i).val x, .pointer (some ⟨sb, 0, none⟩)] W fun e w' => ∃ u, e = .returned ((f i).val u) ∧ Tr w' (f i) W.heap.size w'.heap.size u ∧ Below W.heap.size W w') :
    Calls Tryd.prog 50 #[T.val v, .func (.func 52) #[] #[.pointer (some ⟨sb, 0, none⟩)]] w fun e w' => ∃ u, e = .returned ((mapN T f).val u) ∧ Tr w' (mapN T f) w.heap.size w'.heap.size u ∧ Below w.heap.size w w' := by
  have hn := T.fine_len hf
  have hce := T.cost_eq
  have hl20 : T.len ≤ 1048576 := by omega
  obtain ⟨a, cap, rfl, hcap, hq⟩ := row_eq.1 hr
  obtain ⟨i0, hi0, hz0, hz1, hz2⟩ := info_parts info_nodeC
  have HI := hid_mk hcall
  have HR := hid_mk hq
  clear hr hf hcall hq hce hcap
  unfold Nd.val
  generalize hW0 : (w.alloc (.cells #[.int .i64 T.kind, .int .i64 T.num, .string T.name, .slice a T.len cap] 37)).alloc (.cells #[.int .i64 0, .int .i64 0, .string ⟨#[]⟩, .slice none 0 0] 37) = W0
  have hb0 : Hid (Below w.heap.size w W0) := by rw [← hW0]; exact ((Below.refl _ _).alloc (Nat.le_refl _) _).alloc (by simp) _
  have hz0' : W0.heap.size = w.heap.size + 1 + 1 := by rw [← hW0]; simp
  have HC0 : Hid ((W0.cell? ⟨w.heap.size, 0, none⟩ = some (.int .i64 T.kind) ∧ W0.cell? ⟨w.heap.size, 1, none⟩ = some (.int .i64 T.num) ∧ W0.cell? ⟨w.heap.size, 2, none⟩ = some (.string T.name) ∧ W0.cell? ⟨w.heap.size, 3, none⟩ = some (.slice a T.len cap)) ∧
      (W0.cell? ⟨w.heap.size + 1, 0, none⟩ = some (.int .i64 0) ∧ W0.cell? ⟨w.heap.size + 1, 1, none⟩ = some (.int .i64 0) ∧ W0.cell? ⟨w.heap.size + 1, 2, none⟩ = some (.string ⟨#[]⟩) ∧ W0.cell? ⟨w.heap.size + 1, 3, none⟩ = some (.slice none 0 0)) ∧ (∀ o, W0.frozen? ⟨w.heap.size, o, none⟩ = false) ∧ ∀ o, W0.frozen? ⟨w.heap.size + 1, o, none⟩ = false) := by
    rw [← hW0]; unfold Hid; simp [go_sem]
  have HW0 := hid_mk hW0
  have HZ0 := hid_mk hz0'
  clear hW0 hz0'
  go_enter Tryd.func50, Tryd.ntmps50
  go_wp2
  rw [HW0.out]
  go_loopw [5, 11] (fun kv i wr => ∃ (j : Nat) (sa : Option Addr) (sc : Nat) (us : Nat → Value) (s e : Nat → Nat), j ≤ T.len ∧ i = .int .i64 j ∧ kv = .slice sa j sc ∧ CpI (mapN T f) W0 j (.slice sa j sc) us s e wr) (fun _ i _ => T.len - (intOf i).toNat)
  case atStart =>
    refine ⟨0, none, 0, _, _, _, Nat.zero_le _, rfl, rfl, CpI.start (mapN T f) ⟨rfl, .inl ⟨rfl, rfl⟩⟩ (Below.refl _ _)⟩
  case round =>
    obtain ⟨j, sa, sc, us, s, e, hj, rfl, rfl, hcp⟩ := hrel
    have HCP := hid_mk hcp
    have hz := hcp.below.size
    have HZ := hid_mk (show w.heap.size + 1 + 1 ≤ wr.heap.size by have := HZ0.out; omega)
    have hbw := hb0.out.trans (hcp.below.mono (by have := HZ0.out; omega))
    by_cases hlt : j < T.len
    · rcases HR.out with h0 | ⟨g, off, rfl, h1, h2, h3⟩
      · omega
      obtain ⟨x, e0, e1, e2, e3, hx⟩ := h3 j hlt
      have hgl : g < w.heap.size := by omega
      rw [← hbw.cell (p := ⟨g, _, none⟩) hgl] at e0 e1 e2 e3
      obtain ⟨xa, xc, rfl⟩ : ∃ xa xc, x = .slice xa (T.kids j).len xc := by obtain ⟨a', c', h, _⟩ := row_eq.1 hx; exact ⟨a', c', h⟩
      have HBA : ∀ x : Obj, Hid (Below wr.heap.size wr (wr.alloc x)) := fun x => (Below.refl _ _).alloc (Nat.le_refl _) _
      have HCC := hid_mk (fun (o : Obj) => HI.out j hlt (wr.alloc o) (.slice xa (T.kids j).len xc) (hbw.trans ((HBA o).out.mono (by have := HZ.out; omega))) (row_below (hbw.trans ((HBA o).out.mono (by have := HZ.out; omega))) hhi hx))
      have hjl : (j : Int) < (T.len : Int) := by omega
      unfold Nd.val at HCC
      clear h3 hx hcp hbw
      go_wp2_with (first
        | (go_at_call 52; refine (HCC.out _).mono ?_; rintro e w1 ⟨u1, rfl, ht1, hb1⟩; obtain ⟨a1, p1, rfl⟩ := tr_shape ht1; have HT1 := hid_mk ht1; have HB1 := hid_mk hb1; clear ht1 hb1)
        | (at_builtin; refine wpList_append_freshG _ rfl _ _ 35 rfl W0.heap.size 37 i0 (.agg #[.int .i64 0, .int .i64 0, .string ⟨#[]⟩, .slice none 0 0]) 4 56 Tryd.underlying35 hi0 hz0 hz1 hz2 rfl (by decide) _ j _ rfl (((HCP.out.later (HBA _).out).later HB1.out).own.alloc _) ⟨w1.heap.size, 0, none⟩ 1 1 [.int .i64 (f j).kind, .int .i64 (f j).num, .string (f j).name, .slice a1 (f j).len p1] rfl rfl (four_new _ _ _ _ _ _) (four_one _ _ _ _ _ _) (by unfold maxLen; omega) (by omega) (by have := ((HCP.out.later (HBA _).out).later HB1.out).below.size; simp; omega) ?_; intro v' w3 hown hgrow hloc hsh))
      obtain ⟨sa', sc', rfl⟩ := hsh.out
      have hst := (HCP.out.later (HBA _).out).step HB1.out HT1.out ((Below.refl _ _).alloc (Nat.le_refl _) _) hown.out hgrow.out hloc.out
      exact ⟨⟨j + 1, sa', sc', _, _, _, by omega, by go_num, rfl, hst⟩, by simp [intOf]; omega⟩
    · obtain rfl : j = T.len := by omega
      obtain ⟨⟨c0, c1, c2, c3⟩, ⟨d0, d1, d2, d3⟩, hfc, hfd⟩ := HC0.out
      have hc : ∀ b o, b < w.heap.size + 1 + 1 → wr.cell? ⟨b, o, none⟩ = W0.cell? ⟨b, o, none⟩ := fun b o h => hcp.below.cell (p := ⟨b, o, none⟩) (show b < W0.heap.size by have := HZ0.out; omega)
      rw [← hc _ _ (by omega)] at c0 c1 c2 c3
      rw [← hc _ _ (by omega)] at d0 d1 d2 d3
      have hfc' : ∀ o, wr.frozen? ⟨w.heap.size, o, none⟩ = false := fun o => (hcp.below.frozen (p := ⟨w.heap.size, o, none⟩) (show w.heap.size < W0.heap.size by have := HZ0.out; omega)).trans (hfc o)
      have hfd' : ∀ o, wr.frozen? ⟨w.heap.size + 1, o, none⟩ = false := fun o => (hcp.below.frozen (p := ⟨w.heap.size + 1, o, none⟩) (show w.heap.size + 1 < W0.heap.size by have := HZ0.out; omega)).trans (hfd o)
      have HTR := hid_mk (tr_wide (hi' := wr.heap.size) (CpI.done (T := mapN T f) hcp) (show w.heap.size + 2 ≤ W0.heap.size by have := HZ0.out; omega) (Nat.le_refl _))
      have HBW := hid_mk hbw
      clear hc hfc hfd hcp hbw
      go_wp2
      have hzw := HZ.out
      have ho : ∀ o, (wr.setCell ⟨w.heap.size, 3, none⟩ (.slice sa T.len sc)).cell? ⟨w.heap.size + 1, o, none⟩ = wr.cell? ⟨w.heap.size + 1, o, none⟩ := fun o => World.cell?_of_block (a := ⟨w.heap.size + 1, o, none⟩) (Below.heap_setCell _ _ _ _ (by show w.heap.size + 1 ≠ w.heap.size; omega))
      obtain ⟨p0, p1, p2, p3, _, po, ps, pf⟩ := store4C (wr.setCell ⟨w.heap.size, 3, none⟩ (.slice sa T.len sc)) (w.heap.size + 1) (.int .i64 T.kind) (.int .i64 T.num) (.string T.name) (.slice sa T.len sc) ⟨_, (ho 0).trans d0⟩ ⟨_, (ho 1).trans d1⟩ ⟨_, (ho 2).trans d2⟩ ⟨_, (ho 3).trans d3⟩
      have hbV : Below w.heap.size w (((((wr.setCell ⟨w.heap.size, 3, none⟩ (.slice sa T.len sc)).setCell ⟨w.heap.size + 1, 0, none⟩ (.int .i64 T.kind)).setCell ⟨w.heap.size + 1, 1, none⟩ (.int .i64 T.num)).setCell ⟨w.heap.size + 1, 2, none⟩ (.string T.name)).setCell ⟨w.heap.size + 1, 3, none⟩ (.slice sa T.len sc)) :=
        ((((HBW.out.setCell (p := ⟨w.heap.size, 3, none⟩) (Nat.le_refl _) _).setCell (p := ⟨w.heap.size + 1, 0, none⟩) (Nat.le_succ _) _).setCell (p := ⟨w.heap.size + 1, 1, none⟩) (Nat.le_succ _) _).setCell (p := ⟨w.heap.size + 1, 2, none⟩) (Nat.le_succ _) _).setCell (p := ⟨w.heap.size + 1, 3, none⟩) (Nat.le_succ _) _
      have hz1 : (wr.setCell ⟨w.heap.size, 3, none⟩ (.slice sa T.len sc)).heap.size = wr.heap.size := by simp only [World.setCell, Array.size_modify]
      have htr : Tr (((((wr.setCell ⟨w.heap.size, 3, none⟩ (.slice sa T.len sc)).setCell ⟨w.heap.size + 1, 0, none⟩ (.int .i64 T.kind)).setCell ⟨w.heap.size + 1, 1, none⟩ (.int .i64 T.num)).setCell ⟨w.heap.size + 1, 2, none⟩ (.string T.name)).setCell ⟨w.heap.size + 1, 3, none⟩ (.slice sa T.len sc)) (mapN T f) w.heap.size wr.heap.size (.slice sa T.len sc) :=
        tr_wide (tr_keep (fun k k1 k2 => (po k (by omega)).trans (Below.heap_setCell _ _ _ _ (by show k ≠ w.heap.size; omega))) HTR.out) (by omega) (Nat.le_refl _)
      rw [hz1] at ps
      revert p0 p1 p2 p3 po ps pf hbV htr
      generalize ((((wr.setCell ⟨w.heap.size, 3, none⟩ (.slice sa T.len sc)).setCell ⟨w.heap.size + 1, 0, none⟩ (.int .i64 T.kind)).setCell ⟨w.heap.size + 1, 1, none⟩ (.int .i64 T.num)).setCell ⟨w.heap.size + 1, 2, none⟩ (.string T.name)).setCell ⟨w.heap.size + 1, 3, none⟩ (.slice sa T.len sc) = X
      intro p0 p1 p2 p3 po ps pf hbV htr
      exact bodyPost_ret (v := .agg #[.int .i64 T.kind, .int .i64 T.num, .string T.name, .slice sa T.len sc]) (by simp [results, Tryd.results50, go_sem, p0, p1, p2, p3]) rfl ⟨.slice sa T.len sc, rfl, by rw [ps]; exact htr, hbV⟩
end Go.Proofs.YtjgbjahcnnjfpaaDoor
namespace Go.Proofs.YtjgbjahcnnjfpaaDoor
open Go.RowKit

def GdT : Nd → Prop
  | .nil => True
  | .mk k n s len kids => (k = 30 → 0 < len ∧ (-10000000 ≤ n ∧ n ≤ 10000000) ∧ ∀ i, i < len → ¬ (kids i).kind = 30) ∧ ∀ i, i < len → GdT (kids i)
theorem gd_eq (T : Nd) : GdT T ↔ (T.kind = 30 → 0 < T.len ∧ (-10000000 ≤ T.num ∧ T.num ≤ 10000000) ∧ ∀ i, i < T.len → ¬ (T.kids i).kind = 30) ∧ ∀ i, i < T.len → GdT (T.kids i) := by
  cases T with
  | nil => exact ⟨fun _ => ⟨(fun h => by cases h), fun i hi => absurd hi (Nat.not_lt_zero _)⟩, fun _ => trivial⟩
  | mk => exact Iff.rfl

set_option maxHeartbeats 4000000 in
theorem picked_any (T : Nd) (sel : Int) (w : World) (v : Value) (hi : Nat) (hf : T.Fine) (hhi : hi ≤ w.heap.size) (hr : Row 0 hi w T v) (hl : 0 < T.len) (hn0 : -10000000 ≤ T.num) (hn1 : T.num ≤ 10000000) (hs0 : 0 ≤ sel) (hs1 : sel ≤ 10000000) :
    Calls Tryd.prog 51 #[T.val v, .int .i64 sel] w fun e w' => ∃ x, e = .returned ((T.kids (pickK T.num sel T.len)).val x) ∧ Row 0 hi w (T.kids (pickK T.num sel T.len)) x ∧ Below w.heap.size w w' := by
  have hn := T.fine_len hf
  obtain ⟨a, cap, rfl, hcap, hq⟩ := row_eq.1 hr
  rcases hq with h0 | ⟨g, off, rfl, hg0, hg1, hq⟩
  · omega
  have hk := pickK_lt (num := T.num) (sel := sel) hl
  obtain ⟨x, e0, e1, e2, e3, hx⟩ := hq _ hk
  obtain ⟨xa, xc, rfl⟩ : ∃ xa xc, x = .slice xa (T.kids (pickK T.num sel T.len)).len xc := by obtain ⟨a', c', h, _⟩ := row_eq.1 hx; exact ⟨a', c', h⟩
  have HX := hid_mk hx
  have HB : ∀ o1 o2 : Obj, Hid (Below w.heap.size w ((w.alloc o1).alloc o2)) := fun o1 o2 => ((Below.refl _ _).alloc (Nat.le_refl _) _).alloc (by simp) _
  have hgw : g < w.heap.size := by omega
  clear hr hq hx hf
  unfold Nd.val
  by_cases h1 : sel - T.num + 1 < 1
  · have hp : pickK T.num sel T.len = 0 := by unfold pickK; rw [if_neg (by omega)]
    have HPP := hid_mk hp
    rw [hp] at e0 e1 e2 e3 HX ⊢
    simp only [Nat.zero_mul, Nat.add_zero] at e0 e1 e2 e3
    have hl' : (0 : Int) < (T.len : Int) := by omega
    clear hp hk
    go_enter Tryd.func51, Tryd.ntmps51
    go_wp2
    exact bodyPost_ret (v := .agg #[.int .i64 (T.kids 0).kind, .int .i64 (T.kids 0).num, .string (T.kids 0).name, .slice xa (T.kids 0).len xc]) (by simp [results, Tryd.results51, go_sem]) rfl ⟨_, rfl, HX.out, (HB _ _).out⟩
  · by_cases h2 : (T.len : Int) ≤ sel - T.num + 1
    · have hp : pickK T.num sel T.len = 0 := by unfold pickK; rw [if_neg (by omega)]
      have HPP := hid_mk hp
      rw [hp] at e0 e1 e2 e3 HX ⊢
      simp only [Nat.zero_mul, Nat.add_zero] at e0 e1 e2 e3
      have hl' : (0 : Int) < (T.len : Int) := by omega
      clear hp hk
      go_enter Tryd.func51, Tryd.ntmps51
      go_wp2
      exact bodyPost_ret (v := .agg #[.int .i64 (T.kids 0).kind, .int .i64 (T.kids 0).num, .string (T.kids 0).name, .slice xa (T.kids 0).len xc]) (by simp [results, Tryd.results51, go_sem]) rfl ⟨_, rfl, HX.out, (HB _ _).out⟩
    · have hp : pickK T.num sel T.len = (sel - T.num + 1).toNat := by unfold pickK; rw [if_pos (by omega)]
      rw [hp] at e0 e1 e2 e3 HX ⊢
      clear hp hk
      have hk1 : 1 ≤ sel - T.num + 1 := by omega
      have hk0 : 0 ≤ sel - T.num + 1 := by omega
      have hkl : sel - T.num + 1 < (T.len : Int) := by omega
      have hkn : (sel - T.num + 1).toNat < T.len := by omega
      generalize T.kids (sel - T.num + 1).toNat = K at *
      go_enter Tryd.func51, Tryd.ntmps51
      go_wp2
      exact bodyPost_ret (v := .agg #[.int .i64 K.kind, .int .i64 K.num, .string K.name, .slice xa K.len xc]) (by simp [results, Tryd.results51, go_sem]) rfl ⟨_, rfl, HX.out, (HB _ _).out⟩

def ChC (sel : Int) (T : Nd) : Prop := ∀ (w : World) (v : Value) (hi : Nat), T.Fine → hi ≤ w.heap.size → Row 0 hi w T v → T.cost ≤ 1048576 → GdT T →
  Calls Tryd.prog 38 #[T.val v, .int .i64 sel] w fun e w' => ∃ u, e = .returned ((chooseT sel T).val u) ∧ Tr w' (chooseT sel T) w.heap.size w'.heap.size u ∧ Below w.heap.size w w'

theorem chosen1_of (sel : Int) (K : Nd) (h : ChC sel K) (w : World) (v : Value) (hi sb : Nat) (hf : K.Fine) (hhi : hi ≤ w.heap.size) (hr : Row 0 hi w K v) (hcost : K.cost ≤ 1048576) (hg : GdT K) (hsb : Boxed w sb 3 (.int .i64 sel)) :
    Calls Tryd.prog 52 #[K.val v, .pointer (some ⟨sb, 0, none⟩)] w fun e w' => ∃ u, e = .returned ((chooseT sel K).val u) ∧ Tr w' (chooseT sel K) w.heap.size w'.heap.size u ∧ Below w.heap.size w w' := by
  have HC := hid_mk (fun (W : World) (hb : Below w.heap.size w W) => h W v hi hf (Nat.le_trans hhi hb.size) (row_below hb hhi hr) hcost hg)
  obtain ⟨a, cap, rfl, hcap, hq⟩ := row_eq.1 hr
  have hsl := hsb.lt
  have q := hsb.cell
  clear hr hf hq hcap hsb h
  generalize chooseT sel K = C at *
  unfold Nd.val at HC
  unfold Nd.val
  have HBA : ∀ o1 o2 : Obj, Hid (Below w.heap.size w ((w.alloc o1).alloc o2)) := fun o1 o2 => ((Below.refl _ _).alloc (Nat.le_refl _) _).alloc (by simp) _
  go_enter Tryd.func52, Tryd.ntmps52
  go_wp2_with fail
  generalize hW0 : (w.alloc (.cells #[.int .i64 K.kind, .int .i64 K.num, .string K.name, .slice a K.len cap] 37)).alloc (.cells #[.int .i64 0, .int .i64 0, .string ⟨#[]⟩, .slice none 0 0] 37) = W0
  have hb0 : Below w.heap.size w W0 := by rw [← hW0]; exact (HBA _ _).out
  have hz0 : W0.heap.size = w.heap.size + 1 + 1 := by rw [← hW0]; simp
  obtain ⟨⟨d0, d1, d2, d3⟩, hfd⟩ : (W0.cell? ⟨w.heap.size + 1, 0, none⟩ = some (.int .i64 0) ∧ W0.cell? ⟨w.heap.size + 1, 1, none⟩ = some (.int .i64 0) ∧ W0.cell? ⟨w.heap.size + 1, 2, none⟩ = some (.string ⟨#[]⟩) ∧ W0.cell? ⟨w.heap.size + 1, 3, none⟩ = some (.slice none 0 0)) ∧ ∀ o, W0.frozen? ⟨w.heap.size + 1, o, none⟩ = false := by
    rw [← hW0]; simp [go_sem]
  clear hW0
  refine (HC.out _ hb0).mono ?_
  rintro e w4 ⟨u, rfl, htr, hb4⟩
  obtain ⟨sa, sc, rfl⟩ := tr_shape htr
  have hz4 := hb4.size
  have hlt : w.heap.size + 1 < W0.heap.size := by omega
  rw [← hb4.cell (p := ⟨w.heap.size + 1, _, none⟩) hlt] at d0 d1 d2 d3
  have hfz4 : ∀ o, w4.frozen? ⟨w.heap.size + 1, o, none⟩ = false := fun o => (hb4.frozen (p := ⟨w.heap.size + 1, o, none⟩) hlt).trans (hfd o)
  have HB4 := hid_mk (hb0.trans (hb4.mono (by omega)))
  have HT4 := hid_mk htr
  clear htr hb4 hb0 hfd
  go_wp2
  obtain ⟨p0, p1, p2, p3, _, po, ps, pf⟩ := store4C w4 (w.heap.size + 1) (.int .i64 C.kind) (.int .i64 C.num) (.string C.name) (.slice sa C.len sc) ⟨_, d0⟩ ⟨_, d1⟩ ⟨_, d2⟩ ⟨_, d3⟩
  have hbV : Below w.heap.size w ((((w4.setCell ⟨w.heap.size + 1, 0, none⟩ (.int .i64 C.kind)).setCell ⟨w.heap.size + 1, 1, none⟩ (.int .i64 C.num)).setCell ⟨w.heap.size + 1, 2, none⟩ (.string C.name)).setCell ⟨w.heap.size + 1, 3, none⟩ (.slice sa C.len sc)) :=
    (((HB4.out.setCell (p := ⟨w.heap.size + 1, 0, none⟩) (Nat.le_succ _) _).setCell (p := ⟨w.heap.size + 1, 1, none⟩) (Nat.le_succ _) _).setCell (p := ⟨w.heap.size + 1, 2, none⟩) (Nat.le_succ _) _).setCell (p := ⟨w.heap.size + 1, 3, none⟩) (Nat.le_succ _) _
  have htr : Tr ((((w4.setCell ⟨w.heap.size + 1, 0, none⟩ (.int .i64 C.kind)).setCell ⟨w.heap.size + 1, 1, none⟩ (.int .i64 C.num)).setCell ⟨w.heap.size + 1, 2, none⟩ (.string C.name)).setCell ⟨w.heap.size + 1, 3, none⟩ (.slice sa C.len sc)) C w.heap.size w4.heap.size (.slice sa C.len sc) :=
    tr_wide (tr_keep (fun k k1 k2 => po k (by omega)) HT4.out) (by omega) (Nat.le_refl _)
  revert p0 p1 p2 p3 po ps pf hbV htr
  generalize (((w4.setCell ⟨w.heap.size + 1, 0, none⟩ (.int .i64 C.kind)).setCell ⟨w.heap.size + 1, 1, none⟩ (.int .i64 C.num)).setCell ⟨w.heap.size + 1, 2, none⟩ (.string C.name)).setCell ⟨w.heap.size + 1, 3, none⟩ (.slice sa C.len sc) = X
  intro p0 p1 p2 p3 po ps pf hbV htr
  exact bodyPost_ret (v := .agg #[.int .i64 C.kind, .int .i64 C.num, .string C.name, .slice sa C.len sc]) (by simp [results, Tryd.results52, go_sem, p0, p1, p2, p3]) rfl ⟨.slice sa C.len sc, rfl, by rw [ps]; exact htr, hbV⟩
end Go.Proofs.YtjgbjahcnnjfpaaDoor
namespace Go.Proofs.YtjgbjahcnnjfpaaDoor
open Go.RowKit

theorem over_val (sel : Int) (K : Nd) (u : Value) : (overT sel K).val u = (mapN K (fun i => chooseT sel (K.kids i))).val u := by cases K <;> rfl
theorem over_tr (sel : Int) (K : Nd) (w : World) (lo hi : Nat) (u : Value) (h : Tr w (mapN K (fun i => chooseT sel (K.kids i))) lo hi u) : Tr w (overT sel K) lo hi u := by
  cases K with
  | nil =>
    obtain ⟨a, cap, rfl, hcap, _⟩ := tr_eq.1 h
    exact ⟨a, cap, rfl, ⟨Nat.zero_le _, hcap.2⟩⟩
  | mk => exact h

set_option maxHeartbeats 4000000 in
theorem chosen_no (sel : Int) (T : Nd) (hk : ¬ T.kind = 30) (ih : ∀ i, i < T.len → ChC sel (T.kids i)) : ChC sel T := by
  intro w v hi hf hhi hr hcost hg
  rw [choose_over sel T (fun h => hk h.1)]
  have hkb : (T.kind == 30) = false := by simp [hk]
  obtain ⟨xa, xc, rfl, hcap, hq⟩ := row_eq.1 hr
  have HGK := hid_mk ((gd_eq T).1 hg).2
  have HFK := hid_mk hf
  have HKC := hid_mk hcost
  have HIH := hid_mk ih
  unfold Nd.val
  generalize hW2 : ((w.alloc (.cells #[.int .i64 T.kind, .int .i64 T.num, .string T.name, .slice xa T.len xc] 37)).alloc (.cells #[.int .i64 sel] 3)).alloc (.cells #[.int .i64 0, .int .i64 0, .string ⟨#[]⟩, .slice none 0 0] 37) = W2
  have HB2 : Hid (Below w.heap.size w W2) := by rw [← hW2]; exact (((Below.refl _ _).alloc (Nat.le_refl _) _).alloc (by simp) _).alloc (by simp; omega) _
  have hz2 : W2.heap.size = w.heap.size + 1 + 1 + 1 := by rw [← hW2]; simp
  have b1 := Boxed.new (w.alloc (.cells #[.int .i64 T.kind, .int .i64 T.num, .string T.name, .slice xa T.len xc] 37)) 3 (.int .i64 sel)
  simp only [World.size_alloc] at b1
  have HSEL : Hid (Boxed W2 (w.heap.size + 1) 3 (.int .i64 sel)) := by rw [← hW2]; exact b1.alloc _
  have HRK := hid_mk (row_below HB2.out hhi hr)
  obtain ⟨⟨c0, c1, c2, c3⟩, ⟨d0, d1, d2, d3⟩, hfd⟩ : (W2.cell? ⟨w.heap.size, 0, none⟩ = some (.int .i64 T.kind) ∧ W2.cell? ⟨w.heap.size, 1, none⟩ = some (.int .i64 T.num) ∧ W2.cell? ⟨w.heap.size, 2, none⟩ = some (.string T.name) ∧ W2.cell? ⟨w.heap.size, 3, none⟩ = some (.slice xa T.len xc)) ∧ (W2.cell? ⟨w.heap.size + 1 + 1, 0, none⟩ = some (.int .i64 0) ∧ W2.cell? ⟨w.heap.size + 1 + 1, 1, none⟩ = some (.int .i64 0) ∧ W2.cell? ⟨w.heap.size + 1 + 1, 2, none⟩ = some (.string ⟨#[]⟩) ∧ W2.cell? ⟨w.heap.size + 1 + 1, 3, none⟩ = some (.slice none 0 0)) ∧ ∀ o, W2.frozen? ⟨w.heap.size + 1 + 1, o, none⟩ = false := by
    rw [← hW2]; simp [go_sem]
  have qs := HSEL.out.cell
  clear hk ih hg hr hf hq hcap b1
  have HW2 := hid_mk hW2
  clear hW2
  go_enter Tryd.func38, Tryd.ntmps38
  go_wp2_with fail
  rw [HW2.out]
  clear HW2
  have HRE := hid_mk (remade_ch T (fun i => chooseT sel (T.kids i)) (w.heap.size + 1) W2 (.slice xa T.len xc) hi HFK.out (by omega) HRK.out HKC.out (fun i hi' W' x hb' hx => chosen1_of sel (T.kids i) (HIH.out i hi') W' x hi (w.heap.size + 1) (Nd.fine_kid HFK.out hi') (by have := hb'.size; omega) hx (Nat.le_trans (T.cost_kid hi') HKC.out) (HGK.out i hi') ((hb'.block _ (by omega)).trans HSEL.out)))
  have HOV := hid_mk (over_tr sel T)
  have HOW := hid_mk (over_val sel T)
  obtain ⟨o0, o1, o2, o3, -⟩ := over_parts sel T
  have HO := hid_mk (And.intro o0 (And.intro o1 (And.intro o2 o3)))
  clear o0 o1 o2 o3
  unfold Nd.val at HRE HOW
  go_wp2_with fail
  refine HRE.out.mono ?_
  rintro e w4 ⟨u, rfl, htr, hb4⟩
  obtain ⟨sa, sc, rfl⟩ := tr_shape htr
  have hz4 := hb4.size
  have hlt : w.heap.size + 1 + 1 < W2.heap.size := by omega
  rw [← hb4.cell (p := ⟨w.heap.size + 1 + 1, _, none⟩) hlt] at d0 d1 d2 d3
  have hfz4 : ∀ o, w4.frozen? ⟨w.heap.size + 1 + 1, o, none⟩ = false := fun o => (hb4.frozen (p := ⟨w.heap.size + 1 + 1, o, none⟩) hlt).trans (hfd o)
  have HB4 := hid_mk (HB2.out.trans (hb4.mono (by omega)))
  have HT4 : Hid (Tr w4 (overT sel T) W2.heap.size w4.heap.size (.slice sa T.len sc)) := HOV.out _ _ _ _ htr
  clear htr hb4 hfd c0 c1 c2 c3
  rw [show (mapN T (fun i => chooseT sel (T.kids i))).kind = T.kind from rfl, show (mapN T (fun i => chooseT sel (T.kids i))).num = T.num from rfl, show (mapN T (fun i => chooseT sel (T.kids i))).name = T.name from rfl, show (mapN T (fun i => chooseT sel (T.kids i))).len = T.len from rfl]
  clear HOW HRE HOV
  go_wp2
  obtain ⟨p0, p1, p2, p3, _, po, ps, pf⟩ := store4C w4 (w.heap.size + 1 + 1) (.int .i64 T.kind) (.int .i64 T.num) (.string T.name) (.slice sa T.len sc) ⟨_, d0⟩ ⟨_, d1⟩ ⟨_, d2⟩ ⟨_, d3⟩
  have hbV : Below w.heap.size w ((((w4.setCell ⟨w.heap.size + 1 + 1, 0, none⟩ (.int .i64 T.kind)).setCell ⟨w.heap.size + 1 + 1, 1, none⟩ (.int .i64 T.num)).setCell ⟨w.heap.size + 1 + 1, 2, none⟩ (.string T.name)).setCell ⟨w.heap.size + 1 + 1, 3, none⟩ (.slice sa T.len sc)) :=
    (((HB4.out.setCell (p := ⟨w.heap.size + 1 + 1, 0, none⟩) (by show w.heap.size ≤ w.heap.size + 1 + 1; omega) _).setCell (p := ⟨w.heap.size + 1 + 1, 1, none⟩) (by show w.heap.size ≤ w.heap.size + 1 + 1; omega) _).setCell (p := ⟨w.heap.size + 1 + 1, 2, none⟩) (by show w.heap.size ≤ w.heap.size + 1 + 1; omega) _).setCell (p := ⟨w.heap.size + 1 + 1, 3, none⟩) (by show w.heap.size ≤ w.heap.size + 1 + 1; omega) _
  have htr : Tr ((((w4.setCell ⟨w.heap.size + 1 + 1, 0, none⟩ (.int .i64 T.kind)).setCell ⟨w.heap.size + 1 + 1, 1, none⟩ (.int .i64 T.num)).setCell ⟨w.heap.size + 1 + 1, 2, none⟩ (.string T.name)).setCell ⟨w.heap.size + 1 + 1, 3, none⟩ (.slice sa T.len sc)) (overT sel T) w.heap.size w4.heap.size (.slice sa T.len sc) :=
    tr_wide (tr_keep (fun k k1 k2 => po k (by omega)) HT4.out) (by omega) (Nat.le_refl _)
  revert p0 p1 p2 p3 po ps pf hbV htr
  generalize (((w4.setCell ⟨w.heap.size + 1 + 1, 0, none⟩ (.int .i64 T.kind)).setCell ⟨w.heap.size + 1 + 1, 1, none⟩ (.int .i64 T.num)).setCell ⟨w.heap.size + 1 + 1, 2, none⟩ (.string T.name)).setCell ⟨w.heap.size + 1 + 1, 3, none⟩ (.slice sa T.len sc) = X
  intro p0 p1 p2 p3 po ps pf hbV htr
  obtain ⟨o0, o1, o2, o3⟩ := HO.out
  refine bodyPost_ret (v := .agg #[.int .i64 T.kind, .int .i64 T.num, .string T.name, .slice sa T.len sc]) (by simp [results, Tryd.results38, go_sem, p0, p1, p2, p3]) rfl ⟨.slice sa T.len sc, ?_, by rw [ps]; exact htr, hbV⟩
  rw [o0, o1, o2]

set_option maxHeartbeats 4000000 in
theorem chosen_yes (sel : Int) (hs0 : 0 ≤ sel) (hs1 : sel ≤ 10000000) (T : Nd) (hk : T.kind = 30) (ih : ∀ j, j < T.len → ∀ i, i < (T.kids j).len → ChC sel ((T.kids j).kids i)) : ChC sel T := by
  intro w v hi hf hhi hr hcost hg
  obtain ⟨hg1, hg2⟩ := (gd_eq T).1 hg
  obtain ⟨hl, ⟨hn0, hn1⟩, hnk⟩ := hg1 hk
  have hkl := pickK_lt (num := T.num) (sel := sel) hl
  rw [choose_pick sel T hk hl, choose_over sel _ (fun h => hnk _ hkl h.1)]
  have hkb : (T.kind == 30) = true := by simp [hk]
  have HPK := hid_mk (fun (W : World) (hb : Below w.heap.size w W) => picked_any T sel W v hi hf (Nat.le_trans hhi hb.size) (row_below hb hhi hr) hl hn0 hn1 hs0 hs1)
  obtain ⟨va, vc, rfl, hcap, hq⟩ := row_eq.1 hr
  have HGK := hid_mk ((gd_eq _).1 (hg2 _ hkl)).2
  have HFK := hid_mk (Nd.fine_kid hf hkl)
  have HKC := hid_mk (Nat.le_trans (T.cost_kid hkl) hcost)
  have HIH := hid_mk (ih _ hkl)
  clear ih hg hr hf hq hcap hg1 hg2 hnk hkl hn0 hn1 hl hk
  unfold Nd.val at HPK
  unfold Nd.val
  generalize T.kids (pickK T.num sel T.len) = KK at *
  generalize hW0 : ((w.alloc (.cells #[.int .i64 T.kind, .int .i64 T.num, .string T.name, .slice va T.len vc] 37)).alloc (.cells #[.int .i64 sel] 3)).alloc (.cells #[.int .i64 0, .int .i64 0, .string ⟨#[]⟩, .slice none 0 0] 37) = W0
  have HB0 : Hid (Below w.heap.size w W0) := by rw [← hW0]; exact (((Below.refl _ _).alloc (Nat.le_refl _) _).alloc (by simp) _).alloc (by simp; omega) _
  have hz0 : W0.heap.size = w.heap.size + 1 + 1 + 1 := by rw [← hW0]; simp
  have b1 := Boxed.new (w.alloc (.cells #[.int .i64 T.kind, .int .i64 T.num, .string T.name, .slice va T.len vc] 37)) 3 (.int .i64 sel)
  simp only [World.size_alloc] at b1
  have HSEL0 : Hid (Boxed W0 (w.heap.size + 1) 3 (.int .i64 sel)) := by rw [← hW0]; exact b1.alloc _
  obtain ⟨⟨c0, c1, c2, c3⟩, ⟨d0, d1, d2, d3⟩, hfc, hfd⟩ : (W0.cell? ⟨w.heap.size, 0, none⟩ = some (.int .i64 T.kind) ∧ W0.cell? ⟨w.heap.size, 1, none⟩ = some (.int .i64 T.num) ∧ W0.cell? ⟨w.heap.size, 2, none⟩ = some (.string T.name) ∧ W0.cell? ⟨w.heap.size, 3, none⟩ = some (.slice va T.len vc)) ∧ (W0.cell? ⟨w.heap.size + 1 + 1, 0, none⟩ = some (.int .i64 0) ∧ W0.cell? ⟨w.heap.size + 1 + 1, 1, none⟩ = some (.int .i64 0) ∧ W0.cell? ⟨w.heap.size + 1 + 1, 2, none⟩ = some (.string ⟨#[]⟩) ∧ W0.cell? ⟨w.heap.size + 1 + 1, 3, none⟩ = some (.slice none 0 0)) ∧ (∀ o, W0.frozen? ⟨w.heap.size, o, none⟩ = false) ∧ ∀ o, W0.frozen? ⟨w.heap.size + 1 + 1, o, none⟩ = false := by
    rw [← hW0]; simp [go_sem]
  have qs := HSEL0.out.cell
  have HW0 := hid_mk hW0
  clear hW0 b1
  go_enter Tryd.func38, Tryd.ntmps38
  go_wp2_with fail
  rw [HW0.out]
  refine (HPK.out _ HB0.out).mono ?_
  rintro e w1 ⟨x, rfl, hx, hb1⟩
  obtain ⟨xa, xc, rfl⟩ : ∃ xa xc, x = .slice xa KK.len xc := by obtain ⟨a', c', h, _⟩ := row_eq.1 hx; exact ⟨a', c', h⟩
  have hz1 := hb1.size
  have hc : ∀ b o, b < w.heap.size + 1 + 1 + 1 → w1.cell? ⟨b, o, none⟩ = W0.cell? ⟨b, o, none⟩ := fun b o h => hb1.cell (p := ⟨b, o, none⟩) (show b < W0.heap.size by omega)
  rw [← hc _ _ (by omega)] at c0 c1 c2 c3
  rw [← hc _ _ (by omega)] at d0 d1 d2 d3
  have hfc1 : ∀ o, w1.frozen? ⟨w.heap.size, o, none⟩ = false := fun o => (hb1.frozen (p := ⟨w.heap.size, o, none⟩) (show w.heap.size < W0.heap.size by omega)).trans (hfc o)
  have hfd1 : ∀ o, w1.frozen? ⟨w.heap.size + 1 + 1, o, none⟩ = false := fun o => (hb1.frozen (p := ⟨w.heap.size + 1 + 1, o, none⟩) (show w.heap.size + 1 + 1 < W0.heap.size by omega)).trans (hfd o)
  have HB1 := hid_mk (HB0.out.trans (hb1.mono (by omega)))
  have HS1 : Hid (Boxed w1 (w.heap.size + 1) 3 (.int .i64 sel)) := (hb1.block _ (by omega)).trans HSEL0.out
  have HX1 := hid_mk (row_below (hb1.mono (show hi ≤ W0.heap.size by omega)) (Nat.le_refl _) hx)
  clear hc hfc hfd hb1 hx qs HW0 HPK HSEL0
  have qs := HS1.out.cell
  obtain ⟨p0, p1, p2, p3, _, po, ps, pf⟩ := store4C w1 w.heap.size (.int .i64 KK.kind) (.int .i64 KK.num) (.string KK.name) (.slice xa KK.len xc) ⟨_, c0⟩ ⟨_, c1⟩ ⟨_, c2⟩ ⟨_, c3⟩
  have HB2 : Hid (Below w.heap.size w ((((w1.setCell ⟨w.heap.size, 0, none⟩ (.int .i64 KK.kind)).setCell ⟨w.heap.size, 1, none⟩ (.int .i64 KK.num)).setCell ⟨w.heap.size, 2, none⟩ (.string KK.name)).setCell ⟨w.heap.size, 3, none⟩ (.slice xa KK.len xc))) :=
    (((HB1.out.setCell (p := ⟨w.heap.size, 0, none⟩) (Nat.le_refl _) _).setCell (p := ⟨w.heap.size, 1, none⟩) (Nat.le_refl _) _).setCell (p := ⟨w.heap.size, 2, none⟩) (Nat.le_refl _) _).setCell (p := ⟨w.heap.size, 3, none⟩) (Nat.le_refl _) _
  have HPQ := hid_mk (And.intro p0 (And.intro p1 (And.intro p2 (And.intro p3 (And.intro po (And.intro ps pf))))))
  clear p0 p1 p2 p3 po ps pf
  go_wp2_with fail
  obtain ⟨p0, p1, p2, p3, po, ps, pf⟩ := HPQ.out
  clear c0 c1 c2 c3 HPQ
  revert p0 p1 p2 p3 po ps pf HB2
  generalize (((w1.setCell ⟨w.heap.size, 0, none⟩ (.int .i64 KK.kind)).setCell ⟨w.heap.size, 1, none⟩ (.int .i64 KK.num)).setCell ⟨w.heap.size, 2, none⟩ (.string KK.name)).setCell ⟨w.heap.size, 3, none⟩ (.slice xa KK.len xc) = W2
  intro HB2 c0 c1 c2 c3 po ps pf
  have hz2 : w.heap.size + 1 + 1 + 1 ≤ W2.heap.size := by omega
  have HSEL : Hid (Boxed W2 (w.heap.size + 1) 3 (.int .i64 sel)) := (po _ (by omega)).trans HS1.out
  have ho : ∀ o, W2.cell? ⟨w.heap.size + 1 + 1, o, none⟩ = w1.cell? ⟨w.heap.size + 1 + 1, o, none⟩ := fun o => World.cell?_of_block (a := ⟨w.heap.size + 1 + 1, o, none⟩) (po (w.heap.size + 1 + 1) (by omega))
  rw [← ho] at d0 d1 d2 d3
  have hfd : ∀ o, W2.frozen? ⟨w.heap.size + 1 + 1, o, none⟩ = false := fun o => (pf _ _).trans (hfd1 o)
  have HRK : Hid (Row 0 hi W2 KK (.slice xa KK.len xc)) := row_keep (Nat.le_refl _) (Nat.le_refl _) (fun g o _ h2 => World.cell?_of_block (a := ⟨g, o, none⟩) (po g (by omega))) HX1.out
  clear po ps pf ho hfd1 hfc1 HX1 HS1 qs
  have HRE := hid_mk (remade_ch KK (fun i => chooseT sel (KK.kids i)) (w.heap.size + 1) W2 (.slice xa KK.len xc) hi HFK.out (by omega) HRK.out HKC.out (fun i hi' W' x hb' hx => chosen1_of sel (KK.kids i) (HIH.out i hi') W' x hi (w.heap.size + 1) (Nd.fine_kid HFK.out hi') (by have := hb'.size; omega) hx (Nat.le_trans (KK.cost_kid hi') HKC.out) (HGK.out i hi') ((hb'.block _ (by omega)).trans HSEL.out)))
  have HOV := hid_mk (over_tr sel KK)
  have HOW := hid_mk (over_val sel KK)
  obtain ⟨o0, o1, o2, o3, -⟩ := over_parts sel KK
  have HO := hid_mk (And.intro o0 (And.intro o1 (And.intro o2 o3)))
  clear o0 o1 o2 o3
  unfold Nd.val at HRE HOW
  refine HRE.out.mono ?_
  rintro e w4 ⟨u, rfl, htr, hb4⟩
  obtain ⟨sa, sc, rfl⟩ := tr_shape htr
  have hz4 := hb4.size
  have hlt : w.heap.size + 1 + 1 < W2.heap.size := by omega
  rw [← hb4.cell (p := ⟨w.heap.size + 1 + 1, _, none⟩) hlt] at d0 d1 d2 d3
  have hfz4 : ∀ o, w4.frozen? ⟨w.heap.size + 1 + 1, o, none⟩ = false := fun o => (hb4.frozen (p := ⟨w.heap.size + 1 + 1, o, none⟩) hlt).trans (hfd o)
  have HB4 := hid_mk (HB2.out.trans (hb4.mono (by omega)))
  have HT4 : Hid (Tr w4 (overT sel KK) W2.heap.size w4.heap.size (.slice sa KK.len sc)) := HOV.out _ _ _ _ htr
  clear htr hb4 hfd c0 c1 c2 c3
  rw [show (mapN KK (fun i => chooseT sel (KK.kids i))).kind = KK.kind from rfl, show (mapN KK (fun i => chooseT sel (KK.kids i))).num = KK.num from rfl, show (mapN KK (fun i => chooseT sel (KK.kids i))).name = KK.name from rfl, show (mapN KK (fun i => chooseT sel (KK.kids i))).len = KK.len from rfl]
  clear HOW HRE HOV
  go_wp2
  obtain ⟨p0, p1, p2, p3, _, po, ps, pf⟩ := store4C w4 (w.heap.size + 1 + 1) (.int .i64 KK.kind) (.int .i64 KK.num) (.string KK.name) (.slice sa KK.len sc) ⟨_, d0⟩ ⟨_, d1⟩ ⟨_, d2⟩ ⟨_, d3⟩
  have hbV : Below w.heap.size w ((((w4.setCell ⟨w.heap.size + 1 + 1, 0, none⟩ (.int .i64 KK.kind)).setCell ⟨w.heap.size + 1 + 1, 1, none⟩ (.int .i64 KK.num)).setCell ⟨w.heap.size + 1 + 1, 2, none⟩ (.string KK.name)).setCell ⟨w.heap.size + 1 + 1, 3, none⟩ (.slice sa KK.len sc)) :=
    (((HB4.out.setCell (p := ⟨w.heap.size + 1 + 1, 0, none⟩) (by show w.heap.size ≤ w.heap.size + 1 + 1; omega) _).setCell (p := ⟨w.heap.size + 1 + 1, 1, none⟩) (by show w.heap.size ≤ w.heap.size + 1 + 1; omega) _).setCell (p := ⟨w.heap.size + 1 + 1, 2, none⟩) (by show w.heap.size ≤ w.heap.size + 1 + 1; omega) _).setCell (p := ⟨w.heap.size + 1 + 1, 3, none⟩) (by show w.heap.size ≤ w.heap.size + 1 + 1; omega) _
  have htr : Tr ((((w4.setCell ⟨w.heap.size + 1 + 1, 0, none⟩ (.int .i64 KK.kind)).setCell ⟨w.heap.size + 1 + 1, 1, none⟩ (.int .i64 KK.num)).setCell ⟨w.heap.size + 1 + 1, 2, none⟩ (.string KK.name)).setCell ⟨w.heap.size + 1 + 1, 3, none⟩ (.slice sa KK.len sc)) (overT sel KK) w.heap.size w4.heap.size (.slice sa KK.len sc) :=
    tr_wide (tr_keep (fun k k1 k2 => po k (by omega)) HT4.out) (by omega) (Nat.le_refl _)
  revert p0 p1 p2 p3 po ps pf hbV htr
  generalize (((w4.setCell ⟨w.heap.size + 1 + 1, 0, none⟩ (.int .i64 KK.kind)).setCell ⟨w.heap.size + 1 + 1, 1, none⟩ (.int .i64 KK.num)).setCell ⟨w.heap.size + 1 + 1, 2, none⟩ (.string KK.name)).setCell ⟨w.heap.size + 1 + 1, 3, none⟩ (.slice sa KK.len sc) = X
  intro p0 p1 p2 p3 po ps pf hbV htr
  obtain ⟨o0, o1, o2, o3⟩ := HO.out
  refine bodyPost_ret (v := .agg #[.int .i64 KK.kind, .int .i64 KK.num, .string KK.name, .slice sa KK.len sc]) (by simp [results, Tryd.results38, go_sem, p0, p1, p2, p3]) rfl ⟨.slice sa KK.len sc, ?_, by rw [ps]; exact htr, hbV⟩
  rw [o0, o1, o2]

theorem chosen_any (sel : Int) (hs0 : 0 ≤ sel) (hs1 : sel ≤ 10000000) : ∀ (n : Nat) (T : Nd), T.size ≤ n → ChC sel T := by
  intro n
  induction n with
  | zero => intro T h; have := size_pos T; omega
  | succ n ih =>
    intro T h
    by_cases hk : T.kind = 30
    · exact chosen_yes sel hs0 hs1 T hk fun j hj i hi => ih _ (by have := size_kid T hj; have := size_kid (T.kids j) hi; omega)
    · exact chosen_no sel T hk fun i hi => ih _ (by have := size_kid T hi; omega)
end Go.Proofs.YtjgbjahcnnjfpaaDoor
