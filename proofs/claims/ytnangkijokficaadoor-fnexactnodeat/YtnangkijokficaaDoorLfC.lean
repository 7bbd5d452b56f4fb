/- The program's copy of a tree. -/
import Derived.Test.YtnangkijokficaaDoorLfB
import Derived.Test.YtnangkijokficaaDoorShelf
import Derived.Test.YtnangkijokficaaDoorLeD
import Derived.StillTailTactics
import Derived.RegionTactic
import Derived.BigRegion
import Derived.Deep.RegionWith
set_option linter.unusedVariables false
namespace Go.Proofs.YtnangkijokficaaDoor
open Go.RowKit

theorem tr_wide {w : World} {T : Nd} {lo hi lo' hi' : Nat} {v : Value} (h : Tr w T lo hi v) (hlo : lo' ≤ lo) (hhi : hi ≤ hi') : Tr w T lo' hi' v := by
  obtain ⟨a, cap, rfl, hcap, h⟩ := tr_eq.1 h
  refine tr_eq.2 ⟨a, cap, rfl, hcap, ?_⟩
  rcases h with h | ⟨g, s, e, rfl, h1, h2, h3, h4, h5, h6⟩
  · exact .inl h
  · exact .inr ⟨g, s, e, rfl, by omega, by omega, h3, fun i hi => by have := h4 i hi; omega, h5, h6⟩
theorem clone_any (s : ByteArray) (w : World) (hs : s.size ≤ 1099511627776) :
    Calls Tryd.prog 41 #[.string s] w fun e w' => e = .returned (.string s) ∧ Below w.heap.size w w' := by
  go_enter Tryd.func41, Tryd.ntmps41
  go_wp2_with (go_at_call 49; refine (Tryd.stringslite_Clone _ _ (by omega)).mono ?_; rintro e w' ⟨rfl, hb⟩)
  go_ret
  exact ⟨rfl, hb⟩
theorem four_new (w : World) (a b c d : Value) (t : TypeId) : ∀ j u, [a, b, c, d][j]? = some u → (w.alloc (.cells #[a, b, c, d] t)).cell? ((⟨w.heap.size, 0, none⟩ : Addr).add j) = some u := by
  intro j u hj
  match j, hj with
  | 0, hj => simp at hj; subst hj; simp [Addr.add]
  | 1, hj => simp at hj; subst hj; simp [Addr.add]
  | 2, hj => simp at hj; subst hj; simp [Addr.add]
  | 3, hj => simp at hj; subst hj; simp [Addr.add]
  | j + 4, hj => simp at hj
theorem four_one (a : Option Addr) (l c : Nat) (x y : Int) (s : ByteArray) : ∀ u ∈ [Value.int .i64 x, .int .i64 y, .string s, .slice a l c], u.oneCell' = true := by
  intro u hu
  simp at hu
  rcases hu with rfl | rfl | rfl | rfl <;> rfl
theorem info_nodeC : (Tryd.prog.info? 30).map (fun i => (i.zero, i.size, i.bytes)) = some (some (.agg #[.int .i64 0, .int .i64 0, .string ⟨#[]⟩, .slice none 0 0]), 4, 56) := by kernel_rfl
theorem set_cellC (W : World) (g o o' : Nat) (x : Value) (hx : ∃ y, W.cell? ⟨g, o, none⟩ = some y) : (W.setCell ⟨g, o, none⟩ x).cell? ⟨g, o', none⟩ = if o' = o then some x else W.cell? ⟨g, o', none⟩ := by
  obtain ⟨y, hy⟩ := hx
  split
  · rename_i h; subst h; exact World.cell?_setCell_same _ _ _ hy
  · rename_i h; exact World.cell?_setCell_other _ _ _ _ (fun e => h (by cases e; rfl))
theorem store4C (W : World) (g : Nat) (a b c d : Value) (x0 : ∃ y, W.cell? ⟨g, 0, none⟩ = some y) (x1 : ∃ y, W.cell? ⟨g, 1, none⟩ = some y) (x2 : ∃ y, W.cell? ⟨g, 2, none⟩ = some y) (x3 : ∃ y, W.cell? ⟨g, 3, none⟩ = some y) :
    let V := (((W.setCell ⟨g, 0, none⟩ a).setCell ⟨g, 1, none⟩ b).setCell ⟨g, 2, none⟩ c).setCell ⟨g, 3, none⟩ d
    V.cell? ⟨g, 0, none⟩ = some a ∧ V.cell? ⟨g, 1, none⟩ = some b ∧ V.cell? ⟨g, 2, none⟩ = some c ∧ V.cell? ⟨g, 3, none⟩ = some d ∧ True ∧
      (∀ k, k ≠ g → V.heap[k]? = W.heap[k]?) ∧ V.heap.size = W.heap.size ∧ (∀ b o, V.frozen? ⟨b, o, none⟩ = W.frozen? ⟨b, o, none⟩) := by
  intro V
  have s1 : ∃ y, (W.setCell ⟨g, 0, none⟩ a).cell? ⟨g, 1, none⟩ = some y := by rw [set_cellC _ _ _ _ _ x0, if_neg (by omega)]; exact x1
  have s2 : ∃ y, ((W.setCell ⟨g, 0, none⟩ a).setCell ⟨g, 1, none⟩ b).cell? ⟨g, 2, none⟩ = some y := by rw [set_cellC _ _ _ _ _ s1, if_neg (by omega), set_cellC _ _ _ _ _ x0, if_neg (by omega)]; exact x2
  have s3 : ∃ y, (((W.setCell ⟨g, 0, none⟩ a).setCell ⟨g, 1, none⟩ b).setCell ⟨g, 2, none⟩ c).cell? ⟨g, 3, none⟩ = some y := by rw [set_cellC _ _ _ _ _ s2, if_neg (by omega), set_cellC _ _ _ _ _ s1, if_neg (by omega), set_cellC _ _ _ _ _ x0, if_neg (by omega)]; exact x3
  have hV : ∀ k, V.cell? ⟨g, k, none⟩ = if k = 3 then some d else if k = 2 then some c else if k = 1 then some b else if k = 0 then some a else W.cell? ⟨g, k, none⟩ := fun k => by
    show ((((W.setCell ⟨g, 0, none⟩ a).setCell ⟨g, 1, none⟩ b).setCell ⟨g, 2, none⟩ c).setCell ⟨g, 3, none⟩ d).cell? ⟨g, k, none⟩ = _
    rw [set_cellC _ _ _ _ _ s3, set_cellC _ _ _ _ _ s2, set_cellC _ _ _ _ _ s1, set_cellC _ _ _ _ _ x0]
  refine ⟨hV 0, hV 1, hV 2, hV 3, trivial, fun k hk => ?_, by simp [V, World.setCell], fun b o => by simp [V, go_sem]⟩
  show ((((W.setCell ⟨g, 0, none⟩ a).setCell ⟨g, 1, none⟩ b).setCell ⟨g, 2, none⟩ c).setCell ⟨g, 3, none⟩ d).heap[k]? = _
  rw [Below.heap_setCell _ _ _ _ hk, Below.heap_setCell _ _ _ _ hk, Below.heap_setCell _ _ _ _ hk, Below.heap_setCell _ _ _ _ hk]

def CpC (T : Nd) : Prop := ∀ (w : World) (v : Value) (hi : Nat), T.Fine → hi ≤ w.heap.size → Row 0 hi w T v → T.cost ≤ 1048576 →
  Calls Tryd.prog 28 #[T.val v] w fun e w' => ∃ u, e = .returned (T.val u) ∧ Tr w' T w.heap.size w'.heap.size u ∧ Below w.heap.size w w'

set_option maxHeartbeats 4000000 in
theorem copied_of (T : Nd) (ih : ∀ i, i < T.len → CpC (T.kids i)) : CpC T := by
  intro w v hi hf hhi hr hcost
  have hn := T.fine_len hf
  have hce := T.cost_eq
  have hck : ∀ j, j < T.len → (T.kids j).cost ≤ 1048576 := fun j hj => Nat.le_trans (T.cost_kid hj) hcost
  have hl20 : T.len ≤ 1048576 := by omega
  have hn20 : T.name.size ≤ 1048576 := by omega
  obtain ⟨a, cap, rfl, hcap, hq⟩ := row_eq.1 hr
  obtain ⟨i0, hi0, hz0, hz1, hz2⟩ := info_parts info_nodeC
  have HI := hid_mk ih
  have HF := hid_mk hf
  have HR := hid_mk hq
  have HK := hid_mk hck
  clear hr hf ih hq hck hce hcap
  unfold Nd.val
  generalize hW0 : (w.alloc (.cells #[.int .i64 T.kind, .int .i64 T.num, .string T.name, .slice a T.len cap] 30)).alloc (.cells #[.int .i64 0, .int .i64 0, .string ⟨#[]⟩, .slice none 0 0] 30) = W0
  have hb0 : Hid (Below w.heap.size w W0) := by rw [← hW0]; exact ((Below.refl _ _).alloc (Nat.le_refl _) _).alloc (by simp) _
  have hz0' : W0.heap.size = w.heap.size + 1 + 1 := by rw [← hW0]; simp
  have HC0 : Hid ((W0.cell? ⟨w.heap.size, 0, none⟩ = some (.int .i64 T.kind) ∧ W0.cell? ⟨w.heap.size, 1, none⟩ = some (.int .i64 T.num) ∧ W0.cell? ⟨w.heap.size, 2, none⟩ = some (.string T.name) ∧ W0.cell? ⟨w.heap.size, 3, none⟩ = some (.slice a T.len cap)) ∧
      (W0.cell? ⟨w.heap.size + 1, 0, none⟩ = some (.int .i64 0) ∧ W0.cell? ⟨w.heap.size + 1, 1, none⟩ = some (.int .i64 0) ∧ W0.cell? ⟨w.heap.size + 1, 2, none⟩ = some (.string ⟨#[]⟩) ∧ W0.cell? ⟨w.heap.size + 1, 3, none⟩ = some (.slice none 0 0)) ∧ ∀ o, W0.frozen? ⟨w.heap.size + 1, o, none⟩ = false) := by
    rw [← hW0]; unfold Hid; simp [go_sem]
  have HW0 := hid_mk hW0
  have HZ0 := hid_mk hz0'
  clear hW0 hz0'
  go_enter Tryd.func28, Tryd.ntmps28
  go_wp2
  rw [HW0.out]
  go_loopw [3, 9] (fun kv i wr => ∃ (j : Nat) (sa : Option Addr) (sc : Nat) (us : Nat → Value) (s e : Nat → Nat), j ≤ T.len ∧ i = .int .i64 j ∧ kv = .slice sa j sc ∧ CpI T W0 j (.slice sa j sc) us s e wr) (fun _ i _ => T.len - (intOf i).toNat)
  case atStart =>
    refine ⟨0, none, 0, _, _, _, Nat.zero_le _, rfl, rfl, CpI.start T ⟨rfl, .inl ⟨rfl, rfl⟩⟩ (Below.refl _ _)⟩
  case round =>
    obtain ⟨j, sa, sc, us, s, e, hj, rfl, rfl, hcp⟩ := hrel
    have HCP := hid_mk hcp
    have hz := hcp.below.size
    have HZ := hid_mk (show w.heap.size + 1 + 1 ≤ wr.heap.size by have := HZ0.out; omega)
    by_cases hlt : j < T.len
    · rcases HR.out with h0 | ⟨g, off, rfl, h1, h2, h3⟩
      · omega
      obtain ⟨x, e0, e1, e2, e3, hx⟩ := h3 j hlt
      have hgl : g < w.heap.size := by omega
      have hbw := hb0.out.trans (hcp.below.mono (by have := HZ0.out; omega))
      rw [← hbw.cell (p := ⟨g, _, none⟩) hgl] at e0 e1 e2 e3
      have HX := hid_mk (row_below hbw hhi hx)
      obtain ⟨xa, xc, rfl⟩ : ∃ xa xc, x = .slice xa (T.kids j).len xc := by obtain ⟨a', c', h, _⟩ := row_eq.1 hx; exact ⟨a', c', h⟩
      have hkc := HK.out j hlt
      have HC := HI.out j hlt
      have HFJ := hid_mk (Nd.fine_kid HF.out hlt)
      unfold CpC at HC
      have HCC := hid_mk HC
      have hjl : (j : Int) < (T.len : Int) := by omega
      have HBA : ∀ x : Obj, Hid (Below wr.heap.size wr (wr.alloc x)) := fun x => (Below.refl _ _).alloc (Nat.le_refl _) _
      have HKJ := hid_mk (rfl : T.kids j = T.kids j)
      unfold Nd.val at HCC
      clear h3 HC hx hcp hbw
      go_wp2_with (first
        | (go_at_call 28; refine (HCC.out _ _ hi HFJ.out (by have := HZ.out; simp; omega) (row_below (HBA _).out (by have := HZ.out; omega) HX.out) hkc).mono ?_; rintro e w1 ⟨u1, rfl, ht1, hb1⟩; obtain ⟨a1, p1, rfl⟩ := tr_shape ht1; have HT1 := hid_mk ht1; have HB1 := hid_mk hb1; clear ht1 hb1)
        | (at_builtin; refine wpList_append_freshG _ rfl _ _ 28 rfl W0.heap.size 30 i0 (.agg #[.int .i64 0, .int .i64 0, .string ⟨#[]⟩, .slice none 0 0]) 4 56 Tryd.underlying28 hi0 hz0 hz1 hz2 rfl (by decide) _ j _ rfl (((HCP.out.later (HBA _).out).later HB1.out).own.alloc _) ⟨w1.heap.size, 0, none⟩ 1 1 [.int .i64 (T.kids j).kind, .int .i64 (T.kids j).num, .string (T.kids j).name, .slice a1 (T.kids j).len p1] rfl rfl (four_new _ _ _ _ _ _) (four_one _ _ _ _ _ _) (by unfold maxLen; omega) (by omega) (by have := ((HCP.out.later (HBA _).out).later HB1.out).below.size; simp; omega) ?_; intro v' w3 hown hgrow hloc hsh))
      obtain ⟨sa', sc', rfl⟩ := hsh.out
      have hst := (HCP.out.later (HBA _).out).step HB1.out HT1.out ((Below.refl _ _).alloc (Nat.le_refl _) _) hown.out hgrow.out hloc.out
      exact ⟨⟨j + 1, sa', sc', _, _, _, by omega, by go_num, rfl, hst⟩, by simp [intOf]; omega⟩
    · obtain rfl : j = T.len := by omega
      have hbW := HCP.out.below
      have hzr := HZ.out
      obtain ⟨⟨c0, c1, c2, c3⟩, ⟨d0, d1, d2, d3⟩, hfz⟩ := HC0.out
      have HCW : Hid (∀ v, Below wr.heap.size wr v → (v.cell? ⟨w.heap.size, 0, none⟩ = some (.int .i64 T.kind) ∧ v.cell? ⟨w.heap.size, 1, none⟩ = some (.int .i64 T.num) ∧ v.cell? ⟨w.heap.size, 2, none⟩ = some (.string T.name)) ∧ (v.cell? ⟨w.heap.size + 1, 0, none⟩ = some (.int .i64 0) ∧ v.cell? ⟨w.heap.size + 1, 1, none⟩ = some (.int .i64 0) ∧ v.cell? ⟨w.heap.size + 1, 2, none⟩ = some (.string ⟨#[]⟩) ∧ v.cell? ⟨w.heap.size + 1, 3, none⟩ = some (.slice none 0 0)) ∧ ∀ o, v.frozen? ⟨w.heap.size + 1, o, none⟩ = false) := by
        intro v hv
        have hb := hbW.trans (hv.mono hz)
        have hzz := HZ0.out
        have hc : ∀ b o, b < w.heap.size + 1 + 1 → v.cell? ⟨b, o, none⟩ = W0.cell? ⟨b, o, none⟩ := fun b o h => hb.cell (p := ⟨b, o, none⟩) (show b < W0.heap.size by omega)
        exact ⟨⟨(hc _ _ (by omega)).trans c0, (hc _ _ (by omega)).trans c1, (hc _ _ (by omega)).trans c2⟩, ⟨(hc _ _ (by omega)).trans d0, (hc _ _ (by omega)).trans d1, (hc _ _ (by omega)).trans d2, (hc _ _ (by omega)).trans d3⟩, fun o => (hb.frozen (p := ⟨w.heap.size + 1, o, none⟩) (show w.heap.size + 1 < W0.heap.size by omega)).trans (hfz o)⟩
      have hmix : Tryd.prog.follows Departure.mixedOrders = true := by kernel_rfl
      obtain ⟨fV, hfV⟩ : ∃ f : Nat → Value, f = fun i => match i with
        | 0 => .pointer (some ⟨w.heap.size, 0, none⟩) | 1 => .int .i64 T.kind | 2 => .pointer (some ⟨w.heap.size, 1, none⟩) | 3 => .int .i64 T.num | 4 => .pointer (some ⟨w.heap.size, 2, none⟩) | 5 => .string T.name | 6 => .string T.name | 7 => .slice sa T.len sc | 8 => .agg #[.int .i64 T.kind, .int .i64 T.num, .string T.name, .slice sa T.len sc] | _ => undef := ⟨_, rfl⟩
      have HFV := hid_mk (show fV 0 = .pointer (some ⟨w.heap.size, 0, none⟩) ∧ fV 1 = .int .i64 T.kind ∧ fV 2 = .pointer (some ⟨w.heap.size, 1, none⟩) ∧ fV 3 = .int .i64 T.num ∧ fV 4 = .pointer (some ⟨w.heap.size, 2, none⟩) ∧ fV 5 = .string T.name ∧ fV 6 = .string T.name ∧ fV 7 = .slice sa T.len sc ∧ fV 8 = .agg #[.int .i64 T.kind, .int .i64 T.num, .string T.name, .slice sa T.len sc] from ⟨congrFun hfV 0, congrFun hfV 1, congrFun hfV 2, congrFun hfV 3, congrFun hfV 4, congrFun hfV 5, congrFun hfV 6, congrFun hfV 7, congrFun hfV 8⟩)
      clear hfV hcp c0 c1 c2 c3 d0 d1 d2 d3 hfz hbW
      go_wp2_with fail
      refine wp_region_inv hmix (by kernel_rfl) (fun i => if i < 9 then 19 + i else 100 + i) (Vf 9 fV) (S1 9 (fun v => Below wr.heap.size wr v) (fun v => ∃ v0, Below wr.heap.size wr v0 ∧ v = (((v0.setCell ⟨w.heap.size + 1, 0, none⟩ (.int .i64 T.kind)).setCell ⟨w.heap.size + 1, 1, none⟩ (.int .i64 T.num)).setCell ⟨w.heap.size + 1, 2, none⟩ (.string T.name)).setCell ⟨w.heap.size + 1, 3, none⟩ (.slice sa T.len sc))) (S1.start _ _ ((Below.refl _ _).drew)) ?_ ?_
      · intro listed a' v i hI hr
        have hi : i < 10 := (ready_unl hr).1
        have hun := (ready_unl hr).2
        have hS := hI.s
        have hls : listed.size = 10 := hI.lsize
        have PUT := hid_mk (fun (i : Nat) (hi : i < 9) (hun : listed.getD i true = false) (v' : World) (hb : Below v.heap.size v v') (x : Value) (hx : x = fV i) => hI.put1 (w' := v') (fun i j hi hj h => by have : i < 10 := hi; have : j < 10 := hj; have h' : (if i < 9 then 19 + i else 100 + i) = (if j < 9 then 19 + j else 100 + j) := h; split at h' <;> split at h' <;> omega) (i := i) (by show (if i < 9 then 19 + i else 100 + i) < 28; rw [if_pos hi]; omega) (fun _ _ h => h) (hS.put hi hun ((hS.low hi hun).2.trans (hb.mono (hS.low hi hun).2.size))) (show i < 10 by omega) (v := x) (fun _ => hx))
        have NON := hid_mk (fun (v' : World) (hi' : 9 ≤ i) (hS' : S1 9 (fun v => Below wr.heap.size wr v) (fun v => ∃ v0, Below wr.heap.size wr v0 ∧ v = (((v0.setCell ⟨w.heap.size + 1, 0, none⟩ (.int .i64 T.kind)).setCell ⟨w.heap.size + 1, 1, none⟩ (.int .i64 T.num)).setCell ⟨w.heap.size + 1, 2, none⟩ (.string T.name)).setCell ⟨w.heap.size + 1, 3, none⟩ (.slice sa T.len sc)) (listed.setIfInBounds i true) v') => hI.none (w' := v') (fun _ _ h => h) hS' hi (fun x h => absurd h (by omega)))
        have VAL := hid_mk (fun (j : Nat) (hj : j < 9) (hl : listed.getD j false = true) => hI.vals j (show j < 10 by omega) (getD_tr hl) hj)
        have DEP := hid_mk (fun o (ho : _ = some o) => ready_dep hr (o := o) ho)
        have s1 : a'.tmps[1]?.getD undef = .pointer (some ⟨w.heap.size, 0, none⟩) := eval_getD (hI.keep 1 (by intro i hi; show 1 ≠ if i < 9 then 19 + i else 100 + i; split <;> omega))
        have s2 : a'.tmps[2]?.getD undef = .pointer (some ⟨w.heap.size + 1, 0, none⟩) := eval_getD (hI.keep 2 (by intro i hi; show 2 ≠ if i < 9 then 19 + i else 100 + i; split <;> omega))
        have s3 : a'.tmps[3]?.getD undef = .slice sa T.len sc := eval_getD (hI.keep 3 (by intro i hi; show 3 ≠ if i < 9 then 19 + i else 100 + i; split <;> omega))
        have HSS := hid_mk hS
        clear hI hr hS
        rcases (by omega : i = 0 ∨ i = 1 ∨ i = 2 ∨ i = 3 ∨ i = 4 ∨ i = 5 ∨ i = 6 ∨ i = 7 ∨ i = 8 ∨ i = 9) with rfl | rfl | rfl | rfl | rfl | rfl | rfl | rfl | rfl | rfl
        all_goals (refine wpOp_of rfl rfl ?_)
        · go_simp
          exact PUT.out 0 (by omega) hun v (Below.refl _ _) _ HFV.out.1.symm
        · have h19 := eval_getD (show a'.eval (.tmp 19) = .pointer (some ⟨w.heap.size, 0, none⟩) from (VAL.out 0 (by omega) (DEP.out _ rfl ⟨0, Ground.data⟩ (by simp) rfl)).trans HFV.out.1)
          obtain ⟨⟨c0, c1, c2⟩, -, -⟩ := HCW.out v (HSS.out.low (by omega) hun).2
          go_simp
          exact PUT.out 1 (by omega) hun v (Below.refl _ _) _ HFV.out.2.1.symm
        · go_simp
          exact PUT.out 2 (by omega) hun v (Below.refl _ _) _ HFV.out.2.2.1.symm
        · have h21 := eval_getD (show a'.eval (.tmp 21) = .pointer (some ⟨w.heap.size, 1, none⟩) from (VAL.out 2 (by omega) (DEP.out _ rfl ⟨2, Ground.data⟩ (by simp) rfl)).trans HFV.out.2.2.1)
          obtain ⟨⟨c0, c1, c2⟩, -, -⟩ := HCW.out v (HSS.out.low (by omega) hun).2
          go_simp
          exact PUT.out 3 (by omega) hun v (Below.refl _ _) _ HFV.out.2.2.2.1.symm
        · go_simp
          exact PUT.out 4 (by omega) hun v (Below.refl _ _) _ HFV.out.2.2.2.2.1.symm
        · have h23 := eval_getD (show a'.eval (.tmp 23) = .pointer (some ⟨w.heap.size, 2, none⟩) from (VAL.out 4 (by omega) (DEP.out _ rfl ⟨4, Ground.data⟩ (by simp) rfl)).trans HFV.out.2.2.2.2.1)
          obtain ⟨⟨c0, c1, c2⟩, -, -⟩ := HCW.out v (HSS.out.low (by omega) hun).2
          go_simp
          exact PUT.out 5 (by omega) hun v (Below.refl _ _) _ HFV.out.2.2.2.2.2.1.symm
        · have h24 := eval_getD (show a'.eval (.tmp 24) = .string T.name from (VAL.out 5 (by omega) (DEP.out _ rfl ⟨5, Ground.data⟩ (by simp) rfl)).trans HFV.out.2.2.2.2.2.1)
          go_simp
          refine (clone_any _ _ (by omega)).mono ?_
          rintro e v2 ⟨rfl, hb⟩
          exact PUT.out 6 (by omega) hun v2 hb _ HFV.out.2.2.2.2.2.2.1.symm
        · go_simp
          exact PUT.out 7 (by omega) hun v (Below.refl _ _) _ HFV.out.2.2.2.2.2.2.2.1.symm
        · have h20 := eval_getD (show a'.eval (.tmp 20) = .int .i64 T.kind from (VAL.out 1 (by omega) (DEP.out _ rfl ⟨1, Ground.data⟩ (by simp) rfl)).trans HFV.out.2.1)
          have h22 := eval_getD (show a'.eval (.tmp 22) = .int .i64 T.num from (VAL.out 3 (by omega) (DEP.out _ rfl ⟨3, Ground.data⟩ (by simp) rfl)).trans HFV.out.2.2.2.1)
          have h25 := eval_getD (show a'.eval (.tmp 25) = .string T.name from (VAL.out 6 (by omega) (DEP.out _ rfl ⟨6, Ground.data⟩ (by simp) rfl)).trans HFV.out.2.2.2.2.2.2.1)
          have h26 := eval_getD (show a'.eval (.tmp 26) = .slice sa T.len sc from (VAL.out 7 (by omega) (DEP.out _ rfl ⟨7, Ground.data⟩ (by simp) rfl)).trans HFV.out.2.2.2.2.2.2.2.1)
          go_simp
          exact PUT.out 8 (by omega) hun v (Below.refl _ _) _ HFV.out.2.2.2.2.2.2.2.2.symm
        · have h27 := eval_getD (show a'.eval (.tmp 27) = .agg #[.int .i64 T.kind, .int .i64 T.num, .string T.name, .slice sa T.len sc] from (VAL.out 8 (by omega) (DEP.out _ rfl ⟨8, Ground.data⟩ (by simp) rfl)).trans HFV.out.2.2.2.2.2.2.2.2)
          obtain ⟨hbv, hput⟩ := HSS.out.last (by omega) hun (fun i hi => DEP.out _ rfl ⟨i, Ground.phase⟩ (by rcases (by omega : i = 0 ∨ i = 1 ∨ i = 2 ∨ i = 3 ∨ i = 4 ∨ i = 5 ∨ i = 6 ∨ i = 7 ∨ i = 8) with rfl | rfl | rfl | rfl | rfl | rfl | rfl | rfl | rfl <;> simp) rfl)
          have HP := hid_mk hput
          have HBV := hid_mk hbv
          obtain ⟨-, ⟨d0, d1, d2, d3⟩, hfz⟩ := HCW.out v hbv
          clear hput hbv
          go_simp
          exact NON.out _ (by omega) (HP.out _ ⟨v, HBV.out, rfl⟩)
      · intro a' v hsz hdf hkeep hS0 hvals
        obtain ⟨listed, hls, hS, hall⟩ := hS0
        obtain ⟨v0, hb9, rfl⟩ := hS.2.2 (by
          have := hall 9 (by show 9 < 10; omega)
          rw [Array.getD_eq_getD_getElem?, Array.getElem?_eq_getElem (show 9 < listed.size by rw [hls]; show 9 < 10; omega)] at this ⊢
          exact this)
        rw [act_puts (n := 10) hsz hdf hkeep]
        generalize (fun i => a'.eval (.tmp (if i < 9 then 19 + i else 100 + i))) = ff
        clear hsz hdf hkeep hvals hS hall hls
        simp only [puts, Act.put, Nat.reduceLT, if_true, if_false, Nat.reduceAdd, List.setIfInBounds_toArray, List.set_cons_succ, List.set_cons_zero]
        obtain ⟨_, ⟨d0, d1, d2, d3⟩, hfz⟩ := HCW.out v0 hb9
        obtain ⟨p0, p1, p2, p3, _, po, ps, pf⟩ := store4C v0 (w.heap.size + 1) (.int .i64 T.kind) (.int .i64 T.num) (.string T.name) (.slice sa T.len sc) ⟨_, d0⟩ ⟨_, d1⟩ ⟨_, d2⟩ ⟨_, d3⟩
        have hbV : Below w.heap.size w ((((v0.setCell ⟨w.heap.size + 1, 0, none⟩ (.int .i64 T.kind)).setCell ⟨w.heap.size + 1, 1, none⟩ (.int .i64 T.num)).setCell ⟨w.heap.size + 1, 2, none⟩ (.string T.name)).setCell ⟨w.heap.size + 1, 3, none⟩ (.slice sa T.len sc)) := by
          have hx := hb0.out.trans ((HCP.out.below.trans (hb9.mono hz)).mono (by have := HZ0.out; omega))
          exact (((hx.setCell (p := ⟨w.heap.size + 1, 0, none⟩) (Nat.le_succ _) _).setCell (p := ⟨w.heap.size + 1, 1, none⟩) (Nat.le_succ _) _).setCell (p := ⟨w.heap.size + 1, 2, none⟩) (Nat.le_succ _) _).setCell (p := ⟨w.heap.size + 1, 3, none⟩) (Nat.le_succ _) _
        have htr : Tr ((((v0.setCell ⟨w.heap.size + 1, 0, none⟩ (.int .i64 T.kind)).setCell ⟨w.heap.size + 1, 1, none⟩ (.int .i64 T.num)).setCell ⟨w.heap.size + 1, 2, none⟩ (.string T.name)).setCell ⟨w.heap.size + 1, 3, none⟩ (.slice sa T.len sc)) T w.heap.size v0.heap.size (.slice sa T.len sc) := by
          refine tr_wide (tr_keep (fun k k1 k2 => po k (by have := HZ0.out; omega)) (tr_below HCP.out.done hb9 (Nat.le_refl _))) (by have := HZ0.out; omega) hb9.size
        revert p0 p1 p2 p3 po ps pf hbV htr
        generalize (((v0.setCell ⟨w.heap.size + 1, 0, none⟩ (.int .i64 T.kind)).setCell ⟨w.heap.size + 1, 1, none⟩ (.int .i64 T.num)).setCell ⟨w.heap.size + 1, 2, none⟩ (.string T.name)).setCell ⟨w.heap.size + 1, 3, none⟩ (.slice sa T.len sc) = X
        intro p0 p1 p2 p3 po ps pf hbV htr
        go_wp2
        exact bodyPost_ret (v := .agg #[.int .i64 T.kind, .int .i64 T.num, .string T.name, .slice sa T.len sc]) (by simp [results, Tryd.results28, go_sem, p0, p1, p2, p3]) rfl ⟨.slice sa T.len sc, rfl, by rw [ps]; exact htr, hbV⟩

theorem copied_any (T : Nd) : CpC T := by
  induction T with
  | nil => exact copied_of _ fun i hi => absurd hi (Nat.not_lt_zero i)
  | mk k n s len kids ih => exact copied_of _ fun i _ => ih i
end Go.Proofs.YtnangkijokficaaDoor
namespace Go.Proofs.YtnangkijokficaaDoor
open Go.RowKit

theorem node_of (k n : Int) (s : ByteArray) (a : Option Addr) (l c : Nat) (w : World) :
    Calls Tryd.prog 37 #[.int .i64 k, .int .i64 n, .string s, .slice a l c] w fun e w' => e = .returned (.agg #[.int .i64 k, .int .i64 n, .string s, .slice a l c]) ∧ Below w.heap.size w w' := by
  go_enter Tryd.func37, Tryd.ntmps37
  go_wp2
  exact bodyPost_ret (v := .agg #[.int .i64 k, .int .i64 n, .string s, .slice a l c]) (by simp [results, Tryd.results37, go_sem]) rfl ⟨rfl, (Below.refl _ _).alloc (Nat.le_refl _) _⟩

def CpS (T : Nd) : Prop := ∀ (w : World) (v : Value) (hi : Nat), T.Fine → hi ≤ w.heap.size → Row 0 hi w T v → T.cost ≤ 1048576 →
  Calls Tryd.prog 24 #[T.val v] w fun e w' => ∃ u, e = .returned (T.val u) ∧ Tr w' T w.heap.size w'.heap.size u ∧ Below w.heap.size w w'

set_option maxHeartbeats 4000000 in
theorem l07copy_of (T : Nd) (ih : ∀ i, i < T.len → CpS (T.kids i)) : CpS T := by
  intro w v hi hf hhi hr hcost
  have hn := T.fine_len hf
  have hce := T.cost_eq
  have hck : ∀ j, j < T.len → (T.kids j).cost ≤ 1048576 := fun j hj => Nat.le_trans (T.cost_kid hj) hcost
  have hl20 : T.len ≤ 1048576 := by omega
  have hn20 : T.name.size ≤ 1048576 := by omega
  obtain ⟨a, cap, rfl, hcap, hq⟩ := row_eq.1 hr
  obtain ⟨i0, hi0, hz0, hz1, hz2⟩ := info_parts info_nodeC
  have HI := hid_mk ih
  have HF := hid_mk hf
  have HR := hid_mk hq
  have HK := hid_mk hck
  clear hr hf ih hq hck hce hcap
  unfold Nd.val
  generalize hW0 : (w.alloc (.cells #[.int .i64 T.kind, .int .i64 T.num, .string T.name, .slice a T.len cap] 30)).alloc (.cells #[.int .i64 0, .int .i64 0, .string ⟨#[]⟩, .slice none 0 0] 30) = W0
  have hb0 : Hid (Below w.heap.size w W0) := by rw [← hW0]; exact ((Below.refl _ _).alloc (Nat.le_refl _) _).alloc (by simp) _
  have hz0' : W0.heap.size = w.heap.size + 1 + 1 := by rw [← hW0]; simp
  have HC0 : Hid ((W0.cell? ⟨w.heap.size, 0, none⟩ = some (.int .i64 T.kind) ∧ W0.cell? ⟨w.heap.size, 1, none⟩ = some (.int .i64 T.num) ∧ W0.cell? ⟨w.heap.size, 2, none⟩ = some (.string T.name) ∧ W0.cell? ⟨w.heap.size, 3, none⟩ = some (.slice a T.len cap)) ∧
      (W0.cell? ⟨w.heap.size + 1, 0, none⟩ = some (.int .i64 0) ∧ W0.cell? ⟨w.heap.size + 1, 1, none⟩ = some (.int .i64 0) ∧ W0.cell? ⟨w.heap.size + 1, 2, none⟩ = some (.string ⟨#[]⟩) ∧ W0.cell? ⟨w.heap.size + 1, 3, none⟩ = some (.slice none 0 0)) ∧ ∀ o, W0.frozen? ⟨w.heap.size + 1, o, none⟩ = false) := by
    rw [← hW0]; unfold Hid; simp [go_sem]
  have HW0 := hid_mk hW0
  have HZ0 := hid_mk hz0'
  clear hW0 hz0'
  go_enter Tryd.func24, Tryd.ntmps24
  go_wp2
  rw [HW0.out]
  go_loopw [3, 4] (fun kv i wr => ∃ (j : Nat) (sa : Option Addr) (sc : Nat) (us : Nat → Value) (s e : Nat → Nat), j ≤ T.len ∧ i = .int .i64 j ∧ kv = .slice sa j sc ∧ CpI T W0 j (.slice sa j sc) us s e wr) (fun _ i _ => T.len - (intOf i).toNat)
  case atStart =>
    have hh := World.ownsRow_made (base := W0.heap.size) (e := 30) (size := 4) W0 #[] 0 (Nat.le_refl _) (by unfold maxLen; omega) (by simp)
    exact ⟨0, _, _, _, _, _, Nat.zero_le _, rfl, rfl, CpI.start T (by have h2 := hh; rw [HZ0.out] at h2 ⊢; simpa using h2) ((Below.refl _ _).alloc (Nat.le_refl _) _)⟩
  case round =>
    obtain ⟨j, sa, sc, us, s, e, hj, rfl, rfl, hcp⟩ := hrel
    have HCP := hid_mk hcp
    have hz := hcp.below.size
    have HZ := hid_mk (show w.heap.size + 1 + 1 ≤ wr.heap.size by have := HZ0.out; omega)
    by_cases hlt : j < T.len
    · rcases HR.out with h0 | ⟨g, off, rfl, h1, h2, h3⟩
      · omega
      obtain ⟨x, e0, e1, e2, e3, hx⟩ := h3 j hlt
      have hgl : g < w.heap.size := by omega
      have hbw := hb0.out.trans (hcp.below.mono (by have := HZ0.out; omega))
      rw [← hbw.cell (p := ⟨g, _, none⟩) hgl] at e0 e1 e2 e3
      have HX := hid_mk (row_below hbw hhi hx)
      obtain ⟨xa, xc, rfl⟩ : ∃ xa xc, x = .slice xa (T.kids j).len xc := by obtain ⟨a', c', h, _⟩ := row_eq.1 hx; exact ⟨a', c', h⟩
      have hkc := HK.out j hlt
      have HC := HI.out j hlt
      have HFJ := hid_mk (Nd.fine_kid HF.out hlt)
      unfold CpS at HC
      have HCC := hid_mk HC
      have hjl : (j : Int) < (T.len : Int) := by omega
      have k3 : wr.cell? ⟨w.heap.size, 3, none⟩ = some (.slice (some ⟨g, off, none⟩) T.len cap) := (hcp.below.cell (p := ⟨w.heap.size, 3, none⟩) (show w.heap.size < W0.heap.size by have := HZ0.out; omega)).trans HC0.out.1.2.2.2
      have HKJ := hid_mk (rfl : T.kids j = T.kids j)
      unfold Nd.val at HCC
      clear h3 HC hx hcp hbw
      go_wp2_with (first
        | (go_at_call 24; refine (HCC.out _ _ hi HFJ.out (by have := HZ.out; omega) HX.out hkc).mono ?_; rintro e w1 ⟨u1, rfl, ht1, hb1⟩; obtain ⟨a1, p1, rfl⟩ := tr_shape ht1; have HT1 := hid_mk ht1; have HB1 := hid_mk hb1; clear ht1 hb1)
        | (at_builtin; refine wpList_append_freshG _ rfl _ _ 28 rfl W0.heap.size 30 i0 (.agg #[.int .i64 0, .int .i64 0, .string ⟨#[]⟩, .slice none 0 0]) 4 56 Tryd.underlying28 hi0 hz0 hz1 hz2 rfl (by decide) _ j _ rfl ((HCP.out.later HB1.out).own.alloc _) ⟨w1.heap.size, 0, none⟩ 1 1 [.int .i64 (T.kids j).kind, .int .i64 (T.kids j).num, .string (T.kids j).name, .slice a1 (T.kids j).len p1] rfl rfl (four_new _ _ _ _ _ _) (four_one _ _ _ _ _ _) (by unfold maxLen; omega) (by omega) (by have := (HCP.out.later HB1.out).below.size; simp; omega) ?_; intro v' w3 hown hgrow hloc hsh))
      obtain ⟨sa', sc', rfl⟩ := hsh.out
      have hst := HCP.out.step HB1.out HT1.out ((Below.refl _ _).alloc (Nat.le_refl _) _) hown.out hgrow.out hloc.out
      exact ⟨⟨j + 1, sa', sc', _, _, _, by omega, by go_num, rfl, hst⟩, by simp [intOf]; omega⟩
    · obtain rfl : j = T.len := by omega
      obtain ⟨⟨c0, c1, c2, c3⟩, ⟨d0, d1, d2, d3⟩, hfz⟩ := HC0.out
      have hc : ∀ b o, b < w.heap.size + 1 + 1 → wr.cell? ⟨b, o, none⟩ = W0.cell? ⟨b, o, none⟩ := fun b o h => hcp.below.cell (p := ⟨b, o, none⟩) (show b < W0.heap.size by have := HZ0.out; omega)
      rw [← hc _ _ (by omega)] at c0 c1 c2 c3
      rw [← hc _ _ (by omega)] at d0 d1 d2 d3
      have hfz' : ∀ o, wr.frozen? ⟨w.heap.size + 1, o, none⟩ = false := fun o => (hcp.below.frozen (p := ⟨w.heap.size + 1, o, none⟩) (show w.heap.size + 1 < W0.heap.size by have := HZ0.out; omega)).trans (hfz o)
      have hzw := HZ.out
      have hza : w.heap.size < wr.heap.size := by omega
      have hzb : w.heap.size + 1 < wr.heap.size := by omega
      clear hc hfz hcp
      go_wp2_with fail
      refine (node_of _ _ _ _ _ _ _).mono ?_
      rintro e w4 ⟨rfl, hb4⟩
      obtain ⟨g4, f4⟩ := bcellO hb4
      rw [← g4 _ _ hzb] at d0 d1 d2 d3
      have hfz4 : ∀ o, w4.frozen? ⟨w.heap.size + 1, o, none⟩ = false := fun o => (f4 _ _ hzb).trans (hfz' o)
      have HB4 := hid_mk hb4
      clear hfz' c0 c1 c2 c3 g4 f4 hb4
      obtain ⟨p0, p1, p2, p3, _, po, ps, pf⟩ := store4C w4 (w.heap.size + 1) (.int .i64 T.kind) (.int .i64 T.num) (.string T.name) (.slice sa T.len sc) ⟨_, d0⟩ ⟨_, d1⟩ ⟨_, d2⟩ ⟨_, d3⟩
      have HBV : Hid (Below w.heap.size w ((((w4.setCell ⟨w.heap.size + 1, 0, none⟩ (.int .i64 T.kind)).setCell ⟨w.heap.size + 1, 1, none⟩ (.int .i64 T.num)).setCell ⟨w.heap.size + 1, 2, none⟩ (.string T.name)).setCell ⟨w.heap.size + 1, 3, none⟩ (.slice sa T.len sc))) := by
        have hx := hb0.out.trans ((HCP.out.below.trans (HB4.out.mono hz)).mono (by have := HZ0.out; omega))
        exact (((hx.setCell (p := ⟨w.heap.size + 1, 0, none⟩) (Nat.le_succ _) _).setCell (p := ⟨w.heap.size + 1, 1, none⟩) (Nat.le_succ _) _).setCell (p := ⟨w.heap.size + 1, 2, none⟩) (Nat.le_succ _) _).setCell (p := ⟨w.heap.size + 1, 3, none⟩) (Nat.le_succ _) _
      have HTR : Hid (Tr ((((w4.setCell ⟨w.heap.size + 1, 0, none⟩ (.int .i64 T.kind)).setCell ⟨w.heap.size + 1, 1, none⟩ (.int .i64 T.num)).setCell ⟨w.heap.size + 1, 2, none⟩ (.string T.name)).setCell ⟨w.heap.size + 1, 3, none⟩ (.slice sa T.len sc)) T w.heap.size w4.heap.size (.slice sa T.len sc)) :=
        tr_wide (tr_keep (fun k k1 k2 => po k (by have := HZ0.out; omega)) (tr_below HCP.out.done HB4.out (Nat.le_refl _))) (by have := HZ0.out; omega) HB4.out.size
      have HPO := hid_mk po
      have HPS := hid_mk ps
      clear po ps pf
      go_wp2
      exact bodyPost_ret (v := .agg #[.int .i64 T.kind, .int .i64 T.num, .string T.name, .slice sa T.len sc]) (by simp [results, Tryd.results24, go_sem, p0, p1, p2, p3]) rfl ⟨.slice sa T.len sc, rfl, by rw [HPS.out]; exact HTR.out, HBV.out⟩

theorem l07copy_any (T : Nd) : CpS T := by
  induction T with
  | nil => exact l07copy_of _ fun i hi => absurd hi (Nat.not_lt_zero i)
  | mk k n s len kids ih => exact l07copy_of _ fun i _ => ih i
end Go.Proofs.YtnangkijokficaaDoor
