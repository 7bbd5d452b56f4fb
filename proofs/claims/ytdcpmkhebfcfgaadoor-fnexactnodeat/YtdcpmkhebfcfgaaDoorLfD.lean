/- The specification's node at a place. -/
import Derived.Test.YtdcpmkhebfcfgaaDoorLfC
import Derived.Test.YtdcpmkhebfcfgaaDoorLfB
import Derived.Test.YtdcpmkhebfcfgaaDoorLbI
set_option linter.unusedVariables false
namespace Go.Proofs.YtdcpmkhebfcfgaaDoor
open Go.RowKit

def GtC (T : Nd) : Prop := ∀ (w : World) (v : Value) (hi at' p : Nat), T.Fine → hi ≤ w.heap.size → Row 0 hi w T v → T.cost ≤ 1048576 → at' ≤ p → p < at' + T.size → p ≤ 1099511627776 →
  Calls Tryd.prog 31 #[T.val v, .int .i64 at', .int .i64 p] w fun e w' => ∃ u, e = .returned ((atT T (p - at')).val u) ∧ Row 0 hi w' (atT T (p - at')) u ∧ Below w.heap.size w w'

set_option maxHeartbeats 4000000 in
theorem get_self (T : Nd) (w : World) (v : Value) (hi p : Nat) (hf : T.Fine) (hhi : hi ≤ w.heap.size) (hr : Row 0 hi w T v) :
    Calls Tryd.prog 31 #[T.val v, .int .i64 p, .int .i64 p] w fun e w' => ∃ u, e = .returned (T.val u) ∧ Row 0 hi w' T u ∧ Below w.heap.size w w' := by
  obtain ⟨a, cap, rfl, -, -⟩ := row_eq.1 hr
  have HR := hid_mk hr
  clear hr
  unfold Nd.val
  have HB : ∀ x y : Obj, Hid (Below w.heap.size w ((w.alloc x).alloc y)) := fun a b => ((Below.refl _ _).alloc (Nat.le_refl _) _).alloc (by simp) _
  go_enter Tryd.func31, Tryd.ntmps31
  go_wp2
  exact bodyPost_ret (v := .agg #[.int .i64 T.kind, .int .i64 T.num, .string T.name, .slice a T.len cap]) (by simp [results, Tryd.results31, go_sem]) rfl ⟨.slice a T.len cap, rfl, row_below (HB _ _).out hhi HR.out, (HB _ _).out⟩

set_option maxHeartbeats 8000000 in
set_option maxRecDepth 100000 in
theorem get_of (T : Nd) (ih : ∀ i, i < T.len → GtC (T.kids i)) : GtC T := by
  intro w v hi at' p hf hhi hr hcost hap hpa hpm
  by_cases hpe : at' = p
  · subst hpe
    rw [Nat.sub_self, at_zero]
    exact get_self T w v hi at' hf hhi hr
  have hn := T.fine_len hf
  have hck : ∀ j, j < T.len → (T.kids j).cost ≤ 1048576 := fun j hj => Nat.le_trans (T.cost_kid hj) hcost
  have hsc := T.size_cost
  obtain ⟨a, cap, rfl, hcap, hq⟩ := row_eq.1 hr
  have HATS := hid_mk (fun W v hi hhi hr => ats_any T W v hi at' hf hhi hr hcost (by omega))
  have hk0 := kidAt_0 T at'
  have hkl := kidAt_len T at'
  have HI := hid_mk ih
  have HF := hid_mk hf
  have HR := hid_mk hq
  have HRR := hid_mk hr
  have HK := hid_mk hck
  clear hr hf ih hq hck hcap
  have hpe2 : ¬ (at' : Int) = (p : Int) := by omega
  unfold Nd.val at HATS ⊢
  generalize hW0 : (w.alloc (.cells #[.int .i64 T.kind, .int .i64 T.num, .string T.name, .slice a T.len cap] 29)).alloc (.cells #[.int .i64 0, .int .i64 0, .string ⟨#[]⟩, .slice none 0 0] 29) = W0
  have hb0 : Hid (Below w.heap.size w W0) := by rw [← hW0]; exact ((Below.refl _ _).alloc (Nat.le_refl _) _).alloc (by simp) _
  have hz0' : W0.heap.size = w.heap.size + 1 + 1 := by rw [← hW0]; simp
  have HC0 : Hid (W0.cell? ⟨w.heap.size, 3, none⟩ = some (.slice a T.len cap) ∧
      (W0.cell? ⟨w.heap.size + 1, 0, none⟩ = some (.int .i64 0) ∧ W0.cell? ⟨w.heap.size + 1, 1, none⟩ = some (.int .i64 0) ∧ W0.cell? ⟨w.heap.size + 1, 2, none⟩ = some (.string ⟨#[]⟩) ∧ W0.cell? ⟨w.heap.size + 1, 3, none⟩ = some (.slice none 0 0)) ∧ ∀ o, W0.frozen? ⟨w.heap.size + 1, o, none⟩ = false) := by
    rw [← hW0]; unfold Hid; simp [go_sem]
  have HW0 := hid_mk hW0
  have HZ0 := hid_mk hz0'
  clear hW0 hz0'
  go_enter Tryd.func31, Tryd.ntmps31
  go_wp2_with fail
  rw [HW0.out]
  refine (HATS.out W0 _ hi (by have := HZ0.out; omega) (row_below hb0.out hhi HRR.out)).mono ?_
  rintro e w1 ⟨tv, rfl, hts, hb1⟩
  obtain ⟨tb, tc, rfl, htc1, htc2, htq⟩ := hts
  have HTQ := hid_mk htq
  have hz1 : w.heap.size + 1 + 1 ≤ w1.heap.size := by have := hb1.size; have := HZ0.out; omega
  have B1 := hid_mk (hb0.out.trans (hb1.mono (by have := HZ0.out; omega)))
  have HC1 : Hid (w1.cell? ⟨w.heap.size, 3, none⟩ = some (.slice a T.len cap) ∧
      (w1.cell? ⟨w.heap.size + 1, 0, none⟩ = some (.int .i64 0) ∧ w1.cell? ⟨w.heap.size + 1, 1, none⟩ = some (.int .i64 0) ∧ w1.cell? ⟨w.heap.size + 1, 2, none⟩ = some (.string ⟨#[]⟩) ∧ w1.cell? ⟨w.heap.size + 1, 3, none⟩ = some (.slice none 0 0)) ∧ ∀ o, w1.frozen? ⟨w.heap.size + 1, o, none⟩ = false) := by
    have hzz := HZ0.out
    obtain ⟨c, f⟩ := bcellO hb1
    obtain ⟨h3, ⟨d0, d1, d2, d3⟩, hf⟩ := HC0.out
    exact ⟨(c _ _ (by omega)).trans h3, ⟨(c _ _ (by omega)).trans d0, (c _ _ (by omega)).trans d1, (c _ _ (by omega)).trans d2, (c _ _ (by omega)).trans d3⟩, fun o => (f _ _ (by omega)).trans (hf o)⟩
  clear htq hb1 HATS HC0 HW0 hb0 HRR
  go_wp2
  go_loopw [8] (fun i wr => ∃ j : Nat, j ≤ T.len ∧ i = .int .i64 j ∧ kidAt T at' j ≤ p ∧ Below w1.heap.size w1 wr) (fun i _ => T.len - (intOf i).toNat)
  case atStart => exact ⟨0, Nat.zero_le _, rfl, by rw [hk0]; omega, Below.refl _ _⟩
  case round =>
    obtain ⟨j, hj, rfl, hkp, hb⟩ := hrel
    have hlt : j < T.len := by
      rcases Nat.lt_or_ge j T.len with h | h
      · exact h
      · obtain rfl : j = T.len := by omega
        omega
    have hbz := hb.size
    have hzw : w.heap.size + 1 + 1 ≤ wr.heap.size := by omega
    have hbw := B1.out.trans (hb.mono (by omega))
    have BB := hid_mk hb
    have BW := hid_mk hbw
    rcases HR.out with h0 | ⟨g, off, rfl, h1, h2, h3⟩
    · omega
    rcases HTQ.out with h0 | ⟨g2, off2, rfl, l1, l2, l3⟩
    · omega
    obtain ⟨x, e0, e1, e2, e3, hx⟩ := h3 j hlt
    have t0 := l3 j hlt
    have hgl : g < w.heap.size := by omega
    rw [← hbw.cell (p := ⟨g, _, none⟩) hgl] at e0 e1 e2 e3
    rw [← (bcellO hb).1 _ _ l2] at t0
    obtain ⟨k3, ⟨d0, d1, d2, d3⟩, hfz⟩ := HC1.out
    have hcw : ∀ b o, b < w.heap.size + 1 + 1 → wr.cell? ⟨b, o, none⟩ = w1.cell? ⟨b, o, none⟩ := fun b o h => (bcellO hb).1 b o (by omega)
    rw [← hcw _ _ (by omega)] at k3 d0 d1 d2 d3
    have hfz' : ∀ o, wr.frozen? ⟨w.heap.size + 1, o, none⟩ = false := fun o => ((bcellO hb).2 _ _ (by omega)).trans (hfz o)
    obtain ⟨xa, xc, rfl⟩ : ∃ xa xc, x = .slice xa (T.kids j).len xc := by obtain ⟨a', c', h, _⟩ := row_eq.1 hx; exact ⟨a', c', h⟩
    have HX := hid_mk (row_below hbw hhi hx)
    have hkc := HK.out j hlt
    have HFJ := hid_mk (Nd.fine_kid HF.out hlt)
    have HSZ := hid_mk (fun W v hi hhi hr => l02size (T.kids j) W v hi HFJ.out hhi hr hkc)
    have hkle := kidAt_le T at' hlt
    have hks := kidAt_succ T at' j
    have hjl : (j : Int) < (T.len : Int) := by omega
    have hmix : Tryd.prog.follows Departure.mixedOrders = true := by kernel_rfl
    have HCE : Hid (∀ v, Below wr.heap.size wr v → v.cell? ⟨w.heap.size, 3, none⟩ = some (.slice (some ⟨g, off, none⟩) T.len cap) ∧ v.cell? ⟨g2, off2 + j, none⟩ = some (.int .i64 ((kidAt T at' j : Nat) : Int)) ∧ v.cell? ⟨g, off + j * 4, none⟩ = some (.int .i64 (T.kids j).kind) ∧ v.cell? ⟨g, off + j * 4 + 1, none⟩ = some (.int .i64 (T.kids j).num) ∧ v.cell? ⟨g, off + j * 4 + 2, none⟩ = some (.string (T.kids j).name) ∧ v.cell? ⟨g, off + j * 4 + 3, none⟩ = some (.slice xa (T.kids j).len xc) ∧ Row 0 hi v (T.kids j) (.slice xa (T.kids j).len xc)) := by
      intro v hv
      obtain ⟨c, _⟩ := bcellO hv
      exact ⟨(c _ _ (by omega)).trans k3, (c _ _ (by omega)).trans t0, (c _ _ (by omega)).trans e0, (c _ _ (by omega)).trans e1, (c _ _ (by omega)).trans e2, (c _ _ (by omega)).trans e3, row_below hv (by omega) HX.out⟩
    clear h3 l3 hx hcw hfz hb hbw hkl
    have HIJ := hid_mk (HI.out j hlt)
    unfold GtC Nd.val at HIJ
    have HD : Hid (∀ v, Below wr.heap.size wr v → v.cell? ⟨w.heap.size + 1, 0, none⟩ = some (.int .i64 0) ∧ v.cell? ⟨w.heap.size + 1, 1, none⟩ = some (.int .i64 0) ∧ v.cell? ⟨w.heap.size + 1, 2, none⟩ = some (.string ⟨#[]⟩) ∧ v.cell? ⟨w.heap.size + 1, 3, none⟩ = some (.slice none 0 0) ∧ ∀ o, v.frozen? ⟨w.heap.size + 1, o, none⟩ = false) := by
      intro v hv
      obtain ⟨c, f⟩ := bcellO hv
      exact ⟨(c _ _ (by omega)).trans d0, (c _ _ (by omega)).trans d1, (c _ _ (by omega)).trans d2, (c _ _ (by omega)).trans d3, fun o => (f _ _ (by omega)).trans (hfz' o)⟩
    unfold SizeC Nd.val at HSZ
    have HKS := hid_mk hks
    clear hks d0 d1 d2 d3 hfz' t0 e0 e1 e2 e3
    generalize hkj : kidAt T at' j = kj at *
    have HKJ := hid_mk hkj
    clear hkj
    obtain ⟨bt, hbt⟩ : ∃ b : Bool, b = decide ((p : Int) < (kj : Int) + ((T.kids j).size : Int)) := ⟨_, rfl⟩
    have HBT : Hid (bt = decide (p < kj + (T.kids j).size)) := by
      rw [hbt, Hid]; congr 1; simp only [eq_iff_iff]; omega
    have HBT' := hid_mk hbt
    have hgep : (kj : Int) ≤ (p : Int) := by omega
    have hwrp : IntKind.i64.wrap ((kj : Int) + ((T.kids j).size : Int)) = (kj : Int) + ((T.kids j).size : Int) := by simp [IntKind.wrap, IntKind.bits, IntKind.signed]; omega
    clear hbt
    go_wp2_with fail
    obtain ⟨fV, hfV⟩ : ∃ f : Nat → Value, f = fun i => match i with
      | 0 => .int .i64 (p : Int) | 1 => .slice (some ⟨g2, off2, none⟩) T.len tc | 2 => .int .i64 (j : Int) | 3 => .pointer (some ⟨g2, off2 + j, none⟩) | 4 => .int .i64 (kj : Int) | 5 => .bool true | 6 => .bool true | 7 => .int .i64 (p : Int) | 8 => .slice (some ⟨g2, off2, none⟩) T.len tc | 9 => .int .i64 (j : Int) | 10 => .pointer (some ⟨g2, off2 + j, none⟩) | 11 => .int .i64 (kj : Int) | 12 => .pointer (some ⟨w.heap.size, 3, none⟩) | 13 => .slice (some ⟨g, off, none⟩) T.len cap | 14 => .int .i64 (j : Int) | 15 => .pointer (some ⟨g, off + j * 4, none⟩) | 16 => .agg #[.int .i64 (T.kids j).kind, .int .i64 (T.kids j).num, .string (T.kids j).name, .slice xa (T.kids j).len xc] | 17 => .int .i64 ((T.kids j).size : Int) | 18 => .int .i64 ((kj : Int) + ((T.kids j).size : Int)) | 19 => .bool bt | 20 => .bool bt | _ => undef := ⟨_, rfl⟩
    have HFV := hid_mk (show fV 0 = .int .i64 (p : Int) ∧ fV 1 = .slice (some ⟨g2, off2, none⟩) T.len tc ∧ fV 2 = .int .i64 (j : Int) ∧ fV 3 = .pointer (some ⟨g2, off2 + j, none⟩) ∧ fV 4 = .int .i64 (kj : Int) ∧ fV 5 = .bool true ∧ fV 6 = .bool true ∧ fV 7 = .int .i64 (p : Int) ∧ fV 8 = .slice (some ⟨g2, off2, none⟩) T.len tc ∧ fV 9 = .int .i64 (j : Int) ∧ fV 10 = .pointer (some ⟨g2, off2 + j, none⟩) ∧ fV 11 = .int .i64 (kj : Int) ∧ fV 12 = .pointer (some ⟨w.heap.size, 3, none⟩) ∧ fV 13 = .slice (some ⟨g, off, none⟩) T.len cap ∧ fV 14 = .int .i64 (j : Int) ∧ fV 15 = .pointer (some ⟨g, off + j * 4, none⟩) ∧ fV 16 = .agg #[.int .i64 (T.kids j).kind, .int .i64 (T.kids j).num, .string (T.kids j).name, .slice xa (T.kids j).len xc] ∧ fV 17 = .int .i64 ((T.kids j).size : Int) ∧ fV 18 = .int .i64 ((kj : Int) + ((T.kids j).size : Int)) ∧ fV 19 = .bool bt ∧ fV 20 = .bool bt from ⟨congrFun hfV 0, congrFun hfV 1, congrFun hfV 2, congrFun hfV 3, congrFun hfV 4, congrFun hfV 5, congrFun hfV 6, congrFun hfV 7, congrFun hfV 8, congrFun hfV 9, congrFun hfV 10, congrFun hfV 11, congrFun hfV 12, congrFun hfV 13, congrFun hfV 14, congrFun hfV 15, congrFun hfV 16, congrFun hfV 17, congrFun hfV 18, congrFun hfV 19, congrFun hfV 20⟩)
    clear hfV
    refine wp_region_inv hmix (by kernel_rfl) (fun i => 23 + i) (Vf 21 fV) (fun _ v => Below wr.heap.size wr v) ((Below.refl _ _).drew) ?_ ?_
    · intro listed a' v i hI hr
      have hir : i < 21 := (ready_unl hr).1
      have hS := hI.s
      have HSS := hid_mk hS
      have PUT := hid_mk (fun (i : Nat) (hi : i < 21) (v' : World) (hb : Below v.heap.size v v') (x : Value) (hx : x = fV i) => hI.put (w' := v') (fun i j hi hj h => by omega) (fun i hi => by have : i < 21 := hi; show 23 + i < 56; omega) (fun _ _ h => h) (hS.trans (hb.mono hS.size)) (show i < 21 from hi) (v := x) (fun _ => hx))
      have VAL := hid_mk (fun (j : Nat) (hj : j < 21) (hl : listed.getD j false = true) => hI.vals j (show j < 21 from hj) (getD_tr hl) hj)
      have DEP := hid_mk (fun o (ho : _ = some o) => ready_dep hr (o := o) ho)
      have s2 : a'.tmps[2]?.getD undef = .int .i64 (p : Int) := eval_getD (hI.keep 2 (by intro i hi; have : i < 21 := hi; show 2 ≠ 23 + i; omega))
      have s3 : a'.tmps[3]?.getD undef = .pointer (some ⟨w.heap.size, 0, none⟩) := eval_getD (hI.keep 3 (by intro i hi; have : i < 21 := hi; show 3 ≠ 23 + i; omega))
      have s7 : a'.tmps[7]?.getD undef = .slice (some ⟨g2, off2, none⟩) T.len tc := eval_getD (hI.keep 7 (by intro i hi; have : i < 21 := hi; show 7 ≠ 23 + i; omega))
      have s8 : a'.tmps[8]?.getD undef = .int .i64 (j : Int) := eval_getD (hI.keep 8 (by intro i hi; have : i < 21 := hi; show 8 ≠ 23 + i; omega))
      clear hI hr hS
      rcases (by omega : i = 0 ∨ i = 1 ∨ i = 2 ∨ i = 3 ∨ i = 4 ∨ i = 5 ∨ i = 6 ∨ i = 7 ∨ i = 8 ∨ i = 9 ∨ i = 10 ∨ i = 11 ∨ i = 12 ∨ i = 13 ∨ i = 14 ∨ i = 15 ∨ i = 16 ∨ i = 17 ∨ i = 18 ∨ i = 19 ∨ i = 20) with rfl | rfl | rfl | rfl | rfl | rfl | rfl | rfl | rfl | rfl | rfl | rfl | rfl | rfl | rfl | rfl | rfl | rfl | rfl | rfl | rfl
      · refine wpOp_of rfl rfl ?_
        obtain ⟨k3, t0, e0, e1, e2, e3, ro⟩ := HCE.out v HSS.out
        go_simp
        exact PUT.out 0 (by omega) v (Below.refl _ _) _ HFV.out.1.symm
      · refine wpOp_of rfl rfl ?_
        obtain ⟨k3, t0, e0, e1, e2, e3, ro⟩ := HCE.out v HSS.out
        go_simp
        exact PUT.out 1 (by omega) v (Below.refl _ _) _ HFV.out.2.1.symm
      · refine wpOp_of rfl rfl ?_
        obtain ⟨k3, t0, e0, e1, e2, e3, ro⟩ := HCE.out v HSS.out
        go_simp
        exact PUT.out 2 (by omega) v (Below.refl _ _) _ HFV.out.2.2.1.symm
      · refine wpOp_of rfl rfl ?_
        have h24 := eval_getD (show a'.eval (.tmp 24) = .slice (some ⟨g2, off2, none⟩) T.len tc from (VAL.out 1 (by omega) (DEP.out _ rfl ⟨1, Ground.data⟩ (by simp) rfl)).trans HFV.out.2.1)
        have h25 := eval_getD (show a'.eval (.tmp 25) = .int .i64 (j : Int) from (VAL.out 2 (by omega) (DEP.out _ rfl ⟨2, Ground.data⟩ (by simp) rfl)).trans HFV.out.2.2.1)
        obtain ⟨k3, t0, e0, e1, e2, e3, ro⟩ := HCE.out v HSS.out
        go_simp
        exact PUT.out 3 (by omega) v (Below.refl _ _) _ HFV.out.2.2.2.1.symm
      · refine wpOp_of rfl rfl ?_
        have h26 := eval_getD (show a'.eval (.tmp 26) = .pointer (some ⟨g2, off2 + j, none⟩) from (VAL.out 3 (by omega) (DEP.out _ rfl ⟨3, Ground.data⟩ (by simp) rfl)).trans HFV.out.2.2.2.1)
        obtain ⟨k3, t0, e0, e1, e2, e3, ro⟩ := HCE.out v HSS.out
        go_simp
        exact PUT.out 4 (by omega) v (Below.refl _ _) _ HFV.out.2.2.2.2.1.symm
      · refine wpOp_of rfl rfl ?_
        have h23 := eval_getD (show a'.eval (.tmp 23) = .int .i64 (p : Int) from (VAL.out 0 (by omega) (DEP.out _ rfl ⟨0, Ground.data⟩ (by simp) rfl)).trans HFV.out.1)
        have h27 := eval_getD (show a'.eval (.tmp 27) = .int .i64 (kj : Int) from (VAL.out 4 (by omega) (DEP.out _ rfl ⟨4, Ground.data⟩ (by simp) rfl)).trans HFV.out.2.2.2.2.1)
        obtain ⟨k3, t0, e0, e1, e2, e3, ro⟩ := HCE.out v HSS.out
        go_simp
        exact PUT.out 5 (by omega) v (Below.refl _ _) _ HFV.out.2.2.2.2.2.1.symm
      · refine wpOp_of rfl rfl ?_
        have h28 := eval_getD (show a'.eval (.tmp 28) = .bool true from (VAL.out 5 (by omega) (DEP.out _ rfl ⟨5, Ground.data⟩ (by simp) rfl)).trans HFV.out.2.2.2.2.2.1)
        obtain ⟨k3, t0, e0, e1, e2, e3, ro⟩ := HCE.out v HSS.out
        go_simp
        exact PUT.out 6 (by omega) v (Below.refl _ _) _ HFV.out.2.2.2.2.2.2.1.symm
      · refine wpOp_want rfl rfl rfl (show a'.eval (.tmp 29) = .bool true from (VAL.out 6 (by omega) (DEP.out _ rfl ⟨6, Ground.guard⟩ (by simp) rfl)).trans HFV.out.2.2.2.2.2.2.1) ?_
        obtain ⟨k3, t0, e0, e1, e2, e3, ro⟩ := HCE.out v HSS.out
        go_simp
        exact PUT.out 7 (by omega) v (Below.refl _ _) _ HFV.out.2.2.2.2.2.2.2.1.symm
      · refine wpOp_want rfl rfl rfl (show a'.eval (.tmp 29) = .bool true from (VAL.out 6 (by omega) (DEP.out _ rfl ⟨6, Ground.guard⟩ (by simp) rfl)).trans HFV.out.2.2.2.2.2.2.1) ?_
        obtain ⟨k3, t0, e0, e1, e2, e3, ro⟩ := HCE.out v HSS.out
        go_simp
        exact PUT.out 8 (by omega) v (Below.refl _ _) _ HFV.out.2.2.2.2.2.2.2.2.1.symm
      · refine wpOp_want rfl rfl rfl (show a'.eval (.tmp 29) = .bool true from (VAL.out 6 (by omega) (DEP.out _ rfl ⟨6, Ground.guard⟩ (by simp) rfl)).trans HFV.out.2.2.2.2.2.2.1) ?_
        obtain ⟨k3, t0, e0, e1, e2, e3, ro⟩ := HCE.out v HSS.out
        go_simp
        exact PUT.out 9 (by omega) v (Below.refl _ _) _ HFV.out.2.2.2.2.2.2.2.2.2.1.symm
      · refine wpOp_want rfl rfl rfl (show a'.eval (.tmp 29) = .bool true from (VAL.out 6 (by omega) (DEP.out _ rfl ⟨6, Ground.guard⟩ (by simp) rfl)).trans HFV.out.2.2.2.2.2.2.1) ?_
        have h31 := eval_getD (show a'.eval (.tmp 31) = .slice (some ⟨g2, off2, none⟩) T.len tc from (VAL.out 8 (by omega) (DEP.out _ rfl ⟨8, Ground.data⟩ (by simp) rfl)).trans HFV.out.2.2.2.2.2.2.2.2.1)
        have h32 := eval_getD (show a'.eval (.tmp 32) = .int .i64 (j : Int) from (VAL.out 9 (by omega) (DEP.out _ rfl ⟨9, Ground.data⟩ (by simp) rfl)).trans HFV.out.2.2.2.2.2.2.2.2.2.1)
        obtain ⟨k3, t0, e0, e1, e2, e3, ro⟩ := HCE.out v HSS.out
        go_simp
        exact PUT.out 10 (by omega) v (Below.refl _ _) _ HFV.out.2.2.2.2.2.2.2.2.2.2.1.symm
      · refine wpOp_want rfl rfl rfl (show a'.eval (.tmp 29) = .bool true from (VAL.out 6 (by omega) (DEP.out _ rfl ⟨6, Ground.guard⟩ (by simp) rfl)).trans HFV.out.2.2.2.2.2.2.1) ?_
        have h33 := eval_getD (show a'.eval (.tmp 33) = .pointer (some ⟨g2, off2 + j, none⟩) from (VAL.out 10 (by omega) (DEP.out _ rfl ⟨10, Ground.data⟩ (by simp) rfl)).trans HFV.out.2.2.2.2.2.2.2.2.2.2.1)
        obtain ⟨k3, t0, e0, e1, e2, e3, ro⟩ := HCE.out v HSS.out
        go_simp
        exact PUT.out 11 (by omega) v (Below.refl _ _) _ HFV.out.2.2.2.2.2.2.2.2.2.2.2.1.symm
      · refine wpOp_want rfl rfl rfl (show a'.eval (.tmp 29) = .bool true from (VAL.out 6 (by omega) (DEP.out _ rfl ⟨6, Ground.guard⟩ (by simp) rfl)).trans HFV.out.2.2.2.2.2.2.1) ?_
        obtain ⟨k3, t0, e0, e1, e2, e3, ro⟩ := HCE.out v HSS.out
        go_simp
        exact PUT.out 12 (by omega) v (Below.refl _ _) _ HFV.out.2.2.2.2.2.2.2.2.2.2.2.2.1.symm
      · refine wpOp_want rfl rfl rfl (show a'.eval (.tmp 29) = .bool true from (VAL.out 6 (by omega) (DEP.out _ rfl ⟨6, Ground.guard⟩ (by simp) rfl)).trans HFV.out.2.2.2.2.2.2.1) ?_
        have h35 := eval_getD (show a'.eval (.tmp 35) = .pointer (some ⟨w.heap.size, 3, none⟩) from (VAL.out 12 (by omega) (DEP.out _ rfl ⟨12, Ground.data⟩ (by simp) rfl)).trans HFV.out.2.2.2.2.2.2.2.2.2.2.2.2.1)
        obtain ⟨k3, t0, e0, e1, e2, e3, ro⟩ := HCE.out v HSS.out
        go_simp
        exact PUT.out 13 (by omega) v (Below.refl _ _) _ HFV.out.2.2.2.2.2.2.2.2.2.2.2.2.2.1.symm
      · refine wpOp_want rfl rfl rfl (show a'.eval (.tmp 29) = .bool true from (VAL.out 6 (by omega) (DEP.out _ rfl ⟨6, Ground.guard⟩ (by simp) rfl)).trans HFV.out.2.2.2.2.2.2.1) ?_
        obtain ⟨k3, t0, e0, e1, e2, e3, ro⟩ := HCE.out v HSS.out
        go_simp
        exact PUT.out 14 (by omega) v (Below.refl _ _) _ HFV.out.2.2.2.2.2.2.2.2.2.2.2.2.2.2.1.symm
      · refine wpOp_want rfl rfl rfl (show a'.eval (.tmp 29) = .bool true from (VAL.out 6 (by omega) (DEP.out _ rfl ⟨6, Ground.guard⟩ (by simp) rfl)).trans HFV.out.2.2.2.2.2.2.1) ?_
        have h36 := eval_getD (show a'.eval (.tmp 36) = .slice (some ⟨g, off, none⟩) T.len cap from (VAL.out 13 (by omega) (DEP.out _ rfl ⟨13, Ground.data⟩ (by simp) rfl)).trans HFV.out.2.2.2.2.2.2.2.2.2.2.2.2.2.1)
        have h37 := eval_getD (show a'.eval (.tmp 37) = .int .i64 (j : Int) from (VAL.out 14 (by omega) (DEP.out _ rfl ⟨14, Ground.data⟩ (by simp) rfl)).trans HFV.out.2.2.2.2.2.2.2.2.2.2.2.2.2.2.1)
        obtain ⟨k3, t0, e0, e1, e2, e3, ro⟩ := HCE.out v HSS.out
        go_simp
        exact PUT.out 15 (by omega) v (Below.refl _ _) _ HFV.out.2.2.2.2.2.2.2.2.2.2.2.2.2.2.2.1.symm
      · refine wpOp_want rfl rfl rfl (show a'.eval (.tmp 29) = .bool true from (VAL.out 6 (by omega) (DEP.out _ rfl ⟨6, Ground.guard⟩ (by simp) rfl)).trans HFV.out.2.2.2.2.2.2.1) ?_
        have h38 := eval_getD (show a'.eval (.tmp 38) = .pointer (some ⟨g, off + j * 4, none⟩) from (VAL.out 15 (by omega) (DEP.out _ rfl ⟨15, Ground.data⟩ (by simp) rfl)).trans HFV.out.2.2.2.2.2.2.2.2.2.2.2.2.2.2.2.1)
        obtain ⟨k3, t0, e0, e1, e2, e3, ro⟩ := HCE.out v HSS.out
        go_simp
        exact PUT.out 16 (by omega) v (Below.refl _ _) _ HFV.out.2.2.2.2.2.2.2.2.2.2.2.2.2.2.2.2.1.symm
      · refine wpOp_want rfl rfl rfl (show a'.eval (.tmp 29) = .bool true from (VAL.out 6 (by omega) (DEP.out _ rfl ⟨6, Ground.guard⟩ (by simp) rfl)).trans HFV.out.2.2.2.2.2.2.1) ?_
        have h39 := eval_getD (show a'.eval (.tmp 39) = .agg #[.int .i64 (T.kids j).kind, .int .i64 (T.kids j).num, .string (T.kids j).name, .slice xa (T.kids j).len xc] from (VAL.out 16 (by omega) (DEP.out _ rfl ⟨16, Ground.data⟩ (by simp) rfl)).trans HFV.out.2.2.2.2.2.2.2.2.2.2.2.2.2.2.2.2.1)
        obtain ⟨k3, t0, e0, e1, e2, e3, ro⟩ := HCE.out v HSS.out
        go_simp
        refine (HSZ.out _ _ hi (by have := HSS.out.size; omega) ro).mono ?_
        rintro e v2 ⟨rfl, hb⟩
        exact PUT.out 17 (by omega) v2 hb _ HFV.out.2.2.2.2.2.2.2.2.2.2.2.2.2.2.2.2.2.1.symm
      · refine wpOp_want rfl rfl rfl (show a'.eval (.tmp 29) = .bool true from (VAL.out 6 (by omega) (DEP.out _ rfl ⟨6, Ground.guard⟩ (by simp) rfl)).trans HFV.out.2.2.2.2.2.2.1) ?_
        have h34 := eval_getD (show a'.eval (.tmp 34) = .int .i64 (kj : Int) from (VAL.out 11 (by omega) (DEP.out _ rfl ⟨11, Ground.data⟩ (by simp) rfl)).trans HFV.out.2.2.2.2.2.2.2.2.2.2.2.1)
        have h40 := eval_getD (show a'.eval (.tmp 40) = .int .i64 ((T.kids j).size : Int) from (VAL.out 17 (by omega) (DEP.out _ rfl ⟨17, Ground.data⟩ (by simp) rfl)).trans HFV.out.2.2.2.2.2.2.2.2.2.2.2.2.2.2.2.2.2.1)
        obtain ⟨k3, t0, e0, e1, e2, e3, ro⟩ := HCE.out v HSS.out
        go_simp
        exact PUT.out 18 (by omega) v (Below.refl _ _) _ HFV.out.2.2.2.2.2.2.2.2.2.2.2.2.2.2.2.2.2.2.1.symm
      · refine wpOp_want rfl rfl rfl (show a'.eval (.tmp 29) = .bool true from (VAL.out 6 (by omega) (DEP.out _ rfl ⟨6, Ground.guard⟩ (by simp) rfl)).trans HFV.out.2.2.2.2.2.2.1) ?_
        have h30 := eval_getD (show a'.eval (.tmp 30) = .int .i64 (p : Int) from (VAL.out 7 (by omega) (DEP.out _ rfl ⟨7, Ground.data⟩ (by simp) rfl)).trans HFV.out.2.2.2.2.2.2.2.1)
        have h41 := eval_getD (show a'.eval (.tmp 41) = .int .i64 ((kj : Int) + ((T.kids j).size : Int)) from (VAL.out 18 (by omega) (DEP.out _ rfl ⟨18, Ground.data⟩ (by simp) rfl)).trans HFV.out.2.2.2.2.2.2.2.2.2.2.2.2.2.2.2.2.2.2.1)
        obtain ⟨k3, t0, e0, e1, e2, e3, ro⟩ := HCE.out v HSS.out
        go_simp
        rw [← HBT'.out]
        exact PUT.out 19 (by omega) v (Below.refl _ _) _ HFV.out.2.2.2.2.2.2.2.2.2.2.2.2.2.2.2.2.2.2.2.1.symm
      · refine wpOp_of rfl rfl ?_
        have h29 := eval_getD (show a'.eval (.tmp 29) = .bool true from (VAL.out 6 (by omega) (DEP.out _ rfl ⟨6, Ground.data⟩ (by simp) rfl)).trans HFV.out.2.2.2.2.2.2.1)
        have h42 := eval_getD (show a'.eval (.tmp 42) = .bool bt from (VAL.out 19 (by omega) (DEP.out _ rfl ⟨19, Ground.data⟩ (by simp) rfl)).trans HFV.out.2.2.2.2.2.2.2.2.2.2.2.2.2.2.2.2.2.2.2.1)
        obtain ⟨k3, t0, e0, e1, e2, e3, ro⟩ := HCE.out v HSS.out
        go_simp
        exact PUT.out 20 (by omega) v (Below.refl _ _) _ HFV.out.2.2.2.2.2.2.2.2.2.2.2.2.2.2.2.2.2.2.2.2.symm
    · intro a' v hsz hdf hkeep hS0 hvals
      obtain ⟨listed, hls, hbv, hall⟩ := hS0
      rw [act_puts (n := 21) hsz hdf hkeep]
      have hff : ∀ i, i < 21 → a'.eval (.tmp (23 + i)) = fV i := fun i hi => hvals i hi hi
      generalize hgf : (fun i => a'.eval (.tmp (23 + i))) = ff
      have hff' : ∀ i, i < 21 → ff i = fV i := fun i hi => by rw [← hgf]; exact hff i hi
      have zv0 : ff 0 = .int .i64 (p : Int) := (hff' 0 (by decide)).trans HFV.out.1
      have zv1 : ff 1 = .slice (some ⟨g2, off2, none⟩) T.len tc := (hff' 1 (by decide)).trans HFV.out.2.1
      have zv2 : ff 2 = .int .i64 (j : Int) := (hff' 2 (by decide)).trans HFV.out.2.2.1
      have zv3 : ff 3 = .pointer (some ⟨g2, off2 + j, none⟩) := (hff' 3 (by decide)).trans HFV.out.2.2.2.1
      have zv4 : ff 4 = .int .i64 (kj : Int) := (hff' 4 (by decide)).trans HFV.out.2.2.2.2.1
      have zv5 : ff 5 = .bool true := (hff' 5 (by decide)).trans HFV.out.2.2.2.2.2.1
      have zv6 : ff 6 = .bool true := (hff' 6 (by decide)).trans HFV.out.2.2.2.2.2.2.1
      have zv7 : ff 7 = .int .i64 (p : Int) := (hff' 7 (by decide)).trans HFV.out.2.2.2.2.2.2.2.1
      have zv8 : ff 8 = .slice (some ⟨g2, off2, none⟩) T.len tc := (hff' 8 (by decide)).trans HFV.out.2.2.2.2.2.2.2.2.1
      have zv9 : ff 9 = .int .i64 (j : Int) := (hff' 9 (by decide)).trans HFV.out.2.2.2.2.2.2.2.2.2.1
      have zv10 : ff 10 = .pointer (some ⟨g2, off2 + j, none⟩) := (hff' 10 (by decide)).trans HFV.out.2.2.2.2.2.2.2.2.2.2.1
      have zv11 : ff 11 = .int .i64 (kj : Int) := (hff' 11 (by decide)).trans HFV.out.2.2.2.2.2.2.2.2.2.2.2.1
      have zv12 : ff 12 = .pointer (some ⟨w.heap.size, 3, none⟩) := (hff' 12 (by decide)).trans HFV.out.2.2.2.2.2.2.2.2.2.2.2.2.1
      have zv13 : ff 13 = .slice (some ⟨g, off, none⟩) T.len cap := (hff' 13 (by decide)).trans HFV.out.2.2.2.2.2.2.2.2.2.2.2.2.2.1
      have zv14 : ff 14 = .int .i64 (j : Int) := (hff' 14 (by decide)).trans HFV.out.2.2.2.2.2.2.2.2.2.2.2.2.2.2.1
      have zv15 : ff 15 = .pointer (some ⟨g, off + j * 4, none⟩) := (hff' 15 (by decide)).trans HFV.out.2.2.2.2.2.2.2.2.2.2.2.2.2.2.2.1
      have zv16 : ff 16 = .agg #[.int .i64 (T.kids j).kind, .int .i64 (T.kids j).num, .string (T.kids j).name, .slice xa (T.kids j).len xc] := (hff' 16 (by decide)).trans HFV.out.2.2.2.2.2.2.2.2.2.2.2.2.2.2.2.2.1
      have zv17 : ff 17 = .int .i64 ((T.kids j).size : Int) := (hff' 17 (by decide)).trans HFV.out.2.2.2.2.2.2.2.2.2.2.2.2.2.2.2.2.2.1
      have zv18 : ff 18 = .int .i64 ((kj : Int) + ((T.kids j).size : Int)) := (hff' 18 (by decide)).trans HFV.out.2.2.2.2.2.2.2.2.2.2.2.2.2.2.2.2.2.2.1
      have zv19 : ff 19 = .bool bt := (hff' 19 (by decide)).trans HFV.out.2.2.2.2.2.2.2.2.2.2.2.2.2.2.2.2.2.2.2.1
      have zv20 : ff 20 = .bool bt := (hff' 20 (by decide)).trans HFV.out.2.2.2.2.2.2.2.2.2.2.2.2.2.2.2.2.2.2.2.2
      clear hsz hdf hkeep hvals hall hls hff hgf hff'
      simp only [puts, Act.put, Nat.reduceAdd, List.setIfInBounds_toArray, List.set_cons_succ, List.set_cons_zero, zv0, zv1, zv2, zv3, zv4, zv5, zv6, zv7, zv8, zv9, zv10, zv11, zv12, zv13, zv14, zv15, zv16, zv17, zv18, zv19, zv20]
      clear zv0 zv1 zv2 zv3 zv4 zv5 zv6 zv7 zv8 zv9 zv10 zv11 zv12 zv13 zv14 zv15 zv16 zv17 zv18 zv19 zv20 HFV
      have hzv := hbv.size
      have BV := hid_mk (BB.out.trans (hbv.mono hbz))
      cases bt
      · have hge : ¬ p < kj + (T.kids j).size := by simpa using HBT.out.symm
        go_wp2
        exact ⟨⟨j + 1, by omega, by go_num, by rw [HKS.out]; omega, BV.out⟩, by simp [intOf]; omega⟩
      · have hin : p < kj + (T.kids j).size := by simpa using HBT.out.symm
        obtain ⟨k3, t0, e0, e1, e2, e3, ro⟩ := HCE.out v hbv
        have HRO := hid_mk ro
        have BVW := hid_mk (BW.out.trans (hbv.mono (by omega)))
        obtain ⟨d0, d1, d2, d3, hfv⟩ := HD.out v hbv
        clear ro
        go_wp2_with fail
        go_still_tail 10, hmix
        go_wp2_with fail
        refine (HIJ.out v.drew _ hi kj p HFJ.out (show hi ≤ v.heap.size by omega) (row_drew HRO.out) hkc hkp hin hpm).mono ?_
        rintro e w5 ⟨u5, rfl, hr5, hb5⟩
        obtain ⟨a5, c5, rfl⟩ : ∃ a c, u5 = .slice a (atT (T.kids j) (p - kj)).len c := by obtain ⟨a', c', h, _⟩ := row_eq.1 hr5; exact ⟨a', c', h⟩
        have hz5 : v.heap.size ≤ w5.heap.size := hb5.size
        obtain ⟨c5', f5'⟩ := bcellO hb5
        have q0 := (c5' (w.heap.size + 1) 0 (show w.heap.size + 1 < v.heap.size by omega)).trans d0
        have q1 := (c5' (w.heap.size + 1) 1 (show w.heap.size + 1 < v.heap.size by omega)).trans d1
        have q2 := (c5' (w.heap.size + 1) 2 (show w.heap.size + 1 < v.heap.size by omega)).trans d2
        have q3 := (c5' (w.heap.size + 1) 3 (show w.heap.size + 1 < v.heap.size by omega)).trans d3
        have qf : ∀ o, w5.frozen? ⟨w.heap.size + 1, o, none⟩ = false := fun o => (f5' (w.heap.size + 1) o (show w.heap.size + 1 < v.heap.size by omega)).trans (hfv o)
        have HB5 := hid_mk (BVW.out.drew.trans (hb5.mono (show w.heap.size ≤ v.heap.size by omega)))
        have HAT : Hid (atT T (p - at') = atT (T.kids j) (p - kj)) := by
          have hk := kidAt_add T at' j
          rw [HKJ.out] at hk
          rw [Hid, at_kid T hlt (q := p - at') (by omega) (by omega)]
          congr 1
          omega
        have HR5 := hid_mk hr5
        generalize atT (T.kids j) (p - kj) = R at *
        clear d0 d1 d2 d3 hfv c5' f5' hb5 hr5 k3 t0 e0 e1 e2 e3
        obtain ⟨p0, p1, p2, p3, _, po, ps, pf⟩ := store4C w5 (w.heap.size + 1) (.int .i64 R.kind) (.int .i64 R.num) (.string R.name) (.slice a5 R.len c5) ⟨_, q0⟩ ⟨_, q1⟩ ⟨_, q2⟩ ⟨_, q3⟩
        have HBX : Hid (Below w.heap.size w ((((w5.setCell ⟨w.heap.size + 1, 0, none⟩ (.int .i64 R.kind)).setCell ⟨w.heap.size + 1, 1, none⟩ (.int .i64 R.num)).setCell ⟨w.heap.size + 1, 2, none⟩ (.string R.name)).setCell ⟨w.heap.size + 1, 3, none⟩ (.slice a5 R.len c5))) :=
          (((HB5.out.setCell (p := ⟨w.heap.size + 1, 0, none⟩) (Nat.le_succ _) _).setCell (p := ⟨w.heap.size + 1, 1, none⟩) (Nat.le_succ _) _).setCell (p := ⟨w.heap.size + 1, 2, none⟩) (Nat.le_succ _) _).setCell (p := ⟨w.heap.size + 1, 3, none⟩) (Nat.le_succ _) _
        have HRX : Hid (Row 0 hi ((((w5.setCell ⟨w.heap.size + 1, 0, none⟩ (.int .i64 R.kind)).setCell ⟨w.heap.size + 1, 1, none⟩ (.int .i64 R.num)).setCell ⟨w.heap.size + 1, 2, none⟩ (.string R.name)).setCell ⟨w.heap.size + 1, 3, none⟩ (.slice a5 R.len c5)) R (.slice a5 R.len c5)) :=
          row_keep (Nat.le_refl _) (Nat.le_refl _) (fun b o _ b2 => World.cell?_of_block (a := ⟨b, o, none⟩) (po b (by omega))) HR5.out
        clear po ps pf
        go_wp2
        exact bodyPost_ret (v := .agg #[.int .i64 R.kind, .int .i64 R.num, .string R.name, .slice a5 R.len c5]) (by simp [results, Tryd.results31, go_sem, p0, p1, p2, p3]) rfl ⟨.slice a5 R.len c5, by rw [HAT.out], by rw [HAT.out]; exact HRX.out, HBX.out⟩

theorem get_any (T : Nd) : GtC T := by
  induction T with
  | nil => exact get_of _ fun i hi => absurd hi (Nat.not_lt_zero i)
  | mk k n s len kids ih => exact get_of _ fun i _ => ih i
end Go.Proofs.YtdcpmkhebfcfgaaDoor
namespace Go.Proofs.YtdcpmkhebfcfgaaDoor
open Go.RowKit

def naT (T : Nd) (a : Int) : Nd := if treeB T = true then (if 0 ≤ a ∧ a < (T.size : Int) then atT T a.toNat else .nil) else .nil
def naC (T : Nd) (a : Int) : Int := if treeB T = true then (if 0 ≤ a ∧ a < (T.size : Int) then 0 else 11) else 1
theorem na_sub (T : Nd) (a : Int) : (naT T a).cost ≤ T.cost ∧ (naT T a).size ≤ T.size ∧ (T.Fine → (naT T a).Fine) := by
  have hn : (Nd.nil).cost ≤ T.cost ∧ (Nd.nil).size ≤ T.size ∧ (T.Fine → (Nd.nil).Fine) := ⟨Nat.zero_le _, size_pos T, fun _ => trivial⟩
  unfold naT
  split
  · split
    · exact at_sub T (by omega)
    · exact hn
  · exact hn

set_option maxHeartbeats 4000000 in
theorem spec_nodeat (T : Nd) (a : Int) (w : World) (v : Value) (hi : Nat) (hf : T.Fine) (hhi : hi ≤ w.heap.size) (hr : Row 0 hi w T v) (hc : T.cost ≤ 1048576) (ha : -9223372036854775808 ≤ a ∧ a ≤ 9223372036854775807) :
    Calls Tryd.prog 13 #[T.val v, .int .i64 a] w fun e w' => ∃ u, e = .returned (.tuple #[(naT T a).val u, .int .i64 (naC T a)]) ∧ Tr w' (naT T a) w.heap.size w'.heap.size u ∧ Below w.heap.size w w' := by
  obtain ⟨p, cu, rfl, -, -⟩ := row_eq.1 hr
  have HT := hid_mk (fun W hb => spec_tree T W (.slice p T.len cu) hi hf (Nat.le_trans hhi (Below.size hb)) (row_below hb hhi hr))
  have HS := hid_mk (fun W hb => l02size T W (.slice p T.len cu) hi hf (Nat.le_trans hhi (Below.size hb)) (row_below hb hhi hr) hc)
  have HG := hid_mk (fun W (q : Nat) hb (hq : q < T.size) => show Calls Tryd.prog 31 #[T.val (.slice p T.len cu), .int .i64 0, .int .i64 q] W _ from get_any T W (.slice p T.len cu) hi 0 q hf (Nat.le_trans hhi (Below.size hb)) (row_below hb hhi hr) hc (Nat.zero_le _) (by omega) (by have := T.size_cost; omega))
  have HSUB := hid_mk (fun q (hq : q < T.size) => at_sub T hq)
  have HF := hid_mk hf
  have hsc := T.size_cost
  unfold Nd.val at HT HS HG
  clear hr hf
  generalize hW0 : (w.alloc (.cells #[.int .i64 T.kind, .int .i64 T.num, .string T.name, .slice p T.len cu] 29)).alloc (.cells #[.int .i64 0, .int .i64 0, .string ⟨#[]⟩, .slice none 0 0] 29) = W0
  have hb0 : Hid (Below w.heap.size w W0) := by rw [← hW0]; exact ((Below.refl _ _).alloc (Nat.le_refl _) _).alloc (by simp) _
  have hz0' : W0.heap.size = w.heap.size + 1 + 1 := by rw [← hW0]; simp
  have HC0 : Hid ((W0.cell? ⟨w.heap.size, 0, none⟩ = some (.int .i64 T.kind) ∧ W0.cell? ⟨w.heap.size, 1, none⟩ = some (.int .i64 T.num) ∧ W0.cell? ⟨w.heap.size, 2, none⟩ = some (.string T.name) ∧ W0.cell? ⟨w.heap.size, 3, none⟩ = some (.slice p T.len cu)) ∧
      (W0.cell? ⟨w.heap.size + 1, 0, none⟩ = some (.int .i64 0) ∧ W0.cell? ⟨w.heap.size + 1, 1, none⟩ = some (.int .i64 0) ∧ W0.cell? ⟨w.heap.size + 1, 2, none⟩ = some (.string ⟨#[]⟩) ∧ W0.cell? ⟨w.heap.size + 1, 3, none⟩ = some (.slice none 0 0)) ∧ ∀ o, W0.frozen? ⟨w.heap.size + 1, o, none⟩ = false) := by
    rw [← hW0]; unfold Hid; simp [go_sem]
  have HW0 := hid_mk hW0
  have HZ0 := hid_mk hz0'
  clear hW0 hz0'
  unfold naT naC
  cases htb : treeB T with
  | false =>
    rw [htb] at HT
    simp only [Bool.false_eq_true, if_false]
    unfold Nd.val
    go_enter Tryd.func13, Tryd.ntmps13
    go_wp2_with fail
    rw [HW0.out]
    refine (HT.out W0 hb0.out).mono ?_
    rintro e w1 ⟨rfl, hb1⟩
    have hzz := HZ0.out
    obtain ⟨c1, f1⟩ := bcellO hb1
    obtain ⟨_, ⟨d0, d1, d2, d3⟩, hfz⟩ := HC0.out
    rw [← c1 _ _ (by omega)] at d0 d1 d2 d3
    have q0 := fun o => (f1 (w.heap.size + 1) o (by omega)).trans (hfz o)
    have HB1 := hid_mk (hb0.out.trans (hb1.mono (by omega)))
    clear c1 f1 hfz hb1
    obtain ⟨p0, p1, p2, p3, _, po, ps, pf⟩ := store4C w1 (w.heap.size + 1) (.int .i64 0) (.int .i64 0) (.string ⟨#[]⟩) (.slice none 0 0) ⟨_, d0⟩ ⟨_, d1⟩ ⟨_, d2⟩ ⟨_, d3⟩
    have HBX : Hid (Below w.heap.size w ((((w1.setCell ⟨w.heap.size + 1, 0, none⟩ (.int .i64 0)).setCell ⟨w.heap.size + 1, 1, none⟩ (.int .i64 0)).setCell ⟨w.heap.size + 1, 2, none⟩ (.string ⟨#[]⟩)).setCell ⟨w.heap.size + 1, 3, none⟩ (.slice none 0 0))) :=
      (((HB1.out.setCell (p := ⟨w.heap.size + 1, 0, none⟩) (Nat.le_succ _) _).setCell (p := ⟨w.heap.size + 1, 1, none⟩) (Nat.le_succ _) _).setCell (p := ⟨w.heap.size + 1, 2, none⟩) (Nat.le_succ _) _).setCell (p := ⟨w.heap.size + 1, 3, none⟩) (Nat.le_succ _) _
    clear po ps pf
    go_wp2
    exact bodyPost_ret (v := .tuple #[.agg #[.int .i64 0, .int .i64 0, .string ⟨#[]⟩, .slice none 0 0], .int .i64 1]) (by simp [results, Tryd.results13, go_sem, p0, p1, p2, p3]) rfl ⟨.slice none 0 0, rfl, tr_none _ _ _, HBX.out⟩
  | true =>
    rw [htb] at HT
    simp only [if_true]
    by_cases hin : 0 ≤ a ∧ a < (T.size : Int)
    · simp only [hin, and_self, if_true]
      obtain ⟨q, rfl⟩ : ∃ q : Nat, a = (q : Int) := ⟨a.toNat, by omega⟩
      have hq : q < T.size := by omega
      have hq1 : ¬ ((q : Int) < 0) := by omega
      have hq2 : ¬ ((T.size : Int) ≤ (q : Int)) := by omega
      rw [Int.toNat_natCast]
      obtain ⟨s1, s2, s3⟩ := HSUB.out q hq
      have HFX := hid_mk (s3 HF.out)
      have HGQ := hid_mk (fun W hb => HG.out W q hb hq)
      simp only [Nat.sub_zero] at HGQ
      clear hin s3
      generalize atT T q = X at *
      unfold Nd.val
      go_enter Tryd.func13, Tryd.ntmps13
      go_wp2_with fail
      rw [HW0.out]
      refine (HT.out W0 hb0.out).mono ?_
      rintro e w1 ⟨rfl, hb1⟩
      have hzz := HZ0.out
      have hz1 := hb1.size
      obtain ⟨⟨b0, b1, b2, b3⟩, ⟨d0, d1, d2, d3⟩, hfz⟩ := HC0.out
      obtain ⟨c1, f1⟩ := bcellO hb1
      rw [← c1 _ _ (by omega)] at b0 b1 b2 b3 d0 d1 d2 d3
      have fz1 := fun o => (f1 (w.heap.size + 1) o (by omega)).trans (hfz o)
      have HB1 := hid_mk (hb0.out.trans (hb1.mono (by omega)))
      clear c1 f1 hfz hb1 HC0
      go_wp2_with fail
      refine (HS.out w1 HB1.out).mono ?_
      rintro e w2 ⟨rfl, hb2⟩
      have hz2 := hb2.size
      obtain ⟨c1, f1⟩ := bcellO hb2
      rw [← c1 _ _ (by omega)] at b0 b1 b2 b3 d0 d1 d2 d3
      have fz2 := fun o => (f1 (w.heap.size + 1) o (by omega)).trans (fz1 o)
      have HB2 := hid_mk (HB1.out.trans (hb2.mono (by omega)))
      clear c1 f1 fz1 hb2
      go_wp2_with fail
      refine (HGQ.out w2 HB2.out).mono ?_
      rintro e w3 ⟨u3, rfl, hr3, hb3⟩
      obtain ⟨a3, c3, rfl⟩ : ∃ a c, u3 = .slice a X.len c := by obtain ⟨a', c', h, _⟩ := row_eq.1 hr3; exact ⟨a', c', h⟩
      have hz3 := hb3.size
      obtain ⟨c1, f1⟩ := bcellO hb3
      rw [← c1 _ _ (by omega)] at d0 d1 d2 d3
      have fz3 := fun o => (f1 (w.heap.size + 1) o (by omega)).trans (fz2 o)
      have HB3 := hid_mk (HB2.out.trans (hb3.mono (by omega)))
      have HR3 := hid_mk hr3
      clear c1 f1 fz2 hb3 b0 b1 b2 b3 hr3
      have HCP := hid_mk (l07copy_any X w3 (.slice a3 X.len c3) hi HFX.out (by omega) HR3.out (by omega))
      unfold Nd.val at HCP
      go_wp2_with fail
      refine HCP.out.mono ?_
      rintro e w4 ⟨u4, rfl, ht4, hb4⟩
      obtain ⟨a4, c4, rfl⟩ := tr_shape ht4
      have hz4 := hb4.size
      obtain ⟨c1, f1⟩ := bcellO hb4
      rw [← c1 _ _ (by omega)] at d0 d1 d2 d3
      have fz4 := fun o => (f1 (w.heap.size + 1) o (by omega)).trans (fz3 o)
      have HB4 := hid_mk (HB3.out.trans (hb4.mono (by omega)))
      have HT4 := hid_mk ht4
      clear c1 f1 fz3 hb4 ht4
      obtain ⟨p0, p1, p2, p3, _, po, ps, pf⟩ := store4C w4 (w.heap.size + 1) (.int .i64 X.kind) (.int .i64 X.num) (.string X.name) (.slice a4 X.len c4) ⟨_, d0⟩ ⟨_, d1⟩ ⟨_, d2⟩ ⟨_, d3⟩
      have HBX : Hid (Below w.heap.size w ((((w4.setCell ⟨w.heap.size + 1, 0, none⟩ (.int .i64 X.kind)).setCell ⟨w.heap.size + 1, 1, none⟩ (.int .i64 X.num)).setCell ⟨w.heap.size + 1, 2, none⟩ (.string X.name)).setCell ⟨w.heap.size + 1, 3, none⟩ (.slice a4 X.len c4))) :=
        (((HB4.out.setCell (p := ⟨w.heap.size + 1, 0, none⟩) (Nat.le_succ _) _).setCell (p := ⟨w.heap.size + 1, 1, none⟩) (Nat.le_succ _) _).setCell (p := ⟨w.heap.size + 1, 2, none⟩) (Nat.le_succ _) _).setCell (p := ⟨w.heap.size + 1, 3, none⟩) (Nat.le_succ _) _
      have HTX : Hid (Tr ((((w4.setCell ⟨w.heap.size + 1, 0, none⟩ (.int .i64 X.kind)).setCell ⟨w.heap.size + 1, 1, none⟩ (.int .i64 X.num)).setCell ⟨w.heap.size + 1, 2, none⟩ (.string X.name)).setCell ⟨w.heap.size + 1, 3, none⟩ (.slice a4 X.len c4)) X w.heap.size w4.heap.size (.slice a4 X.len c4)) :=
        tr_wide (tr_keep (fun k k1 k2 => po k (by omega)) HT4.out) (by omega) (Nat.le_refl _)
      have HPS := hid_mk ps
      clear po ps pf
      go_wp2
      exact bodyPost_ret (v := .tuple #[.agg #[.int .i64 X.kind, .int .i64 X.num, .string X.name, .slice a4 X.len c4], .int .i64 0]) (by simp [results, Tryd.results13, go_sem, p0, p1, p2, p3]) rfl ⟨.slice a4 X.len c4, rfl, by rw [HPS.out]; exact HTX.out, HBX.out⟩
    · simp only [hin, if_false]
      unfold Nd.val
      by_cases hneg : a < 0
      · go_enter Tryd.func13, Tryd.ntmps13
        go_wp2_with fail
        rw [HW0.out]
        refine (HT.out W0 hb0.out).mono ?_
        rintro e w1 ⟨rfl, hb1⟩
        have hzz := HZ0.out
        obtain ⟨c1, f1⟩ := bcellO hb1
        obtain ⟨_, ⟨d0, d1, d2, d3⟩, hfz⟩ := HC0.out
        rw [← c1 _ _ (by omega)] at d0 d1 d2 d3
        have q0 := fun o => (f1 (w.heap.size + 1) o (by omega)).trans (hfz o)
        have HB1 := hid_mk (hb0.out.trans (hb1.mono (by omega)))
        clear c1 f1 hfz hb1
        obtain ⟨p0, p1, p2, p3, _, po, ps, pf⟩ := store4C w1 (w.heap.size + 1) (.int .i64 0) (.int .i64 0) (.string ⟨#[]⟩) (.slice none 0 0) ⟨_, d0⟩ ⟨_, d1⟩ ⟨_, d2⟩ ⟨_, d3⟩
        have HBX : Hid (Below w.heap.size w ((((w1.setCell ⟨w.heap.size + 1, 0, none⟩ (.int .i64 0)).setCell ⟨w.heap.size + 1, 1, none⟩ (.int .i64 0)).setCell ⟨w.heap.size + 1, 2, none⟩ (.string ⟨#[]⟩)).setCell ⟨w.heap.size + 1, 3, none⟩ (.slice none 0 0))) :=
          (((HB1.out.setCell (p := ⟨w.heap.size + 1, 0, none⟩) (Nat.le_succ _) _).setCell (p := ⟨w.heap.size + 1, 1, none⟩) (Nat.le_succ _) _).setCell (p := ⟨w.heap.size + 1, 2, none⟩) (Nat.le_succ _) _).setCell (p := ⟨w.heap.size + 1, 3, none⟩) (Nat.le_succ _) _
        clear po ps pf
        go_wp2
        exact bodyPost_ret (v := .tuple #[.agg #[.int .i64 0, .int .i64 0, .string ⟨#[]⟩, .slice none 0 0], .int .i64 11]) (by simp [results, Tryd.results13, go_sem, p0, p1, p2, p3]) rfl ⟨.slice none 0 0, rfl, tr_none _ _ _, HBX.out⟩
      · have hge : (T.size : Int) ≤ a := by omega
        go_enter Tryd.func13, Tryd.ntmps13
        go_wp2_with fail
        rw [HW0.out]
        refine (HT.out W0 hb0.out).mono ?_
        rintro e w0' ⟨rfl, hb0'⟩
        have hzz := HZ0.out
        have hz1 := hb0'.size
        obtain ⟨c1, f1⟩ := bcellO hb0'
        obtain ⟨⟨b0, b1, b2, b3⟩, ⟨d0, d1, d2, d3⟩, hfz⟩ := HC0.out
        rw [← c1 _ _ (by omega)] at b0 b1 b2 b3 d0 d1 d2 d3
        have fz1 := fun o => (f1 (w.heap.size + 1) o (by omega)).trans (hfz o)
        have HB0' := hid_mk (hb0.out.trans (hb0'.mono (by omega)))
        clear c1 f1 hfz hb0'
        go_wp2_with fail
        refine (HS.out w0' HB0'.out).mono ?_
        rintro e w1 ⟨rfl, hb1⟩
        obtain ⟨c1, f1⟩ := bcellO hb1
        rw [← c1 _ _ (by omega)] at d0 d1 d2 d3
        have q0 := fun o => (f1 (w.heap.size + 1) o (by omega)).trans (fz1 o)
        have HB1 := hid_mk (HB0'.out.trans (hb1.mono (by omega)))
        clear c1 f1 hb1 b0 b1 b2 b3 fz1
        obtain ⟨p0, p1, p2, p3, _, po, ps, pf⟩ := store4C w1 (w.heap.size + 1) (.int .i64 0) (.int .i64 0) (.string ⟨#[]⟩) (.slice none 0 0) ⟨_, d0⟩ ⟨_, d1⟩ ⟨_, d2⟩ ⟨_, d3⟩
        have HBX : Hid (Below w.heap.size w ((((w1.setCell ⟨w.heap.size + 1, 0, none⟩ (.int .i64 0)).setCell ⟨w.heap.size + 1, 1, none⟩ (.int .i64 0)).setCell ⟨w.heap.size + 1, 2, none⟩ (.string ⟨#[]⟩)).setCell ⟨w.heap.size + 1, 3, none⟩ (.slice none 0 0))) :=
          (((HB1.out.setCell (p := ⟨w.heap.size + 1, 0, none⟩) (Nat.le_succ _) _).setCell (p := ⟨w.heap.size + 1, 1, none⟩) (Nat.le_succ _) _).setCell (p := ⟨w.heap.size + 1, 2, none⟩) (Nat.le_succ _) _).setCell (p := ⟨w.heap.size + 1, 3, none⟩) (Nat.le_succ _) _
        clear po ps pf
        go_wp2
        exact bodyPost_ret (v := .tuple #[.agg #[.int .i64 0, .int .i64 0, .string ⟨#[]⟩, .slice none 0 0], .int .i64 11]) (by simp [results, Tryd.results13, go_sem, p0, p1, p2, p3]) rfl ⟨.slice none 0 0, rfl, tr_none _ _ _, HBX.out⟩
end Go.Proofs.YtdcpmkhebfcfgaaDoor
