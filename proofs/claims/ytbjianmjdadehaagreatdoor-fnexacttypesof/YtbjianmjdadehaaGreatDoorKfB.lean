/- The program's checker: a case. Written by mkci.py. -/
import Derived.Test.YtbjianmjdadehaaGreatDoorKfA
import Derived.Test.YtbjianmjdadehaaGreatDoorKdH
import Derived.Test.YtbjianmjdadehaaGreatDoorKdM
set_option linter.unusedVariables false
namespace Go.Proofs.YtbjianmjdadehaaGreatDoor
open Go.RowKit

set_option maxHeartbeats 4000000 in
set_option maxRecDepth 100000 in
theorem icl_0e (hVar : IVar) {T : Nd} (hnum : T.num = 0) (hl : T.len = 1) (hb : (T.kids 0).kind = 4) (ho : (T.kids 0).sOk = true) (hnm : emptyB T.name = true) (hrec : ∀ U : Nd, U.size < T.size → IStS U) (K : IK) (w0 : World) (O : Nat → Prop) (s : CS) (cx : Cx) (sels : Nat) (w : World) (v : Value) (p : Nat) (hcx : cx.outs = cx.loops + sels) (hS : IS K w0 O (take0 s) cx.ret cx.loops sels w) (hE : IEnv K w) (hN : INd K w T v) (hfit : s.2.length + T.size ≤ K.N) (hsne : s.1 ≠ []) (hd : s.1.length + 1 ≤ s.2.length) (hvl : varLen s.1 ≤ s.2.length) (hlo1 : cx.loops + T.size ≤ 1099511627776 + 1) (hou1 : sels + T.size ≤ 1099511627776 + 1) :
    Calls Tryz.prog 125 #[.pointer (some ⟨K.cb, 0, none⟩), T.val v, .int .i64 p] w (Ans K w (within [] ((mnT K.F (T.kids 0)).sts cx) (take0 s)) fun s1 e w1 => e = .returned (.tuple #[]) ∧ IS K w0 O s1 cx.ret cx.loops sels w1) := by
  obtain ⟨g, off, cap, hv, hgl, hcap, hkid⟩ := ck_kid hN.row (by omega)
  subst hv
  obtain ⟨u0, hc0, hr0⟩ := hkid 0 (by omega)
  simp only [Nat.zero_mul, Nat.add_zero] at hc0
  obtain ⟨a0, q0, hu0, hcp0, hqq0⟩ := row_eq.1 hr0
  clear hqq0
  subst hu0
  have HC0 := hid_mk hc0
  obtain ⟨O1, hs1, hback1, hbox1, hbl1⟩ := hS.boxed (.cells #[.int .i64 T.kind, .int .i64 T.num, .string T.name, .slice (some ⟨g, off, none⟩) T.len cap] 30)
  have HBX := hid_mk hbox1
  have HBL := hid_mk hbl1
  have HB1 := hid_mk hback1
  have HS1 := hid_mk hs1
  have hlo : K.lo ≤ w.heap.size := by have := hS.lt; have := hS.ok.cl; omega
  have hfew := hS.ok.few
  have HSTS := hid_mk (fun (W : World) (st : CS) (hW : IS K (w.alloc (.cells #[.int .i64 T.kind, .int .i64 T.num, .string T.name, .slice (some ⟨g, off, none⟩) T.len cap] 30)) O1 st cx.ret cx.loops sels W) (hf : st.2.length + (T.kids 0).size ≤ K.N) (hne : st.1 ≠ []) (hd : st.1.length ≤ st.2.length) => ists_of hb (fun j hj => hrec _ (by have := kid_size (T.kids 0) hj; have := kid_size T (i := 0) (by omega); omega)) K _ O1 st cx sels W _ hcx hW (hE.later (hbl1 _ _ _ _ _ hW)) ((hN.kid (by omega) hr0).later (hbl1 _ _ _ _ _ hW)) hf ho hne hd (by have := kid_size T (i := 0) (by omega); omega) (by have := kid_size T (i := 0) (by omega); omega))
  have HNE : Hid (∀ (E : Sc) (X : List Int) s1, (mnT K.F (T.kids 0)).sts cx ([] :: E, X) = .ok s1 → s1.1 ≠ []) := by
    intro E X s1 h e
    have := ((mn_len K.F (T.kids 0)).sts ho hb cx) _ s1 (by simp) h
    rw [e] at this
    have := this.2.1
    simp at this
  have HNMX := hid_mk (name_max hN.fine)
  have HFI : Hid (∀ st : CS, st.1 = s.1 → st.2.length = s.2.length + 1 + 0 → st.2.length + (T.kids 0).size ≤ K.N ∧ st.1 ≠ [] ∧ st.1.length ≤ st.2.length ∧ varLen st.1 + 1 ≤ st.2.length ∧ st.1.length + 1 ≤ st.2.length) := by
    intro st e1 e2
    have := kidAt_le T s.2.length (i := 0) (by omega)
    unfold kidAt at this; simp only [sumTo] at this
    refine ⟨by omega, by rw [e1]; exact hsne, by rw [e1]; omega, by rw [e1]; omega, by rw [e1]; omega⟩
  obtain ⟨hi1, hi2, hi3, hi4, hi5⟩ := HFI.out (take0 s) rfl (by rw [take0_len])
  unfold Nd.val at *
  have hgw : g < w.heap.size := by omega
  have hgw1 : g < w.heap.size + 1 := by omega
  have hgw2 : g < w.heap.size + 1 + 1 := by omega
  have hgn0 : ¬ g = w.heap.size := by omega
  have hgn1 : ¬ g = w.heap.size + 1 := by omega
  have hgn2 : ¬ g = w.heap.size + 1 + 1 := by omega
  obtain ⟨c00, c01, c02, c03⟩ := HC0.out w (Below.refl _ _)
  have hpos : 0 < T.len := by omega
  have hL1 : (T.len : Int) - 1 = 0 := by omega
  have hmix : Tryz.prog.follows Departure.mixedOrders = true := by kernel_rfl
  obtain ⟨nf1, nf2⟩ : (T.name.toList == []) = true ∧ (T.name.toList != []) = false := by rw [empty_is hnm, ByteArray.toList_eq]; exact ⟨rfl, rfl⟩
  rw [hnum] at *
  clear hS hE hN hs1 hback1 hbox1 hbl1 hkid hc0 hr0 hnum hl hrec hcx hfit hb ho hsne hd hvl hnm
  obtain ⟨hi1, hi2, hi3, hi4, hi5⟩ := (⟨hi1, hi2, hi3, hi4, hi5⟩ : _ ∧ _ ∧ _ ∧ _ ∧ _)
  have HI1 : Hid ((([] : List (ByteArray × Int)) :: (take0 s).1, (take0 s).2).2.length + (T.kids 0).size ≤ K.N) := hi1
  have HI3 := hid_mk hi3
  have HI4 : Hid (varLen ([] :: (take0 s).1) + 1 ≤ (take0 s).2.length) := by unfold Hid; rw [varLen_nil]; exact hi4
  have HI6 : Hid ((([] : List (ByteArray × Int)) :: (take0 s).1, (take0 s).2).1.length ≤ (([] : List (ByteArray × Int)) :: (take0 s).1, (take0 s).2).2.length) := by unfold Hid; simp; omega
  clear hi1 hi2 hi3 hi4 hi5
  unfold within
  cases hM : (mnT K.F (T.kids 0)).sts cx ([] :: (take0 s).1, (take0 s).2) with
  | error pe =>
    have HM := hid_mk hM
    clear hM
    rw [CR.bind_error]
    go_enter Tryz.func125, Tryz.ntmps125
    go_wp2_with (first
      | (go_at_call 79; refine (enter_any HS1.out HI3.out).mono ?_; rintro e x1 ⟨rfl, hx1⟩; obtain ⟨b0, b1, b2, b3⟩ := box_cells (HBX.out _ _ _ _ _ hx1); obtain ⟨c00, c01, c02, c03⟩ := HC0.out _ (HBL.out _ _ _ _ _ hx1); have HX1 := hid_mk hx1; clear hx1)
      | (go_at_call 81; refine (ansE (HSTS.out _ _ HX1.out HI1.out (by simp) HI6.out) HM.out).mono ?_; rintro e x3 ⟨rfl, hb3⟩; skip))
    exact ⟨rfl, rfl, (HBL.out _ _ _ _ _ HX1.out).trans hb3⟩
  | ok s9 =>
    have HM := hid_mk hM
    clear hM
    rw [CR.bind_ok]
    go_enter Tryz.func125, Tryz.ntmps125
    go_wp2_with (first
      | (go_at_call 79; refine (enter_any HS1.out HI3.out).mono ?_; rintro e x1 ⟨rfl, hx1⟩; obtain ⟨b0, b1, b2, b3⟩ := box_cells (HBX.out _ _ _ _ _ hx1); obtain ⟨c00, c01, c02, c03⟩ := HC0.out _ (HBL.out _ _ _ _ _ hx1); have HX1 := hid_mk hx1; clear hx1)
      | (go_at_call 81; refine (ansO (HSTS.out _ _ HX1.out HI1.out (by simp) HI6.out) HM.out).mono ?_; rintro e x3 ⟨rfl, hx3⟩; have HX3 := hid_mk hx3; clear hx3)
      | (go_at_call 82; refine (leaveI_any HX3.out (HNE.out _ _ _ HM.out)).mono ?_; rintro e x4 ⟨rfl, hx4⟩; have HX4 := hid_mk hx4; clear hx4))
    go_end0
    exact ⟨rfl, HB1.out _ _ _ _ _ HX4.out⟩
set_option maxHeartbeats 4000000 in
set_option maxRecDepth 100000 in
theorem icl_0n (hVar : IVar) {T : Nd} (hnum : T.num = 0) (hl : T.len = 1) (hb : (T.kids 0).kind = 4) (ho : (T.kids 0).sOk = true) (hnm : emptyB T.name = false) (hrec : ∀ U : Nd, U.size < T.size → IStS U) (K : IK) (w0 : World) (O : Nat → Prop) (s : CS) (cx : Cx) (sels : Nat) (w : World) (v : Value) (p : Nat) (hcx : cx.outs = cx.loops + sels) (hS : IS K w0 O (take0 s) cx.ret cx.loops sels w) (hE : IEnv K w) (hN : INd K w T v) (hfit : s.2.length + T.size ≤ K.N) (hsne : s.1 ≠ []) (hd : s.1.length + 1 ≤ s.2.length) (hvl : varLen s.1 ≤ s.2.length) (hlo1 : cx.loops + T.size ≤ 1099511627776 + 1) (hou1 : sels + T.size ≤ 1099511627776 + 1) :
    Calls Tryz.prog 125 #[.pointer (some ⟨K.cb, 0, none⟩), T.val v, .int .i64 p] w (Ans K w (within [(T.name, 1)] ((mnT K.F (T.kids 0)).sts cx) (take0 s)) fun s1 e w1 => e = .returned (.tuple #[]) ∧ IS K w0 O s1 cx.ret cx.loops sels w1) := by
  obtain ⟨g, off, cap, hv, hgl, hcap, hkid⟩ := ck_kid hN.row (by omega)
  subst hv
  obtain ⟨u0, hc0, hr0⟩ := hkid 0 (by omega)
  simp only [Nat.zero_mul, Nat.add_zero] at hc0
  obtain ⟨a0, q0, hu0, hcp0, hqq0⟩ := row_eq.1 hr0
  clear hqq0
  subst hu0
  have HC0 := hid_mk hc0
  obtain ⟨O1, hs1, hback1, hbox1, hbl1⟩ := hS.boxed (.cells #[.int .i64 T.kind, .int .i64 T.num, .string T.name, .slice (some ⟨g, off, none⟩) T.len cap] 30)
  have HBX := hid_mk hbox1
  have HBL := hid_mk hbl1
  have HB1 := hid_mk hback1
  have HS1 := hid_mk hs1
  have hlo : K.lo ≤ w.heap.size := by have := hS.lt; have := hS.ok.cl; omega
  have hfew := hS.ok.few
  have HSTS := hid_mk (fun (W : World) (st : CS) (hW : IS K (w.alloc (.cells #[.int .i64 T.kind, .int .i64 T.num, .string T.name, .slice (some ⟨g, off, none⟩) T.len cap] 30)) O1 st cx.ret cx.loops sels W) (hf : st.2.length + (T.kids 0).size ≤ K.N) (hne : st.1 ≠ []) (hd : st.1.length ≤ st.2.length) => ists_of hb (fun j hj => hrec _ (by have := kid_size (T.kids 0) hj; have := kid_size T (i := 0) (by omega); omega)) K _ O1 st cx sels W _ hcx hW (hE.later (hbl1 _ _ _ _ _ hW)) ((hN.kid (by omega) hr0).later (hbl1 _ _ _ _ _ hW)) hf ho hne hd (by have := kid_size T (i := 0) (by omega); omega) (by have := kid_size T (i := 0) (by omega); omega))
  have HNE : Hid (∀ (E : Sc) (X : List Int) s1, (mnT K.F (T.kids 0)).sts cx ([(T.name, 1)] :: E, X) = .ok s1 → s1.1 ≠ []) := by
    intro E X s1 h e
    have := ((mn_len K.F (T.kids 0)).sts ho hb cx) _ s1 (by simp) h
    rw [e] at this
    have := this.2.1
    simp at this
  have HNMX := hid_mk (name_max hN.fine)
  have HFI : Hid (∀ st : CS, st.1 = s.1 → st.2.length = s.2.length + 1 + 0 → st.2.length + (T.kids 0).size ≤ K.N ∧ st.1 ≠ [] ∧ st.1.length ≤ st.2.length ∧ varLen st.1 + 1 ≤ st.2.length ∧ st.1.length + 1 ≤ st.2.length) := by
    intro st e1 e2
    have := kidAt_le T s.2.length (i := 0) (by omega)
    unfold kidAt at this; simp only [sumTo] at this
    refine ⟨by omega, by rw [e1]; exact hsne, by rw [e1]; omega, by rw [e1]; omega, by rw [e1]; omega⟩
  obtain ⟨hi1, hi2, hi3, hi4, hi5⟩ := HFI.out (take0 s) rfl (by rw [take0_len])
  unfold Nd.val at *
  have hgw : g < w.heap.size := by omega
  have hgw1 : g < w.heap.size + 1 := by omega
  have hgw2 : g < w.heap.size + 1 + 1 := by omega
  have hgn0 : ¬ g = w.heap.size := by omega
  have hgn1 : ¬ g = w.heap.size + 1 := by omega
  have hgn2 : ¬ g = w.heap.size + 1 + 1 := by omega
  obtain ⟨c00, c01, c02, c03⟩ := HC0.out w (Below.refl _ _)
  have hpos : 0 < T.len := by omega
  have hL1 : (T.len : Int) - 1 = 0 := by omega
  have hmix : Tryz.prog.follows Departure.mixedOrders = true := by kernel_rfl
  obtain ⟨nf1, nf2⟩ : (T.name.toList == []) = false ∧ (T.name.toList != []) = true := name_forms hnm
  rw [hnum] at *
  clear hS hE hN hs1 hback1 hbox1 hbl1 hkid hc0 hr0 hnum hl hrec hcx hfit hb ho hsne hd hvl hnm
  obtain ⟨hi1, hi2, hi3, hi4, hi5⟩ := (⟨hi1, hi2, hi3, hi4, hi5⟩ : _ ∧ _ ∧ _ ∧ _ ∧ _)
  have HI1 : Hid ((([(T.name, 1)] : List (ByteArray × Int)) :: (take0 s).1, (take0 s).2).2.length + (T.kids 0).size ≤ K.N) := hi1
  have HI3 := hid_mk hi3
  have HI4 : Hid (varLen ([] :: (take0 s).1) + 1 ≤ (take0 s).2.length) := by unfold Hid; rw [varLen_nil]; exact hi4
  have HI6 : Hid ((([(T.name, 1)] : List (ByteArray × Int)) :: (take0 s).1, (take0 s).2).1.length ≤ (([(T.name, 1)] : List (ByteArray × Int)) :: (take0 s).1, (take0 s).2).2.length) := by unfold Hid; simp; omega
  clear hi1 hi2 hi3 hi4 hi5
  unfold within
  cases hM : (mnT K.F (T.kids 0)).sts cx ([(T.name, 1)] :: (take0 s).1, (take0 s).2) with
  | error pe =>
    have HM := hid_mk hM
    clear hM
    rw [CR.bind_error]
    go_enter Tryz.func125, Tryz.ntmps125
    go_wp2_with (first
      | (go_at_call 79; refine (enter_any HS1.out HI3.out).mono ?_; rintro e x1 ⟨rfl, hx1⟩; obtain ⟨b0, b1, b2, b3⟩ := box_cells (HBX.out _ _ _ _ _ hx1); obtain ⟨c00, c01, c02, c03⟩ := HC0.out _ (HBL.out _ _ _ _ _ hx1); have HX1 := hid_mk hx1; clear hx1)
      | (go_at_call 80; refine (ansO (define_any HX1.out T.name 1 p (by simp) (by decide) HNMX.out HI4.out) rfl).mono ?_; rintro e x2 ⟨rfl, hx2q⟩; have hx2 : IS K _ O1 ([(T.name, 1)] :: (take0 s).1, (take0 s).2) cx.ret cx.loops sels x2 := hx2q; clear hx2q; obtain ⟨b0, b1, b2, b3⟩ := box_cells (HBX.out _ _ _ _ _ hx2); obtain ⟨c00, c01, c02, c03⟩ := HC0.out _ (HBL.out _ _ _ _ _ hx2); have HX2 := hid_mk hx2; clear hx2)
      | (go_at_call 81; refine (ansE (HSTS.out _ _ HX2.out HI1.out (by simp) HI6.out) HM.out).mono ?_; rintro e x3 ⟨rfl, hb3⟩; skip))
    exact ⟨rfl, rfl, (HBL.out _ _ _ _ _ HX2.out).trans hb3⟩
  | ok s9 =>
    have HM := hid_mk hM
    clear hM
    rw [CR.bind_ok]
    go_enter Tryz.func125, Tryz.ntmps125
    go_wp2_with (first
      | (go_at_call 79; refine (enter_any HS1.out HI3.out).mono ?_; rintro e x1 ⟨rfl, hx1⟩; obtain ⟨b0, b1, b2, b3⟩ := box_cells (HBX.out _ _ _ _ _ hx1); obtain ⟨c00, c01, c02, c03⟩ := HC0.out _ (HBL.out _ _ _ _ _ hx1); have HX1 := hid_mk hx1; clear hx1)
      | (go_at_call 80; refine (ansO (define_any HX1.out T.name 1 p (by simp) (by decide) HNMX.out HI4.out) rfl).mono ?_; rintro e x2 ⟨rfl, hx2q⟩; have hx2 : IS K _ O1 ([(T.name, 1)] :: (take0 s).1, (take0 s).2) cx.ret cx.loops sels x2 := hx2q; clear hx2q; obtain ⟨b0, b1, b2, b3⟩ := box_cells (HBX.out _ _ _ _ _ hx2); obtain ⟨c00, c01, c02, c03⟩ := HC0.out _ (HBL.out _ _ _ _ _ hx2); have HX2 := hid_mk hx2; clear hx2)
      | (go_at_call 81; refine (ansO (HSTS.out _ _ HX2.out HI1.out (by simp) HI6.out) HM.out).mono ?_; rintro e x3 ⟨rfl, hx3⟩; have HX3 := hid_mk hx3; clear hx3)
      | (go_at_call 82; refine (leaveI_any HX3.out (HNE.out _ _ _ HM.out)).mono ?_; rintro e x4 ⟨rfl, hx4⟩; have HX4 := hid_mk hx4; clear hx4))
    go_end0
    exact ⟨rfl, HB1.out _ _ _ _ _ HX4.out⟩
set_option maxHeartbeats 4000000 in
set_option maxRecDepth 100000 in
theorem icl_1e (hVar : IVar) {T : Nd} (hnum : T.num = 1) (hl : T.len = 2) (he0 : (T.kids 0).eOk = true) (hb : (T.kids 1).kind = 4) (ho : (T.kids 1).sOk = true) (hnm : emptyB T.name = true) (hrec : ∀ U : Nd, U.size < T.size → IStS U) (K : IK) (w0 : World) (O : Nat → Prop) (s : CS) (cx : Cx) (sels : Nat) (w : World) (v : Value) (p : Nat) (hcx : cx.outs = cx.loops + sels) (hS : IS K w0 O (take0 s) cx.ret cx.loops sels w) (hE : IEnv K w) (hN : INd K w T v) (hfit : s.2.length + T.size ≤ K.N) (hsne : s.1 ≠ []) (hd : s.1.length + 1 ≤ s.2.length) (hvl : varLen s.1 ≤ s.2.length) (hlo1 : cx.loops + T.size ≤ 1099511627776 + 1) (hou1 : sels + T.size ≤ 1099511627776 + 1) :
    Calls Tryz.prog 125 #[.pointer (some ⟨K.cb, 0, none⟩), T.val v, .int .i64 p] w (Ans K w (CR.bind (wantM (exT K.F (T.kids 0)) 3 (take0 s)) (within [] ((mnT K.F (T.kids 1)).sts cx))) fun s1 e w1 => e = .returned (.tuple #[]) ∧ IS K w0 O s1 cx.ret cx.loops sels w1) := by
  obtain ⟨g, off, cap, hv, hgl, hcap, hkid⟩ := ck_kid hN.row (by omega)
  subst hv
  obtain ⟨u0, hc0, hr0⟩ := hkid 0 (by omega)
  simp only [Nat.zero_mul, Nat.add_zero] at hc0
  obtain ⟨a0, q0, hu0, hcp0, hqq0⟩ := row_eq.1 hr0
  clear hqq0
  subst hu0
  have HC0 := hid_mk hc0
  obtain ⟨u1, hc1, hr1⟩ := hkid 1 (by omega)
  simp only [Nat.one_mul] at hc1
  obtain ⟨a1, q1, hu1, hcp1, hqq1⟩ := row_eq.1 hr1
  clear hqq1
  subst hu1
  have HC1 := hid_mk hc1
  obtain ⟨O1, hs1, hback1, hbox1, hbl1⟩ := hS.boxed (.cells #[.int .i64 T.kind, .int .i64 T.num, .string T.name, .slice (some ⟨g, off, none⟩) T.len cap] 30)
  have HBX := hid_mk hbox1
  have HBL := hid_mk hbl1
  have HB1 := hid_mk hback1
  have HS1 := hid_mk hs1
  have hlo : K.lo ≤ w.heap.size := by have := hS.lt; have := hS.ok.cl; omega
  have hfew := hS.ok.few
  have HN0 := hid_mk (hN.kid (i := 0) (by omega) hr0)
  have HW0 := hid_mk (fun (W : World) (st : CS) (r l o : Int) (ty : Int) (hW : IS K (w.alloc (.cells #[.int .i64 T.kind, .int .i64 T.num, .string T.name, .slice (some ⟨g, off, none⟩) T.len cap] 30)) O1 st r l o W) (hf : st.2.length + (T.kids 0).size ≤ K.N) => iwant_of (iex_every hVar (T.kids 0)) K _ O1 st r l o W (.slice a0 (T.kids 0).len q0) ty hW (hE.later (hbl1 _ _ _ _ _ hW)) ((hN.kid (by omega) hr0).later (hbl1 _ _ _ _ _ hW)) hf he0)
  have HSTS := hid_mk (fun (W : World) (st : CS) (hW : IS K (w.alloc (.cells #[.int .i64 T.kind, .int .i64 T.num, .string T.name, .slice (some ⟨g, off, none⟩) T.len cap] 30)) O1 st cx.ret cx.loops sels W) (hf : st.2.length + (T.kids 1).size ≤ K.N) (hne : st.1 ≠ []) (hd : st.1.length ≤ st.2.length) => ists_of hb (fun j hj => hrec _ (by have := kid_size (T.kids 1) hj; have := kid_size T (i := 1) (by omega); omega)) K _ O1 st cx sels W _ hcx hW (hE.later (hbl1 _ _ _ _ _ hW)) ((hN.kid (by omega) hr1).later (hbl1 _ _ _ _ _ hW)) hf ho hne hd (by have := kid_size T (i := 1) (by omega); omega) (by have := kid_size T (i := 1) (by omega); omega))
  have HNE : Hid (∀ (E : Sc) (X : List Int) s1, (mnT K.F (T.kids 1)).sts cx ([] :: E, X) = .ok s1 → s1.1 ≠ []) := by
    intro E X s1 h e
    have := ((mn_len K.F (T.kids 1)).sts ho hb cx) _ s1 (by simp) h
    rw [e] at this
    have := this.2.1
    simp at this
  have HNMX := hid_mk (name_max hN.fine)
  have HFI : Hid (∀ st : CS, st.1 = s.1 → st.2.length = s.2.length + 1 + (T.kids 0).size → st.2.length + (T.kids 1).size ≤ K.N ∧ st.1 ≠ [] ∧ st.1.length ≤ st.2.length ∧ varLen st.1 + 1 ≤ st.2.length ∧ st.1.length + 1 ≤ st.2.length) := by
    intro st e1 e2
    have := kidAt_le T s.2.length (i := 1) (by omega)
    unfold kidAt at this; simp only [sumTo] at this
    refine ⟨by omega, by rw [e1]; exact hsne, by rw [e1]; omega, by rw [e1]; omega, by rw [e1]; omega⟩
  have HLW := hid_mk (fun s1 (h : wantM (exT K.F (T.kids 0)) 3 (take0 s) = .ok s1) => (ex_len K.F _ he0).want 3 _ _ h)
  have HF0 := hid_mk (take_fit hfit (i := 0) (by omega))
  unfold Nd.val at *
  have hgw : g < w.heap.size := by omega
  have hgw1 : g < w.heap.size + 1 := by omega
  have hgw2 : g < w.heap.size + 1 + 1 := by omega
  have hgn0 : ¬ g = w.heap.size := by omega
  have hgn1 : ¬ g = w.heap.size + 1 := by omega
  have hgn2 : ¬ g = w.heap.size + 1 + 1 := by omega
  obtain ⟨c00, c01, c02, c03⟩ := HC0.out w (Below.refl _ _)
  obtain ⟨c10, c11, c12, c13⟩ := HC1.out w (Below.refl _ _)
  have hpos : 0 < T.len := by omega
  have hpos1 : (1 : Int) < (T.len : Int) := by omega
  have hpos1n : 1 < T.len := by omega
  have hL1 : (T.len : Int) - 1 = 1 := by omega
  have hmix : Tryz.prog.follows Departure.mixedOrders = true := by kernel_rfl
  obtain ⟨nf1, nf2⟩ : (T.name.toList == []) = true ∧ (T.name.toList != []) = false := by rw [empty_is hnm, ByteArray.toList_eq]; exact ⟨rfl, rfl⟩
  rw [hnum] at *
  clear hS hE hN hs1 hback1 hbox1 hbl1 hkid hc0 hr0 hc1 hr1 hnum hl hrec hcx hfit hb ho he0 hsne hd hvl hnm
  cases hM : wantM (exT K.F (T.kids 0)) 3 (take0 s) with
  | error p =>
    have HM1 := hid_mk hM
    clear hM
    rw [CR.bind_error]
    go_enter Tryz.func125, Tryz.ntmps125
    go_wp2_with (first
      | (go_at_call 109; refine (ansE (HW0.out _ _ _ _ _ 3 HS1.out HF0.out) HM1.out).mono ?_; rintro e w2 ⟨rfl, hb2⟩; skip))
    exact ⟨rfl, rfl, (HBL.out _ _ _ _ _ HS1.out).trans hb2⟩
  | ok s1 =>
    have HM1 := hid_mk hM
    clear hM
    rw [CR.bind_ok]
    obtain ⟨hi1, hi2, hi3, hi4, hi5⟩ := HFI.out s1 (HLW.out _ HM1.out).1 (by rw [(HLW.out _ HM1.out).2, take0_len])
    have HI1 : Hid ((([] : List (ByteArray × Int)) :: s1.1, s1.2).2.length + (T.kids 1).size ≤ K.N) := hi1
    have HI3 := hid_mk hi3
    have HI4 : Hid (varLen ([] :: s1.1) + 1 ≤ s1.2.length) := by unfold Hid; rw [varLen_nil]; exact hi4
    have HI6 : Hid ((([] : List (ByteArray × Int)) :: s1.1, s1.2).1.length ≤ (([] : List (ByteArray × Int)) :: s1.1, s1.2).2.length) := by unfold Hid; simp; omega
    clear hi1 hi2 hi3 hi4 hi5
    unfold within
    cases hM : (mnT K.F (T.kids 1)).sts cx ([] :: s1.1, s1.2) with
    | error pe =>
      have HM := hid_mk hM
      clear hM
      rw [CR.bind_error]
      go_enter Tryz.func125, Tryz.ntmps125
      go_wp2_with (first
        | (go_at_call 109; refine (ansO (HW0.out _ _ _ _ _ 3 HS1.out HF0.out) HM1.out).mono ?_; rintro e w2 ⟨rfl, hs2⟩; obtain ⟨b0, b1, b2, b3⟩ := box_cells (HBX.out _ _ _ _ _ hs2); obtain ⟨c00, c01, c02, c03⟩ := HC0.out _ (HBL.out _ _ _ _ _ hs2); obtain ⟨c10, c11, c12, c13⟩ := HC1.out _ (HBL.out _ _ _ _ _ hs2); have HS2 := hid_mk hs2; clear hs2)
        | (go_at_call 79; refine (enter_any HS2.out HI3.out).mono ?_; rintro e x1 ⟨rfl, hx1⟩; obtain ⟨b0, b1, b2, b3⟩ := box_cells (HBX.out _ _ _ _ _ hx1); obtain ⟨c00, c01, c02, c03⟩ := HC0.out _ (HBL.out _ _ _ _ _ hx1); obtain ⟨c10, c11, c12, c13⟩ := HC1.out _ (HBL.out _ _ _ _ _ hx1); have HX1 := hid_mk hx1; clear hx1)
        | (go_at_call 81; refine (ansE (HSTS.out _ _ HX1.out HI1.out (by simp) HI6.out) HM.out).mono ?_; rintro e x3 ⟨rfl, hb3⟩; skip))
      exact ⟨rfl, rfl, (HBL.out _ _ _ _ _ HX1.out).trans hb3⟩
    | ok s9 =>
      have HM := hid_mk hM
      clear hM
      rw [CR.bind_ok]
      go_enter Tryz.func125, Tryz.ntmps125
      go_wp2_with (first
        | (go_at_call 109; refine (ansO (HW0.out _ _ _ _ _ 3 HS1.out HF0.out) HM1.out).mono ?_; rintro e w2 ⟨rfl, hs2⟩; obtain ⟨b0, b1, b2, b3⟩ := box_cells (HBX.out _ _ _ _ _ hs2); obtain ⟨c00, c01, c02, c03⟩ := HC0.out _ (HBL.out _ _ _ _ _ hs2); obtain ⟨c10, c11, c12, c13⟩ := HC1.out _ (HBL.out _ _ _ _ _ hs2); have HS2 := hid_mk hs2; clear hs2)
        | (go_at_call 79; refine (enter_any HS2.out HI3.out).mono ?_; rintro e x1 ⟨rfl, hx1⟩; obtain ⟨b0, b1, b2, b3⟩ := box_cells (HBX.out _ _ _ _ _ hx1); obtain ⟨c00, c01, c02, c03⟩ := HC0.out _ (HBL.out _ _ _ _ _ hx1); obtain ⟨c10, c11, c12, c13⟩ := HC1.out _ (HBL.out _ _ _ _ _ hx1); have HX1 := hid_mk hx1; clear hx1)
        | (go_at_call 81; refine (ansO (HSTS.out _ _ HX1.out HI1.out (by simp) HI6.out) HM.out).mono ?_; rintro e x3 ⟨rfl, hx3⟩; have HX3 := hid_mk hx3; clear hx3)
        | (go_at_call 82; refine (leaveI_any HX3.out (HNE.out _ _ _ HM.out)).mono ?_; rintro e x4 ⟨rfl, hx4⟩; have HX4 := hid_mk hx4; clear hx4))
      go_end0
      exact ⟨rfl, HB1.out _ _ _ _ _ HX4.out⟩
set_option maxHeartbeats 4000000 in
set_option maxRecDepth 100000 in
theorem icl_1n (hVar : IVar) {T : Nd} (hnum : T.num = 1) (hl : T.len = 2) (he0 : (T.kids 0).eOk = true) (hb : (T.kids 1).kind = 4) (ho : (T.kids 1).sOk = true) (hnm : emptyB T.name = false) (hrec : ∀ U : Nd, U.size < T.size → IStS U) (K : IK) (w0 : World) (O : Nat → Prop) (s : CS) (cx : Cx) (sels : Nat) (w : World) (v : Value) (p : Nat) (hcx : cx.outs = cx.loops + sels) (hS : IS K w0 O (take0 s) cx.ret cx.loops sels w) (hE : IEnv K w) (hN : INd K w T v) (hfit : s.2.length + T.size ≤ K.N) (hsne : s.1 ≠ []) (hd : s.1.length + 1 ≤ s.2.length) (hvl : varLen s.1 ≤ s.2.length) (hlo1 : cx.loops + T.size ≤ 1099511627776 + 1) (hou1 : sels + T.size ≤ 1099511627776 + 1) :
    Calls Tryz.prog 125 #[.pointer (some ⟨K.cb, 0, none⟩), T.val v, .int .i64 p] w (Ans K w (CR.bind (wantM (exT K.F (T.kids 0)) 3 (take0 s)) (within [(T.name, 1)] ((mnT K.F (T.kids 1)).sts cx))) fun s1 e w1 => e = .returned (.tuple #[]) ∧ IS K w0 O s1 cx.ret cx.loops sels w1) := by
  obtain ⟨g, off, cap, hv, hgl, hcap, hkid⟩ := ck_kid hN.row (by omega)
  subst hv
  obtain ⟨u0, hc0, hr0⟩ := hkid 0 (by omega)
  simp only [Nat.zero_mul, Nat.add_zero] at hc0
  obtain ⟨a0, q0, hu0, hcp0, hqq0⟩ := row_eq.1 hr0
  clear hqq0
  subst hu0
  have HC0 := hid_mk hc0
  obtain ⟨u1, hc1, hr1⟩ := hkid 1 (by omega)
  simp only [Nat.one_mul] at hc1
  obtain ⟨a1, q1, hu1, hcp1, hqq1⟩ := row_eq.1 hr1
  clear hqq1
  subst hu1
  have HC1 := hid_mk hc1
  obtain ⟨O1, hs1, hback1, hbox1, hbl1⟩ := hS.boxed (.cells #[.int .i64 T.kind, .int .i64 T.num, .string T.name, .slice (some ⟨g, off, none⟩) T.len cap] 30)
  have HBX := hid_mk hbox1
  have HBL := hid_mk hbl1
  have HB1 := hid_mk hback1
  have HS1 := hid_mk hs1
  have hlo : K.lo ≤ w.heap.size := by have := hS.lt; have := hS.ok.cl; omega
  have hfew := hS.ok.few
  have HN0 := hid_mk (hN.kid (i := 0) (by omega) hr0)
  have HW0 := hid_mk (fun (W : World) (st : CS) (r l o : Int) (ty : Int) (hW : IS K (w.alloc (.cells #[.int .i64 T.kind, .int .i64 T.num, .string T.name, .slice (some ⟨g, off, none⟩) T.len cap] 30)) O1 st r l o W) (hf : st.2.length + (T.kids 0).size ≤ K.N) => iwant_of (iex_every hVar (T.kids 0)) K _ O1 st r l o W (.slice a0 (T.kids 0).len q0) ty hW (hE.later (hbl1 _ _ _ _ _ hW)) ((hN.kid (by omega) hr0).later (hbl1 _ _ _ _ _ hW)) hf he0)
  have HSTS := hid_mk (fun (W : World) (st : CS) (hW : IS K (w.alloc (.cells #[.int .i64 T.kind, .int .i64 T.num, .string T.name, .slice (some ⟨g, off, none⟩) T.len cap] 30)) O1 st cx.ret cx.loops sels W) (hf : st.2.length + (T.kids 1).size ≤ K.N) (hne : st.1 ≠ []) (hd : st.1.length ≤ st.2.length) => ists_of hb (fun j hj => hrec _ (by have := kid_size (T.kids 1) hj; have := kid_size T (i := 1) (by omega); omega)) K _ O1 st cx sels W _ hcx hW (hE.later (hbl1 _ _ _ _ _ hW)) ((hN.kid (by omega) hr1).later (hbl1 _ _ _ _ _ hW)) hf ho hne hd (by have := kid_size T (i := 1) (by omega); omega) (by have := kid_size T (i := 1) (by omega); omega))
  have HNE : Hid (∀ (E : Sc) (X : List Int) s1, (mnT K.F (T.kids 1)).sts cx ([(T.name, 1)] :: E, X) = .ok s1 → s1.1 ≠ []) := by
    intro E X s1 h e
    have := ((mn_len K.F (T.kids 1)).sts ho hb cx) _ s1 (by simp) h
    rw [e] at this
    have := this.2.1
    simp at this
  have HNMX := hid_mk (name_max hN.fine)
  have HFI : Hid (∀ st : CS, st.1 = s.1 → st.2.length = s.2.length + 1 + (T.kids 0).size → st.2.length + (T.kids 1).size ≤ K.N ∧ st.1 ≠ [] ∧ st.1.length ≤ st.2.length ∧ varLen st.1 + 1 ≤ st.2.length ∧ st.1.length + 1 ≤ st.2.length) := by
    intro st e1 e2
    have := kidAt_le T s.2.length (i := 1) (by omega)
    unfold kidAt at this; simp only [sumTo] at this
    refine ⟨by omega, by rw [e1]; exact hsne, by rw [e1]; omega, by rw [e1]; omega, by rw [e1]; omega⟩
  have HLW := hid_mk (fun s1 (h : wantM (exT K.F (T.kids 0)) 3 (take0 s) = .ok s1) => (ex_len K.F _ he0).want 3 _ _ h)
  have HF0 := hid_mk (take_fit hfit (i := 0) (by omega))
  unfold Nd.val at *
  have hgw : g < w.heap.size := by omega
  have hgw1 : g < w.heap.size + 1 := by omega
  have hgw2 : g < w.heap.size + 1 + 1 := by omega
  have hgn0 : ¬ g = w.heap.size := by omega
  have hgn1 : ¬ g = w.heap.size + 1 := by omega
  have hgn2 : ¬ g = w.heap.size + 1 + 1 := by omega
  obtain ⟨c00, c01, c02, c03⟩ := HC0.out w (Below.refl _ _)
  obtain ⟨c10, c11, c12, c13⟩ := HC1.out w (Below.refl _ _)
  have hpos : 0 < T.len := by omega
  have hpos1 : (1 : Int) < (T.len : Int) := by omega
  have hpos1n : 1 < T.len := by omega
  have hL1 : (T.len : Int) - 1 = 1 := by omega
  have hmix : Tryz.prog.follows Departure.mixedOrders = true := by kernel_rfl
  obtain ⟨nf1, nf2⟩ : (T.name.toList == []) = false ∧ (T.name.toList != []) = true := name_forms hnm
  rw [hnum] at *
  clear hS hE hN hs1 hback1 hbox1 hbl1 hkid hc0 hr0 hc1 hr1 hnum hl hrec hcx hfit hb ho he0 hsne hd hvl hnm
  cases hM : wantM (exT K.F (T.kids 0)) 3 (take0 s) with
  | error p =>
    have HM1 := hid_mk hM
    clear hM
    rw [CR.bind_error]
    go_enter Tryz.func125, Tryz.ntmps125
    go_wp2_with (first
      | (go_at_call 109; refine (ansE (HW0.out _ _ _ _ _ 3 HS1.out HF0.out) HM1.out).mono ?_; rintro e w2 ⟨rfl, hb2⟩; skip))
    exact ⟨rfl, rfl, (HBL.out _ _ _ _ _ HS1.out).trans hb2⟩
  | ok s1 =>
    have HM1 := hid_mk hM
    clear hM
    rw [CR.bind_ok]
    obtain ⟨hi1, hi2, hi3, hi4, hi5⟩ := HFI.out s1 (HLW.out _ HM1.out).1 (by rw [(HLW.out _ HM1.out).2, take0_len])
    have HI1 : Hid ((([(T.name, 1)] : List (ByteArray × Int)) :: s1.1, s1.2).2.length + (T.kids 1).size ≤ K.N) := hi1
    have HI3 := hid_mk hi3
    have HI4 : Hid (varLen ([] :: s1.1) + 1 ≤ s1.2.length) := by unfold Hid; rw [varLen_nil]; exact hi4
    have HI6 : Hid ((([(T.name, 1)] : List (ByteArray × Int)) :: s1.1, s1.2).1.length ≤ (([(T.name, 1)] : List (ByteArray × Int)) :: s1.1, s1.2).2.length) := by unfold Hid; simp; omega
    clear hi1 hi2 hi3 hi4 hi5
    unfold within
    cases hM : (mnT K.F (T.kids 1)).sts cx ([(T.name, 1)] :: s1.1, s1.2) with
    | error pe =>
      have HM := hid_mk hM
      clear hM
      rw [CR.bind_error]
      go_enter Tryz.func125, Tryz.ntmps125
      go_wp2_with (first
        | (go_at_call 109; refine (ansO (HW0.out _ _ _ _ _ 3 HS1.out HF0.out) HM1.out).mono ?_; rintro e w2 ⟨rfl, hs2⟩; obtain ⟨b0, b1, b2, b3⟩ := box_cells (HBX.out _ _ _ _ _ hs2); obtain ⟨c00, c01, c02, c03⟩ := HC0.out _ (HBL.out _ _ _ _ _ hs2); obtain ⟨c10, c11, c12, c13⟩ := HC1.out _ (HBL.out _ _ _ _ _ hs2); have HS2 := hid_mk hs2; clear hs2)
        | (go_at_call 79; refine (enter_any HS2.out HI3.out).mono ?_; rintro e x1 ⟨rfl, hx1⟩; obtain ⟨b0, b1, b2, b3⟩ := box_cells (HBX.out _ _ _ _ _ hx1); obtain ⟨c00, c01, c02, c03⟩ := HC0.out _ (HBL.out _ _ _ _ _ hx1); obtain ⟨c10, c11, c12, c13⟩ := HC1.out _ (HBL.out _ _ _ _ _ hx1); have HX1 := hid_mk hx1; clear hx1)
        | (go_at_call 80; refine (ansO (define_any HX1.out T.name 1 p (by simp) (by decide) HNMX.out HI4.out) rfl).mono ?_; rintro e x2 ⟨rfl, hx2q⟩; have hx2 : IS K _ O1 ([(T.name, 1)] :: s1.1, s1.2) cx.ret cx.loops sels x2 := hx2q; clear hx2q; obtain ⟨b0, b1, b2, b3⟩ := box_cells (HBX.out _ _ _ _ _ hx2); obtain ⟨c00, c01, c02, c03⟩ := HC0.out _ (HBL.out _ _ _ _ _ hx2); obtain ⟨c10, c11, c12, c13⟩ := HC1.out _ (HBL.out _ _ _ _ _ hx2); have HX2 := hid_mk hx2; clear hx2)
        | (go_at_call 81; refine (ansE (HSTS.out _ _ HX2.out HI1.out (by simp) HI6.out) HM.out).mono ?_; rintro e x3 ⟨rfl, hb3⟩; skip))
      exact ⟨rfl, rfl, (HBL.out _ _ _ _ _ HX2.out).trans hb3⟩
    | ok s9 =>
      have HM := hid_mk hM
      clear hM
      rw [CR.bind_ok]
      go_enter Tryz.func125, Tryz.ntmps125
      go_wp2_with (first
        | (go_at_call 109; refine (ansO (HW0.out _ _ _ _ _ 3 HS1.out HF0.out) HM1.out).mono ?_; rintro e w2 ⟨rfl, hs2⟩; obtain ⟨b0, b1, b2, b3⟩ := box_cells (HBX.out _ _ _ _ _ hs2); obtain ⟨c00, c01, c02, c03⟩ := HC0.out _ (HBL.out _ _ _ _ _ hs2); obtain ⟨c10, c11, c12, c13⟩ := HC1.out _ (HBL.out _ _ _ _ _ hs2); have HS2 := hid_mk hs2; clear hs2)
        | (go_at_call 79; refine (enter_any HS2.out HI3.out).mono ?_; rintro e x1 ⟨rfl, hx1⟩; obtain ⟨b0, b1, b2, b3⟩ := box_cells (HBX.out _ _ _ _ _ hx1); obtain ⟨c00, c01, c02, c03⟩ := HC0.out _ (HBL.out _ _ _ _ _ hx1); obtain ⟨c10, c11, c12, c13⟩ := HC1.out _ (HBL.out _ _ _ _ _ hx1); have HX1 := hid_mk hx1; clear hx1)
        | (go_at_call 80; refine (ansO (define_any HX1.out T.name 1 p (by simp) (by decide) HNMX.out HI4.out) rfl).mono ?_; rintro e x2 ⟨rfl, hx2q⟩; have hx2 : IS K _ O1 ([(T.name, 1)] :: s1.1, s1.2) cx.ret cx.loops sels x2 := hx2q; clear hx2q; obtain ⟨b0, b1, b2, b3⟩ := box_cells (HBX.out _ _ _ _ _ hx2); obtain ⟨c00, c01, c02, c03⟩ := HC0.out _ (HBL.out _ _ _ _ _ hx2); obtain ⟨c10, c11, c12, c13⟩ := HC1.out _ (HBL.out _ _ _ _ _ hx2); have HX2 := hid_mk hx2; clear hx2)
        | (go_at_call 81; refine (ansO (HSTS.out _ _ HX2.out HI1.out (by simp) HI6.out) HM.out).mono ?_; rintro e x3 ⟨rfl, hx3⟩; have HX3 := hid_mk hx3; clear hx3)
        | (go_at_call 82; refine (leaveI_any HX3.out (HNE.out _ _ _ HM.out)).mono ?_; rintro e x4 ⟨rfl, hx4⟩; have HX4 := hid_mk hx4; clear hx4))
      go_end0
      exact ⟨rfl, HB1.out _ _ _ _ _ HX4.out⟩
end Go.Proofs.YtbjianmjdadehaaGreatDoor
namespace Go.Proofs.YtbjianmjdadehaaGreatDoor
open Go.RowKit

set_option maxHeartbeats 4000000 in
set_option maxRecDepth 100000 in
theorem icl_2e (hVar : IVar) {T : Nd} (hnum : T.num = 2) (hl : T.len = 3) (he0 : (T.kids 0).eOk = true) (he1 : (T.kids 1).eOk = true) (hb : (T.kids 2).kind = 4) (ho : (T.kids 2).sOk = true) (hnm : emptyB T.name = true) (hrec : ∀ U : Nd, U.size < T.size → IStS U) (K : IK) (w0 : World) (O : Nat → Prop) (s : CS) (cx : Cx) (sels : Nat) (w : World) (v : Value) (p : Nat) (hcx : cx.outs = cx.loops + sels) (hS : IS K w0 O (take0 s) cx.ret cx.loops sels w) (hE : IEnv K w) (hN : INd K w T v) (hfit : s.2.length + T.size ≤ K.N) (hsne : s.1 ≠ []) (hd : s.1.length + 1 ≤ s.2.length) (hvl : varLen s.1 ≤ s.2.length) (hlo1 : cx.loops + T.size ≤ 1099511627776 + 1) (hou1 : sels + T.size ≤ 1099511627776 + 1) :
    Calls Tryz.prog 125 #[.pointer (some ⟨K.cb, 0, none⟩), T.val v, .int .i64 p] w (Ans K w (CR.bind (CR.bind (wantM (exT K.F (T.kids 0)) 3 (take0 s)) (wantM (exT K.F (T.kids 1)) 1)) (within [] ((mnT K.F (T.kids 2)).sts cx))) fun s1 e w1 => e = .returned (.tuple #[]) ∧ IS K w0 O s1 cx.ret cx.loops sels w1) := by
  obtain ⟨g, off, cap, hv, hgl, hcap, hkid⟩ := ck_kid hN.row (by omega)
  subst hv
  obtain ⟨u0, hc0, hr0⟩ := hkid 0 (by omega)
  simp only [Nat.zero_mul, Nat.add_zero] at hc0
  obtain ⟨a0, q0, hu0, hcp0, hqq0⟩ := row_eq.1 hr0
  clear hqq0
  subst hu0
  have HC0 := hid_mk hc0
  obtain ⟨u1, hc1, hr1⟩ := hkid 1 (by omega)
  simp only [Nat.one_mul] at hc1
  obtain ⟨a1, q1, hu1, hcp1, hqq1⟩ := row_eq.1 hr1
  clear hqq1
  subst hu1
  have HC1 := hid_mk hc1
  obtain ⟨u2, hc2, hr2⟩ := hkid 2 (by omega)
  simp only [Nat.reduceMul] at hc2
  obtain ⟨a2, q2, hu2, hcp2, hqq2⟩ := row_eq.1 hr2
  clear hqq2
  subst hu2
  have HC2 := hid_mk hc2
  obtain ⟨O1, hs1, hback1, hbox1, hbl1⟩ := hS.boxed (.cells #[.int .i64 T.kind, .int .i64 T.num, .string T.name, .slice (some ⟨g, off, none⟩) T.len cap] 30)
  have HBX := hid_mk hbox1
  have HBL := hid_mk hbl1
  have HB1 := hid_mk hback1
  have HS1 := hid_mk hs1
  have hlo : K.lo ≤ w.heap.size := by have := hS.lt; have := hS.ok.cl; omega
  have hfew := hS.ok.few
  have HN0 := hid_mk (hN.kid (i := 0) (by omega) hr0)
  have HN1 := hid_mk (hN.kid (i := 1) (by omega) hr1)
  have HSD := hid_mk (fun (W : World) (st : CS) (hW : IS K (w.alloc (.cells #[.int .i64 T.kind, .int .i64 T.num, .string T.name, .slice (some ⟨g, off, none⟩) T.len cap] 30)) O1 st cx.ret cx.loops sels W) (hf : st.2.length + ((T.kids 0).size + (T.kids 1).size) ≤ K.N) => isend_of hVar (A := T.kids 0) (B := T.kids 1) K _ O1 st cx.ret cx.loops sels W _ _ hW (hE.later (hbl1 _ _ _ _ _ hW)) (HN0.out.later (hbl1 _ _ _ _ _ hW)) (HN1.out.later (hbl1 _ _ _ _ _ hW)) hf he0 he1)
  have HSTS := hid_mk (fun (W : World) (st : CS) (hW : IS K (w.alloc (.cells #[.int .i64 T.kind, .int .i64 T.num, .string T.name, .slice (some ⟨g, off, none⟩) T.len cap] 30)) O1 st cx.ret cx.loops sels W) (hf : st.2.length + (T.kids 2).size ≤ K.N) (hne : st.1 ≠ []) (hd : st.1.length ≤ st.2.length) => ists_of hb (fun j hj => hrec _ (by have := kid_size (T.kids 2) hj; have := kid_size T (i := 2) (by omega); omega)) K _ O1 st cx sels W _ hcx hW (hE.later (hbl1 _ _ _ _ _ hW)) ((hN.kid (by omega) hr2).later (hbl1 _ _ _ _ _ hW)) hf ho hne hd (by have := kid_size T (i := 2) (by omega); omega) (by have := kid_size T (i := 2) (by omega); omega))
  have HNE : Hid (∀ (E : Sc) (X : List Int) s1, (mnT K.F (T.kids 2)).sts cx ([] :: E, X) = .ok s1 → s1.1 ≠ []) := by
    intro E X s1 h e
    have := ((mn_len K.F (T.kids 2)).sts ho hb cx) _ s1 (by simp) h
    rw [e] at this
    have := this.2.1
    simp at this
  have HNMX := hid_mk (name_max hN.fine)
  have HFI : Hid (∀ st : CS, st.1 = s.1 → st.2.length = s.2.length + 1 + ((T.kids 0).size + (T.kids 1).size) → st.2.length + (T.kids 2).size ≤ K.N ∧ st.1 ≠ [] ∧ st.1.length ≤ st.2.length ∧ varLen st.1 + 1 ≤ st.2.length ∧ st.1.length + 1 ≤ st.2.length) := by
    intro st e1 e2
    have := kidAt_le T s.2.length (i := 2) (by omega)
    unfold kidAt at this; simp only [sumTo] at this
    refine ⟨by omega, by rw [e1]; exact hsne, by rw [e1]; omega, by rw [e1]; omega, by rw [e1]; omega⟩
  have HF0 : Hid ((take0 s).2.length + ((T.kids 0).size + (T.kids 1).size) ≤ K.N) := by
    have := kidAt_le T s.2.length (i := 2) (by omega)
    unfold kidAt at this; simp only [sumTo] at this
    unfold Hid; rw [take0_len]; omega
  have HLW : Hid (∀ s1, CR.bind (wantM (exT K.F (T.kids 0)) 3 (take0 s)) (wantM (exT K.F (T.kids 1)) 1) = .ok s1 → s1.1 = s.1 ∧ s1.2.length = s.2.length + 1 + ((T.kids 0).size + (T.kids 1).size)) := by
    intro s1 h
    obtain ⟨r, h1, h2⟩ := bind_inv h
    obtain ⟨x1, x2⟩ := (ex_len K.F _ he0).want 3 _ _ h1
    obtain ⟨y1, y2⟩ := (ex_len K.F _ he1).want 1 _ _ h2
    rw [take0_len] at x2
    exact ⟨by rw [y1, x1]; rfl, by omega⟩
  unfold Nd.val at *
  have hgw : g < w.heap.size := by omega
  have hgw1 : g < w.heap.size + 1 := by omega
  have hgw2 : g < w.heap.size + 1 + 1 := by omega
  have hgn0 : ¬ g = w.heap.size := by omega
  have hgn1 : ¬ g = w.heap.size + 1 := by omega
  have hgn2 : ¬ g = w.heap.size + 1 + 1 := by omega
  obtain ⟨c00, c01, c02, c03⟩ := HC0.out w (Below.refl _ _)
  obtain ⟨c10, c11, c12, c13⟩ := HC1.out w (Below.refl _ _)
  obtain ⟨c20, c21, c22, c23⟩ := HC2.out w (Below.refl _ _)
  have hpos : 0 < T.len := by omega
  have hpos1 : (1 : Int) < (T.len : Int) := by omega
  have hpos1n : 1 < T.len := by omega
  have hpos2 : (2 : Int) < (T.len : Int) := by omega
  have hpos2n : 2 < T.len := by omega
  have hL1 : (T.len : Int) - 1 = 2 := by omega
  have hmix : Tryz.prog.follows Departure.mixedOrders = true := by kernel_rfl
  obtain ⟨nf1, nf2⟩ : (T.name.toList == []) = true ∧ (T.name.toList != []) = false := by rw [empty_is hnm, ByteArray.toList_eq]; exact ⟨rfl, rfl⟩
  rw [hnum] at *
  clear hS hE hN hs1 hback1 hbox1 hbl1 hkid hc0 hr0 hc1 hr1 hc2 hr2 hnum hl hrec hcx hfit hb ho he0 he1 hsne hd hvl hnm
  cases hM : CR.bind (wantM (exT K.F (T.kids 0)) 3 (take0 s)) (wantM (exT K.F (T.kids 1)) 1) with
  | error p =>
    have HM1 := hid_mk hM
    clear hM
    rw [CR.bind_error]
    go_enter Tryz.func125, Tryz.ntmps125
    go_wp2
    have HSX := hid_mk (HS1.out)
    obtain ⟨e00, e01, e02, e03⟩ := box_cells (HBX.out _ _ _ _ _ HS1.out)
    obtain ⟨d00, d01, d02, d03⟩ := HC0.out _ (HBL.out _ _ _ _ _ HS1.out)
    obtain ⟨d10, d11, d12, d13⟩ := HC1.out _ (HBL.out _ _ _ _ _ HS1.out)
    obtain ⟨d20, d21, d22, d23⟩ := HC2.out _ (HBL.out _ _ _ _ _ HS1.out)
    generalize w.alloc (.cells #[.int .i64 T.kind, .int .i64 2, .string T.name, .slice (some ⟨g, off, none⟩) T.len cap] 30) = wx at *
    go_still_tail 9, hmix
    go_wp2_with (first
      | (go_at_call 112; refine (ansE (HSD.out _ _ HS1.out.drew HF0.out) HM1.out).mono ?_; rintro e w2 ⟨rfl, hb2⟩; skip))
    exact ⟨rfl, rfl, (HBL.out _ _ _ _ _ HS1.out.drew).trans hb2⟩
  | ok s1 =>
    have HM1 := hid_mk hM
    clear hM
    rw [CR.bind_ok]
    obtain ⟨hi1, hi2, hi3, hi4, hi5⟩ := HFI.out s1 (HLW.out _ HM1.out).1 (HLW.out _ HM1.out).2
    have HI1 : Hid ((([] : List (ByteArray × Int)) :: s1.1, s1.2).2.length + (T.kids 2).size ≤ K.N) := hi1
    have HI3 := hid_mk hi3
    have HI4 : Hid (varLen ([] :: s1.1) + 1 ≤ s1.2.length) := by unfold Hid; rw [varLen_nil]; exact hi4
    have HI6 : Hid ((([] : List (ByteArray × Int)) :: s1.1, s1.2).1.length ≤ (([] : List (ByteArray × Int)) :: s1.1, s1.2).2.length) := by unfold Hid; simp; omega
    clear hi1 hi2 hi3 hi4 hi5
    unfold within
    cases hM : (mnT K.F (T.kids 2)).sts cx ([] :: s1.1, s1.2) with
    | error pe =>
      have HM := hid_mk hM
      clear hM
      rw [CR.bind_error]
      go_enter Tryz.func125, Tryz.ntmps125
      go_wp2
      have HSX := hid_mk (HS1.out)
      obtain ⟨e00, e01, e02, e03⟩ := box_cells (HBX.out _ _ _ _ _ HS1.out)
      obtain ⟨d00, d01, d02, d03⟩ := HC0.out _ (HBL.out _ _ _ _ _ HS1.out)
      obtain ⟨d10, d11, d12, d13⟩ := HC1.out _ (HBL.out _ _ _ _ _ HS1.out)
      obtain ⟨d20, d21, d22, d23⟩ := HC2.out _ (HBL.out _ _ _ _ _ HS1.out)
      generalize w.alloc (.cells #[.int .i64 T.kind, .int .i64 2, .string T.name, .slice (some ⟨g, off, none⟩) T.len cap] 30) = wx at *
      go_still_tail 9, hmix
      go_wp2_with (first
        | (go_at_call 112; refine (ansO (HSD.out _ _ HS1.out.drew HF0.out) HM1.out).mono ?_; rintro e w2 ⟨rfl, hs2⟩; obtain ⟨b0, b1, b2, b3⟩ := box_cells (HBX.out _ _ _ _ _ hs2); obtain ⟨c00, c01, c02, c03⟩ := HC0.out _ (HBL.out _ _ _ _ _ hs2); obtain ⟨c10, c11, c12, c13⟩ := HC1.out _ (HBL.out _ _ _ _ _ hs2); obtain ⟨c20, c21, c22, c23⟩ := HC2.out _ (HBL.out _ _ _ _ _ hs2); have HS2 := hid_mk hs2; clear hs2)
        | (go_at_call 79; refine (enter_any HS2.out HI3.out).mono ?_; rintro e x1 ⟨rfl, hx1⟩; obtain ⟨b0, b1, b2, b3⟩ := box_cells (HBX.out _ _ _ _ _ hx1); obtain ⟨c00, c01, c02, c03⟩ := HC0.out _ (HBL.out _ _ _ _ _ hx1); obtain ⟨c10, c11, c12, c13⟩ := HC1.out _ (HBL.out _ _ _ _ _ hx1); obtain ⟨c20, c21, c22, c23⟩ := HC2.out _ (HBL.out _ _ _ _ _ hx1); have HX1 := hid_mk hx1; clear hx1)
        | (go_at_call 81; refine (ansE (HSTS.out _ _ HX1.out HI1.out (by simp) HI6.out) HM.out).mono ?_; rintro e x3 ⟨rfl, hb3⟩; skip))
      exact ⟨rfl, rfl, (HBL.out _ _ _ _ _ HX1.out).trans hb3⟩
    | ok s9 =>
      have HM := hid_mk hM
      clear hM
      rw [CR.bind_ok]
      go_enter Tryz.func125, Tryz.ntmps125
      go_wp2
      have HSX := hid_mk (HS1.out)
      obtain ⟨e00, e01, e02, e03⟩ := box_cells (HBX.out _ _ _ _ _ HS1.out)
      obtain ⟨d00, d01, d02, d03⟩ := HC0.out _ (HBL.out _ _ _ _ _ HS1.out)
      obtain ⟨d10, d11, d12, d13⟩ := HC1.out _ (HBL.out _ _ _ _ _ HS1.out)
      obtain ⟨d20, d21, d22, d23⟩ := HC2.out _ (HBL.out _ _ _ _ _ HS1.out)
      generalize w.alloc (.cells #[.int .i64 T.kind, .int .i64 2, .string T.name, .slice (some ⟨g, off, none⟩) T.len cap] 30) = wx at *
      go_still_tail 9, hmix
      go_wp2_with (first
        | (go_at_call 112; refine (ansO (HSD.out _ _ HS1.out.drew HF0.out) HM1.out).mono ?_; rintro e w2 ⟨rfl, hs2⟩; obtain ⟨b0, b1, b2, b3⟩ := box_cells (HBX.out _ _ _ _ _ hs2); obtain ⟨c00, c01, c02, c03⟩ := HC0.out _ (HBL.out _ _ _ _ _ hs2); obtain ⟨c10, c11, c12, c13⟩ := HC1.out _ (HBL.out _ _ _ _ _ hs2); obtain ⟨c20, c21, c22, c23⟩ := HC2.out _ (HBL.out _ _ _ _ _ hs2); have HS2 := hid_mk hs2; clear hs2)
        | (go_at_call 79; refine (enter_any HS2.out HI3.out).mono ?_; rintro e x1 ⟨rfl, hx1⟩; obtain ⟨b0, b1, b2, b3⟩ := box_cells (HBX.out _ _ _ _ _ hx1); obtain ⟨c00, c01, c02, c03⟩ := HC0.out _ (HBL.out _ _ _ _ _ hx1); obtain ⟨c10, c11, c12, c13⟩ := HC1.out _ (HBL.out _ _ _ _ _ hx1); obtain ⟨c20, c21, c22, c23⟩ := HC2.out _ (HBL.out _ _ _ _ _ hx1); have HX1 := hid_mk hx1; clear hx1)
        | (go_at_call 81; refine (ansO (HSTS.out _ _ HX1.out HI1.out (by simp) HI6.out) HM.out).mono ?_; rintro e x3 ⟨rfl, hx3⟩; have HX3 := hid_mk hx3; clear hx3)
        | (go_at_call 82; refine (leaveI_any HX3.out (HNE.out _ _ _ HM.out)).mono ?_; rintro e x4 ⟨rfl, hx4⟩; have HX4 := hid_mk hx4; clear hx4))
      go_end0
      exact ⟨rfl, HB1.out _ _ _ _ _ HX4.out⟩
set_option maxHeartbeats 4000000 in
set_option maxRecDepth 100000 in
theorem icl_2n (hVar : IVar) {T : Nd} (hnum : T.num = 2) (hl : T.len = 3) (he0 : (T.kids 0).eOk = true) (he1 : (T.kids 1).eOk = true) (hb : (T.kids 2).kind = 4) (ho : (T.kids 2).sOk = true) (hnm : emptyB T.name = false) (hrec : ∀ U : Nd, U.size < T.size → IStS U) (K : IK) (w0 : World) (O : Nat → Prop) (s : CS) (cx : Cx) (sels : Nat) (w : World) (v : Value) (p : Nat) (hcx : cx.outs = cx.loops + sels) (hS : IS K w0 O (take0 s) cx.ret cx.loops sels w) (hE : IEnv K w) (hN : INd K w T v) (hfit : s.2.length + T.size ≤ K.N) (hsne : s.1 ≠ []) (hd : s.1.length + 1 ≤ s.2.length) (hvl : varLen s.1 ≤ s.2.length) (hlo1 : cx.loops + T.size ≤ 1099511627776 + 1) (hou1 : sels + T.size ≤ 1099511627776 + 1) :
    Calls Tryz.prog 125 #[.pointer (some ⟨K.cb, 0, none⟩), T.val v, .int .i64 p] w (Ans K w (CR.bind (CR.bind (wantM (exT K.F (T.kids 0)) 3 (take0 s)) (wantM (exT K.F (T.kids 1)) 1)) (within [(T.name, 1)] ((mnT K.F (T.kids 2)).sts cx))) fun s1 e w1 => e = .returned (.tuple #[]) ∧ IS K w0 O s1 cx.ret cx.loops sels w1) := by
  obtain ⟨g, off, cap, hv, hgl, hcap, hkid⟩ := ck_kid hN.row (by omega)
  subst hv
  obtain ⟨u0, hc0, hr0⟩ := hkid 0 (by omega)
  simp only [Nat.zero_mul, Nat.add_zero] at hc0
  obtain ⟨a0, q0, hu0, hcp0, hqq0⟩ := row_eq.1 hr0
  clear hqq0
  subst hu0
  have HC0 := hid_mk hc0
  obtain ⟨u1, hc1, hr1⟩ := hkid 1 (by omega)
  simp only [Nat.one_mul] at hc1
  obtain ⟨a1, q1, hu1, hcp1, hqq1⟩ := row_eq.1 hr1
  clear hqq1
  subst hu1
  have HC1 := hid_mk hc1
  obtain ⟨u2, hc2, hr2⟩ := hkid 2 (by omega)
  simp only [Nat.reduceMul] at hc2
  obtain ⟨a2, q2, hu2, hcp2, hqq2⟩ := row_eq.1 hr2
  clear hqq2
  subst hu2
  have HC2 := hid_mk hc2
  obtain ⟨O1, hs1, hback1, hbox1, hbl1⟩ := hS.boxed (.cells #[.int .i64 T.kind, .int .i64 T.num, .string T.name, .slice (some ⟨g, off, none⟩) T.len cap] 30)
  have HBX := hid_mk hbox1
  have HBL := hid_mk hbl1
  have HB1 := hid_mk hback1
  have HS1 := hid_mk hs1
  have hlo : K.lo ≤ w.heap.size := by have := hS.lt; have := hS.ok.cl; omega
  have hfew := hS.ok.few
  have HN0 := hid_mk (hN.kid (i := 0) (by omega) hr0)
  have HN1 := hid_mk (hN.kid (i := 1) (by omega) hr1)
  have HSD := hid_mk (fun (W : World) (st : CS) (hW : IS K (w.alloc (.cells #[.int .i64 T.kind, .int .i64 T.num, .string T.name, .slice (some ⟨g, off, none⟩) T.len cap] 30)) O1 st cx.ret cx.loops sels W) (hf : st.2.length + ((T.kids 0).size + (T.kids 1).size) ≤ K.N) => isend_of hVar (A := T.kids 0) (B := T.kids 1) K _ O1 st cx.ret cx.loops sels W _ _ hW (hE.later (hbl1 _ _ _ _ _ hW)) (HN0.out.later (hbl1 _ _ _ _ _ hW)) (HN1.out.later (hbl1 _ _ _ _ _ hW)) hf he0 he1)
  have HSTS := hid_mk (fun (W : World) (st : CS) (hW : IS K (w.alloc (.cells #[.int .i64 T.kind, .int .i64 T.num, .string T.name, .slice (some ⟨g, off, none⟩) T.len cap] 30)) O1 st cx.ret cx.loops sels W) (hf : st.2.length + (T.kids 2).size ≤ K.N) (hne : st.1 ≠ []) (hd : st.1.length ≤ st.2.length) => ists_of hb (fun j hj => hrec _ (by have := kid_size (T.kids 2) hj; have := kid_size T (i := 2) (by omega); omega)) K _ O1 st cx sels W _ hcx hW (hE.later (hbl1 _ _ _ _ _ hW)) ((hN.kid (by omega) hr2).later (hbl1 _ _ _ _ _ hW)) hf ho hne hd (by have := kid_size T (i := 2) (by omega); omega) (by have := kid_size T (i := 2) (by omega); omega))
  have HNE : Hid (∀ (E : Sc) (X : List Int) s1, (mnT K.F (T.kids 2)).sts cx ([(T.name, 1)] :: E, X) = .ok s1 → s1.1 ≠ []) := by
    intro E X s1 h e
    have := ((mn_len K.F (T.kids 2)).sts ho hb cx) _ s1 (by simp) h
    rw [e] at this
    have := this.2.1
    simp at this
  have HNMX := hid_mk (name_max hN.fine)
  have HFI : Hid (∀ st : CS, st.1 = s.1 → st.2.length = s.2.length + 1 + ((T.kids 0).size + (T.kids 1).size) → st.2.length + (T.kids 2).size ≤ K.N ∧ st.1 ≠ [] ∧ st.1.length ≤ st.2.length ∧ varLen st.1 + 1 ≤ st.2.length ∧ st.1.length + 1 ≤ st.2.length) := by
    intro st e1 e2
    have := kidAt_le T s.2.length (i := 2) (by omega)
    unfold kidAt at this; simp only [sumTo] at this
    refine ⟨by omega, by rw [e1]; exact hsne, by rw [e1]; omega, by rw [e1]; omega, by rw [e1]; omega⟩
  have HF0 : Hid ((take0 s).2.length + ((T.kids 0).size + (T.kids 1).size) ≤ K.N) := by
    have := kidAt_le T s.2.length (i := 2) (by omega)
    unfold kidAt at this; simp only [sumTo] at this
    unfold Hid; rw [take0_len]; omega
  have HLW : Hid (∀ s1, CR.bind (wantM (exT K.F (T.kids 0)) 3 (take0 s)) (wantM (exT K.F (T.kids 1)) 1) = .ok s1 → s1.1 = s.1 ∧ s1.2.length = s.2.length + 1 + ((T.kids 0).size + (T.kids 1).size)) := by
    intro s1 h
    obtain ⟨r, h1, h2⟩ := bind_inv h
    obtain ⟨x1, x2⟩ := (ex_len K.F _ he0).want 3 _ _ h1
    obtain ⟨y1, y2⟩ := (ex_len K.F _ he1).want 1 _ _ h2
    rw [take0_len] at x2
    exact ⟨by rw [y1, x1]; rfl, by omega⟩
  unfold Nd.val at *
  have hgw : g < w.heap.size := by omega
  have hgw1 : g < w.heap.size + 1 := by omega
  have hgw2 : g < w.heap.size + 1 + 1 := by omega
  have hgn0 : ¬ g = w.heap.size := by omega
  have hgn1 : ¬ g = w.heap.size + 1 := by omega
  have hgn2 : ¬ g = w.heap.size + 1 + 1 := by omega
  obtain ⟨c00, c01, c02, c03⟩ := HC0.out w (Below.refl _ _)
  obtain ⟨c10, c11, c12, c13⟩ := HC1.out w (Below.refl _ _)
  obtain ⟨c20, c21, c22, c23⟩ := HC2.out w (Below.refl _ _)
  have hpos : 0 < T.len := by omega
  have hpos1 : (1 : Int) < (T.len : Int) := by omega
  have hpos1n : 1 < T.len := by omega
  have hpos2 : (2 : Int) < (T.len : Int) := by omega
  have hpos2n : 2 < T.len := by omega
  have hL1 : (T.len : Int) - 1 = 2 := by omega
  have hmix : Tryz.prog.follows Departure.mixedOrders = true := by kernel_rfl
  obtain ⟨nf1, nf2⟩ : (T.name.toList == []) = false ∧ (T.name.toList != []) = true := name_forms hnm
  rw [hnum] at *
  clear hS hE hN hs1 hback1 hbox1 hbl1 hkid hc0 hr0 hc1 hr1 hc2 hr2 hnum hl hrec hcx hfit hb ho he0 he1 hsne hd hvl hnm
  cases hM : CR.bind (wantM (exT K.F (T.kids 0)) 3 (take0 s)) (wantM (exT K.F (T.kids 1)) 1) with
  | error p =>
    have HM1 := hid_mk hM
    clear hM
    rw [CR.bind_error]
    go_enter Tryz.func125, Tryz.ntmps125
    go_wp2
    have HSX := hid_mk (HS1.out)
    obtain ⟨e00, e01, e02, e03⟩ := box_cells (HBX.out _ _ _ _ _ HS1.out)
    obtain ⟨d00, d01, d02, d03⟩ := HC0.out _ (HBL.out _ _ _ _ _ HS1.out)
    obtain ⟨d10, d11, d12, d13⟩ := HC1.out _ (HBL.out _ _ _ _ _ HS1.out)
    obtain ⟨d20, d21, d22, d23⟩ := HC2.out _ (HBL.out _ _ _ _ _ HS1.out)
    generalize w.alloc (.cells #[.int .i64 T.kind, .int .i64 2, .string T.name, .slice (some ⟨g, off, none⟩) T.len cap] 30) = wx at *
    go_still_tail 9, hmix
    go_wp2_with (first
      | (go_at_call 112; refine (ansE (HSD.out _ _ HS1.out.drew HF0.out) HM1.out).mono ?_; rintro e w2 ⟨rfl, hb2⟩; skip))
    exact ⟨rfl, rfl, (HBL.out _ _ _ _ _ HS1.out.drew).trans hb2⟩
  | ok s1 =>
    have HM1 := hid_mk hM
    clear hM
    rw [CR.bind_ok]
    obtain ⟨hi1, hi2, hi3, hi4, hi5⟩ := HFI.out s1 (HLW.out _ HM1.out).1 (HLW.out _ HM1.out).2
    have HI1 : Hid ((([(T.name, 1)] : List (ByteArray × Int)) :: s1.1, s1.2).2.length + (T.kids 2).size ≤ K.N) := hi1
    have HI3 := hid_mk hi3
    have HI4 : Hid (varLen ([] :: s1.1) + 1 ≤ s1.2.length) := by unfold Hid; rw [varLen_nil]; exact hi4
    have HI6 : Hid ((([(T.name, 1)] : List (ByteArray × Int)) :: s1.1, s1.2).1.length ≤ (([(T.name, 1)] : List (ByteArray × Int)) :: s1.1, s1.2).2.length) := by unfold Hid; simp; omega
    clear hi1 hi2 hi3 hi4 hi5
    unfold within
    cases hM : (mnT K.F (T.kids 2)).sts cx ([(T.name, 1)] :: s1.1, s1.2) with
    | error pe =>
      have HM := hid_mk hM
      clear hM
      rw [CR.bind_error]
      go_enter Tryz.func125, Tryz.ntmps125
      go_wp2
      have HSX := hid_mk (HS1.out)
      obtain ⟨e00, e01, e02, e03⟩ := box_cells (HBX.out _ _ _ _ _ HS1.out)
      obtain ⟨d00, d01, d02, d03⟩ := HC0.out _ (HBL.out _ _ _ _ _ HS1.out)
      obtain ⟨d10, d11, d12, d13⟩ := HC1.out _ (HBL.out _ _ _ _ _ HS1.out)
      obtain ⟨d20, d21, d22, d23⟩ := HC2.out _ (HBL.out _ _ _ _ _ HS1.out)
      generalize w.alloc (.cells #[.int .i64 T.kind, .int .i64 2, .string T.name, .slice (some ⟨g, off, none⟩) T.len cap] 30) = wx at *
      go_still_tail 9, hmix
      go_wp2_with (first
        | (go_at_call 112; refine (ansO (HSD.out _ _ HS1.out.drew HF0.out) HM1.out).mono ?_; rintro e w2 ⟨rfl, hs2⟩; obtain ⟨b0, b1, b2, b3⟩ := box_cells (HBX.out _ _ _ _ _ hs2); obtain ⟨c00, c01, c02, c03⟩ := HC0.out _ (HBL.out _ _ _ _ _ hs2); obtain ⟨c10, c11, c12, c13⟩ := HC1.out _ (HBL.out _ _ _ _ _ hs2); obtain ⟨c20, c21, c22, c23⟩ := HC2.out _ (HBL.out _ _ _ _ _ hs2); have HS2 := hid_mk hs2; clear hs2)
        | (go_at_call 79; refine (enter_any HS2.out HI3.out).mono ?_; rintro e x1 ⟨rfl, hx1⟩; obtain ⟨b0, b1, b2, b3⟩ := box_cells (HBX.out _ _ _ _ _ hx1); obtain ⟨c00, c01, c02, c03⟩ := HC0.out _ (HBL.out _ _ _ _ _ hx1); obtain ⟨c10, c11, c12, c13⟩ := HC1.out _ (HBL.out _ _ _ _ _ hx1); obtain ⟨c20, c21, c22, c23⟩ := HC2.out _ (HBL.out _ _ _ _ _ hx1); have HX1 := hid_mk hx1; clear hx1)
        | (go_at_call 80; refine (ansO (define_any HX1.out T.name 1 p (by simp) (by decide) HNMX.out HI4.out) rfl).mono ?_; rintro e x2 ⟨rfl, hx2q⟩; have hx2 : IS K _ O1 ([(T.name, 1)] :: s1.1, s1.2) cx.ret cx.loops sels x2 := hx2q; clear hx2q; obtain ⟨b0, b1, b2, b3⟩ := box_cells (HBX.out _ _ _ _ _ hx2); obtain ⟨c00, c01, c02, c03⟩ := HC0.out _ (HBL.out _ _ _ _ _ hx2); obtain ⟨c10, c11, c12, c13⟩ := HC1.out _ (HBL.out _ _ _ _ _ hx2); obtain ⟨c20, c21, c22, c23⟩ := HC2.out _ (HBL.out _ _ _ _ _ hx2); have HX2 := hid_mk hx2; clear hx2)
        | (go_at_call 81; refine (ansE (HSTS.out _ _ HX2.out HI1.out (by simp) HI6.out) HM.out).mono ?_; rintro e x3 ⟨rfl, hb3⟩; skip))
      exact ⟨rfl, rfl, (HBL.out _ _ _ _ _ HX2.out).trans hb3⟩
    | ok s9 =>
      have HM := hid_mk hM
      clear hM
      rw [CR.bind_ok]
      go_enter Tryz.func125, Tryz.ntmps125
      go_wp2
      have HSX := hid_mk (HS1.out)
      obtain ⟨e00, e01, e02, e03⟩ := box_cells (HBX.out _ _ _ _ _ HS1.out)
      obtain ⟨d00, d01, d02, d03⟩ := HC0.out _ (HBL.out _ _ _ _ _ HS1.out)
      obtain ⟨d10, d11, d12, d13⟩ := HC1.out _ (HBL.out _ _ _ _ _ HS1.out)
      obtain ⟨d20, d21, d22, d23⟩ := HC2.out _ (HBL.out _ _ _ _ _ HS1.out)
      generalize w.alloc (.cells #[.int .i64 T.kind, .int .i64 2, .string T.name, .slice (some ⟨g, off, none⟩) T.len cap] 30) = wx at *
      go_still_tail 9, hmix
      go_wp2_with (first
        | (go_at_call 112; refine (ansO (HSD.out _ _ HS1.out.drew HF0.out) HM1.out).mono ?_; rintro e w2 ⟨rfl, hs2⟩; obtain ⟨b0, b1, b2, b3⟩ := box_cells (HBX.out _ _ _ _ _ hs2); obtain ⟨c00, c01, c02, c03⟩ := HC0.out _ (HBL.out _ _ _ _ _ hs2); obtain ⟨c10, c11, c12, c13⟩ := HC1.out _ (HBL.out _ _ _ _ _ hs2); obtain ⟨c20, c21, c22, c23⟩ := HC2.out _ (HBL.out _ _ _ _ _ hs2); have HS2 := hid_mk hs2; clear hs2)
        | (go_at_call 79; refine (enter_any HS2.out HI3.out).mono ?_; rintro e x1 ⟨rfl, hx1⟩; obtain ⟨b0, b1, b2, b3⟩ := box_cells (HBX.out _ _ _ _ _ hx1); obtain ⟨c00, c01, c02, c03⟩ := HC0.out _ (HBL.out _ _ _ _ _ hx1); obtain ⟨c10, c11, c12, c13⟩ := HC1.out _ (HBL.out _ _ _ _ _ hx1); obtain ⟨c20, c21, c22, c23⟩ := HC2.out _ (HBL.out _ _ _ _ _ hx1); have HX1 := hid_mk hx1; clear hx1)
        | (go_at_call 80; refine (ansO (define_any HX1.out T.name 1 p (by simp) (by decide) HNMX.out HI4.out) rfl).mono ?_; rintro e x2 ⟨rfl, hx2q⟩; have hx2 : IS K _ O1 ([(T.name, 1)] :: s1.1, s1.2) cx.ret cx.loops sels x2 := hx2q; clear hx2q; obtain ⟨b0, b1, b2, b3⟩ := box_cells (HBX.out _ _ _ _ _ hx2); obtain ⟨c00, c01, c02, c03⟩ := HC0.out _ (HBL.out _ _ _ _ _ hx2); obtain ⟨c10, c11, c12, c13⟩ := HC1.out _ (HBL.out _ _ _ _ _ hx2); obtain ⟨c20, c21, c22, c23⟩ := HC2.out _ (HBL.out _ _ _ _ _ hx2); have HX2 := hid_mk hx2; clear hx2)
        | (go_at_call 81; refine (ansO (HSTS.out _ _ HX2.out HI1.out (by simp) HI6.out) HM.out).mono ?_; rintro e x3 ⟨rfl, hx3⟩; have HX3 := hid_mk hx3; clear hx3)
        | (go_at_call 82; refine (leaveI_any HX3.out (HNE.out _ _ _ HM.out)).mono ?_; rintro e x4 ⟨rfl, hx4⟩; have HX4 := hid_mk hx4; clear hx4))
      go_end0
      exact ⟨rfl, HB1.out _ _ _ _ _ HX4.out⟩
end Go.Proofs.YtbjianmjdadehaaGreatDoor
namespace Go.Proofs.YtbjianmjdadehaaGreatDoor
open Go.RowKit

theorem icl_of (hVar : IVar) {T : Nd} (hok : T.cOk = true) (f : Bool) (hnf : ¬ (T.num = 0 ∧ f = true)) (hrec : ∀ U : Nd, U.size < T.size → IStS U) (K : IK) (w0 : World) (O : Nat → Prop) (s : CS) (cx : Cx) (sels : Nat) (w : World) (v : Value) (p : Nat) (hcx : cx.outs = cx.loops + sels) (hS : IS K w0 O (take0 s) cx.ret cx.loops sels w) (hE : IEnv K w) (hN : INd K w T v) (hfit : s.2.length + T.size ≤ K.N) (hsne : s.1 ≠ []) (hd : s.1.length + 1 ≤ s.2.length) (hvl : varLen s.1 ≤ s.2.length) (hlo1 : cx.loops + T.size ≤ 1099511627776 + 1) (hou1 : sels + T.size ≤ 1099511627776 + 1) :
    Calls Tryz.prog 125 #[.pointer (some ⟨K.cb, 0, none⟩), T.val v, .int .i64 p] w (Ans K w ((mnT K.F T).cs f cx s) fun s1 e w1 => e = .returned (.tuple #[]) ∧ IS K w0 O s1 cx.ret cx.loops sels w1) := by
  obtain ⟨hk, hn, hb4, hbo⟩ := co_of hok
  have hnm : nmL T = if emptyB T.name then [] else [(T.name, 1)] := rfl
  rcases hn with ⟨h0, hl⟩ | ⟨h1, hl, he0⟩ | ⟨h2, hl, he0, he1⟩
  · have hf : f = false := by cases f with | false => rfl | true => exact absurd ⟨h0, rfl⟩ hnf
    subst hf
    rw [cs_0n hk h0 hl, hnm]
    rw [hl] at hb4 hbo
    cases he : emptyB T.name with
    | true => exact icl_0e hVar h0 hl hb4 hbo he hrec K w0 O s cx sels w v p hcx hS hE hN hfit hsne hd hvl hlo1 hou1
    | false => exact icl_0n hVar h0 hl hb4 hbo he hrec K w0 O s cx sels w v p hcx hS hE hN hfit hsne hd hvl hlo1 hou1
  · rw [cs_1 hk h1 hl, hnm]
    rw [hl] at hb4 hbo
    cases he : emptyB T.name with
    | true => exact icl_1e hVar h1 hl he0 hb4 hbo he hrec K w0 O s cx sels w v p hcx hS hE hN hfit hsne hd hvl hlo1 hou1
    | false => exact icl_1n hVar h1 hl he0 hb4 hbo he hrec K w0 O s cx sels w v p hcx hS hE hN hfit hsne hd hvl hlo1 hou1
  · have e2 : (mnT K.F T).cs f cx s = CR.bind (CR.bind (wantM (exT K.F (T.kids 0)) 3 (take0 s)) (wantM (exT K.F (T.kids 1)) 1)) (within (nmL T) ((mnT K.F (T.kids 2)).sts cx)) := by
      rw [cs_2 hk h2 hl]
      cases wantM (exT K.F (T.kids 0)) 3 (take0 s) <;> rfl
    rw [e2, hnm]
    rw [hl] at hb4 hbo
    cases he : emptyB T.name with
    | true => exact icl_2e hVar h2 hl he0 he1 hb4 hbo he hrec K w0 O s cx sels w v p hcx hS hE hN hfit hsne hd hvl hlo1 hou1
    | false => exact icl_2n hVar h2 hl he0 he1 hb4 hbo he hrec K w0 O s cx sels w v p hcx hS hE hN hfit hsne hd hvl hlo1 hou1

set_option maxHeartbeats 8000000 in
set_option maxRecDepth 100000 in
theorem icho_of (hVar : IVar) {T : Nd} (hk : T.kind = 15) (hrec : ∀ U : Nd, U.size < T.size → IStS U) (K : IK) (w0 : World) (O : Nat → Prop) (s : CS) (cx : Cx) (sels : Nat) (w : World) (v : Value) (hcx : cx.outs = cx.loops + sels) (hS : IS K w0 O (take0 s) cx.ret cx.loops sels w) (hE : IEnv K w) (hN : INd K w T v) (hfit : s.2.length + T.size ≤ K.N) (hok : T.sOk = true) (hsne : s.1 ≠ []) (hd : s.1.length + 1 ≤ s.2.length) (hlo1 : cx.loops + T.size ≤ 1099511627776) (hou1 : sels + T.size ≤ 1099511627776) :
    Calls Tryz.prog 117 #[.pointer (some ⟨K.cb, 0, none⟩), T.val v] w (Ans K w (csC K.F T ⟨cx.ret, cx.loops, cx.outs + 1⟩ (take0 s) T.len) fun s1 e w1 => e = .returned (.tuple #[]) ∧ IS K w0 O s1 cx.ret cx.loops sels w1) := by
  have hco := so_15 hk hok
  have hn := T.fine_len hN.fine
  obtain ⟨a, cap, hv, hcap, hq⟩ := row_eq.1 hN.row
  subst hv
  obtain ⟨O1, hs1, hback1, hbox1, hbl1⟩ := hS.boxed (.cells #[.int .i64 T.kind, .int .i64 T.num, .string T.name, .slice a T.len cap] 30)
  have HBX := hid_mk hbox1
  have HBL := hid_mk hbl1
  have HB1 := hid_mk hback1
  have HSS1 := hid_mk (hs1.setN ((sels : Int) + 1)).2
  obtain ⟨n4, n7, n8, fr7, fr8⟩ := hs1.nums
  have hfew := hS.ok.few
  have HKID := hid_mk (fun (h0 : T.len ≠ 0) => ck_kid hN.row h0)
  have HCT : Hid (∀ j st, j ≤ T.len → csC K.F T ⟨cx.ret, cx.loops, cx.outs + 1⟩ (take0 s) j = .ok st → st.2.length = kidAt T s.2.length j ∧ st.1 ≠ [] ∧ st.1.length + 1 ≤ st.2.length) := by
    intro j st hj h
    obtain ⟨r1, r2⟩ := csC_at (F := K.F) (cx := ⟨cx.ret, cx.loops, cx.outs + 1⟩) hco hsne hj st h
    obtain ⟨_, r3, _, _⟩ := (StL.forN (g := fun i => (T.kids i).size) (fun i hi => (mn_len K.F (T.kids i)).cs (hco i hi) _ _) hj) (take0 s) st hsne h
    refine ⟨r1, r2, ?_⟩
    have e3 : st.1.length = s.1.length := r3
    have : kidAt T s.2.length j ≥ s.2.length + 1 := by unfold kidAt; omega
    omega
  have HIC := hid_mk (fun (j : Nat) (hj : j < T.len) (f : Bool) (hnf : ¬ ((T.kids j).num = 0 ∧ f = true)) (u : Value) (hr : Row 0 K.lo w (T.kids j) u) (w9 : World) (O9 : Nat → Prop) (W : World) (st : CS) (p : Nat) (hW : IS K w9 O9 (take0 st) cx.ret cx.loops ((sels : Int) + 1) W) (hb : Below K.lo w W) (hfj : st.2.length + (T.kids j).size ≤ K.N) (hne : st.1 ≠ []) (hdd : st.1.length + 1 ≤ st.2.length) (hvv : varLen st.1 ≤ st.2.length) => icl_of hVar (hco j hj) f hnf (fun U hU => hrec U (by have := kid_size T hj; omega)) K w9 O9 st ⟨cx.ret, cx.loops, cx.outs + 1⟩ (sels + 1) W u p (show cx.outs + 1 = cx.loops + (sels + 1) by omega) hW (hE.later hb) ((hN.kid hj hr).later hb) hfj hne hdd hvv (by have := kid_size T hj; show cx.loops + _ ≤ _; omega) (by have := kid_size T hj; omega))
  have HKS := hid_mk (fun i (h : i < T.len) => kidAt_le T s.2.length h)
  have hsb : sels ≤ 1099511627776 := by omega
  have hcbn : ¬ K.cb = w.heap.size := by have := hS.lt; omega
  have hcbm : ¬ w.heap.size = K.cb := by have := hS.lt; omega
  unfold Nd.val at *
  have HCO := hid_mk hco
  clear hS hE hN hs1 hback1 hbox1 hbl1 hok hk hq hrec hsne hd hco hcx
  generalize s.2.length = q at *
  go_enter Tryz.func117, Tryz.ntmps117
  go_wp2
  go_loopw [4, 19] (fun hd i wr => ∃ j : Nat, j ≤ T.len ∧ i = .int .i64 j ∧ hd = .bool (fnd T j) ∧ ∃ st, csC K.F T ⟨cx.ret, cx.loops, cx.outs + 1⟩ (take0 s) j = .ok st ∧ IS K (w.alloc (.cells #[.int .i64 T.kind, .int .i64 T.num, .string T.name, .slice a T.len cap] 30)) O1 st cx.ret cx.loops ((sels : Int) + 1) wr) (fun _ i _ => T.len - (intOf i).toNat)
  case atStart => exact ⟨0, Nat.zero_le _, rfl, rfl, take0 s, rfl, HSS1.out⟩
  case round =>
    obtain ⟨j, hj, rfl, rfl, st, hst, hss⟩ := hrel
    by_cases hlt : j < T.len
    · have hji : (j : Int) < (T.len : Int) := by omega
      obtain ⟨g, off, cap', hv', hgl, hcap', hkid⟩ := HKID.out (by omega)
      injection hv' with ev1 ev2 ev3
      subst ev1
      subst ev3
      obtain ⟨u, hcn, hrn⟩ := hkid j hlt
      obtain ⟨au, qu, hu, hcu, hqu⟩ := row_eq.1 hrn
      subst hu
      clear hqu
      obtain ⟨c0, c1, c2, c3⟩ := hcn _ (HBL.out _ _ _ _ _ hss)
      obtain ⟨hp1, hp2, hp3⟩ := HCT.out j st hj hst
      have hks := HKS.out j hlt
      have hsz0 : 0 < (T.kids j).size := by rw [(T.kids j).size_eq]; omega
      obtain ⟨O2, hx1, hbk2, hbx2, hbl2⟩ := hss.boxed (.cells #[.int .i64 (T.kids j).kind, .int .i64 (T.kids j).num, .string (T.kids j).name, .slice au (T.kids j).len qu] 30)
      have HTK := hid_mk (take_any hx1 (by omega))
      have hvv := hss.len.vars
      have HBA := hid_mk (fun s' r' l' o' W (h : IS K (wr.alloc (.cells #[.int .i64 (T.kids j).kind, .int .i64 (T.kids j).num, .string (T.kids j).name, .slice au (T.kids j).len qu] 30)) O2 s' r' l' o' W) => HBL.out _ _ _ _ _ (hbk2 _ _ _ _ _ h))
      have HBK2 := hid_mk hbk2
      have HBX2 := hid_mk hbx2
      have HCL := hid_mk (fun (f : Bool) (hnf : ¬ ((T.kids j).num = 0 ∧ f = true)) (W : World) (hW : IS K (wr.alloc (.cells #[.int .i64 (T.kids j).kind, .int .i64 (T.kids j).num, .string (T.kids j).name, .slice au (T.kids j).len qu] 30)) O2 (take0 st) cx.ret cx.loops ((sels : Int) + 1) W) => HIC.out j hlt f hnf _ hrn _ O2 W st st.2.length hW (HBA.out _ _ _ _ _ hW) (by omega) hp2 hp3 hvv)
      have HNX : Hid (csC K.F T ⟨cx.ret, cx.loops, cx.outs + 1⟩ (take0 s) (j + 1) = (mnT K.F (T.kids j)).cs (fnd T j) ⟨cx.ret, cx.loops, cx.outs + 1⟩ st) := by unfold Hid; rw [csC_succ, hst]; rfl
      have HFN : Hid (fnd T (j + 1) = (fnd T j || decide ((T.kids j).num = 0))) := rfl
      have HKD : Hid ((T.kids j).kind = 16) := (co_of (HCO.out j hlt)).1
      unfold Nd.val at HCL
      clear hkid hcn hrn hss hx1 hbk2 hbx2 hbl2 hst hvv hp1 hp2 hp3
      generalize T.kids j = D at *
      by_cases hbad : D.num = 0 ∧ fnd T j = true
      · obtain ⟨h0, hfj⟩ := hbad
        have e1 : (D.num == 0) = true := beq_iff_eq.2 h0
        have HER : Hid (csC K.F T ⟨cx.ret, cx.loops, cx.outs + 1⟩ (take0 s) T.len = .error (6, st.2.length)) := csC_err (by rw [HNX.out, hfj]; exact cs_0f HKD.out h0) (show j + 1 ≤ T.len by omega)
        generalize fnd T j = fj at *
        subst hfj
        clear h0
        go_wp2_with (first
          | (go_at_call 60; refine HTK.out.mono ?_; rintro e x2 ⟨rfl, hx2⟩; obtain ⟨b0, b1, b2, b3⟩ := box_cells (HBX2.out _ _ _ _ _ hx2); have HX2 := hid_mk hx2; clear hx2))
        refine ⟨rfl, ?_⟩
        rw [ans_err HER.out]
        exact ⟨rfl, HBA.out _ _ _ _ _ HX2.out⟩
      · have HBAD := hid_mk hbad
        clear hbad
        cases hM : (mnT K.F D).cs (fnd T j) ⟨cx.ret, cx.loops, cx.outs + 1⟩ st with
        | error p =>
          have HM := hid_mk hM
          have HER : Hid (csC K.F T ⟨cx.ret, cx.loops, cx.outs + 1⟩ (take0 s) T.len = .error p) := csC_err (by rw [HNX.out]; exact hM) (show j + 1 ≤ T.len by omega)
          clear hM
          have HCC := hid_mk (fun W hW => ansE (HCL.out (fnd T j) HBAD.out W hW) HM.out)
          have hcase : (fnd T j = true ∧ (D.num == 0) = false) ∨ (fnd T j = false ∧ (D.num == 0) = true) ∨ (fnd T j = false ∧ (D.num == 0) = false) := by
            by_cases h0 : D.num = 0
            · cases hf : fnd T j with
              | true => exact absurd ⟨h0, hf⟩ HBAD.out
              | false => exact .inr (.inl ⟨rfl, beq_iff_eq.2 h0⟩)
            · cases hf : fnd T j with
              | true => exact .inl ⟨rfl, beq_eq_false_iff_ne.2 h0⟩
              | false => exact .inr (.inr ⟨rfl, beq_eq_false_iff_ne.2 h0⟩)
          clear HCL HNX HFN HBAD HM
          generalize fnd T j = fj at *
          rcases hcase with ⟨rfl, e1⟩ | ⟨rfl, e1⟩ | ⟨rfl, e1⟩
          all_goals go_wp2_with (first
            | (go_at_call 60; refine HTK.out.mono ?_; rintro e x2 ⟨rfl, hx2⟩; obtain ⟨b0, b1, b2, b3⟩ := box_cells (HBX2.out _ _ _ _ _ hx2); have HX2 := hid_mk hx2; clear hx2)
            | (go_at_call 125; refine (HCC.out _ HX2.out).mono ?_; rintro e x3 ⟨rfl, hb3⟩; skip))
          all_goals refine ⟨rfl, ?_⟩
          all_goals rw [ans_err HER.out]
          all_goals exact ⟨rfl, (HBA.out _ _ _ _ _ HX2.out).trans hb3⟩
        | ok s1 =>
          have HM := hid_mk hM
          clear hM
          have HCC := hid_mk (fun W hW => ansO (HCL.out (fnd T j) HBAD.out W hW) HM.out)
          have HNXT : Hid (csC K.F T ⟨cx.ret, cx.loops, cx.outs + 1⟩ (take0 s) (j + 1) = .ok s1) := HNX.out.trans HM.out
          have hcase : (fnd T j = true ∧ (D.num == 0) = false ∧ fnd T (j + 1) = true) ∨ (fnd T j = false ∧ (D.num == 0) = true ∧ fnd T (j + 1) = true) ∨ (fnd T j = false ∧ (D.num == 0) = false ∧ fnd T (j + 1) = false) := by
            rw [HFN.out]
            by_cases h0 : D.num = 0
            · cases hf : fnd T j with
              | true => exact absurd ⟨h0, hf⟩ HBAD.out
              | false => exact .inr (.inl ⟨rfl, beq_iff_eq.2 h0, by rw [decide_eq_true h0]; rfl⟩)
            · cases hf : fnd T j with
              | true => exact .inl ⟨rfl, beq_eq_false_iff_ne.2 h0, rfl⟩
              | false => exact .inr (.inr ⟨rfl, beq_eq_false_iff_ne.2 h0, by rw [decide_eq_false h0]; rfl⟩)
          clear HCL HNX HFN HBAD HM
          generalize fnd T j = fj at *
          rcases hcase with ⟨rfl, e1, e9⟩ | ⟨rfl, e1, e9⟩ | ⟨rfl, e1, e9⟩
          all_goals have H9 := hid_mk e9
          all_goals clear e9
          all_goals go_wp2_with (first
            | (go_at_call 60; refine HTK.out.mono ?_; rintro e x2 ⟨rfl, hx2⟩; obtain ⟨b0, b1, b2, b3⟩ := box_cells (HBX2.out _ _ _ _ _ hx2); have HX2 := hid_mk hx2; clear hx2)
            | (go_at_call 125; refine (HCC.out _ HX2.out).mono ?_; rintro e x3 ⟨rfl, hx3⟩; have HX3 := hid_mk (HBK2.out _ _ _ _ _ hx3); clear hx3))
          all_goals exact ⟨⟨j + 1, by omega, by go_num, by rw [H9.out], s1, HNXT.out, HX3.out⟩, by simp [intOf]; omega⟩
    · obtain rfl : j = T.len := by omega
      obtain ⟨m4, m7, m8, gr7, gr8⟩ := hss.nums
      have HSS := hid_mk (hss.setN (sels : Int)).2
      have HST := hid_mk hst
      clear hss hst
      go_wp2
      go_end0
      rw [ans_ok HST.out]
      exact ⟨rfl, HB1.out _ _ _ _ _ HSS.out⟩
end Go.Proofs.YtbjianmjdadehaaGreatDoor
