/- The program's checker: if with else. Written by mkci.py. -/
import Derived.Test.YtbjianmjdadehaaGreatDoorKfA
import Derived.Test.YtbjianmjdadehaaGreatDoorKfB
set_option linter.unusedVariables false
namespace Go.Proofs.YtbjianmjdadehaaGreatDoor
open Go.RowKit

set_option maxHeartbeats 4000000 in
set_option maxRecDepth 100000 in
theorem iif_b (hVar : IVar) {T : Nd} (hk : T.kind = 10) (hl : T.len = 3) (hrec : ∀ U : Nd, U.size < T.size → IStS U) (K : IK) (w0 : World) (O : Nat → Prop) (s : CS) (cx : Cx) (sels : Nat) (w : World) (v : Value) (hcx : cx.outs = cx.loops + sels) (hS : IS K w0 O (take0 s) cx.ret cx.loops sels w) (hE : IEnv K w) (hN : INd K w T v) (hfit : s.2.length + T.size ≤ K.N) (hok : T.sOk = true) (hsne : s.1 ≠ []) (hd : s.1.length + 1 ≤ s.2.length) (hlo1 : cx.loops + T.size ≤ 1099511627776) (hou1 : sels + T.size ≤ 1099511627776) :
    Calls Tryz.prog 114 #[.pointer (some ⟨K.cb, 0, none⟩), T.val v] w (Ans K w (CR.bind (wantM (exT K.F (T.kids 0)) 2 (take0 s)) fun s1 => CR.bind (within [] ((mnT K.F (T.kids 1)).sts cx) s1) ((mnT K.F (T.kids 2)).st cx)) fun s1 e w1 => e = .returned (.tuple #[]) ∧ IS K w0 O s1 cx.ret cx.loops sels w1) := by
  obtain ⟨_, he0, ⟨hb1, ho1⟩, h2⟩ := so_10 hk hok
  have ho2 := (h2 hl).2
  have HCX := hid_mk hcx
  obtain ⟨g, off, cap, hv, hgl, hcap, hkid⟩ := ck_kid hN.row (by omega)
  subst hv
  obtain ⟨u0, hc0, hr0⟩ := hkid 0 (by omega)
  simp only [Nat.zero_mul, Nat.add_zero] at hc0
  have HC0 := hid_mk hc0
  obtain ⟨u1, hc1, hr1⟩ := hkid 1 (by omega)
  simp only [Nat.one_mul] at hc1
  have HC1 := hid_mk hc1
  obtain ⟨u2, hc2, hr2⟩ := hkid 2 (by omega)
  simp only [Nat.reduceMul] at hc2
  have HC2 := hid_mk hc2
  obtain ⟨O1, hs1, hback1, hbox1, hbl1⟩ := hS.boxed (.cells #[.int .i64 T.kind, .int .i64 T.num, .string T.name, .slice (some ⟨g, off, none⟩) T.len cap] 30)
  have HBX := hid_mk hbox1
  have HBL := hid_mk hbl1
  have HB1 := hid_mk hback1
  have HS1 := hid_mk hs1
  have hlo : K.lo ≤ w.heap.size := by have := hS.lt; have := hS.ok.cl; omega
  have hfew := hS.ok.few
  have HW0 := hid_mk (fun (W : World) (st : CS) (r l o : Int) (ty : Int) (hW : IS K (w.alloc (.cells #[.int .i64 T.kind, .int .i64 T.num, .string T.name, .slice (some ⟨g, off, none⟩) T.len cap] 30)) O1 st r l o W) (hf : st.2.length + (T.kids 0).size ≤ K.N) => iwant_of (iex_every hVar (T.kids 0)) K _ O1 st r l o W u0 ty hW (hE.later (hbl1 _ _ _ _ _ hW)) ((hN.kid (by omega) hr0).later (hbl1 _ _ _ _ _ hW)) hf he0)
  have HK1 := hid_mk (fun (W : World) (st : CS) (hW : IS K (w.alloc (.cells #[.int .i64 T.kind, .int .i64 T.num, .string T.name, .slice (some ⟨g, off, none⟩) T.len cap] 30)) O1 st cx.ret cx.loops sels W) (hf : st.2.length + (T.kids 1).size ≤ K.N) (hd : st.1.length + 1 ≤ st.2.length) => iblk_of hb1 (fun j hj => hrec _ (by have := kid_size (T.kids 1) hj; have := kid_size T (i := 1) (by omega); omega)) K _ O1 st cx sels W u1 HCX.out hW (hE.later (hbl1 _ _ _ _ _ hW)) ((hN.kid (by omega) hr1).later (hbl1 _ _ _ _ _ hW)) hf ho1 hd (by have := kid_size T (i := 1) (by omega); omega) (by have := kid_size T (i := 1) (by omega); omega))
  have HT2 := hid_mk (fun (W : World) (st : CS) (hW : IS K (w.alloc (.cells #[.int .i64 T.kind, .int .i64 T.num, .string T.name, .slice (some ⟨g, off, none⟩) T.len cap] 30)) O1 st cx.ret cx.loops sels W) (hf : st.2.length + (T.kids 2).size ≤ K.N) (hne : st.1 ≠ []) (hd : st.1.length + 1 ≤ st.2.length) => hrec (T.kids 2) (by have := kid_size T (i := 2) (by omega); omega) K _ O1 st cx sels W u2 HCX.out hW (hE.later (hbl1 _ _ _ _ _ hW)) ((hN.kid (by omega) hr2).later (hbl1 _ _ _ _ _ hW)) hf ho2 hne hd (by have := kid_size T (i := 2) (by omega); omega) (by have := kid_size T (i := 2) (by omega); omega))
  have HF0 := hid_mk (take_fit hfit (i := 0) (by omega))
  have HX1 : Hid (∀ s1, wantM (exT K.F (T.kids 0)) 2 (take0 s) = .ok s1 → s1.2.length + (T.kids 1).size ≤ K.N ∧ s1.1.length + 1 ≤ s1.2.length ∧ s1.1 ≠ [] ∧ s1.2.length + (T.kids 1).size + (T.kids 2).size ≤ K.N) := by
    intro s1 h
    obtain ⟨q1, q2⟩ := (ex_len K.F _ he0).want 2 _ _ h
    have := kidAt_le T s.2.length (i := 2) (by omega)
    unfold kidAt at this; simp only [sumTo] at this
    rw [take0_len] at q2
    refine ⟨by omega, ?_, by rw [q1]; exact hsne, by omega⟩
    rw [q1]; show s.1.length + 1 ≤ _; omega
  have HX2 : Hid (∀ s1 s2, s1.1 ≠ [] → within [] ((mnT K.F (T.kids 1)).sts cx) s1 = .ok s2 → s2.1 = s1.1 ∧ s2.2.length = s1.2.length + (T.kids 1).size) := by
    intro s1 s2 hne h
    exact ((mn_len K.F (T.kids 1)).sts ho1 hb1 cx).within [] (by simp) s1 s2 h
  unfold Nd.val at *
  have hgw : g < w.heap.size := by omega
  have hgw1 : g < w.heap.size + 1 := by omega
  have hgw2 : g < w.heap.size + 1 + 1 := by omega
  have hgn0 : ¬ g = w.heap.size := by omega
  have hgn1 : ¬ g = w.heap.size + 1 := by omega
  have hgn2 : ¬ g = w.heap.size + 1 + 1 := by omega
  obtain ⟨c00, c01, c02, c03⟩ := HC0.out w (Below.refl _ _)
  obtain ⟨c10, c11, c12, c13⟩ := HC1.out w (Below.refl _ _)
  obtain ⟨c20, c21, c22, c23⟩ := HC2.out w (Below.refl _ _)
  have hpos : 0 < T.len := by omega
  have hpos1 : (1 : Int) < (T.len : Int) := by omega
  have hpos1n : 1 < T.len := by omega
  have hpos2 : (2 : Int) < (T.len : Int) := by omega
  have hpos2n : 2 < T.len := by omega
  have hl3 : ((T.len : Int) == 3) = true := beq_iff_eq.2 (by omega)
  clear hS hE hN hs1 hback1 hbox1 hbl1 hkid hc0 hr0 hc1 hr1 hc2 hr2 hok hk hl hrec hcx hfit hb1 ho1 he0 h2 ho2
  cases hM : wantM (exT K.F (T.kids 0)) 2 (take0 s) with
  | error p =>
    have HM := hid_mk hM
    clear hM
    rw [CR.bind_error]
    go_enter Tryz.func114, Tryz.ntmps114
    go_wp2_with (first
      | (go_at_call 109; refine (ansE (HW0.out _ _ _ _ _ 2 HS1.out HF0.out) HM.out).mono ?_; rintro e w2 ⟨rfl, hb2⟩; skip))
    exact ⟨rfl, rfl, (HBL.out _ _ _ _ _ HS1.out).trans hb2⟩
  | ok s1 =>
    have HM1 := hid_mk hM
    clear hM
    rw [CR.bind_ok]
    obtain ⟨hx1, hx2, hx3, hx4⟩ := HX1.out _ HM1.out
    have HX := hid_mk hx1
    have HD := hid_mk hx2
    have HZ := hid_mk hx4
    have HNE := hid_mk hx3
    clear hx1 hx2 hx3 hx4
    cases hM : within [] ((mnT K.F (T.kids 1)).sts cx) s1 with
    | error p =>
      have HM := hid_mk hM
      clear hM
      rw [CR.bind_error]
      go_enter Tryz.func114, Tryz.ntmps114
      go_wp2_with (first
        | (go_at_call 109; refine (ansO (HW0.out _ _ _ _ _ 2 HS1.out HF0.out) HM1.out).mono ?_; rintro e w2 ⟨rfl, hs2⟩; obtain ⟨b0, b1, b2, b3⟩ := box_cells (HBX.out _ _ _ _ _ hs2); obtain ⟨c00, c01, c02, c03⟩ := HC0.out _ (HBL.out _ _ _ _ _ hs2); obtain ⟨c10, c11, c12, c13⟩ := HC1.out _ (HBL.out _ _ _ _ _ hs2); obtain ⟨c20, c21, c22, c23⟩ := HC2.out _ (HBL.out _ _ _ _ _ hs2); have HS2 := hid_mk hs2; clear hs2)
        | (go_at_call 107; refine (ansE (HK1.out _ _ HS2.out HX.out HD.out) HM.out).mono ?_; rintro e w3 ⟨rfl, hb3⟩; skip))
      exact ⟨rfl, rfl, (HBL.out _ _ _ _ _ HS2.out).trans hb3⟩
    | ok s2 =>
      have HM2 := hid_mk hM
      clear hM
      rw [CR.bind_ok]
      have HF2 : Hid (s2.2.length + (T.kids 2).size ≤ K.N) := by have := (HX2.out s1 s2 HNE.out HM2.out).2; have := HZ.out; unfold Hid; omega
      have HN2 : Hid (s2.1 ≠ []) := by have := (HX2.out s1 s2 HNE.out HM2.out).1; unfold Hid; rw [this]; exact HNE.out
      have HD2 : Hid (s2.1.length + 1 ≤ s2.2.length) := by have := HX2.out s1 s2 HNE.out HM2.out; have := HD.out; unfold Hid; rw [(HX2.out s1 s2 HNE.out HM2.out).1]; omega
      cases hM : (mnT K.F (T.kids 2)).st cx s2 with
      | error p =>
        have HM := hid_mk hM
        clear hM
        go_enter Tryz.func114, Tryz.ntmps114
        go_wp2_with (first
          | (go_at_call 109; refine (ansO (HW0.out _ _ _ _ _ 2 HS1.out HF0.out) HM1.out).mono ?_; rintro e w2 ⟨rfl, hs2⟩; obtain ⟨b0, b1, b2, b3⟩ := box_cells (HBX.out _ _ _ _ _ hs2); obtain ⟨c00, c01, c02, c03⟩ := HC0.out _ (HBL.out _ _ _ _ _ hs2); obtain ⟨c10, c11, c12, c13⟩ := HC1.out _ (HBL.out _ _ _ _ _ hs2); obtain ⟨c20, c21, c22, c23⟩ := HC2.out _ (HBL.out _ _ _ _ _ hs2); have HS2 := hid_mk hs2; clear hs2)
          | (go_at_call 107; refine (ansO (HK1.out _ _ HS2.out HX.out HD.out) HM2.out).mono ?_; rintro e w3 ⟨rfl, hs3⟩; obtain ⟨b0, b1, b2, b3⟩ := box_cells (HBX.out _ _ _ _ _ hs3); obtain ⟨c00, c01, c02, c03⟩ := HC0.out _ (HBL.out _ _ _ _ _ hs3); obtain ⟨c10, c11, c12, c13⟩ := HC1.out _ (HBL.out _ _ _ _ _ hs3); obtain ⟨c20, c21, c22, c23⟩ := HC2.out _ (HBL.out _ _ _ _ _ hs3); have HS3 := hid_mk hs3; clear hs3)
          | (go_at_call 97; refine (ansE (HT2.out _ _ HS3.out HF2.out HN2.out HD2.out) HM.out).mono ?_; rintro e w4 ⟨rfl, hb4⟩; skip))
        exact ⟨rfl, rfl, (HBL.out _ _ _ _ _ HS3.out).trans hb4⟩
      | ok s3 =>
        have HM := hid_mk hM
        clear hM
        go_enter Tryz.func114, Tryz.ntmps114
        go_wp2_with (first
          | (go_at_call 109; refine (ansO (HW0.out _ _ _ _ _ 2 HS1.out HF0.out) HM1.out).mono ?_; rintro e w2 ⟨rfl, hs2⟩; obtain ⟨b0, b1, b2, b3⟩ := box_cells (HBX.out _ _ _ _ _ hs2); obtain ⟨c00, c01, c02, c03⟩ := HC0.out _ (HBL.out _ _ _ _ _ hs2); obtain ⟨c10, c11, c12, c13⟩ := HC1.out _ (HBL.out _ _ _ _ _ hs2); obtain ⟨c20, c21, c22, c23⟩ := HC2.out _ (HBL.out _ _ _ _ _ hs2); have HS2 := hid_mk hs2; clear hs2)
          | (go_at_call 107; refine (ansO (HK1.out _ _ HS2.out HX.out HD.out) HM2.out).mono ?_; rintro e w3 ⟨rfl, hs3⟩; obtain ⟨b0, b1, b2, b3⟩ := box_cells (HBX.out _ _ _ _ _ hs3); obtain ⟨c00, c01, c02, c03⟩ := HC0.out _ (HBL.out _ _ _ _ _ hs3); obtain ⟨c10, c11, c12, c13⟩ := HC1.out _ (HBL.out _ _ _ _ _ hs3); obtain ⟨c20, c21, c22, c23⟩ := HC2.out _ (HBL.out _ _ _ _ _ hs3); have HS3 := hid_mk hs3; clear hs3)
          | (go_at_call 97; refine (ansO (HT2.out _ _ HS3.out HF2.out HN2.out HD2.out) HM.out).mono ?_; rintro e w4 ⟨rfl, hs4⟩; have HS4 := hid_mk hs4; clear hs4))
        go_end0
        exact ⟨rfl, HB1.out _ _ _ _ _ HS4.out⟩
end Go.Proofs.YtbjianmjdadehaaGreatDoor
namespace Go.Proofs.YtbjianmjdadehaaGreatDoor
open Go.RowKit

set_option maxHeartbeats 4000000 in
set_option maxRecDepth 100000 in
theorem iloop_a (hVar : IVar) {T : Nd} (hk : T.kind = 11) (hl : T.len = 1) (hb0 : (T.kids 0).kind = 4) (ho0 : (T.kids 0).sOk = true) (hrec : ∀ U : Nd, U.size < T.size → IStS U) (K : IK) (w0 : World) (O : Nat → Prop) (s : CS) (cx : Cx) (sels : Nat) (w : World) (v : Value) (hcx : cx.outs = cx.loops + sels) (hS : IS K w0 O (take0 s) cx.ret cx.loops sels w) (hE : IEnv K w) (hN : INd K w T v) (hfit : s.2.length + T.size ≤ K.N) (hok : T.sOk = true) (hsne : s.1 ≠ []) (hd : s.1.length + 1 ≤ s.2.length) (hlo1 : cx.loops + T.size ≤ 1099511627776) (hou1 : sels + T.size ≤ 1099511627776) :
    Calls Tryz.prog 115 #[.pointer (some ⟨K.cb, 0, none⟩), T.val v] w (Ans K w (within [] ((mnT K.F (T.kids 0)).sts ⟨cx.ret, cx.loops + 1, cx.outs + 1⟩) (take0 s)) fun s1 e w1 => e = .returned (.tuple #[]) ∧ IS K w0 O s1 cx.ret cx.loops sels w1) := by
  have HCX : Hid ((⟨cx.ret, cx.loops + 1, cx.outs + 1⟩ : Cx).outs = (⟨cx.ret, cx.loops + 1, cx.outs + 1⟩ : Cx).loops + sels) := by show cx.outs + 1 = cx.loops + 1 + sels; omega
  obtain ⟨g, off, cap, hv, hgl, hcap, hkid⟩ := ck_kid hN.row (by omega)
  subst hv
  obtain ⟨u0, hc0, hr0⟩ := hkid 0 (by omega)
  simp only [Nat.zero_mul, Nat.add_zero] at hc0
  have HC0 := hid_mk hc0
  obtain ⟨O1, hs1, hback1, hbox1, hbl1⟩ := hS.boxed (.cells #[.int .i64 T.kind, .int .i64 T.num, .string T.name, .slice (some ⟨g, off, none⟩) T.len cap] 30)
  have HBX := hid_mk hbox1
  have HBL := hid_mk hbl1
  have HB1 := hid_mk hback1
  have HS1 := hid_mk hs1
  have hlo : K.lo ≤ w.heap.size := by have := hS.lt; have := hS.ok.cl; omega
  have hfew := hS.ok.few
  have HK0 := hid_mk (fun (W : World) (st : CS) (hW : IS K (w.alloc (.cells #[.int .i64 T.kind, .int .i64 T.num, .string T.name, .slice (some ⟨g, off, none⟩) T.len cap] 30)) O1 st cx.ret ((cx.loops : Int) + 1) sels W) (hf : st.2.length + (T.kids 0).size ≤ K.N) (hd : st.1.length + 1 ≤ st.2.length) => iblk_of hb0 (fun j hj => hrec _ (by have := kid_size (T.kids 0) hj; have := kid_size T (i := 0) (by omega); omega)) K _ O1 st ⟨cx.ret, cx.loops + 1, cx.outs + 1⟩ sels W u0 HCX.out hW (hE.later (hbl1 _ _ _ _ _ hW)) ((hN.kid (by omega) hr0).later (hbl1 _ _ _ _ _ hW)) hf ho0 hd (by have := kid_size T (i := 0) (by omega); show cx.loops + 1 + _ ≤ _; omega) (by have := kid_size T (i := 0) (by omega); omega))
  have HF0 := hid_mk (take_fit hfit (i := 0) (by omega))
  have HD0 : Hid ((take0 s).1.length + 1 ≤ (take0 s).2.length) := by unfold Hid; rw [take0_len]; show s.1.length + 1 ≤ _; omega
  unfold Nd.val at *
  have hgw : g < w.heap.size := by omega
  have hgw1 : g < w.heap.size + 1 := by omega
  have hgw2 : g < w.heap.size + 1 + 1 := by omega
  have hgn0 : ¬ g = w.heap.size := by omega
  have hgn1 : ¬ g = w.heap.size + 1 := by omega
  have hgn2 : ¬ g = w.heap.size + 1 + 1 := by omega
  obtain ⟨c00, c01, c02, c03⟩ := HC0.out w (Below.refl _ _)
  have hpos : 0 < T.len := by omega
  have hL1 : (T.len : Int) - 1 = 0 := by omega
  have hlb : cx.loops ≤ 1099511627776 := by omega
  have hcbn : ¬ K.cb = w.heap.size := by have := hS.lt; omega
  have hcbm : ¬ w.heap.size = K.cb := by have := hS.lt; omega
  have hgcb : ¬ g = K.cb := by have := hS.ok.cl; omega
  have hcbg : ¬ K.cb = g := by have := hS.ok.cl; omega
  clear hS hE hN hs1 hback1 hbox1 hbl1 hkid hc0 hr0 hok hk hl hrec hcx hfit hb0 ho0
  obtain ⟨n4, n7, n8, fr7, fr8⟩ := HS1.out.nums
  have HLS := hid_mk (HS1.out.setN ((cx.loops : Int) + 1)).1
  cases hM : within [] ((mnT K.F (T.kids 0)).sts ⟨cx.ret, cx.loops + 1, cx.outs + 1⟩) (take0 s) with
  | error p =>
    have HM := hid_mk hM
    clear hM
    go_enter Tryz.func115, Tryz.ntmps115
    go_wp2_with (first
      | (go_at_call 107; refine (ansE (HK0.out _ _ HLS.out HF0.out HD0.out) HM.out).mono ?_; rintro e w3 ⟨rfl, hb3⟩; skip))
    exact ⟨rfl, rfl, (HBL.out _ _ _ _ _ HLS.out).trans hb3⟩
  | ok s1 =>
    have HM := hid_mk hM
    clear hM
    go_enter Tryz.func115, Tryz.ntmps115
    go_wp2_with (first
      | (go_at_call 107; refine (ansO (HK0.out _ _ HLS.out HF0.out HD0.out) HM.out).mono ?_; rintro e w3 ⟨rfl, hs3⟩; have hs4 := HB1.out _ _ _ _ _ hs3; obtain ⟨m4, m7, m8, gr7, gr8⟩ := hs4.nums; have m7' : w3.cell? ⟨K.cb, 7, none⟩ = some (.int .i64 ((cx.loops : Int) + 1)) := m7; have HS4 := hid_mk (hs4.setN (cx.loops : Int)).1; clear hs3 hs4 m7))
    go_end0
    exact ⟨rfl, HS4.out⟩
set_option maxHeartbeats 4000000 in
set_option maxRecDepth 100000 in
theorem iloop_b (hVar : IVar) {T : Nd} (hk : T.kind = 11) (hl : T.len = 2) (he0 : (T.kids 0).eOk = true) (hb1 : (T.kids 1).kind = 4) (ho1 : (T.kids 1).sOk = true) (hrec : ∀ U : Nd, U.size < T.size → IStS U) (K : IK) (w0 : World) (O : Nat → Prop) (s : CS) (cx : Cx) (sels : Nat) (w : World) (v : Value) (hcx : cx.outs = cx.loops + sels) (hS : IS K w0 O (take0 s) cx.ret cx.loops sels w) (hE : IEnv K w) (hN : INd K w T v) (hfit : s.2.length + T.size ≤ K.N) (hok : T.sOk = true) (hsne : s.1 ≠ []) (hd : s.1.length + 1 ≤ s.2.length) (hlo1 : cx.loops + T.size ≤ 1099511627776) (hou1 : sels + T.size ≤ 1099511627776) :
    Calls Tryz.prog 115 #[.pointer (some ⟨K.cb, 0, none⟩), T.val v] w (Ans K w (CR.bind (wantM (exT K.F (T.kids 0)) 2 (take0 s)) fun s1 => within [] ((mnT K.F (T.kids 1)).sts ⟨cx.ret, cx.loops + 1, cx.outs + 1⟩) s1) fun s1 e w1 => e = .returned (.tuple #[]) ∧ IS K w0 O s1 cx.ret cx.loops sels w1) := by
  have HCX : Hid ((⟨cx.ret, cx.loops + 1, cx.outs + 1⟩ : Cx).outs = (⟨cx.ret, cx.loops + 1, cx.outs + 1⟩ : Cx).loops + sels) := by show cx.outs + 1 = cx.loops + 1 + sels; omega
  obtain ⟨g, off, cap, hv, hgl, hcap, hkid⟩ := ck_kid hN.row (by omega)
  subst hv
  obtain ⟨u0, hc0, hr0⟩ := hkid 0 (by omega)
  simp only [Nat.zero_mul, Nat.add_zero] at hc0
  have HC0 := hid_mk hc0
  obtain ⟨u1, hc1, hr1⟩ := hkid 1 (by omega)
  simp only [Nat.one_mul] at hc1
  have HC1 := hid_mk hc1
  obtain ⟨O1, hs1, hback1, hbox1, hbl1⟩ := hS.boxed (.cells #[.int .i64 T.kind, .int .i64 T.num, .string T.name, .slice (some ⟨g, off, none⟩) T.len cap] 30)
  have HBX := hid_mk hbox1
  have HBL := hid_mk hbl1
  have HB1 := hid_mk hback1
  have HS1 := hid_mk hs1
  have hlo : K.lo ≤ w.heap.size := by have := hS.lt; have := hS.ok.cl; omega
  have hfew := hS.ok.few
  have HW0 := hid_mk (fun (W : World) (st : CS) (r l o : Int) (ty : Int) (hW : IS K (w.alloc (.cells #[.int .i64 T.kind, .int .i64 T.num, .string T.name, .slice (some ⟨g, off, none⟩) T.len cap] 30)) O1 st r l o W) (hf : st.2.length + (T.kids 0).size ≤ K.N) => iwant_of (iex_every hVar (T.kids 0)) K _ O1 st r l o W u0 ty hW (hE.later (hbl1 _ _ _ _ _ hW)) ((hN.kid (by omega) hr0).later (hbl1 _ _ _ _ _ hW)) hf he0)
  have HK1 := hid_mk (fun (W : World) (st : CS) (hW : IS K (w.alloc (.cells #[.int .i64 T.kind, .int .i64 T.num, .string T.name, .slice (some ⟨g, off, none⟩) T.len cap] 30)) O1 st cx.ret ((cx.loops : Int) + 1) sels W) (hf : st.2.length + (T.kids 1).size ≤ K.N) (hd : st.1.length + 1 ≤ st.2.length) => iblk_of hb1 (fun j hj => hrec _ (by have := kid_size (T.kids 1) hj; have := kid_size T (i := 1) (by omega); omega)) K _ O1 st ⟨cx.ret, cx.loops + 1, cx.outs + 1⟩ sels W u1 HCX.out hW (hE.later (hbl1 _ _ _ _ _ hW)) ((hN.kid (by omega) hr1).later (hbl1 _ _ _ _ _ hW)) hf ho1 hd (by have := kid_size T (i := 1) (by omega); show cx.loops + 1 + _ ≤ _; omega) (by have := kid_size T (i := 1) (by omega); omega))
  have HF0 := hid_mk (take_fit hfit (i := 0) (by omega))
  have HX1 : Hid (∀ s1, wantM (exT K.F (T.kids 0)) 2 (take0 s) = .ok s1 → s1.2.length + (T.kids 1).size ≤ K.N ∧ s1.1.length + 1 ≤ s1.2.length) := by
    intro s1 h
    obtain ⟨q1, q2⟩ := (ex_len K.F _ he0).want 2 _ _ h
    have := kidAt_le T s.2.length (i := 1) (by omega)
    unfold kidAt at this; simp only [sumTo] at this
    rw [take0_len] at q2
    refine ⟨by omega, ?_⟩
    rw [q1]; show s.1.length + 1 ≤ _; omega
  unfold Nd.val at *
  have hgw : g < w.heap.size := by omega
  have hgw1 : g < w.heap.size + 1 := by omega
  have hgw2 : g < w.heap.size + 1 + 1 := by omega
  have hgn0 : ¬ g = w.heap.size := by omega
  have hgn1 : ¬ g = w.heap.size + 1 := by omega
  have hgn2 : ¬ g = w.heap.size + 1 + 1 := by omega
  obtain ⟨c00, c01, c02, c03⟩ := HC0.out w (Below.refl _ _)
  obtain ⟨c10, c11, c12, c13⟩ := HC1.out w (Below.refl _ _)
  have hpos : 0 < T.len := by omega
  have hpos1 : (1 : Int) < (T.len : Int) := by omega
  have hpos1n : 1 < T.len := by omega
  have hL1 : (T.len : Int) - 1 = 1 := by omega
  have hlb : cx.loops ≤ 1099511627776 := by omega
  have hcbn : ¬ K.cb = w.heap.size := by have := hS.lt; omega
  have hcbm : ¬ w.heap.size = K.cb := by have := hS.lt; omega
  have hgcb : ¬ g = K.cb := by have := hS.ok.cl; omega
  have hcbg : ¬ K.cb = g := by have := hS.ok.cl; omega
  clear hS hE hN hs1 hback1 hbox1 hbl1 hkid hc0 hr0 hc1 hr1 hok hk hl hrec hcx hfit hb1 ho1 he0
  cases hM : wantM (exT K.F (T.kids 0)) 2 (take0 s) with
  | error p =>
    have HM := hid_mk hM
    clear hM
    rw [CR.bind_error]
    go_enter Tryz.func115, Tryz.ntmps115
    go_wp2_with (first
      | (go_at_call 109; refine (ansE (HW0.out _ _ _ _ _ 2 HS1.out HF0.out) HM.out).mono ?_; rintro e w2 ⟨rfl, hb2⟩; skip))
    exact ⟨rfl, rfl, (HBL.out _ _ _ _ _ HS1.out).trans hb2⟩
  | ok s1 =>
    have HM1 := hid_mk hM
    clear hM
    rw [CR.bind_ok]
    obtain ⟨hx1, hx2⟩ := HX1.out _ HM1.out
    have HX := hid_mk hx1
    have HD := hid_mk hx2
    clear hx1 hx2
    cases hM : within [] ((mnT K.F (T.kids 1)).sts ⟨cx.ret, cx.loops + 1, cx.outs + 1⟩) s1 with
    | error p =>
      have HM := hid_mk hM
      clear hM
      go_enter Tryz.func115, Tryz.ntmps115
      go_wp2_with (first
        | (go_at_call 109; refine (ansO (HW0.out _ _ _ _ _ 2 HS1.out HF0.out) HM1.out).mono ?_; rintro e w2 ⟨rfl, hs2⟩; obtain ⟨n4, n7, n8, fr7, fr8⟩ := hs2.nums; have HLS := hid_mk (hs2.setN ((cx.loops : Int) + 1)).1; obtain ⟨b0, b1, b2, b3⟩ := box_cells (HBX.out _ _ _ _ _ hs2); obtain ⟨c00, c01, c02, c03⟩ := HC0.out _ (HBL.out _ _ _ _ _ hs2); obtain ⟨c10, c11, c12, c13⟩ := HC1.out _ (HBL.out _ _ _ _ _ hs2); have HS2 := hid_mk hs2; clear hs2)
        | (go_at_call 107; refine (ansE (HK1.out _ _ HLS.out HX.out HD.out) HM.out).mono ?_; rintro e w3 ⟨rfl, hb3⟩; skip))
      exact ⟨rfl, rfl, (HBL.out _ _ _ _ _ HLS.out).trans hb3⟩
    | ok s2 =>
      have HM := hid_mk hM
      clear hM
      go_enter Tryz.func115, Tryz.ntmps115
      go_wp2_with (first
        | (go_at_call 109; refine (ansO (HW0.out _ _ _ _ _ 2 HS1.out HF0.out) HM1.out).mono ?_; rintro e w2 ⟨rfl, hs2⟩; obtain ⟨n4, n7, n8, fr7, fr8⟩ := hs2.nums; have HLS := hid_mk (hs2.setN ((cx.loops : Int) + 1)).1; obtain ⟨b0, b1, b2, b3⟩ := box_cells (HBX.out _ _ _ _ _ hs2); obtain ⟨c00, c01, c02, c03⟩ := HC0.out _ (HBL.out _ _ _ _ _ hs2); obtain ⟨c10, c11, c12, c13⟩ := HC1.out _ (HBL.out _ _ _ _ _ hs2); have HS2 := hid_mk hs2; clear hs2)
        | (go_at_call 107; refine (ansO (HK1.out _ _ HLS.out HX.out HD.out) HM.out).mono ?_; rintro e w3 ⟨rfl, hs3⟩; have hs4 := HB1.out _ _ _ _ _ hs3; obtain ⟨m4, m7, m8, gr7, gr8⟩ := hs4.nums; have m7' : w3.cell? ⟨K.cb, 7, none⟩ = some (.int .i64 ((cx.loops : Int) + 1)) := m7; have HS4 := hid_mk (hs4.setN (cx.loops : Int)).1; clear hs3 hs4 m7))
      go_end0
      exact ⟨rfl, HS4.out⟩
end Go.Proofs.YtbjianmjdadehaaGreatDoor
namespace Go.Proofs.YtbjianmjdadehaaGreatDoor
open Go.RowKit

set_option maxHeartbeats 4000000 in
set_option maxRecDepth 100000 in
theorem ires_e {T : Nd} (hk : T.kind = 12) (K : IK) (w0 : World) (O : Nat → Prop) (s : CS) (cx : Cx) (sels : Nat) (w : World) (v : Value) (p : Nat) (hS : IS K w0 O s cx.ret cx.loops sels w) (hN : INd K w T v) (hl : T.len = 0 ∨ T.len = 1) (hbad : decide (0 < T.len) ≠ decide (cx.ret ≠ 0)) :
    Calls Tryz.prog 116 #[.pointer (some ⟨K.cb, 0, none⟩), T.val v, .int .i64 p] w fun e w1 => e = .panicked [{ v := fltV (9, p), recovered := false }] ∧ Below K.lo w w1 := by
  obtain ⟨a, cap, hv, hcap, hq⟩ := row_eq.1 hN.row
  subst hv
  obtain ⟨n4, n7, n8, fr7, fr8⟩ := (hS.alloc (.cells #[.int .i64 T.kind, .int .i64 T.num, .string T.name, .slice a T.len cap] 30)).nums
  have HB := hid_mk (hS.box (.cells #[.int .i64 T.kind, .int .i64 T.num, .string T.name, .slice a T.len cap] 30))
  have hn := T.fine_len hN.fine
  have hlo : K.lo ≤ w.heap.size := by have := hS.lt; have := hS.ok.cl; omega
  unfold Nd.val
  have hor : (T.len = 1 ∧ cx.ret = 0) ∨ (T.len = 0 ∧ cx.ret ≠ 0) := by
    rcases hl with h | h
    · rw [h] at hbad; right; refine ⟨h, fun e => hbad ?_⟩; rw [e]; rfl
    · rw [h] at hbad; left; refine ⟨h, Classical.byContradiction fun e => hbad ?_⟩
      rw [decide_eq_true (show 0 < 1 by omega), decide_eq_true e]
  clear hS hN hq hl hbad hk
  rcases hor with ⟨h1, h2⟩ | ⟨h1, h2⟩
  · have e1 : ((T.len : Int) == 1) = true := beq_iff_eq.2 (by omega)
    have e2 : (cx.ret == 0) = true := beq_iff_eq.2 h2
    have e3 : (cx.ret != 0) = false := by simp only [bne, e2]; rfl
    clear h1 h2
    go_enter Tryz.func116, Tryz.ntmps116
    go_wp2
    go_quiet (fail)
    go_wp2
    exact ⟨rfl, rfl, HB.out.trans ((below_drewN _ _).mono (by simp; omega))⟩
  · have e1 : ((T.len : Int) == 1) = false := beq_eq_false_iff_ne.2 (by omega)
    have e2 : (cx.ret == 0) = false := beq_eq_false_iff_ne.2 h2
    have e3 : (cx.ret != 0) = true := by simp only [bne, e2]; rfl
    clear h1 h2
    go_enter Tryz.func116, Tryz.ntmps116
    go_wp2
    go_quiet (fail)
    go_wp2
    exact ⟨rfl, rfl, HB.out.trans ((below_drewN _ _).mono (by simp; omega))⟩
set_option maxHeartbeats 4000000 in
set_option maxRecDepth 100000 in
theorem ires_o (hVar : IVar) {T : Nd} (hk : T.kind = 12) (K : IK) (w0 : World) (O : Nat → Prop) (s : CS) (cx : Cx) (sels : Nat) (w : World) (v : Value) (p : Nat) (hS : IS K w0 O (take0 s) cx.ret cx.loops sels w) (hE : IEnv K w) (hN : INd K w T v) (hfit : s.2.length + T.size ≤ K.N) (he : ∀ i, i < T.len → (T.kids i).eOk = true) (hor : (T.len = 1 ∧ cx.ret ≠ 0) ∨ (T.len = 0 ∧ cx.ret = 0)) :
    Calls Tryz.prog 116 #[.pointer (some ⟨K.cb, 0, none⟩), T.val v, .int .i64 p] w (Ans K w (forN (fun i => wantM (exT K.F (T.kids i)) cx.ret) T.len (take0 s)) fun s1 e w1 => e = .returned (.tuple #[]) ∧ IS K w0 O s1 cx.ret cx.loops sels w1) := by
  obtain ⟨a, cap, hv, hcap, hq⟩ := row_eq.1 hN.row
  subst hv
  obtain ⟨O1, hs1, hback1, hbox1, hbl1⟩ := hS.boxed (.cells #[.int .i64 T.kind, .int .i64 T.num, .string T.name, .slice a T.len cap] 30)
  have HBX := hid_mk hbox1
  have HBL := hid_mk hbl1
  have HB1 := hid_mk hback1
  have HS1 := hid_mk hs1
  have hlo : K.lo ≤ w.heap.size := by have := hS.lt; have := hS.ok.cl; omega
  have hfew := hS.ok.few
  obtain ⟨n4, n7, n8, fr7, fr8⟩ := HS1.out.nums
  have HKID := hid_mk (fun (h0 : T.len ≠ 0) => ck_kid hN.row h0)
  have HWN := hid_mk (fun (j : Nat) (hj : j < T.len) (u : Value) (hr : Row 0 K.lo w (T.kids j) u) (W : World) (st : CS) (hW : IS K (w.alloc (.cells #[.int .i64 T.kind, .int .i64 T.num, .string T.name, .slice a T.len cap] 30)) O1 st cx.ret cx.loops sels W) (hf : st.2.length + (T.kids j).size ≤ K.N) => iwant_of (iex_every hVar (T.kids j)) K _ O1 st cx.ret cx.loops sels W u cx.ret hW (hE.later (hbl1 _ _ _ _ _ hW)) ((hN.kid hj hr).later (hbl1 _ _ _ _ _ hW)) hf (he j hj))
  have HFT : Hid (∀ j st, j < T.len → forN (fun i => wantM (exT K.F (T.kids i)) cx.ret) j (take0 s) = .ok st → st.2.length + (T.kids j).size ≤ K.N) := by
    intro j st hj h
    have := forN_wt (g := fun i => (T.kids i).size) (fun i hi => (ex_len K.F _ (he i hi)).want cx.ret) (Nat.le_of_lt hj) _ _ h
    have h2 := kidAt_le T s.2.length hj
    rw [take0_len] at this
    unfold kidAt at h2
    omega
  have hn := T.fine_len hN.fine
  have hmix : Tryz.prog.follows Departure.mixedOrders = true := by kernel_rfl
  unfold Nd.val at *
  clear hS hE hN hs1 hback1 hbox1 hbl1 hk hq he hfit
  have hor2 : (((T.len : Int) == 1) = true ∧ (cx.ret == 0) = false) ∨ (((T.len : Int) == 1) = false ∧ (cx.ret == 0) = true) := by
    rcases hor with ⟨h1, h2⟩ | ⟨h1, h2⟩
    · exact .inl ⟨beq_iff_eq.2 (by omega), beq_eq_false_iff_ne.2 h2⟩
    · exact .inr ⟨beq_eq_false_iff_ne.2 (by omega), beq_iff_eq.2 h2⟩
  clear hor
  rcases hor2 with ⟨e1, e2⟩ | ⟨e1, e2⟩
  all_goals have e3 : (cx.ret != 0) = !(cx.ret == 0) := rfl
  all_goals rw [e2] at e3
  all_goals simp only [Bool.not_true, Bool.not_false] at e3
  all_goals go_enter Tryz.func116, Tryz.ntmps116
  all_goals go_wp2
  all_goals go_quiet (fail)
  all_goals go_wp2
  all_goals have HSQ := hid_mk (HS1.out.calm (below_drewN _ nq))
  all_goals go_loopw [25] (fun i wr => ∃ j : Nat, j ≤ T.len ∧ i = .int .i64 j ∧ ∃ st, forN (fun i => wantM (exT K.F (T.kids i)) cx.ret) j (take0 s) = .ok st ∧ IS K (w.alloc (.cells #[.int .i64 T.kind, .int .i64 T.num, .string T.name, .slice a T.len cap] 30)) O1 st cx.ret cx.loops sels wr) (fun i _ => T.len - (intOf i).toNat)
  all_goals try (case atStart => exact ⟨0, Nat.zero_le _, rfl, take0 s, rfl, HSQ.out⟩)
  all_goals
    obtain ⟨n, hn', rfl, st, hst, hss⟩ := hrel
    obtain ⟨m4, m7, m8, gr7, gr8⟩ := hss.nums
    by_cases hltn : n < T.len
    · have hni : (n : Int) < (T.len : Int) := by omega
      obtain ⟨g, off, cap', hv', hgl, hcap', hkid⟩ := HKID.out (by omega)
      injection hv' with ev1 ev2 ev3
      subst ev1
      subst ev3
      obtain ⟨u, hcn, hrn⟩ := hkid n hltn
      obtain ⟨au, qu, hu, hcu, hqu⟩ := row_eq.1 hrn
      subst hu
      clear hqu
      obtain ⟨c0, c1, c2, c3⟩ := hcn _ (HBL.out _ _ _ _ _ hss)
      have HW := hid_mk (fun o => HWN.out n hltn _ hrn (wr.alloc o).drew st (hss.alloc o).drew (HFT.out n st hltn hst))
      have HNX : Hid (forN (fun i => wantM (exT K.F (T.kids i)) cx.ret) (n + 1) (take0 s) = wantM (exT K.F (T.kids n)) cx.ret st) := by unfold Hid; simp only [forN, hst]; rfl
      have HBO := hid_mk (fun o => (HBL.out _ _ _ _ _ hss).trans (hss.box o))
      have HNU := hid_mk (fun o => (hss.alloc o).nums)
      unfold Nd.val at HW
      clear hkid hcn hrn hss
      cases hM : wantM (exT K.F (T.kids n)) cx.ret st with
      | error p =>
        have HM := hid_mk hM
        have HER : Hid (forN (fun i => wantM (exT K.F (T.kids i)) cx.ret) T.len (take0 s) = .error p) := forN_err (HNX.out.trans hM) (show n + 1 ≤ T.len by omega)
        clear hM hst
        go_wp2
        have HWX := hid_mk (HW.out (.cells #[.int .i64 (T.kids n).kind, .int .i64 (T.kids n).num, .string (T.kids n).name, .slice au (T.kids n).len qu] 30))
        have HBOX := hid_mk (HBO.out (.cells #[.int .i64 (T.kids n).kind, .int .i64 (T.kids n).num, .string (T.kids n).name, .slice au (T.kids n).len qu] 30))
        obtain ⟨z4, z7, z8, zr7, zr8⟩ := HNU.out (.cells #[.int .i64 (T.kids n).kind, .int .i64 (T.kids n).num, .string (T.kids n).name, .slice au (T.kids n).len qu] 30)
        obtain ⟨x0, x1, x2, x3⟩ := box_cells (w := wr.alloc (.cells #[.int .i64 (T.kids n).kind, .int .i64 (T.kids n).num, .string (T.kids n).name, .slice au (T.kids n).len qu] 30)) (b := wr.heap.size) (t := 30) (heap_alloc_new wr _)
        generalize wr.alloc (.cells #[.int .i64 (T.kids n).kind, .int .i64 (T.kids n).num, .string (T.kids n).name, .slice au (T.kids n).len qu] 30) = wx at *
        go_still_tail 7, hmix
        go_wp2_with (first
          | (go_at_call 109; refine (ansE HWX.out HM.out).mono ?_; rintro e w2 ⟨rfl, hb2⟩; skip))
        refine ⟨rfl, ?_⟩
        rw [ans_err HER.out]
        exact ⟨rfl, HBOX.out.drew.trans hb2⟩
      | ok s1 =>
        have HM := hid_mk hM
        clear hM hst
        go_wp2
        have HWX := hid_mk (HW.out (.cells #[.int .i64 (T.kids n).kind, .int .i64 (T.kids n).num, .string (T.kids n).name, .slice au (T.kids n).len qu] 30))
        have HBOX := hid_mk (HBO.out (.cells #[.int .i64 (T.kids n).kind, .int .i64 (T.kids n).num, .string (T.kids n).name, .slice au (T.kids n).len qu] 30))
        obtain ⟨z4, z7, z8, zr7, zr8⟩ := HNU.out (.cells #[.int .i64 (T.kids n).kind, .int .i64 (T.kids n).num, .string (T.kids n).name, .slice au (T.kids n).len qu] 30)
        obtain ⟨x0, x1, x2, x3⟩ := box_cells (w := wr.alloc (.cells #[.int .i64 (T.kids n).kind, .int .i64 (T.kids n).num, .string (T.kids n).name, .slice au (T.kids n).len qu] 30)) (b := wr.heap.size) (t := 30) (heap_alloc_new wr _)
        generalize wr.alloc (.cells #[.int .i64 (T.kids n).kind, .int .i64 (T.kids n).num, .string (T.kids n).name, .slice au (T.kids n).len qu] 30) = wx at *
        go_still_tail 7, hmix
        go_wp2_with (first
          | (go_at_call 109; refine (ansO HWX.out HM.out).mono ?_; rintro e w2 ⟨rfl, hs2⟩; have HS9 := hid_mk hs2; clear hs2))
        exact ⟨⟨n + 1, by omega, by go_num, s1, by rw [HNX.out, HM.out], HS9.out⟩, by simp [intOf]; omega⟩
    · obtain rfl : n = T.len := by omega
      have HSS := hid_mk hss
      have HST := hid_mk hst
      clear hss hst
      go_wp2
      go_end0
      rw [ans_ok HST.out]
      exact ⟨rfl, HB1.out _ _ _ _ _ HSS.out⟩
end Go.Proofs.YtbjianmjdadehaaGreatDoor
namespace Go.Proofs.YtbjianmjdadehaaGreatDoor
open Go.RowKit

set_option maxHeartbeats 4000000 in
set_option maxRecDepth 100000 in
theorem ist_7 (hVar : IVar) {T : Nd} (hk : T.kind = 7) : IStS T := by
  intro K w0 O s cx sels w v hcx hS hE hN hfit hok hsne hd hlo1 hou1
  have hsz : 0 < T.size := by rw [T.size_eq]; omega
  have hst : (mnT K.F T).st cx s = (if look s.1 T.name = 0 then .error (5, s.2.length) else if look s.1 T.name = 1 then .ok (take0 s) else .error (7, s.2.length) : CR CS) := by
    rw [stM_at K.F (by omega)]
    unfold stM
    rw [if_neg (by omega), if_neg (by omega), if_neg (by omega), if_pos hk]
  rw [hst]
  obtain ⟨a, cap, hv, hcap, hq⟩ := row_eq.1 hN.row
  subst hv
  obtain ⟨O1, hs1, hback1, hbox1, hbl1⟩ := hS.boxed (.cells #[.int .i64 T.kind, .int .i64 T.num, .string T.name, .slice a T.len cap] 30)
  have HBX := hid_mk hbox1
  have HBL := hid_mk hbl1
  have HB1 := hid_mk hback1
  have HTK := hid_mk (take_any hs1 (by omega))
  have hlo : K.lo ≤ w.heap.size := by have := hS.lt; have := hS.ok.cl; omega
  have hfew := hS.ok.few
  have HC := hid_mk (fun (W : World) (hW : IS K (w.alloc (.cells #[.int .i64 T.kind, .int .i64 T.num, .string T.name, .slice a T.len cap] 30)) O1 (take0 s) cx.ret cx.loops sels W) => istep_of hVar K _ O1 (take0 s) cx.ret cx.loops sels W _ s.2.length hW (hN.later (hbl1 _ _ _ _ _ hW)))
  unfold Nd.val at *
  rw [hk] at HC HBX HBL HB1 HTK ⊢
  clear hS hE hN hs1 hback1 hbox1 hbl1 hok hk hq hst hfit hsne hd
  cases hM : (if look s.1 T.name = 0 then .error (5, s.2.length) else if look s.1 T.name = 1 then .ok (take0 s) else .error (7, s.2.length) : CR CS) with
  | error p =>
    have HM := hid_mk hM
    clear hM
    go_enter Tryz.func97, Tryz.ntmps97
    go_wp2_with (first
      | (go_at_call 60; refine HTK.out.mono ?_; rintro e w1 ⟨rfl, hs1⟩; obtain ⟨b0, b1, b2, b3⟩ := box_cells (HBX.out _ _ _ _ _ hs1); have HS1 := hid_mk hs1; clear hs1)
      | (go_at_call 111; refine (ansE (HC.out _ HS1.out) HM.out).mono ?_; rintro e w2 ⟨rfl, hb2⟩; skip))
    exact ⟨rfl, rfl, (HBL.out _ _ _ _ _ HS1.out).trans hb2⟩
  | ok s1 =>
    have HM := hid_mk hM
    clear hM
    go_enter Tryz.func97, Tryz.ntmps97
    go_wp2_with (first
      | (go_at_call 60; refine HTK.out.mono ?_; rintro e w1 ⟨rfl, hs1⟩; obtain ⟨b0, b1, b2, b3⟩ := box_cells (HBX.out _ _ _ _ _ hs1); have HS1 := hid_mk hs1; clear hs1)
      | (go_at_call 111; refine (ansO (HC.out _ HS1.out) HM.out).mono ?_; rintro e w2 ⟨rfl, hs2⟩; have HS2 := hid_mk hs2; clear hs2))
    go_end0
    exact ⟨rfl, HB1.out _ _ _ _ _ HS2.out⟩
set_option maxHeartbeats 4000000 in
set_option maxRecDepth 100000 in
theorem ist_10a (hVar : IVar) {T : Nd} (hk : T.kind = 10) (hl : T.len = 2) (hrec : ∀ U : Nd, U.size < T.size → IStS U) : IStS T := by
  intro K w0 O s cx sels w v hcx hS hE hN hfit hok hsne hd hlo1 hou1
  have hsz : 0 < T.size := by rw [T.size_eq]; omega
  have hb1 := (so_10 hk hok).2.2.1.1
  have hst : (mnT K.F T).st cx s = CR.bind (wantM (exT K.F (T.kids 0)) 2 (take0 s)) fun s1 => within [] ((mnT K.F (T.kids 1)).sts cx) s1 := by
    rw [stM_at K.F (by omega)]
    unfold stM
    rw [if_neg (by omega), if_neg (by omega), if_neg (by omega), if_neg (by omega), if_neg (by omega), if_neg (by omega), if_pos hk]; rw [hl]; show CR.bind _ (fun s1 => (mnT K.F (T.kids 1)).st cx s1) = _; congr 1; funext s1; exact st4_eq hb1
  rw [hst]
  obtain ⟨a, cap, hv, hcap, hq⟩ := row_eq.1 hN.row
  subst hv
  obtain ⟨O1, hs1, hback1, hbox1, hbl1⟩ := hS.boxed (.cells #[.int .i64 T.kind, .int .i64 T.num, .string T.name, .slice a T.len cap] 30)
  have HBX := hid_mk hbox1
  have HBL := hid_mk hbl1
  have HB1 := hid_mk hback1
  have HTK := hid_mk (take_any hs1 (by omega))
  have hlo : K.lo ≤ w.heap.size := by have := hS.lt; have := hS.ok.cl; omega
  have hfew := hS.ok.few
  have HC := hid_mk (fun (W : World) (hW : IS K (w.alloc (.cells #[.int .i64 T.kind, .int .i64 T.num, .string T.name, .slice a T.len cap] 30)) O1 (take0 s) cx.ret cx.loops sels W) => iif_a hVar hk hl hrec K _ O1 s cx sels W _ hcx hW (hE.later (hbl1 _ _ _ _ _ hW)) (hN.later (hbl1 _ _ _ _ _ hW)) hfit hok hsne hd hlo1 hou1)
  unfold Nd.val at *
  rw [hk] at HC HBX HBL HB1 HTK ⊢
  clear hS hE hN hs1 hback1 hbox1 hbl1 hok hk hq hst hfit hsne hd hl hrec hb1
  cases hM : CR.bind (wantM (exT K.F (T.kids 0)) 2 (take0 s)) fun s1 => within [] ((mnT K.F (T.kids 1)).sts cx) s1 with
  | error p =>
    have HM := hid_mk hM
    clear hM
    go_enter Tryz.func97, Tryz.ntmps97
    go_wp2_with (first
      | (go_at_call 60; refine HTK.out.mono ?_; rintro e w1 ⟨rfl, hs1⟩; obtain ⟨b0, b1, b2, b3⟩ := box_cells (HBX.out _ _ _ _ _ hs1); have HS1 := hid_mk hs1; clear hs1)
      | (go_at_call 114; refine (ansE (HC.out _ HS1.out) HM.out).mono ?_; rintro e w2 ⟨rfl, hb2⟩; skip))
    exact ⟨rfl, rfl, (HBL.out _ _ _ _ _ HS1.out).trans hb2⟩
  | ok s1 =>
    have HM := hid_mk hM
    clear hM
    go_enter Tryz.func97, Tryz.ntmps97
    go_wp2_with (first
      | (go_at_call 60; refine HTK.out.mono ?_; rintro e w1 ⟨rfl, hs1⟩; obtain ⟨b0, b1, b2, b3⟩ := box_cells (HBX.out _ _ _ _ _ hs1); have HS1 := hid_mk hs1; clear hs1)
      | (go_at_call 114; refine (ansO (HC.out _ HS1.out) HM.out).mono ?_; rintro e w2 ⟨rfl, hs2⟩; have HS2 := hid_mk hs2; clear hs2))
    go_end0
    exact ⟨rfl, HB1.out _ _ _ _ _ HS2.out⟩
set_option maxHeartbeats 4000000 in
set_option maxRecDepth 100000 in
theorem ist_10b (hVar : IVar) {T : Nd} (hk : T.kind = 10) (hl : T.len = 3) (hrec : ∀ U : Nd, U.size < T.size → IStS U) : IStS T := by
  intro K w0 O s cx sels w v hcx hS hE hN hfit hok hsne hd hlo1 hou1
  have hsz : 0 < T.size := by rw [T.size_eq]; omega
  have hb1 := (so_10 hk hok).2.2.1.1
  have hst : (mnT K.F T).st cx s = CR.bind (wantM (exT K.F (T.kids 0)) 2 (take0 s)) fun s1 => CR.bind (within [] ((mnT K.F (T.kids 1)).sts cx) s1) ((mnT K.F (T.kids 2)).st cx) := by
    rw [stM_at K.F (by omega)]
    unfold stM
    rw [if_neg (by omega), if_neg (by omega), if_neg (by omega), if_neg (by omega), if_neg (by omega), if_neg (by omega), if_pos hk]; rw [hl]; show CR.bind _ (fun s1 => CR.bind ((mnT K.F (T.kids 1)).st cx s1) ((mnT K.F (T.kids 2)).st cx)) = _; congr 1; funext s1; rw [st4_eq hb1]
  rw [hst]
  obtain ⟨a, cap, hv, hcap, hq⟩ := row_eq.1 hN.row
  subst hv
  obtain ⟨O1, hs1, hback1, hbox1, hbl1⟩ := hS.boxed (.cells #[.int .i64 T.kind, .int .i64 T.num, .string T.name, .slice a T.len cap] 30)
  have HBX := hid_mk hbox1
  have HBL := hid_mk hbl1
  have HB1 := hid_mk hback1
  have HTK := hid_mk (take_any hs1 (by omega))
  have hlo : K.lo ≤ w.heap.size := by have := hS.lt; have := hS.ok.cl; omega
  have hfew := hS.ok.few
  have HC := hid_mk (fun (W : World) (hW : IS K (w.alloc (.cells #[.int .i64 T.kind, .int .i64 T.num, .string T.name, .slice a T.len cap] 30)) O1 (take0 s) cx.ret cx.loops sels W) => iif_b hVar hk hl hrec K _ O1 s cx sels W _ hcx hW (hE.later (hbl1 _ _ _ _ _ hW)) (hN.later (hbl1 _ _ _ _ _ hW)) hfit hok hsne hd hlo1 hou1)
  unfold Nd.val at *
  rw [hk] at HC HBX HBL HB1 HTK ⊢
  clear hS hE hN hs1 hback1 hbox1 hbl1 hok hk hq hst hfit hsne hd hl hrec hb1
  cases hM : CR.bind (wantM (exT K.F (T.kids 0)) 2 (take0 s)) fun s1 => CR.bind (within [] ((mnT K.F (T.kids 1)).sts cx) s1) ((mnT K.F (T.kids 2)).st cx) with
  | error p =>
    have HM := hid_mk hM
    clear hM
    go_enter Tryz.func97, Tryz.ntmps97
    go_wp2_with (first
      | (go_at_call 60; refine HTK.out.mono ?_; rintro e w1 ⟨rfl, hs1⟩; obtain ⟨b0, b1, b2, b3⟩ := box_cells (HBX.out _ _ _ _ _ hs1); have HS1 := hid_mk hs1; clear hs1)
      | (go_at_call 114; refine (ansE (HC.out _ HS1.out) HM.out).mono ?_; rintro e w2 ⟨rfl, hb2⟩; skip))
    exact ⟨rfl, rfl, (HBL.out _ _ _ _ _ HS1.out).trans hb2⟩
  | ok s1 =>
    have HM := hid_mk hM
    clear hM
    go_enter Tryz.func97, Tryz.ntmps97
    go_wp2_with (first
      | (go_at_call 60; refine HTK.out.mono ?_; rintro e w1 ⟨rfl, hs1⟩; obtain ⟨b0, b1, b2, b3⟩ := box_cells (HBX.out _ _ _ _ _ hs1); have HS1 := hid_mk hs1; clear hs1)
      | (go_at_call 114; refine (ansO (HC.out _ HS1.out) HM.out).mono ?_; rintro e w2 ⟨rfl, hs2⟩; have HS2 := hid_mk hs2; clear hs2))
    go_end0
    exact ⟨rfl, HB1.out _ _ _ _ _ HS2.out⟩
set_option maxHeartbeats 4000000 in
set_option maxRecDepth 100000 in
theorem ist_11a (hVar : IVar) {T : Nd} (hk : T.kind = 11) (hl : T.len = 1) (hb0 : (T.kids 0).kind = 4) (ho0 : (T.kids 0).sOk = true) (hrec : ∀ U : Nd, U.size < T.size → IStS U) : IStS T := by
  intro K w0 O s cx sels w v hcx hS hE hN hfit hok hsne hd hlo1 hou1
  have hsz : 0 < T.size := by rw [T.size_eq]; omega
  have hst : (mnT K.F T).st cx s = within [] ((mnT K.F (T.kids 0)).sts ⟨cx.ret, cx.loops + 1, cx.outs + 1⟩) (take0 s) := by
    rw [stM_at K.F (by omega)]
    unfold stM
    rw [if_neg (by omega), if_neg (by omega), if_neg (by omega), if_neg (by omega), if_neg (by omega), if_neg (by omega), if_neg (by omega), if_pos hk]; rw [hl]; exact st4_eq hb0
  rw [hst]
  obtain ⟨a, cap, hv, hcap, hq⟩ := row_eq.1 hN.row
  subst hv
  obtain ⟨O1, hs1, hback1, hbox1, hbl1⟩ := hS.boxed (.cells #[.int .i64 T.kind, .int .i64 T.num, .string T.name, .slice a T.len cap] 30)
  have HBX := hid_mk hbox1
  have HBL := hid_mk hbl1
  have HB1 := hid_mk hback1
  have HTK := hid_mk (take_any hs1 (by omega))
  have hlo : K.lo ≤ w.heap.size := by have := hS.lt; have := hS.ok.cl; omega
  have hfew := hS.ok.few
  have HC := hid_mk (fun (W : World) (hW : IS K (w.alloc (.cells #[.int .i64 T.kind, .int .i64 T.num, .string T.name, .slice a T.len cap] 30)) O1 (take0 s) cx.ret cx.loops sels W) => iloop_a hVar hk hl hb0 ho0 hrec K _ O1 s cx sels W _ hcx hW (hE.later (hbl1 _ _ _ _ _ hW)) (hN.later (hbl1 _ _ _ _ _ hW)) hfit hok hsne hd hlo1 hou1)
  unfold Nd.val at *
  rw [hk] at HC HBX HBL HB1 HTK ⊢
  clear hS hE hN hs1 hback1 hbox1 hbl1 hok hk hq hst hfit hsne hd hl hrec hb0 ho0
  cases hM : within [] ((mnT K.F (T.kids 0)).sts ⟨cx.ret, cx.loops + 1, cx.outs + 1⟩) (take0 s) with
  | error p =>
    have HM := hid_mk hM
    clear hM
    go_enter Tryz.func97, Tryz.ntmps97
    go_wp2_with (first
      | (go_at_call 60; refine HTK.out.mono ?_; rintro e w1 ⟨rfl, hs1⟩; obtain ⟨b0, b1, b2, b3⟩ := box_cells (HBX.out _ _ _ _ _ hs1); have HS1 := hid_mk hs1; clear hs1)
      | (go_at_call 115; refine (ansE (HC.out _ HS1.out) HM.out).mono ?_; rintro e w2 ⟨rfl, hb2⟩; skip))
    exact ⟨rfl, rfl, (HBL.out _ _ _ _ _ HS1.out).trans hb2⟩
  | ok s1 =>
    have HM := hid_mk hM
    clear hM
    go_enter Tryz.func97, Tryz.ntmps97
    go_wp2_with (first
      | (go_at_call 60; refine HTK.out.mono ?_; rintro e w1 ⟨rfl, hs1⟩; obtain ⟨b0, b1, b2, b3⟩ := box_cells (HBX.out _ _ _ _ _ hs1); have HS1 := hid_mk hs1; clear hs1)
      | (go_at_call 115; refine (ansO (HC.out _ HS1.out) HM.out).mono ?_; rintro e w2 ⟨rfl, hs2⟩; have HS2 := hid_mk hs2; clear hs2))
    go_end0
    exact ⟨rfl, HB1.out _ _ _ _ _ HS2.out⟩
set_option maxHeartbeats 4000000 in
set_option maxRecDepth 100000 in
theorem ist_11b (hVar : IVar) {T : Nd} (hk : T.kind = 11) (hl : T.len = 2) (he0 : (T.kids 0).eOk = true) (hb1 : (T.kids 1).kind = 4) (ho1 : (T.kids 1).sOk = true) (hrec : ∀ U : Nd, U.size < T.size → IStS U) : IStS T := by
  intro K w0 O s cx sels w v hcx hS hE hN hfit hok hsne hd hlo1 hou1
  have hsz : 0 < T.size := by rw [T.size_eq]; omega
  have hst : (mnT K.F T).st cx s = CR.bind (wantM (exT K.F (T.kids 0)) 2 (take0 s)) fun s1 => within [] ((mnT K.F (T.kids 1)).sts ⟨cx.ret, cx.loops + 1, cx.outs + 1⟩) s1 := by
    rw [stM_at K.F (by omega)]
    unfold stM
    rw [if_neg (by omega), if_neg (by omega), if_neg (by omega), if_neg (by omega), if_neg (by omega), if_neg (by omega), if_neg (by omega), if_pos hk]; rw [hl]; show CR.bind _ (fun s1 => (mnT K.F (T.kids 1)).st _ s1) = _; congr 1; funext s1; exact st4_eq hb1
  rw [hst]
  obtain ⟨a, cap, hv, hcap, hq⟩ := row_eq.1 hN.row
  subst hv
  obtain ⟨O1, hs1, hback1, hbox1, hbl1⟩ := hS.boxed (.cells #[.int .i64 T.kind, .int .i64 T.num, .string T.name, .slice a T.len cap] 30)
  have HBX := hid_mk hbox1
  have HBL := hid_mk hbl1
  have HB1 := hid_mk hback1
  have HTK := hid_mk (take_any hs1 (by omega))
  have hlo : K.lo ≤ w.heap.size := by have := hS.lt; have := hS.ok.cl; omega
  have hfew := hS.ok.few
  have HC := hid_mk (fun (W : World) (hW : IS K (w.alloc (.cells #[.int .i64 T.kind, .int .i64 T.num, .string T.name, .slice a T.len cap] 30)) O1 (take0 s) cx.ret cx.loops sels W) => iloop_b hVar hk hl he0 hb1 ho1 hrec K _ O1 s cx sels W _ hcx hW (hE.later (hbl1 _ _ _ _ _ hW)) (hN.later (hbl1 _ _ _ _ _ hW)) hfit hok hsne hd hlo1 hou1)
  unfold Nd.val at *
  rw [hk] at HC HBX HBL HB1 HTK ⊢
  clear hS hE hN hs1 hback1 hbox1 hbl1 hok hk hq hst hfit hsne hd hl hrec he0 hb1 ho1
  cases hM : CR.bind (wantM (exT K.F (T.kids 0)) 2 (take0 s)) fun s1 => within [] ((mnT K.F (T.kids 1)).sts ⟨cx.ret, cx.loops + 1, cx.outs + 1⟩) s1 with
  | error p =>
    have HM := hid_mk hM
    clear hM
    go_enter Tryz.func97, Tryz.ntmps97
    go_wp2_with (first
      | (go_at_call 60; refine HTK.out.mono ?_; rintro e w1 ⟨rfl, hs1⟩; obtain ⟨b0, b1, b2, b3⟩ := box_cells (HBX.out _ _ _ _ _ hs1); have HS1 := hid_mk hs1; clear hs1)
      | (go_at_call 115; refine (ansE (HC.out _ HS1.out) HM.out).mono ?_; rintro e w2 ⟨rfl, hb2⟩; skip))
    exact ⟨rfl, rfl, (HBL.out _ _ _ _ _ HS1.out).trans hb2⟩
  | ok s1 =>
    have HM := hid_mk hM
    clear hM
    go_enter Tryz.func97, Tryz.ntmps97
    go_wp2_with (first
      | (go_at_call 60; refine HTK.out.mono ?_; rintro e w1 ⟨rfl, hs1⟩; obtain ⟨b0, b1, b2, b3⟩ := box_cells (HBX.out _ _ _ _ _ hs1); have HS1 := hid_mk hs1; clear hs1)
      | (go_at_call 115; refine (ansO (HC.out _ HS1.out) HM.out).mono ?_; rintro e w2 ⟨rfl, hs2⟩; have HS2 := hid_mk hs2; clear hs2))
    go_end0
    exact ⟨rfl, HB1.out _ _ _ _ _ HS2.out⟩
set_option maxHeartbeats 4000000 in
set_option maxRecDepth 100000 in
theorem ist_15 (hVar : IVar) {T : Nd} (hk : T.kind = 15) (hrec : ∀ U : Nd, U.size < T.size → IStS U) : IStS T := by
  intro K w0 O s cx sels w v hcx hS hE hN hfit hok hsne hd hlo1 hou1
  have hsz : 0 < T.size := by rw [T.size_eq]; omega
  have hst : (mnT K.F T).st cx s = csC K.F T ⟨cx.ret, cx.loops, cx.outs + 1⟩ (take0 s) T.len := by
    rw [stM_at K.F (by omega)]
    unfold stM
    rw [if_neg (by omega), if_neg (by omega), if_neg (by omega), if_neg (by omega), if_neg (by omega), if_neg (by omega), if_neg (by omega), if_neg (by omega), if_neg (by omega), if_pos hk]; rfl
  rw [hst]
  obtain ⟨a, cap, hv, hcap, hq⟩ := row_eq.1 hN.row
  subst hv
  obtain ⟨O1, hs1, hback1, hbox1, hbl1⟩ := hS.boxed (.cells #[.int .i64 T.kind, .int .i64 T.num, .string T.name, .slice a T.len cap] 30)
  have HBX := hid_mk hbox1
  have HBL := hid_mk hbl1
  have HB1 := hid_mk hback1
  have HTK := hid_mk (take_any hs1 (by omega))
  have hlo : K.lo ≤ w.heap.size := by have := hS.lt; have := hS.ok.cl; omega
  have hfew := hS.ok.few
  have HC := hid_mk (fun (W : World) (hW : IS K (w.alloc (.cells #[.int .i64 T.kind, .int .i64 T.num, .string T.name, .slice a T.len cap] 30)) O1 (take0 s) cx.ret cx.loops sels W) => icho_of hVar hk hrec K _ O1 s cx sels W _ hcx hW (hE.later (hbl1 _ _ _ _ _ hW)) (hN.later (hbl1 _ _ _ _ _ hW)) hfit hok hsne hd hlo1 hou1)
  unfold Nd.val at *
  rw [hk] at HC HBX HBL HB1 HTK ⊢
  clear hS hE hN hs1 hback1 hbox1 hbl1 hok hk hq hst hfit hsne hd hrec
  cases hM : csC K.F T ⟨cx.ret, cx.loops, cx.outs + 1⟩ (take0 s) T.len with
  | error p =>
    have HM := hid_mk hM
    clear hM
    go_enter Tryz.func97, Tryz.ntmps97
    go_wp2_with (first
      | (go_at_call 60; refine HTK.out.mono ?_; rintro e w1 ⟨rfl, hs1⟩; obtain ⟨b0, b1, b2, b3⟩ := box_cells (HBX.out _ _ _ _ _ hs1); have HS1 := hid_mk hs1; clear hs1)
      | (go_at_call 117; refine (ansE (HC.out _ HS1.out) HM.out).mono ?_; rintro e w2 ⟨rfl, hb2⟩; skip))
    exact ⟨rfl, rfl, (HBL.out _ _ _ _ _ HS1.out).trans hb2⟩
  | ok s1 =>
    have HM := hid_mk hM
    clear hM
    go_enter Tryz.func97, Tryz.ntmps97
    go_wp2_with (first
      | (go_at_call 60; refine HTK.out.mono ?_; rintro e w1 ⟨rfl, hs1⟩; obtain ⟨b0, b1, b2, b3⟩ := box_cells (HBX.out _ _ _ _ _ hs1); have HS1 := hid_mk hs1; clear hs1)
      | (go_at_call 117; refine (ansO (HC.out _ HS1.out) HM.out).mono ?_; rintro e w2 ⟨rfl, hs2⟩; have HS2 := hid_mk hs2; clear hs2))
    go_end0
    exact ⟨rfl, HB1.out _ _ _ _ _ HS2.out⟩
end Go.Proofs.YtbjianmjdadehaaGreatDoor
namespace Go.Proofs.YtbjianmjdadehaaGreatDoor
open Go.RowKit

set_option maxHeartbeats 4000000 in
set_option maxRecDepth 100000 in
theorem ist_18 (hVar : IVar) {T : Nd} (hk : T.kind = 18) : IStS T := by
  intro K w0 O s cx sels w v hcx hS hE hN hfit hok hsne hd hlo1 hou1
  have hsz : 0 < T.size := by rw [T.size_eq]; omega
  have hst : (mnT K.F T).st cx s = (if cx.loops = 0 then .error (10, s.2.length) else .ok (take0 s) : CR CS) := by
    rw [stM_at K.F (by omega)]
    unfold stM
    rw [if_neg (by omega), if_neg (by omega), if_neg (by omega), if_neg (by omega), if_neg (by omega), if_neg (by omega), if_neg (by omega), if_neg (by omega), if_neg (by omega), if_neg (by omega), if_neg (by omega), if_pos hk]
  rw [hst]
  obtain ⟨a, cap, hv, hcap, hq⟩ := row_eq.1 hN.row
  subst hv
  obtain ⟨O1, hs1, hback1, hbox1, hbl1⟩ := hS.boxed (.cells #[.int .i64 T.kind, .int .i64 T.num, .string T.name, .slice a T.len cap] 30)
  have HBX := hid_mk hbox1
  have HBL := hid_mk hbl1
  have HB1 := hid_mk hback1
  have HTK := hid_mk (take_any hs1 (by omega))
  have hlo : K.lo ≤ w.heap.size := by have := hS.lt; have := hS.ok.cl; omega
  have hfew := hS.ok.few
  have HPL := hid_mk (fun W => iplaced_of (K := K) W (cx.loops : Int) s.2.length (.pointer (some ⟨K.cb, 0, none⟩)))
  have hcast : ((cx.loops : Int) = 0) = (cx.loops = 0) := by simp
  unfold Nd.val at *
  rw [hk] at HBX HBL HB1 HTK ⊢
  clear hS hE hN hs1 hback1 hbox1 hbl1 hok hk hq hst hfit hsne hd
  have NU := @IS.nums
  by_cases h0 : cx.loops = 0
  · have h0i : (cx.loops : Int) = 0 := by omega
    rw [if_pos h0]
    simp only [if_pos h0i] at HPL
    clear h0 h0i hcast
    go_enter Tryz.func97, Tryz.ntmps97
    go_wp2_with (first
      | (go_at_call 60; refine HTK.out.mono ?_; rintro e w1 ⟨rfl, hs1⟩; obtain ⟨b0, b1, b2, b3⟩ := box_cells (HBX.out _ _ _ _ _ hs1); obtain ⟨n4, n7, n8, fr7, fr8⟩ := hs1.nums; have HS1 := hid_mk hs1; clear hs1)
      | (go_at_call 118; refine (HPL.out _).mono ?_; rintro e w2 ⟨rfl, rfl⟩; skip))
    exact ⟨rfl, rfl, HBL.out _ _ _ _ _ HS1.out⟩
  · have h0i : ¬ (cx.loops : Int) = 0 := by omega
    rw [if_neg h0]
    simp only [if_neg h0i] at HPL
    clear h0 h0i hcast
    go_enter Tryz.func97, Tryz.ntmps97
    go_wp2_with (first
      | (go_at_call 60; refine HTK.out.mono ?_; rintro e w1 ⟨rfl, hs1⟩; obtain ⟨b0, b1, b2, b3⟩ := box_cells (HBX.out _ _ _ _ _ hs1); obtain ⟨n4, n7, n8, fr7, fr8⟩ := hs1.nums; have HS1 := hid_mk hs1; clear hs1)
      | (go_at_call 118; refine (HPL.out _).mono ?_; rintro e w2 ⟨rfl, rfl⟩; skip))
    go_end0
    exact ⟨rfl, HB1.out _ _ _ _ _ HS1.out⟩
set_option maxHeartbeats 4000000 in
set_option maxRecDepth 100000 in
theorem ist_17 (hVar : IVar) {T : Nd} (hk : T.kind = 17) : IStS T := by
  intro K w0 O s cx sels w v hcx hS hE hN hfit hok hsne hd hlo1 hou1
  have hsz : 0 < T.size := by rw [T.size_eq]; omega
  have hst : (mnT K.F T).st cx s = (if cx.outs = 0 then .error (10, s.2.length) else .ok (take0 s) : CR CS) := by
    rw [stM_at K.F (by omega)]
    unfold stM
    rw [if_neg (by omega), if_neg (by omega), if_neg (by omega), if_neg (by omega), if_neg (by omega), if_neg (by omega), if_neg (by omega), if_neg (by omega), if_neg (by omega), if_neg (by omega), if_pos hk]
  rw [hst]
  obtain ⟨a, cap, hv, hcap, hq⟩ := row_eq.1 hN.row
  subst hv
  obtain ⟨O1, hs1, hback1, hbox1, hbl1⟩ := hS.boxed (.cells #[.int .i64 T.kind, .int .i64 T.num, .string T.name, .slice a T.len cap] 30)
  have HBX := hid_mk hbox1
  have HBL := hid_mk hbl1
  have HB1 := hid_mk hback1
  have HTK := hid_mk (take_any hs1 (by omega))
  have hlo : K.lo ≤ w.heap.size := by have := hS.lt; have := hS.ok.cl; omega
  have hfew := hS.ok.few
  have HPL := hid_mk (fun W => iplaced_of (K := K) W ((cx.loops : Int) + (sels : Int)) s.2.length (.pointer (some ⟨K.cb, 0, none⟩)))
  have hlb : cx.loops ≤ 1099511627776 := by omega
  have hsb : sels ≤ 1099511627776 := by omega
  have hmix : Tryz.prog.follows Departure.mixedOrders = true := by kernel_rfl
  unfold Nd.val at *
  rw [hk] at HBX HBL HB1 HTK ⊢
  have HD : Hid ((cx.outs = 0 ∧ ((cx.loops : Int) + (sels : Int) = 0)) ∨ (¬ cx.outs = 0 ∧ ¬ ((cx.loops : Int) + (sels : Int) = 0))) := by
    unfold Hid
    by_cases h : cx.outs = 0
    · exact .inl ⟨h, by omega⟩
    · exact .inr ⟨h, by omega⟩
  have hwr : IntKind.i64.wrap ((cx.loops : Int) + (sels : Int)) = (cx.loops : Int) + (sels : Int) := by simp [IntKind.wrap, IntKind.bits, IntKind.signed]; omega
  clear hS hE hN hs1 hback1 hbox1 hbl1 hok hk hq hst hfit hsne hd hcx
  rcases HD.out with ⟨h0, h0i⟩ | ⟨h0, h0i⟩
  · rw [if_pos h0]
    simp only [if_pos h0i] at HPL
    clear h0 h0i HD
    go_enter Tryz.func97, Tryz.ntmps97
    go_wp2_with (first
      | (go_at_call 60; refine HTK.out.mono ?_; rintro e w1 ⟨rfl, hs1⟩; obtain ⟨b0, b1, b2, b3⟩ := box_cells (HBX.out _ _ _ _ _ hs1); obtain ⟨n4, n7, n8, fr7, fr8⟩ := hs1.nums; have HS1 := hid_mk hs1; clear hs1))
    go_still_tail 11, hmix
    go_wp2_with (first
      | (go_at_call 118; refine (HPL.out _).mono ?_; rintro e w2 ⟨rfl, rfl⟩; skip))
    exact ⟨rfl, rfl, (HBL.out _ _ _ _ _ HS1.out).drew⟩
  · rw [if_neg h0]
    simp only [if_neg h0i] at HPL
    clear h0 h0i HD
    go_enter Tryz.func97, Tryz.ntmps97
    go_wp2_with (first
      | (go_at_call 60; refine HTK.out.mono ?_; rintro e w1 ⟨rfl, hs1⟩; obtain ⟨b0, b1, b2, b3⟩ := box_cells (HBX.out _ _ _ _ _ hs1); obtain ⟨n4, n7, n8, fr7, fr8⟩ := hs1.nums; have HS1 := hid_mk hs1; clear hs1))
    go_still_tail 11, hmix
    go_wp2_with (first
      | (go_at_call 118; refine (HPL.out _).mono ?_; rintro e w2 ⟨rfl, rfl⟩; skip))
    go_end0
    exact ⟨rfl, HB1.out _ _ _ _ _ HS1.out.drew⟩
set_option maxHeartbeats 4000000 in
set_option maxRecDepth 100000 in
theorem ist_12 (hVar : IVar) {T : Nd} (hk : T.kind = 12) : IStS T := by
  intro K w0 O s cx sels w v hcx hS hE hN hfit hok hsne hd hlo1 hou1
  have hsz : 0 < T.size := by rw [T.size_eq]; omega
  have hso := so_12 hk hok
  have hst : (mnT K.F T).st cx s = (if decide (0 < T.len) = decide (cx.ret ≠ 0) then (if 0 < T.len then wantM (exT K.F (T.kids 0)) cx.ret (take0 s) else .ok (take0 s)) else .error (9, s.2.length) : CR CS) := by
    rw [stM_at K.F (by omega)]
    unfold stM
    rw [if_neg (by omega), if_neg (by omega), if_neg (by omega), if_neg (by omega), if_neg (by omega), if_neg (by omega), if_neg (by omega), if_neg (by omega), if_pos hk]
  rw [hst]
  obtain ⟨a, cap, hv, hcap, hq⟩ := row_eq.1 hN.row
  subst hv
  obtain ⟨O1, hs1, hback1, hbox1, hbl1⟩ := hS.boxed (.cells #[.int .i64 T.kind, .int .i64 T.num, .string T.name, .slice a T.len cap] 30)
  have HBX := hid_mk hbox1
  have HBL := hid_mk hbl1
  have HB1 := hid_mk hback1
  have HTK := hid_mk (take_any hs1 (by omega))
  have hlo : K.lo ≤ w.heap.size := by have := hS.lt; have := hS.ok.cl; omega
  have hfew := hS.ok.few
  by_cases hg : decide (0 < T.len) = decide (cx.ret ≠ 0)
  · have hor : (T.len = 1 ∧ cx.ret ≠ 0) ∨ (T.len = 0 ∧ cx.ret = 0) := by
      rcases hso with h | ⟨h, _⟩
      · right; refine ⟨h, Classical.byContradiction fun e => ?_⟩
        rw [h, decide_eq_true e] at hg; cases hg
      · left; refine ⟨h, fun e => ?_⟩
        rw [h, e] at hg; cases hg
    have he : ∀ i, i < T.len → (T.kids i).eOk = true := by
      intro i hi
      rcases hso with h | ⟨h, h2⟩
      · omega
      · obtain rfl : i = 0 := by omega
        exact h2
    have hM0 : (if decide (0 < T.len) = decide (cx.ret ≠ 0) then (if 0 < T.len then wantM (exT K.F (T.kids 0)) cx.ret (take0 s) else .ok (take0 s)) else .error (9, s.2.length) : CR CS) = forN (fun i => wantM (exT K.F (T.kids i)) cx.ret) T.len (take0 s) := by
      rw [if_pos hg]
      rcases hor with ⟨h, _⟩ | ⟨h, _⟩
      · rw [h]; rfl
      · rw [h]; rfl
    rw [hM0]
    have HC := hid_mk (fun (W : World) (hW : IS K (w.alloc (.cells #[.int .i64 T.kind, .int .i64 T.num, .string T.name, .slice a T.len cap] 30)) O1 (take0 s) cx.ret cx.loops sels W) => ires_o hVar hk K _ O1 s cx sels W _ s.2.length hW (hE.later (hbl1 _ _ _ _ _ hW)) (hN.later (hbl1 _ _ _ _ _ hW)) hfit he hor)
    unfold Nd.val at *
    rw [hk] at HC HBX HBL HB1 HTK ⊢
    clear hS hE hN hs1 hback1 hbox1 hbl1 hok hk hq hst hfit hsne hd hM0 hg hor he hso
    cases hM : forN (fun i => wantM (exT K.F (T.kids i)) cx.ret) T.len (take0 s) with
    | error p =>
      have HM := hid_mk hM
      clear hM
      go_enter Tryz.func97, Tryz.ntmps97
      go_wp2_with (first
        | (go_at_call 60; refine HTK.out.mono ?_; rintro e w1 ⟨rfl, hs1⟩; obtain ⟨b0, b1, b2, b3⟩ := box_cells (HBX.out _ _ _ _ _ hs1); have HS1 := hid_mk hs1; clear hs1)
        | (go_at_call 116; refine (ansE (HC.out _ HS1.out) HM.out).mono ?_; rintro e w2 ⟨rfl, hb2⟩; skip))
      exact ⟨rfl, rfl, (HBL.out _ _ _ _ _ HS1.out).trans hb2⟩
    | ok s1 =>
      have HM := hid_mk hM
      clear hM
      go_enter Tryz.func97, Tryz.ntmps97
      go_wp2_with (first
        | (go_at_call 60; refine HTK.out.mono ?_; rintro e w1 ⟨rfl, hs1⟩; obtain ⟨b0, b1, b2, b3⟩ := box_cells (HBX.out _ _ _ _ _ hs1); have HS1 := hid_mk hs1; clear hs1)
        | (go_at_call 116; refine (ansO (HC.out _ HS1.out) HM.out).mono ?_; rintro e w2 ⟨rfl, hs2⟩; have HS2 := hid_mk hs2; clear hs2))
      go_end0
      exact ⟨rfl, HB1.out _ _ _ _ _ HS2.out⟩
  · rw [if_neg hg]
    have HC := hid_mk (fun (W : World) (hW : IS K (w.alloc (.cells #[.int .i64 T.kind, .int .i64 T.num, .string T.name, .slice a T.len cap] 30)) O1 (take0 s) cx.ret cx.loops sels W) => ires_e hk K _ O1 (take0 s) cx sels W _ s.2.length hW (hN.later (hbl1 _ _ _ _ _ hW)) (by rcases hso with h | ⟨h, _⟩; exact .inl h; exact .inr h) hg)
    unfold Nd.val at *
    rw [hk] at HC HBX HBL HB1 HTK ⊢
    clear hS hE hN hs1 hback1 hbox1 hbl1 hok hk hq hst hfit hsne hd hg hso
    go_enter Tryz.func97, Tryz.ntmps97
    go_wp2_with (first
      | (go_at_call 60; refine HTK.out.mono ?_; rintro e w1 ⟨rfl, hs1⟩; obtain ⟨b0, b1, b2, b3⟩ := box_cells (HBX.out _ _ _ _ _ hs1); have HS1 := hid_mk hs1; clear hs1)
      | (go_at_call 116; refine (HC.out _ HS1.out).mono ?_; rintro e w2 ⟨rfl, hb2⟩; skip))
    exact ⟨rfl, rfl, (HBL.out _ _ _ _ _ HS1.out).trans hb2⟩
end Go.Proofs.YtbjianmjdadehaaGreatDoor
