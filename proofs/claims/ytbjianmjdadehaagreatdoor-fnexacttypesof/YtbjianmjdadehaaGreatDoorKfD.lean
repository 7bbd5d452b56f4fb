/- The program's checker: statements of one value. Written by mkci.py. -/
import Derived.Test.YtbjianmjdadehaaGreatDoorKfA
import Derived.Deep.RegionWith
set_option linter.unusedVariables false
namespace Go.Proofs.YtbjianmjdadehaaGreatDoor
open Go.RowKit

set_option maxHeartbeats 4000000 in
set_option maxRecDepth 100000 in
theorem ist_19 (hVar : IVar) {T : Nd} (hk : T.kind = 19) : IStS T := by
  intro K w0 O s cx sels w v hcx hS hE hN hfit hok hsne hd hlo1 hou1
  have hsz : 0 < T.size := by rw [T.size_eq]; omega
  obtain ⟨hl, he0⟩ := so_one (by omega) hok
  have hst : (mnT K.F T).st cx s = wantM (exT K.F (T.kids 0)) 3 (take0 s) := by
    rw [stM_at K.F (by omega)]
    unfold stM
    rw [if_neg (by omega), if_neg (by omega), if_neg (by omega), if_neg (by omega), if_neg (by omega), if_neg (by omega), if_neg (by omega), if_neg (by omega), if_neg (by omega), if_neg (by omega), if_neg (by omega), if_neg (by omega), if_pos hk]
  rw [hst]
  obtain ⟨g, off, cap, hv, hgl, hcap, hkid⟩ := ck_kid hN.row (by omega)
  subst hv
  obtain ⟨u0, hc0, hr0⟩ := hkid 0 (by omega)
  simp only [Nat.zero_mul, Nat.add_zero] at hc0
  have HC0 := hid_mk hc0
  obtain ⟨O1, hs1, hback1, hbox1, hbl1⟩ := hS.boxed (.cells #[.int .i64 T.kind, .int .i64 T.num, .string T.name, .slice (some ⟨g, off, none⟩) T.len cap] 30)
  have HBX := hid_mk hbox1
  have HBL := hid_mk hbl1
  have HB1 := hid_mk hback1
  have HTK := hid_mk (take_any hs1 (by omega))
  have hlo : K.lo ≤ w.heap.size := by have := hS.lt; have := hS.ok.cl; omega
  have hfew := hS.ok.few
  have HF0 := hid_mk (take_fit hfit (i := 0) (by omega))
  have HC := hid_mk (fun (W : World) (hW : IS K (w.alloc (.cells #[.int .i64 T.kind, .int .i64 T.num, .string T.name, .slice (some ⟨g, off, none⟩) T.len cap] 30)) O1 (take0 s) cx.ret cx.loops sels W) => iwant_of (iex_every hVar (T.kids 0)) K _ O1 (take0 s) cx.ret cx.loops sels W u0 3 hW (hE.later (hbl1 _ _ _ _ _ hW)) ((hN.kid (by omega) hr0).later (hbl1 _ _ _ _ _ hW)) HF0.out he0)
  unfold Nd.val at *
  have hgw : g < w.heap.size := by omega
  have hgw1 : g < w.heap.size + 1 := by omega
  have hgw2 : g < w.heap.size + 1 + 1 := by omega
  have hgn0 : ¬ g = w.heap.size := by omega
  have hgn1 : ¬ g = w.heap.size + 1 := by omega
  have hgn2 : ¬ g = w.heap.size + 1 + 1 := by omega
  obtain ⟨c00, c01, c02, c03⟩ := HC0.out w (Below.refl _ _)
  have hpos : 0 < T.len := by omega
  rw [hk] at HC HBX HBL HB1 HTK ⊢
  clear hS hE hN hs1 hback1 hbox1 hbl1 hkid hc0 hr0 hok hk hl hst hfit hsne hd he0
  cases hM : wantM (exT K.F (T.kids 0)) 3 (take0 s) with
  | error p =>
    have HM := hid_mk hM
    clear hM
    go_enter Tryz.func97, Tryz.ntmps97
    go_wp2_with (first
      | (go_at_call 60; refine HTK.out.mono ?_; rintro e w1 ⟨rfl, hs1⟩; obtain ⟨b0, b1, b2, b3⟩ := box_cells (HBX.out _ _ _ _ _ hs1); obtain ⟨c00, c01, c02, c03⟩ := HC0.out _ (HBL.out _ _ _ _ _ hs1); have HS1 := hid_mk hs1; clear hs1)
      | (go_at_call 109; refine (ansE (HC.out _ HS1.out) HM.out).mono ?_; rintro e w2 ⟨rfl, hb2⟩; skip))
    exact ⟨rfl, rfl, (HBL.out _ _ _ _ _ HS1.out).trans hb2⟩
  | ok s1 =>
    have HM := hid_mk hM
    clear hM
    go_enter Tryz.func97, Tryz.ntmps97
    go_wp2_with (first
      | (go_at_call 60; refine HTK.out.mono ?_; rintro e w1 ⟨rfl, hs1⟩; obtain ⟨b0, b1, b2, b3⟩ := box_cells (HBX.out _ _ _ _ _ hs1); obtain ⟨c00, c01, c02, c03⟩ := HC0.out _ (HBL.out _ _ _ _ _ hs1); have HS1 := hid_mk hs1; clear hs1)
      | (go_at_call 109; refine (ansO (HC.out _ HS1.out) HM.out).mono ?_; rintro e w2 ⟨rfl, hs2⟩; have HS2 := hid_mk hs2; clear hs2))
    go_end0
    exact ⟨rfl, HB1.out _ _ _ _ _ HS2.out⟩
set_option maxHeartbeats 4000000 in
set_option maxRecDepth 100000 in
theorem ist_21 (hVar : IVar) {T : Nd} (hk : T.kind = 21) : IStS T := by
  intro K w0 O s cx sels w v hcx hS hE hN hfit hok hsne hd hlo1 hou1
  have hsz : 0 < T.size := by rw [T.size_eq]; omega
  obtain ⟨hl, he0⟩ := so_one (by omega) hok
  have hst : (mnT K.F T).st cx s = wantM (exT K.F (T.kids 0)) 1 (take0 s) := by
    rw [stM_at K.F (by omega)]
    unfold stM
    rw [if_neg (by omega), if_neg (by omega), if_neg (by omega), if_neg (by omega), if_neg (by omega), if_neg (by omega), if_neg (by omega), if_neg (by omega), if_neg (by omega), if_neg (by omega), if_neg (by omega), if_neg (by omega), if_neg (by omega), if_neg (by omega), if_pos hk]
  rw [hst]
  obtain ⟨g, off, cap, hv, hgl, hcap, hkid⟩ := ck_kid hN.row (by omega)
  subst hv
  obtain ⟨u0, hc0, hr0⟩ := hkid 0 (by omega)
  simp only [Nat.zero_mul, Nat.add_zero] at hc0
  have HC0 := hid_mk hc0
  obtain ⟨O1, hs1, hback1, hbox1, hbl1⟩ := hS.boxed (.cells #[.int .i64 T.kind, .int .i64 T.num, .string T.name, .slice (some ⟨g, off, none⟩) T.len cap] 30)
  have HBX := hid_mk hbox1
  have HBL := hid_mk hbl1
  have HB1 := hid_mk hback1
  have HTK := hid_mk (take_any hs1 (by omega))
  have hlo : K.lo ≤ w.heap.size := by have := hS.lt; have := hS.ok.cl; omega
  have hfew := hS.ok.few
  have HF0 := hid_mk (take_fit hfit (i := 0) (by omega))
  have HC := hid_mk (fun (W : World) (hW : IS K (w.alloc (.cells #[.int .i64 T.kind, .int .i64 T.num, .string T.name, .slice (some ⟨g, off, none⟩) T.len cap] 30)) O1 (take0 s) cx.ret cx.loops sels W) => iwant_of (iex_every hVar (T.kids 0)) K _ O1 (take0 s) cx.ret cx.loops sels W u0 1 hW (hE.later (hbl1 _ _ _ _ _ hW)) ((hN.kid (by omega) hr0).later (hbl1 _ _ _ _ _ hW)) HF0.out he0)
  unfold Nd.val at *
  have hgw : g < w.heap.size := by omega
  have hgw1 : g < w.heap.size + 1 := by omega
  have hgw2 : g < w.heap.size + 1 + 1 := by omega
  have hgn0 : ¬ g = w.heap.size := by omega
  have hgn1 : ¬ g = w.heap.size + 1 := by omega
  have hgn2 : ¬ g = w.heap.size + 1 + 1 := by omega
  obtain ⟨c00, c01, c02, c03⟩ := HC0.out w (Below.refl _ _)
  have hpos : 0 < T.len := by omega
  rw [hk] at HC HBX HBL HB1 HTK ⊢
  clear hS hE hN hs1 hback1 hbox1 hbl1 hkid hc0 hr0 hok hk hl hst hfit hsne hd he0
  cases hM : wantM (exT K.F (T.kids 0)) 1 (take0 s) with
  | error p =>
    have HM := hid_mk hM
    clear hM
    go_enter Tryz.func97, Tryz.ntmps97
    go_wp2_with (first
      | (go_at_call 60; refine HTK.out.mono ?_; rintro e w1 ⟨rfl, hs1⟩; obtain ⟨b0, b1, b2, b3⟩ := box_cells (HBX.out _ _ _ _ _ hs1); obtain ⟨c00, c01, c02, c03⟩ := HC0.out _ (HBL.out _ _ _ _ _ hs1); have HS1 := hid_mk hs1; clear hs1)
      | (go_at_call 109; refine (ansE (HC.out _ HS1.out) HM.out).mono ?_; rintro e w2 ⟨rfl, hb2⟩; skip))
    exact ⟨rfl, rfl, (HBL.out _ _ _ _ _ HS1.out).trans hb2⟩
  | ok s1 =>
    have HM := hid_mk hM
    clear hM
    go_enter Tryz.func97, Tryz.ntmps97
    go_wp2_with (first
      | (go_at_call 60; refine HTK.out.mono ?_; rintro e w1 ⟨rfl, hs1⟩; obtain ⟨b0, b1, b2, b3⟩ := box_cells (HBX.out _ _ _ _ _ hs1); obtain ⟨c00, c01, c02, c03⟩ := HC0.out _ (HBL.out _ _ _ _ _ hs1); have HS1 := hid_mk hs1; clear hs1)
      | (go_at_call 109; refine (ansO (HC.out _ HS1.out) HM.out).mono ?_; rintro e w2 ⟨rfl, hs2⟩; have HS2 := hid_mk hs2; clear hs2))
    go_end0
    exact ⟨rfl, HB1.out _ _ _ _ _ HS2.out⟩
set_option maxHeartbeats 4000000 in
set_option maxRecDepth 100000 in
theorem ist_20 (hVar : IVar) {T : Nd} (hk : T.kind = 20) : IStS T := by
  intro K w0 O s cx sels w v hcx hS hE hN hfit hok hsne hd hlo1 hou1
  have hsz : 0 < T.size := by rw [T.size_eq]; omega
  obtain ⟨hl, he0⟩ := so_one (by omega) hok
  have hst : (mnT K.F T).st cx s = CR.bind (valueM (exT K.F (T.kids 0)) (take0 s)) fun r => if r.1 = 3 then .error (7, (take0 s).2.length) else .ok r.2 := by
    rw [stM_at K.F (by omega)]
    unfold stM
    rw [if_neg (by omega), if_neg (by omega), if_neg (by omega), if_neg (by omega), if_neg (by omega), if_neg (by omega), if_neg (by omega), if_neg (by omega), if_neg (by omega), if_neg (by omega), if_neg (by omega), if_neg (by omega), if_neg (by omega), if_pos hk]; rw [take0_len]
  rw [hst]
  obtain ⟨g, off, cap, hv, hgl, hcap, hkid⟩ := ck_kid hN.row (by omega)
  subst hv
  obtain ⟨u0, hc0, hr0⟩ := hkid 0 (by omega)
  simp only [Nat.zero_mul, Nat.add_zero] at hc0
  have HC0 := hid_mk hc0
  obtain ⟨O1, hs1, hback1, hbox1, hbl1⟩ := hS.boxed (.cells #[.int .i64 T.kind, .int .i64 T.num, .string T.name, .slice (some ⟨g, off, none⟩) T.len cap] 30)
  have HBX := hid_mk hbox1
  have HBL := hid_mk hbl1
  have HB1 := hid_mk hback1
  have HTK := hid_mk (take_any hs1 (by omega))
  have hlo : K.lo ≤ w.heap.size := by have := hS.lt; have := hS.ok.cl; omega
  have hfew := hS.ok.few
  have HF0 := hid_mk (take_fit hfit (i := 0) (by omega))
  have HC := hid_mk (fun (W : World) (hW : IS K (w.alloc (.cells #[.int .i64 T.kind, .int .i64 T.num, .string T.name, .slice (some ⟨g, off, none⟩) T.len cap] 30)) O1 (take0 s) cx.ret cx.loops sels W) => ishown_of hVar K _ O1 (take0 s) cx.ret cx.loops sels W u0 hW (hE.later (hbl1 _ _ _ _ _ hW)) ((hN.kid (by omega) hr0).later (hbl1 _ _ _ _ _ hW)) HF0.out he0)
  unfold Nd.val at *
  have hgw : g < w.heap.size := by omega
  have hgw1 : g < w.heap.size + 1 := by omega
  have hgw2 : g < w.heap.size + 1 + 1 := by omega
  have hgn0 : ¬ g = w.heap.size := by omega
  have hgn1 : ¬ g = w.heap.size + 1 := by omega
  have hgn2 : ¬ g = w.heap.size + 1 + 1 := by omega
  obtain ⟨c00, c01, c02, c03⟩ := HC0.out w (Below.refl _ _)
  have hpos : 0 < T.len := by omega
  rw [hk] at HC HBX HBL HB1 HTK ⊢
  clear hS hE hN hs1 hback1 hbox1 hbl1 hkid hc0 hr0 hok hk hl hst hfit hsne hd he0
  cases hM : CR.bind (valueM (exT K.F (T.kids 0)) (take0 s)) fun r => if r.1 = 3 then .error (7, (take0 s).2.length) else .ok r.2 with
  | error p =>
    have HM := hid_mk hM
    clear hM
    go_enter Tryz.func97, Tryz.ntmps97
    go_wp2_with (first
      | (go_at_call 60; refine HTK.out.mono ?_; rintro e w1 ⟨rfl, hs1⟩; obtain ⟨b0, b1, b2, b3⟩ := box_cells (HBX.out _ _ _ _ _ hs1); obtain ⟨c00, c01, c02, c03⟩ := HC0.out _ (HBL.out _ _ _ _ _ hs1); have HS1 := hid_mk hs1; clear hs1)
      | (go_at_call 119; refine (ansE (HC.out _ HS1.out) HM.out).mono ?_; rintro e w2 ⟨rfl, hb2⟩; skip))
    exact ⟨rfl, rfl, (HBL.out _ _ _ _ _ HS1.out).trans hb2⟩
  | ok s1 =>
    have HM := hid_mk hM
    clear hM
    go_enter Tryz.func97, Tryz.ntmps97
    go_wp2_with (first
      | (go_at_call 60; refine HTK.out.mono ?_; rintro e w1 ⟨rfl, hs1⟩; obtain ⟨b0, b1, b2, b3⟩ := box_cells (HBX.out _ _ _ _ _ hs1); obtain ⟨c00, c01, c02, c03⟩ := HC0.out _ (HBL.out _ _ _ _ _ hs1); have HS1 := hid_mk hs1; clear hs1)
      | (go_at_call 119; refine (ansO (HC.out _ HS1.out) HM.out).mono ?_; rintro e w2 ⟨rfl, hs2⟩; have HS2 := hid_mk hs2; clear hs2))
    go_end0
    exact ⟨rfl, HB1.out _ _ _ _ _ HS2.out⟩
end Go.Proofs.YtbjianmjdadehaaGreatDoor
namespace Go.Proofs.YtbjianmjdadehaaGreatDoor
open Go.RowKit

set_option maxHeartbeats 4000000 in
set_option maxRecDepth 100000 in
theorem ist_9 (hVar : IVar) {T : Nd} (hk : T.kind = 9) : IStS T := by
  intro K w0 O s cx sels w v hcx hS hE hN hfit hok hsne hd hlo1 hou1
  have hsz : 0 < T.size := by rw [T.size_eq]; omega
  obtain ⟨hl, he0⟩ := so_one (by omega) hok
  have hst : (mnT K.F T).st cx s = CR.bind (exT K.F (T.kids 0) (take0 s)) fun r => .ok r.2 := by
    rw [stM_at K.F (by omega)]
    unfold stM
    rw [if_neg (by omega), if_neg (by omega), if_neg (by omega), if_neg (by omega), if_neg (by omega), if_pos (by omega)]
  rw [hst]
  obtain ⟨g, off, cap, hv, hgl, hcap, hkid⟩ := ck_kid hN.row (by omega)
  subst hv
  obtain ⟨u0, hc0, hr0⟩ := hkid 0 (by omega)
  simp only [Nat.zero_mul, Nat.add_zero] at hc0
  have HC0 := hid_mk hc0
  obtain ⟨O1, hs1, hback1, hbox1, hbl1⟩ := hS.boxed (.cells #[.int .i64 T.kind, .int .i64 T.num, .string T.name, .slice (some ⟨g, off, none⟩) T.len cap] 30)
  have HBX := hid_mk hbox1
  have HBL := hid_mk hbl1
  have HB1 := hid_mk hback1
  have HTK := hid_mk (take_any hs1 (by omega))
  have hlo : K.lo ≤ w.heap.size := by have := hS.lt; have := hS.ok.cl; omega
  have hfew := hS.ok.few
  have HF0 := hid_mk (take_fit hfit (i := 0) (by omega))
  have HC := hid_mk (fun (W : World) (hW : IS K (w.alloc (.cells #[.int .i64 T.kind, .int .i64 T.num, .string T.name, .slice (some ⟨g, off, none⟩) T.len cap] 30)) O1 (take0 s) cx.ret cx.loops sels W) => iex_every hVar (T.kids 0) K _ O1 (take0 s) cx.ret cx.loops sels W u0 hW (hE.later (hbl1 _ _ _ _ _ hW)) ((hN.kid (by omega) hr0).later (hbl1 _ _ _ _ _ hW)) HF0.out he0)
  unfold Nd.val at *
  have hgw : g < w.heap.size := by omega
  have hgw1 : g < w.heap.size + 1 := by omega
  have hgw2 : g < w.heap.size + 1 + 1 := by omega
  have hgn0 : ¬ g = w.heap.size := by omega
  have hgn1 : ¬ g = w.heap.size + 1 := by omega
  have hgn2 : ¬ g = w.heap.size + 1 + 1 := by omega
  obtain ⟨c00, c01, c02, c03⟩ := HC0.out w (Below.refl _ _)
  have hpos : 0 < T.len := by omega
  rw [hk] at HC HBX HBL HB1 HTK ⊢
  clear hS hE hN hs1 hback1 hbox1 hbl1 hkid hc0 hr0 hok hk hl hst hfit hsne hd he0
  cases hM : exT K.F (T.kids 0) (take0 s) with
  | error p =>
    have HM := hid_mk hM
    clear hM
    rw [CR.bind_error]
    go_enter Tryz.func97, Tryz.ntmps97
    go_wp2_with (first
      | (go_at_call 60; refine HTK.out.mono ?_; rintro e w1 ⟨rfl, hs1⟩; obtain ⟨b0, b1, b2, b3⟩ := box_cells (HBX.out _ _ _ _ _ hs1); obtain ⟨c00, c01, c02, c03⟩ := HC0.out _ (HBL.out _ _ _ _ _ hs1); have HS1 := hid_mk hs1; clear hs1)
      | (go_at_call 113; refine (ansE (HC.out _ HS1.out) HM.out).mono ?_; rintro e w2 ⟨rfl, hb2⟩; skip))
    exact ⟨rfl, rfl, (HBL.out _ _ _ _ _ HS1.out).trans hb2⟩
  | ok s1 =>
    have HM := hid_mk hM
    clear hM
    rw [CR.bind_ok]
    go_enter Tryz.func97, Tryz.ntmps97
    go_wp2_with (first
      | (go_at_call 60; refine HTK.out.mono ?_; rintro e w1 ⟨rfl, hs1⟩; obtain ⟨b0, b1, b2, b3⟩ := box_cells (HBX.out _ _ _ _ _ hs1); obtain ⟨c00, c01, c02, c03⟩ := HC0.out _ (HBL.out _ _ _ _ _ hs1); have HS1 := hid_mk hs1; clear hs1)
      | (go_at_call 113; refine (ansO (HC.out _ HS1.out) HM.out).mono ?_; rintro e w2 ⟨rfl, hs2⟩; have HS2 := hid_mk hs2; clear hs2))
    go_end0
    exact ⟨rfl, HB1.out _ _ _ _ _ HS2.out⟩
set_option maxHeartbeats 4000000 in
set_option maxRecDepth 100000 in
theorem ist_13 (hVar : IVar) {T : Nd} (hk : T.kind = 13) : IStS T := by
  intro K w0 O s cx sels w v hcx hS hE hN hfit hok hsne hd hlo1 hou1
  have hsz : 0 < T.size := by rw [T.size_eq]; omega
  obtain ⟨hl, he0⟩ := so_one (by omega) hok
  have hst : (mnT K.F T).st cx s = CR.bind (exT K.F (T.kids 0) (take0 s)) fun r => .ok r.2 := by
    rw [stM_at K.F (by omega)]
    unfold stM
    rw [if_neg (by omega), if_neg (by omega), if_neg (by omega), if_neg (by omega), if_neg (by omega), if_pos (by omega)]
  rw [hst]
  obtain ⟨g, off, cap, hv, hgl, hcap, hkid⟩ := ck_kid hN.row (by omega)
  subst hv
  obtain ⟨u0, hc0, hr0⟩ := hkid 0 (by omega)
  simp only [Nat.zero_mul, Nat.add_zero] at hc0
  have HC0 := hid_mk hc0
  obtain ⟨O1, hs1, hback1, hbox1, hbl1⟩ := hS.boxed (.cells #[.int .i64 T.kind, .int .i64 T.num, .string T.name, .slice (some ⟨g, off, none⟩) T.len cap] 30)
  have HBX := hid_mk hbox1
  have HBL := hid_mk hbl1
  have HB1 := hid_mk hback1
  have HTK := hid_mk (take_any hs1 (by omega))
  have hlo : K.lo ≤ w.heap.size := by have := hS.lt; have := hS.ok.cl; omega
  have hfew := hS.ok.few
  have HF0 := hid_mk (take_fit hfit (i := 0) (by omega))
  have HC := hid_mk (fun (W : World) (hW : IS K (w.alloc (.cells #[.int .i64 T.kind, .int .i64 T.num, .string T.name, .slice (some ⟨g, off, none⟩) T.len cap] 30)) O1 (take0 s) cx.ret cx.loops sels W) => iex_every hVar (T.kids 0) K _ O1 (take0 s) cx.ret cx.loops sels W u0 hW (hE.later (hbl1 _ _ _ _ _ hW)) ((hN.kid (by omega) hr0).later (hbl1 _ _ _ _ _ hW)) HF0.out he0)
  unfold Nd.val at *
  have hgw : g < w.heap.size := by omega
  have hgw1 : g < w.heap.size + 1 := by omega
  have hgw2 : g < w.heap.size + 1 + 1 := by omega
  have hgn0 : ¬ g = w.heap.size := by omega
  have hgn1 : ¬ g = w.heap.size + 1 := by omega
  have hgn2 : ¬ g = w.heap.size + 1 + 1 := by omega
  obtain ⟨c00, c01, c02, c03⟩ := HC0.out w (Below.refl _ _)
  have hpos : 0 < T.len := by omega
  rw [hk] at HC HBX HBL HB1 HTK ⊢
  clear hS hE hN hs1 hback1 hbox1 hbl1 hkid hc0 hr0 hok hk hl hst hfit hsne hd he0
  cases hM : exT K.F (T.kids 0) (take0 s) with
  | error p =>
    have HM := hid_mk hM
    clear hM
    rw [CR.bind_error]
    go_enter Tryz.func97, Tryz.ntmps97
    go_wp2_with (first
      | (go_at_call 60; refine HTK.out.mono ?_; rintro e w1 ⟨rfl, hs1⟩; obtain ⟨b0, b1, b2, b3⟩ := box_cells (HBX.out _ _ _ _ _ hs1); obtain ⟨c00, c01, c02, c03⟩ := HC0.out _ (HBL.out _ _ _ _ _ hs1); have HS1 := hid_mk hs1; clear hs1)
      | (go_at_call 113; refine (ansE (HC.out _ HS1.out) HM.out).mono ?_; rintro e w2 ⟨rfl, hb2⟩; skip))
    exact ⟨rfl, rfl, (HBL.out _ _ _ _ _ HS1.out).trans hb2⟩
  | ok s1 =>
    have HM := hid_mk hM
    clear hM
    rw [CR.bind_ok]
    go_enter Tryz.func97, Tryz.ntmps97
    go_wp2_with (first
      | (go_at_call 60; refine HTK.out.mono ?_; rintro e w1 ⟨rfl, hs1⟩; obtain ⟨b0, b1, b2, b3⟩ := box_cells (HBX.out _ _ _ _ _ hs1); obtain ⟨c00, c01, c02, c03⟩ := HC0.out _ (HBL.out _ _ _ _ _ hs1); have HS1 := hid_mk hs1; clear hs1)
      | (go_at_call 113; refine (ansO (HC.out _ HS1.out) HM.out).mono ?_; rintro e w2 ⟨rfl, hs2⟩; have HS2 := hid_mk hs2; clear hs2))
    go_end0
    exact ⟨rfl, HB1.out _ _ _ _ _ HS2.out⟩
set_option maxHeartbeats 4000000 in
set_option maxRecDepth 100000 in
theorem ist_14 (hVar : IVar) {T : Nd} (hk : T.kind = 14) : IStS T := by
  intro K w0 O s cx sels w v hcx hS hE hN hfit hok hsne hd hlo1 hou1
  have hsz : 0 < T.size := by rw [T.size_eq]; omega
  obtain ⟨hl, he0⟩ := so_one (by omega) hok
  have hst : (mnT K.F T).st cx s = CR.bind (exT K.F (T.kids 0) (take0 s)) fun r => .ok r.2 := by
    rw [stM_at K.F (by omega)]
    unfold stM
    rw [if_neg (by omega), if_neg (by omega), if_neg (by omega), if_neg (by omega), if_neg (by omega), if_pos (by omega)]
  rw [hst]
  obtain ⟨g, off, cap, hv, hgl, hcap, hkid⟩ := ck_kid hN.row (by omega)
  subst hv
  obtain ⟨u0, hc0, hr0⟩ := hkid 0 (by omega)
  simp only [Nat.zero_mul, Nat.add_zero] at hc0
  have HC0 := hid_mk hc0
  obtain ⟨O1, hs1, hback1, hbox1, hbl1⟩ := hS.boxed (.cells #[.int .i64 T.kind, .int .i64 T.num, .string T.name, .slice (some ⟨g, off, none⟩) T.len cap] 30)
  have HBX := hid_mk hbox1
  have HBL := hid_mk hbl1
  have HB1 := hid_mk hback1
  have HTK := hid_mk (take_any hs1 (by omega))
  have hlo : K.lo ≤ w.heap.size := by have := hS.lt; have := hS.ok.cl; omega
  have hfew := hS.ok.few
  have HF0 := hid_mk (take_fit hfit (i := 0) (by omega))
  have HC := hid_mk (fun (W : World) (hW : IS K (w.alloc (.cells #[.int .i64 T.kind, .int .i64 T.num, .string T.name, .slice (some ⟨g, off, none⟩) T.len cap] 30)) O1 (take0 s) cx.ret cx.loops sels W) => iex_every hVar (T.kids 0) K _ O1 (take0 s) cx.ret cx.loops sels W u0 hW (hE.later (hbl1 _ _ _ _ _ hW)) ((hN.kid (by omega) hr0).later (hbl1 _ _ _ _ _ hW)) HF0.out he0)
  unfold Nd.val at *
  have hgw : g < w.heap.size := by omega
  have hgw1 : g < w.heap.size + 1 := by omega
  have hgw2 : g < w.heap.size + 1 + 1 := by omega
  have hgn0 : ¬ g = w.heap.size := by omega
  have hgn1 : ¬ g = w.heap.size + 1 := by omega
  have hgn2 : ¬ g = w.heap.size + 1 + 1 := by omega
  obtain ⟨c00, c01, c02, c03⟩ := HC0.out w (Below.refl _ _)
  have hpos : 0 < T.len := by omega
  rw [hk] at HC HBX HBL HB1 HTK ⊢
  clear hS hE hN hs1 hback1 hbox1 hbl1 hkid hc0 hr0 hok hk hl hst hfit hsne hd he0
  cases hM : exT K.F (T.kids 0) (take0 s) with
  | error p =>
    have HM := hid_mk hM
    clear hM
    rw [CR.bind_error]
    go_enter Tryz.func97, Tryz.ntmps97
    go_wp2_with (first
      | (go_at_call 60; refine HTK.out.mono ?_; rintro e w1 ⟨rfl, hs1⟩; obtain ⟨b0, b1, b2, b3⟩ := box_cells (HBX.out _ _ _ _ _ hs1); obtain ⟨c00, c01, c02, c03⟩ := HC0.out _ (HBL.out _ _ _ _ _ hs1); have HS1 := hid_mk hs1; clear hs1)
      | (go_at_call 113; refine (ansE (HC.out _ HS1.out) HM.out).mono ?_; rintro e w2 ⟨rfl, hb2⟩; skip))
    exact ⟨rfl, rfl, (HBL.out _ _ _ _ _ HS1.out).trans hb2⟩
  | ok s1 =>
    have HM := hid_mk hM
    clear hM
    rw [CR.bind_ok]
    go_enter Tryz.func97, Tryz.ntmps97
    go_wp2_with (first
      | (go_at_call 60; refine HTK.out.mono ?_; rintro e w1 ⟨rfl, hs1⟩; obtain ⟨b0, b1, b2, b3⟩ := box_cells (HBX.out _ _ _ _ _ hs1); obtain ⟨c00, c01, c02, c03⟩ := HC0.out _ (HBL.out _ _ _ _ _ hs1); have HS1 := hid_mk hs1; clear hs1)
      | (go_at_call 113; refine (ansO (HC.out _ HS1.out) HM.out).mono ?_; rintro e w2 ⟨rfl, hs2⟩; have HS2 := hid_mk hs2; clear hs2))
    go_end0
    exact ⟨rfl, HB1.out _ _ _ _ _ HS2.out⟩
end Go.Proofs.YtbjianmjdadehaaGreatDoor
namespace Go.Proofs.YtbjianmjdadehaaGreatDoor
open Go.RowKit

set_option maxHeartbeats 4000000 in
set_option maxRecDepth 100000 in
theorem ist_4 (hVar : IVar) {T : Nd} (hk : T.kind = 4) (hrec : ∀ U : Nd, U.size < T.size → IStS U) : IStS T := by
  intro K w0 O s cx sels w v hcx hS hE hN hfit hok hsne hd hlo1 hou1
  have hsz : 0 < T.size := by rw [T.size_eq]; omega
  rw [st4_eq hk]
  obtain ⟨a, cap, hv, hcap, hq⟩ := row_eq.1 hN.row
  subst hv
  obtain ⟨O1, hs1, hback1, hbox1, hbl1⟩ := hS.boxed (.cells #[.int .i64 T.kind, .int .i64 T.num, .string T.name, .slice a T.len cap] 30)
  have HBX := hid_mk hbox1
  have HBL := hid_mk hbl1
  have HB1 := hid_mk hback1
  have HS1 := hid_mk hs1
  have hlo : K.lo ≤ w.heap.size := by have := hS.lt; have := hS.ok.cl; omega
  have hfew := hS.ok.few
  have HC := hid_mk (iblk_of hk (fun i hi => hrec _ (by have := kid_size T hi; omega)) K _ O1 s cx sels _ _ hcx hs1 (hE.later (hbl1 _ _ _ _ _ hs1)) (hN.later (hbl1 _ _ _ _ _ hs1)) hfit hok hd (by omega) (by omega))
  unfold Nd.val at *
  rw [hk] at HC HBX HBL HB1 HS1 ⊢
  clear hS hE hN hs1 hback1 hbox1 hbl1 hok hk hq hfit hsne hd hrec
  cases hM : within [] ((mnT K.F T).sts cx) s with
  | error p =>
    have HM := hid_mk hM
    clear hM
    go_enter Tryz.func97, Tryz.ntmps97
    go_wp2_with (first
      | (go_at_call 107; refine (ansE HC.out HM.out).mono ?_; rintro e w2 ⟨rfl, hb2⟩; skip))
    exact ⟨rfl, rfl, (HBL.out _ _ _ _ _ HS1.out).trans hb2⟩
  | ok s1 =>
    have HM := hid_mk hM
    clear hM
    go_enter Tryz.func97, Tryz.ntmps97
    go_wp2_with (first
      | (go_at_call 107; refine (ansO HC.out HM.out).mono ?_; rintro e w2 ⟨rfl, hs2⟩; have HS2 := hid_mk hs2; clear hs2))
    go_end0
    exact ⟨rfl, HB1.out _ _ _ _ _ HS2.out⟩
end Go.Proofs.YtbjianmjdadehaaGreatDoor
namespace Go.Proofs.YtbjianmjdadehaaGreatDoor
open Go.RowKit

set_option maxHeartbeats 4000000 in
set_option maxRecDepth 100000 in
theorem ist_8 (hVar : IVar) {T : Nd} (hk : T.kind = 8) : IStS T := by
  intro K w0 O s cx sels w v hcx hS hE hN hfit hok hsne hd hlo1 hou1
  have hsz : 0 < T.size := by rw [T.size_eq]; omega
  obtain ⟨hl, he0, he1⟩ := so_8 hk hok
  have hst : (mnT K.F T).st cx s = CR.bind (wantM (exT K.F (T.kids 0)) 3 (take0 s)) (wantM (exT K.F (T.kids 1)) 1) := by
    rw [stM_at K.F (by omega)]
    unfold stM
    rw [if_neg (by omega), if_neg (by omega), if_neg (by omega), if_neg (by omega), if_pos hk]
  rw [hst]
  obtain ⟨g, off, cap, hv, hgl, hcap, hkid⟩ := ck_kid hN.row (by omega)
  subst hv
  obtain ⟨u0, hc0, hr0⟩ := hkid 0 (by omega)
  simp only [Nat.zero_mul, Nat.add_zero] at hc0
  obtain ⟨a0, q0, hu0, hcp0, hqq0⟩ := row_eq.1 hr0
  clear hqq0
  subst hu0
  have HC0 := hid_mk hc0
  obtain ⟨u1, hc1, hr1⟩ := hkid 1 (by omega)
  simp only [Nat.one_mul] at hc1
  obtain ⟨a1, q1, hu1, hcp1, hqq1⟩ := row_eq.1 hr1
  clear hqq1
  subst hu1
  have HC1 := hid_mk hc1
  obtain ⟨O1, hs1, hback1, hbox1, hbl1⟩ := hS.boxed (.cells #[.int .i64 T.kind, .int .i64 T.num, .string T.name, .slice (some ⟨g, off, none⟩) T.len cap] 30)
  have HBX := hid_mk hbox1
  have HBL := hid_mk hbl1
  have HB1 := hid_mk hback1
  have HTK := hid_mk (take_any hs1 (by omega))
  have hlo : K.lo ≤ w.heap.size := by have := hS.lt; have := hS.ok.cl; omega
  have hfew := hS.ok.few
  have HN0 := hid_mk (hN.kid (i := 0) (by omega) hr0)
  have HN1 := hid_mk (hN.kid (i := 1) (by omega) hr1)
  have HF0 : Hid ((take0 s).2.length + ((T.kids 0).size + (T.kids 1).size) ≤ K.N) := by
    have := kidAt_le T s.2.length (i := 1) (by omega)
    unfold kidAt at this; simp only [sumTo] at this
    unfold Hid; rw [take0_len]; omega
  have HSD := hid_mk (fun (W : World) (hW : IS K (w.alloc (.cells #[.int .i64 T.kind, .int .i64 T.num, .string T.name, .slice (some ⟨g, off, none⟩) T.len cap] 30)) O1 (take0 s) cx.ret cx.loops sels W) => isend_of hVar (A := T.kids 0) (B := T.kids 1) K _ O1 (take0 s) cx.ret cx.loops sels W _ _ hW (hE.later (hbl1 _ _ _ _ _ hW)) (HN0.out.later (hbl1 _ _ _ _ _ hW)) (HN1.out.later (hbl1 _ _ _ _ _ hW)) HF0.out he0 he1)
  have hmix : Tryz.prog.follows Departure.mixedOrders = true := by kernel_rfl
  unfold Nd.val at *
  have hgw : g < w.heap.size := by omega
  have hgw1 : g < w.heap.size + 1 := by omega
  have hgw2 : g < w.heap.size + 1 + 1 := by omega
  have hgn0 : ¬ g = w.heap.size := by omega
  have hgn1 : ¬ g = w.heap.size + 1 := by omega
  have hgn2 : ¬ g = w.heap.size + 1 + 1 := by omega
  obtain ⟨c00, c01, c02, c03⟩ := HC0.out w (Below.refl _ _)
  obtain ⟨c10, c11, c12, c13⟩ := HC1.out w (Below.refl _ _)
  have hpos : 0 < T.len := by omega
  have hpos1 : (1 : Int) < (T.len : Int) := by omega
  have hpos1n : 1 < T.len := by omega
  rw [hk] at HSD HBX HBL HB1 HTK ⊢
  clear hS hE hN hs1 hback1 hbox1 hbl1 hkid hc0 hr0 hc1 hr1 hok hk hl hst hfit hsne hd he0 he1
  cases hM : CR.bind (wantM (exT K.F (T.kids 0)) 3 (take0 s)) (wantM (exT K.F (T.kids 1)) 1) with
  | error p =>
    have HM := hid_mk hM
    clear hM
    go_enter Tryz.func97, Tryz.ntmps97
    go_wp2_with (first
      | (go_at_call 60; refine HTK.out.mono ?_; rintro e w1 ⟨rfl, hs1⟩; obtain ⟨b0, b1, b2, b3⟩ := box_cells (HBX.out _ _ _ _ _ hs1); obtain ⟨c00, c01, c02, c03⟩ := HC0.out _ (HBL.out _ _ _ _ _ hs1); obtain ⟨c10, c11, c12, c13⟩ := HC1.out _ (HBL.out _ _ _ _ _ hs1); have HS1 := hid_mk hs1; clear hs1))
    go_still_tail 9, hmix
    go_wp2_with (first
      | (go_at_call 112; refine (ansE (HSD.out _ HS1.out.drew) HM.out).mono ?_; rintro e w2 ⟨rfl, hb2⟩; skip))
    exact ⟨rfl, rfl, (HBL.out _ _ _ _ _ HS1.out.drew).trans hb2⟩
  | ok s1 =>
    have HM := hid_mk hM
    clear hM
    go_enter Tryz.func97, Tryz.ntmps97
    go_wp2_with (first
      | (go_at_call 60; refine HTK.out.mono ?_; rintro e w1 ⟨rfl, hs1⟩; obtain ⟨b0, b1, b2, b3⟩ := box_cells (HBX.out _ _ _ _ _ hs1); obtain ⟨c00, c01, c02, c03⟩ := HC0.out _ (HBL.out _ _ _ _ _ hs1); obtain ⟨c10, c11, c12, c13⟩ := HC1.out _ (HBL.out _ _ _ _ _ hs1); have HS1 := hid_mk hs1; clear hs1))
    go_still_tail 9, hmix
    go_wp2_with (first
      | (go_at_call 112; refine (ansO (HSD.out _ HS1.out.drew) HM.out).mono ?_; rintro e w2 ⟨rfl, hs2⟩; have HS2 := hid_mk hs2; clear hs2))
    go_end0
    exact ⟨rfl, HB1.out _ _ _ _ _ HS2.out⟩
end Go.Proofs.YtbjianmjdadehaaGreatDoor
namespace Go.Proofs.YtbjianmjdadehaaGreatDoor
open Go.RowKit

set_option maxHeartbeats 4000000 in
set_option maxRecDepth 100000 in
theorem ist_5 (hVar : IVar) {T : Nd} (hk : T.kind = 5) : IStS T := by
  intro K w0 O s cx sels w v hcx hS hE hN hfit hok hsne hd hlo1 hou1
  have hsz : 0 < T.size := by rw [T.size_eq]; omega
  obtain ⟨hl, he0⟩ := so_one (by omega) hok
  have hst : (mnT K.F T).st cx s = CR.bind (valueM (exT K.F (T.kids 0)) (take0 s)) fun r => declC r.2 T.name r.1 s.2.length := by
    rw [stM_at K.F (by omega)]
    unfold stM
    rw [if_neg (by omega), if_pos hk]; rfl
  rw [hst]
  obtain ⟨g, off, cap, hv, hgl, hcap, hkid⟩ := ck_kid hN.row (by omega)
  subst hv
  obtain ⟨u0, hc0, hr0⟩ := hkid 0 (by omega)
  simp only [Nat.zero_mul, Nat.add_zero] at hc0
  obtain ⟨a0, q0, hu0, hcp0, hqq0⟩ := row_eq.1 hr0
  clear hqq0
  subst hu0
  have HC0 := hid_mk hc0
  obtain ⟨O1, hs1, hback1, hbox1, hbl1⟩ := hS.boxed (.cells #[.int .i64 T.kind, .int .i64 T.num, .string T.name, .slice (some ⟨g, off, none⟩) T.len cap] 30)
  have HBX := hid_mk hbox1
  have HBL := hid_mk hbl1
  have HB1 := hid_mk hback1
  have HTK := hid_mk (take_any hs1 (by omega))
  have hlo : K.lo ≤ w.heap.size := by have := hS.lt; have := hS.ok.cl; omega
  have hfew := hS.ok.few
  have HN0 := hid_mk (hN.kid (i := 0) (by omega) hr0)
  have HF0 := hid_mk (take_fit hfit (i := 0) (by omega))
  have HNMX := hid_mk (name_max hN.fine)
  have HV := hid_mk (fun (W : World) (hW : IS K (w.alloc (.cells #[.int .i64 T.kind, .int .i64 T.num, .string T.name, .slice (some ⟨g, off, none⟩) T.len cap] 30)) O1 (take0 s) cx.ret cx.loops sels W) => ivalue_of (iex_every hVar (T.kids 0)) K _ O1 (take0 s) cx.ret cx.loops sels W _ hW (hE.later (hbl1 _ _ _ _ _ hW)) (HN0.out.later (hbl1 _ _ _ _ _ hW)) HF0.out he0)
  have HDF := hid_mk (fun (W : World) (st : CS) (ty : Int) (hW : IS K (w.alloc (.cells #[.int .i64 T.kind, .int .i64 T.num, .string T.name, .slice (some ⟨g, off, none⟩) T.len cap] 30)) O1 st cx.ret cx.loops sels W) (h1 : st.1 ≠ []) (h2 : ty ≠ 0) (h4 : varLen st.1 + 1 ≤ st.2.length) => define_any hW T.name ty s.2.length h1 h2 HNMX.out h4)
  have HX : Hid (∀ r, valueM (exT K.F (T.kids 0)) (take0 s) = .ok r → r.2.1 ≠ [] ∧ r.1 ≠ 0 ∧ varLen r.2.1 + 1 ≤ r.2.2.length) := by
    intro r h
    obtain ⟨x1, x2⟩ := (ex_len K.F _ he0).value _ _ _ h
    have := hS.len.vars
    rw [take0_len] at x2
    have e1 : r.2.1 = s.1 := x1
    exact ⟨by rw [e1]; exact hsne, (valueM_inv h).2, by rw [e1]; omega⟩
  have hmix : Tryz.prog.follows Departure.mixedOrders = true := by kernel_rfl
  unfold Nd.val at *
  have hgw : g < w.heap.size := by omega
  have hgw1 : g < w.heap.size + 1 := by omega
  have hgw2 : g < w.heap.size + 1 + 1 := by omega
  have hgn0 : ¬ g = w.heap.size := by omega
  have hgn1 : ¬ g = w.heap.size + 1 := by omega
  have hgn2 : ¬ g = w.heap.size + 1 + 1 := by omega
  obtain ⟨c00, c01, c02, c03⟩ := HC0.out w (Below.refl _ _)
  have hpos : 0 < T.len := by omega
  rw [hk] at HV HDF HBX HBL HB1 HTK ⊢
  clear hS hE hN hs1 hback1 hbox1 hbl1 hkid hc0 hr0 hok hk hl hst hfit hsne hd he0
  cases hM : valueM (exT K.F (T.kids 0)) (take0 s) with
  | error p =>
    have HM := hid_mk hM
    clear hM
    rw [CR.bind_error]
    go_enter Tryz.func97, Tryz.ntmps97
    go_wp2_with (first
      | (go_at_call 60; refine HTK.out.mono ?_; rintro e w1 ⟨rfl, hs1⟩; obtain ⟨b0, b1, b2, b3⟩ := box_cells (HBX.out _ _ _ _ _ hs1); obtain ⟨c00, c01, c02, c03⟩ := HC0.out _ (HBL.out _ _ _ _ _ hs1); have HS1 := hid_mk hs1; clear hs1))
    refine wp_region_held_drew (S := (fun W => W.cell? ⟨w.heap.size, 2, none⟩ = some (.string T.name) ∧ W.cell? ⟨w.heap.size, 3, none⟩ = some (.slice (some ⟨g, off, none⟩) T.len cap) ∧ W.cell? ⟨g, off, none⟩ = some (.int .i64 (T.kids 0).kind) ∧ W.cell? ⟨g, off + 1, none⟩ = some (.int .i64 (T.kids 0).num) ∧ W.cell? ⟨g, off + 2, none⟩ = some (.string (T.kids 0).name) ∧ W.cell? ⟨g, off + 3, none⟩ = some (.slice a0 (T.kids 0).len q0))) hmix ?_ (fun hHeld => ?_)
    · exact ⟨b2, b3, c00, c01, c02, c03⟩
    refine wpAnyH_take (i := 0) (v := ?_) rfl (by kernel_rfl) (by kernel_rfl) (by kernel_rfl) (fun _ _ _ h => h) (Or.inl ⟨by rfl, ?_⟩) hHeld ?_
    rotate_left
    · intro W hW
      obtain ⟨x0, x1, x2, x3, x4, x5⟩ := hW
      go_simp
      with_reducible rfl
    simp only [Act.put, List.setIfInBounds_toArray]
    refine wpAnyH_take (i := 1) (v := ?_) rfl (by kernel_rfl) (by kernel_rfl) (by kernel_rfl) (fun _ _ _ h => h) (Or.inl ⟨by rfl, ?_⟩) hHeld ?_
    rotate_left
    · intro W hW
      obtain ⟨x0, x1, x2, x3, x4, x5⟩ := hW
      go_simp
      with_reducible rfl
    simp only [Act.put]
    refine wpAnyH_take (i := 2) (v := ?_) rfl (by kernel_rfl) (by kernel_rfl) (by kernel_rfl) (fun _ _ _ h => h) (Or.inl ⟨by rfl, ?_⟩) hHeld ?_
    rotate_left
    · intro W hW
      obtain ⟨x0, x1, x2, x3, x4, x5⟩ := hW
      go_simp
      with_reducible rfl
    simp only [Act.put]
    refine wpAnyH_take (i := 3) (v := ?_) rfl (by kernel_rfl) (by kernel_rfl) (by kernel_rfl) (fun _ _ _ h => h) (Or.inl ⟨by rfl, ?_⟩) hHeld ?_
    rotate_left
    · intro W hW
      obtain ⟨x0, x1, x2, x3, x4, x5⟩ := hW
      go_simp
      with_reducible rfl
    simp only [Act.put]
    refine wpAnyH_take (i := 4) (v := ?_) rfl (by kernel_rfl) (by kernel_rfl) (by kernel_rfl) (fun _ _ _ h => h) (Or.inl ⟨by rfl, ?_⟩) hHeld ?_
    rotate_left
    · intro W hW
      obtain ⟨x0, x1, x2, x3, x4, x5⟩ := hW
      go_simp
      with_reducible rfl
    simp only [Act.put]
    refine wpAnyH_take (i := 5) (v := ?_) rfl (by kernel_rfl) (by kernel_rfl) (by kernel_rfl) (fun _ _ _ h => h) (Or.inl ⟨by rfl, ?_⟩) hHeld ?_
    rotate_left
    · intro W hW
      obtain ⟨x0, x1, x2, x3, x4, x5⟩ := hW
      go_simp
      with_reducible rfl
    simp only [Act.put]
    refine wpAnyH_take (i := 6) (v := ?_) rfl (by kernel_rfl) (by kernel_rfl) (by kernel_rfl) (fun _ _ _ h => h) (Or.inl ⟨by rfl, ?_⟩) hHeld ?_
    rotate_left
    · intro W hW
      obtain ⟨x0, x1, x2, x3, x4, x5⟩ := hW
      go_simp
      with_reducible rfl
    simp only [Act.put]
    refine wpAnyH_take (i := 7) (v := ?_) rfl (by kernel_rfl) (by kernel_rfl) (by kernel_rfl) (fun _ _ _ h => h) (Or.inl ⟨by rfl, ?_⟩) hHeld ?_
    rotate_left
    · intro W hW
      obtain ⟨x0, x1, x2, x3, x4, x5⟩ := hW
      go_simp
      with_reducible rfl
    simp only [Act.put]
    refine wpAnyH_take (i := 9) (v := ?_) rfl (by kernel_rfl) (by kernel_rfl) (by kernel_rfl) (fun _ _ _ h => h) (Or.inl ⟨by rfl, ?_⟩) hHeld ?_
    rotate_left
    · intro W hW
      obtain ⟨x0, x1, x2, x3, x4, x5⟩ := hW
      go_simp
      with_reducible rfl
    simp only [Act.put]
    refine wpAnyH_ready (rs := [8]) (by kernel_rfl) (by simp) ?_
    refine AllReadyH.cons rfl (fun K' hK => ?_) AllReadyH.nil
    rw [if_pos (by rfl)]
    go_wp2_with (go_at_call 108; refine (ansE (HV.out _ HS1.out.drew) HM.out).mono ?_; rintro e w2 ⟨rfl, hb2⟩; skip)
    exact ⟨rfl, rfl, (HBL.out _ _ _ _ _ HS1.out.drew).trans hb2⟩
  | ok r =>
    obtain ⟨hx1, hx2, hx3⟩ := HX.out _ hM
    obtain ⟨ty, s1⟩ := r
    have HM := hid_mk hM
    have HX1 := hid_mk hx1
    have HX2 := hid_mk hx2
    have HX3 := hid_mk hx3
    clear hM hx1 hx2 hx3
    rw [CR.bind_ok]
    dsimp only at *
    cases hM2 : declC s1 T.name ty s.2.length with
    | error p =>
      have HM2 := hid_mk hM2
      clear hM2
      go_enter Tryz.func97, Tryz.ntmps97
      go_wp2_with (first
        | (go_at_call 60; refine HTK.out.mono ?_; rintro e w1 ⟨rfl, hs1⟩; obtain ⟨b0, b1, b2, b3⟩ := box_cells (HBX.out _ _ _ _ _ hs1); obtain ⟨c00, c01, c02, c03⟩ := HC0.out _ (HBL.out _ _ _ _ _ hs1); have HS1 := hid_mk hs1; clear hs1))
      refine wp_region_held_drew (S := (fun W => W.cell? ⟨w.heap.size, 2, none⟩ = some (.string T.name) ∧ W.cell? ⟨w.heap.size, 3, none⟩ = some (.slice (some ⟨g, off, none⟩) T.len cap) ∧ W.cell? ⟨g, off, none⟩ = some (.int .i64 (T.kids 0).kind) ∧ W.cell? ⟨g, off + 1, none⟩ = some (.int .i64 (T.kids 0).num) ∧ W.cell? ⟨g, off + 2, none⟩ = some (.string (T.kids 0).name) ∧ W.cell? ⟨g, off + 3, none⟩ = some (.slice a0 (T.kids 0).len q0))) hmix ?_ (fun hHeld => ?_)
      · exact ⟨b2, b3, c00, c01, c02, c03⟩
      refine wpAnyH_take (i := 0) (v := ?_) rfl (by kernel_rfl) (by kernel_rfl) (by kernel_rfl) (fun _ _ _ h => h) (Or.inl ⟨by rfl, ?_⟩) hHeld ?_
      rotate_left
      · intro W hW
        obtain ⟨x0, x1, x2, x3, x4, x5⟩ := hW
        go_simp
        with_reducible rfl
      simp only [Act.put, List.setIfInBounds_toArray]
      refine wpAnyH_take (i := 1) (v := ?_) rfl (by kernel_rfl) (by kernel_rfl) (by kernel_rfl) (fun _ _ _ h => h) (Or.inl ⟨by rfl, ?_⟩) hHeld ?_
      rotate_left
      · intro W hW
        obtain ⟨x0, x1, x2, x3, x4, x5⟩ := hW
        go_simp
        with_reducible rfl
      simp only [Act.put]
      refine wpAnyH_take (i := 2) (v := ?_) rfl (by kernel_rfl) (by kernel_rfl) (by kernel_rfl) (fun _ _ _ h => h) (Or.inl ⟨by rfl, ?_⟩) hHeld ?_
      rotate_left
      · intro W hW
        obtain ⟨x0, x1, x2, x3, x4, x5⟩ := hW
        go_simp
        with_reducible rfl
      simp only [Act.put]
      refine wpAnyH_take (i := 3) (v := ?_) rfl (by kernel_rfl) (by kernel_rfl) (by kernel_rfl) (fun _ _ _ h => h) (Or.inl ⟨by rfl, ?_⟩) hHeld ?_
      rotate_left
      · intro W hW
        obtain ⟨x0, x1, x2, x3, x4, x5⟩ := hW
        go_simp
        with_reducible rfl
      simp only [Act.put]
      refine wpAnyH_take (i := 4) (v := ?_) rfl (by kernel_rfl) (by kernel_rfl) (by kernel_rfl) (fun _ _ _ h => h) (Or.inl ⟨by rfl, ?_⟩) hHeld ?_
      rotate_left
      · intro W hW
        obtain ⟨x0, x1, x2, x3, x4, x5⟩ := hW
        go_simp
        with_reducible rfl
      simp only [Act.put]
      refine wpAnyH_take (i := 5) (v := ?_) rfl (by kernel_rfl) (by kernel_rfl) (by kernel_rfl) (fun _ _ _ h => h) (Or.inl ⟨by rfl, ?_⟩) hHeld ?_
      rotate_left
      · intro W hW
        obtain ⟨x0, x1, x2, x3, x4, x5⟩ := hW
        go_simp
        with_reducible rfl
      simp only [Act.put]
      refine wpAnyH_take (i := 6) (v := ?_) rfl (by kernel_rfl) (by kernel_rfl) (by kernel_rfl) (fun _ _ _ h => h) (Or.inl ⟨by rfl, ?_⟩) hHeld ?_
      rotate_left
      · intro W hW
        obtain ⟨x0, x1, x2, x3, x4, x5⟩ := hW
        go_simp
        with_reducible rfl
      simp only [Act.put]
      refine wpAnyH_take (i := 7) (v := ?_) rfl (by kernel_rfl) (by kernel_rfl) (by kernel_rfl) (fun _ _ _ h => h) (Or.inl ⟨by rfl, ?_⟩) hHeld ?_
      rotate_left
      · intro W hW
        obtain ⟨x0, x1, x2, x3, x4, x5⟩ := hW
        go_simp
        with_reducible rfl
      simp only [Act.put]
      refine wpAnyH_take (i := 9) (v := ?_) rfl (by kernel_rfl) (by kernel_rfl) (by kernel_rfl) (fun _ _ _ h => h) (Or.inl ⟨by rfl, ?_⟩) hHeld ?_
      rotate_left
      · intro W hW
        obtain ⟨x0, x1, x2, x3, x4, x5⟩ := hW
        go_simp
        with_reducible rfl
      simp only [Act.put]
      refine wpAnyH_ready (rs := [8]) (by kernel_rfl) (by simp) ?_
      refine AllReadyH.cons rfl (fun K' hK => ?_) AllReadyH.nil
      rw [if_pos (by rfl)]
      go_wp2_with (go_at_call 108; refine (ansO (HV.out _ HS1.out.drew) HM.out).mono ?_; rintro e w2 ⟨rfl, hs2⟩; obtain ⟨b0, b1, b2, b3⟩ := box_cells (HBX.out _ _ _ _ _ hs2); obtain ⟨c00, c01, c02, c03⟩ := HC0.out _ (HBL.out _ _ _ _ _ hs2); have HS2 := hid_mk hs2; clear hs2)
      refine hK.out _ _ ⟨b2, b3, c00, c01, c02, c03⟩ (fun hHeld2 => ?_)
      refine wpAnyH_ready (rs := [10]) (by kernel_rfl) (by simp) ?_
      refine AllReadyH.cons rfl (fun K' hK => ?_) AllReadyH.nil
      rw [if_pos (by rfl)]
      go_wp2_with (go_at_call 80; refine (ansE (HDF.out _ _ _ HS2.out HX1.out HX2.out HX3.out) HM2.out).mono ?_; rintro e w3 ⟨rfl, hb3⟩; skip)
      exact ⟨rfl, rfl, (HBL.out _ _ _ _ _ HS2.out).trans hb3⟩
    | ok s2 =>
      have HM2 := hid_mk hM2
      clear hM2
      go_enter Tryz.func97, Tryz.ntmps97
      go_wp2_with (first
        | (go_at_call 60; refine HTK.out.mono ?_; rintro e w1 ⟨rfl, hs1⟩; obtain ⟨b0, b1, b2, b3⟩ := box_cells (HBX.out _ _ _ _ _ hs1); obtain ⟨c00, c01, c02, c03⟩ := HC0.out _ (HBL.out _ _ _ _ _ hs1); have HS1 := hid_mk hs1; clear hs1))
      refine wp_region_held_drew (S := (fun W => W.cell? ⟨w.heap.size, 2, none⟩ = some (.string T.name) ∧ W.cell? ⟨w.heap.size, 3, none⟩ = some (.slice (some ⟨g, off, none⟩) T.len cap) ∧ W.cell? ⟨g, off, none⟩ = some (.int .i64 (T.kids 0).kind) ∧ W.cell? ⟨g, off + 1, none⟩ = some (.int .i64 (T.kids 0).num) ∧ W.cell? ⟨g, off + 2, none⟩ = some (.string (T.kids 0).name) ∧ W.cell? ⟨g, off + 3, none⟩ = some (.slice a0 (T.kids 0).len q0))) hmix ?_ (fun hHeld => ?_)
      · exact ⟨b2, b3, c00, c01, c02, c03⟩
      refine wpAnyH_take (i := 0) (v := ?_) rfl (by kernel_rfl) (by kernel_rfl) (by kernel_rfl) (fun _ _ _ h => h) (Or.inl ⟨by rfl, ?_⟩) hHeld ?_
      rotate_left
      · intro W hW
        obtain ⟨x0, x1, x2, x3, x4, x5⟩ := hW
        go_simp
        with_reducible rfl
      simp only [Act.put, List.setIfInBounds_toArray]
      refine wpAnyH_take (i := 1) (v := ?_) rfl (by kernel_rfl) (by kernel_rfl) (by kernel_rfl) (fun _ _ _ h => h) (Or.inl ⟨by rfl, ?_⟩) hHeld ?_
      rotate_left
      · intro W hW
        obtain ⟨x0, x1, x2, x3, x4, x5⟩ := hW
        go_simp
        with_reducible rfl
      simp only [Act.put]
      refine wpAnyH_take (i := 2) (v := ?_) rfl (by kernel_rfl) (by kernel_rfl) (by kernel_rfl) (fun _ _ _ h => h) (Or.inl ⟨by rfl, ?_⟩) hHeld ?_
      rotate_left
      · intro W hW
        obtain ⟨x0, x1, x2, x3, x4, x5⟩ := hW
        go_simp
        with_reducible rfl
      simp only [Act.put]
      refine wpAnyH_take (i := 3) (v := ?_) rfl (by kernel_rfl) (by kernel_rfl) (by kernel_rfl) (fun _ _ _ h => h) (Or.inl ⟨by rfl, ?_⟩) hHeld ?_
      rotate_left
      · intro W hW
        obtain ⟨x0, x1, x2, x3, x4, x5⟩ := hW
        go_simp
        with_reducible rfl
      simp only [Act.put]
      refine wpAnyH_take (i := 4) (v := ?_) rfl (by kernel_rfl) (by kernel_rfl) (by kernel_rfl) (fun _ _ _ h => h) (Or.inl ⟨by rfl, ?_⟩) hHeld ?_
      rotate_left
      · intro W hW
        obtain ⟨x0, x1, x2, x3, x4, x5⟩ := hW
        go_simp
        with_reducible rfl
      simp only [Act.put]
      refine wpAnyH_take (i := 5) (v := ?_) rfl (by kernel_rfl) (by kernel_rfl) (by kernel_rfl) (fun _ _ _ h => h) (Or.inl ⟨by rfl, ?_⟩) hHeld ?_
      rotate_left
      · intro W hW
        obtain ⟨x0, x1, x2, x3, x4, x5⟩ := hW
        go_simp
        with_reducible rfl
      simp only [Act.put]
      refine wpAnyH_take (i := 6) (v := ?_) rfl (by kernel_rfl) (by kernel_rfl) (by kernel_rfl) (fun _ _ _ h => h) (Or.inl ⟨by rfl, ?_⟩) hHeld ?_
      rotate_left
      · intro W hW
        obtain ⟨x0, x1, x2, x3, x4, x5⟩ := hW
        go_simp
        with_reducible rfl
      simp only [Act.put]
      refine wpAnyH_take (i := 7) (v := ?_) rfl (by kernel_rfl) (by kernel_rfl) (by kernel_rfl) (fun _ _ _ h => h) (Or.inl ⟨by rfl, ?_⟩) hHeld ?_
      rotate_left
      · intro W hW
        obtain ⟨x0, x1, x2, x3, x4, x5⟩ := hW
        go_simp
        with_reducible rfl
      simp only [Act.put]
      refine wpAnyH_take (i := 9) (v := ?_) rfl (by kernel_rfl) (by kernel_rfl) (by kernel_rfl) (fun _ _ _ h => h) (Or.inl ⟨by rfl, ?_⟩) hHeld ?_
      rotate_left
      · intro W hW
        obtain ⟨x0, x1, x2, x3, x4, x5⟩ := hW
        go_simp
        with_reducible rfl
      simp only [Act.put]
      refine wpAnyH_ready (rs := [8]) (by kernel_rfl) (by simp) ?_
      refine AllReadyH.cons rfl (fun K' hK => ?_) AllReadyH.nil
      rw [if_pos (by rfl)]
      go_wp2_with (go_at_call 108; refine (ansO (HV.out _ HS1.out.drew) HM.out).mono ?_; rintro e w2 ⟨rfl, hs2⟩; obtain ⟨b0, b1, b2, b3⟩ := box_cells (HBX.out _ _ _ _ _ hs2); obtain ⟨c00, c01, c02, c03⟩ := HC0.out _ (HBL.out _ _ _ _ _ hs2); have HS2 := hid_mk hs2; clear hs2)
      refine hK.out _ _ ⟨b2, b3, c00, c01, c02, c03⟩ (fun hHeld2 => ?_)
      refine wpAnyH_ready (rs := [10]) (by kernel_rfl) (by simp) ?_
      refine AllReadyH.cons rfl (fun K' hK => ?_) AllReadyH.nil
      rw [if_pos (by rfl)]
      go_wp2_with (go_at_call 80; refine (ansO (HDF.out _ _ _ HS2.out HX1.out HX2.out HX3.out) HM2.out).mono ?_; rintro e w3 ⟨rfl, hs3⟩; obtain ⟨b0, b1, b2, b3⟩ := box_cells (HBX.out _ _ _ _ _ hs3); obtain ⟨c00, c01, c02, c03⟩ := HC0.out _ (HBL.out _ _ _ _ _ hs3); have HS3 := hid_mk hs3; clear hs3)
      refine hK.out _ _ ⟨b2, b3, c00, c01, c02, c03⟩ (fun hHeld3 => ?_)
      refine wpAnyH_done (by kernel_rfl) ?_ _
      go_wp2
      go_end0
      exact ⟨rfl, HB1.out _ _ _ _ _ HS3.out⟩
end Go.Proofs.YtbjianmjdadehaaGreatDoor
