/- The specification's checker: kind by kind. Written by mkck.py. -/
import Derived.Test.YtbjianmjdadehaaGreatDoorKdH
set_option linter.unusedVariables false
namespace Go.Proofs.YtbjianmjdadehaaGreatDoor
open Go.RowKit

set_option maxHeartbeats 4000000 in
set_option maxRecDepth 100000 in
theorem st_19 {T : Nd} (hk : T.kind = 19) : StS T := by
  intro K w0 own0 s cx w v hS0 hE hN hfit hok hsne hlo1 hou1
  have hsz : 0 < T.size := by rw [T.size_eq]; omega
  have hS := hS0.take (by omega)
  obtain ⟨hl, he0⟩ := so_one (by omega) hok
  have hst : (mnT K.F T).st cx s = wantC K (T.kids 0) 3 (.ok (take0 s)) := by
    rw [stM_at K.F (by omega)]
    unfold stM
    rw [if_neg (by omega), if_neg (by omega), if_neg (by omega), if_neg (by omega), if_neg (by omega), if_neg (by omega), if_neg (by omega), if_neg (by omega), if_neg (by omega), if_neg (by omega), if_neg (by omega), if_neg (by omega), if_pos hk]; rfl
  rw [hst]
  have hfew := hS.ok.few
  have hlt := hS.lt
  have hcl := hS.ok.cl
  obtain ⟨g, off, cap, hv, hgl, hcap, hkid⟩ := ck_kid hN.row (by omega)
  subst hv
  obtain ⟨u0, hc0, hr0⟩ := hkid 0 (by omega)
  simp only [Nat.zero_mul, Nat.add_zero] at hc0
  have HC0 := hid_mk hc0
  have HATS := hid_mk (fun o => ats_any T (w.alloc o) _ K.lo s.2.length hN.fine (by simp; omega) (row_below (hS.box o) (Nat.le_refl _) hN.row) hN.cost (by omega))
  have HGO := hid_mk (fun (w1 : World) (u : Value) (t : TypeId) hb ha => sgo_of (w1 := w1) (T := T) (v := .slice (some ⟨g, off, none⟩) T.len cap) (p := s.2.length) (u := u) (t := t) hS hb ha)
  have HW0 := hid_mk (fun (w1 : World) (own1 : Option Nat) (b : Nat) (u : Value) (hg : SGo K w w1 own1 b T (.slice (some ⟨g, off, none⟩) T.len cap) u s.2.length) (W : World) (σ : CR CS) (r l o : Int) (q : Nat) (ty : Int) (hW : SS K w1 own1 σ r l o W) (ha : SAt K (T.kids 0) σ q) => want_of (ex_every (T.kids 0)) K w1 own1 σ r l o W u0 q ty hW (hg.env hE hW) ((hN.kid (by omega) hr0).later (hg.below _ _ _ _ _ hW)) ha he0)
  have HV0 := hid_mk (fun (w1 : World) (own1 : Option Nat) (b : Nat) (u : Value) (hg : SGo K w w1 own1 b T (.slice (some ⟨g, off, none⟩) T.len cap) u s.2.length) (W : World) (σ : CR CS) (r l o : Int) (q : Nat) (hW : SS K w1 own1 σ r l o W) (ha : SAt K (T.kids 0) σ q) => value_of (ex_every (T.kids 0)) K w1 own1 σ r l o W u0 q hW (hg.env hE hW) ((hN.kid (by omega) hr0).later (hg.below _ _ _ _ _ hW)) ha he0)
  have HA0 := hid_mk (SAt.kid0 hfit hfew (by omega))
  unfold Nd.val at *
  rw [hk] at HATS HGO ⊢
  have HKD := hid_mk hk
  have hpos : 0 < T.len := by omega
  clear hst hS hS0 hE hN hk hok hc0 hkid he0 hr0 hl hsz
  generalize hq : s.2.length = q at *
  have hmix : Tryz.prog.follows Departure.mixedOrders = true := by kernel_rfl
  go_enter Tryz.func68, Tryz.ntmps68
  go_wp2_with (first
    | (go_at_call 36; refine (HATS.out _).mono ?_; rintro e w1 ⟨u, rfl, hats, hb1⟩; obtain ⟨own1, hs1, hback, hgo⟩ := HGO.out w1 u _ hb1 hats; obtain ⟨ga, oa, ca, rfl, hca, hav⟩ := hgo.ats (by omega); have HG := hid_mk hgo; have HAV := hid_mk hav; have HBK := hid_mk hback; obtain ⟨b0, b1, b2, b3⟩ := HG.out.box _ _ _ _ _ hs1; rw [HKD.out] at b0; have a0 := HAV.out _ _ _ _ _ hs1 0 (by omega); rw [Nat.add_zero] at a0; obtain ⟨c00, c01, c02, c03⟩ := HC0.out _ (HG.out.below _ _ _ _ _ hs1); have HS1 := hid_mk hs1; clear hs1 hback hgo hav hats hb1))
  go_still_tail 8, hmix
  go_wp2_with (go_at_call 90; refine (HW0.out _ _ _ _ HG.out _ _ _ _ _ _ _ HS1.out.drew HA0.out).mono ?_; rintro e w2 ⟨rfl, hs2⟩; have HS2 := hid_mk (HBK.out _ _ _ _ _ hs2); clear hs2)
  go_end0
  exact ⟨rfl, HS2.out⟩

set_option maxHeartbeats 4000000 in
set_option maxRecDepth 100000 in
theorem st_21 {T : Nd} (hk : T.kind = 21) : StS T := by
  intro K w0 own0 s cx w v hS0 hE hN hfit hok hsne hlo1 hou1
  have hsz : 0 < T.size := by rw [T.size_eq]; omega
  have hS := hS0.take (by omega)
  obtain ⟨hl, he0⟩ := so_one (by omega) hok
  have hst : (mnT K.F T).st cx s = wantC K (T.kids 0) 1 (.ok (take0 s)) := by
    rw [stM_at K.F (by omega)]
    unfold stM
    rw [if_neg (by omega), if_neg (by omega), if_neg (by omega), if_neg (by omega), if_neg (by omega), if_neg (by omega), if_neg (by omega), if_neg (by omega), if_neg (by omega), if_neg (by omega), if_neg (by omega), if_neg (by omega), if_neg (by omega), if_neg (by omega), if_pos hk]; rfl
  rw [hst]
  have hfew := hS.ok.few
  have hlt := hS.lt
  have hcl := hS.ok.cl
  obtain ⟨g, off, cap, hv, hgl, hcap, hkid⟩ := ck_kid hN.row (by omega)
  subst hv
  obtain ⟨u0, hc0, hr0⟩ := hkid 0 (by omega)
  simp only [Nat.zero_mul, Nat.add_zero] at hc0
  have HC0 := hid_mk hc0
  have HATS := hid_mk (fun o => ats_any T (w.alloc o) _ K.lo s.2.length hN.fine (by simp; omega) (row_below (hS.box o) (Nat.le_refl _) hN.row) hN.cost (by omega))
  have HGO := hid_mk (fun (w1 : World) (u : Value) (t : TypeId) hb ha => sgo_of (w1 := w1) (T := T) (v := .slice (some ⟨g, off, none⟩) T.len cap) (p := s.2.length) (u := u) (t := t) hS hb ha)
  have HW0 := hid_mk (fun (w1 : World) (own1 : Option Nat) (b : Nat) (u : Value) (hg : SGo K w w1 own1 b T (.slice (some ⟨g, off, none⟩) T.len cap) u s.2.length) (W : World) (σ : CR CS) (r l o : Int) (q : Nat) (ty : Int) (hW : SS K w1 own1 σ r l o W) (ha : SAt K (T.kids 0) σ q) => want_of (ex_every (T.kids 0)) K w1 own1 σ r l o W u0 q ty hW (hg.env hE hW) ((hN.kid (by omega) hr0).later (hg.below _ _ _ _ _ hW)) ha he0)
  have HV0 := hid_mk (fun (w1 : World) (own1 : Option Nat) (b : Nat) (u : Value) (hg : SGo K w w1 own1 b T (.slice (some ⟨g, off, none⟩) T.len cap) u s.2.length) (W : World) (σ : CR CS) (r l o : Int) (q : Nat) (hW : SS K w1 own1 σ r l o W) (ha : SAt K (T.kids 0) σ q) => value_of (ex_every (T.kids 0)) K w1 own1 σ r l o W u0 q hW (hg.env hE hW) ((hN.kid (by omega) hr0).later (hg.below _ _ _ _ _ hW)) ha he0)
  have HA0 := hid_mk (SAt.kid0 hfit hfew (by omega))
  unfold Nd.val at *
  rw [hk] at HATS HGO ⊢
  have HKD := hid_mk hk
  have hpos : 0 < T.len := by omega
  clear hst hS hS0 hE hN hk hok hc0 hkid he0 hr0 hl hsz
  generalize hq : s.2.length = q at *
  have hmix : Tryz.prog.follows Departure.mixedOrders = true := by kernel_rfl
  go_enter Tryz.func68, Tryz.ntmps68
  go_wp2_with (first
    | (go_at_call 36; refine (HATS.out _).mono ?_; rintro e w1 ⟨u, rfl, hats, hb1⟩; obtain ⟨own1, hs1, hback, hgo⟩ := HGO.out w1 u _ hb1 hats; obtain ⟨ga, oa, ca, rfl, hca, hav⟩ := hgo.ats (by omega); have HG := hid_mk hgo; have HAV := hid_mk hav; have HBK := hid_mk hback; obtain ⟨b0, b1, b2, b3⟩ := HG.out.box _ _ _ _ _ hs1; rw [HKD.out] at b0; have a0 := HAV.out _ _ _ _ _ hs1 0 (by omega); rw [Nat.add_zero] at a0; obtain ⟨c00, c01, c02, c03⟩ := HC0.out _ (HG.out.below _ _ _ _ _ hs1); have HS1 := hid_mk hs1; clear hs1 hback hgo hav hats hb1))
  go_still_tail 8, hmix
  go_wp2_with (go_at_call 90; refine (HW0.out _ _ _ _ HG.out _ _ _ _ _ _ _ HS1.out.drew HA0.out).mono ?_; rintro e w2 ⟨rfl, hs2⟩; have HS2 := hid_mk (HBK.out _ _ _ _ _ hs2); clear hs2)
  go_end0
  exact ⟨rfl, HS2.out⟩

end Go.Proofs.YtbjianmjdadehaaGreatDoor
namespace Go.Proofs.YtbjianmjdadehaaGreatDoor
open Go.RowKit

set_option maxHeartbeats 4000000 in
set_option maxRecDepth 100000 in
theorem st_8 {T : Nd} (hk : T.kind = 8) : StS T := by
  intro K w0 own0 s cx w v hS0 hE hN hfit hok hsne hlo1 hou1
  have hsz : 0 < T.size := by rw [T.size_eq]; omega
  have hS := hS0.take (by omega)
  obtain ⟨hl, he0, he1⟩ := so_8 hk hok
  have hst : (mnT K.F T).st cx s = wantC K (T.kids 1) 1 (wantC K (T.kids 0) 3 (.ok (take0 s))) := by
    rw [stM_at K.F (by omega)]
    unfold stM
    rw [if_neg (by omega), if_neg (by omega), if_neg (by omega), if_neg (by omega), if_pos hk]; rfl
  rw [hst]
  have hfew := hS.ok.few
  have hlt := hS.lt
  have hcl := hS.ok.cl
  obtain ⟨g, off, cap, hv, hgl, hcap, hkid⟩ := ck_kid hN.row (by omega)
  subst hv
  obtain ⟨u0, hc0, hr0⟩ := hkid 0 (by omega)
  simp only [Nat.zero_mul, Nat.add_zero] at hc0
  have HC0 := hid_mk hc0
  obtain ⟨u1, hc1, hr1⟩ := hkid 1 (by omega)
  simp only [Nat.one_mul] at hc1
  have HC1 := hid_mk hc1
  have HATS := hid_mk (fun o => ats_any T (w.alloc o) _ K.lo s.2.length hN.fine (by simp; omega) (row_below (hS.box o) (Nat.le_refl _) hN.row) hN.cost (by omega))
  have HGO := hid_mk (fun (w1 : World) (u : Value) (t : TypeId) hb ha => sgo_of (w1 := w1) (T := T) (v := .slice (some ⟨g, off, none⟩) T.len cap) (p := s.2.length) (u := u) (t := t) hS hb ha)
  have HW0 := hid_mk (fun (w1 : World) (own1 : Option Nat) (b : Nat) (u : Value) (hg : SGo K w w1 own1 b T (.slice (some ⟨g, off, none⟩) T.len cap) u s.2.length) (W : World) (σ : CR CS) (r l o : Int) (q : Nat) (ty : Int) (hW : SS K w1 own1 σ r l o W) (ha : SAt K (T.kids 0) σ q) => want_of (ex_every (T.kids 0)) K w1 own1 σ r l o W u0 q ty hW (hg.env hE hW) ((hN.kid (by omega) hr0).later (hg.below _ _ _ _ _ hW)) ha he0)
  have HV0 := hid_mk (fun (w1 : World) (own1 : Option Nat) (b : Nat) (u : Value) (hg : SGo K w w1 own1 b T (.slice (some ⟨g, off, none⟩) T.len cap) u s.2.length) (W : World) (σ : CR CS) (r l o : Int) (q : Nat) (hW : SS K w1 own1 σ r l o W) (ha : SAt K (T.kids 0) σ q) => value_of (ex_every (T.kids 0)) K w1 own1 σ r l o W u0 q hW (hg.env hE hW) ((hN.kid (by omega) hr0).later (hg.below _ _ _ _ _ hW)) ha he0)
  have HW1 := hid_mk (fun (w1 : World) (own1 : Option Nat) (b : Nat) (u : Value) (hg : SGo K w w1 own1 b T (.slice (some ⟨g, off, none⟩) T.len cap) u s.2.length) (W : World) (σ : CR CS) (r l o : Int) (q : Nat) (ty : Int) (hW : SS K w1 own1 σ r l o W) (ha : SAt K (T.kids 1) σ q) => want_of (ex_every (T.kids 1)) K w1 own1 σ r l o W u1 q ty hW (hg.env hE hW) ((hN.kid (by omega) hr1).later (hg.below _ _ _ _ _ hW)) ha he1)
  have HV1 := hid_mk (fun (w1 : World) (own1 : Option Nat) (b : Nat) (u : Value) (hg : SGo K w w1 own1 b T (.slice (some ⟨g, off, none⟩) T.len cap) u s.2.length) (W : World) (σ : CR CS) (r l o : Int) (q : Nat) (hW : SS K w1 own1 σ r l o W) (ha : SAt K (T.kids 1) σ q) => value_of (ex_every (T.kids 1)) K w1 own1 σ r l o W u1 q hW (hg.env hE hW) ((hN.kid (by omega) hr1).later (hg.below _ _ _ _ _ hW)) ha he1)
  have HA0 := hid_mk (SAt.kid0 hfit hfew (by omega))
  have HA1 := hid_mk (SAt.next (τ := wantC K (T.kids 0) 3 (.ok (take0 s))) HA0.out (by omega) hfit hfew (want_next he0))
  unfold Nd.val at *
  rw [hk] at HATS HGO ⊢
  have HKD := hid_mk hk
  have hpos : 0 < T.len := by omega
  have hpos1 : (1 : Int) < (T.len : Int) := by omega
  have hpos1n : 1 < T.len := by omega
  clear hst hS hS0 hE hN hk hok hc0 hc1 hkid he0 he1 hr0 hr1 hl hsz
  generalize hq : s.2.length = q at *
  have hmix : Tryz.prog.follows Departure.mixedOrders = true := by kernel_rfl
  go_enter Tryz.func68, Tryz.ntmps68
  go_wp2_with (first
    | (go_at_call 36; refine (HATS.out _).mono ?_; rintro e w1 ⟨u, rfl, hats, hb1⟩; obtain ⟨own1, hs1, hback, hgo⟩ := HGO.out w1 u _ hb1 hats; obtain ⟨ga, oa, ca, rfl, hca, hav⟩ := hgo.ats (by omega); have HG := hid_mk hgo; have HAV := hid_mk hav; have HBK := hid_mk hback; obtain ⟨b0, b1, b2, b3⟩ := HG.out.box _ _ _ _ _ hs1; rw [HKD.out] at b0; have a0 := HAV.out _ _ _ _ _ hs1 0 (by omega); rw [Nat.add_zero] at a0; obtain ⟨c00, c01, c02, c03⟩ := HC0.out _ (HG.out.below _ _ _ _ _ hs1); have a1 := HAV.out _ _ _ _ _ hs1 1 (by omega); obtain ⟨c10, c11, c12, c13⟩ := HC1.out _ (HG.out.below _ _ _ _ _ hs1); have HS1 := hid_mk hs1; clear hs1 hback hgo hav hats hb1))
  go_still_tail 8, hmix
  go_wp2_with (go_at_call 90; refine (HW0.out _ _ _ _ HG.out _ _ _ _ _ _ _ HS1.out.drew HA0.out).mono ?_; rintro e w3 ⟨rfl, hs3⟩; obtain ⟨b0, b1, b2, b3⟩ := HG.out.box _ _ _ _ _ hs3; rw [HKD.out] at b0; have a0 := HAV.out _ _ _ _ _ hs3 0 (by omega); rw [Nat.add_zero] at a0; obtain ⟨c00, c01, c02, c03⟩ := HC0.out _ (HG.out.below _ _ _ _ _ hs3); have a1 := HAV.out _ _ _ _ _ hs3 1 (by omega); obtain ⟨c10, c11, c12, c13⟩ := HC1.out _ (HG.out.below _ _ _ _ _ hs3); have HS3 := hid_mk hs3; clear hs3)
  go_still_tail 8, hmix
  go_wp2_with (go_at_call 90; refine (HW1.out _ _ _ _ HG.out _ _ _ _ _ _ _ HS3.out.drew HA1.out).mono ?_; rintro e w4 ⟨rfl, hs4⟩; have HS4 := hid_mk (HBK.out _ _ _ _ _ hs4); clear hs4)
  go_end0
  exact ⟨rfl, HS4.out⟩

end Go.Proofs.YtbjianmjdadehaaGreatDoor
namespace Go.Proofs.YtbjianmjdadehaaGreatDoor
open Go.RowKit

set_option maxHeartbeats 4000000 in
set_option maxRecDepth 100000 in
theorem st_9 {T : Nd} (hk : T.kind = 9) : StS T := by
  intro K w0 own0 s cx w v hS0 hE hN hfit hok hsne hlo1 hou1
  have hsz : 0 < T.size := by rw [T.size_eq]; omega
  have hS := hS0.take (by omega)
  obtain ⟨hl, he0⟩ := so_one (by omega) hok
  have hst : (mnT K.F T).st cx s = exC K (T.kids 0) (.ok (take0 s)) := by
    rw [stM_at K.F (by omega)]
    unfold stM
    rw [if_neg (by omega), if_neg (by omega), if_neg (by omega), if_neg (by omega), if_neg (by omega), if_pos (by omega)]; rfl
  rw [hst]
  have hfew := hS.ok.few
  have hlt := hS.lt
  have hcl := hS.ok.cl
  obtain ⟨g, off, cap, hv, hgl, hcap, hkid⟩ := ck_kid hN.row (by omega)
  subst hv
  obtain ⟨u0, hc0, hr0⟩ := hkid 0 (by omega)
  simp only [Nat.zero_mul, Nat.add_zero] at hc0
  have HC0 := hid_mk hc0
  have HATS := hid_mk (fun o => ats_any T (w.alloc o) _ K.lo s.2.length hN.fine (by simp; omega) (row_below (hS.box o) (Nat.le_refl _) hN.row) hN.cost (by omega))
  have HGO := hid_mk (fun (w1 : World) (u : Value) (t : TypeId) hb ha => sgo_of (w1 := w1) (T := T) (v := .slice (some ⟨g, off, none⟩) T.len cap) (p := s.2.length) (u := u) (t := t) hS hb ha)
  have HW0 := hid_mk (fun (w1 : World) (own1 : Option Nat) (b : Nat) (u : Value) (hg : SGo K w w1 own1 b T (.slice (some ⟨g, off, none⟩) T.len cap) u s.2.length) (W : World) (σ : CR CS) (r l o : Int) (q : Nat) (ty : Int) (hW : SS K w1 own1 σ r l o W) (ha : SAt K (T.kids 0) σ q) => want_of (ex_every (T.kids 0)) K w1 own1 σ r l o W u0 q ty hW (hg.env hE hW) ((hN.kid (by omega) hr0).later (hg.below _ _ _ _ _ hW)) ha he0)
  have HV0 := hid_mk (fun (w1 : World) (own1 : Option Nat) (b : Nat) (u : Value) (hg : SGo K w w1 own1 b T (.slice (some ⟨g, off, none⟩) T.len cap) u s.2.length) (W : World) (σ : CR CS) (r l o : Int) (q : Nat) (hW : SS K w1 own1 σ r l o W) (ha : SAt K (T.kids 0) σ q) => value_of (ex_every (T.kids 0)) K w1 own1 σ r l o W u0 q hW (hg.env hE hW) ((hN.kid (by omega) hr0).later (hg.below _ _ _ _ _ hW)) ha he0)
  have HA0 := hid_mk (SAt.kid0 hfit hfew (by omega))
  have HX0 := hid_mk (fun (w1 : World) (own1 : Option Nat) (b : Nat) (u : Value) (hg : SGo K w w1 own1 b T (.slice (some ⟨g, off, none⟩) T.len cap) u s.2.length) (W : World) (σ : CR CS) (r l o : Int) (q : Nat) (hW : SS K w1 own1 σ r l o W) (ha : SAt K (T.kids 0) σ q) => ex_every (T.kids 0) K w1 own1 σ r l o W u0 q hW (hg.env hE hW) ((hN.kid (by omega) hr0).later (hg.below _ _ _ _ _ hW)) ha he0)
  unfold Nd.val at *
  rw [hk] at HATS HGO ⊢
  have HKD := hid_mk hk
  have hpos : 0 < T.len := by omega
  clear hst hS hS0 hE hN hk hok hc0 hkid he0 hr0 hl hsz
  generalize hq : s.2.length = q at *
  have hmix : Tryz.prog.follows Departure.mixedOrders = true := by kernel_rfl
  go_enter Tryz.func68, Tryz.ntmps68
  go_wp2_with (first
    | (go_at_call 36; refine (HATS.out _).mono ?_; rintro e w1 ⟨u, rfl, hats, hb1⟩; obtain ⟨own1, hs1, hback, hgo⟩ := HGO.out w1 u _ hb1 hats; obtain ⟨ga, oa, ca, rfl, hca, hav⟩ := hgo.ats (by omega); have HG := hid_mk hgo; have HAV := hid_mk hav; have HBK := hid_mk hback; obtain ⟨b0, b1, b2, b3⟩ := HG.out.box _ _ _ _ _ hs1; rw [HKD.out] at b0; have a0 := HAV.out _ _ _ _ _ hs1 0 (by omega); rw [Nat.add_zero] at a0; obtain ⟨c00, c01, c02, c03⟩ := HC0.out _ (HG.out.below _ _ _ _ _ hs1); have HS1 := hid_mk hs1; clear hs1 hback hgo hav hats hb1))
  go_still_tail 8, hmix
  go_wp2_with (go_at_call 91; refine (HX0.out _ _ _ _ HG.out _ _ _ _ _ _ HS1.out.drew HA0.out).mono ?_; rintro e w2 ⟨t, rfl, hR, hs2⟩; have HS2 := hid_mk (HBK.out _ _ _ _ _ hs2); clear hs2 hR)
  go_end0
  exact ⟨rfl, HS2.out⟩

set_option maxHeartbeats 4000000 in
set_option maxRecDepth 100000 in
theorem st_13 {T : Nd} (hk : T.kind = 13) : StS T := by
  intro K w0 own0 s cx w v hS0 hE hN hfit hok hsne hlo1 hou1
  have hsz : 0 < T.size := by rw [T.size_eq]; omega
  have hS := hS0.take (by omega)
  obtain ⟨hl, he0⟩ := so_one (by omega) hok
  have hst : (mnT K.F T).st cx s = exC K (T.kids 0) (.ok (take0 s)) := by
    rw [stM_at K.F (by omega)]
    unfold stM
    rw [if_neg (by omega), if_neg (by omega), if_neg (by omega), if_neg (by omega), if_neg (by omega), if_pos (by omega)]; rfl
  rw [hst]
  have hfew := hS.ok.few
  have hlt := hS.lt
  have hcl := hS.ok.cl
  obtain ⟨g, off, cap, hv, hgl, hcap, hkid⟩ := ck_kid hN.row (by omega)
  subst hv
  obtain ⟨u0, hc0, hr0⟩ := hkid 0 (by omega)
  simp only [Nat.zero_mul, Nat.add_zero] at hc0
  have HC0 := hid_mk hc0
  have HATS := hid_mk (fun o => ats_any T (w.alloc o) _ K.lo s.2.length hN.fine (by simp; omega) (row_below (hS.box o) (Nat.le_refl _) hN.row) hN.cost (by omega))
  have HGO := hid_mk (fun (w1 : World) (u : Value) (t : TypeId) hb ha => sgo_of (w1 := w1) (T := T) (v := .slice (some ⟨g, off, none⟩) T.len cap) (p := s.2.length) (u := u) (t := t) hS hb ha)
  have HW0 := hid_mk (fun (w1 : World) (own1 : Option Nat) (b : Nat) (u : Value) (hg : SGo K w w1 own1 b T (.slice (some ⟨g, off, none⟩) T.len cap) u s.2.length) (W : World) (σ : CR CS) (r l o : Int) (q : Nat) (ty : Int) (hW : SS K w1 own1 σ r l o W) (ha : SAt K (T.kids 0) σ q) => want_of (ex_every (T.kids 0)) K w1 own1 σ r l o W u0 q ty hW (hg.env hE hW) ((hN.kid (by omega) hr0).later (hg.below _ _ _ _ _ hW)) ha he0)
  have HV0 := hid_mk (fun (w1 : World) (own1 : Option Nat) (b : Nat) (u : Value) (hg : SGo K w w1 own1 b T (.slice (some ⟨g, off, none⟩) T.len cap) u s.2.length) (W : World) (σ : CR CS) (r l o : Int) (q : Nat) (hW : SS K w1 own1 σ r l o W) (ha : SAt K (T.kids 0) σ q) => value_of (ex_every (T.kids 0)) K w1 own1 σ r l o W u0 q hW (hg.env hE hW) ((hN.kid (by omega) hr0).later (hg.below _ _ _ _ _ hW)) ha he0)
  have HA0 := hid_mk (SAt.kid0 hfit hfew (by omega))
  have HX0 := hid_mk (fun (w1 : World) (own1 : Option Nat) (b : Nat) (u : Value) (hg : SGo K w w1 own1 b T (.slice (some ⟨g, off, none⟩) T.len cap) u s.2.length) (W : World) (σ : CR CS) (r l o : Int) (q : Nat) (hW : SS K w1 own1 σ r l o W) (ha : SAt K (T.kids 0) σ q) => ex_every (T.kids 0) K w1 own1 σ r l o W u0 q hW (hg.env hE hW) ((hN.kid (by omega) hr0).later (hg.below _ _ _ _ _ hW)) ha he0)
  unfold Nd.val at *
  rw [hk] at HATS HGO ⊢
  have HKD := hid_mk hk
  have hpos : 0 < T.len := by omega
  clear hst hS hS0 hE hN hk hok hc0 hkid he0 hr0 hl hsz
  generalize hq : s.2.length = q at *
  have hmix : Tryz.prog.follows Departure.mixedOrders = true := by kernel_rfl
  go_enter Tryz.func68, Tryz.ntmps68
  go_wp2_with (first
    | (go_at_call 36; refine (HATS.out _).mono ?_; rintro e w1 ⟨u, rfl, hats, hb1⟩; obtain ⟨own1, hs1, hback, hgo⟩ := HGO.out w1 u _ hb1 hats; obtain ⟨ga, oa, ca, rfl, hca, hav⟩ := hgo.ats (by omega); have HG := hid_mk hgo; have HAV := hid_mk hav; have HBK := hid_mk hback; obtain ⟨b0, b1, b2, b3⟩ := HG.out.box _ _ _ _ _ hs1; rw [HKD.out] at b0; have a0 := HAV.out _ _ _ _ _ hs1 0 (by omega); rw [Nat.add_zero] at a0; obtain ⟨c00, c01, c02, c03⟩ := HC0.out _ (HG.out.below _ _ _ _ _ hs1); have HS1 := hid_mk hs1; clear hs1 hback hgo hav hats hb1))
  go_still_tail 8, hmix
  go_wp2_with (go_at_call 91; refine (HX0.out _ _ _ _ HG.out _ _ _ _ _ _ HS1.out.drew HA0.out).mono ?_; rintro e w2 ⟨t, rfl, hR, hs2⟩; have HS2 := hid_mk (HBK.out _ _ _ _ _ hs2); clear hs2 hR)
  go_end0
  exact ⟨rfl, HS2.out⟩

set_option maxHeartbeats 4000000 in
set_option maxRecDepth 100000 in
theorem st_14 {T : Nd} (hk : T.kind = 14) : StS T := by
  intro K w0 own0 s cx w v hS0 hE hN hfit hok hsne hlo1 hou1
  have hsz : 0 < T.size := by rw [T.size_eq]; omega
  have hS := hS0.take (by omega)
  obtain ⟨hl, he0⟩ := so_one (by omega) hok
  have hst : (mnT K.F T).st cx s = exC K (T.kids 0) (.ok (take0 s)) := by
    rw [stM_at K.F (by omega)]
    unfold stM
    rw [if_neg (by omega), if_neg (by omega), if_neg (by omega), if_neg (by omega), if_neg (by omega), if_pos (by omega)]; rfl
  rw [hst]
  have hfew := hS.ok.few
  have hlt := hS.lt
  have hcl := hS.ok.cl
  obtain ⟨g, off, cap, hv, hgl, hcap, hkid⟩ := ck_kid hN.row (by omega)
  subst hv
  obtain ⟨u0, hc0, hr0⟩ := hkid 0 (by omega)
  simp only [Nat.zero_mul, Nat.add_zero] at hc0
  have HC0 := hid_mk hc0
  have HATS := hid_mk (fun o => ats_any T (w.alloc o) _ K.lo s.2.length hN.fine (by simp; omega) (row_below (hS.box o) (Nat.le_refl _) hN.row) hN.cost (by omega))
  have HGO := hid_mk (fun (w1 : World) (u : Value) (t : TypeId) hb ha => sgo_of (w1 := w1) (T := T) (v := .slice (some ⟨g, off, none⟩) T.len cap) (p := s.2.length) (u := u) (t := t) hS hb ha)
  have HW0 := hid_mk (fun (w1 : World) (own1 : Option Nat) (b : Nat) (u : Value) (hg : SGo K w w1 own1 b T (.slice (some ⟨g, off, none⟩) T.len cap) u s.2.length) (W : World) (σ : CR CS) (r l o : Int) (q : Nat) (ty : Int) (hW : SS K w1 own1 σ r l o W) (ha : SAt K (T.kids 0) σ q) => want_of (ex_every (T.kids 0)) K w1 own1 σ r l o W u0 q ty hW (hg.env hE hW) ((hN.kid (by omega) hr0).later (hg.below _ _ _ _ _ hW)) ha he0)
  have HV0 := hid_mk (fun (w1 : World) (own1 : Option Nat) (b : Nat) (u : Value) (hg : SGo K w w1 own1 b T (.slice (some ⟨g, off, none⟩) T.len cap) u s.2.length) (W : World) (σ : CR CS) (r l o : Int) (q : Nat) (hW : SS K w1 own1 σ r l o W) (ha : SAt K (T.kids 0) σ q) => value_of (ex_every (T.kids 0)) K w1 own1 σ r l o W u0 q hW (hg.env hE hW) ((hN.kid (by omega) hr0).later (hg.below _ _ _ _ _ hW)) ha he0)
  have HA0 := hid_mk (SAt.kid0 hfit hfew (by omega))
  have HX0 := hid_mk (fun (w1 : World) (own1 : Option Nat) (b : Nat) (u : Value) (hg : SGo K w w1 own1 b T (.slice (some ⟨g, off, none⟩) T.len cap) u s.2.length) (W : World) (σ : CR CS) (r l o : Int) (q : Nat) (hW : SS K w1 own1 σ r l o W) (ha : SAt K (T.kids 0) σ q) => ex_every (T.kids 0) K w1 own1 σ r l o W u0 q hW (hg.env hE hW) ((hN.kid (by omega) hr0).later (hg.below _ _ _ _ _ hW)) ha he0)
  unfold Nd.val at *
  rw [hk] at HATS HGO ⊢
  have HKD := hid_mk hk
  have hpos : 0 < T.len := by omega
  clear hst hS hS0 hE hN hk hok hc0 hkid he0 hr0 hl hsz
  generalize hq : s.2.length = q at *
  have hmix : Tryz.prog.follows Departure.mixedOrders = true := by kernel_rfl
  go_enter Tryz.func68, Tryz.ntmps68
  go_wp2_with (first
    | (go_at_call 36; refine (HATS.out _).mono ?_; rintro e w1 ⟨u, rfl, hats, hb1⟩; obtain ⟨own1, hs1, hback, hgo⟩ := HGO.out w1 u _ hb1 hats; obtain ⟨ga, oa, ca, rfl, hca, hav⟩ := hgo.ats (by omega); have HG := hid_mk hgo; have HAV := hid_mk hav; have HBK := hid_mk hback; obtain ⟨b0, b1, b2, b3⟩ := HG.out.box _ _ _ _ _ hs1; rw [HKD.out] at b0; have a0 := HAV.out _ _ _ _ _ hs1 0 (by omega); rw [Nat.add_zero] at a0; obtain ⟨c00, c01, c02, c03⟩ := HC0.out _ (HG.out.below _ _ _ _ _ hs1); have HS1 := hid_mk hs1; clear hs1 hback hgo hav hats hb1))
  go_still_tail 8, hmix
  go_wp2_with (go_at_call 91; refine (HX0.out _ _ _ _ HG.out _ _ _ _ _ _ HS1.out.drew HA0.out).mono ?_; rintro e w2 ⟨t, rfl, hR, hs2⟩; have HS2 := hid_mk (HBK.out _ _ _ _ _ hs2); clear hs2 hR)
  go_end0
  exact ⟨rfl, HS2.out⟩

end Go.Proofs.YtbjianmjdadehaaGreatDoor
namespace Go.Proofs.YtbjianmjdadehaaGreatDoor
open Go.RowKit

set_option maxHeartbeats 4000000 in
set_option maxRecDepth 100000 in
theorem st_7 {T : Nd} (hk : T.kind = 7) : StS T := by
  intro K w0 own0 s cx w v hS0 hE hN hfit hok hsne hlo1 hou1
  have hsz : 0 < T.size := by rw [T.size_eq]; omega
  have hS := hS0.take (by omega)
  have hlk : look (take0 s).1 T.name = look s.1 T.name := rfl
  by_cases h0 : look s.1 T.name = 0
  · have hst : (mnT K.F T).st cx s = .error (5, s.2.length) := by
      rw [stM_at K.F (by omega)]
      unfold stM
      rw [if_neg (by omega), if_neg (by omega), if_neg (by omega), if_pos hk, if_pos h0]
    rw [hst]
    have hfew := hS.ok.few
    have hlt := hS.lt
    have hcl := hS.ok.cl
    have HATS := hid_mk (fun o => ats_any T (w.alloc o) _ K.lo s.2.length hN.fine (by simp; omega) (row_below (hS.box o) (Nat.le_refl _) hN.row) hN.cost (by omega))
    have HGO := hid_mk (fun (w1 : World) (u : Value) (t : TypeId) hb ha => sgo_of (w1 := w1) (T := T) (v := v) (p := s.2.length) (u := u) (t := t) hS hb ha)
    unfold Nd.val at *
    rw [hk] at HATS HGO ⊢
    have HKD := hid_mk hk
    have H0 := hid_mk (hlk.trans h0)
    clear hlk h0
    clear hst hS hS0 hE hN hk hsz
    generalize hq : s.2.length = q at *
    have hmix : Tryz.prog.follows Departure.mixedOrders = true := by kernel_rfl
    go_enter Tryz.func68, Tryz.ntmps68
    go_wp2_with (first
      | (go_at_call 36; refine (HATS.out _).mono ?_; rintro e w1 ⟨u, rfl, hats, hb1⟩; obtain ⟨own1, hs1, hback, hgo⟩ := HGO.out w1 u _ hb1 hats; have HG := hid_mk hgo; have HBK := hid_mk hback; obtain ⟨b0, b1, b2, b3⟩ := HG.out.box _ _ _ _ _ hs1; rw [HKD.out] at b0; have HS1 := hid_mk hs1; clear hs1 hback hgo hats hb1)
      | (go_at_call 89; refine (look_any HS1.out _).mono ?_; rw [H0.out]; rintro e w2 ⟨rfl, hs2⟩; obtain ⟨b0, b1, b2, b3⟩ := HG.out.box _ _ _ _ _ hs2; rw [HKD.out] at b0; have HS2 := hid_mk hs2; clear hs2)
      | (go_at_call 38; refine (fail_any HS2.out 5 (by decide) q).mono ?_; rintro e w3 ⟨rfl, hs3⟩; have HS3 := hid_mk hs3; clear hs3))
    first | go_end0 | refine bodyPost_ret (results_none rfl _ _ _) rfl ?_
    exact ⟨rfl, HBK.out _ _ _ _ _ HS3.out⟩
  by_cases h1 : look s.1 T.name = 1
  · have hst : (mnT K.F T).st cx s = .ok (take0 s) := by
      rw [stM_at K.F (by omega)]
      unfold stM
      rw [if_neg (by omega), if_neg (by omega), if_neg (by omega), if_pos hk, if_neg h0, if_pos h1]
    rw [hst]
    have hfew := hS.ok.few
    have hlt := hS.lt
    have hcl := hS.ok.cl
    have HATS := hid_mk (fun o => ats_any T (w.alloc o) _ K.lo s.2.length hN.fine (by simp; omega) (row_below (hS.box o) (Nat.le_refl _) hN.row) hN.cost (by omega))
    have HGO := hid_mk (fun (w1 : World) (u : Value) (t : TypeId) hb ha => sgo_of (w1 := w1) (T := T) (v := v) (p := s.2.length) (u := u) (t := t) hS hb ha)
    unfold Nd.val at *
    rw [hk] at HATS HGO ⊢
    have HKD := hid_mk hk
    have H0 := hid_mk (hlk.trans h1)
    clear hlk h0 h1
    clear hst hS hS0 hE hN hk hsz
    generalize hq : s.2.length = q at *
    have hmix : Tryz.prog.follows Departure.mixedOrders = true := by kernel_rfl
    go_enter Tryz.func68, Tryz.ntmps68
    go_wp2_with (first
      | (go_at_call 36; refine (HATS.out _).mono ?_; rintro e w1 ⟨u, rfl, hats, hb1⟩; obtain ⟨own1, hs1, hback, hgo⟩ := HGO.out w1 u _ hb1 hats; have HG := hid_mk hgo; have HBK := hid_mk hback; obtain ⟨b0, b1, b2, b3⟩ := HG.out.box _ _ _ _ _ hs1; rw [HKD.out] at b0; have HS1 := hid_mk hs1; clear hs1 hback hgo hats hb1)
      | (go_at_call 89; refine (look_any HS1.out _).mono ?_; rw [H0.out]; rintro e w2 ⟨rfl, hs2⟩; obtain ⟨b0, b1, b2, b3⟩ := HG.out.box _ _ _ _ _ hs2; rw [HKD.out] at b0; have HS2 := hid_mk hs2; clear hs2))
    first | go_end0 | refine bodyPost_ret (results_none rfl _ _ _) rfl ?_
    exact ⟨rfl, HBK.out _ _ _ _ _ HS2.out⟩
  · have hst : (mnT K.F T).st cx s = .error (7, s.2.length) := by
      rw [stM_at K.F (by omega)]
      unfold stM
      rw [if_neg (by omega), if_neg (by omega), if_neg (by omega), if_pos hk, if_neg h0, if_neg h1]
    rw [hst]
    have hfew := hS.ok.few
    have hlt := hS.lt
    have hcl := hS.ok.cl
    have HATS := hid_mk (fun o => ats_any T (w.alloc o) _ K.lo s.2.length hN.fine (by simp; omega) (row_below (hS.box o) (Nat.le_refl _) hN.row) hN.cost (by omega))
    have HGO := hid_mk (fun (w1 : World) (u : Value) (t : TypeId) hb ha => sgo_of (w1 := w1) (T := T) (v := v) (p := s.2.length) (u := u) (t := t) hS hb ha)
    unfold Nd.val at *
    rw [hk] at HATS HGO ⊢
    have HKD := hid_mk hk
    have H0 : Hid (look (take0 s).1 T.name = look s.1 T.name) := hlk
    have h0' : (look s.1 T.name == 0) = false := beq_eq_false_iff_ne.2 h0
    have h1' : (look s.1 T.name == 1) = false := beq_eq_false_iff_ne.2 h1
    clear hlk h0 h1
    generalize look s.1 T.name = lk at *
    clear hst hS hS0 hE hN hk hsz
    generalize hq : s.2.length = q at *
    have hmix : Tryz.prog.follows Departure.mixedOrders = true := by kernel_rfl
    go_enter Tryz.func68, Tryz.ntmps68
    go_wp2_with (first
      | (go_at_call 36; refine (HATS.out _).mono ?_; rintro e w1 ⟨u, rfl, hats, hb1⟩; obtain ⟨own1, hs1, hback, hgo⟩ := HGO.out w1 u _ hb1 hats; have HG := hid_mk hgo; have HBK := hid_mk hback; obtain ⟨b0, b1, b2, b3⟩ := HG.out.box _ _ _ _ _ hs1; rw [HKD.out] at b0; have HS1 := hid_mk hs1; clear hs1 hback hgo hats hb1)
      | (go_at_call 89; refine (look_any HS1.out _).mono ?_; rw [H0.out]; rintro e w2 ⟨rfl, hs2⟩; obtain ⟨b0, b1, b2, b3⟩ := HG.out.box _ _ _ _ _ hs2; rw [HKD.out] at b0; have HS2 := hid_mk hs2; clear hs2)
      | (go_at_call 38; refine (fail_any HS2.out 7 (by decide) q).mono ?_; rintro e w3 ⟨rfl, hs3⟩; have HS3 := hid_mk hs3; clear hs3))
    first | go_end0 | refine bodyPost_ret (results_none rfl _ _ _) rfl ?_
    exact ⟨rfl, HBK.out _ _ _ _ _ HS3.out⟩

end Go.Proofs.YtbjianmjdadehaaGreatDoor
namespace Go.Proofs.YtbjianmjdadehaaGreatDoor
open Go.RowKit

set_option maxHeartbeats 4000000 in
set_option maxRecDepth 100000 in
theorem st_6 {T : Nd} (hk : T.kind = 6) : StS T := by
  intro K w0 own0 s cx w v hS0 hE hN hfit hok hsne hlo1 hou1
  have hsz : 0 < T.size := by rw [T.size_eq]; omega
  have hS := hS0.take (by omega)
  have hlk : look (take0 s).1 T.name = look s.1 T.name := rfl
  obtain ⟨hl, he0⟩ := so_one (by omega) hok
  by_cases h0 : look s.1 T.name = 0
  · have hst : (mnT K.F T).st cx s = .error (5, s.2.length) := by
      rw [stM_at K.F (by omega)]
      unfold stM
      rw [if_neg (by omega), if_neg (by omega), if_pos hk, if_pos h0]
    rw [hst]
    have hfew := hS.ok.few
    have hlt := hS.lt
    have HATS := hid_mk (fun o => ats_any T (w.alloc o) v K.lo s.2.length hN.fine (by have := hS.ok.cl; simp; omega) (row_below (hS.box o) (Nat.le_refl _) hN.row) hN.cost (by omega))
    have HS := hid_mk (fun o => hS.alloc o)
    unfold Nd.val at *
    rw [hk] at HATS ⊢
    have H0 := hid_mk (hlk.trans h0)
    clear hst hS hS0 hE hN hk hsz hlk h0
    generalize hq : s.2.length = q at *
    go_enter Tryz.func68, Tryz.ntmps68
    go_wp2_with (first
      | (go_at_call 36; refine (HATS.out _).mono ?_; rintro e w1 ⟨u, rfl, hats, hb1⟩; have HS1 := hid_mk ((HS.out _).calm hb1); have k0 : w1.cell? ⟨w.heap.size, 0, none⟩ = some (.int .i64 6) := (hb1.cell (p := ⟨w.heap.size, 0, none⟩) (by simp)).trans (by simp); have k2 : w1.cell? ⟨w.heap.size, 2, none⟩ = some (.string T.name) := (hb1.cell (p := ⟨w.heap.size, 2, none⟩) (by simp)).trans (by simp); have k3 : w1.cell? ⟨w.heap.size, 3, none⟩ = some v := (hb1.cell (p := ⟨w.heap.size, 3, none⟩) (by simp)).trans (by simp); clear hb1 hats)
      | (go_at_call 89; refine (look_any HS1.out _).mono ?_; rw [H0.out]; rintro e w2 ⟨rfl, hs2⟩; have HS2 := hid_mk hs2; clear hs2)
      | (go_at_call 38; refine (fail_any HS2.out 5 (by decide) q).mono ?_; rintro e w3 ⟨rfl, hs3⟩; have HS3 := hid_mk hs3; clear hs3))
    first | go_end0 | refine bodyPost_ret (results_none rfl _ _ _) rfl ?_
    exact ⟨rfl, HS3.out⟩
  · have hst : (mnT K.F T).st cx s = wantC K (T.kids 0) (look s.1 T.name) (.ok (take0 s)) := by
      rw [stM_at K.F (by omega)]
      unfold stM
      rw [if_neg (by omega), if_neg (by omega), if_pos hk, if_neg h0]; rfl
    rw [hst]
    have hfew := hS.ok.few
    have hlt := hS.lt
    have hcl := hS.ok.cl
    obtain ⟨g, off, cap, hv, hgl, hcap, hkid⟩ := ck_kid hN.row (by omega)
    subst hv
    obtain ⟨u0, hc0, hr0⟩ := hkid 0 (by omega)
    simp only [Nat.zero_mul, Nat.add_zero] at hc0
    have HC0 := hid_mk hc0
    have HATS := hid_mk (fun o => ats_any T (w.alloc o) _ K.lo s.2.length hN.fine (by simp; omega) (row_below (hS.box o) (Nat.le_refl _) hN.row) hN.cost (by omega))
    have HGO := hid_mk (fun (w1 : World) (u : Value) (t : TypeId) hb ha => sgo_of (w1 := w1) (T := T) (v := .slice (some ⟨g, off, none⟩) T.len cap) (p := s.2.length) (u := u) (t := t) hS hb ha)
    have HW0 := hid_mk (fun (w1 : World) (own1 : Option Nat) (b : Nat) (u : Value) (hg : SGo K w w1 own1 b T (.slice (some ⟨g, off, none⟩) T.len cap) u s.2.length) (W : World) (σ : CR CS) (r l o : Int) (q : Nat) (ty : Int) (hW : SS K w1 own1 σ r l o W) (ha : SAt K (T.kids 0) σ q) => want_of (ex_every (T.kids 0)) K w1 own1 σ r l o W u0 q ty hW (hg.env hE hW) ((hN.kid (by omega) hr0).later (hg.below _ _ _ _ _ hW)) ha he0)
    have HV0 := hid_mk (fun (w1 : World) (own1 : Option Nat) (b : Nat) (u : Value) (hg : SGo K w w1 own1 b T (.slice (some ⟨g, off, none⟩) T.len cap) u s.2.length) (W : World) (σ : CR CS) (r l o : Int) (q : Nat) (hW : SS K w1 own1 σ r l o W) (ha : SAt K (T.kids 0) σ q) => value_of (ex_every (T.kids 0)) K w1 own1 σ r l o W u0 q hW (hg.env hE hW) ((hN.kid (by omega) hr0).later (hg.below _ _ _ _ _ hW)) ha he0)
    have HA0 := hid_mk (SAt.kid0 hfit hfew (by omega))
    unfold Nd.val at *
    rw [hk] at HATS HGO ⊢
    have HKD := hid_mk hk
    have hpos : 0 < T.len := by omega
    have H0 : Hid (look (take0 s).1 T.name = look s.1 T.name) := hlk
    have h0' : (look s.1 T.name == 0) = false := beq_eq_false_iff_ne.2 h0
    clear hst hS hS0 hE hN hk hok hc0 hkid he0 hr0 hl hsz hlk h0
    generalize look s.1 T.name = lk at *
    generalize hq : s.2.length = q at *
    have hmix : Tryz.prog.follows Departure.mixedOrders = true := by kernel_rfl
    go_enter Tryz.func68, Tryz.ntmps68
    go_wp2_with (first
      | (go_at_call 36; refine (HATS.out _).mono ?_; rintro e w1 ⟨u, rfl, hats, hb1⟩; obtain ⟨own1, hs1, hback, hgo⟩ := HGO.out w1 u _ hb1 hats; obtain ⟨ga, oa, ca, rfl, hca, hav⟩ := hgo.ats (by omega); have HG := hid_mk hgo; have HAV := hid_mk hav; have HBK := hid_mk hback; obtain ⟨b0, b1, b2, b3⟩ := HG.out.box _ _ _ _ _ hs1; rw [HKD.out] at b0; have a0 := HAV.out _ _ _ _ _ hs1 0 (by omega); rw [Nat.add_zero] at a0; obtain ⟨c00, c01, c02, c03⟩ := HC0.out _ (HG.out.below _ _ _ _ _ hs1); have HS1 := hid_mk hs1; clear hs1 hback hgo hav hats hb1)
      | (go_at_call 89; refine (look_any HS1.out _).mono ?_; rw [H0.out]; rintro e w2 ⟨rfl, hs2⟩; obtain ⟨b0, b1, b2, b3⟩ := HG.out.box _ _ _ _ _ hs2; rw [HKD.out] at b0; have a0 := HAV.out _ _ _ _ _ hs2 0 (by omega); rw [Nat.add_zero] at a0; obtain ⟨c00, c01, c02, c03⟩ := HC0.out _ (HG.out.below _ _ _ _ _ hs2); have HS2 := hid_mk hs2; clear hs2))
    go_still_tail 9, hmix
    go_wp2_with (go_at_call 90; refine (HW0.out _ _ _ _ HG.out _ _ _ _ _ _ _ HS2.out.drew HA0.out).mono ?_; rintro e w3 ⟨rfl, hs3⟩; have HS3 := hid_mk (HBK.out _ _ _ _ _ hs3); clear hs3)
    go_end0
    exact ⟨rfl, HS3.out⟩

end Go.Proofs.YtbjianmjdadehaaGreatDoor
namespace Go.Proofs.YtbjianmjdadehaaGreatDoor
open Go.RowKit

set_option maxHeartbeats 4000000 in
set_option maxRecDepth 100000 in
theorem st_4 {T : Nd} (hk : T.kind = 4) (ih : ∀ i, i < T.len → StS (T.kids i)) : StS T := by
  intro K w0 own0 s cx w v hS hE hN hfit hok hsne hlo1 hou1
  have hst : (mnT K.F T).st cx s = within [] ((mnT K.F T).sts cx) s := by
    rw [stM_at K.F (by omega)]
    unfold stM
    rw [if_pos hk]; rw [stsM_at K.F (by omega)]
  rw [hst]
  have hfew := hS.ok.few
  have hlt := hS.lt
  have hcl := hS.ok.cl
  have HATS := hid_mk (fun o => ats_any T (w.alloc o) _ K.lo s.2.length hN.fine (by simp; omega) (row_below (hS.box o) (Nat.le_refl _) hN.row) hN.cost (by omega))
  have HGO := hid_mk (fun (w1 : World) (u : Value) (t : TypeId) hb ha => sgo_of (w1 := w1) (T := T) (v := v) (p := s.2.length) (u := u) (t := t) hS hb ha)
  have HBL := hid_mk (fun (w1 : World) (own1 : Option Nat) (b : Nat) (u : Value) (hg : SGo K w w1 own1 b T v u s.2.length) (W : World) (hW : SS K w1 own1 (.ok s) cx.ret cx.loops cx.outs W) => blk_of hk ih K w1 own1 s cx W v hW (hg.env hE hW) (hN.later (hg.below _ _ _ _ _ hW)) hfit hok hlo1 hou1 0)
  generalize hτ : within [] ((mnT K.F T).sts cx) s = τ at *
  unfold Nd.val at *
  rw [hk] at HATS HGO HBL ⊢
  have HKD := hid_mk hk
  clear hst hS hE hN hk hτ
  generalize hq : s.2.length = q at *
  have hmix : Tryz.prog.follows Departure.mixedOrders = true := by kernel_rfl
  go_enter Tryz.func68, Tryz.ntmps68
  go_wp2_with (first
    | (go_at_call 36; refine (HATS.out _).mono ?_; rintro e w1 ⟨u, rfl, hats, hb1⟩; obtain ⟨own1, hs1, hback, hgo⟩ := HGO.out w1 u _ hb1 hats; have HG := hid_mk hgo; have HBK := hid_mk hback; obtain ⟨b0, b1, b2, b3⟩ := HG.out.box _ _ _ _ _ hs1; rw [HKD.out] at b0; have HS1 := hid_mk hs1; clear hs1 hback hgo hats hb1)
    | (go_at_call 87; refine (HBL.out _ _ _ _ HG.out _ HS1.out).mono ?_; rintro e w3 ⟨rfl, hs3⟩; have HS3 := hid_mk (HBK.out _ _ _ _ _ hs3); clear hs3))
  go_end0
  exact ⟨rfl, HS3.out⟩

end Go.Proofs.YtbjianmjdadehaaGreatDoor
