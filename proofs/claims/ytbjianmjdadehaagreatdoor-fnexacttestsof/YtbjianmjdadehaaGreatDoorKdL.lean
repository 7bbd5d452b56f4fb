/- The specification's checker: kind by kind. Written by mkck.py. -/
import Derived.Test.YtbjianmjdadehaaGreatDoorKdK
set_option linter.unusedVariables false
namespace Go.Proofs.YtbjianmjdadehaaGreatDoor
open Go.RowKit

theorem want_at {K : SK} {T : Nd} {s : CS} {t : Int} (he : (T.kids 0).eOk = true) (hs : s.1 ≠ []) : ∀ s', wantC K (T.kids 0) t (.ok (take0 s)) = .ok s' → s'.2.length = kidAt T s.2.length 1 ∧ s'.1 ≠ [] := by
  intro s' e
  have h1 : wantM (exT K.F (T.kids 0)) t (take0 s) = .ok s' := e
  obtain ⟨a1, a2⟩ := (ex_len K.F _ he).want t _ _ h1
  rw [take0_len] at a2
  refine ⟨by rw [a2]; unfold kidAt; simp only [sumTo]; omega, ?_⟩
  rw [a1]; exact hs

set_option maxHeartbeats 4000000 in
set_option maxRecDepth 100000 in
theorem st_10 {T : Nd} (hk : T.kind = 10) (ih : ∀ i, i < T.len → StS (T.kids i)) : StS T := by
  intro K w0 own0 s cx w v hS0 hE hN hfit hok hsne hlo1 hou1
  have hsz : 0 < T.size := by rw [T.size_eq]; omega
  have hS := hS0.take (by omega)
  obtain ⟨hl, he0, hb1, hb2⟩ := so_10 hk hok
  have hst : (mnT K.F T).st cx s = seqC K.F T cx 1 (T.len - 1) (wantC K (T.kids 0) 2 (.ok (take0 s))) := by
    rw [stM_at K.F (by omega)]
    unfold stM
    rw [if_neg (by omega), if_neg (by omega), if_neg (by omega), if_neg (by omega), if_neg (by omega), if_neg (by omega), if_pos hk]; exact seqC_10.symm
  rw [hst]
  have hfew := hS.ok.few
  have hlt := hS.lt
  have hcl := hS.ok.cl
  obtain ⟨g, off, cap, hv, hgl, hcap, hkid⟩ := ck_kid hN.row (by omega)
  subst hv
  obtain ⟨u0, hc0, hr0⟩ := hkid 0 (by omega)
  simp only [Nat.zero_mul, Nat.add_zero] at hc0
  have HC0 := hid_mk hc0
  have HATS := hid_mk (fun o => ats_any T (w.alloc o) _ K.lo s.2.length hN.fine (by simp; omega) (row_below (hS.box o) (Nat.le_refl _) hN.row) hN.cost (by omega))
  have HGO := hid_mk (fun (w1 : World) (u : Value) (t : TypeId) hb ha => sgo_of (w1 := w1) (T := T) (v := .slice (some ⟨g, off, none⟩) T.len cap) (p := s.2.length) (u := u) (t := t) hS hb ha)
  have HW0 := hid_mk (fun (w1 : World) (own1 : Option Nat) (b : Nat) (u : Value) (hg : SGo K w w1 own1 b T (.slice (some ⟨g, off, none⟩) T.len cap) u s.2.length) (W : World) (σ : CR CS) (r l o : Int) (q : Nat) (ty : Int) (hW : SS K w1 own1 σ r l o W) (ha : SAt K (T.kids 0) σ q) => want_of (ex_every (T.kids 0)) K w1 own1 σ r l o W u0 q ty hW (hg.env hE hW) ((hN.kid (by omega) hr0).later (hg.below _ _ _ _ _ hW)) ha he0)
  have HV0 := hid_mk (fun (w1 : World) (own1 : Option Nat) (b : Nat) (u : Value) (hg : SGo K w w1 own1 b T (.slice (some ⟨g, off, none⟩) T.len cap) u s.2.length) (W : World) (σ : CR CS) (r l o : Int) (q : Nat) (hW : SS K w1 own1 σ r l o W) (ha : SAt K (T.kids 0) σ q) => value_of (ex_every (T.kids 0)) K w1 own1 σ r l o W u0 q hW (hg.env hE hW) ((hN.kid (by omega) hr0).later (hg.below _ _ _ _ _ hW)) ha he0)
  have HA0 := hid_mk (SAt.kid0 hfit hfew (by omega))
  have hoks : ∀ i, i < T.len - 1 → (T.kids (1 + i)).sOk = true := by
    intro i hi
    have : i = 0 ∨ i = 1 := by omega
    rcases this with rfl | rfl
    · exact hb1.2
    · exact (hb2 (by omega)).2
  have HSL := hid_mk (fun (w1 : World) (own1 : Option Nat) (b ga oa ca : Nat) (hg : SGo K w w1 own1 b T (.slice (some ⟨g, off, none⟩) T.len cap) (.slice (some ⟨ga, oa, none⟩) T.len ca) s.2.length) hca hav => slist_from hg hE hN hca hav 1 (by omega))
  have HAL := hid_mk (fun (w1 : World) (own1 : Option Nat) (lv uv : Value) us (hL : SList K w1 own1 T s.2.length 1 (T.len - 1) lv uv us) (W : World) (hW : SS K w1 own1 (wantC K (T.kids 0) 2 (.ok (take0 s))) cx.ret cx.loops cx.outs W) => all_of hL (fun i hi => ih (1 + i) (by omega)) _ cx W hW (by omega) hoks (want_at he0 hsne) hfit (fun i hi => by have := kid_size T (i := 1 + i) (by omega); omega) (fun i hi => by have := kid_size T (i := 1 + i) (by omega); omega))
  unfold Nd.val at *
  rw [hk] at HATS HGO ⊢
  have HKD := hid_mk hk
  have hpos : 0 < T.len := by omega
  have hpi1 : (1 : Int) ≤ (T.len : Int) := by omega
  have hpn1 : 1 ≤ T.len := by omega
  have hpn2 : 2 ≤ T.len := by omega
  have hcn1 : ¬ cap = 1 := by omega
  clear hst hS hS0 hE hN hk hok hc0 hkid he0 hr0 hl hsz hoks hb1 hb2 ih
  generalize hq : s.2.length = q at *
  have hmix : Tryz.prog.follows Departure.mixedOrders = true := by kernel_rfl
  go_enter Tryz.func68, Tryz.ntmps68
  go_wp2_with (first
    | (go_at_call 36; refine (HATS.out _).mono ?_; rintro e w1 ⟨u, rfl, hats, hb1⟩; obtain ⟨own1, hs1, hback, hgo⟩ := HGO.out w1 u _ hb1 hats; obtain ⟨ga, oa, ca, rfl, hca, hav⟩ := hgo.ats (by omega); have HG := hid_mk hgo; have HAV := hid_mk hav; have HBK := hid_mk hback; obtain ⟨b0, b1, b2, b3⟩ := HG.out.box _ _ _ _ _ hs1; rw [HKD.out] at b0; have a0 := HAV.out _ _ _ _ _ hs1 0 (by omega); rw [Nat.add_zero] at a0; obtain ⟨c00, c01, c02, c03⟩ := HC0.out _ (HG.out.below _ _ _ _ _ hs1); obtain ⟨us, hsl⟩ := HSL.out w1 own1 _ ga oa ca HG.out hca hav; have HSL1 := hid_mk hsl; have hcan : ¬ ca = 1 := (by omega); clear hsl; have HS1 := hid_mk hs1; clear hs1 hback hgo hav hats hb1))
  go_still_tail 8, hmix
  go_wp2_with (go_at_call 90; refine (HW0.out _ _ _ _ HG.out _ _ _ _ _ _ _ HS1.out.drew HA0.out).mono ?_; rintro e w3 ⟨rfl, hs3⟩; obtain ⟨b0, b1, b2, b3⟩ := HG.out.box _ _ _ _ _ hs3; rw [HKD.out] at b0; have a0 := HAV.out _ _ _ _ _ hs3 0 (by omega); rw [Nat.add_zero] at a0; obtain ⟨c00, c01, c02, c03⟩ := HC0.out _ (HG.out.below _ _ _ _ _ hs3); have HS3 := hid_mk hs3; clear hs3)
  go_still_tail 6, hmix
  go_wp2_with (go_at_call 50; refine (HAL.out w1 own1 _ _ us HSL1.out _ HS3.out.drew).mono ?_; rintro e w4 ⟨rfl, hs4⟩; have HS4 := hid_mk (HBK.out _ _ _ _ _ hs4); clear hs4)
  go_end0
  exact ⟨rfl, HS4.out⟩
end Go.Proofs.YtbjianmjdadehaaGreatDoor
namespace Go.Proofs.YtbjianmjdadehaaGreatDoor
open Go.RowKit

set_option maxHeartbeats 4000000 in
set_option maxRecDepth 100000 in
theorem st_11a {T : Nd} (hk : T.kind = 11) (hl : T.len = 1) (hb1 : (T.kids 0).kind = 4 ∧ (T.kids 0).sOk = true) (ih : ∀ i, i < T.len → StS (T.kids i)) : StS T := by
  intro K w0 own0 s cx w v hS0 hE hN hfit hok hsne hlo1 hou1
  have hsz : 0 < T.size := by rw [T.size_eq]; omega
  have hS := hS0.take (by omega)
  have hst : (mnT K.F T).st cx s = seqC K.F T ⟨cx.ret, cx.loops + 1, cx.outs + 1⟩ 0 (T.len - 0) (.ok (take0 s)) := by
    rw [stM_at K.F (by omega)]
    unfold stM
    rw [if_neg (by omega), if_neg (by omega), if_neg (by omega), if_neg (by omega), if_neg (by omega), if_neg (by omega), if_neg (by omega), if_pos hk]; rw [hl]; exact seqC_one.symm
  rw [hst]
  have hfew := hS.ok.few
  have hlt := hS.lt
  have hcl := hS.ok.cl
  obtain ⟨g, off, cap, hv, hgl, hcap, hkid⟩ := ck_kid hN.row (by omega)
  subst hv
  obtain ⟨u0, hc0, hr0⟩ := hkid 0 (by omega)
  simp only [Nat.zero_mul, Nat.add_zero] at hc0
  have HC0 := hid_mk hc0
  have HATS := hid_mk (fun o => ats_any T (w.alloc o) _ K.lo s.2.length hN.fine (by simp; omega) (row_below (hS.box o) (Nat.le_refl _) hN.row) hN.cost (by omega))
  have HGO := hid_mk (fun (w1 : World) (u : Value) (t : TypeId) hb ha => sgo_of (w1 := w1) (T := T) (v := .slice (some ⟨g, off, none⟩) T.len cap) (p := s.2.length) (u := u) (t := t) hS hb ha)
  have hoks : ∀ i, i < T.len - 0 → (T.kids (0 + i)).sOk = true := by
    intro i hi
    obtain rfl : i = 0 := by omega
    exact hb1.2
  have HSL := hid_mk (fun (w1 : World) (own1 : Option Nat) (b ga oa ca : Nat) (hg : SGo K w w1 own1 b T (.slice (some ⟨g, off, none⟩) T.len cap) (.slice (some ⟨ga, oa, none⟩) T.len ca) s.2.length) hca hav => slist_from hg hE hN hca hav 0 (by omega))
  have HAL := hid_mk (fun (w1 : World) (own1 : Option Nat) (lv uv : Value) us (hL : SList K w1 own1 T s.2.length 0 (T.len - 0) lv uv us) (W : World) (hW : SS K w1 own1 (.ok (take0 s)) cx.ret ((cx.loops : Int) + 1) ((cx.outs : Int) + 1) W) => all_of hL (fun i hi => ih (0 + i) (by omega)) _ ⟨cx.ret, cx.loops + 1, cx.outs + 1⟩ W hW (by omega) hoks ((fun s2 e => by injection e with e; subst e; exact ⟨by rw [take0_len]; rfl, hsne⟩)) hfit (fun i hi => by have := kid_size T (i := 0 + i) (by omega); show cx.loops + 1 + _ ≤ _; omega) (fun i hi => by have := kid_size T (i := 0 + i) (by omega); show cx.outs + 1 + _ ≤ _; omega))
  unfold Nd.val at *
  rw [hk] at HATS HGO ⊢
  have HKD := hid_mk hk
  have hpos : 0 < T.len := by omega
  have hpn1 : 1 ≤ T.len := by omega
  have hl1 : cx.loops ≤ 1099511627776 := by omega
  have ho1 : cx.outs ≤ 1099511627776 := by omega
  have hL1 : (T.len : Int) - 1 = 0 := by omega
  clear hst hS hS0 hE hN hk hok hc0 hkid hr0 hl hsz hoks hb1 ih
  generalize hq : s.2.length = q at *
  have hmix : Tryz.prog.follows Departure.mixedOrders = true := by kernel_rfl
  go_enter Tryz.func68, Tryz.ntmps68
  go_wp2_with (first
    | (go_at_call 36; refine (HATS.out _).mono ?_; rintro e w1 ⟨u, rfl, hats, hb1⟩; obtain ⟨own1, hs1, hback, hgo⟩ := HGO.out w1 u _ hb1 hats; obtain ⟨ga, oa, ca, rfl, hca, hav⟩ := hgo.ats (by omega); have HG := hid_mk hgo; have HAV := hid_mk hav; have HBK := hid_mk hback; obtain ⟨b0, b1, b2, b3⟩ := HG.out.box _ _ _ _ _ hs1; rw [HKD.out] at b0; have a0 := HAV.out _ _ _ _ _ hs1 0 (by omega); rw [Nat.add_zero] at a0; obtain ⟨c00, c01, c02, c03⟩ := HC0.out _ (HG.out.below _ _ _ _ _ hs1); obtain ⟨us, hsl⟩ := HSL.out w1 own1 _ ga oa ca HG.out hca hav; have HSL1 := hid_mk hsl; clear hsl; obtain ⟨k9, k10, k11⟩ := hs1.outs; have f10 := hs1.free 10; have f11 := hs1.free 11; have HS1 := hid_mk hs1; clear hs1 hback hgo hav hats hb1))
  have hs5 := (HS1.out.setLoops ((cx.loops : Int) + 1)).setOuts ((cx.outs : Int) + 1)
  obtain ⟨b0, b1, b2, b3⟩ := HG.out.box _ _ _ _ _ hs5
  rw [HKD.out] at b0
  have a0 := HAV.out _ _ _ _ _ hs5 0 (by omega)
  rw [Nat.add_zero] at a0
  obtain ⟨c00, c01, c02, c03⟩ := HC0.out _ (HG.out.below _ _ _ _ _ hs5)
  have HS5 := hid_mk hs5
  clear hs5
  generalize (w1.setCell ⟨K.cb, 10, none⟩ (.int .i64 ((cx.loops : Int) + 1))).setCell ⟨K.cb, 11, none⟩ (.int .i64 ((cx.outs : Int) + 1)) = w5 at *
  go_still_tail 8, hmix
  go_wp2_with (go_at_call 50; refine (HAL.out w1 own1 _ _ us HSL1.out _ HS5.out.drew).mono ?_; rintro e w4 ⟨rfl, hs4⟩; have hs6 := HBK.out _ _ _ _ _ hs4; obtain ⟨j9, j10, j11⟩ := hs6.outs; have k9 : w4.cell? ⟨K.cb, 9, none⟩ = some (.int .i64 cx.ret) := j9; have k10 : w4.cell? ⟨K.cb, 10, none⟩ = some (.int .i64 ((cx.loops : Int) + 1)) := j10; have k11 : w4.cell? ⟨K.cb, 11, none⟩ = some (.int .i64 ((cx.outs : Int) + 1)) := j11; have f10 := hs6.free 10; have f11 := hs6.free 11; have HS6 := hid_mk ((hs6.setLoops cx.loops).setOuts cx.outs); clear hs4 hs6 j9 j10 j11)
  go_end0
  exact ⟨rfl, HS6.out⟩

end Go.Proofs.YtbjianmjdadehaaGreatDoor
namespace Go.Proofs.YtbjianmjdadehaaGreatDoor
open Go.RowKit

set_option maxHeartbeats 4000000 in
set_option maxRecDepth 100000 in
theorem st_11b {T : Nd} (hk : T.kind = 11) (hl : T.len = 2) (he0 : (T.kids 0).eOk = true) (hb1 : (T.kids 1).kind = 4 ∧ (T.kids 1).sOk = true) (ih : ∀ i, i < T.len → StS (T.kids i)) : StS T := by
  intro K w0 own0 s cx w v hS0 hE hN hfit hok hsne hlo1 hou1
  have hsz : 0 < T.size := by rw [T.size_eq]; omega
  have hS := hS0.take (by omega)
  have hst : (mnT K.F T).st cx s = seqC K.F T ⟨cx.ret, cx.loops + 1, cx.outs + 1⟩ 1 (T.len - 1) (wantC K (T.kids 0) 2 (.ok (take0 s))) := by
    rw [stM_at K.F (by omega)]
    unfold stM
    rw [if_neg (by omega), if_neg (by omega), if_neg (by omega), if_neg (by omega), if_neg (by omega), if_neg (by omega), if_neg (by omega), if_pos hk]; rw [hl]; exact seqC_one.symm
  rw [hst]
  have hfew := hS.ok.few
  have hlt := hS.lt
  have hcl := hS.ok.cl
  obtain ⟨g, off, cap, hv, hgl, hcap, hkid⟩ := ck_kid hN.row (by omega)
  subst hv
  obtain ⟨u0, hc0, hr0⟩ := hkid 0 (by omega)
  simp only [Nat.zero_mul, Nat.add_zero] at hc0
  have HC0 := hid_mk hc0
  have HATS := hid_mk (fun o => ats_any T (w.alloc o) _ K.lo s.2.length hN.fine (by simp; omega) (row_below (hS.box o) (Nat.le_refl _) hN.row) hN.cost (by omega))
  have HGO := hid_mk (fun (w1 : World) (u : Value) (t : TypeId) hb ha => sgo_of (w1 := w1) (T := T) (v := .slice (some ⟨g, off, none⟩) T.len cap) (p := s.2.length) (u := u) (t := t) hS hb ha)
  have HW0 := hid_mk (fun (w1 : World) (own1 : Option Nat) (b : Nat) (u : Value) (hg : SGo K w w1 own1 b T (.slice (some ⟨g, off, none⟩) T.len cap) u s.2.length) (W : World) (σ : CR CS) (r l o : Int) (q : Nat) (ty : Int) (hW : SS K w1 own1 σ r l o W) (ha : SAt K (T.kids 0) σ q) => want_of (ex_every (T.kids 0)) K w1 own1 σ r l o W u0 q ty hW (hg.env hE hW) ((hN.kid (by omega) hr0).later (hg.below _ _ _ _ _ hW)) ha he0)
  have HV0 := hid_mk (fun (w1 : World) (own1 : Option Nat) (b : Nat) (u : Value) (hg : SGo K w w1 own1 b T (.slice (some ⟨g, off, none⟩) T.len cap) u s.2.length) (W : World) (σ : CR CS) (r l o : Int) (q : Nat) (hW : SS K w1 own1 σ r l o W) (ha : SAt K (T.kids 0) σ q) => value_of (ex_every (T.kids 0)) K w1 own1 σ r l o W u0 q hW (hg.env hE hW) ((hN.kid (by omega) hr0).later (hg.below _ _ _ _ _ hW)) ha he0)
  have HA0 := hid_mk (SAt.kid0 hfit hfew (by omega))
  have hoks : ∀ i, i < T.len - 1 → (T.kids (1 + i)).sOk = true := by
    intro i hi
    obtain rfl : i = 0 := by omega
    exact hb1.2
  have HSL := hid_mk (fun (w1 : World) (own1 : Option Nat) (b ga oa ca : Nat) (hg : SGo K w w1 own1 b T (.slice (some ⟨g, off, none⟩) T.len cap) (.slice (some ⟨ga, oa, none⟩) T.len ca) s.2.length) hca hav => slist_from hg hE hN hca hav 1 (by omega))
  have HAL := hid_mk (fun (w1 : World) (own1 : Option Nat) (lv uv : Value) us (hL : SList K w1 own1 T s.2.length 1 (T.len - 1) lv uv us) (W : World) (hW : SS K w1 own1 (wantC K (T.kids 0) 2 (.ok (take0 s))) cx.ret ((cx.loops : Int) + 1) ((cx.outs : Int) + 1) W) => all_of hL (fun i hi => ih (1 + i) (by omega)) _ ⟨cx.ret, cx.loops + 1, cx.outs + 1⟩ W hW (by omega) hoks (want_at he0 hsne) hfit (fun i hi => by have := kid_size T (i := 1 + i) (by omega); show cx.loops + 1 + _ ≤ _; omega) (fun i hi => by have := kid_size T (i := 1 + i) (by omega); show cx.outs + 1 + _ ≤ _; omega))
  unfold Nd.val at *
  rw [hk] at HATS HGO ⊢
  have HKD := hid_mk hk
  have hpos : 0 < T.len := by omega
  have hpn1 : 1 ≤ T.len := by omega
  have hl1 : cx.loops ≤ 1099511627776 := by omega
  have ho1 : cx.outs ≤ 1099511627776 := by omega
  have hpi1 : (1 : Int) ≤ (T.len : Int) := by omega
  have hpn2 : 2 ≤ T.len := by omega
  have hcn1 : ¬ cap = 1 := by omega
  have hL1 : (T.len : Int) - 1 = 1 := by omega
  clear hst hS hS0 hE hN hk hok hc0 hkid he0 hr0 hl hsz hoks hb1 ih
  generalize hq : s.2.length = q at *
  have hmix : Tryz.prog.follows Departure.mixedOrders = true := by kernel_rfl
  go_enter Tryz.func68, Tryz.ntmps68
  go_wp2_with (first
    | (go_at_call 36; refine (HATS.out _).mono ?_; rintro e w1 ⟨u, rfl, hats, hb1⟩; obtain ⟨own1, hs1, hback, hgo⟩ := HGO.out w1 u _ hb1 hats; obtain ⟨ga, oa, ca, rfl, hca, hav⟩ := hgo.ats (by omega); have HG := hid_mk hgo; have HAV := hid_mk hav; have HBK := hid_mk hback; obtain ⟨b0, b1, b2, b3⟩ := HG.out.box _ _ _ _ _ hs1; rw [HKD.out] at b0; have a0 := HAV.out _ _ _ _ _ hs1 0 (by omega); rw [Nat.add_zero] at a0; obtain ⟨c00, c01, c02, c03⟩ := HC0.out _ (HG.out.below _ _ _ _ _ hs1); obtain ⟨us, hsl⟩ := HSL.out w1 own1 _ ga oa ca HG.out hca hav; have HSL1 := hid_mk hsl; have hcan : ¬ ca = 1 := (by omega); clear hsl; obtain ⟨k9, k10, k11⟩ := hs1.outs; have f10 := hs1.free 10; have f11 := hs1.free 11; have HS1 := hid_mk hs1; clear hs1 hback hgo hav hats hb1))
  go_still_tail 8, hmix
  go_wp2_with (go_at_call 90; refine (HW0.out _ _ _ _ HG.out _ _ _ _ _ _ _ HS1.out.drew HA0.out).mono ?_; rintro e w3 ⟨rfl, hs3⟩; obtain ⟨b0, b1, b2, b3⟩ := HG.out.box _ _ _ _ _ hs3; rw [HKD.out] at b0; have a0 := HAV.out _ _ _ _ _ hs3 0 (by omega); rw [Nat.add_zero] at a0; obtain ⟨c00, c01, c02, c03⟩ := HC0.out _ (HG.out.below _ _ _ _ _ hs3); obtain ⟨k9, k10, k11⟩ := hs3.outs; have f10 := hs3.free 10; have f11 := hs3.free 11; have HS3 := hid_mk hs3; clear hs3)
  have hs5 := (HS3.out.setLoops ((cx.loops : Int) + 1)).setOuts ((cx.outs : Int) + 1)
  obtain ⟨b0, b1, b2, b3⟩ := HG.out.box _ _ _ _ _ hs5
  rw [HKD.out] at b0
  have a0 := HAV.out _ _ _ _ _ hs5 0 (by omega)
  rw [Nat.add_zero] at a0
  obtain ⟨c00, c01, c02, c03⟩ := HC0.out _ (HG.out.below _ _ _ _ _ hs5)
  have HS5 := hid_mk hs5
  clear hs5
  generalize (w3.setCell ⟨K.cb, 10, none⟩ (.int .i64 ((cx.loops : Int) + 1))).setCell ⟨K.cb, 11, none⟩ (.int .i64 ((cx.outs : Int) + 1)) = w5 at *
  clear hL1
  go_still_tail 8, hmix
  go_wp2_with (go_at_call 50; refine (HAL.out w1 own1 _ _ us HSL1.out _ HS5.out.drew).mono ?_; rintro e w4 ⟨rfl, hs4⟩; have hs6 := HBK.out _ _ _ _ _ hs4; obtain ⟨j9, j10, j11⟩ := hs6.outs; have k9 : w4.cell? ⟨K.cb, 9, none⟩ = some (.int .i64 cx.ret) := j9; have k10 : w4.cell? ⟨K.cb, 10, none⟩ = some (.int .i64 ((cx.loops : Int) + 1)) := j10; have k11 : w4.cell? ⟨K.cb, 11, none⟩ = some (.int .i64 ((cx.outs : Int) + 1)) := j11; have f10 := hs6.free 10; have f11 := hs6.free 11; have HS6 := hid_mk ((hs6.setLoops cx.loops).setOuts cx.outs); clear hs4 hs6 j9 j10 j11)
  go_end0
  exact ⟨rfl, HS6.out⟩

end Go.Proofs.YtbjianmjdadehaaGreatDoor
