/- The specification's checker: kind by kind. Written by mkck.py. -/
import Derived.Test.YtbjianmjdadehaaGreatDoorKdH
set_option linter.unusedVariables false
namespace Go.Proofs.YtbjianmjdadehaaGreatDoor
open Go.RowKit

theorem SS.outs {K : SK} {w0 : World} {own0 : Option Nat} {σ : CR CS} {ret loops outs : Int} {w : World} (h : SS K w0 own0 σ ret loops outs w) : w.cell? ⟨K.cb, 9, none⟩ = some (.int .i64 ret) ∧ w.cell? ⟨K.cb, 10, none⟩ = some (.int .i64 loops) ∧ w.cell? ⟨K.cb, 11, none⟩ = some (.int .i64 outs) := by
  obtain ⟨vv, code, place, deep, zs, vs, h1, _⟩ := h.is
  exact ⟨h1.cells.2.2.2.2.2.2.2.2.2.1, h1.cells.2.2.2.2.2.2.2.2.2.2.1, h1.cells.2.2.2.2.2.2.2.2.2.2.2⟩

set_option maxHeartbeats 4000000 in
set_option maxRecDepth 100000 in
theorem st_17 {T : Nd} (hk : T.kind = 17) : StS T := by
  intro K w0 own0 s cx w v hS0 hE hN hfit hok hsne hlo1 hou1
  have hsz : 0 < T.size := by rw [T.size_eq]; omega
  have hS := hS0.take (by omega)
  have hnum : ((cx.outs : Nat) : Int) = cx.outs := rfl
  by_cases h0 : cx.outs = 0
  · have hst : (mnT K.F T).st cx s = .error (10, s.2.length) := by
      rw [stM_at K.F (by omega)]
      unfold stM
      rw [if_neg (by omega), if_neg (by omega), if_neg (by omega), if_neg (by omega), if_neg (by omega), if_neg (by omega), if_neg (by omega), if_neg (by omega), if_neg (by omega), if_neg (by omega), if_pos hk, if_pos h0]
    rw [hst]
    have hfew := hS.ok.few
    have hlt := hS.lt
    have HATS := hid_mk (fun o => ats_any T (w.alloc o) v K.lo s.2.length hN.fine (by have := hS.ok.cl; simp; omega) (row_below (hS.box o) (Nat.le_refl _) hN.row) hN.cost (by omega))
    have HS := hid_mk (fun o => hS.alloc o)
    unfold Nd.val at *
    rw [hk] at HATS ⊢
    have h0' : (((cx.outs : Nat) : Int) == 0) = true := beq_iff_eq.2 (by omega)
    clear hst hS hS0 hE hN hk hsz hnum h0
    generalize hq : s.2.length = q at *
    go_enter Tryz.func68, Tryz.ntmps68
    go_wp2_with (first
      | (go_at_call 36; refine (HATS.out _).mono ?_; rintro e w1 ⟨u, rfl, hats, hb1⟩; have HS1 := hid_mk ((HS.out _).calm hb1); have k0 : w1.cell? ⟨w.heap.size, 0, none⟩ = some (.int .i64 17) := (hb1.cell (p := ⟨w.heap.size, 0, none⟩) (by simp)).trans (by simp); have k2 : w1.cell? ⟨w.heap.size, 2, none⟩ = some (.string T.name) := (hb1.cell (p := ⟨w.heap.size, 2, none⟩) (by simp)).trans (by simp); have k3 : w1.cell? ⟨w.heap.size, 3, none⟩ = some v := (hb1.cell (p := ⟨w.heap.size, 3, none⟩) (by simp)).trans (by simp); obtain ⟨k9, k10, k11⟩ := HS1.out.outs; clear hb1 hats)
      | (go_at_call 38; refine (fail_any HS1.out 10 (by decide) q).mono ?_; rintro e w3 ⟨rfl, hs3⟩; have HS3 := hid_mk hs3; clear hs3))
    go_end0
    exact ⟨rfl, HS3.out⟩
  · have hst : (mnT K.F T).st cx s = .ok (take0 s) := by
      rw [stM_at K.F (by omega)]
      unfold stM
      rw [if_neg (by omega), if_neg (by omega), if_neg (by omega), if_neg (by omega), if_neg (by omega), if_neg (by omega), if_neg (by omega), if_neg (by omega), if_neg (by omega), if_neg (by omega), if_pos hk, if_neg h0]
    rw [hst]
    have hfew := hS.ok.few
    have hlt := hS.lt
    have HATS := hid_mk (fun o => ats_any T (w.alloc o) v K.lo s.2.length hN.fine (by have := hS.ok.cl; simp; omega) (row_below (hS.box o) (Nat.le_refl _) hN.row) hN.cost (by omega))
    have HS := hid_mk (fun o => hS.alloc o)
    unfold Nd.val at *
    rw [hk] at HATS ⊢
    have h0' : (((cx.outs : Nat) : Int) == 0) = false := beq_eq_false_iff_ne.2 (by omega)
    clear hst hS hS0 hE hN hk hsz hnum h0
    generalize hq : s.2.length = q at *
    go_enter Tryz.func68, Tryz.ntmps68
    go_wp2_with (first
      | (go_at_call 36; refine (HATS.out _).mono ?_; rintro e w1 ⟨u, rfl, hats, hb1⟩; have HS1 := hid_mk ((HS.out _).calm hb1); have k0 : w1.cell? ⟨w.heap.size, 0, none⟩ = some (.int .i64 17) := (hb1.cell (p := ⟨w.heap.size, 0, none⟩) (by simp)).trans (by simp); have k2 : w1.cell? ⟨w.heap.size, 2, none⟩ = some (.string T.name) := (hb1.cell (p := ⟨w.heap.size, 2, none⟩) (by simp)).trans (by simp); have k3 : w1.cell? ⟨w.heap.size, 3, none⟩ = some v := (hb1.cell (p := ⟨w.heap.size, 3, none⟩) (by simp)).trans (by simp); obtain ⟨k9, k10, k11⟩ := HS1.out.outs; clear hb1 hats))
    go_end0
    exact ⟨rfl, HS1.out⟩

set_option maxHeartbeats 4000000 in
set_option maxRecDepth 100000 in
theorem st_18 {T : Nd} (hk : T.kind = 18) : StS T := by
  intro K w0 own0 s cx w v hS0 hE hN hfit hok hsne hlo1 hou1
  have hsz : 0 < T.size := by rw [T.size_eq]; omega
  have hS := hS0.take (by omega)
  have hnum : ((cx.loops : Nat) : Int) = cx.loops := rfl
  by_cases h0 : cx.loops = 0
  · have hst : (mnT K.F T).st cx s = .error (10, s.2.length) := by
      rw [stM_at K.F (by omega)]
      unfold stM
      rw [if_neg (by omega), if_neg (by omega), if_neg (by omega), if_neg (by omega), if_neg (by omega), if_neg (by omega), if_neg (by omega), if_neg (by omega), if_neg (by omega), if_neg (by omega), if_neg (by omega), if_pos hk, if_pos h0]
    rw [hst]
    have hfew := hS.ok.few
    have hlt := hS.lt
    have HATS := hid_mk (fun o => ats_any T (w.alloc o) v K.lo s.2.length hN.fine (by have := hS.ok.cl; simp; omega) (row_below (hS.box o) (Nat.le_refl _) hN.row) hN.cost (by omega))
    have HS := hid_mk (fun o => hS.alloc o)
    unfold Nd.val at *
    rw [hk] at HATS ⊢
    have h0' : (((cx.loops : Nat) : Int) == 0) = true := beq_iff_eq.2 (by omega)
    clear hst hS hS0 hE hN hk hsz hnum h0
    generalize hq : s.2.length = q at *
    go_enter Tryz.func68, Tryz.ntmps68
    go_wp2_with (first
      | (go_at_call 36; refine (HATS.out _).mono ?_; rintro e w1 ⟨u, rfl, hats, hb1⟩; have HS1 := hid_mk ((HS.out _).calm hb1); have k0 : w1.cell? ⟨w.heap.size, 0, none⟩ = some (.int .i64 18) := (hb1.cell (p := ⟨w.heap.size, 0, none⟩) (by simp)).trans (by simp); have k2 : w1.cell? ⟨w.heap.size, 2, none⟩ = some (.string T.name) := (hb1.cell (p := ⟨w.heap.size, 2, none⟩) (by simp)).trans (by simp); have k3 : w1.cell? ⟨w.heap.size, 3, none⟩ = some v := (hb1.cell (p := ⟨w.heap.size, 3, none⟩) (by simp)).trans (by simp); obtain ⟨k9, k10, k11⟩ := HS1.out.outs; clear hb1 hats)
      | (go_at_call 38; refine (fail_any HS1.out 10 (by decide) q).mono ?_; rintro e w3 ⟨rfl, hs3⟩; have HS3 := hid_mk hs3; clear hs3))
    go_end0
    exact ⟨rfl, HS3.out⟩
  · have hst : (mnT K.F T).st cx s = .ok (take0 s) := by
      rw [stM_at K.F (by omega)]
      unfold stM
      rw [if_neg (by omega), if_neg (by omega), if_neg (by omega), if_neg (by omega), if_neg (by omega), if_neg (by omega), if_neg (by omega), if_neg (by omega), if_neg (by omega), if_neg (by omega), if_neg (by omega), if_pos hk, if_neg h0]
    rw [hst]
    have hfew := hS.ok.few
    have hlt := hS.lt
    have HATS := hid_mk (fun o => ats_any T (w.alloc o) v K.lo s.2.length hN.fine (by have := hS.ok.cl; simp; omega) (row_below (hS.box o) (Nat.le_refl _) hN.row) hN.cost (by omega))
    have HS := hid_mk (fun o => hS.alloc o)
    unfold Nd.val at *
    rw [hk] at HATS ⊢
    have h0' : (((cx.loops : Nat) : Int) == 0) = false := beq_eq_false_iff_ne.2 (by omega)
    clear hst hS hS0 hE hN hk hsz hnum h0
    generalize hq : s.2.length = q at *
    go_enter Tryz.func68, Tryz.ntmps68
    go_wp2_with (first
      | (go_at_call 36; refine (HATS.out _).mono ?_; rintro e w1 ⟨u, rfl, hats, hb1⟩; have HS1 := hid_mk ((HS.out _).calm hb1); have k0 : w1.cell? ⟨w.heap.size, 0, none⟩ = some (.int .i64 18) := (hb1.cell (p := ⟨w.heap.size, 0, none⟩) (by simp)).trans (by simp); have k2 : w1.cell? ⟨w.heap.size, 2, none⟩ = some (.string T.name) := (hb1.cell (p := ⟨w.heap.size, 2, none⟩) (by simp)).trans (by simp); have k3 : w1.cell? ⟨w.heap.size, 3, none⟩ = some v := (hb1.cell (p := ⟨w.heap.size, 3, none⟩) (by simp)).trans (by simp); obtain ⟨k9, k10, k11⟩ := HS1.out.outs; clear hb1 hats))
    go_end0
    exact ⟨rfl, HS1.out⟩

end Go.Proofs.YtbjianmjdadehaaGreatDoor
namespace Go.Proofs.YtbjianmjdadehaaGreatDoor
open Go.RowKit

set_option maxHeartbeats 4000000 in
set_option maxRecDepth 100000 in
theorem st_12 {T : Nd} (hk : T.kind = 12) : StS T := by
  intro K w0 own0 s cx w v hS0 hE hN hfit hok hsne hlo1 hou1
  have hsz : 0 < T.size := by rw [T.size_eq]; omega
  have hS := hS0.take (by omega)
  obtain ⟨a0, cap0, hv0, hcap0, hq00⟩ := row_eq.1 hN.row
  have HQ00 := hid_mk hq00
  clear hq00
  rcases so_12 hk hok with hl | ⟨hl, he0⟩
  · by_cases h0 : cx.ret = 0
    · have hst : (mnT K.F T).st cx s = .ok (take0 s) := by
        rw [stM_at K.F (by omega)]
        unfold stM
        rw [if_neg (by omega), if_neg (by omega), if_neg (by omega), if_neg (by omega), if_neg (by omega), if_neg (by omega), if_neg (by omega), if_neg (by omega), if_pos hk, if_pos (by simp [hl, h0]), if_neg (by omega)]
      rw [hst]
      subst hv0
      have hfew := hS.ok.few
      have hlt := hS.lt
      have hcl := hS.ok.cl
      have HATS := hid_mk (fun o => ats_any T (w.alloc o) _ K.lo s.2.length hN.fine (by simp; omega) (row_below (hS.box o) (Nat.le_refl _) hN.row) hN.cost (by omega))
      have HGO := hid_mk (fun (w1 : World) (u : Value) (t : TypeId) hb ha => sgo_of (w1 := w1) (T := T) (v := .slice a0 T.len cap0) (p := s.2.length) (u := u) (t := t) hS hb ha)
      unfold Nd.val at *
      rw [hk] at HATS HGO ⊢
      have HKD := hid_mk hk
      have hle : ¬ (0 : Int) < (T.len : Int) := by omega
      have hle2 : decide ((0 : Int) < (T.len : Int)) = false := by simp; omega
      have hle3 : decide (0 < T.len) = false := decide_eq_false (by omega)
      have hr1 : (cx.ret == 0) = true := beq_iff_eq.2 h0
      have hr2 : (cx.ret != 0) = false := by simp only [bne, hr1]; rfl
      clear hst hS hS0 hE hN hk hsz hl
      generalize hq : s.2.length = q at *
      have hmix : Tryz.prog.follows Departure.mixedOrders = true := by kernel_rfl
      go_enter Tryz.func68, Tryz.ntmps68
      go_wp2_with (first
        | (go_at_call 36; refine (HATS.out _).mono ?_; rintro e w1 ⟨u, rfl, hats, hb1⟩; obtain ⟨own1, hs1, hback, hgo⟩ := HGO.out w1 u _ hb1 hats; have HG := hid_mk hgo; have HBK := hid_mk hback; obtain ⟨b0, b1, b2, b3⟩ := HG.out.box _ _ _ _ _ hs1; rw [HKD.out] at b0; obtain ⟨k9, k10, k11⟩ := hs1.outs; have HS1 := hid_mk hs1; clear hs1 hback hgo hats hb1))
      go_quiet (fail)
      go_wp2
      go_end0
      exact ⟨rfl, HBK.out _ _ _ _ _ (HS1.out.calm (below_drewN _ _))⟩
    · have hst : (mnT K.F T).st cx s = .error (9, s.2.length) := by
        rw [stM_at K.F (by omega)]
        unfold stM
        rw [if_neg (by omega), if_neg (by omega), if_neg (by omega), if_neg (by omega), if_neg (by omega), if_neg (by omega), if_neg (by omega), if_neg (by omega), if_pos hk, if_neg (by simp [hl, h0])]
      rw [hst]
      subst hv0
      have hfew := hS.ok.few
      have hlt := hS.lt
      have hcl := hS.ok.cl
      have HATS := hid_mk (fun o => ats_any T (w.alloc o) _ K.lo s.2.length hN.fine (by simp; omega) (row_below (hS.box o) (Nat.le_refl _) hN.row) hN.cost (by omega))
      have HGO := hid_mk (fun (w1 : World) (u : Value) (t : TypeId) hb ha => sgo_of (w1 := w1) (T := T) (v := .slice a0 T.len cap0) (p := s.2.length) (u := u) (t := t) hS hb ha)
      unfold Nd.val at *
      rw [hk] at HATS HGO ⊢
      have HKD := hid_mk hk
      have hle : ¬ (0 : Int) < (T.len : Int) := by omega
      have hle2 : decide ((0 : Int) < (T.len : Int)) = false := by simp; omega
      have hle3 : decide (0 < T.len) = false := decide_eq_false (by omega)
      have hr1 : (cx.ret == 0) = false := beq_eq_false_iff_ne.2 h0
      have hr2 : (cx.ret != 0) = true := by simp only [bne, hr1]; rfl
      clear hst hS hS0 hE hN hk hsz hl
      generalize hq : s.2.length = q at *
      have hmix : Tryz.prog.follows Departure.mixedOrders = true := by kernel_rfl
      go_enter Tryz.func68, Tryz.ntmps68
      go_wp2_with (first
        | (go_at_call 36; refine (HATS.out _).mono ?_; rintro e w1 ⟨u, rfl, hats, hb1⟩; obtain ⟨own1, hs1, hback, hgo⟩ := HGO.out w1 u _ hb1 hats; have HG := hid_mk hgo; have HBK := hid_mk hback; obtain ⟨b0, b1, b2, b3⟩ := HG.out.box _ _ _ _ _ hs1; rw [HKD.out] at b0; obtain ⟨k9, k10, k11⟩ := hs1.outs; have HS1 := hid_mk hs1; clear hs1 hback hgo hats hb1))
      go_quiet (fail)
      go_wp2_with (go_at_call 38; refine (fail_any (HS1.out.calm (below_drewN _ _)) 9 (by decide) q).mono ?_; rintro e w3 ⟨rfl, hs3⟩; have HS3 := hid_mk hs3; clear hs3)
      go_end0
      exact ⟨rfl, HBK.out _ _ _ _ _ HS3.out⟩
  · by_cases h0 : cx.ret = 0
    · have hst : (mnT K.F T).st cx s = .error (9, s.2.length) := by
        rw [stM_at K.F (by omega)]
        unfold stM
        rw [if_neg (by omega), if_neg (by omega), if_neg (by omega), if_neg (by omega), if_neg (by omega), if_neg (by omega), if_neg (by omega), if_neg (by omega), if_pos hk, if_neg (by simp [hl, h0])]
      rw [hst]
      have hfew := hS.ok.few
      have hlt := hS.lt
      have hcl := hS.ok.cl
      obtain ⟨g, off, cap, hv, hgl, hcap, hkid⟩ := ck_kid hN.row (by omega)
      subst hv
      obtain ⟨u0, hc0, hr0⟩ := hkid 0 (by omega)
      simp only [Nat.zero_mul, Nat.add_zero] at hc0
      have HC0 := hid_mk hc0
      have HATS := hid_mk (fun o => ats_any T (w.alloc o) _ K.lo s.2.length hN.fine (by simp; omega) (row_below (hS.box o) (Nat.le_refl _) hN.row) hN.cost (by omega))
      have HGO := hid_mk (fun (w1 : World) (u : Value) (t : TypeId) hb ha => sgo_of (w1 := w1) (T := T) (v := .slice (some ⟨g, off, none⟩) T.len cap) (p := s.2.length) (u := u) (t := t) hS hb ha)
      have HW0 := hid_mk (fun (w1 : World) (own1 : Option Nat) (b : Nat) (u : Value) (hg : SGo K w w1 own1 b T (.slice (some ⟨g, off, none⟩) T.len cap) u s.2.length) (W : World) (σ : CR CS) (r l o : Int) (q : Nat) (ty : Int) (hW : SS K w1 own1 σ r l o W) (ha : SAt K (T.kids 0) σ q) => want_of (ex_every (T.kids 0)) K w1 own1 σ r l o W u0 q ty hW (hg.env hE hW) ((hN.kid (by omega) hr0).later (hg.below _ _ _ _ _ hW)) ha he0)
      have HV0 := hid_mk (fun (w1 : World) (own1 : Option Nat) (b : Nat) (u : Value) (hg : SGo K w w1 own1 b T (.slice (some ⟨g, off, none⟩) T.len cap) u s.2.length) (W : World) (σ : CR CS) (r l o : Int) (q : Nat) (hW : SS K w1 own1 σ r l o W) (ha : SAt K (T.kids 0) σ q) => value_of (ex_every (T.kids 0)) K w1 own1 σ r l o W u0 q hW (hg.env hE hW) ((hN.kid (by omega) hr0).later (hg.below _ _ _ _ _ hW)) ha he0)
      have HA0 := hid_mk (SAt.kid0 hfit hfew (by omega))
      unfold Nd.val at *
      rw [hk] at HATS HGO ⊢
      have HKD := hid_mk hk
      have hpos : 0 < T.len := by omega
      have hpi : (0 : Int) < (T.len : Int) := by omega
      have hpi2 : decide ((0 : Int) < (T.len : Int)) = true := by simp; omega
      have hpi3 : decide (0 < T.len) = true := decide_eq_true (by omega)
      have hr1' : (cx.ret == 0) = true := beq_iff_eq.2 h0
      have hr2' : (cx.ret != 0) = false := by simp only [bne, hr1']; rfl
      clear hst hS hS0 hE hN hk hok hc0 hkid he0 hr0 hl hsz
      generalize hq : s.2.length = q at *
      have hmix : Tryz.prog.follows Departure.mixedOrders = true := by kernel_rfl
      go_enter Tryz.func68, Tryz.ntmps68
      go_wp2_with (first
        | (go_at_call 36; refine (HATS.out _).mono ?_; rintro e w1 ⟨u, rfl, hats, hb1⟩; obtain ⟨own1, hs1, hback, hgo⟩ := HGO.out w1 u _ hb1 hats; obtain ⟨ga, oa, ca, rfl, hca, hav⟩ := hgo.ats (by omega); have HG := hid_mk hgo; have HAV := hid_mk hav; have HBK := hid_mk hback; obtain ⟨b0, b1, b2, b3⟩ := HG.out.box _ _ _ _ _ hs1; rw [HKD.out] at b0; have a0 := HAV.out _ _ _ _ _ hs1 0 (by omega); rw [Nat.add_zero] at a0; obtain ⟨c00, c01, c02, c03⟩ := HC0.out _ (HG.out.below _ _ _ _ _ hs1); obtain ⟨k9, k10, k11⟩ := hs1.outs; have HS1 := hid_mk hs1; clear hs1 hback hgo hav hats hb1))
      go_quiet (fail)
      go_wp2_with (go_at_call 38; refine (fail_any (HS1.out.calm (below_drewN _ _)) 9 (by decide) q).mono ?_; rintro e w3 ⟨rfl, hs3⟩; have HS3 := hid_mk hs3; clear hs3)
      go_end0
      exact ⟨rfl, HBK.out _ _ _ _ _ HS3.out⟩
    · have hst : (mnT K.F T).st cx s = wantC K (T.kids 0) cx.ret (.ok (take0 s)) := by
        rw [stM_at K.F (by omega)]
        unfold stM
        rw [if_neg (by omega), if_neg (by omega), if_neg (by omega), if_neg (by omega), if_neg (by omega), if_neg (by omega), if_neg (by omega), if_neg (by omega), if_pos hk, if_pos (by simp [hl, h0]), if_pos (by omega)]; rfl
      rw [hst]
      have hfew := hS.ok.few
      have hlt := hS.lt
      have hcl := hS.ok.cl
      obtain ⟨g, off, cap, hv, hgl, hcap, hkid⟩ := ck_kid hN.row (by omega)
      subst hv
      obtain ⟨u0, hc0, hr0⟩ := hkid 0 (by omega)
      simp only [Nat.zero_mul, Nat.add_zero] at hc0
      have HC0 := hid_mk hc0
      have HATS := hid_mk (fun o => ats_any T (w.alloc o) _ K.lo s.2.length hN.fine (by simp; omega) (row_below (hS.box o) (Nat.le_refl _) hN.row) hN.cost (by omega))
      have HGO := hid_mk (fun (w1 : World) (u : Value) (t : TypeId) hb ha => sgo_of (w1 := w1) (T := T) (v := .slice (some ⟨g, off, none⟩) T.len cap) (p := s.2.length) (u := u) (t := t) hS hb ha)
      have HW0 := hid_mk (fun (w1 : World) (own1 : Option Nat) (b : Nat) (u : Value) (hg : SGo K w w1 own1 b T (.slice (some ⟨g, off, none⟩) T.len cap) u s.2.length) (W : World) (σ : CR CS) (r l o : Int) (q : Nat) (ty : Int) (hW : SS K w1 own1 σ r l o W) (ha : SAt K (T.kids 0) σ q) => want_of (ex_every (T.kids 0)) K w1 own1 σ r l o W u0 q ty hW (hg.env hE hW) ((hN.kid (by omega) hr0).later (hg.below _ _ _ _ _ hW)) ha he0)
      have HV0 := hid_mk (fun (w1 : World) (own1 : Option Nat) (b : Nat) (u : Value) (hg : SGo K w w1 own1 b T (.slice (some ⟨g, off, none⟩) T.len cap) u s.2.length) (W : World) (σ : CR CS) (r l o : Int) (q : Nat) (hW : SS K w1 own1 σ r l o W) (ha : SAt K (T.kids 0) σ q) => value_of (ex_every (T.kids 0)) K w1 own1 σ r l o W u0 q hW (hg.env hE hW) ((hN.kid (by omega) hr0).later (hg.below _ _ _ _ _ hW)) ha he0)
      have HA0 := hid_mk (SAt.kid0 hfit hfew (by omega))
      unfold Nd.val at *
      rw [hk] at HATS HGO ⊢
      have HKD := hid_mk hk
      have hpos : 0 < T.len := by omega
      have hpi : (0 : Int) < (T.len : Int) := by omega
      have hpi2 : decide ((0 : Int) < (T.len : Int)) = true := by simp; omega
      have hpi3 : decide (0 < T.len) = true := decide_eq_true (by omega)
      have hr1' : (cx.ret == 0) = false := beq_eq_false_iff_ne.2 h0
      have hr2' : (cx.ret != 0) = true := by simp only [bne, hr1']; rfl
      clear hst hS hS0 hE hN hk hok hc0 hkid he0 hr0 hl hsz
      generalize hq : s.2.length = q at *
      have hmix : Tryz.prog.follows Departure.mixedOrders = true := by kernel_rfl
      go_enter Tryz.func68, Tryz.ntmps68
      go_wp2_with (first
        | (go_at_call 36; refine (HATS.out _).mono ?_; rintro e w1 ⟨u, rfl, hats, hb1⟩; obtain ⟨own1, hs1, hback, hgo⟩ := HGO.out w1 u _ hb1 hats; obtain ⟨ga, oa, ca, rfl, hca, hav⟩ := hgo.ats (by omega); have HG := hid_mk hgo; have HAV := hid_mk hav; have HBK := hid_mk hback; obtain ⟨b0, b1, b2, b3⟩ := HG.out.box _ _ _ _ _ hs1; rw [HKD.out] at b0; have a0 := HAV.out _ _ _ _ _ hs1 0 (by omega); rw [Nat.add_zero] at a0; obtain ⟨c00, c01, c02, c03⟩ := HC0.out _ (HG.out.below _ _ _ _ _ hs1); obtain ⟨k9, k10, k11⟩ := hs1.outs; have HS1 := hid_mk hs1; clear hs1 hback hgo hav hats hb1))
      go_quiet (fail)
      have hsq := HS1.out.calm (below_drewN w1 nq)
      obtain ⟨b0, b1, b2, b3⟩ := HG.out.box _ _ _ _ _ hsq
      rw [HKD.out] at b0
      have a0 := HAV.out _ _ _ _ _ hsq 0 (by omega)
      rw [Nat.add_zero] at a0
      obtain ⟨c00, c01, c02, c03⟩ := HC0.out _ (HG.out.below _ _ _ _ _ hsq)
      obtain ⟨k9, k10, k11⟩ := hsq.outs
      have HSQ := hid_mk hsq
      clear hsq
      generalize w1.drewN nq = wq at *
      go_wp2
      go_still_tail 12, hmix
      go_wp2_with (go_at_call 90; refine (HW0.out _ _ _ _ HG.out _ _ _ _ _ _ _ HSQ.out.drew HA0.out).mono ?_; rintro e w2 ⟨rfl, hs2⟩; have HS2 := hid_mk (HBK.out _ _ _ _ _ hs2); clear hs2)
      go_end0
      exact ⟨rfl, HS2.out⟩

end Go.Proofs.YtbjianmjdadehaaGreatDoor
namespace Go.Proofs.YtbjianmjdadehaaGreatDoor
open Go.RowKit

theorem SS.setLoops {K : SK} {w0 : World} {own0 : Option Nat} {σ : CR CS} {ret loops outs : Int} {w : World} (h : SS K w0 own0 σ ret loops outs w) (n : Int) : SS K w0 own0 σ ret n outs (w.setCell ⟨K.cb, 10, none⟩ (.int .i64 n)) := by
  obtain ⟨vv, code, place, deep, zs, vs, h1, h2, h3⟩ := h.is
  have r1 := h1.set h.ok (i := 10) (u := .int .i64 n) (code' := code) (place' := place) (deep' := deep) (ret' := ret) (loops' := n) (outs' := outs) rfl
  exact h.of_raw (own := own0) r1 h2 h3 (.inl rfl) (Kept.setCell (S := K.S own0) ⟨K.cb, 10, none⟩ _ (.inl rfl))
theorem SS.setOuts {K : SK} {w0 : World} {own0 : Option Nat} {σ : CR CS} {ret loops outs : Int} {w : World} (h : SS K w0 own0 σ ret loops outs w) (n : Int) : SS K w0 own0 σ ret loops n (w.setCell ⟨K.cb, 11, none⟩ (.int .i64 n)) := by
  obtain ⟨vv, code, place, deep, zs, vs, h1, h2, h3⟩ := h.is
  have r1 := h1.set h.ok (i := 11) (u := .int .i64 n) (code' := code) (place' := place) (deep' := deep) (ret' := ret) (loops' := loops) (outs' := n) rfl
  exact h.of_raw (own := own0) r1 h2 h3 (.inl rfl) (Kept.setCell (S := K.S own0) ⟨K.cb, 11, none⟩ _ (.inl rfl))
theorem SS.free {K : SK} {w0 : World} {own0 : Option Nat} {σ : CR CS} {ret loops outs : Int} {w : World} (h : SS K w0 own0 σ ret loops outs w) (i : Nat) : w.frozen? ⟨K.cb, i, none⟩ = false := by
  obtain ⟨vv, code, place, deep, zs, vs, h1, _⟩ := h.is
  exact h1.free i

theorem slist_from {K : SK} {w w1 : World} {own1 : Option Nat} {b : Nat} {T : Nd} {g off cap ga oa ca p : Nat} (hg : SGo K w w1 own1 b T (.slice (some ⟨g, off, none⟩) T.len cap) (.slice (some ⟨ga, oa, none⟩) T.len ca) p) (hE : SEnv K w) (hN : SNd K w T (.slice (some ⟨g, off, none⟩) T.len cap)) (hca : T.len ≤ ca ∧ ca ≤ 9223372036854775807)
    (hav : ∀ W σ r l o, SS K w1 own1 σ r l o W → ∀ i, i < T.len → W.cell? ⟨ga, oa + i, none⟩ = some (.int .i64 (kidAt T p i : Nat))) (d : Nat) (hd : d < T.len) :
    ∃ us, SList K w1 own1 T p d (T.len - d) (.slice (some ⟨g, off + d * 4, none⟩) (T.len - d) (cap - d)) (.slice (some ⟨ga, oa + d, none⟩) (T.len - d) (ca - d)) us := by
  obtain ⟨g', off', cap', hv, hgl, hcap, hkid⟩ := ck_kid hN.row (by omega)
  injection hv with e1 e2 e3
  injection e1 with e1
  injection e1 with e1 e4
  subst e1 e3 e4
  refine ⟨fun i => if h : d + i < T.len then (hkid (d + i) h).choose else .tuple #[], ⟨⟨_, cap - d, rfl, by omega, by omega, _, ca - d, rfl, by omega, by omega, .inr ⟨g, off + d * 4, ga, oa + d, rfl, rfl, fun W σ r l o hW i hi => ?_⟩⟩, fun W σ r l o hW => hg.env hE hW, fun W σ r l o hW i hi => ?_⟩⟩
  · have hi' : d + i < T.len := by omega
    have hx := (hkid (d + i) hi').choose_spec.1 W (hg.below W σ r l o hW)
    have ho : off + (d + i) * 4 = off + d * 4 + i * 4 := by omega
    have hu := (hkid (d + i) hi').choose
    simp only [hi', dif_pos]
    generalize (hkid (d + i) hi').choose = uu at hx ⊢
    rw [ho] at hx
    refine ⟨?_, hx⟩
    rw [Nat.add_assoc]
    exact hav W σ r l o hW (d + i) hi'
  · have hi' : d + i < T.len := by omega
    have hx := (hkid (d + i) hi').choose_spec.2
    simp only [hi', dif_pos]
    exact (hN.kid hi' hx).later (hg.below W σ r l o hW)
theorem seqC_10 {F T : Nd} {cx : Cx} {n : Nat} {σ : CR CS} : seqC F T cx 1 n σ = CR.bind σ (forN (fun i => (mnT F (T.kids (i + 1))).st cx) n) := by
  unfold seqC
  have : (fun i => (mnT F (T.kids (1 + i))).st cx) = (fun i => (mnT F (T.kids (i + 1))).st cx) := by funext i; rw [Nat.add_comm]
  rw [this]
theorem seqC_one {F T : Nd} {cx : Cx} {d : Nat} {σ : CR CS} : seqC F T cx d 1 σ = CR.bind σ ((mnT F (T.kids d)).st cx) := by
  unfold seqC
  cases σ <;> rfl
end Go.Proofs.YtbjianmjdadehaaGreatDoor
