/- The specification's checker: kind by kind. Written by mkck.py. -/
import Derived.Test.YtbjianmjdadehaaGreatDoorKdD
set_option linter.unusedVariables false
namespace Go.Proofs.YtbjianmjdadehaaGreatDoor
open Go.RowKit

set_option maxHeartbeats 4000000 in
set_option maxRecDepth 100000 in
theorem ty_28e {T : Nd} (hk : T.kind = 28) (heq : eqB T.name = true) (ih : ∀ i, i < T.len → ExS (T.kids i)) : TyS T := by
  intro K w0 own0 s ret loops outs w v hS hE hN hfit hok
  obtain ⟨_, hl, he0, he1⟩ := eo_28 hk hok
  have hlv := eqB_3 heq
  have hty : typeM K.F T.kind T.name T.len (fun i => exT K.F (T.kids i)) (take0 s) s.2.length = CR.bind (eqC K (T.kids 0) (T.kids 1) (take0 s)) fun s1 => .ok (2, s1) := by
    unfold typeM
    rw [if_neg (by omega), if_neg (by omega), if_neg (by omega), if_neg (by omega), if_neg (by omega), if_neg (by omega), if_neg (by omega), if_pos heq]
    exact eq_join
  rw [hty]
  have hfew := hS.ok.few
  have hlt := hS.lt
  have hcl := hS.ok.cl
  obtain ⟨g, off, cap, hv, hgl, hcap, hkid⟩ := ck_kid hN.row (by omega)
  subst hv
  obtain ⟨u0, hc0, hr0⟩ := hkid 0 (by omega)
  simp only [Nat.zero_mul, Nat.add_zero] at hc0
  have HC0 := hid_mk hc0
  obtain ⟨u1, hc1, hr1⟩ := hkid 1 (by omega)
  simp only [Nat.one_mul] at hc1
  have HC1 := hid_mk hc1
  have HATS := hid_mk (fun o => ats_any T (w.alloc o) _ K.lo s.2.length hN.fine (by simp; omega) (row_below (hS.box o) (Nat.le_refl _) hN.row) hN.cost (by omega))
  have HGO := hid_mk (fun (w1 : World) (u : Value) (t : TypeId) hb ha => sgo_of (w1 := w1) (T := T) (v := .slice (some ⟨g, off, none⟩) T.len cap) (p := s.2.length) (u := u) (t := t) hS hb ha)
  have HW0 := hid_mk (fun (w1 : World) (own1 : Option Nat) (b : Nat) (u : Value) (hg : SGo K w w1 own1 b T (.slice (some ⟨g, off, none⟩) T.len cap) u s.2.length) (W : World) (σ : CR CS) (r l o : Int) (q : Nat) (ty : Int) (hW : SS K w1 own1 σ r l o W) (ha : SAt K (T.kids 0) σ q) => want_of (ih 0 (by omega)) K w1 own1 σ r l o W u0 q ty hW (hg.env hE hW) ((hN.kid (by omega) hr0).later (hg.below _ _ _ _ _ hW)) ha he0)
  have HV0 := hid_mk (fun (w1 : World) (own1 : Option Nat) (b : Nat) (u : Value) (hg : SGo K w w1 own1 b T (.slice (some ⟨g, off, none⟩) T.len cap) u s.2.length) (W : World) (σ : CR CS) (r l o : Int) (q : Nat) (hW : SS K w1 own1 σ r l o W) (ha : SAt K (T.kids 0) σ q) => value_of (ih 0 (by omega)) K w1 own1 σ r l o W u0 q hW (hg.env hE hW) ((hN.kid (by omega) hr0).later (hg.below _ _ _ _ _ hW)) ha he0)
  have HW1 := hid_mk (fun (w1 : World) (own1 : Option Nat) (b : Nat) (u : Value) (hg : SGo K w w1 own1 b T (.slice (some ⟨g, off, none⟩) T.len cap) u s.2.length) (W : World) (σ : CR CS) (r l o : Int) (q : Nat) (ty : Int) (hW : SS K w1 own1 σ r l o W) (ha : SAt K (T.kids 1) σ q) => want_of (ih 1 (by omega)) K w1 own1 σ r l o W u1 q ty hW (hg.env hE hW) ((hN.kid (by omega) hr1).later (hg.below _ _ _ _ _ hW)) ha he1)
  have HV1 := hid_mk (fun (w1 : World) (own1 : Option Nat) (b : Nat) (u : Value) (hg : SGo K w w1 own1 b T (.slice (some ⟨g, off, none⟩) T.len cap) u s.2.length) (W : World) (σ : CR CS) (r l o : Int) (q : Nat) (hW : SS K w1 own1 σ r l o W) (ha : SAt K (T.kids 1) σ q) => value_of (ih 1 (by omega)) K w1 own1 σ r l o W u1 q hW (hg.env hE hW) ((hN.kid (by omega) hr1).later (hg.below _ _ _ _ _ hW)) ha he1)
  have HA0 := hid_mk (SAt.kid0 hfit hfew (by omega))
  have HA1 := hid_mk (SAt.next (τ := valC K (T.kids 0) (.ok (take0 s))) HA0.out (by omega) hfit hfew (val_next he0))
  have HEQ := hid_mk (fun t (h : ExR K (T.kids 0) (.ok (take0 s)) t) => eq_want (K := K) (A := T.kids 0) (B := T.kids 1) (s := take0 s) h)
  unfold Nd.val at *
  rw [hk] at HATS HGO ⊢
  have HKD := hid_mk hk
  have HLV := hid_mk hlv
  have hpos : 0 < T.len := by omega
  have hpos1 : (1 : Int) < (T.len : Int) := by omega
  have hpos1n : 1 < T.len := by omega
  have hnm := eqB_two heq
  clear hty hS hE hN hk hok ih hc0 hc1 hkid he0 he1 hr0 hr1 hl hlv heq
  generalize hq : s.2.length = q at *
  have hmix : Tryz.prog.follows Departure.mixedOrders = true := by kernel_rfl
  rcases hnm with ⟨hn1, hn2⟩ | ⟨hn1, hn2⟩
  all_goals go_enter Tryz.func102, Tryz.ntmps102
  all_goals go_wp2_with (first
    | (go_at_call 36; refine (HATS.out _).mono ?_; rintro e w1 ⟨u, rfl, hats, hb1⟩; obtain ⟨own1, hs1, hback, hgo⟩ := HGO.out w1 u _ hb1 hats; obtain ⟨ga, oa, ca, rfl, hca, hav⟩ := hgo.ats (by omega); have HG := hid_mk hgo; have HAV := hid_mk hav; have HBK := hid_mk hback; obtain ⟨b0, b1, b2, b3⟩ := HG.out.box _ _ _ _ _ hs1; rw [HKD.out] at b0; have a0 := HAV.out _ _ _ _ _ hs1 0 (by omega); rw [Nat.add_zero] at a0; obtain ⟨c00, c01, c02, c03⟩ := HC0.out _ (HG.out.below _ _ _ _ _ hs1); have a1 := HAV.out _ _ _ _ _ hs1 1 (by omega); obtain ⟨c10, c11, c12, c13⟩ := HC1.out _ (HG.out.below _ _ _ _ _ hs1); have HS1 := hid_mk hs1; clear hs1 hback hgo hav hats hb1)
    | (go_at_call 100; refine (lvl_any _ _).mono ?_; rw [HLV.out]; rintro e w2 ⟨rfl, hb2⟩; have hs2 := HS1.out.calm hb2; clear hb2; obtain ⟨b0, b1, b2, b3⟩ := HG.out.box _ _ _ _ _ hs2; rw [HKD.out] at b0; have a0 := HAV.out _ _ _ _ _ hs2 0 (by omega); rw [Nat.add_zero] at a0; obtain ⟨c00, c01, c02, c03⟩ := HC0.out _ (HG.out.below _ _ _ _ _ hs2); have a1 := HAV.out _ _ _ _ _ hs2 1 (by omega); obtain ⟨c10, c11, c12, c13⟩ := HC1.out _ (HG.out.below _ _ _ _ _ hs2); have HS2 := hid_mk hs2; clear hs2))
  all_goals go_still_tail 8, hmix
  all_goals go_wp2_with (go_at_call 88; refine (HV0.out _ _ _ _ HG.out _ _ _ _ _ _ HS2.out.drew HA0.out).mono ?_; rintro e w3 ⟨t, rfl, hR, hs3⟩; obtain ⟨b0, b1, b2, b3⟩ := HG.out.box _ _ _ _ _ hs3; rw [HKD.out] at b0; have a0 := HAV.out _ _ _ _ _ hs3 0 (by omega); rw [Nat.add_zero] at a0; obtain ⟨c00, c01, c02, c03⟩ := HC0.out _ (HG.out.below _ _ _ _ _ hs3); have a1 := HAV.out _ _ _ _ _ hs3 1 (by omega); obtain ⟨c10, c11, c12, c13⟩ := HC1.out _ (HG.out.below _ _ _ _ _ hs3); have HS3 := hid_mk hs3; have HR := hid_mk hR; clear hs3 hR)
  all_goals go_still_tail 9, hmix
  all_goals go_wp2_with (go_at_call 90; refine (HW1.out _ _ _ _ HG.out _ _ _ _ _ _ _ HS3.out.drew HA1.out).mono ?_; rintro e w4 ⟨rfl, hs4⟩; have HS4 := hid_mk (HBK.out _ _ _ _ _ hs4); clear hs4)
  all_goals go_ret
  all_goals exact ⟨2, rfl, ty_end.1, by rw [ty_end.2, ← HEQ.out _ HR.out]; exact HS4.out⟩

end Go.Proofs.YtbjianmjdadehaaGreatDoor
