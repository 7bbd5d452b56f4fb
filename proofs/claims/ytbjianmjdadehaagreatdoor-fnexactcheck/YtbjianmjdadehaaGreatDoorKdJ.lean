/- The specification's checker: kind by kind. Written by mkck.py. -/
import Derived.Test.YtbjianmjdadehaaGreatDoorKdH
set_option linter.unusedVariables false
namespace Go.Proofs.YtbjianmjdadehaaGreatDoor
open Go.RowKit

theorem val_err {K : SK} {A : Nd} {s : CS} {e : Int × Nat} (h : valC K A (.ok s) = .error e) : valueM (exT K.F A) s = .error e := by
  unfold valC at h
  simp only [CR.bind_ok] at h
  cases hv : valueM (exT K.F A) s with
  | error x => rw [hv, CR.bind_error] at h; injection h with h; rw [h]
  | ok r => rw [hv] at h; cases h
theorem val_ok {K : SK} {A : Nd} {s s1 : CS} (h : valC K A (.ok s) = .ok s1) : ∃ t, valueM (exT K.F A) s = .ok (t, s1) ∧ ∀ t', ExR K A (.ok s) t' → t' = t := by
  unfold valC at h
  simp only [CR.bind_ok] at h
  obtain ⟨r, h1, h2⟩ := bind_inv h
  injection h2 with h2; subst h2
  exact ⟨r.1, h1, fun t' h => h s r rfl (valueM_inv h1).1⟩

set_option maxHeartbeats 4000000 in
set_option maxRecDepth 100000 in
theorem st_5 {T : Nd} (hk : T.kind = 5) : StS T := by
  intro K w0 own0 s cx w v hS0 hE hN hfit hok hsne hlo1 hou1
  have hsz : 0 < T.size := by rw [T.size_eq]; omega
  have hS := hS0.take (by omega)
  obtain ⟨hl, he0⟩ := so_one (by omega) hok
  have hlens := hS0.lens
  cases hσ : valC K (T.kids 0) (.ok (take0 s)) with
  | error e0 =>
    have hv0 := val_err hσ
    have hst : (mnT K.F T).st cx s = .error e0 := by
      rw [stM_at K.F (by omega)]
      unfold stM
      rw [if_neg (by omega), if_pos hk, hv0]; rfl
    rw [hst]
    have hfew := hS.ok.few
    have hlt := hS.lt
    have hcl := hS.ok.cl
    obtain ⟨g, off, cap, hv, hgl, hcap, hkid⟩ := ck_kid hN.row (by omega)
    subst hv
    obtain ⟨u0, hc0, hr0⟩ := hkid 0 (by omega)
    simp only [Nat.zero_mul, Nat.add_zero] at hc0
    have HC0 := hid_mk hc0
    have HATS := hid_mk (fun o => ats_any T (w.alloc o) _ K.lo s.2.length hN.fine (by simp; omega) (row_below (hS.box o) (Nat.le_refl _) hN.row) hN.cost (by omega))
    have HGO := hid_mk (fun (w1 : World) (u : Value) (t : TypeId) hb ha => sgo_of (w1 := w1) (T := T) (v := .slice (some ⟨g, off, none⟩) T.len cap) (p := s.2.length) (u := u) (t := t) hS hb ha)
    have HW0 := hid_mk (fun (w1 : World) (own1 : Option Nat) (b : Nat) (u : Value) (hg : SGo K w w1 own1 b T (.slice (some ⟨g, off, none⟩) T.len cap) u s.2.length) (W : World) (σ : CR CS) (r l o : Int) (q : Nat) (ty : Int) (hW : SS K w1 own1 σ r l o W) (ha : SAt K (T.kids 0) σ q) => want_of (ex_every (T.kids 0)) K w1 own1 σ r l o W u0 q ty hW (hg.env hE hW) ((hN.kid (by omega) hr0).later (hg.below _ _ _ _ _ hW)) ha he0)
    have HV0 := hid_mk (fun (w1 : World) (own1 : Option Nat) (b : Nat) (u : Value) (hg : SGo K w w1 own1 b T (.slice (some ⟨g, off, none⟩) T.len cap) u s.2.length) (W : World) (σ : CR CS) (r l o : Int) (q : Nat) (hW : SS K w1 own1 σ r l o W) (ha : SAt K (T.kids 0) σ q) => value_of (ex_every (T.kids 0)) K w1 own1 σ r l o W u0 q hW (hg.env hE hW) ((hN.kid (by omega) hr0).later (hg.below _ _ _ _ _ hW)) ha he0)
    have HA0 := hid_mk (SAt.kid0 hfit hfew (by omega))
    unfold Nd.val at *
    rw [hk] at HATS HGO ⊢
    have HKD := hid_mk hk
    have hpos : 0 < T.len := by omega
    have HSG := hid_mk hσ
    clear hst hS hS0 hE hN hk hok hc0 hkid he0 hr0 hl hsz hσ hv0 hlens
    generalize hq : s.2.length = q at *
    have hmix : Tryz.prog.follows Departure.mixedOrders = true := by kernel_rfl
    go_enter Tryz.func68, Tryz.ntmps68
    go_wp2_with (first
      | (go_at_call 36; refine (HATS.out _).mono ?_; rintro e w1 ⟨u, rfl, hats, hb1⟩; obtain ⟨own1, hs1, hback, hgo⟩ := HGO.out w1 u _ hb1 hats; obtain ⟨ga, oa, ca, rfl, hca, hav⟩ := hgo.ats (by omega); have HG := hid_mk hgo; have HAV := hid_mk hav; have HBK := hid_mk hback; obtain ⟨b0, b1, b2, b3⟩ := HG.out.box _ _ _ _ _ hs1; rw [HKD.out] at b0; have a0 := HAV.out _ _ _ _ _ hs1 0 (by omega); rw [Nat.add_zero] at a0; obtain ⟨c00, c01, c02, c03⟩ := HC0.out _ (HG.out.below _ _ _ _ _ hs1); have HS1 := hid_mk hs1; clear hs1 hback hgo hav hats hb1))
    go_still_tail 8, hmix
    go_wp2_with (go_at_call 88; refine (HV0.out _ _ _ _ HG.out _ _ _ _ _ _ HS1.out.drew HA0.out).mono ?_; rintro e w2 ⟨t, rfl, hR, hs2⟩; rw [HSG.out] at hs2; obtain ⟨b0, b1, b2, b3⟩ := HG.out.box _ _ _ _ _ hs2; rw [HKD.out] at b0; have a0 := HAV.out _ _ _ _ _ hs2 0 (by omega); rw [Nat.add_zero] at a0; obtain ⟨c00, c01, c02, c03⟩ := HC0.out _ (HG.out.below _ _ _ _ _ hs2); obtain ⟨code, k5, hz⟩ := hs2.code1; have HS2 := hid_mk hs2; clear hs2 hR)
    go_end0
    exact ⟨rfl, HBK.out _ _ _ _ _ HS2.out⟩
  | ok s1 =>
    obtain ⟨t0, hv0, hx0⟩ := val_ok hσ
    have hln := (ex_len K.F _ he0).value _ _ _ hv0
    have hst : (mnT K.F T).st cx s = declC s1 T.name t0 s.2.length := by
      rw [stM_at K.F (by omega)]
      unfold stM
      rw [if_neg (by omega), if_pos hk, hv0]; rfl
    rw [hst]
    have hfew := hS.ok.few
    have hlt := hS.lt
    have hcl := hS.ok.cl
    obtain ⟨g, off, cap, hv, hgl, hcap, hkid⟩ := ck_kid hN.row (by omega)
    subst hv
    obtain ⟨u0, hc0, hr0⟩ := hkid 0 (by omega)
    simp only [Nat.zero_mul, Nat.add_zero] at hc0
    have HC0 := hid_mk hc0
    have HATS := hid_mk (fun o => ats_any T (w.alloc o) _ K.lo s.2.length hN.fine (by simp; omega) (row_below (hS.box o) (Nat.le_refl _) hN.row) hN.cost (by omega))
    have HGO := hid_mk (fun (w1 : World) (u : Value) (t : TypeId) hb ha => sgo_of (w1 := w1) (T := T) (v := .slice (some ⟨g, off, none⟩) T.len cap) (p := s.2.length) (u := u) (t := t) hS hb ha)
    have HW0 := hid_mk (fun (w1 : World) (own1 : Option Nat) (b : Nat) (u : Value) (hg : SGo K w w1 own1 b T (.slice (some ⟨g, off, none⟩) T.len cap) u s.2.length) (W : World) (σ : CR CS) (r l o : Int) (q : Nat) (ty : Int) (hW : SS K w1 own1 σ r l o W) (ha : SAt K (T.kids 0) σ q) => want_of (ex_every (T.kids 0)) K w1 own1 σ r l o W u0 q ty hW (hg.env hE hW) ((hN.kid (by omega) hr0).later (hg.below _ _ _ _ _ hW)) ha he0)
    have HV0 := hid_mk (fun (w1 : World) (own1 : Option Nat) (b : Nat) (u : Value) (hg : SGo K w w1 own1 b T (.slice (some ⟨g, off, none⟩) T.len cap) u s.2.length) (W : World) (σ : CR CS) (r l o : Int) (q : Nat) (hW : SS K w1 own1 σ r l o W) (ha : SAt K (T.kids 0) σ q) => value_of (ex_every (T.kids 0)) K w1 own1 σ r l o W u0 q hW (hg.env hE hW) ((hN.kid (by omega) hr0).later (hg.below _ _ _ _ _ hW)) ha he0)
    have HA0 := hid_mk (SAt.kid0 hfit hfew (by omega))
    have hdecl1 : s1.1 ≠ [] := by rw [hln.1]; exact hsne
    have hdecl2 : varLen s1.1 + 1 ≤ s1.2.length := by rw [hln.1, hln.2, take0_len]; show varLen s.1 + 1 ≤ _; omega
    unfold Nd.val at *
    rw [hk] at HATS HGO ⊢
    have HKD := hid_mk hk
    have hpos : 0 < T.len := by omega
    have HSG := hid_mk hσ
    have HX0 := hid_mk hx0
    have HD1 := hid_mk hdecl1
    have HD2 := hid_mk hdecl2
    clear hst hS hS0 hE hN hk hok hc0 hkid he0 hr0 hl hsz hσ hv0 hlens hx0 hln hdecl1 hdecl2
    generalize hτ : declC s1 T.name t0 s.2.length = τ at *
    have HT := hid_mk hτ
    clear hτ
    generalize hq : s.2.length = q at *
    have hmix : Tryz.prog.follows Departure.mixedOrders = true := by kernel_rfl
    go_enter Tryz.func68, Tryz.ntmps68
    go_wp2_with (first
      | (go_at_call 36; refine (HATS.out _).mono ?_; rintro e w1 ⟨u, rfl, hats, hb1⟩; obtain ⟨own1, hs1, hback, hgo⟩ := HGO.out w1 u _ hb1 hats; obtain ⟨ga, oa, ca, rfl, hca, hav⟩ := hgo.ats (by omega); have HG := hid_mk hgo; have HAV := hid_mk hav; have HBK := hid_mk hback; obtain ⟨b0, b1, b2, b3⟩ := HG.out.box _ _ _ _ _ hs1; rw [HKD.out] at b0; have a0 := HAV.out _ _ _ _ _ hs1 0 (by omega); rw [Nat.add_zero] at a0; obtain ⟨c00, c01, c02, c03⟩ := HC0.out _ (HG.out.below _ _ _ _ _ hs1); have HS1 := hid_mk hs1; clear hs1 hback hgo hav hats hb1))
    go_still_tail 8, hmix
    go_wp2_with (first
      | (go_at_call 88; refine (HV0.out _ _ _ _ HG.out _ _ _ _ _ _ HS1.out.drew HA0.out).mono ?_; rintro e w2 ⟨t, rfl, hR, hs2⟩; rw [HSG.out] at hs2; obtain ⟨b0, b1, b2, b3⟩ := HG.out.box _ _ _ _ _ hs2; rw [HKD.out] at b0; have a0 := HAV.out _ _ _ _ _ hs2 0 (by omega); rw [Nat.add_zero] at a0; obtain ⟨c00, c01, c02, c03⟩ := HC0.out _ (HG.out.below _ _ _ _ _ hs2); have k5 := hs2.code0; obtain rfl : t = t0 := HX0.out t hR; have HS2 := hid_mk hs2; clear hs2 hR)
      | (go_at_call 49; refine (declare_any HS2.out T.name t q HD1.out HD2.out).mono ?_; rintro e w3 ⟨rfl, hs3⟩; have HS3 := hid_mk hs3; clear hs3))
    go_end0
    exact ⟨rfl, by rw [← HT.out]; exact HBK.out _ _ _ _ _ HS3.out⟩

end Go.Proofs.YtbjianmjdadehaaGreatDoor
namespace Go.Proofs.YtbjianmjdadehaaGreatDoor
open Go.RowKit

set_option maxHeartbeats 4000000 in
set_option maxRecDepth 100000 in
theorem st_20 {T : Nd} (hk : T.kind = 20) : StS T := by
  intro K w0 own0 s cx w v hS0 hE hN hfit hok hsne hlo1 hou1
  have hsz : 0 < T.size := by rw [T.size_eq]; omega
  have hS := hS0.take (by omega)
  obtain ⟨hl, he0⟩ := so_one (by omega) hok
  have hlens := hS0.lens
  cases hσ : valC K (T.kids 0) (.ok (take0 s)) with
  | error e0 =>
    have hv0 := val_err hσ
    have hst : (mnT K.F T).st cx s = .error e0 := by
      rw [stM_at K.F (by omega)]
      unfold stM
      rw [if_neg (by omega), if_neg (by omega), if_neg (by omega), if_neg (by omega), if_neg (by omega), if_neg (by omega), if_neg (by omega), if_neg (by omega), if_neg (by omega), if_neg (by omega), if_neg (by omega), if_neg (by omega), if_neg (by omega), if_pos hk, hv0]; rfl
    rw [hst]
    have hfew := hS.ok.few
    have hlt := hS.lt
    have hcl := hS.ok.cl
    obtain ⟨g, off, cap, hv, hgl, hcap, hkid⟩ := ck_kid hN.row (by omega)
    subst hv
    obtain ⟨u0, hc0, hr0⟩ := hkid 0 (by omega)
    simp only [Nat.zero_mul, Nat.add_zero] at hc0
    have HC0 := hid_mk hc0
    have HATS := hid_mk (fun o => ats_any T (w.alloc o) _ K.lo s.2.length hN.fine (by simp; omega) (row_below (hS.box o) (Nat.le_refl _) hN.row) hN.cost (by omega))
    have HGO := hid_mk (fun (w1 : World) (u : Value) (t : TypeId) hb ha => sgo_of (w1 := w1) (T := T) (v := .slice (some ⟨g, off, none⟩) T.len cap) (p := s.2.length) (u := u) (t := t) hS hb ha)
    have HW0 := hid_mk (fun (w1 : World) (own1 : Option Nat) (b : Nat) (u : Value) (hg : SGo K w w1 own1 b T (.slice (some ⟨g, off, none⟩) T.len cap) u s.2.length) (W : World) (σ : CR CS) (r l o : Int) (q : Nat) (ty : Int) (hW : SS K w1 own1 σ r l o W) (ha : SAt K (T.kids 0) σ q) => want_of (ex_every (T.kids 0)) K w1 own1 σ r l o W u0 q ty hW (hg.env hE hW) ((hN.kid (by omega) hr0).later (hg.below _ _ _ _ _ hW)) ha he0)
    have HV0 := hid_mk (fun (w1 : World) (own1 : Option Nat) (b : Nat) (u : Value) (hg : SGo K w w1 own1 b T (.slice (some ⟨g, off, none⟩) T.len cap) u s.2.length) (W : World) (σ : CR CS) (r l o : Int) (q : Nat) (hW : SS K w1 own1 σ r l o W) (ha : SAt K (T.kids 0) σ q) => value_of (ex_every (T.kids 0)) K w1 own1 σ r l o W u0 q hW (hg.env hE hW) ((hN.kid (by omega) hr0).later (hg.below _ _ _ _ _ hW)) ha he0)
    have HA0 := hid_mk (SAt.kid0 hfit hfew (by omega))
    unfold Nd.val at *
    rw [hk] at HATS HGO ⊢
    have HKD := hid_mk hk
    have hpos : 0 < T.len := by omega
    have HSG := hid_mk hσ
    clear hst hS hS0 hE hN hk hok hc0 hkid he0 hr0 hl hsz hσ hv0 hlens
    generalize hq : s.2.length = q at *
    have hmix : Tryz.prog.follows Departure.mixedOrders = true := by kernel_rfl
    go_enter Tryz.func68, Tryz.ntmps68
    go_wp2_with (first
      | (go_at_call 36; refine (HATS.out _).mono ?_; rintro e w1 ⟨u, rfl, hats, hb1⟩; obtain ⟨own1, hs1, hback, hgo⟩ := HGO.out w1 u _ hb1 hats; obtain ⟨ga, oa, ca, rfl, hca, hav⟩ := hgo.ats (by omega); have HG := hid_mk hgo; have HAV := hid_mk hav; have HBK := hid_mk hback; obtain ⟨b0, b1, b2, b3⟩ := HG.out.box _ _ _ _ _ hs1; rw [HKD.out] at b0; have a0 := HAV.out _ _ _ _ _ hs1 0 (by omega); rw [Nat.add_zero] at a0; obtain ⟨c00, c01, c02, c03⟩ := HC0.out _ (HG.out.below _ _ _ _ _ hs1); have HS1 := hid_mk hs1; clear hs1 hback hgo hav hats hb1))
    go_still_tail 8, hmix
    go_wp2_with (go_at_call 88; refine (HV0.out _ _ _ _ HG.out _ _ _ _ _ _ HS1.out.drew HA0.out).mono ?_; rintro e w2 ⟨t, rfl, hR, hs2⟩; rw [HSG.out] at hs2; obtain ⟨b0, b1, b2, b3⟩ := HG.out.box _ _ _ _ _ hs2; rw [HKD.out] at b0; have a0 := HAV.out _ _ _ _ _ hs2 0 (by omega); rw [Nat.add_zero] at a0; obtain ⟨c00, c01, c02, c03⟩ := HC0.out _ (HG.out.below _ _ _ _ _ hs2); obtain ⟨code, k5, hz⟩ := hs2.code1; have HS2 := hid_mk hs2; clear hs2 hR)
    go_end0
    exact ⟨rfl, HBK.out _ _ _ _ _ HS2.out⟩
  | ok s1 =>
    obtain ⟨t0, hv0, hx0⟩ := val_ok hσ
    have hln := (ex_len K.F _ he0).value _ _ _ hv0
    by_cases h3 : t0 = 3
    · have hst : (mnT K.F T).st cx s = .error (7, s.2.length + 1) := by
        rw [stM_at K.F (by omega)]
        unfold stM
        rw [if_neg (by omega), if_neg (by omega), if_neg (by omega), if_neg (by omega), if_neg (by omega), if_neg (by omega), if_neg (by omega), if_neg (by omega), if_neg (by omega), if_neg (by omega), if_neg (by omega), if_neg (by omega), if_neg (by omega), if_pos hk, hv0, CR.bind_ok, if_pos h3]
      rw [hst]
      have hfew := hS.ok.few
      have hlt := hS.lt
      have hcl := hS.ok.cl
      obtain ⟨g, off, cap, hv, hgl, hcap, hkid⟩ := ck_kid hN.row (by omega)
      subst hv
      obtain ⟨u0, hc0, hr0⟩ := hkid 0 (by omega)
      simp only [Nat.zero_mul, Nat.add_zero] at hc0
      have HC0 := hid_mk hc0
      have HATS := hid_mk (fun o => ats_any T (w.alloc o) _ K.lo s.2.length hN.fine (by simp; omega) (row_below (hS.box o) (Nat.le_refl _) hN.row) hN.cost (by omega))
      have HGO := hid_mk (fun (w1 : World) (u : Value) (t : TypeId) hb ha => sgo_of (w1 := w1) (T := T) (v := .slice (some ⟨g, off, none⟩) T.len cap) (p := s.2.length) (u := u) (t := t) hS hb ha)
      have HW0 := hid_mk (fun (w1 : World) (own1 : Option Nat) (b : Nat) (u : Value) (hg : SGo K w w1 own1 b T (.slice (some ⟨g, off, none⟩) T.len cap) u s.2.length) (W : World) (σ : CR CS) (r l o : Int) (q : Nat) (ty : Int) (hW : SS K w1 own1 σ r l o W) (ha : SAt K (T.kids 0) σ q) => want_of (ex_every (T.kids 0)) K w1 own1 σ r l o W u0 q ty hW (hg.env hE hW) ((hN.kid (by omega) hr0).later (hg.below _ _ _ _ _ hW)) ha he0)
      have HV0 := hid_mk (fun (w1 : World) (own1 : Option Nat) (b : Nat) (u : Value) (hg : SGo K w w1 own1 b T (.slice (some ⟨g, off, none⟩) T.len cap) u s.2.length) (W : World) (σ : CR CS) (r l o : Int) (q : Nat) (hW : SS K w1 own1 σ r l o W) (ha : SAt K (T.kids 0) σ q) => value_of (ex_every (T.kids 0)) K w1 own1 σ r l o W u0 q hW (hg.env hE hW) ((hN.kid (by omega) hr0).later (hg.below _ _ _ _ _ hW)) ha he0)
      have HA0 := hid_mk (SAt.kid0 hfit hfew (by omega))
      unfold Nd.val at *
      rw [hk] at HATS HGO ⊢
      have HKD := hid_mk hk
      have hpos : 0 < T.len := by omega
      have HSG := hid_mk hσ
      have HX0 : Hid (∀ t', ExR K (T.kids 0) (.ok (take0 s)) t' → t' = 3) := by intro t' h; rw [← h3]; exact hx0 t' h
      clear hst hS hS0 hE hN hk hok hc0 hkid he0 hr0 hl hsz hσ hv0 hlens hx0 hln h3
      generalize hq : s.2.length = q at *
      have hmix : Tryz.prog.follows Departure.mixedOrders = true := by kernel_rfl
      go_enter Tryz.func68, Tryz.ntmps68
      go_wp2_with (first
        | (go_at_call 36; refine (HATS.out _).mono ?_; rintro e w1 ⟨u, rfl, hats, hb1⟩; obtain ⟨own1, hs1, hback, hgo⟩ := HGO.out w1 u _ hb1 hats; obtain ⟨ga, oa, ca, rfl, hca, hav⟩ := hgo.ats (by omega); have HG := hid_mk hgo; have HAV := hid_mk hav; have HBK := hid_mk hback; obtain ⟨b0, b1, b2, b3⟩ := HG.out.box _ _ _ _ _ hs1; rw [HKD.out] at b0; have a0 := HAV.out _ _ _ _ _ hs1 0 (by omega); rw [Nat.add_zero] at a0; obtain ⟨c00, c01, c02, c03⟩ := HC0.out _ (HG.out.below _ _ _ _ _ hs1); have HS1 := hid_mk hs1; clear hs1 hback hgo hav hats hb1))
      go_still_tail 8, hmix
      go_wp2_with (first
        | (go_at_call 88; refine (HV0.out _ _ _ _ HG.out _ _ _ _ _ _ HS1.out.drew HA0.out).mono ?_; rintro e w2 ⟨t, rfl, hR, hs2⟩; rw [HSG.out] at hs2; obtain ⟨b0, b1, b2, b3⟩ := HG.out.box _ _ _ _ _ hs2; rw [HKD.out] at b0; have a0 := HAV.out _ _ _ _ _ hs2 0 (by omega); rw [Nat.add_zero] at a0; obtain ⟨c00, c01, c02, c03⟩ := HC0.out _ (HG.out.below _ _ _ _ _ hs2); have k5 := hs2.code0; obtain rfl : t = 3 := HX0.out t hR; have HS2 := hid_mk hs2; clear hs2 hR)
        | (go_at_call 38; refine (fail_any HS2.out 7 (by decide) (kidAt T q 0)).mono ?_; rintro e w3 ⟨rfl, hs3⟩; have HS3 := hid_mk hs3; clear hs3))
      go_end0
      exact ⟨rfl, HBK.out _ _ _ _ _ HS3.out⟩
    · have hst : (mnT K.F T).st cx s = .ok s1 := by
        rw [stM_at K.F (by omega)]
        unfold stM
        rw [if_neg (by omega), if_neg (by omega), if_neg (by omega), if_neg (by omega), if_neg (by omega), if_neg (by omega), if_neg (by omega), if_neg (by omega), if_neg (by omega), if_neg (by omega), if_neg (by omega), if_neg (by omega), if_neg (by omega), if_pos hk, hv0, CR.bind_ok, if_neg h3]
      rw [hst]
      have hfew := hS.ok.few
      have hlt := hS.lt
      have hcl := hS.ok.cl
      obtain ⟨g, off, cap, hv, hgl, hcap, hkid⟩ := ck_kid hN.row (by omega)
      subst hv
      obtain ⟨u0, hc0, hr0⟩ := hkid 0 (by omega)
      simp only [Nat.zero_mul, Nat.add_zero] at hc0
      have HC0 := hid_mk hc0
      have HATS := hid_mk (fun o => ats_any T (w.alloc o) _ K.lo s.2.length hN.fine (by simp; omega) (row_below (hS.box o) (Nat.le_refl _) hN.row) hN.cost (by omega))
      have HGO := hid_mk (fun (w1 : World) (u : Value) (t : TypeId) hb ha => sgo_of (w1 := w1) (T := T) (v := .slice (some ⟨g, off, none⟩) T.len cap) (p := s.2.length) (u := u) (t := t) hS hb ha)
      have HW0 := hid_mk (fun (w1 : World) (own1 : Option Nat) (b : Nat) (u : Value) (hg : SGo K w w1 own1 b T (.slice (some ⟨g, off, none⟩) T.len cap) u s.2.length) (W : World) (σ : CR CS) (r l o : Int) (q : Nat) (ty : Int) (hW : SS K w1 own1 σ r l o W) (ha : SAt K (T.kids 0) σ q) => want_of (ex_every (T.kids 0)) K w1 own1 σ r l o W u0 q ty hW (hg.env hE hW) ((hN.kid (by omega) hr0).later (hg.below _ _ _ _ _ hW)) ha he0)
      have HV0 := hid_mk (fun (w1 : World) (own1 : Option Nat) (b : Nat) (u : Value) (hg : SGo K w w1 own1 b T (.slice (some ⟨g, off, none⟩) T.len cap) u s.2.length) (W : World) (σ : CR CS) (r l o : Int) (q : Nat) (hW : SS K w1 own1 σ r l o W) (ha : SAt K (T.kids 0) σ q) => value_of (ex_every (T.kids 0)) K w1 own1 σ r l o W u0 q hW (hg.env hE hW) ((hN.kid (by omega) hr0).later (hg.below _ _ _ _ _ hW)) ha he0)
      have HA0 := hid_mk (SAt.kid0 hfit hfew (by omega))
      unfold Nd.val at *
      rw [hk] at HATS HGO ⊢
      have HKD := hid_mk hk
      have hpos : 0 < T.len := by omega
      have HSG := hid_mk hσ
      have HX0 : Hid (∀ t', ExR K (T.kids 0) (.ok (take0 s)) t' → (t' == 3) = false) := by intro t' h; rw [hx0 t' h]; exact beq_eq_false_iff_ne.2 h3
      clear hst hS hS0 hE hN hk hok hc0 hkid he0 hr0 hl hsz hσ hv0 hlens hx0 hln h3
      generalize hq : s.2.length = q at *
      have hmix : Tryz.prog.follows Departure.mixedOrders = true := by kernel_rfl
      go_enter Tryz.func68, Tryz.ntmps68
      go_wp2_with (first
        | (go_at_call 36; refine (HATS.out _).mono ?_; rintro e w1 ⟨u, rfl, hats, hb1⟩; obtain ⟨own1, hs1, hback, hgo⟩ := HGO.out w1 u _ hb1 hats; obtain ⟨ga, oa, ca, rfl, hca, hav⟩ := hgo.ats (by omega); have HG := hid_mk hgo; have HAV := hid_mk hav; have HBK := hid_mk hback; obtain ⟨b0, b1, b2, b3⟩ := HG.out.box _ _ _ _ _ hs1; rw [HKD.out] at b0; have a0 := HAV.out _ _ _ _ _ hs1 0 (by omega); rw [Nat.add_zero] at a0; obtain ⟨c00, c01, c02, c03⟩ := HC0.out _ (HG.out.below _ _ _ _ _ hs1); have HS1 := hid_mk hs1; clear hs1 hback hgo hav hats hb1))
      go_still_tail 8, hmix
      go_wp2_with (go_at_call 88; refine (HV0.out _ _ _ _ HG.out _ _ _ _ _ _ HS1.out.drew HA0.out).mono ?_; rintro e w2 ⟨t, rfl, hR, hs2⟩; rw [HSG.out] at hs2; obtain ⟨b0, b1, b2, b3⟩ := HG.out.box _ _ _ _ _ hs2; rw [HKD.out] at b0; have a0 := HAV.out _ _ _ _ _ hs2 0 (by omega); rw [Nat.add_zero] at a0; obtain ⟨c00, c01, c02, c03⟩ := HC0.out _ (HG.out.below _ _ _ _ _ hs2); have k5 := hs2.code0; have h3n := HX0.out t hR; have HS2 := hid_mk hs2; clear hs2 hR)
      go_end0
      exact ⟨rfl, HBK.out _ _ _ _ _ HS2.out⟩

end Go.Proofs.YtbjianmjdadehaaGreatDoor
