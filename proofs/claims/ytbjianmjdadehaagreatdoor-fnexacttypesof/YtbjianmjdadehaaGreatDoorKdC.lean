/- The specification's checker: the type of an expression, kind by kind. -/
import Derived.Test.YtbjianmjdadehaaGreatDoorKdB
import Derived.StillTailTactics
set_option linter.unusedVariables false
namespace Go.Proofs.YtbjianmjdadehaaGreatDoor
open Go.RowKit

set_option maxHeartbeats 2000000 in
set_option maxRecDepth 100000 in
theorem ty_22 {T : Nd} (hk : T.kind = 22) : TyS T := by
  intro K w0 own0 s ret loops outs w v hS hE hN hfit hok
  have hty : typeM K.F T.kind T.name T.len (fun i => exT K.F (T.kids i)) (take0 s) s.2.length = .ok (1, take0 s) := by unfold typeM; rw [if_pos hk]
  rw [hty]
  have hfew := hS.ok.few
  have hlt := hS.lt
  have HATS := hid_mk (fun o => ats_any T (w.alloc o) v K.lo s.2.length hN.fine (by have := hS.ok.cl; simp; omega) (row_below (hS.box o) (Nat.le_refl _) hN.row) hN.cost (by omega))
  have HS := hid_mk (fun o => hS.alloc o)
  unfold Nd.val at *
  rw [hk] at HATS ⊢
  clear hty hS hE hN hk
  generalize hq : s.2.length = q at *
  generalize T.num = tn at *
  generalize T.name = ts at *
  go_enter Tryz.func102, Tryz.ntmps102
  go_wp2_with (go_at_call 36; refine (HATS.out _).mono ?_; rintro e w1 ⟨u, rfl, hats, hb1⟩; have HB1 := hid_mk hb1; have HA1 := hid_mk hats; have k0 : w1.cell? ⟨w.heap.size, 0, none⟩ = some (.int .i64 22) := (hb1.cell (p := ⟨w.heap.size, 0, none⟩) (by simp)).trans (by simp); clear hb1 hats)
  go_ret
  exact ⟨1, rfl, fun r h => (by injection h with h; subst h; rfl), (HS.out _).calm HB1.out⟩
end Go.Proofs.YtbjianmjdadehaaGreatDoor
namespace Go.Proofs.YtbjianmjdadehaaGreatDoor
open Go.RowKit

theorem ty_end {X : CR CS} {t : Int} : (∀ r, CR.bind X (fun s1 => .ok (t, s1)) = .ok r → t = r.1) ∧ (CR.bind (CR.bind X fun s1 => .ok (t, s1)) fun r => .ok r.2) = X := by
  refine ⟨fun r h => ?_, ?_⟩
  · obtain ⟨a, _, h2⟩ := bind_inv h
    injection h2 with h2; subst h2; rfl
  · cases X <;> rfl

set_option maxHeartbeats 4000000 in
set_option maxRecDepth 100000 in
theorem ty_29 {T : Nd} (hk : T.kind = 29) (ih : ∀ i, i < T.len → ExS (T.kids i)) : TyS T := by
  intro K w0 own0 s ret loops outs w v hS hE hN hfit hok
  obtain ⟨hl, he0⟩ := eo_29 hk hok
  have hty : typeM K.F T.kind T.name T.len (fun i => exT K.F (T.kids i)) (take0 s) s.2.length = CR.bind (wantC K (T.kids 0) 3 (.ok (take0 s))) fun s1 => .ok (1, s1) := by
    unfold typeM
    rw [if_neg (by omega), if_neg (by omega), if_neg (by omega), if_neg (by omega), if_neg (by omega), if_neg (by omega), if_pos hk]; rfl
  rw [hty]
  have hfew := hS.ok.few
  have hlt := hS.lt
  have hcl := hS.ok.cl
  obtain ⟨g, off, cap, hv, hgl, hcap, hkid⟩ := ck_kid hN.row (by omega)
  subst hv
  obtain ⟨u0, hc0, hr0⟩ := hkid 0 (by omega)
  simp only [Nat.zero_mul, Nat.add_zero] at hc0
  have HC0 := hid_mk hc0
  have HATS := hid_mk (fun o => ats_any T (w.alloc o) _ K.lo s.2.length hN.fine (by simp; omega) (row_below (hS.box o) (Nat.le_refl _) hN.row) hN.cost (by omega))
  have HGO := hid_mk (fun (w1 : World) (u : Value) (t : TypeId) hb ha => sgo_of (w1 := w1) (T := T) (v := .slice (some ⟨g, off, none⟩) T.len cap) (p := s.2.length) (u := u) (t := t) hS hb ha)
  have HW0 := hid_mk (fun (w1 : World) (own1 : Option Nat) (b : Nat) (u : Value) (hg : SGo K w w1 own1 b T (.slice (some ⟨g, off, none⟩) T.len cap) u s.2.length) (W : World) (σ : CR CS) (r l o : Int) (q : Nat) (ty : Int) (hW : SS K w1 own1 σ r l o W) (ha : SAt K (T.kids 0) σ q) => want_of (ih 0 (by omega)) K w1 own1 σ r l o W u0 q ty hW (hg.env hE hW) ((hN.kid (by omega) hr0).later (hg.below _ _ _ _ _ hW)) ha he0)
  have HV0 := hid_mk (fun (w1 : World) (own1 : Option Nat) (b : Nat) (u : Value) (hg : SGo K w w1 own1 b T (.slice (some ⟨g, off, none⟩) T.len cap) u s.2.length) (W : World) (σ : CR CS) (r l o : Int) (q : Nat) (hW : SS K w1 own1 σ r l o W) (ha : SAt K (T.kids 0) σ q) => value_of (ih 0 (by omega)) K w1 own1 σ r l o W u0 q hW (hg.env hE hW) ((hN.kid (by omega) hr0).later (hg.below _ _ _ _ _ hW)) ha he0)
  have HA0 := hid_mk (SAt.kid0 hfit hfew (by omega))
  unfold Nd.val at *
  rw [hk] at HATS HGO ⊢
  have HKD := hid_mk hk
  have hpos : 0 < T.len := by omega
  clear hty hS hE hN hk hok ih hc0 hkid he0 hr0 hl
  generalize hq : s.2.length = q at *
  have hmix : Tryz.prog.follows Departure.mixedOrders = true := by kernel_rfl
  go_enter Tryz.func102, Tryz.ntmps102
  go_wp2_with (first
    | (go_at_call 36; refine (HATS.out _).mono ?_; rintro e w1 ⟨u, rfl, hats, hb1⟩; obtain ⟨own1, hs1, hback, hgo⟩ := HGO.out w1 u _ hb1 hats; obtain ⟨ga, oa, ca, rfl, hca, hav⟩ := hgo.ats (by omega); have HG := hid_mk hgo; have HAV := hid_mk hav; have HBK := hid_mk hback; obtain ⟨b0, b1, b2, b3⟩ := HG.out.box _ _ _ _ _ hs1; rw [HKD.out] at b0; have a0 := HAV.out _ _ _ _ _ hs1 0 (by omega); rw [Nat.add_zero] at a0; obtain ⟨c00, c01, c02, c03⟩ := HC0.out _ (HG.out.below _ _ _ _ _ hs1); have HS1 := hid_mk hs1; clear hs1 hback hgo hav hats hb1))
  go_still_tail 8, hmix
  go_wp2_with (go_at_call 90; refine (HW0.out _ _ _ _ HG.out _ _ _ _ _ _ _ HS1.out.drew HA0.out).mono ?_; rintro e w2 ⟨rfl, hs2⟩; have HS2 := hid_mk (HBK.out _ _ _ _ _ hs2); clear hs2)
  go_ret
  exact ⟨1, rfl, ty_end.1, by rw [ty_end.2]; exact HS2.out⟩
end Go.Proofs.YtbjianmjdadehaaGreatDoor
namespace Go.Proofs.YtbjianmjdadehaaGreatDoor
open Go.RowKit

set_option maxHeartbeats 4000000 in
set_option maxRecDepth 100000 in
theorem ty_23 {T : Nd} (hk : T.kind = 23) : TyS T := by
  intro K w0 own0 s ret loops outs w v hS hE hN hfit hok
  have hty : typeM K.F T.kind T.name T.len (fun i => exT K.F (T.kids i)) (take0 s) s.2.length = .ok (2, take0 s) := by
    unfold typeM
    rw [if_neg (by omega), if_pos hk]; done
  rw [hty]
  have hfew := hS.ok.few
  have hlt := hS.lt
  have HATS := hid_mk (fun o => ats_any T (w.alloc o) v K.lo s.2.length hN.fine (by have := hS.ok.cl; simp; omega) (row_below (hS.box o) (Nat.le_refl _) hN.row) hN.cost (by omega))
  have HS := hid_mk (fun o => hS.alloc o)
  unfold Nd.val at *
  rw [hk] at HATS ⊢
  clear hty hS hE hN hk
  generalize hq : s.2.length = q at *
  go_enter Tryz.func102, Tryz.ntmps102
  go_wp2_with (go_at_call 36; refine (HATS.out _).mono ?_; rintro e w1 ⟨u, rfl, hats, hb1⟩; have HS1 := hid_mk ((HS.out _).calm hb1); have k0 : w1.cell? ⟨w.heap.size, 0, none⟩ = some (.int .i64 23) := (hb1.cell (p := ⟨w.heap.size, 0, none⟩) (by simp)).trans (by simp); have k2 : w1.cell? ⟨w.heap.size, 2, none⟩ = some (.string T.name) := (hb1.cell (p := ⟨w.heap.size, 2, none⟩) (by simp)).trans (by simp); have k3 : w1.cell? ⟨w.heap.size, 3, none⟩ = some v := (hb1.cell (p := ⟨w.heap.size, 3, none⟩) (by simp)).trans (by simp); clear hb1 hats)
  go_ret
  exact ⟨2, rfl, fun r h => (by injection h with h; subst h; rfl), HS1.out⟩

set_option maxHeartbeats 4000000 in
set_option maxRecDepth 100000 in
theorem ty_24 {T : Nd} (hk : T.kind = 24) : TyS T := by
  intro K w0 own0 s ret loops outs w v hS hE hN hfit hok
  have hlk : look (take0 s).1 T.name = look s.1 T.name := rfl
  by_cases h0 : look s.1 T.name = 0
  · have hty : typeM K.F T.kind T.name T.len (fun i => exT K.F (T.kids i)) (take0 s) s.2.length = .error (5, s.2.length) := by
      unfold typeM
      rw [if_neg (by omega), if_neg (by omega), if_pos hk, if_pos (hlk.trans h0)]
    rw [hty]
    have hfew := hS.ok.few
    have hlt := hS.lt
    have HATS := hid_mk (fun o => ats_any T (w.alloc o) v K.lo s.2.length hN.fine (by have := hS.ok.cl; simp; omega) (row_below (hS.box o) (Nat.le_refl _) hN.row) hN.cost (by omega))
    have HS := hid_mk (fun o => hS.alloc o)
    unfold Nd.val at *
    rw [hk] at HATS ⊢
    have H0 := hid_mk (hlk.trans h0)
    clear hty hS hE hN hk hlk h0
    generalize hq : s.2.length = q at *
    go_enter Tryz.func102, Tryz.ntmps102
    go_wp2_with (first
      | (go_at_call 36; refine (HATS.out _).mono ?_; rintro e w1 ⟨u, rfl, hats, hb1⟩; have HS1 := hid_mk ((HS.out _).calm hb1); have k0 : w1.cell? ⟨w.heap.size, 0, none⟩ = some (.int .i64 24) := (hb1.cell (p := ⟨w.heap.size, 0, none⟩) (by simp)).trans (by simp); have k2 : w1.cell? ⟨w.heap.size, 2, none⟩ = some (.string T.name) := (hb1.cell (p := ⟨w.heap.size, 2, none⟩) (by simp)).trans (by simp); have k3 : w1.cell? ⟨w.heap.size, 3, none⟩ = some v := (hb1.cell (p := ⟨w.heap.size, 3, none⟩) (by simp)).trans (by simp); clear hb1 hats)
      | (go_at_call 89; refine (look_any HS1.out _).mono ?_; rw [H0.out]; rintro e w2 ⟨rfl, hs2⟩; have HS2 := hid_mk hs2; clear hs2)
      | (go_at_call 38; refine (fail_any HS2.out 5 (by decide) q).mono ?_; rintro e w3 ⟨rfl, hs3⟩; have HS3 := hid_mk hs3; clear hs3))
    go_ret
    exact ⟨0, rfl, fun r h => (by cases h), HS3.out⟩
  · have hty : typeM K.F T.kind T.name T.len (fun i => exT K.F (T.kids i)) (take0 s) s.2.length = .ok (look s.1 T.name, take0 s) := by
      unfold typeM
      rw [if_neg (by omega), if_neg (by omega), if_pos hk, if_neg (fun e => h0 (hlk.symm.trans e))]; rfl
    rw [hty]
    have hfew := hS.ok.few
    have hlt := hS.lt
    have HATS := hid_mk (fun o => ats_any T (w.alloc o) v K.lo s.2.length hN.fine (by have := hS.ok.cl; simp; omega) (row_below (hS.box o) (Nat.le_refl _) hN.row) hN.cost (by omega))
    have HS := hid_mk (fun o => hS.alloc o)
    unfold Nd.val at *
    rw [hk] at HATS ⊢
    have H0 : Hid (look (take0 s).1 T.name = look s.1 T.name) := hlk
    have h0' : (look s.1 T.name == 0) = false := beq_eq_false_iff_ne.2 h0
    clear hty hS hE hN hk hlk h0
    generalize look s.1 T.name = lk at *
    generalize hq : s.2.length = q at *
    go_enter Tryz.func102, Tryz.ntmps102
    go_wp2_with (first
      | (go_at_call 36; refine (HATS.out _).mono ?_; rintro e w1 ⟨u, rfl, hats, hb1⟩; have HS1 := hid_mk ((HS.out _).calm hb1); have k0 : w1.cell? ⟨w.heap.size, 0, none⟩ = some (.int .i64 24) := (hb1.cell (p := ⟨w.heap.size, 0, none⟩) (by simp)).trans (by simp); have k2 : w1.cell? ⟨w.heap.size, 2, none⟩ = some (.string T.name) := (hb1.cell (p := ⟨w.heap.size, 2, none⟩) (by simp)).trans (by simp); have k3 : w1.cell? ⟨w.heap.size, 3, none⟩ = some v := (hb1.cell (p := ⟨w.heap.size, 3, none⟩) (by simp)).trans (by simp); clear hb1 hats)
      | (go_at_call 89; refine (look_any HS1.out _).mono ?_; rw [H0.out]; rintro e w2 ⟨rfl, hs2⟩; have HS2 := hid_mk hs2; clear hs2))
    go_ret
    exact ⟨lk, rfl, fun r h => (by injection h with h; subst h; rfl), HS2.out⟩

end Go.Proofs.YtbjianmjdadehaaGreatDoor
namespace Go.Proofs.YtbjianmjdadehaaGreatDoor
open Go.RowKit

theorem notB_eq (s : ByteArray) : notB s = (s.toList == [33]) := by
  have h : (s.toList == (⟨#[33]⟩ : ByteArray).toList) = decide (s = ⟨#[33]⟩) := beq_bytes s ⟨#[33]⟩
  have e : (⟨#[33]⟩ : ByteArray).toList = [33] := by rw [ByteArray.toList_eq]
  rw [e] at h
  rw [h]
  unfold notB hasB
  simp [eq_comm]

set_option maxHeartbeats 4000000 in
set_option maxRecDepth 100000 in
theorem ty_27n {T : Nd} (hk : T.kind = 27) (hsg : notB T.name = true) (ih : ∀ i, i < T.len → ExS (T.kids i)) : TyS T := by
  intro K w0 own0 s ret loops outs w v hS hE hN hfit hok
  obtain ⟨hl, he0⟩ := eo_27 hk hok
  have hty : typeM K.F T.kind T.name T.len (fun i => exT K.F (T.kids i)) (take0 s) s.2.length = CR.bind (wantC K (T.kids 0) 2 (.ok (take0 s))) fun s1 => .ok (2, s1) := by
    unfold typeM
    rw [if_neg (by omega), if_neg (by omega), if_neg (by omega), if_neg (by omega), if_neg (by omega), if_pos hk, hsg]; rfl
  rw [hty]
  have hsg' : (T.name.toList == [33]) = true := by rw [← notB_eq]; exact hsg
  have hfew := hS.ok.few
  have hlt := hS.lt
  have hcl := hS.ok.cl
  obtain ⟨g, off, cap, hv, hgl, hcap, hkid⟩ := ck_kid hN.row (by omega)
  subst hv
  obtain ⟨u0, hc0, hr0⟩ := hkid 0 (by omega)
  simp only [Nat.zero_mul, Nat.add_zero] at hc0
  have HC0 := hid_mk hc0
  have HATS := hid_mk (fun o => ats_any T (w.alloc o) _ K.lo s.2.length hN.fine (by simp; omega) (row_below (hS.box o) (Nat.le_refl _) hN.row) hN.cost (by omega))
  have HGO := hid_mk (fun (w1 : World) (u : Value) (t : TypeId) hb ha => sgo_of (w1 := w1) (T := T) (v := .slice (some ⟨g, off, none⟩) T.len cap) (p := s.2.length) (u := u) (t := t) hS hb ha)
  have HW0 := hid_mk (fun (w1 : World) (own1 : Option Nat) (b : Nat) (u : Value) (hg : SGo K w w1 own1 b T (.slice (some ⟨g, off, none⟩) T.len cap) u s.2.length) (W : World) (σ : CR CS) (r l o : Int) (q : Nat) (ty : Int) (hW : SS K w1 own1 σ r l o W) (ha : SAt K (T.kids 0) σ q) => want_of (ih 0 (by omega)) K w1 own1 σ r l o W u0 q ty hW (hg.env hE hW) ((hN.kid (by omega) hr0).later (hg.below _ _ _ _ _ hW)) ha he0)
  have HV0 := hid_mk (fun (w1 : World) (own1 : Option Nat) (b : Nat) (u : Value) (hg : SGo K w w1 own1 b T (.slice (some ⟨g, off, none⟩) T.len cap) u s.2.length) (W : World) (σ : CR CS) (r l o : Int) (q : Nat) (hW : SS K w1 own1 σ r l o W) (ha : SAt K (T.kids 0) σ q) => value_of (ih 0 (by omega)) K w1 own1 σ r l o W u0 q hW (hg.env hE hW) ((hN.kid (by omega) hr0).later (hg.below _ _ _ _ _ hW)) ha he0)
  have HA0 := hid_mk (SAt.kid0 hfit hfew (by omega))
  unfold Nd.val at *
  rw [hk] at HATS HGO ⊢
  have HKD := hid_mk hk
  have hpos : 0 < T.len := by omega
  clear hty hS hE hN hk hok ih hc0 hkid he0 hr0 hl hsg
  generalize hq : s.2.length = q at *
  have hmix : Tryz.prog.follows Departure.mixedOrders = true := by kernel_rfl
  go_enter Tryz.func102, Tryz.ntmps102
  go_wp2_with (first
    | (go_at_call 36; refine (HATS.out _).mono ?_; rintro e w1 ⟨u, rfl, hats, hb1⟩; obtain ⟨own1, hs1, hback, hgo⟩ := HGO.out w1 u _ hb1 hats; obtain ⟨ga, oa, ca, rfl, hca, hav⟩ := hgo.ats (by omega); have HG := hid_mk hgo; have HAV := hid_mk hav; have HBK := hid_mk hback; obtain ⟨b0, b1, b2, b3⟩ := HG.out.box _ _ _ _ _ hs1; rw [HKD.out] at b0; have a0 := HAV.out _ _ _ _ _ hs1 0 (by omega); rw [Nat.add_zero] at a0; obtain ⟨c00, c01, c02, c03⟩ := HC0.out _ (HG.out.below _ _ _ _ _ hs1); have HS1 := hid_mk hs1; clear hs1 hback hgo hav hats hb1))
  go_outline
  go_still_tail 9, hmix
  go_wp2_with (go_at_call 90; refine (HW0.out _ _ _ _ HG.out _ _ _ _ _ _ _ HS1.out.drew HA0.out).mono ?_; rintro e w2 ⟨rfl, hs2⟩; have HS2 := hid_mk (HBK.out _ _ _ _ _ hs2); clear hs2)
  go_ret
  exact ⟨2, rfl, ty_end.1, by rw [ty_end.2]; exact HS2.out⟩

set_option maxHeartbeats 4000000 in
set_option maxRecDepth 100000 in
theorem ty_27m {T : Nd} (hk : T.kind = 27) (hsg : notB T.name = false) (ih : ∀ i, i < T.len → ExS (T.kids i)) : TyS T := by
  intro K w0 own0 s ret loops outs w v hS hE hN hfit hok
  obtain ⟨hl, he0⟩ := eo_27 hk hok
  have hty : typeM K.F T.kind T.name T.len (fun i => exT K.F (T.kids i)) (take0 s) s.2.length = CR.bind (wantC K (T.kids 0) 1 (.ok (take0 s))) fun s1 => .ok (1, s1) := by
    unfold typeM
    rw [if_neg (by omega), if_neg (by omega), if_neg (by omega), if_neg (by omega), if_neg (by omega), if_pos hk, hsg]; rfl
  rw [hty]
  have hsg' : (T.name.toList == [33]) = false := by rw [← notB_eq]; exact hsg
  have hfew := hS.ok.few
  have hlt := hS.lt
  have hcl := hS.ok.cl
  obtain ⟨g, off, cap, hv, hgl, hcap, hkid⟩ := ck_kid hN.row (by omega)
  subst hv
  obtain ⟨u0, hc0, hr0⟩ := hkid 0 (by omega)
  simp only [Nat.zero_mul, Nat.add_zero] at hc0
  have HC0 := hid_mk hc0
  have HATS := hid_mk (fun o => ats_any T (w.alloc o) _ K.lo s.2.length hN.fine (by simp; omega) (row_below (hS.box o) (Nat.le_refl _) hN.row) hN.cost (by omega))
  have HGO := hid_mk (fun (w1 : World) (u : Value) (t : TypeId) hb ha => sgo_of (w1 := w1) (T := T) (v := .slice (some ⟨g, off, none⟩) T.len cap) (p := s.2.length) (u := u) (t := t) hS hb ha)
  have HW0 := hid_mk (fun (w1 : World) (own1 : Option Nat) (b : Nat) (u : Value) (hg : SGo K w w1 own1 b T (.slice (some ⟨g, off, none⟩) T.len cap) u s.2.length) (W : World) (σ : CR CS) (r l o : Int) (q : Nat) (ty : Int) (hW : SS K w1 own1 σ r l o W) (ha : SAt K (T.kids 0) σ q) => want_of (ih 0 (by omega)) K w1 own1 σ r l o W u0 q ty hW (hg.env hE hW) ((hN.kid (by omega) hr0).later (hg.below _ _ _ _ _ hW)) ha he0)
  have HV0 := hid_mk (fun (w1 : World) (own1 : Option Nat) (b : Nat) (u : Value) (hg : SGo K w w1 own1 b T (.slice (some ⟨g, off, none⟩) T.len cap) u s.2.length) (W : World) (σ : CR CS) (r l o : Int) (q : Nat) (hW : SS K w1 own1 σ r l o W) (ha : SAt K (T.kids 0) σ q) => value_of (ih 0 (by omega)) K w1 own1 σ r l o W u0 q hW (hg.env hE hW) ((hN.kid (by omega) hr0).later (hg.below _ _ _ _ _ hW)) ha he0)
  have HA0 := hid_mk (SAt.kid0 hfit hfew (by omega))
  unfold Nd.val at *
  rw [hk] at HATS HGO ⊢
  have HKD := hid_mk hk
  have hpos : 0 < T.len := by omega
  clear hty hS hE hN hk hok ih hc0 hkid he0 hr0 hl hsg
  generalize hq : s.2.length = q at *
  have hmix : Tryz.prog.follows Departure.mixedOrders = true := by kernel_rfl
  go_enter Tryz.func102, Tryz.ntmps102
  go_wp2_with (first
    | (go_at_call 36; refine (HATS.out _).mono ?_; rintro e w1 ⟨u, rfl, hats, hb1⟩; obtain ⟨own1, hs1, hback, hgo⟩ := HGO.out w1 u _ hb1 hats; obtain ⟨ga, oa, ca, rfl, hca, hav⟩ := hgo.ats (by omega); have HG := hid_mk hgo; have HAV := hid_mk hav; have HBK := hid_mk hback; obtain ⟨b0, b1, b2, b3⟩ := HG.out.box _ _ _ _ _ hs1; rw [HKD.out] at b0; have a0 := HAV.out _ _ _ _ _ hs1 0 (by omega); rw [Nat.add_zero] at a0; obtain ⟨c00, c01, c02, c03⟩ := HC0.out _ (HG.out.below _ _ _ _ _ hs1); have HS1 := hid_mk hs1; clear hs1 hback hgo hav hats hb1))
  go_outline
  go_still_tail 9, hmix
  go_wp2_with (go_at_call 90; refine (HW0.out _ _ _ _ HG.out _ _ _ _ _ _ _ HS1.out.drew HA0.out).mono ?_; rintro e w2 ⟨rfl, hs2⟩; have HS2 := hid_mk (HBK.out _ _ _ _ _ hs2); clear hs2)
  go_ret
  exact ⟨1, rfl, ty_end.1, by rw [ty_end.2]; exact HS2.out⟩

end Go.Proofs.YtbjianmjdadehaaGreatDoor
namespace Go.Proofs.YtbjianmjdadehaaGreatDoor
open Go.RowKit

set_option maxHeartbeats 4000000 in
set_option maxRecDepth 100000 in
theorem ty_26a {T : Nd} (hk : T.kind = 26) (hl : T.len = 0) : TyS T := by
  intro K w0 own0 s ret loops outs w v hS hE hN hfit hok
  have hty : typeM K.F T.kind T.name T.len (fun i => exT K.F (T.kids i)) (take0 s) s.2.length = .ok (3, take0 s) := by
    unfold typeM
    rw [if_neg (by omega), if_neg (by omega), if_neg (by omega), if_neg (by omega), if_pos hk, hl]; rfl
  rw [hty]
  have hfew := hS.ok.few
  have hlt := hS.lt
  have HATS := hid_mk (fun o => ats_any T (w.alloc o) v K.lo s.2.length hN.fine (by have := hS.ok.cl; simp; omega) (row_below (hS.box o) (Nat.le_refl _) hN.row) hN.cost (by omega))
  have HS := hid_mk (fun o => hS.alloc o)
  unfold Nd.val at *
  rw [hk] at HATS ⊢
  obtain ⟨a, cap, rfl, _⟩ := row_eq.1 hN.row
  rw [hl] at *
  clear hty hS hE hN hk hl
  generalize hq : s.2.length = q at *
  go_enter Tryz.func102, Tryz.ntmps102
  go_wp2_with (go_at_call 36; refine (HATS.out _).mono ?_; rintro e w1 ⟨u, rfl, hats, hb1⟩; have HS1 := hid_mk ((HS.out _).calm hb1); have k0 : w1.cell? ⟨w.heap.size, 0, none⟩ = some (.int .i64 26) := (hb1.cell (p := ⟨w.heap.size, 0, none⟩) (by simp)).trans (by simp); have k2 : w1.cell? ⟨w.heap.size, 2, none⟩ = some (.string T.name) := (hb1.cell (p := ⟨w.heap.size, 2, none⟩) (by simp)).trans (by simp); have k3 : w1.cell? ⟨w.heap.size, 3, none⟩ = some (.slice a 0 cap) := (hb1.cell (p := ⟨w.heap.size, 3, none⟩) (by simp)).trans (by simp); clear hb1 hats)
  go_ret
  exact ⟨3, rfl, fun r h => (by injection h with h; subst h; rfl), HS1.out⟩

set_option maxHeartbeats 4000000 in
set_option maxRecDepth 100000 in
theorem ty_26b {T : Nd} (hk : T.kind = 26) (hl : T.len = 1) (ih : ∀ i, i < T.len → ExS (T.kids i)) : TyS T := by
  intro K w0 own0 s ret loops outs w v hS hE hN hfit hok
  have he0 := (eo_26 hk hok).2 0 (by omega)
  have hty : typeM K.F T.kind T.name T.len (fun i => exT K.F (T.kids i)) (take0 s) s.2.length = CR.bind (wantC K (T.kids 0) 1 (.ok (take0 s))) fun s1 => .ok (3, s1) := by
    unfold typeM
    rw [if_neg (by omega), if_neg (by omega), if_neg (by omega), if_neg (by omega), if_pos hk, hl]; rfl
  rw [hty]
  have hfew := hS.ok.few
  have hlt := hS.lt
  have hcl := hS.ok.cl
  obtain ⟨g, off, cap, hv, hgl, hcap, hkid⟩ := ck_kid hN.row (by omega)
  subst hv
  obtain ⟨u0, hc0, hr0⟩ := hkid 0 (by omega)
  simp only [Nat.zero_mul, Nat.add_zero] at hc0
  have HC0 := hid_mk hc0
  have HATS := hid_mk (fun o => ats_any T (w.alloc o) _ K.lo s.2.length hN.fine (by simp; omega) (row_below (hS.box o) (Nat.le_refl _) hN.row) hN.cost (by omega))
  have HGO := hid_mk (fun (w1 : World) (u : Value) (t : TypeId) hb ha => sgo_of (w1 := w1) (T := T) (v := .slice (some ⟨g, off, none⟩) T.len cap) (p := s.2.length) (u := u) (t := t) hS hb ha)
  have HW0 := hid_mk (fun (w1 : World) (own1 : Option Nat) (b : Nat) (u : Value) (hg : SGo K w w1 own1 b T (.slice (some ⟨g, off, none⟩) T.len cap) u s.2.length) (W : World) (σ : CR CS) (r l o : Int) (q : Nat) (ty : Int) (hW : SS K w1 own1 σ r l o W) (ha : SAt K (T.kids 0) σ q) => want_of (ih 0 (by omega)) K w1 own1 σ r l o W u0 q ty hW (hg.env hE hW) ((hN.kid (by omega) hr0).later (hg.below _ _ _ _ _ hW)) ha he0)
  have HV0 := hid_mk (fun (w1 : World) (own1 : Option Nat) (b : Nat) (u : Value) (hg : SGo K w w1 own1 b T (.slice (some ⟨g, off, none⟩) T.len cap) u s.2.length) (W : World) (σ : CR CS) (r l o : Int) (q : Nat) (hW : SS K w1 own1 σ r l o W) (ha : SAt K (T.kids 0) σ q) => value_of (ih 0 (by omega)) K w1 own1 σ r l o W u0 q hW (hg.env hE hW) ((hN.kid (by omega) hr0).later (hg.below _ _ _ _ _ hW)) ha he0)
  have HA0 := hid_mk (SAt.kid0 hfit hfew (by omega))
  unfold Nd.val at *
  rw [hk] at HATS HGO ⊢
  have HKD := hid_mk hk
  have hpos : 0 < T.len := by omega
  clear hty hS hE hN hk hok ih hc0 hkid he0 hr0 hl
  generalize hq : s.2.length = q at *
  have hmix : Tryz.prog.follows Departure.mixedOrders = true := by kernel_rfl
  go_enter Tryz.func102, Tryz.ntmps102
  go_wp2_with (first
    | (go_at_call 36; refine (HATS.out _).mono ?_; rintro e w1 ⟨u, rfl, hats, hb1⟩; obtain ⟨own1, hs1, hback, hgo⟩ := HGO.out w1 u _ hb1 hats; obtain ⟨ga, oa, ca, rfl, hca, hav⟩ := hgo.ats (by omega); have HG := hid_mk hgo; have HAV := hid_mk hav; have HBK := hid_mk hback; obtain ⟨b0, b1, b2, b3⟩ := HG.out.box _ _ _ _ _ hs1; rw [HKD.out] at b0; have a0 := HAV.out _ _ _ _ _ hs1 0 (by omega); rw [Nat.add_zero] at a0; obtain ⟨c00, c01, c02, c03⟩ := HC0.out _ (HG.out.below _ _ _ _ _ hs1); have HS1 := hid_mk hs1; clear hs1 hback hgo hav hats hb1))
  go_outline
  go_still_tail 8, hmix
  go_wp2_with (go_at_call 90; refine (HW0.out _ _ _ _ HG.out _ _ _ _ _ _ _ HS1.out.drew HA0.out).mono ?_; rintro e w2 ⟨rfl, hs2⟩; have HS2 := hid_mk (HBK.out _ _ _ _ _ hs2); clear hs2)
  go_ret
  exact ⟨3, rfl, ty_end.1, by rw [ty_end.2]; exact HS2.out⟩

end Go.Proofs.YtbjianmjdadehaaGreatDoor
