import Derived.Test.YteaocammohcgoaaGreatDoorVKdN
import Derived.Deep.RegionHeld3
set_option linter.unusedVariables false
set_option maxHeartbeats 16000000
set_option maxRecDepth 100000
namespace Go.Proofs.YteaocammohcgoaaGreatDoor
open Go.RowKit
variable {G : Prop}
theorem bM0 (h : G := by
 go_wp2
 have HKEP := aa HSE.out.kept
 clear x0 x1 x2 x3 fC
 go_loopw [6] (fun i wr => ∃ n : Nat, n ≤ F.len ∧ i = .int .i64 n ∧ ∃ wz H6 E r, SS K wz H6 (CR.bind (xW F n) fun X => .ok (E, X)) r 0 0 wr ∧ Kept (K.S none) w2 wr) (fun i _ => F.len - (intOf i).toNat)
 case atStart => exact ⟨0, Nat.zero_le _, rfl, _, _, [], 0, by rw [Uj]; exact HSE.out, HKEP.out⟩
 case round =>
  obtain ⟨n2, rT, rfl, wz, H6, E, r, cy, di⟩ := hrel
  have fC := B5.out _ di
  obtain ⟨x0, x1, x2, x3⟩ := HQ.out _ fC
  have B4 := aa (eB.out.trans (fC.mono (by omega)))
  by_cases Bk : n2 < F.len
  ·have hni2 : (n2 : Int) < (F.len : Int) := by omega
   cases hq : xW F n2 with
   |error e0 =>
    rw [hq] at cy
    obtain ⟨code2, Mq, hz''⟩ := cy.code1
    have Yj : Hid (dC F = .error e0) := zw hq rT
    have iu := aa cy
    clear cy hq
    go_wp2
    go_ret
    exact ⟨K, wz, H6, E, r, rfl, kF, kN, by omega, by rw [Yj.out]; exact iu.out, B4.out⟩
   |ok X =>
    rw [hq] at cy
    have Mq := cy.code0
    obtain ⟨g2, off2, cap2, hv2, hgl2, hcap2, K9⟩ := HKC.out (by omega)
    injection hv2 with vw Lq vu
    subst vw
    subst vu
    obtain ⟨ga2, oa2, ca2, Iq, hca2', TW⟩ := LI.out (by omega)
    injection Iq with eu1 eu2 eu3
    subst eu1
    subst eu3
    obtain ⟨ud, kK, jJ⟩ := K9 n2 Bk
    obtain ⟨c0, c1, c2, c3⟩ := kK _ fC
    have an := TW _ di n2 Bk
    obtain ⟨ownr, hsr, _, _, _⟩ := cy.drew.restart
    have hXl := tA hF rT X hq
    have PH := aa (NQ (K := K) (kV hF Bk) ownr E X r _ ud hsr ⟨by rw [kF]; exact hf, by rw [kF, kfv]; exact ah fC.drew lr Gn.out, by rw [kF]; exact hF⟩ ⟨Nd.fine_kid hf Bk, ah fC.drew lr jJ, Nat.le_trans (F.cost_kid Bk) fr⟩ (by rw [hXl, kN]; have := bV F 0 Bk; omega))
    unfold Nd.val at PH
    rw [hXl, kF] at PH
    have kG := aa (nw F n2)
    rw [hq] at kG
    have HKK := aa di
    clear cy hq di hsr kK jJ K9 TW fC
    go_wp2
    go_still_tail 10, bH
    go_wp2_with (go_at_call 47; refine PH.out.mono ?_; rintro e w5 ⟨rfl, w6, own6, E6, tR, oU, hk6⟩; have oO := aa tR; have HK6 := aa hk6; clear tR oU hk6)
    refine ⟨⟨n2 + 1, by omega, by go_num, w6, own6, E6, (F.kids n2).num, ?_, ?_⟩, by simp [intOf]; omega⟩
    ·rw [kG.out]
     exact oO.out
    ·exact HKK.out.drew.trans HK6.out (fun _ _ h => h)
  ·obtain rfl : n2 = F.len := by omega
   have iu := aa cy
   clear cy
   go_wp2
   go_ret
   exact ⟨K, wz, H6, E, r, rfl, kF, kN, by omega, iu.out, B4.out⟩) : G := h
theorem bM1 (h : G := by
 rw [hb] at Gt
 have HB := aa hb
 clear hb
 have k_M2_1 := kk
 exact bM2) : G := h
theorem bM2 (h : G := by
 go_wp2
 go_region_held3 (fun W => W.cell? ⟨w.heap.size, 3, none⟩ = some (.slice (some ⟨g, off, none⟩) T.len cap) ∧ W.cell? ⟨g, off + n * 4, none⟩ = some (.int .i64 B.kind) ∧ W.cell? ⟨g, off + n * 4 + 1, none⟩ = some (.int .i64 B.num) ∧ W.cell? ⟨g, off + n * 4 + 2, none⟩ = some (.string B.name) ∧ W.cell? ⟨g, off + n * 4 + 3, none⟩ = some (.slice aB B.len cB) ∧ W.cell? ⟨ga, oa + n, none⟩ = some (.int .i64 (pb : Nat))) (go_keep) (first
  |(go_at_call 44; refine Yu.out.mono ?_; rintro e w3 ⟨u3, rfl, p8, cZ⟩; obtain ⟨eQ, bY, mN, xP, xN⟩ := HSA.out w3 u3 cZ p8; obtain ⟨us, qW⟩ := Gl.out w3 eQ u3 p8 xP xN; have IN := mN _ _ _ _ _ bY; obtain ⟨d0, d1, d2, d3⟩ := HG.out.box _ _ _ _ _ IN; obtain ⟨c0, c1, c2, c3⟩ := Ke.out _ (HG.out.below _ _ _ _ _ IN); have an := gO.out _ _ _ _ _ IN n Cf; rw [Cr.out] at an; have Pm := aa qW; have PQ := aa mN; have e7 := aa bY; clear bY mN xP xN qW p8 cZ IN)
  |(go_at_call 72; refine (zO.out w3 eQ u3 us Pm.out _ e7.out).mono ?_; rw [Pl.out]; rintro e w5 ⟨rfl, jh⟩; have xI := PQ.out _ _ _ _ _ jh; obtain ⟨d0, d1, d2, d3⟩ := HG.out.box _ _ _ _ _ xI; obtain ⟨c0, c1, c2, c3⟩ := Ke.out _ (HG.out.below _ _ _ _ _ xI); have an := gO.out _ _ _ _ _ xI n Cf; rw [Cr.out] at an; have Mq := xI.code0; have mY := aa xI; have yE := aa (HG.out.below _ _ _ _ _ xI); clear jh xI))
 first
 |clear k_M2_0
  go_wp2
  go_end0
  exact ⟨rfl, _, none, s2.1, by rw [QF.out _ Pl.out, if_neg (fun h => h.1 H0.out)]; exact mY.out, yE.out, J7.out _ _ _ _ _ mY.out⟩
 |clear k_M2_1
  first
  |clear k_M1_0
   go_wp2_with (go_at_call 73; refine (Gt.out _ yE.out).mono ?_; rintro e w6 ⟨rfl, oU⟩; have oO := aa (mY.out.calm oU); have HBL6 := aa (yE.out.trans (oU.mono (Nat.le_trans (by have := yE.out.size; omega) lr))); clear oU)
   go_end0
   exact ⟨rfl, _, none, s2.1, by rw [QF.out _ Pl.out, if_neg (fun h => by rw [HB.out] at h; cases h.2)]; exact oO.out, HBL6.out, J7.out _ _ _ _ _ oO.out⟩
  |clear k_M1_1
   go_wp2_with (first
    |(go_at_call 73; refine (Gt.out _ yE.out).mono ?_; rintro e w6 ⟨rfl, oU⟩; have oO := aa (mY.out.calm oU); clear oU)
    |(go_at_call 46; refine (dO oO.out 9 (by decide) p).mono ?_; rintro e w7 ⟨rfl, hs7⟩; have HBL7 := aa (HG.out.below _ _ _ _ _ hs7); have gT := aa hs7; clear hs7))
   go_end0
   exact ⟨rfl, _, none, s2.1, by rw [QF.out _ Pl.out, if_pos ⟨H0.out, HB.out⟩]; exact gT.out, HBL7.out, J7.out _ _ _ _ _ gT.out⟩) : G := h
theorem E7 {T : Nd} (h : dd T = true) : T.kind = 2 ∧ 1 ≤ T.len ∧ (∀ i, i < T.len - 1 → (T.kids i).len = 0 ∧ aR (T.kids i).name = true ∧ 1 ≤ (T.kids i).num) ∧ (T.kids (T.len - 1)).kind = 4 ∧ (T.kids (T.len - 1)).sOk = true ∧ 0 ≤ T.num := by
 unfold dd at h
 simp only [Bool.and_eq_true, decide_eq_true_eq] at h
 obtain ⟨⟨⟨⟨h1, h2⟩, h3⟩, h4⟩, h5, h6, h7⟩ := h
 refine ⟨h1, h4, fun i hi => ?_, h6, h7, h3.1⟩
 have := dy.1 h5 i hi
 unfold fK at this
 simp only [Bool.and_eq_true, decide_eq_true_eq] at this
 exact ⟨this.2, this.1.1.2, this.1.2.1⟩
def kb (T : Nd) (X : List Int) (n : Nat) : CR CS := forN (mH T) n ([[]], X ++ [0])
theorem lT (T : Nd) (X : List Int) (n : Nat) : kb T X (n + 1) = CR.bind (kb T X n) (mH T n) := rfl
theorem sQ {T : Nd} {X : List Int} {m : Nat} (hp : ∀ i, i < m → (T.kids i).len = 0) : ∀ {n : Nat}, n ≤ m → ∀ s, kb T X n = .ok s → s.2.length = aW T X.length n ∧ s.1 ≠ [] ∧ aN s.1 ≤ n ∧ n ≤ s.2.length := by
 intro n
 induction n with
 |zero =>
  intro _ s e
  injection e with e; subst e
  exact ⟨by simp [aW, ar], by simp, by simp [aN], Nat.zero_le _⟩
 |succ n ih =>
  intro hn s e
  rw [lT] at e
  obtain ⟨s0, h1, h2⟩ := bt e
  obtain ⟨q1, q2, q3, q4⟩ := ih (by omega) s0 h1
  unfold mH at h2
  split at h2
  ·cases h2
  ·injection h2 with h2; subst h2
   have hz : (T.kids n).size = 1 := by rw [(T.kids n).size_eq, hp n (by omega)]; rfl
   obtain ⟨p1, p2, p3⟩ := lS q2 (T.kids n).name (T.kids n).num
   refine ⟨by rw [eS, hz]; simp [q1], ?_, ?_, ?_⟩
   ·intro h0; apply q2; have qd : fZ s0.1 (T.kids n).name (T.kids n).num = [] := h0; rw [qd] at p2; exact List.length_eq_zero_iff.1 p2.symm
   ·show aN (fZ s0.1 (T.kids n).name (T.kids n).num) ≤ _; omega
   ·simp; omega
def xT (F T : Nd) (X : List Int) (E : Sc) : CR CS := CR.bind (jc F T X) fun X' => .ok (E, X')
theorem NT {F T : Nd} {X : List Int} {e : Int × Nat} (h : kb T X (T.len - 1) = .error e) : xT F T X [] = .error e := by
 unfold xT jc; unfold kb at h; rw [h]; rfl
theorem NS {F T : Nd} {X : List Int} {s1 : CS} {e : Int × Nat} (h : kb T X (T.len - 1) = .ok s1) (h2 : gL F (T.kids (T.len - 1)) ⟨T.num, 0, 0⟩ 0 (T.kids (T.len - 1)).len (.ok (ae s1)) = .error e) (hk : (T.kids (T.len - 1)).kind = 4) : xT F T X [] = .error e := by
 unfold xT jc; unfold kb at h; rw [h, CR.bind_ok, jr F (by omega)]
 unfold gL at h2
 simp only [CR.bind_ok, Nat.zero_add] at h2
 unfold oA
 rw [h2]; rfl
theorem NR {F T : Nd} {X : List Int} {s1 s2 : CS} (h : kb T X (T.len - 1) = .ok s1) (h2 : gL F (T.kids (T.len - 1)) ⟨T.num, 0, 0⟩ 0 (T.kids (T.len - 1)).len (.ok (ae s1)) = .ok s2) (hk : (T.kids (T.len - 1)).kind = 4) : xT F T X s2.1 = if T.num ≠ 0 ∧ fA (T.kids (T.len - 1)) = false then .error (9, X.length) else .ok s2 := by
 unfold xT jc; unfold kb at h; rw [h, CR.bind_ok, jr F (by omega)]
 unfold gL at h2
 simp only [CR.bind_ok, Nat.zero_add] at h2
 unfold oA
 rw [h2, CR.bind_ok]
 split <;> rfl
theorem xU {K : SK} {w w1 : World} {o : Obj} {r : Int} (hb : Below (w.alloc o).heap.size (w.alloc o) w1) : ∀ W σ r' l o', SS K (dV K w1 r) none σ r' l o' W → Kept (K.S none) w W := by
 intro W σ r' l o' h
 have h1 : Kept (K.S none) w w1 := bG (((Below.refl _ _).alloc lr o).trans (hb.mono (by simp))) _
 have h2 : Kept (K.S none) w1 (dV K w1 r) := ⟨by simp [dV, World.setCell], by simp [dV, World.setCell], by simp [dV, World.setCell], by rw [jx]; exact Nat.le_refl _, fun k _ hn => jy K w1 r k (fun e => hn (.inl e))⟩
 exact (h1.trans h2 (fun _ _ h => h)).trans h.kept (fun _ _ h => h)
def FuS (K : SK) (T : Nd) : Prop := ∀ (own : Option Nat) (E : Sc) (X : List Int) (ret : Int) (w : World) (v : Value), SS K w own (.ok (E, X)) ret 0 0 w → SEnv K w → SNd K w T v → X.length + T.size ≤ K.N →
 Calls Tryz.prog 47 #[.pointer (some ⟨K.cb, 0, none⟩), T.val v, .int .i64 X.length] w fun e w' => e = .returned (.tuple #[]) ∧ ∃ w2 qS E', SS K w2 qS (xT K.F T X E') T.num 0 0 w' ∧ Below K.lo w w' ∧ Kept (K.S none) w w'
theorem NQ {K : SK} {T : Nd} (hF : dd T = true) : FuS K T := by
 intro own E X ret w v hS hE hN ay
 obtain ⟨hk, hl, uW, qZ, jG, Nn⟩ := E7 hF
 have dK := hS.ok.few
 have bN := hS.lt
 have zr := hS.ok.cl
 have hn := T.fine_len hN.fine
 obtain ⟨m, hm⟩ : ∃ m, T.len = m + 1 := ⟨T.len - 1, by omega⟩
 have Gd : T.len - 1 = m := by omega
 obtain ⟨g, off, cap, hv, iM, cr, aV⟩ := dq hN.row (by omega)
 subst hv
 rw [Gd] at qZ jG
 have Tz : X.length + 1 ≤ K.N := by have := T.size_eq; omega
 have cM := aa (fun o => ib T (w.alloc o) _ K.lo X.length hN.fine (by simp; omega) (ah (hS.box o) lr hN.row) hN.cost (by omega))
 have iw := aa (fun (w1 : World) (u : Value) (t : TypeId) hb ha => AN (w1 := w1) (T := T) (v := .slice (some ⟨g, off, none⟩) T.len cap) (p := X.length) (u := u) (t := t) hS T.num hb ha)
 have Pu := aa (fun n (hn : n ≤ m) => sQ (X := X) (m := m) (fun i hi => (uW i (by omega)).1) hn)
 have IF := bV T X.length (i := m) (by omega)
 have kM := aa aV
 have Ct := aa hE
 have LG := aa hN
 have HM := aa hm
 have FP := aa (fun o w1 (hb : Below (w.alloc o).heap.size (w.alloc o) w1) => (hS.alloc o).calm hb)
 have bH := jK
 unfold Nd.val at *
 have PC := aa (fun i (h : i < T.len) => bV T X.length h)
 have Bx : (T.len : Int) - 1 = m := by omega
 have Cf : m < T.len := by omega
 have hmI : (m : Int) < (T.len : Int) := by omega
 have HK := aa hk
 have iJ := aa Gd
 have FX := aa qZ
 have pr := aa jG
 clear hS hE hN hk uW aV hF hm Gd qZ jG
 generalize hp : X.length = p at *
 go_enter Tryz.func47, Tryz.ntmps47
 go_wp2_with (go_at_call 44; go_loud (refine (cM.out _).mono ?_; rintro e w1 ⟨u, rfl, bz, hb1⟩; obtain ⟨aD, dG⟩ := iw.out w1 u _ hb1 bz; have hq := FP.out _ w1 hb1; have f7 := hq.free 7; have f8 := hq.free 8; have f9 := hq.free 9; have b1 : w1.cell? ⟨w.heap.size, 1, none⟩ = some (.int .i64 T.num) := (hb1.cell (p := ⟨w.heap.size, 1, none⟩) (by simp)).trans (by simp); have b3 : w1.cell? ⟨w.heap.size, 3, none⟩ = some (.slice (some ⟨g, off, none⟩) T.len cap) := (hb1.cell (p := ⟨w.heap.size, 3, none⟩) (by simp)).trans (by simp); have vZ := hq.lt; obtain ⟨vv0, code0, place0, deep0, zs0, vs0, dI, _⟩ := hq.is; obtain ⟨k0, k1, k2, k3, k4, k5, k6, k7, k8, k9, qK, pR⟩ := dI.cells; obtain ⟨ga, oa, ca, rfl, nL, fc⟩ := dG.ats (by omega); have J7 := aa (xU (K := K) (r := T.num) hb1); have HG := aa dG; have gO := aa fc; have bh := aa (aD.take (by show X.length + 1 ≤ K.N; rw [hp]; exact Tz)); clear aD dG hq bz hb1 dI fc))
 go_loopw [8] (fun i wr => ∃ n : Nat, n ≤ m ∧ i = .int .i64 n ∧ SS K (dV K w1 T.num) none (kb T X n) T.num 0 0 wr) (fun i _ => m - (intOf i).toNat)
 case atStart => exact ⟨0, Nat.zero_le _, rfl, bh.out⟩
 case round =>
  obtain ⟨n, EE, rfl, cy⟩ := hrel
  have gE := HG.out.below _ _ _ _ _ cy
  obtain ⟨d0, d1, d2, d3⟩ := HG.out.box _ _ _ _ _ cy
  cases hq : kb T X n with
  |error e0 =>
   rw [hq] at cy
   obtain ⟨code, k5', hz⟩ := cy.code1
   have iu := aa cy
   have HBKK := aa gE
   have HQ : Hid (kb T X (T.len - 1) = .error e0) := by unfold Hid; rw [iJ.out]; exact im hq EE
   clear cy hq gE
   by_cases bN : n < m
   all_goals go_wp2
   all_goals go_end0
   all_goals exact ⟨rfl, _, none, [], by rw [NT HQ.out]; exact iu.out, HBKK.out, J7.out _ _ _ _ _ iu.out⟩
  |ok st =>
   obtain ⟨zb, Ex, za, hp4⟩ := Pu.out n EE st hq
   rw [hq] at cy
   have k5' := cy.code0
   by_cases bN : n < m
   ·have Nm : n < T.len := by omega
    have hnI : (n : Int) < (T.len : Int) := by omega
    have Cg := PC.out n Nm
    obtain ⟨un, kK, jJ⟩ := kM.out n Nm
    obtain ⟨c0, c1, c2, c3⟩ := kK _ gE
    have an := gO.out _ _ _ _ _ cy n Nm
    have Is : 0 < (T.kids n).size := by rw [(T.kids n).size_eq]; omega
    have aM := (cy.take (by omega)).drew
    have vU := aa (lA aM (T.kids n).name (T.kids n).num (aW T p n) Ex (by rw [aP]; show aN st.1 + 1 ≤ _; omega))
    have HPD : Hid (ir (ae st) (T.kids n).name (T.kids n).num (aW T p n) = mH T n st) := by unfold Hid; rw [← zb]; rfl
    have HQ := aa hq
    rw [HPD.out] at vU
    clear cy aM hq gE kK jJ
    go_wp2
    go_still_tail 17, bH
    go_wp2_with (go_at_call 71; refine vU.out.mono ?_; rintro e w5 ⟨rfl, jh⟩; have mY := aa jh; clear jh)
    refine ⟨⟨n + 1, by omega, by go_num, ?_⟩, by simp [intOf]; omega⟩
    rw [lT, HQ.out]
    exact mY.out
   ·obtain rfl : n = m := by omega
    have Cg := PC.out n Cf
    obtain ⟨uB, hcB, SH⟩ := kM.out n Cf
    obtain ⟨aB, cB, huB, hcpB, hqB⟩ := aH.1 SH
    subst huB
    have HQB := aa hqB
    obtain ⟨c0, c1, c2, c3⟩ := hcB _ gE
    have an := gO.out _ _ _ _ _ cy n Cf
    have Ud := LG.out.kid Cf SH
    have Is : 0 < (T.kids n).size := by rw [(T.kids n).size_eq]; omega
    have aM := (cy.take (by omega)).drew
    have Uc := Ud.later gE.drew
    have hEd := Ct.out.later gE.drew
    have Bd := cy.lt
    have Yu := aa (ib (T.kids n) wr.drew _ K.lo (aW T p n) Ud.fine (by show K.lo ≤ wr.heap.size; omega) (ah gE.drew lr SH) Ud.cost (by omega))
    have HSA := aa (fun (w3 : World) (u3 : Value) cZ ha3 => Me (w1 := w3) (T := T.kids n) (u := u3) (p := aW T p n) aM cZ ha3)
    have Gl := aa (fun (w3 : World) (eQ : Option Nat) (u3 : Value) (ha3 : Kw w3 wr.drew.heap.size u3 (T.kids n).len (fun i => (aW (T.kids n) (aW T p n) i : Nat))) xP xN => AL (w1 := w3) (own1 := eQ) hEd Uc ha3 xP xN)
    have zO := aa (fun (w3 : World) (eQ : Option Nat) (u3 : Value) us (hL : my K w3 eQ (T.kids n) (aW T p n) 0 (T.kids n).len (.slice aB (T.kids n).len cB) u3 us) (W : World) (hW : SS K w3 eQ (.ok (ae st)) T.num 0 0 W) => om hL (fun i hi => Dh _) _ ⟨T.num, 0, 0⟩ W hW (by omega) (fun i hi => by rw [Nat.zero_add]; exact AK FX.out pr.out i hi) (fun s' e => by injection e with e; subst e; exact ⟨by rw [aP, zb]; rfl, Ex⟩) (by omega) (fun i hi => by have := aL (T.kids n) hi; simp only [Nat.zero_add]; omega) (fun i hi => by have := aL (T.kids n) hi; simp only [Nat.zero_add]; omega))
    have Gt := aa (fun W (hb : Below K.lo w W) => N0 (T.kids n) W _ K.lo Ud.fine (Nat.le_trans (by omega) hb.size) (ah hb lr SH))
    have HQ : Hid (kb T X (T.len - 1) = .ok st) := by unfold Hid; rw [iJ.out]; exact hq
    have Yl := aa (fun e h => NS (F := K.F) (e := e) HQ.out h (by rw [iJ.out]; exact FX.out))
    have QF := aa (fun s2 h => NR (F := K.F) (s2 := s2) HQ.out h (by rw [iJ.out]; exact FX.out))
    have Ke := aa hcB
    have fy : K.lo ≤ wr.heap.size := by omega
    rw [iJ.out, hp] at QF
    rw [iJ.out] at Yl
    unfold Nd.val at *
    clear cy aM hq gE hcB SH Ud Uc hEd hqB
    generalize hpb : aW T p n = pb at *
    have Cr := aa hpb
    clear hpb
    generalize T.kids n = B at *
    cases hτ : gL K.F B ⟨T.num, 0, 0⟩ 0 B.len (.ok (ae st)) with
    |error e0 =>
     have Pl := aa hτ
     clear hτ
     go_wp2
     go_region_held3 (fun W => W.cell? ⟨w.heap.size, 3, none⟩ = some (.slice (some ⟨g, off, none⟩) T.len cap) ∧ W.cell? ⟨g, off + n * 4, none⟩ = some (.int .i64 B.kind) ∧ W.cell? ⟨g, off + n * 4 + 1, none⟩ = some (.int .i64 B.num) ∧ W.cell? ⟨g, off + n * 4 + 2, none⟩ = some (.string B.name) ∧ W.cell? ⟨g, off + n * 4 + 3, none⟩ = some (.slice aB B.len cB) ∧ W.cell? ⟨ga, oa + n, none⟩ = some (.int .i64 (pb : Nat))) (go_keep) (first
      |(go_at_call 44; refine Yu.out.mono ?_; rintro e w3 ⟨u3, rfl, p8, cZ⟩; obtain ⟨eQ, bY, mN, xP, xN⟩ := HSA.out w3 u3 cZ p8; obtain ⟨us, qW⟩ := Gl.out w3 eQ u3 p8 xP xN; have IN := mN _ _ _ _ _ bY; obtain ⟨d0, d1, d2, d3⟩ := HG.out.box _ _ _ _ _ IN; obtain ⟨c0, c1, c2, c3⟩ := Ke.out _ (HG.out.below _ _ _ _ _ IN); have an := gO.out _ _ _ _ _ IN n Cf; rw [Cr.out] at an; have Pm := aa qW; have PQ := aa mN; have e7 := aa bY; clear bY mN xP xN qW p8 cZ IN)
      |(go_at_call 72; refine (zO.out w3 eQ u3 us Pm.out _ e7.out).mono ?_; rw [Pl.out]; rintro e w5 ⟨rfl, jh⟩; have xI := PQ.out _ _ _ _ _ jh; obtain ⟨d0, d1, d2, d3⟩ := HG.out.box _ _ _ _ _ xI; obtain ⟨c0, c1, c2, c3⟩ := Ke.out _ (HG.out.below _ _ _ _ _ xI); have an := gO.out _ _ _ _ _ xI n Cf; rw [Cr.out] at an; obtain ⟨code, Mq, hz⟩ := xI.code1; have mY := aa xI; have yE := aa (HG.out.below _ _ _ _ _ xI); clear jh xI))
     go_wp2
     go_end0
     exact ⟨rfl, _, none, [], by rw [Yl.out _ Pl.out]; exact mY.out, yE.out, J7.out _ _ _ _ _ mY.out⟩
    |ok s2 =>
     have Pl := aa hτ
     clear hτ
     by_cases h0 : T.num = 0
     ·have qd : (T.num == 0) = true := beq_iff_eq.2 h0
      have Ui : (T.num != 0) = false := by simp only [bne, qd]; rfl
      have H0 := aa h0
      clear h0
      have k_M2_0 := kk
      exact bM2
     ·have qd : (T.num == 0) = false := bn h0
      have Ui : (T.num != 0) = true := by simp only [bne, qd]; rfl
      have H0 := aa h0
      have SY : ∀ (x : Bool) (w : World), (Op.unary .not (.bool x)).run Tryz.prog w = .ok (.bool (!x)) w := fun _ _ => rfl
      clear h0
      cases hb : fA B with
      |true =>
       have k_M1_0 := kk
       exact bM1
      |false =>
       have k_M1_1 := kk
       exact bM1
theorem AY (n : Nat) : madeCells #[Value.int .i64 0] n = (List.replicate n (Value.int .i64 0)).toArray := by
 apply Array.ext_getElem?
 intro i
 simp [madeCells]
 by_cases h : i < n
 ·simp [h, Nat.mod_one]
 ·simp [h]
theorem uE (n : Nat) (hn : n ≤ 1048576) (w : World) : (Instr.makeSlice 29 (.int .i64 (n : Int)) (.int .i64 (n : Int))).run Tryz.prog w = .ok (.slice (some ⟨w.heap.size, 0, none⟩) n n) (w.alloc (.cells (List.replicate n (Value.int .i64 0)).toArray 3)) := by
 obtain ⟨i0, lq, oQ, eT, ed⟩ := info_parts Ee
 have := run_make (P := Tryz.prog) w 29 3 i0 (.int .i64 0) Tryz.underlying29 lq oQ .i64 .i64 n n (by omega) (Int.le_refl _) (by rw [ed]; omega) (by omega)
 rw [this, eT]
 simp only [Int.toNat_natCast, Nat.mul_one]
 rw [show (Value.int .i64 0).cells = #[Value.int .i64 0] from rfl, AY]
theorem Kept.drew {S : Nat → Prop} {w w' : World} (h : Kept S w w') : Kept S w w'.drew := ⟨h.os, h.tape, h.output, h.size, h.block⟩
theorem E5 {F T : Nd} (hF : dd T = true) {X X' : List Int} (h : jc F T X = .ok X') : X'.length = X.length + T.size := by
 obtain ⟨hk, hl, uW, qZ, jG, Nn⟩ := E7 hF
 unfold jc at h
 obtain ⟨s1, h1, h2⟩ := bt h
 obtain ⟨s2, h3, h4⟩ := bt h2
 obtain ⟨p1, p2, _, _⟩ := sQ (X := X) (m := T.len - 1) (fun i hi => (uW i hi).1) lr s1 h1
 obtain ⟨_, _, q3, _⟩ := (iz F (T.kids (T.len - 1))).sts jG qZ _ s1 s2 p2 h3
 split at h4
 ·cases h4
 ·injection h4 with h4; subst h4
  rw [q3, p1, ← eS, show T.len - 1 + 1 = T.len by omega, lV]
def xW (F : Nd) (n : Nat) : CR (List Int) := CR.bind (forN (dz F) F.len ()) fun _ => forN (fun i => jc F (F.kids i)) n [0]
theorem nw (F : Nd) (n : Nat) : xW F (n + 1) = CR.bind (xW F n) (jc F (F.kids n)) := by
 unfold xW
 cases forN (dz F) F.len () <;> rfl
theorem zw {F : Nd} {j : Nat} {e : Int × Nat} (h : xW F j = .error e) : ∀ {n : Nat}, j ≤ n → xW F n = .error e := by
 intro n hn
 induction hn with
 |refl => exact h
 |step _ ih => rw [nw, ih]; rfl
theorem tA {F : Nd} (hF : dv F = true) : ∀ {n : Nat}, n ≤ F.len → ∀ X, xW F n = .ok X → X.length = aW F 0 n := by
 intro n
 induction n with
 |zero =>
  intro _ X e
  unfold xW at e
  obtain ⟨_, _, h2⟩ := bt e
  injection h2 with h2; subst h2; rfl
 |succ n ih =>
  intro hn X e
  rw [nw] at e
  obtain ⟨Y, h1, h2⟩ := bt e
  rw [E5 (kV hF (by omega)) h2, ih (by omega) Y h1, eS]
theorem Uj {F : Nd} : (CR.bind (xW F 0) fun X => .ok (([] : Sc), X)) = CR.bind (forN (dz F) F.len ()) fun _ => .ok ([], [0]) := by
 unfold xW
 cases forN (dz F) F.len () <;> rfl
theorem JU (F : Nd) (w : World) (v : Value) (hi : Nat) (hF : dv F = true) (hf : F.Fine) (dF : hi ≤ w.heap.size) (hr : Row 0 hi w F v) (fr : F.cost ≤ 1048576) :
    Calls Tryz.prog 21 #[F.val v] w fun e w' => ∃ (K : SK) (w2 : World) (qS : Option Nat) (E : Sc) (r : Int), e = .returned (.pointer (some ⟨K.cb, 0, none⟩)) ∧ K.F = F ∧ K.N = F.size ∧ w.heap.size ≤ K.lo ∧ SS K w2 qS (CR.bind (dC F) fun X => .ok (E, X)) r 0 0 w' ∧ Below w.heap.size w w' := by
  have hz := F.size_cost
  have hn := F.fine_len hf
  have pT : F.size ≤ 600 := by unfold dv at hF; simp only [Bool.and_eq_true, decide_eq_true_eq] at hF; exact hF.1.1.1.1
  obtain ⟨a, cap, hv, cr, hq⟩ := aH.1 hr
  subst hv
  have HMK := aa (uE F.size (by omega))
  have hmk := uE F.size (by omega)
  have fp := aa (fun o => bO w o)
  have wj := aa (fun W (hb : Below w.heap.size w W) => yX F W _ hi hf (Nat.le_trans dF hb.size) (ah hb dF hr) fr)
  have Pr := aa (fun W (hb : Below w.heap.size w W) => ah hb dF hr)
  unfold Nd.val at *
  have HR0 := aa hr
  clear hr hq
  go_enter Tryz.func21, Tryz.ntmps21
  go_wp2
  go_region_held3 (fun W => W.cell? ⟨w.heap.size, 0, none⟩ = some (.int .i64 F.kind) ∧ W.cell? ⟨w.heap.size, 1, none⟩ = some (.int .i64 F.num) ∧ W.cell? ⟨w.heap.size, 2, none⟩ = some (.string F.name) ∧ W.cell? ⟨w.heap.size, 3, none⟩ = some (.slice a F.len cap)) (go_keep) (first
    | (go_at_call 43; refine (wj.out _ (fp.out _).drew).mono ?_; rintro e w1 ⟨rfl, hb1⟩; have q0 : w1.cell? ⟨w.heap.size, 0, none⟩ = some (.int .i64 F.kind) := (hb1.cell (p := ⟨w.heap.size, 0, none⟩) (by simp)).trans (by simp); have q1 : w1.cell? ⟨w.heap.size, 1, none⟩ = some (.int .i64 F.num) := (hb1.cell (p := ⟨w.heap.size, 1, none⟩) (by simp)).trans (by simp); have q2 : w1.cell? ⟨w.heap.size, 2, none⟩ = some (.string F.name) := (hb1.cell (p := ⟨w.heap.size, 2, none⟩) (by simp)).trans (by simp); have q3 : w1.cell? ⟨w.heap.size, 3, none⟩ = some (.slice a F.len cap) := (hb1.cell (p := ⟨w.heap.size, 3, none⟩) (by simp)).trans (by simp); have HBS := aa hb1; clear hb1))
  have eB : Hid (Below w.heap.size w w1) := (fp.out _).drew.trans (HBS.out.mono (by simp))
  have vZ : w.heap.size + 1 ≤ w1.heap.size := by have := HBS.out.size; simpa using this
  obtain ⟨K, hK⟩ : ∃ K : SK, K = ⟨w1.heap.size + 1, w1.heap.size, w1.heap.size, w1.heap.size + 2, F.size, F, .slice a F.len cap⟩ := ⟨_, rfl⟩
  obtain ⟨uL, ktb, klo, kup, kN, kF, kfv⟩ : K.cb = w1.heap.size + 1 ∧ K.tb = w1.heap.size ∧ K.lo = w1.heap.size ∧ K.up = w1.heap.size + 2 ∧ K.N = F.size ∧ K.F = F ∧ K.fv = .slice a F.len cap := by subst hK; exact ⟨rfl, rfl, rfl, rfl, rfl, rfl, rfl⟩
  have Ue : K.Ok := ⟨by omega, by omega, by omega, by omega, by omega, by omega, .inl (by omega)⟩
  have HS0 : Hid (SRaw K ((w1.alloc (.cells (Array.replicate F.size (.int .i64 0)) 3)).alloc (.cells #[.int .i64 F.kind, .int .i64 F.num, .string F.name, .slice a F.len cap, .slice (some ⟨w1.heap.size, 0, none⟩) F.size F.size, .int .i64 0, .int .i64 0, .slice none 0 0, .int .i64 0, .int .i64 0, .int .i64 0, .int .i64 0] 51)) (.slice none 0 0) 0 0 0 0 0 0 (List.replicate F.size 0) []) := by
    refine ⟨?_, ?_, by rw [List.length_replicate, kN], World.ownsRow_nil _ _ _ _⟩
    · rw [uL]
      have := heap_alloc_new (w1.alloc (.cells (Array.replicate F.size (.int .i64 0)) 3)) (.cells #[.int .i64 F.kind, .int .i64 F.num, .string F.name, .slice a F.len cap, .slice (some ⟨w1.heap.size, 0, none⟩) F.size F.size, .int .i64 0, .int .i64 0, .slice none 0 0, .int .i64 0, .int .i64 0, .int .i64 0, .int .i64 0] 51)
      simp only [World.size_alloc] at this
      rw [this]
      unfold SK.cells
      rw [kF, kfv, ktb, kN]
    · rw [ktb, Below.heap_alloc _ _ _ (by simp), heap_alloc_new]
      simp
  have hszW : ((w1.alloc (.cells (Array.replicate F.size (.int .i64 0)) 3)).alloc (.cells #[.int .i64 F.kind, .int .i64 F.num, .string F.name, .slice a F.len cap, .slice (some ⟨w1.heap.size, 0, none⟩) F.size F.size, .int .i64 0, .int .i64 0, .slice none 0 0, .int .i64 0, .int .i64 0, .int .i64 0, .int .i64 0] 51)).heap.size = w1.heap.size + 2 := by simp
  have gn : K.lo ≤ K.cb := by omega
  have hlo2 : K.lo ≤ K.tb := by omega
  have hup1 : K.cb + 1 ≤ ((w1.alloc (.cells (Array.replicate F.size (.int .i64 0)) 3)).alloc (.cells #[.int .i64 F.kind, .int .i64 F.num, .string F.name, .slice a F.len cap, .slice (some ⟨w1.heap.size, 0, none⟩) F.size F.size, .int .i64 0, .int .i64 0, .slice none 0 0, .int .i64 0, .int .i64 0, .int .i64 0, .int .i64 0] 51)).heap.size := by omega
  have hup2 : K.tb + 1 ≤ ((w1.alloc (.cells (Array.replicate F.size (.int .i64 0)) 3)).alloc (.cells #[.int .i64 F.kind, .int .i64 F.num, .string F.name, .slice a F.len cap, .slice (some ⟨w1.heap.size, 0, none⟩) F.size F.size, .int .i64 0, .int .i64 0, .slice none 0 0, .int .i64 0, .int .i64 0, .int .i64 0, .int .i64 0] 51)).heap.size := by omega
  have Gn : Hid (Row 0 K.lo w1 F (.slice a F.len cap)) := aO (ah eB.out dF HR0.out) lr (by omega)
  have oP : Hid (Below K.lo w1 ((w1.alloc (.cells (Array.replicate F.size (.int .i64 0)) 3)).alloc (.cells #[.int .i64 F.kind, .int .i64 F.num, .string F.name, .slice a F.len cap, .slice (some ⟨w1.heap.size, 0, none⟩) F.size F.size, .int .i64 0, .int .i64 0, .slice none 0 0, .int .i64 0, .int .i64 0, .int .i64 0, .int .i64 0] 51))) := ((Below.refl _ _).alloc (by omega) _).alloc (by simp; omega) _
  have HQ : Hid (∀ W, Below K.lo w1 W → W.cell? ⟨w.heap.size, 0, none⟩ = some (.int .i64 F.kind) ∧ W.cell? ⟨w.heap.size, 1, none⟩ = some (.int .i64 F.num) ∧ W.cell? ⟨w.heap.size, 2, none⟩ = some (.string F.name) ∧ W.cell? ⟨w.heap.size, 3, none⟩ = some (.slice a F.len cap)) := by
    intro W hb
    have hc : ∀ o, W.cell? ⟨w.heap.size, o, none⟩ = w1.cell? ⟨w.heap.size, o, none⟩ := fun o => hb.cell (p := ⟨w.heap.size, o, none⟩) (by show w.heap.size < K.lo; omega)
    exact ⟨(hc _).trans q0, (hc _).trans q1, (hc _).trans q2, (hc _).trans q3⟩
  clear q0 q1 q2 q3
  have hkcb : w1.heap.size + 1 = K.cb := uL.symm
  simp only [hkcb] at *
  generalize NM : ((w1.alloc (.cells (Array.replicate F.size (.int .i64 0)) 3)).alloc (.cells #[.int .i64 F.kind, .int .i64 F.num, .string F.name, .slice a F.len cap, .slice (some ⟨w1.heap.size, 0, none⟩) F.size F.size, .int .i64 0, .int .i64 0, .slice none 0 0, .int .i64 0, .int .i64 0, .int .i64 0, .int .i64 0] 51)) = W0 at *
  clear NM
  have cM := aa (ib F W0 _ K.lo 0 hf (by rw [klo]; exact oP.out.size) (ah oP.out lr Gn.out) fr (by omega))
  unfold Nd.val at cM
  rw [show ((0 : Nat) : Int) = 0 from rfl] at cM
  obtain ⟨bx0, bx1, bx2, bx3⟩ := HQ.out W0 oP.out
  have HKC := aa (fun (h0 : F.len ≠ 0) => dq Gn.out h0)
  have HINI : Hid (∀ w2, Below W0.heap.size W0 w2 → SS K w2 none (.ok ([], [0])) 0 0 0 w2) := fun w2 hb => SS.take (s := ([], [])) ⟨Ue, ⟨.slice none 0 0, 0, 0, 0, List.replicate F.size 0, [], HS0.out.calm hb, ⟨rfl, rfl, rfl, by rw [kN]; rfl, Nat.zero_le _, rfl, Nat.zero_le _, Nat.zero_le _⟩, .inl rfl⟩, Kept.refl _ _⟩ (by rw [kN]; have := F.size_eq; show 0 + 1 ≤ _; omega)
  have bF : Hid (∀ w2, Below W0.heap.size W0 w2 → ∀ W, Kept (K.S none) w2 W → Below K.lo w1 W) := fun w2 hb W hk => oP.out.trans ((hb.mono (by omega)).trans (hk.below (by have := hb.size; omega) (fun k h => by rcases h with h | h | h; omega; omega; cases h)))
  have HATC : Hid (∀ w2 u, Below W0.heap.size W0 w2 → Kw w2 W0.heap.size u F.len (fun i => (aW F 0 i : Nat)) → F.len ≠ 0 → ∃ g off cap, u = .slice (some ⟨g, off, none⟩) F.len cap ∧ (F.len ≤ cap ∧ cap ≤ 9223372036854775807) ∧ ∀ W, Kept (K.S none) w2 W → ∀ i, i < F.len → W.cell? ⟨g, off + i, none⟩ = some (.int .i64 (aW F 0 i : Nat))) := by
    intro w2 u hb ha h0
    obtain ⟨a1, c1, e1, e2, e3, e4⟩ := ha
    rcases e4 with e | ⟨g, off, rfl, p1, p2, p3⟩
    · exact absurd e h0
    refine ⟨g, off, c1, e1, ⟨e2, e3⟩, fun W hk i fO => ?_⟩
    rw [World.cell?_of_block (a := ⟨g, off + i, none⟩) (hk.block g p2 (by rintro (h | h | h); omega; omega; cases h))]
    exact p3 i fO
  have bH := jK
  clear Ue hK hmk HMK wj Pr fp HBS
  go_wp2_with (go_at_call 44; refine cM.out.mono ?_; rintro e w2 ⟨u, rfl, bz, ba⟩; have aC := HINI.out w2 ba; have TX := HATC.out w2 u ba bz; obtain ⟨y0, y1, y2, y3⟩ := HQ.out w2 (bF.out w2 ba w2 (Kept.refl _ _)); have k5 := aC.code0; have Ep : ∃ a' ca, u = .slice a' F.len ca ∧ F.len ≤ ca ∧ ca ≤ 9223372036854775807 := (by obtain ⟨z1, z2, z3, z4, z5, _⟩ := bz; exact ⟨z1, z2, z3, z4, z5⟩); have bR := aa aC; have LI := aa TX; have B5 := aa (bF.out w2 ba); have Qu := aa ba; clear aC TX bz ba)
  obtain ⟨a', ca, rfl, NB, hca2⟩ := Ep
  go_loopw [5] (fun i wr => ∃ n : Nat, n ≤ F.len ∧ i = .int .i64 n ∧ SS K w2 none (CR.bind (forN (dz F) n ()) fun _ => .ok ([], [0])) 0 0 0 wr) (fun i _ => F.len - (intOf i).toNat)
  case atStart => exact ⟨0, Nat.zero_le _, rfl, bR.out⟩
  case round =>
    obtain ⟨n, EE, rfl, cy⟩ := hrel
    have fC := B5.out _ cy.kept
    obtain ⟨x0, x1, x2, x3⟩ := HQ.out wr fC
    by_cases bN : n < F.len
    · have hni : (n : Int) < (F.len : Int) := by omega
      cases hq : forN (dz F) n () with
      | error e0 =>
        rw [hq] at cy
        obtain ⟨code, k5', hz'⟩ := cy.code1
        have HSE : Hid (SS K w2 none (CR.bind (forN (dz F) F.len ()) fun _ => .ok ([], [0])) 0 0 0 wr) := by unfold Hid; rw [im hq EE]; exact cy
        clear cy hq
        exact bM0
      | ok un =>
        rw [hq] at cy
        have k5' := cy.code0
        obtain ⟨g, off, mQ, mh, iM, rZ, aV⟩ := HKC.out (by omega)
        injection mh with vw Lq vu
        subst vw
        subst vu
        obtain ⟨ga, oa, ca', So, hca', fc⟩ := LI.out (by omega)
        injection So with eu1 eu2 eu3
        subst eu1
        subst eu3
        obtain ⟨ud, kK, jJ⟩ := aV n bN
        obtain ⟨c0, c1, c2, c3⟩ := kK _ fC
        have an := fc _ cy.kept n bN
        have Bd : K.lo ≤ wr.heap.size := by have := cy.lt; omega
        have yC := aa (vr F wr.drew _ K.lo (F.kids n).name hf Bd (ah fC.drew lr Gn.out))
        unfold Nd.val at yC
        have kG : Hid (forN (dz F) (n + 1) () = dz F n ()) := by unfold Hid; simp only [forN, hq]; rfl
        have iu := aa cy
        have HCN := aa kK
        have HAVV := aa fc
        by_cases xH : findF F (F.kids n).name = some n
        · have hfi : kE F (F.kids n).name = n := by unfold kE; rw [xH]
          have HTW : Hid (dz F n () = .ok ()) := by unfold Hid dz; rw [if_pos xH]
          rw [hfi] at yC
          clear cy hq kK jJ aV fc hfi xH
          go_wp2
          go_region_held3 (fun W => W.cell? ⟨w.heap.size, 0, none⟩ = some (.int .i64 F.kind) ∧ W.cell? ⟨w.heap.size, 1, none⟩ = some (.int .i64 F.num) ∧ W.cell? ⟨w.heap.size, 2, none⟩ = some (.string F.name) ∧ W.cell? ⟨w.heap.size, 3, none⟩ = some (.slice (some ⟨g, off, none⟩) F.len cap) ∧ W.cell? ⟨g, off + n * 4 + 2, none⟩ = some (.string (F.kids n).name)) (go_keep) (first
            | (go_at_call 45; refine yC.out.mono ?_; rintro e w5 ⟨rfl, qY⟩; have jh := iu.out.drew.calm qY; obtain ⟨x0, x1, x2, x3⟩ := HQ.out w5 (B5.out _ jh.kept); obtain ⟨c0, c1, c2, c3⟩ := HCN.out _ (B5.out _ jh.kept); have mY := aa jh; clear qY jh))
          go_wp2
          refine ⟨⟨n + 1, by omega, by go_num, ?_⟩, by simp [intOf]; omega⟩
          rw [kG.out, HTW.out]
          exact mY.out
        · have hfi : ((kE F (F.kids n).name) == (n : Int)) = false := by
            refine bn fun e => xH ?_
            unfold kE at e
            cases hx : findF F (F.kids n).name with
            | none => rw [hx] at e; have e' : (-1 : Int) = n := e; exact absurd e' (by omega)
            | some j => rw [hx] at e; have e' : (j : Int) = n := e; have e2 : j = n := by omega
                        rw [e2]
          have HTW : Hid (dz F n () = .error (6, aW F 0 n)) := by unfold Hid dz; rw [if_neg xH]; simp [aW]
          generalize kE F (F.kids n).name = fi at *
          clear cy hq kK jJ aV fc xH
          go_wp2
          go_region_held3 (fun W => W.cell? ⟨w.heap.size, 0, none⟩ = some (.int .i64 F.kind) ∧ W.cell? ⟨w.heap.size, 1, none⟩ = some (.int .i64 F.num) ∧ W.cell? ⟨w.heap.size, 2, none⟩ = some (.string F.name) ∧ W.cell? ⟨w.heap.size, 3, none⟩ = some (.slice (some ⟨g, off, none⟩) F.len cap) ∧ W.cell? ⟨g, off + n * 4 + 2, none⟩ = some (.string (F.kids n).name)) (go_keep) (first
            | (go_at_call 45; refine yC.out.mono ?_; rintro e w5 ⟨rfl, qY⟩; have jh := iu.out.drew.calm qY; obtain ⟨x0, x1, x2, x3⟩ := HQ.out w5 (B5.out _ jh.kept); obtain ⟨c0, c1, c2, c3⟩ := HCN.out _ (B5.out _ jh.kept); have an := HAVV.out _ jh.kept n bN; have mY := aa jh; clear qY jh))
          go_wp2_with (first
            | (go_at_call 46; refine (dO mY.out 6 (by decide) (aW F 0 n)).mono ?_; rintro e w6 ⟨rfl, tR⟩; have oO := aa tR; clear tR))
          refine ⟨⟨n + 1, by omega, by go_num, ?_⟩, by simp [intOf]; omega⟩
          rw [kG.out, HTW.out]
          exact oO.out
    · obtain rfl : n = F.len := by omega
      have HSE := aa cy
      clear cy
      exact bM0
def fI (T : Nd) : List Int := if dv T then (match dC T with | .ok X => X | .error _ => []) else []
def ep (T : Nd) : Int := if dv T then (match dC T with | .ok _ => 0 | .error p => p.1) else 1
def eD (T : Nd) : Int := if dv T then (match dC T with | .ok _ => 0 | .error p => (p.2 : Int)) else 0
structure Done (T : Nd) (w w' : World) (cb : Nat) : Prop where
 code : w'.cell? ⟨cb, 5, none⟩ = some (.int .i64 (match dC T with | .ok _ => 0 | .error p => p.1))
 place : w'.cell? ⟨cb, 6, none⟩ = some (.int .i64 (match dC T with | .ok _ => 0 | .error p => (p.2 : Int)))
 nz : ∀ p, dC T = .error p → p.1 ≠ 0
 lt : w.heap.size ≤ cb ∧ cb < w'.heap.size
 types : ∀ X, dC T = .ok X → ∃ tb, w'.cell? ⟨cb, 4, none⟩ = some (.slice (some ⟨tb, 0, none⟩) X.length X.length) ∧ w'.ownsRow w.heap.size 3 1 (.slice (some ⟨tb, 0, none⟩) X.length X.length) X.length (X.map (Value.int .i64))
 below : Below w.heap.size w w'
theorem vG (T : Nd) (w : World) (v : Value) (hi : Nat) (ht : dv T = true) (hf : T.Fine) (dF : hi ≤ w.heap.size) (hr : Row 0 hi w T v) (fr : T.cost ≤ 1048576) :
  Calls Tryz.prog 21 #[T.val v] w fun e w' => ∃ cb, e = .returned (.pointer (some ⟨cb, 0, none⟩)) ∧ Done T w w' cb := by
 refine (JU T w v hi ht hf dF hr fr).mono ?_
 rintro e w' ⟨K, w2, qS, E, r, rfl, hF, hN, fy, cy, hb⟩
 have pT : T.size ≤ 600 := by unfold dv at ht; simp only [Bool.and_eq_true, decide_eq_true_eq] at ht; exact ht.1.1.1.1
 obtain ⟨vv, code, place, deep, zs, vs, kI, Ci, _⟩ := cy.is
 have aS := cy.ok
 have zr := aS.cl
 have htl := aS.tl
 have bN := cy.lt
 have hc : ∀ o, w'.cell? ⟨K.cb, o, none⟩ = (K.cells vv code place deep r 0 0)[o]? := fun o => cell_of_row _ _ _ _ _ (0, 0) kI.blk
 refine ⟨K.cb, rfl, ?_, ?_, ?_, ⟨by omega, bN.1⟩, ?_, hb⟩
 ·rw [hc]
  cases hM : dC T with
  |ok X => rw [hM] at Ci; obtain ⟨h1, _⟩ := Ci; subst h1; rfl
  |error p => rw [hM] at Ci; obtain ⟨h1, _⟩ := Ci; subst h1; rfl
 ·rw [hc]
  cases hM : dC T with
  |ok X => rw [hM] at Ci; obtain ⟨_, h1, _⟩ := Ci; subst h1; rfl
  |error p => rw [hM] at Ci; obtain ⟨_, _, h1⟩ := Ci; subst h1; rfl
 ·intro p hM
  rw [hM] at Ci
  exact Ci.2.1
 ·intro X hM
  have hX : X.length = T.size := by
   have := tA ht lr X hM
   rw [this, lV]; omega
  rw [hM] at Ci
  obtain ⟨_, _, _, RZ, _⟩ := Ci
  have RY : zs = X := by
   have e : K.N - X.length = 0 := by omega
   have RV : zs = X ++ List.replicate (K.N - X.length) 0 := RZ
   rw [e] at RV; simpa using RV
  have hNX : K.N = X.length := by omega
  refine ⟨K.tb, ?_, by simp, .inr ⟨K.tb, X.length, _, rfl, ?_, kI.typ, Nat.le_refl _, ?_, ?_, ?_⟩⟩
  ·rw [hc, ← hNX]; rfl
  ·omega
  ·have : X.length ≤ 600 := by omega
   exact Nat.le_trans this (by decide)
  ·subst RY; simp
  ·subst RY; rw [Nat.mul_one]; exact List.take_of_length_le (by simp)
end Go.Proofs.YteaocammohcgoaaGreatDoor
