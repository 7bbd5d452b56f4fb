import Derived.Test.YtkfbbdhidecefaaDoorUKdN
import Derived.Deep.RegionHeld3
set_option linter.unusedVariables false
set_option maxHeartbeats 16000000
set_option maxRecDepth 100000
namespace Go.Proofs.YtkfbbdhidecefaaDoor
open Go.RowKit
variable {G : Prop}
theorem bV0 (h : G := by
 go_wp2
 have HKEP := aa HSE.out.kept
 clear x0 x1 x2 x3 kU
 go_loopw [6] (fun i wr => ∃ n : Nat, n ≤ F.len ∧ i = .int .i64 n ∧ ∃ wz Kf E r, SS K wz Kf (CR.bind (Hs F n) fun X => .ok (E, X)) r 0 0 wr ∧ Kept (K.S none) w2 wr) (fun i _ => F.len - (intOf i).toNat)
 case atStart => exact ⟨0, Nat.zero_le _, rfl, _, _, [], 0, by rw [Tj]; exact HSE.out, HKEP.out⟩
 case round =>
  obtain ⟨n2, Ax, rfl, wz, Kf, E, r, gS, gH⟩ := hrel
  have kU := EL.out _ gH
  obtain ⟨x0, x1, x2, x3⟩ := HQ.out _ kU
  have Nc := aa (I7.out.trans (kU.mono (by omega)))
  by_cases pg : n2 < F.len
  ·have hni2 : (n2 : Int) < (F.len : Int) := by omega
   cases hq : Hs F n2 with
   |error e0 =>
    rw [hq] at gS
    obtain ⟨code2, N1, hz''⟩ := gS.code1
    have EK : Hid (lT F = .error e0) := KR hq Ax
    have po := aa gS
    clear gS hq
    go_wp2
    go_ret
    exact ⟨K, wz, Kf, E, r, rfl, kF, kN, by omega, by rw [EK.out]; exact po.out, Nc.out⟩
   |ok X =>
    rw [hq] at gS
    have N1 := gS.code0
    obtain ⟨g2, D6, Ih, hv2, hgl2, hcap2, Mw⟩ := HKC.out (by omega)
    injection hv2 with K6 ev2 K5
    subst K6
    subst K5
    obtain ⟨ga2, oa2, ca2, hu2, hca2', S0⟩ := HAT.out (by omega)
    injection hu2 with eu1 eu2 eu3
    subst eu1
    subst eu3
    obtain ⟨ud, yH, zD⟩ := Mw n2 pg
    obtain ⟨c0, c1, c2, c3⟩ := yH _ kU
    have an := S0 _ gH n2 pg
    obtain ⟨ownr, hsr, _, _, _⟩ := gS.drew.restart
    have hXl := BC hF Ax X hq
    have HFU := aa (Oz (K := K) (uh hF pg) ownr E X r _ ud hsr ⟨by rw [kF]; exact hf, by rw [kF, kfv]; exact ae kU.drew lr EF.out, by rw [kF]; exact hF⟩ ⟨Nd.fine_kid hf pg, ae kU.drew lr zD, Nat.le_trans (F.cost_kid pg) ny⟩ (by rw [hXl, kN]; have := ib F 0 pg; omega))
    unfold Nd.val at HFU
    rw [hXl, kF] at HFU
    have VT := aa (vg F n2)
    rw [hq] at VT
    have HKK := aa gH
    clear gS hq gH hsr yH zD Mw S0 kU
    go_wp2
    go_still_tail 10, fH
    go_wp2_with (go_at_call 53; refine HFU.out.mono ?_; rintro e w5 ⟨rfl, w6, own6, E6, Av, yJ, hk6⟩; have E3 := aa Av; have HK6 := aa hk6; clear Av yJ hk6)
    refine ⟨⟨n2 + 1, by omega, by go_num, w6, own6, E6, (F.kids n2).num, ?_, ?_⟩, by simp [intOf]; omega⟩
    ·rw [VT.out]
     exact E3.out
    ·exact HKK.out.drew.trans HK6.out (fun _ _ h => h)
  ·obtain rfl : n2 = F.len := by omega
   have po := aa gS
   clear gS
   go_wp2
   go_ret
   exact ⟨K, wz, Kf, E, r, rfl, kF, kN, by omega, po.out, Nc.out⟩) : G := h
theorem bV1 (h : G := by
 rw [hb] at HEN
 have HB := aa hb
 clear hb
 have k_V2_1 := kk
 exact bV2) : G := h
theorem bV2 (h : G := by
 go_wp2
 go_region_held3 (fun W => W.cell? ⟨w.heap.size, 3, none⟩ = some (.slice (some ⟨g, off, none⟩) T.len cap) ∧ W.cell? ⟨g, off + n * 4, none⟩ = some (.int .i64 B.kind) ∧ W.cell? ⟨g, off + n * 4 + 1, none⟩ = some (.int .i64 B.num) ∧ W.cell? ⟨g, off + n * 4 + 2, none⟩ = some (.string B.name) ∧ W.cell? ⟨g, off + n * 4 + 3, none⟩ = some (.slice aB B.len cB) ∧ W.cell? ⟨ga, oa + n, none⟩ = some (.int .i64 (pb : Nat))) (go_keep) (first
  |(go_at_call 50; refine Wj.out.mono ?_; rintro e w3 ⟨u3, rfl, vd, hb3⟩; obtain ⟨ie, fX, qX, Bw, Bt⟩ := HSA.out w3 u3 hb3 vd; obtain ⟨us, te⟩ := I4.out w3 ie u3 vd Bw Bt; have KA := qX _ _ _ _ _ fX; obtain ⟨d0, d1, d2, d3⟩ := HG.out.box _ _ _ _ _ KA; obtain ⟨c0, c1, c2, c3⟩ := LG.out _ (HG.out.below _ _ _ _ _ KA); have an := l3.out _ _ _ _ _ KA n Mr; rw [EH.out] at an; have Ps := aa te; have PU := aa qX; have lZ := aa fX; clear fX qX Bw Bt te vd hb3 KA)
  |(go_at_call 73; refine (C8.out w3 ie u3 us Ps.out _ lZ.out).mono ?_; rw [Pp.out]; rintro e w5 ⟨rfl, qu⟩; have Bq := PU.out _ _ _ _ _ qu; obtain ⟨d0, d1, d2, d3⟩ := HG.out.box _ _ _ _ _ Bq; obtain ⟨c0, c1, c2, c3⟩ := LG.out _ (HG.out.below _ _ _ _ _ Bq); have an := l3.out _ _ _ _ _ Bq n Mr; rw [EH.out] at an; have N1 := Bq.code0; have wk := aa Bq; have BZ := aa (HG.out.below _ _ _ _ _ Bq); clear qu Bq))
 first
 |clear k_V2_0
  go_wp2
  go_end0
  exact ⟨rfl, _, none, s2.1, by rw [HF3.out _ Pp.out, if_neg (fun h => h.1 H0.out)]; exact wk.out, BZ.out, VY.out _ _ _ _ _ wk.out⟩
 |clear k_V2_1
  first
  |clear k_V1_0
   go_wp2_with (go_at_call 74; refine (HEN.out _ BZ.out).mono ?_; rintro e w6 ⟨rfl, yJ⟩; have E3 := aa (wk.out.calm yJ); have HBL6 := aa (BZ.out.trans (yJ.mono (Nat.le_trans (by have := BZ.out.size; omega) lr))); clear yJ)
   go_end0
   exact ⟨rfl, _, none, s2.1, by rw [HF3.out _ Pp.out, if_neg (fun h => by rw [HB.out] at h; cases h.2)]; exact E3.out, HBL6.out, VY.out _ _ _ _ _ E3.out⟩
  |clear k_V1_1
   go_wp2_with (first
    |(go_at_call 74; refine (HEN.out _ BZ.out).mono ?_; rintro e w6 ⟨rfl, yJ⟩; have E3 := aa (wk.out.calm yJ); clear yJ)
    |(go_at_call 52; refine (gJ E3.out 9 (by decide) p).mono ?_; rintro e w7 ⟨rfl, hs7⟩; have HBL7 := aa (HG.out.below _ _ _ _ _ hs7); have HS7 := aa hs7; clear hs7))
   go_end0
   exact ⟨rfl, _, none, s2.1, by rw [HF3.out _ Pp.out, if_pos ⟨H0.out, HB.out⟩]; exact HS7.out, HBL7.out, VY.out _ _ _ _ _ HS7.out⟩) : G := h
theorem MP {T : Nd} (h : fR T = true) : T.kind = 2 ∧ 1 ≤ T.len ∧ (∀ i, i < T.len - 1 → (T.kids i).len = 0 ∧ ck (T.kids i).name = true ∧ 1 ≤ (T.kids i).num) ∧ (T.kids (T.len - 1)).kind = 4 ∧ (T.kids (T.len - 1)).sOk = true ∧ 0 ≤ T.num := by
 unfold fR at h
 simp only [Bool.and_eq_true, decide_eq_true_eq] at h
 obtain ⟨⟨⟨⟨h1, h2⟩, h3⟩, h4⟩, h5, h6, h7⟩ := h
 refine ⟨h1, h4, fun i hi => ?_, h6, h7, h3.1⟩
 have := bD.1 h5 i hi
 unfold mb at this
 simp only [Bool.and_eq_true, decide_eq_true_eq] at this
 exact ⟨this.2, this.1.1.2, this.1.2.1⟩
def sE (T : Nd) (X : List Int) (n : Nat) : CR CS := forN (sD T) n ([[]], X ++ [0])
theorem wT (T : Nd) (X : List Int) (n : Nat) : sE T X (n + 1) = CR.bind (sE T X n) (sD T n) := rfl
theorem Ck {T : Nd} {X : List Int} {m : Nat} (hp : ∀ i, i < m → (T.kids i).len = 0) : ∀ {n : Nat}, n ≤ m → ∀ s, sE T X n = .ok s → s.2.length = aP T X.length n ∧ s.1 ≠ [] ∧ cy s.1 ≤ n ∧ n ≤ s.2.length := by
 intro n
 induction n with
 |zero =>
  intro _ s e
  injection e with e; subst e
  exact ⟨by simp [aP, ag], by simp, by simp [cy], Nat.zero_le _⟩
 |succ n ih =>
  intro hn s e
  rw [wT] at e
  obtain ⟨s0, h1, h2⟩ := bb e
  obtain ⟨q1, q2, q3, q4⟩ := ih (by omega) s0 h1
  unfold sD at h2
  split at h2
  ·cases h2
  ·injection h2 with h2; subst h2
   have hz : (T.kids n).size = 1 := by rw [(T.kids n).size_eq, hp n (by omega)]; rfl
   obtain ⟨p1, p2, p3⟩ := qd q2 (T.kids n).name (T.kids n).num
   refine ⟨by rw [iC, hz]; simp [q1], ?_, ?_, ?_⟩
   ·intro h0; apply q2; have By : lN s0.1 (T.kids n).name (T.kids n).num = [] := h0; rw [By] at p2; exact List.length_eq_zero_iff.1 p2.symm
   ·show cy (lN s0.1 (T.kids n).name (T.kids n).num) ≤ _; omega
   ·simp; omega
def Bz (F T : Nd) (X : List Int) (E : Sc) : CR CS := CR.bind (vf F T X) fun X' => .ok (E, X')
theorem OD {F T : Nd} {X : List Int} {e : Int × Nat} (h : sE T X (T.len - 1) = .error e) : Bz F T X [] = .error e := by
 unfold Bz vf; unfold sE at h; rw [h]; rfl
theorem OC {F T : Nd} {X : List Int} {s1 : CS} {e : Int × Nat} (h : sE T X (T.len - 1) = .ok s1) (h2 : lW F (T.kids (T.len - 1)) ⟨T.num, 0, 0⟩ 0 (T.kids (T.len - 1)).len (.ok (ao s1)) = .error e) (hk : (T.kids (T.len - 1)).kind = 4) : Bz F T X [] = .error e := by
 unfold Bz vf; unfold sE at h; rw [h, CR.bind_ok, p8 F (by omega)]
 unfold lW at h2
 simp only [CR.bind_ok, Nat.zero_add] at h2
 unfold tc
 rw [h2]; rfl
theorem OB {F T : Nd} {X : List Int} {s1 s2 : CS} (h : sE T X (T.len - 1) = .ok s1) (h2 : lW F (T.kids (T.len - 1)) ⟨T.num, 0, 0⟩ 0 (T.kids (T.len - 1)).len (.ok (ao s1)) = .ok s2) (hk : (T.kids (T.len - 1)).kind = 4) : Bz F T X s2.1 = if T.num ≠ 0 ∧ nC (T.kids (T.len - 1)) = false then .error (9, X.length) else .ok s2 := by
 unfold Bz vf; unfold sE at h; rw [h, CR.bind_ok, p8 F (by omega)]
 unfold lW at h2
 simp only [CR.bind_ok, Nat.zero_add] at h2
 unfold tc
 rw [h2, CR.bind_ok]
 split <;> rfl
theorem BA {K : SK} {w w1 : World} {o : Obj} {r : Int} (hb : Below (w.alloc o).heap.size (w.alloc o) w1) : ∀ W σ r' l o', SS K (gP K w1 r) none σ r' l o' W → Kept (K.S none) w W := by
 intro W σ r' l o' h
 have h1 : Kept (K.S none) w w1 := b7 (((Below.refl _ _).alloc lr o).trans (hb.mono (by simp))) _
 have h2 : Kept (K.S none) w1 (gP K w1 r) := ⟨by simp [gP, World.setCell], by simp [gP, World.setCell], by simp [gP, World.setCell], by rw [nS]; exact Nat.le_refl _, fun k _ hn => nT K w1 r k (fun e => hn (.inl e))⟩
 exact (h1.trans h2 (fun _ _ h => h)).trans h.kept (fun _ _ h => h)
def FuS (K : SK) (T : Nd) : Prop := ∀ (own : Option Nat) (E : Sc) (X : List Int) (ret : Int) (w : World) (v : Value), SS K w own (.ok (E, X)) ret 0 0 w → SEnv K w → SNd K w T v → X.length + T.size ≤ K.N →
 Calls Tryd.prog 53 #[.pointer (some ⟨K.cb, 0, none⟩), T.val v, .int .i64 X.length] w fun e w' => e = .returned (.tuple #[]) ∧ ∃ w2 vT E', SS K w2 vT (Bz K.F T X E') T.num 0 0 w' ∧ Below K.lo w w' ∧ Kept (K.S none) w w'
theorem Oz {K : SK} {T : Nd} (hF : fR T = true) : FuS K T := by
 intro own E X ret w v hS hE hN be
 obtain ⟨hk, hl, Ks, zX, pG, Ku⟩ := MP hF
 have ig := hS.ok.few
 have bm := hS.lt
 have sf := hS.ok.cl
 have hn := T.fine_len hN.fine
 obtain ⟨m, hm⟩ : ∃ m, T.len = m + 1 := ⟨T.len - 1, by omega⟩
 have hm1 : T.len - 1 = m := by omega
 obtain ⟨g, off, cap, hv, tf, bQ, bz⟩ := mJ hN.row (by omega)
 subst hv
 rw [hm1] at zX pG
 have SH : X.length + 1 ≤ K.N := by have := T.size_eq; omega
 have cK := aa (fun o => ly T (w.alloc o) _ K.lo X.length hN.fine (by simp; omega) (ae (hS.box o) lr hN.row) hN.cost (by omega))
 have mH := aa (fun (w1 : World) (u : Value) (t : TypeId) hb ha => D0 (w1 := w1) (T := T) (v := .slice (some ⟨g, off, none⟩) T.len cap) (p := X.length) (u := u) (t := t) hS T.num hb ha)
 have HPA := aa (fun n (hn : n ≤ m) => Ck (X := X) (m := m) (fun i hi => (Ks i (by omega)).1) hn)
 have Sr := ib T X.length (i := m) (by omega)
 have EJ := aa bz
 have V5 := aa hE
 have VV := aa hN
 have HM := aa hm
 have Qn := aa (fun o w1 (hb : Below (w.alloc o).heap.size (w.alloc o) w1) => (hS.alloc o).calm hb)
 have fH := rJ
 unfold Nd.val at *
 have HKL := aa (fun i (h : i < T.len) => ib T X.length h)
 have KH : (T.len : Int) - 1 = m := by omega
 have Mr : m < T.len := by omega
 have hmI : (m : Int) < (T.len : Int) := by omega
 have HK := aa hk
 have Qs := aa hm1
 have HB4 := aa zX
 have HBO := aa pG
 clear hS hE hN hk Ks bz hF hm hm1 zX pG
 generalize hp : X.length = p at *
 go_enter Tryd.func53, Tryd.ntmps53
 go_wp2_with (go_at_call 50; go_loud (refine (cK.out _).mono ?_; rintro e w1 ⟨u, rfl, bl, hb1⟩; obtain ⟨aY, fY⟩ := mH.out w1 u _ hb1 bl; have hq := Qn.out _ w1 hb1; have f7 := hq.free 7; have f8 := hq.free 8; have f9 := hq.free 9; have b1 : w1.cell? ⟨w.heap.size, 1, none⟩ = some (.int .i64 T.num) := (hb1.cell (p := ⟨w.heap.size, 1, none⟩) (by simp)).trans (by simp); have b3 : w1.cell? ⟨w.heap.size, 3, none⟩ = some (.slice (some ⟨g, off, none⟩) T.len cap) := (hb1.cell (p := ⟨w.heap.size, 3, none⟩) (by simp)).trans (by simp); have yg := hq.lt; obtain ⟨vv0, code0, place0, deep0, zs0, vs0, gV, _⟩ := hq.is; obtain ⟨k0, k1, k2, k3, k4, k5, k6, k7, k8, k9, vL, uQ⟩ := gV.cells; obtain ⟨ga, oa, ca, rfl, sh, iH⟩ := fY.ats (by omega); have VY := aa (BA (K := K) (r := T.num) hb1); have HG := aa fY; have l3 := aa iH; have gh := aa (aY.take (by show X.length + 1 ≤ K.N; rw [hp]; exact SH)); clear aY fY hq bl hb1 gV iH))
 go_loopw [8] (fun i wr => ∃ n : Nat, n ≤ m ∧ i = .int .i64 n ∧ SS K (gP K w1 T.num) none (sE T X n) T.num 0 0 wr) (fun i _ => m - (intOf i).toNat)
 case atStart => exact ⟨0, Nat.zero_le _, rfl, gh.out⟩
 case round =>
  obtain ⟨n, Sf, rfl, gS⟩ := hrel
  have o9 := HG.out.below _ _ _ _ _ gS
  obtain ⟨d0, d1, d2, d3⟩ := HG.out.box _ _ _ _ _ gS
  cases hq : sE T X n with
  |error e0 =>
   rw [hq] at gS
   obtain ⟨code, k5', hz⟩ := gS.code1
   have po := aa gS
   have HBKK := aa o9
   have HQ : Hid (sE T X (T.len - 1) = .error e0) := by unfold Hid; rw [Qs.out]; exact z8 hq Sf
   clear gS hq o9
   by_cases bm : n < m
   all_goals go_wp2
   all_goals go_end0
   all_goals exact ⟨rfl, _, none, [], by rw [OD HQ.out]; exact po.out, HBKK.out, VY.out _ _ _ _ _ po.out⟩
  |ok st =>
   obtain ⟨xi, IZ, GU, hp4⟩ := HPA.out n Sf st hq
   rw [hq] at gS
   have k5' := gS.code0
   by_cases bm : n < m
   ·have hnT : n < T.len := by omega
    have hnI : (n : Int) < (T.len : Int) := by omega
    have yG := HKL.out n hnT
    obtain ⟨un, yH, zD⟩ := EJ.out n hnT
    obtain ⟨c0, c1, c2, c3⟩ := yH _ o9
    have an := l3.out _ _ _ _ _ gS n hnT
    have RI : 0 < (T.kids n).size := by rw [(T.kids n).size_eq]; omega
    have aF := (gS.take (by omega)).drew
    have yN := aa (pN aF (T.kids n).name (T.kids n).num (aP T p n) IZ (by rw [b5]; show cy st.1 + 1 ≤ _; omega))
    have HPD : Hid (tj (ao st) (T.kids n).name (T.kids n).num (aP T p n) = sD T n st) := by unfold Hid; rw [← xi]; rfl
    have HQ := aa hq
    rw [HPD.out] at yN
    clear gS aF hq o9 yH zD
    go_wp2
    go_still_tail 17, fH
    go_wp2_with (go_at_call 72; refine yN.out.mono ?_; rintro e w5 ⟨rfl, qu⟩; have wk := aa qu; clear qu)
    refine ⟨⟨n + 1, by omega, by go_num, ?_⟩, by simp [intOf]; omega⟩
    rw [wT, HQ.out]
    exact wk.out
   ·obtain rfl : n = m := by omega
    have yG := HKL.out n Mr
    obtain ⟨uB, hcB, RV⟩ := EJ.out n Mr
    obtain ⟨aB, cB, huB, hcpB, hqB⟩ := ar.1 RV
    subst huB
    have HQB := aa hqB
    obtain ⟨c0, c1, c2, c3⟩ := hcB _ o9
    have an := l3.out _ _ _ _ _ gS n Mr
    have Tc := VV.out.kid Mr RV
    have RI : 0 < (T.kids n).size := by rw [(T.kids n).size_eq]; omega
    have aF := (gS.take (by omega)).drew
    have Ta := Tc.later o9.drew
    have hEd := V5.out.later o9.drew
    have EP := gS.lt
    have Wj := aa (ly (T.kids n) wr.drew _ K.lo (aP T p n) Tc.fine (by show K.lo ≤ wr.heap.size; omega) (ae o9.drew lr RV) Tc.cost (by omega))
    have HSA := aa (fun (w3 : World) (u3 : Value) hb3 ha3 => NH (w1 := w3) (T := T.kids n) (u := u3) (p := aP T p n) aF hb3 ha3)
    have I4 := aa (fun (w3 : World) (ie : Option Nat) (u3 : Value) (ha3 : LX w3 wr.drew.heap.size u3 (T.kids n).len (fun i => (aP (T.kids n) (aP T p n) i : Nat))) Bw Bt => DZ (w1 := w3) (own1 := ie) hEd Ta ha3 Bw Bt)
    have C8 := aa (fun (w3 : World) (ie : Option Nat) (u3 : Value) us (hL : qC K w3 ie (T.kids n) (aP T p n) 0 (T.kids n).len (.slice aB (T.kids n).len cB) u3 us) (W : World) (hW : SS K w3 ie (.ok (ao st)) T.num 0 0 W) => sT hL (fun i hi => FR _) _ ⟨T.num, 0, 0⟩ W hW (by omega) (fun i hi => by rw [Nat.zero_add]; exact FW HB4.out HBO.out i hi) (fun s' e => by injection e with e; subst e; exact ⟨by rw [b5, xi]; rfl, IZ⟩) (by omega) (fun i hi => by have := fK (T.kids n) hi; simp only [Nat.zero_add]; omega) (fun i hi => by have := fK (T.kids n) hi; simp only [Nat.zero_add]; omega))
    have HEN := aa (fun W (hb : Below K.lo w W) => OG (T.kids n) W _ K.lo Tc.fine (Nat.le_trans (by omega) hb.size) (ae hb lr RV))
    have HQ : Hid (sE T X (T.len - 1) = .ok st) := by unfold Hid; rw [Qs.out]; exact hq
    have V3 := aa (fun e h => OC (F := K.F) (e := e) HQ.out h (by rw [Qs.out]; exact HB4.out))
    have HF3 := aa (fun s2 h => OB (F := K.F) (s2 := s2) HQ.out h (by rw [Qs.out]; exact HB4.out))
    have LG := aa hcB
    have lh : K.lo ≤ wr.heap.size := by omega
    rw [Qs.out, hp] at HF3
    rw [Qs.out] at V3
    unfold Nd.val at *
    clear gS aF hq o9 hcB RV Tc Ta hEd hqB
    generalize hpb : aP T p n = pb at *
    have EH := aa hpb
    clear hpb
    generalize T.kids n = B at *
    cases hτ : lW K.F B ⟨T.num, 0, 0⟩ 0 B.len (.ok (ao st)) with
    |error e0 =>
     have Pp := aa hτ
     clear hτ
     go_wp2
     go_region_held3 (fun W => W.cell? ⟨w.heap.size, 3, none⟩ = some (.slice (some ⟨g, off, none⟩) T.len cap) ∧ W.cell? ⟨g, off + n * 4, none⟩ = some (.int .i64 B.kind) ∧ W.cell? ⟨g, off + n * 4 + 1, none⟩ = some (.int .i64 B.num) ∧ W.cell? ⟨g, off + n * 4 + 2, none⟩ = some (.string B.name) ∧ W.cell? ⟨g, off + n * 4 + 3, none⟩ = some (.slice aB B.len cB) ∧ W.cell? ⟨ga, oa + n, none⟩ = some (.int .i64 (pb : Nat))) (go_keep) (first
      |(go_at_call 50; refine Wj.out.mono ?_; rintro e w3 ⟨u3, rfl, vd, hb3⟩; obtain ⟨ie, fX, qX, Bw, Bt⟩ := HSA.out w3 u3 hb3 vd; obtain ⟨us, te⟩ := I4.out w3 ie u3 vd Bw Bt; have KA := qX _ _ _ _ _ fX; obtain ⟨d0, d1, d2, d3⟩ := HG.out.box _ _ _ _ _ KA; obtain ⟨c0, c1, c2, c3⟩ := LG.out _ (HG.out.below _ _ _ _ _ KA); have an := l3.out _ _ _ _ _ KA n Mr; rw [EH.out] at an; have Ps := aa te; have PU := aa qX; have lZ := aa fX; clear fX qX Bw Bt te vd hb3 KA)
      |(go_at_call 73; refine (C8.out w3 ie u3 us Ps.out _ lZ.out).mono ?_; rw [Pp.out]; rintro e w5 ⟨rfl, qu⟩; have Bq := PU.out _ _ _ _ _ qu; obtain ⟨d0, d1, d2, d3⟩ := HG.out.box _ _ _ _ _ Bq; obtain ⟨c0, c1, c2, c3⟩ := LG.out _ (HG.out.below _ _ _ _ _ Bq); have an := l3.out _ _ _ _ _ Bq n Mr; rw [EH.out] at an; obtain ⟨code, N1, hz⟩ := Bq.code1; have wk := aa Bq; have BZ := aa (HG.out.below _ _ _ _ _ Bq); clear qu Bq))
     go_wp2
     go_end0
     exact ⟨rfl, _, none, [], by rw [V3.out _ Pp.out]; exact wk.out, BZ.out, VY.out _ _ _ _ _ wk.out⟩
    |ok s2 =>
     have Pp := aa hτ
     clear hτ
     by_cases h0 : T.num = 0
     ·have By : (T.num == 0) = true := beq_iff_eq.2 h0
      have h0n : (T.num != 0) = false := by simp only [bne, By]; rfl
      have H0 := aa h0
      clear h0
      have k_V2_0 := kk
      exact bV2
     ·have By : (T.num == 0) = false := bn h0
      have h0n : (T.num != 0) = true := by simp only [bne, By]; rfl
      have H0 := aa h0
      have hnot : ∀ (x : Bool) (w : World), (Op.unary .not (.bool x)).run Tryd.prog w = .ok (.bool (!x)) w := fun _ _ => rfl
      clear h0
      cases hb : nC B with
      |true =>
       have k_V1_0 := kk
       exact bV1
      |false =>
       have k_V1_1 := kk
       exact bV1
theorem D7 (n : Nat) : madeCells #[Value.int .i64 0] n = (List.replicate n (Value.int .i64 0)).toArray := by
 apply Array.ext_getElem?
 intro i
 simp [madeCells]
 by_cases h : i < n
 ·simp [h, Nat.mod_one]
 ·simp [h]
theorem zo (n : Nat) (hn : n ≤ 1048576) (w : World) : (Instr.makeSlice 67 (.int .i64 (n : Int)) (.int .i64 (n : Int))).run Tryd.prog w = .ok (.slice (some ⟨w.heap.size, 0, none⟩) n n) (w.alloc (.cells (List.replicate n (Value.int .i64 0)).toArray 3)) := by
 obtain ⟨i0, qn, qm, hZ, hQ⟩ := info_parts Mc
 have := run_make (P := Tryd.prog) w 67 3 i0 (.int .i64 0) Tryd.underlying67 qn qm .i64 .i64 n n (by omega) (Int.le_refl _) (by rw [hQ]; omega) (by omega)
 rw [this, hZ]
 simp only [Int.toNat_natCast, Nat.mul_one]
 rw [show (Value.int .i64 0).cells = #[Value.int .i64 0] from rfl, D7]
theorem Kept.drew {S : Nat → Prop} {w w' : World} (h : Kept S w w') : Kept S w w'.drew := ⟨h.os, h.tape, h.output, h.size, h.block⟩
theorem Hq {F T : Nd} (hF : fR T = true) {X X' : List Int} (h : vf F T X = .ok X') : X'.length = X.length + T.size := by
 obtain ⟨hk, hl, Ks, zX, pG, Ku⟩ := MP hF
 unfold vf at h
 obtain ⟨s1, h1, h2⟩ := bb h
 obtain ⟨s2, h3, h4⟩ := bb h2
 obtain ⟨p1, p2, _, _⟩ := Ck (X := X) (m := T.len - 1) (fun i hi => (Ks i hi).1) lr s1 h1
 obtain ⟨_, _, q3, _⟩ := (yb F (T.kids (T.len - 1))).sts pG zX _ s1 s2 p2 h3
 split at h4
 ·cases h4
 ·injection h4 with h4; subst h4
  rw [q3, p1, ← iC, show T.len - 1 + 1 = T.len by omega, qg]
def Hs (F : Nd) (n : Nat) : CR (List Int) := CR.bind (forN (ld F) F.len ()) fun _ => forN (fun i => vf F (F.kids i)) n [0]
theorem vg (F : Nd) (n : Nat) : Hs F (n + 1) = CR.bind (Hs F n) (vf F (F.kids n)) := by
 unfold Hs
 cases forN (ld F) F.len () <;> rfl
theorem KR {F : Nd} {j : Nat} {e : Int × Nat} (h : Hs F j = .error e) : ∀ {n : Nat}, j ≤ n → Hs F n = .error e := by
 intro n hn
 induction hn with
 |refl => exact h
 |step _ ih => rw [vg, ih]; rfl
theorem BC {F : Nd} (hF : gg F = true) : ∀ {n : Nat}, n ≤ F.len → ∀ X, Hs F n = .ok X → X.length = aP F 0 n := by
 intro n
 induction n with
 |zero =>
  intro _ X e
  unfold Hs at e
  obtain ⟨_, _, h2⟩ := bb e
  injection h2 with h2; subst h2; rfl
 |succ n ih =>
  intro hn X e
  rw [vg] at e
  obtain ⟨Y, h1, h2⟩ := bb e
  rw [Hq (uh hF (by omega)) h2, ih (by omega) Y h1, iC]
theorem Tj {F : Nd} : (CR.bind (Hs F 0) fun X => .ok (([] : Sc), X)) = CR.bind (forN (ld F) F.len ()) fun _ => .ok ([], [0]) := by
 unfold Hs
 cases forN (ld F) F.len () <;> rfl
theorem Lr (F : Nd) (w : World) (v : Value) (hi : Nat) (hF : gg F = true) (hf : F.Fine) (gW : hi ≤ w.heap.size) (hr : Row 0 hi w F v) (ny : F.cost ≤ 1048576) :
    Calls Tryd.prog 34 #[F.val v] w fun e w' => ∃ (K : SK) (w2 : World) (vT : Option Nat) (E : Sc) (r : Int), e = .returned (.pointer (some ⟨K.cb, 0, none⟩)) ∧ K.F = F ∧ K.N = F.size ∧ w.heap.size ≤ K.lo ∧ SS K w2 vT (CR.bind (lT F) fun X => .ok (E, X)) r 0 0 w' ∧ Below w.heap.size w w' := by
  have hz := F.size_cost
  have hn := F.fine_len hf
  have vU : F.size ≤ 600 := by unfold gg at hF; simp only [Bool.and_eq_true, decide_eq_true_eq] at hF; exact hF.1.1.1.1
  obtain ⟨a, cap, hv, bQ, hq⟩ := ar.1 hr
  subst hv
  have HMK := aa (zo F.size (by omega))
  have hmk := zo F.size (by omega)
  have pw := aa (fun o => bO w o)
  have Pq := aa (fun W (hb : Below w.heap.size w W) => Cq F W _ hi hf (Nat.le_trans gW hb.size) (ae hb gW hr) ny)
  have HRW := aa (fun W (hb : Below w.heap.size w W) => ae hb gW hr)
  unfold Nd.val at *
  have sV := aa hr
  clear hr hq
  go_enter Tryd.func34, Tryd.ntmps34
  go_wp2
  go_region_held3 (fun W => W.cell? ⟨w.heap.size, 0, none⟩ = some (.int .i64 F.kind) ∧ W.cell? ⟨w.heap.size, 1, none⟩ = some (.int .i64 F.num) ∧ W.cell? ⟨w.heap.size, 2, none⟩ = some (.string F.name) ∧ W.cell? ⟨w.heap.size, 3, none⟩ = some (.slice a F.len cap)) (go_keep) (first
    | (go_at_call 49; refine (Pq.out _ (pw.out _).drew).mono ?_; rintro e w1 ⟨rfl, hb1⟩; have q0 : w1.cell? ⟨w.heap.size, 0, none⟩ = some (.int .i64 F.kind) := (hb1.cell (p := ⟨w.heap.size, 0, none⟩) (by simp)).trans (by simp); have q1 : w1.cell? ⟨w.heap.size, 1, none⟩ = some (.int .i64 F.num) := (hb1.cell (p := ⟨w.heap.size, 1, none⟩) (by simp)).trans (by simp); have q2 : w1.cell? ⟨w.heap.size, 2, none⟩ = some (.string F.name) := (hb1.cell (p := ⟨w.heap.size, 2, none⟩) (by simp)).trans (by simp); have q3 : w1.cell? ⟨w.heap.size, 3, none⟩ = some (.slice a F.len cap) := (hb1.cell (p := ⟨w.heap.size, 3, none⟩) (by simp)).trans (by simp); have HBS := aa hb1; clear hb1))
  have I7 : Hid (Below w.heap.size w w1) := (pw.out _).drew.trans (HBS.out.mono (by simp))
  have yg : w.heap.size + 1 ≤ w1.heap.size := by have := HBS.out.size; simpa using this
  obtain ⟨K, hK⟩ : ∃ K : SK, K = ⟨w1.heap.size + 1, w1.heap.size, w1.heap.size, w1.heap.size + 2, F.size, F, .slice a F.len cap⟩ := ⟨_, rfl⟩
  obtain ⟨zu, ktb, klo, kup, kN, kF, kfv⟩ : K.cb = w1.heap.size + 1 ∧ K.tb = w1.heap.size ∧ K.lo = w1.heap.size ∧ K.up = w1.heap.size + 2 ∧ K.N = F.size ∧ K.F = F ∧ K.fv = .slice a F.len cap := by subst hK; exact ⟨rfl, rfl, rfl, rfl, rfl, rfl, rfl⟩
  have Td : K.Ok := ⟨by omega, by omega, by omega, by omega, by omega, by omega, .inl (by omega)⟩
  have HS0 : Hid (SRaw K ((w1.alloc (.cells (Array.replicate F.size (.int .i64 0)) 3)).alloc (.cells #[.int .i64 F.kind, .int .i64 F.num, .string F.name, .slice a F.len cap, .slice (some ⟨w1.heap.size, 0, none⟩) F.size F.size, .int .i64 0, .int .i64 0, .slice none 0 0, .int .i64 0, .int .i64 0, .int .i64 0, .int .i64 0] 70)) (.slice none 0 0) 0 0 0 0 0 0 (List.replicate F.size 0) []) := by
    refine ⟨?_, ?_, by rw [List.length_replicate, kN], World.ownsRow_nil _ _ _ _⟩
    · rw [zu]
      have := heap_alloc_new (w1.alloc (.cells (Array.replicate F.size (.int .i64 0)) 3)) (.cells #[.int .i64 F.kind, .int .i64 F.num, .string F.name, .slice a F.len cap, .slice (some ⟨w1.heap.size, 0, none⟩) F.size F.size, .int .i64 0, .int .i64 0, .slice none 0 0, .int .i64 0, .int .i64 0, .int .i64 0, .int .i64 0] 70)
      simp only [World.size_alloc] at this
      rw [this]
      unfold SK.cells
      rw [kF, kfv, ktb, kN]
    · rw [ktb, Below.heap_alloc _ _ _ (by simp), heap_alloc_new]
      simp
  have hszW : ((w1.alloc (.cells (Array.replicate F.size (.int .i64 0)) 3)).alloc (.cells #[.int .i64 F.kind, .int .i64 F.num, .string F.name, .slice a F.len cap, .slice (some ⟨w1.heap.size, 0, none⟩) F.size F.size, .int .i64 0, .int .i64 0, .slice none 0 0, .int .i64 0, .int .i64 0, .int .i64 0, .int .i64 0] 70)).heap.size = w1.heap.size + 2 := by simp
  have tz : K.lo ≤ K.cb := by omega
  have Sh : K.lo ≤ K.tb := by omega
  have hup1 : K.cb + 1 ≤ ((w1.alloc (.cells (Array.replicate F.size (.int .i64 0)) 3)).alloc (.cells #[.int .i64 F.kind, .int .i64 F.num, .string F.name, .slice a F.len cap, .slice (some ⟨w1.heap.size, 0, none⟩) F.size F.size, .int .i64 0, .int .i64 0, .slice none 0 0, .int .i64 0, .int .i64 0, .int .i64 0, .int .i64 0] 70)).heap.size := by omega
  have hup2 : K.tb + 1 ≤ ((w1.alloc (.cells (Array.replicate F.size (.int .i64 0)) 3)).alloc (.cells #[.int .i64 F.kind, .int .i64 F.num, .string F.name, .slice a F.len cap, .slice (some ⟨w1.heap.size, 0, none⟩) F.size F.size, .int .i64 0, .int .i64 0, .slice none 0 0, .int .i64 0, .int .i64 0, .int .i64 0, .int .i64 0] 70)).heap.size := by omega
  have EF : Hid (Row 0 K.lo w1 F (.slice a F.len cap)) := cD (ae I7.out gW sV.out) lr (by omega)
  have C7 : Hid (Below K.lo w1 ((w1.alloc (.cells (Array.replicate F.size (.int .i64 0)) 3)).alloc (.cells #[.int .i64 F.kind, .int .i64 F.num, .string F.name, .slice a F.len cap, .slice (some ⟨w1.heap.size, 0, none⟩) F.size F.size, .int .i64 0, .int .i64 0, .slice none 0 0, .int .i64 0, .int .i64 0, .int .i64 0, .int .i64 0] 70))) := ((Below.refl _ _).alloc (by omega) _).alloc (by simp; omega) _
  have HQ : Hid (∀ W, Below K.lo w1 W → W.cell? ⟨w.heap.size, 0, none⟩ = some (.int .i64 F.kind) ∧ W.cell? ⟨w.heap.size, 1, none⟩ = some (.int .i64 F.num) ∧ W.cell? ⟨w.heap.size, 2, none⟩ = some (.string F.name) ∧ W.cell? ⟨w.heap.size, 3, none⟩ = some (.slice a F.len cap)) := by
    intro W hb
    have hc : ∀ o, W.cell? ⟨w.heap.size, o, none⟩ = w1.cell? ⟨w.heap.size, o, none⟩ := fun o => hb.cell (p := ⟨w.heap.size, o, none⟩) (by show w.heap.size < K.lo; omega)
    exact ⟨(hc _).trans q0, (hc _).trans q1, (hc _).trans q2, (hc _).trans q3⟩
  clear q0 q1 q2 q3
  have hkcb : w1.heap.size + 1 = K.cb := zu.symm
  simp only [hkcb] at *
  generalize Hn : ((w1.alloc (.cells (Array.replicate F.size (.int .i64 0)) 3)).alloc (.cells #[.int .i64 F.kind, .int .i64 F.num, .string F.name, .slice a F.len cap, .slice (some ⟨w1.heap.size, 0, none⟩) F.size F.size, .int .i64 0, .int .i64 0, .slice none 0 0, .int .i64 0, .int .i64 0, .int .i64 0, .int .i64 0] 70)) = W0 at *
  clear Hn
  have cK := aa (ly F W0 _ K.lo 0 hf (by rw [klo]; exact C7.out.size) (ae C7.out lr EF.out) ny (by omega))
  unfold Nd.val at cK
  rw [show ((0 : Nat) : Int) = 0 from rfl] at cK
  obtain ⟨bx0, bx1, bx2, bx3⟩ := HQ.out W0 C7.out
  have HKC := aa (fun (h0 : F.len ≠ 0) => mJ EF.out h0)
  have HINI : Hid (∀ w2, Below W0.heap.size W0 w2 → SS K w2 none (.ok ([], [0])) 0 0 0 w2) := fun w2 hb => SS.take (s := ([], [])) ⟨Td, ⟨.slice none 0 0, 0, 0, 0, List.replicate F.size 0, [], HS0.out.calm hb, ⟨rfl, rfl, rfl, by rw [kN]; rfl, Nat.zero_le _, rfl, Nat.zero_le _, Nat.zero_le _⟩, .inl rfl⟩, Kept.refl _ _⟩ (by rw [kN]; have := F.size_eq; show 0 + 1 ≤ _; omega)
  have AH : Hid (∀ w2, Below W0.heap.size W0 w2 → ∀ W, Kept (K.S none) w2 W → Below K.lo w1 W) := fun w2 hb W hk => C7.out.trans ((hb.mono (by omega)).trans (hk.below (by have := hb.size; omega) (fun k h => by rcases h with h | h | h; omega; omega; cases h)))
  have HATC : Hid (∀ w2 u, Below W0.heap.size W0 w2 → LX w2 W0.heap.size u F.len (fun i => (aP F 0 i : Nat)) → F.len ≠ 0 → ∃ g off cap, u = .slice (some ⟨g, off, none⟩) F.len cap ∧ (F.len ≤ cap ∧ cap ≤ 9223372036854775807) ∧ ∀ W, Kept (K.S none) w2 W → ∀ i, i < F.len → W.cell? ⟨g, off + i, none⟩ = some (.int .i64 (aP F 0 i : Nat))) := by
    intro w2 u hb ha h0
    obtain ⟨a1, c1, e1, e2, e3, e4⟩ := ha
    rcases e4 with e | ⟨g, off, rfl, p1, p2, p3⟩
    · exact absurd e h0
    refine ⟨g, off, c1, e1, ⟨e2, e3⟩, fun W hk i nx => ?_⟩
    rw [World.cell?_of_block (a := ⟨g, off + i, none⟩) (hk.block g p2 (by rintro (h | h | h); omega; omega; cases h))]
    exact p3 i nx
  have fH := rJ
  clear Td hK hmk HMK Pq HRW pw HBS
  go_wp2_with (go_at_call 50; refine cK.out.mono ?_; rintro e w2 ⟨u, rfl, bl, hb2⟩; have bH := HINI.out w2 hb2; have S3 := HATC.out w2 u hb2 bl; obtain ⟨y0, y1, y2, y3⟩ := HQ.out w2 (AH.out w2 hb2 w2 (Kept.refl _ _)); have k5 := bH.code0; have GF : ∃ a' ca, u = .slice a' F.len ca ∧ F.len ≤ ca ∧ ca ≤ 9223372036854775807 := (by obtain ⟨z1, z2, z3, z4, z5, _⟩ := bl; exact ⟨z1, z2, z3, z4, z5⟩); have lD := aa bH; have HAT := aa S3; have EL := aa (AH.out w2 hb2); have HW2 := aa hb2; clear bH S3 bl hb2)
  obtain ⟨a', ca, rfl, Ow, hca2⟩ := GF
  go_loopw [5] (fun i wr => ∃ n : Nat, n ≤ F.len ∧ i = .int .i64 n ∧ SS K w2 none (CR.bind (forN (ld F) n ()) fun _ => .ok ([], [0])) 0 0 0 wr) (fun i _ => F.len - (intOf i).toNat)
  case atStart => exact ⟨0, Nat.zero_le _, rfl, lD.out⟩
  case round =>
    obtain ⟨n, Sf, rfl, gS⟩ := hrel
    have kU := EL.out _ gS.kept
    obtain ⟨x0, x1, x2, x3⟩ := HQ.out wr kU
    by_cases bm : n < F.len
    · have hni : (n : Int) < (F.len : Int) := by omega
      cases hq : forN (ld F) n () with
      | error e0 =>
        rw [hq] at gS
        obtain ⟨code, k5', hz'⟩ := gS.code1
        have HSE : Hid (SS K w2 none (CR.bind (forN (ld F) F.len ()) fun _ => .ok ([], [0])) 0 0 0 wr) := by unfold Hid; rw [z8 hq Sf]; exact gS
        clear gS hq
        exact bV0
      | ok un =>
        rw [hq] at gS
        have k5' := gS.code0
        obtain ⟨g, off, ph, RC, tf, ME, bz⟩ := HKC.out (by omega)
        injection RC with K6 ev2 K5
        subst K6
        subst K5
        obtain ⟨ga, oa, ca', RD, hca', iH⟩ := HAT.out (by omega)
        injection RD with eu1 eu2 eu3
        subst eu1
        subst eu3
        obtain ⟨ud, yH, zD⟩ := bz n bm
        obtain ⟨c0, c1, c2, c3⟩ := yH _ kU
        have an := iH _ gS.kept n bm
        have EP : K.lo ≤ wr.heap.size := by have := gS.lt; omega
        have HFI := aa (Ad F wr.drew _ K.lo (F.kids n).name hf EP (ae kU.drew lr EF.out))
        unfold Nd.val at HFI
        have VT : Hid (forN (ld F) (n + 1) () = ld F n ()) := by unfold Hid; simp only [forN, hq]; rfl
        have po := aa gS
        have HCN := aa yH
        have HAVV := aa iH
        by_cases P8 : findF F (F.kids n).name = some n
        · have hfi : pa F (F.kids n).name = n := by unfold pa; rw [P8]
          have HTW : Hid (ld F n () = .ok ()) := by unfold Hid ld; rw [if_pos P8]
          rw [hfi] at HFI
          clear gS hq yH zD bz iH hfi P8
          go_wp2
          go_region_held3 (fun W => W.cell? ⟨w.heap.size, 0, none⟩ = some (.int .i64 F.kind) ∧ W.cell? ⟨w.heap.size, 1, none⟩ = some (.int .i64 F.num) ∧ W.cell? ⟨w.heap.size, 2, none⟩ = some (.string F.name) ∧ W.cell? ⟨w.heap.size, 3, none⟩ = some (.slice (some ⟨g, off, none⟩) F.len cap) ∧ W.cell? ⟨g, off + n * 4 + 2, none⟩ = some (.string (F.kids n).name)) (go_keep) (first
            | (go_at_call 51; refine HFI.out.mono ?_; rintro e w5 ⟨rfl, CE⟩; have qu := po.out.drew.calm CE; obtain ⟨x0, x1, x2, x3⟩ := HQ.out w5 (EL.out _ qu.kept); obtain ⟨c0, c1, c2, c3⟩ := HCN.out _ (EL.out _ qu.kept); have wk := aa qu; clear CE qu))
          go_wp2
          refine ⟨⟨n + 1, by omega, by go_num, ?_⟩, by simp [intOf]; omega⟩
          rw [VT.out, HTW.out]
          exact wk.out
        · have hfi : ((pa F (F.kids n).name) == (n : Int)) = false := by
            refine bn fun e => P8 ?_
            unfold pa at e
            cases hx : findF F (F.kids n).name with
            | none => rw [hx] at e; have e' : (-1 : Int) = n := e; exact absurd e' (by omega)
            | some j => rw [hx] at e; have e' : (j : Int) = n := e; have e2 : j = n := by omega
                        rw [e2]
          have HTW : Hid (ld F n () = .error (6, aP F 0 n)) := by unfold Hid ld; rw [if_neg P8]; simp [aP]
          generalize pa F (F.kids n).name = fi at *
          clear gS hq yH zD bz iH P8
          go_wp2
          go_region_held3 (fun W => W.cell? ⟨w.heap.size, 0, none⟩ = some (.int .i64 F.kind) ∧ W.cell? ⟨w.heap.size, 1, none⟩ = some (.int .i64 F.num) ∧ W.cell? ⟨w.heap.size, 2, none⟩ = some (.string F.name) ∧ W.cell? ⟨w.heap.size, 3, none⟩ = some (.slice (some ⟨g, off, none⟩) F.len cap) ∧ W.cell? ⟨g, off + n * 4 + 2, none⟩ = some (.string (F.kids n).name)) (go_keep) (first
            | (go_at_call 51; refine HFI.out.mono ?_; rintro e w5 ⟨rfl, CE⟩; have qu := po.out.drew.calm CE; obtain ⟨x0, x1, x2, x3⟩ := HQ.out w5 (EL.out _ qu.kept); obtain ⟨c0, c1, c2, c3⟩ := HCN.out _ (EL.out _ qu.kept); have an := HAVV.out _ qu.kept n bm; have wk := aa qu; clear CE qu))
          go_wp2_with (first
            | (go_at_call 52; refine (gJ wk.out 6 (by decide) (aP F 0 n)).mono ?_; rintro e w6 ⟨rfl, Av⟩; have E3 := aa Av; clear Av))
          refine ⟨⟨n + 1, by omega, by go_num, ?_⟩, by simp [intOf]; omega⟩
          rw [VT.out, HTW.out]
          exact E3.out
    · obtain rfl : n = F.len := by omega
      have HSE := aa gS
      clear gS
      exact bV0
def Ff (T : Nd) : List Int := if gg T then (match lT T with | .ok X => X | .error _ => []) else []
def qA (T : Nd) : Int := if gg T then (match lT T with | .ok _ => 0 | .error p => p.1) else 1
def Gb (T : Nd) : Int := if gg T then (match lT T with | .ok _ => 0 | .error p => (p.2 : Int)) else 0
structure Done (T : Nd) (w w' : World) (cb : Nat) : Prop where
 code : w'.cell? ⟨cb, 5, none⟩ = some (.int .i64 (match lT T with | .ok _ => 0 | .error p => p.1))
 place : w'.cell? ⟨cb, 6, none⟩ = some (.int .i64 (match lT T with | .ok _ => 0 | .error p => (p.2 : Int)))
 nz : ∀ p, lT T = .error p → p.1 ≠ 0
 lt : w.heap.size ≤ cb ∧ cb < w'.heap.size
 types : ∀ X, lT T = .ok X → ∃ tb, w'.cell? ⟨cb, 4, none⟩ = some (.slice (some ⟨tb, 0, none⟩) X.length X.length) ∧ w'.ownsRow w.heap.size 3 1 (.slice (some ⟨tb, 0, none⟩) X.length X.length) X.length (X.map (Value.int .i64))
 below : Below w.heap.size w w'
theorem It (T : Nd) (w : World) (v : Value) (hi : Nat) (ht : gg T = true) (hf : T.Fine) (gW : hi ≤ w.heap.size) (hr : Row 0 hi w T v) (ny : T.cost ≤ 1048576) :
  Calls Tryd.prog 34 #[T.val v] w fun e w' => ∃ cb, e = .returned (.pointer (some ⟨cb, 0, none⟩)) ∧ Done T w w' cb := by
 refine (Lr T w v hi ht hf gW hr ny).mono ?_
 rintro e w' ⟨K, w2, vT, E, r, rfl, hF, hN, lh, gS, hb⟩
 have vU : T.size ≤ 600 := by unfold gg at ht; simp only [Bool.and_eq_true, decide_eq_true_eq] at ht; exact ht.1.1.1.1
 obtain ⟨vv, code, place, deep, zs, vs, rH, ET, _⟩ := gS.is
 have ax := gS.ok
 have sf := ax.cl
 have htl := ax.tl
 have bm := gS.lt
 have hc : ∀ o, w'.cell? ⟨K.cb, o, none⟩ = (K.cells vv code place deep r 0 0)[o]? := fun o => cell_of_row _ _ _ _ _ (0, 0) rH.blk
 refine ⟨K.cb, rfl, ?_, ?_, ?_, ⟨by omega, bm.1⟩, ?_, hb⟩
 ·rw [hc]
  cases hM : lT T with
  |ok X => rw [hM] at ET; obtain ⟨h1, _⟩ := ET; subst h1; rfl
  |error p => rw [hM] at ET; obtain ⟨h1, _⟩ := ET; subst h1; rfl
 ·rw [hc]
  cases hM : lT T with
  |ok X => rw [hM] at ET; obtain ⟨_, h1, _⟩ := ET; subst h1; rfl
  |error p => rw [hM] at ET; obtain ⟨_, _, h1⟩ := ET; subst h1; rfl
 ·intro p hM
  rw [hM] at ET
  exact ET.2.1
 ·intro X hM
  have hX : X.length = T.size := by
   have := BC ht lr X hM
   rw [this, qg]; omega
  rw [hM] at ET
  obtain ⟨_, _, _, Ri, _⟩ := ET
  have Rh : zs = X := by
   have e : K.N - X.length = 0 := by omega
   have Rg : zs = X ++ List.replicate (K.N - X.length) 0 := Ri
   rw [e] at Rg; simpa using Rg
  have hNX : K.N = X.length := by omega
  refine ⟨K.tb, ?_, by simp, .inr ⟨K.tb, X.length, _, rfl, ?_, rH.typ, Nat.le_refl _, ?_, ?_, ?_⟩⟩
  ·rw [hc, ← hNX]; rfl
  ·omega
  ·have : X.length ≤ 600 := by omega
   exact Nat.le_trans this (by decide)
  ·subst Rh; simp
  ·subst Rh; rw [Nat.mul_one]; exact List.take_of_length_le (by simp)
end Go.Proofs.YtkfbbdhidecefaaDoor
