import Derived.Test.YteaocammohcgoaaGreatDoorQKdN
import Derived.Deep.RegionHeld3
set_option linter.unusedVariables false
set_option maxHeartbeats 16000000
set_option maxRecDepth 100000
namespace Go.Proofs.YteaocammohcgoaaGreatDoor
open Go.RowKit
variable {G : Prop}
theorem bP0 (h : G := by
 go_wp2
 have HKEP := aa HSE.out.kept
 clear x0 x1 x2 x3 eJ
 go_loopw [6] (fun i wr => ∃ n : Nat, n ≤ F.len ∧ i = .int .i64 n ∧ ∃ wz Hd E r, SS K wz Hd (CR.bind (xC F n) fun X => .ok (E, X)) r 0 0 wr ∧ Kept (K.S none) w2 wr) (fun i _ => F.len - (intOf i).toNat)
 case atStart => exact ⟨0, Nat.zero_le _, rfl, _, _, [], 0, by rw [Sm]; exact HSE.out, HKEP.out⟩
 case round =>
  obtain ⟨n2, vD, rfl, wz, Hd, E, r, cr, dD⟩ := hrel
  have eJ := BA.out _ dD
  obtain ⟨x0, x1, x2, x3⟩ := HQ.out _ eJ
  have Bz := aa (fc.out.trans (eJ.mono (by omega)))
  by_cases AY : n2 < F.len
  ·have hni2 : (n2 : Int) < (F.len : Int) := by omega
   cases hq : xC F n2 with
   |error e0 =>
    rw [hq] at cr
    obtain ⟨code2, LB, hz''⟩ := cr.code1
    have VW : Hid (dp F = .error e0) := y4 hq vD
    have iK := aa cr
    clear cr hq
    go_wp2
    go_ret
    exact ⟨K, wz, Hd, E, r, rfl, kF, kN, by omega, by rw [VW.out]; exact iK.out, Bz.out⟩
   |ok X =>
    rw [hq] at cr
    have LB := cr.code0
    obtain ⟨g2, off2, cap2, hv2, hgl2, hcap2, Kj⟩ := HKC.out (by omega)
    injection hv2 with ti Kz th
    subst ti
    subst th
    obtain ⟨ga2, oa2, ca2, Hu, hca2', R0⟩ := KT.out (by omega)
    injection Hu with eu1 eu2 eu3
    subst eu1
    subst eu3
    obtain ⟨ud, kE, jG⟩ := Kj n2 AY
    obtain ⟨c0, c1, c2, c3⟩ := kE _ eJ
    have an := R0 _ dD n2 AY
    obtain ⟨ownr, hsr, _, _, _⟩ := cr.drew.restart
    have hXl := te hF vD X hq
    have Oa := aa (MM (K := K) (jJ hF AY) ownr E X r _ ud hsr ⟨by rw [kF]; exact hf, by rw [kF, kfv]; exact ah eJ.drew lr FO.out, by rw [kF]; exact hF⟩ ⟨Nd.fine_kid hf AY, ah eJ.drew lr jG, Nat.le_trans (F.cost_kid AY) eS⟩ (by rw [hXl, kN]; have := bP F 0 AY; omega))
    unfold Nd.val at Oa
    rw [hXl, kF] at Oa
    have kB := aa (nu F n2)
    rw [hq] at kB
    have HKK := aa dD
    clear cr hq dD hsr kE jG Kj R0 eJ
    go_wp2
    go_still_tail 10, bI
    go_wp2_with (go_at_call 47; refine Oa.out.mono ?_; rintro e w5 ⟨rfl, w6, own6, E6, uF, oS, hk6⟩; have ya := aa uF; have HK6 := aa hk6; clear uF oS hk6)
    refine ⟨⟨n2 + 1, by omega, by go_num, w6, own6, E6, (F.kids n2).num, ?_, ?_⟩, by simp [intOf]; omega⟩
    ·rw [kB.out]
     exact ya.out
    ·exact HKK.out.drew.trans HK6.out (fun _ _ h => h)
  ·obtain rfl : n2 = F.len := by omega
   have iK := aa cr
   clear cr
   go_wp2
   go_ret
   exact ⟨K, wz, Hd, E, r, rfl, kF, kN, by omega, iK.out, Bz.out⟩) : G := h
theorem bP1 (h : G := by
 rw [hb] at FS
 have HB := aa hb
 clear hb
 have k_1 := kk
 exact bP2) : G := h
theorem bP2 (h : G := by
 go_wp2
 go_region_held3 (fun W => W.cell? ⟨w.heap.size, 3, none⟩ = some (.slice (some ⟨g, off, none⟩) T.len cap) ∧ W.cell? ⟨g, off + n * 4, none⟩ = some (.int .i64 B.kind) ∧ W.cell? ⟨g, off + n * 4 + 1, none⟩ = some (.int .i64 B.num) ∧ W.cell? ⟨g, off + n * 4 + 2, none⟩ = some (.string B.name) ∧ W.cell? ⟨g, off + n * 4 + 3, none⟩ = some (.slice aB B.len cB) ∧ W.cell? ⟨ga, oa + n, none⟩ = some (.int .i64 (pb : Nat))) (go_keep) (first
  |(go_at_call 44; refine V6.out.mono ?_; rintro e w3 ⟨u3, rfl, pY, hb3⟩; obtain ⟨eR, bW, mJ, xw, xt⟩ := HSA.out w3 u3 hb3 pY; obtain ⟨us, qY⟩ := FM.out w3 eR u3 pY xw xt; have If := mJ _ _ _ _ _ bW; obtain ⟨d0, d1, d2, d3⟩ := HG.out.box _ _ _ _ _ If; obtain ⟨c0, c1, c2, c3⟩ := Jw.out _ (HG.out.below _ _ _ _ _ If); have an := gM.out _ _ _ _ _ If n BG; rw [BS.out] at an; have NO := aa qY; have Oi := aa mJ; have fa := aa bW; clear bW mJ xw xt qY pY hb3 If)
  |(go_at_call 72; refine (zy.out w3 eR u3 us NO.out _ fa.out).mono ?_; rw [NN.out]; rintro e w5 ⟨rfl, jh⟩; have xm := Oi.out _ _ _ _ _ jh; obtain ⟨d0, d1, d2, d3⟩ := HG.out.box _ _ _ _ _ xm; obtain ⟨c0, c1, c2, c3⟩ := Jw.out _ (HG.out.below _ _ _ _ _ xm); have an := gM.out _ _ _ _ _ xm n BG; rw [BS.out] at an; have LB := xm.code0; have l7 := aa xm; have yk := aa (HG.out.below _ _ _ _ _ xm); clear jh xm))
 first
 |clear k_0
  go_wp2
  go_end0
  exact ⟨rfl, _, none, s2.1, by rw [Pc.out _ NN.out, if_neg (fun h => h.1 H0.out)]; exact l7.out, yk.out, Jo.out _ _ _ _ _ l7.out⟩
 |clear k_1
  first
  |clear k_0
   go_wp2_with (go_at_call 73; refine (FS.out _ yk.out).mono ?_; rintro e w6 ⟨rfl, oS⟩; have ya := aa (l7.out.calm oS); have HBL6 := aa (yk.out.trans (oS.mono (Nat.le_trans (by have := yk.out.size; omega) lr))); clear oS)
   go_end0
   exact ⟨rfl, _, none, s2.1, by rw [Pc.out _ NN.out, if_neg (fun h => by rw [HB.out] at h; cases h.2)]; exact ya.out, HBL6.out, Jo.out _ _ _ _ _ ya.out⟩
  |clear k_1
   go_wp2_with (first
    |(go_at_call 73; refine (FS.out _ yk.out).mono ?_; rintro e w6 ⟨rfl, oS⟩; have ya := aa (l7.out.calm oS); clear oS)
    |(go_at_call 46; refine (dW ya.out 9 (by decide) p).mono ?_; rintro e w7 ⟨rfl, hs7⟩; have HBL7 := aa (HG.out.below _ _ _ _ _ hs7); have HS7 := aa hs7; clear hs7))
   go_end0
   exact ⟨rfl, _, none, s2.1, by rw [Pc.out _ NN.out, if_pos ⟨H0.out, HB.out⟩]; exact HS7.out, HBL7.out, Jo.out _ _ _ _ _ HS7.out⟩) : G := h
theorem EB {T : Nd} (h : cZ T = true) : T.kind = 2 ∧ 1 ≤ T.len ∧ (∀ i, i < T.len - 1 → (T.kids i).len = 0 ∧ aR (T.kids i).name = true ∧ 1 ≤ (T.kids i).num) ∧ (T.kids (T.len - 1)).kind = 4 ∧ (T.kids (T.len - 1)).sOk = true ∧ 0 ≤ T.num := by
 unfold cZ at h
 simp only [Bool.and_eq_true, decide_eq_true_eq] at h
 obtain ⟨⟨⟨⟨h1, h2⟩, h3⟩, h4⟩, h5, h6, h7⟩ := h
 refine ⟨h1, h4, fun i hi => ?_, h6, h7, h3.1⟩
 have := dy.1 h5 i hi
 unfold fF at this
 simp only [Bool.and_eq_true, decide_eq_true_eq] at this
 exact ⟨this.2, this.1.1.2, this.1.2.1⟩
def j4 (T : Nd) (X : List Int) (n : Nat) : CR CS := forN (mD T) n ([[]], X ++ [0])
theorem lM (T : Nd) (X : List Int) (n : Nat) : j4 T X (n + 1) = CR.bind (j4 T X n) (mD T n) := rfl
theorem sI {T : Nd} {X : List Int} {m : Nat} (hp : ∀ i, i < m → (T.kids i).len = 0) : ∀ {n : Nat}, n ≤ m → ∀ s, j4 T X n = .ok s → s.2.length = aV T X.length n ∧ s.1 ≠ [] ∧ aO s.1 ≤ n ∧ n ≤ s.2.length := by
 intro n
 induction n with
 |zero =>
  intro _ s e
  injection e with e; subst e
  exact ⟨by simp [aV, aw], by simp, by simp [aO], Nat.zero_le _⟩
 |succ n ih =>
  intro hn s e
  rw [lM] at e
  obtain ⟨s0, h1, h2⟩ := bg e
  obtain ⟨q1, q2, q3, q4⟩ := ih (by omega) s0 h1
  unfold mD at h2
  split at h2
  ·cases h2
  ·injection h2 with h2; subst h2
   have hz : (T.kids n).size = 1 := by rw [(T.kids n).size_eq, hp n (by omega)]; rfl
   obtain ⟨p1, p2, p3⟩ := lL q2 (T.kids n).name (T.kids n).num
   refine ⟨by rw [eW, hz]; simp [q1], ?_, ?_, ?_⟩
   ·intro h0; apply q2; have p6 : fW s0.1 (T.kids n).name (T.kids n).num = [] := h0; rw [p6] at p2; exact List.length_eq_zero_iff.1 p2.symm
   ·show aO (fW s0.1 (T.kids n).name (T.kids n).num) ≤ _; omega
   ·simp; omega
def xz (F T : Nd) (X : List Int) (E : Sc) : CR CS := CR.bind (ja F T X) fun X' => .ok (E, X')
theorem MP {F T : Nd} {X : List Int} {e : Int × Nat} (h : j4 T X (T.len - 1) = .error e) : xz F T X [] = .error e := by
 unfold xz ja; unfold j4 at h; rw [h]; rfl
theorem MO {F T : Nd} {X : List Int} {s1 : CS} {e : Int × Nat} (h : j4 T X (T.len - 1) = .ok s1) (h2 : gI F (T.kids (T.len - 1)) ⟨T.num, 0, 0⟩ 0 (T.kids (T.len - 1)).len (.ok (ab s1)) = .error e) (hk : (T.kids (T.len - 1)).kind = 4) : xz F T X [] = .error e := by
 unfold xz ja; unfold j4 at h; rw [h, CR.bind_ok, jm F (by omega)]
 unfold gI at h2
 simp only [CR.bind_ok, Nat.zero_add] at h2
 unfold oC
 rw [h2]; rfl
theorem MN {F T : Nd} {X : List Int} {s1 s2 : CS} (h : j4 T X (T.len - 1) = .ok s1) (h2 : gI F (T.kids (T.len - 1)) ⟨T.num, 0, 0⟩ 0 (T.kids (T.len - 1)).len (.ok (ab s1)) = .ok s2) (hk : (T.kids (T.len - 1)).kind = 4) : xz F T X s2.1 = if T.num ≠ 0 ∧ fz (T.kids (T.len - 1)) = false then .error (9, X.length) else .ok s2 := by
 unfold xz ja; unfold j4 at h; rw [h, CR.bind_ok, jm F (by omega)]
 unfold gI at h2
 simp only [CR.bind_ok, Nat.zero_add] at h2
 unfold oC
 rw [h2, CR.bind_ok]
 split <;> rfl
theorem xA {K : SK} {w w1 : World} {o : Obj} {r : Int} (hb : Below (w.alloc o).heap.size (w.alloc o) w1) : ∀ W σ r' l o', SS K (ef K w1 r) none σ r' l o' W → Kept (K.S none) w W := by
 intro W σ r' l o' h
 have h1 : Kept (K.S none) w w1 := bQ (((Below.refl _ _).alloc lr o).trans (hb.mono (by simp))) _
 have h2 : Kept (K.S none) w1 (ef K w1 r) := ⟨by simp [ef, World.setCell], by simp [ef, World.setCell], by simp [ef, World.setCell], by rw [jt]; exact Nat.le_refl _, fun k _ hn => ju K w1 r k (fun e => hn (.inl e))⟩
 exact (h1.trans h2 (fun _ _ h => h)).trans h.kept (fun _ _ h => h)
def FuS (K : SK) (T : Nd) : Prop := ∀ (own : Option Nat) (E : Sc) (X : List Int) (ret : Int) (w : World) (v : Value), SS K w own (.ok (E, X)) ret 0 0 w → SEnv K w → SNd K w T v → X.length + T.size ≤ K.N →
 Calls Tryz.prog 47 #[.pointer (some ⟨K.cb, 0, none⟩), T.val v, .int .i64 X.length] w fun e w' => e = .returned (.tuple #[]) ∧ ∃ w2 qU E', SS K w2 qU (xz K.F T X E') T.num 0 0 w' ∧ Below K.lo w w' ∧ Kept (K.S none) w w'
theorem MM {K : SK} {T : Nd} (hF : cZ T = true) : FuS K T := by
 intro own E X ret w v hS hE hN aq
 obtain ⟨hk, hl, uI, q8, jD, Ms⟩ := EB hF
 have dm := hS.ok.few
 have bB := hS.lt
 have yX := hS.ok.cl
 have hn := T.fine_len hN.fine
 obtain ⟨m, hm⟩ : ∃ m, T.len = m + 1 := ⟨T.len - 1, by omega⟩
 have FE : T.len - 1 = m := by omega
 obtain ⟨g, off, cap, hv, iW, b7, aQ⟩ := cN hN.row (by omega)
 subst hv
 rw [FE] at q8 jD
 have Rz : X.length + 1 ≤ K.N := by have := T.size_eq; omega
 have cC := aa (fun o => fP T (w.alloc o) _ K.lo X.length hN.fine (by simp; omega) (ah (hS.box o) lr hN.row) hN.cost (by omega))
 have ik := aa (fun (w1 : World) (u : Value) (t : TypeId) hb ha => Ay (w1 := w1) (T := T) (v := .slice (some ⟨g, off, none⟩) T.len cap) (p := X.length) (u := u) (t := t) hS T.num hb ha)
 have NZ := aa (fun n (hn : n ≤ m) => sI (X := X) (m := m) (fun i hi => (uI i (by omega)).1) hn)
 have Ia := bP T X.length (i := m) (by omega)
 have kH := aa aQ
 have BX := aa hE
 have KP := aa hN
 have HM := aa hm
 have Fk := aa (fun o w1 (hb : Below (w.alloc o).heap.size (w.alloc o) w1) => (hS.alloc o).calm hb)
 have bI := jz
 unfold Nd.val at *
 have N6 := aa (fun i (h : i < T.len) => bP T X.length h)
 have yY : (T.len : Int) - 1 = m := by omega
 have BG : m < T.len := by omega
 have hmI : (m : Int) < (T.len : Int) := by omega
 have HK := aa hk
 have iB := aa FE
 have zx := aa q8
 have yj := aa jD
 clear hS hE hN hk uI aQ hF hm FE q8 jD
 generalize hp : X.length = p at *
 go_enter Tryz.func47, Tryz.ntmps47
 go_wp2_with (go_at_call 44; go_loud (refine (cC.out _).mono ?_; rintro e w1 ⟨u, rfl, bx, hb1⟩; obtain ⟨az, dR⟩ := ik.out w1 u _ hb1 bx; have hq := Fk.out _ w1 hb1; have f7 := hq.free 7; have f8 := hq.free 8; have f9 := hq.free 9; have b1 : w1.cell? ⟨w.heap.size, 1, none⟩ = some (.int .i64 T.num) := (hb1.cell (p := ⟨w.heap.size, 1, none⟩) (by simp)).trans (by simp); have b3 : w1.cell? ⟨w.heap.size, 3, none⟩ = some (.slice (some ⟨g, off, none⟩) T.len cap) := (hb1.cell (p := ⟨w.heap.size, 3, none⟩) (by simp)).trans (by simp); have vC := hq.lt; obtain ⟨vv0, code0, place0, deep0, zs0, vs0, dE, _⟩ := hq.is; obtain ⟨k0, k1, k2, k3, k4, k5, k6, k7, k8, k9, qG, pN⟩ := dE.cells; obtain ⟨ga, oa, ca, rfl, nI, fg⟩ := dR.ats (by omega); have Jo := aa (xA (K := K) (r := T.num) hb1); have HG := aa dR; have gM := aa fg; have bb := aa (az.take (by show X.length + 1 ≤ K.N; rw [hp]; exact Rz)); clear az dR hq bx hb1 dE fg))
 go_loopw [8] (fun i wr => ∃ n : Nat, n ≤ m ∧ i = .int .i64 n ∧ SS K (ef K w1 T.num) none (j4 T X n) T.num 0 0 wr) (fun i _ => m - (intOf i).toNat)
 case atStart => exact ⟨0, Nat.zero_le _, rfl, bb.out⟩
 case round =>
  obtain ⟨n, Eb, rfl, cr⟩ := hrel
  have gP := HG.out.below _ _ _ _ _ cr
  obtain ⟨d0, d1, d2, d3⟩ := HG.out.box _ _ _ _ _ cr
  cases hq : j4 T X n with
  |error e0 =>
   rw [hq] at cr
   obtain ⟨code, k5', hz⟩ := cr.code1
   have iK := aa cr
   have HBKK := aa gP
   have HQ : Hid (j4 T X (T.len - 1) = .error e0) := by unfold Hid; rw [iB.out]; exact ie hq Eb
   clear cr hq gP
   by_cases bB : n < m
   all_goals go_wp2
   all_goals go_end0
   all_goals exact ⟨rfl, _, none, [], by rw [MP HQ.out]; exact iK.out, HBKK.out, Jo.out _ _ _ _ _ iK.out⟩
  |ok st =>
   obtain ⟨yL, D4, yK, hp4⟩ := NZ.out n Eb st hq
   rw [hq] at cr
   have k5' := cr.code0
   by_cases bB : n < m
   ·have Mr : n < T.len := by omega
    have hnI : (n : Int) < (T.len : Int) := by omega
    have BJ := N6.out n Mr
    obtain ⟨un, kE, jG⟩ := kH.out n Mr
    obtain ⟨c0, c1, c2, c3⟩ := kE _ gP
    have an := gM.out _ _ _ _ _ cr n Mr
    have Hx : 0 < (T.kids n).size := by rw [(T.kids n).size_eq]; omega
    have aM := (cr.take (by omega)).drew
    have tD := aa (lp aM (T.kids n).name (T.kids n).num (aV T p n) D4 (by rw [aP]; show aO st.1 + 1 ≤ _; omega))
    have HPD : Hid (ij (ab st) (T.kids n).name (T.kids n).num (aV T p n) = mD T n st) := by unfold Hid; rw [← yL]; rfl
    have HQ := aa hq
    rw [HPD.out] at tD
    clear cr aM hq gP kE jG
    go_wp2
    go_still_tail 17, bI
    go_wp2_with (go_at_call 71; refine tD.out.mono ?_; rintro e w5 ⟨rfl, jh⟩; have l7 := aa jh; clear jh)
    refine ⟨⟨n + 1, by omega, by go_num, ?_⟩, by simp [intOf]; omega⟩
    rw [lM, HQ.out]
    exact l7.out
   ·obtain rfl : n = m := by omega
    have BJ := N6.out n BG
    obtain ⟨uB, hcB, QZ⟩ := kH.out n BG
    obtain ⟨aB, cB, huB, hcpB, hqB⟩ := ar.1 QZ
    subst huB
    have HQB := aa hqB
    obtain ⟨c0, c1, c2, c3⟩ := hcB _ gP
    have an := gM.out _ _ _ _ _ cr n BG
    have Sg := KP.out.kid BG QZ
    have Hx : 0 < (T.kids n).size := by rw [(T.kids n).size_eq]; omega
    have aM := (cr.take (by omega)).drew
    have Sf := Sg.later gP.drew
    have hEd := BX.out.later gP.drew
    have DQ := cr.lt
    have V6 := aa (fP (T.kids n) wr.drew _ K.lo (aV T p n) Sg.fine (by show K.lo ≤ wr.heap.size; omega) (ah gP.drew lr QZ) Sg.cost (by omega))
    have HSA := aa (fun (w3 : World) (u3 : Value) hb3 ha3 => Lp (w1 := w3) (T := T.kids n) (u := u3) (p := aV T p n) aM hb3 ha3)
    have FM := aa (fun (w3 : World) (eR : Option Nat) (u3 : Value) (ha3 : JM w3 wr.drew.heap.size u3 (T.kids n).len (fun i => (aV (T.kids n) (aV T p n) i : Nat))) xw xt => Ax (w1 := w3) (own1 := eR) hEd Sf ha3 xw xt)
    have zy := aa (fun (w3 : World) (eR : Option Nat) (u3 : Value) us (hL : mq K w3 eR (T.kids n) (aV T p n) 0 (T.kids n).len (.slice aB (T.kids n).len cB) u3 us) (W : World) (hW : SS K w3 eR (.ok (ab st)) T.num 0 0 W) => om hL (fun i hi => CP _) _ ⟨T.num, 0, 0⟩ W hW (by omega) (fun i hi => by rw [Nat.zero_add]; exact Aw zx.out yj.out i hi) (fun s' e => by injection e with e; subst e; exact ⟨by rw [aP, yL]; rfl, D4⟩) (by omega) (fun i hi => by have := aH (T.kids n) hi; simp only [Nat.zero_add]; omega) (fun i hi => by have := aH (T.kids n) hi; simp only [Nat.zero_add]; omega))
    have FS := aa (fun W (hb : Below K.lo w W) => MT (T.kids n) W _ K.lo Sg.fine (Nat.le_trans (by omega) hb.size) (ah hb lr QZ))
    have HQ : Hid (j4 T X (T.len - 1) = .ok st) := by unfold Hid; rw [iB.out]; exact hq
    have VY := aa (fun e h => MO (F := K.F) (e := e) HQ.out h (by rw [iB.out]; exact zx.out))
    have Pc := aa (fun s2 h => MN (F := K.F) (s2 := s2) HQ.out h (by rw [iB.out]; exact zx.out))
    have Jw := aa hcB
    have fe : K.lo ≤ wr.heap.size := by omega
    rw [iB.out, hp] at Pc
    rw [iB.out] at VY
    unfold Nd.val at *
    clear cr aM hq gP hcB QZ Sg Sf hEd hqB
    generalize hpb : aV T p n = pb at *
    have BS := aa hpb
    clear hpb
    generalize T.kids n = B at *
    cases hτ : gI K.F B ⟨T.num, 0, 0⟩ 0 B.len (.ok (ab st)) with
    |error e0 =>
     have NN := aa hτ
     clear hτ
     go_wp2
     go_region_held3 (fun W => W.cell? ⟨w.heap.size, 3, none⟩ = some (.slice (some ⟨g, off, none⟩) T.len cap) ∧ W.cell? ⟨g, off + n * 4, none⟩ = some (.int .i64 B.kind) ∧ W.cell? ⟨g, off + n * 4 + 1, none⟩ = some (.int .i64 B.num) ∧ W.cell? ⟨g, off + n * 4 + 2, none⟩ = some (.string B.name) ∧ W.cell? ⟨g, off + n * 4 + 3, none⟩ = some (.slice aB B.len cB) ∧ W.cell? ⟨ga, oa + n, none⟩ = some (.int .i64 (pb : Nat))) (go_keep) (first
      |(go_at_call 44; refine V6.out.mono ?_; rintro e w3 ⟨u3, rfl, pY, hb3⟩; obtain ⟨eR, bW, mJ, xw, xt⟩ := HSA.out w3 u3 hb3 pY; obtain ⟨us, qY⟩ := FM.out w3 eR u3 pY xw xt; have If := mJ _ _ _ _ _ bW; obtain ⟨d0, d1, d2, d3⟩ := HG.out.box _ _ _ _ _ If; obtain ⟨c0, c1, c2, c3⟩ := Jw.out _ (HG.out.below _ _ _ _ _ If); have an := gM.out _ _ _ _ _ If n BG; rw [BS.out] at an; have NO := aa qY; have Oi := aa mJ; have fa := aa bW; clear bW mJ xw xt qY pY hb3 If)
      |(go_at_call 72; refine (zy.out w3 eR u3 us NO.out _ fa.out).mono ?_; rw [NN.out]; rintro e w5 ⟨rfl, jh⟩; have xm := Oi.out _ _ _ _ _ jh; obtain ⟨d0, d1, d2, d3⟩ := HG.out.box _ _ _ _ _ xm; obtain ⟨c0, c1, c2, c3⟩ := Jw.out _ (HG.out.below _ _ _ _ _ xm); have an := gM.out _ _ _ _ _ xm n BG; rw [BS.out] at an; obtain ⟨code, LB, hz⟩ := xm.code1; have l7 := aa xm; have yk := aa (HG.out.below _ _ _ _ _ xm); clear jh xm))
     go_wp2
     go_end0
     exact ⟨rfl, _, none, [], by rw [VY.out _ NN.out]; exact l7.out, yk.out, Jo.out _ _ _ _ _ l7.out⟩
    |ok s2 =>
     have NN := aa hτ
     clear hτ
     by_cases h0 : T.num = 0
     ·have p6 : (T.num == 0) = true := beq_iff_eq.2 h0
      have h0n : (T.num != 0) = false := by simp only [bne, p6]; rfl
      have H0 := aa h0
      clear h0
      have k_0 := kk
      exact bP2
     ·have p6 : (T.num == 0) = false := bn h0
      have h0n : (T.num != 0) = true := by simp only [bne, p6]; rfl
      have H0 := aa h0
      have Q8 : ∀ (x : Bool) (w : World), (Op.unary .not (.bool x)).run Tryz.prog w = .ok (.bool (!x)) w := fun _ _ => rfl
      clear h0
      cases hb : fz B with
      |true =>
       have k_0 := kk
       exact bP1
      |false =>
       have k_1 := kk
       exact bP1
theorem AG (n : Nat) : madeCells #[Value.int .i64 0] n = (List.replicate n (Value.int .i64 0)).toArray := by
 apply Array.ext_getElem?
 intro i
 simp [madeCells]
 by_cases h : i < n
 ·simp [h, Nat.mod_one]
 ·simp [h]
theorem ue (n : Nat) (hn : n ≤ 1048576) (w : World) : (Instr.makeSlice 29 (.int .i64 (n : Int)) (.int .i64 (n : Int))).run Tryz.prog w = .ok (.slice (some ⟨w.heap.size, 0, none⟩) n n) (w.alloc (.cells (List.replicate n (Value.int .i64 0)).toArray 3)) := by
 obtain ⟨i0, ke, nn, eZ, ec⟩ := info_parts DE
 have := run_make (P := Tryz.prog) w 29 3 i0 (.int .i64 0) Tryz.underlying29 ke nn .i64 .i64 n n (by omega) (Int.le_refl _) (by rw [ec]; omega) (by omega)
 rw [this, eZ]
 simp only [Int.toNat_natCast, Nat.mul_one]
 rw [show (Value.int .i64 0).cells = #[Value.int .i64 0] from rfl, AG]
theorem Kept.drew {S : Nat → Prop} {w w' : World} (h : Kept S w w') : Kept S w w'.drew := ⟨h.os, h.tape, h.output, h.size, h.block⟩
theorem EA {F T : Nd} (hF : cZ T = true) {X X' : List Int} (h : ja F T X = .ok X') : X'.length = X.length + T.size := by
 obtain ⟨hk, hl, uI, q8, jD, Ms⟩ := EB hF
 unfold ja at h
 obtain ⟨s1, h1, h2⟩ := bg h
 obtain ⟨s2, h3, h4⟩ := bg h2
 obtain ⟨p1, p2, _, _⟩ := sI (X := X) (m := T.len - 1) (fun i hi => (uI i hi).1) lr s1 h1
 obtain ⟨_, _, q3, _⟩ := (iq F (T.kids (T.len - 1))).sts jD q8 _ s1 s2 p2 h3
 split at h4
 ·cases h4
 ·injection h4 with h4; subst h4
  rw [q3, p1, ← eW, show T.len - 1 + 1 = T.len by omega, lO]
def xC (F : Nd) (n : Nat) : CR (List Int) := CR.bind (forN (dC F) F.len ()) fun _ => forN (fun i => ja F (F.kids i)) n [0]
theorem nu (F : Nd) (n : Nat) : xC F (n + 1) = CR.bind (xC F n) (ja F (F.kids n)) := by
 unfold xC
 cases forN (dC F) F.len () <;> rfl
theorem y4 {F : Nd} {j : Nat} {e : Int × Nat} (h : xC F j = .error e) : ∀ {n : Nat}, j ≤ n → xC F n = .error e := by
 intro n hn
 induction hn with
 |refl => exact h
 |step _ ih => rw [nu, ih]; rfl
theorem te {F : Nd} (hF : dh F = true) : ∀ {n : Nat}, n ≤ F.len → ∀ X, xC F n = .ok X → X.length = aV F 0 n := by
 intro n
 induction n with
 |zero =>
  intro _ X e
  unfold xC at e
  obtain ⟨_, _, h2⟩ := bg e
  injection h2 with h2; subst h2; rfl
 |succ n ih =>
  intro hn X e
  rw [nu] at e
  obtain ⟨Y, h1, h2⟩ := bg e
  rw [EA (jJ hF (by omega)) h2, ih (by omega) Y h1, eW]
theorem Sm {F : Nd} : (CR.bind (xC F 0) fun X => .ok (([] : Sc), X)) = CR.bind (forN (dC F) F.len ()) fun _ => .ok ([], [0]) := by
 unfold xC
 cases forN (dC F) F.len () <;> rfl
theorem Jb (F : Nd) (w : World) (v : Value) (hi : Nat) (hF : dh F = true) (hf : F.Fine) (cY : hi ≤ w.heap.size) (hr : Row 0 hi w F v) (eS : F.cost ≤ 1048576) :
    Calls Tryz.prog 21 #[F.val v] w fun e w' => ∃ (K : SK) (w2 : World) (qU : Option Nat) (E : Sc) (r : Int), e = .returned (.pointer (some ⟨K.cb, 0, none⟩)) ∧ K.F = F ∧ K.N = F.size ∧ w.heap.size ≤ K.lo ∧ SS K w2 qU (CR.bind (dp F) fun X => .ok (E, X)) r 0 0 w' ∧ Below w.heap.size w w' := by
  have hz := F.size_cost
  have hn := F.fine_len hf
  have pP : F.size ≤ 600 := by unfold dh at hF; simp only [Bool.and_eq_true, decide_eq_true_eq] at hF; exact hF.1.1.1.1
  obtain ⟨a, cap, hv, b7, hq⟩ := ar.1 hr
  subst hv
  have HMK := aa (ue F.size (by omega))
  have hmk := ue F.size (by omega)
  have dY := aa (fun o => bO w o)
  have zo := aa (fun W (hb : Below w.heap.size w W) => yD F W _ hi hf (Nat.le_trans cY hb.size) (ah hb cY hr) eS)
  have NT := aa (fun W (hb : Below w.heap.size w W) => ah hb cY hr)
  unfold Nd.val at *
  have HR0 := aa hr
  clear hr hq
  go_enter Tryz.func21, Tryz.ntmps21
  go_wp2
  go_region_held3 (fun W => W.cell? ⟨w.heap.size, 0, none⟩ = some (.int .i64 F.kind) ∧ W.cell? ⟨w.heap.size, 1, none⟩ = some (.int .i64 F.num) ∧ W.cell? ⟨w.heap.size, 2, none⟩ = some (.string F.name) ∧ W.cell? ⟨w.heap.size, 3, none⟩ = some (.slice a F.len cap)) (go_keep) (first
    | (go_at_call 43; refine (zo.out _ (dY.out _).drew).mono ?_; rintro e w1 ⟨rfl, hb1⟩; have q0 : w1.cell? ⟨w.heap.size, 0, none⟩ = some (.int .i64 F.kind) := (hb1.cell (p := ⟨w.heap.size, 0, none⟩) (by simp)).trans (by simp); have q1 : w1.cell? ⟨w.heap.size, 1, none⟩ = some (.int .i64 F.num) := (hb1.cell (p := ⟨w.heap.size, 1, none⟩) (by simp)).trans (by simp); have q2 : w1.cell? ⟨w.heap.size, 2, none⟩ = some (.string F.name) := (hb1.cell (p := ⟨w.heap.size, 2, none⟩) (by simp)).trans (by simp); have q3 : w1.cell? ⟨w.heap.size, 3, none⟩ = some (.slice a F.len cap) := (hb1.cell (p := ⟨w.heap.size, 3, none⟩) (by simp)).trans (by simp); have HBS := aa hb1; clear hb1))
  have fc : Hid (Below w.heap.size w w1) := (dY.out _).drew.trans (HBS.out.mono (by simp))
  have vC : w.heap.size + 1 ≤ w1.heap.size := by have := HBS.out.size; simpa using this
  obtain ⟨K, hK⟩ : ∃ K : SK, K = ⟨w1.heap.size + 1, w1.heap.size, w1.heap.size, w1.heap.size + 2, F.size, F, .slice a F.len cap⟩ := ⟨_, rfl⟩
  obtain ⟨ur, ktb, klo, kup, kN, kF, kfv⟩ : K.cb = w1.heap.size + 1 ∧ K.tb = w1.heap.size ∧ K.lo = w1.heap.size ∧ K.up = w1.heap.size + 2 ∧ K.N = F.size ∧ K.F = F ∧ K.fv = .slice a F.len cap := by subst hK; exact ⟨rfl, rfl, rfl, rfl, rfl, rfl, rfl⟩
  have Sh : K.Ok := ⟨by omega, by omega, by omega, by omega, by omega, by omega, .inl (by omega)⟩
  have HS0 : Hid (SRaw K ((w1.alloc (.cells (Array.replicate F.size (.int .i64 0)) 3)).alloc (.cells #[.int .i64 F.kind, .int .i64 F.num, .string F.name, .slice a F.len cap, .slice (some ⟨w1.heap.size, 0, none⟩) F.size F.size, .int .i64 0, .int .i64 0, .slice none 0 0, .int .i64 0, .int .i64 0, .int .i64 0, .int .i64 0] 51)) (.slice none 0 0) 0 0 0 0 0 0 (List.replicate F.size 0) []) := by
    refine ⟨?_, ?_, by rw [List.length_replicate, kN], World.ownsRow_nil _ _ _ _⟩
    · rw [ur]
      have := heap_alloc_new (w1.alloc (.cells (Array.replicate F.size (.int .i64 0)) 3)) (.cells #[.int .i64 F.kind, .int .i64 F.num, .string F.name, .slice a F.len cap, .slice (some ⟨w1.heap.size, 0, none⟩) F.size F.size, .int .i64 0, .int .i64 0, .slice none 0 0, .int .i64 0, .int .i64 0, .int .i64 0, .int .i64 0] 51)
      simp only [World.size_alloc] at this
      rw [this]
      unfold SK.cells
      rw [kF, kfv, ktb, kN]
    · rw [ktb, Below.heap_alloc _ _ _ (by simp), heap_alloc_new]
      simp
  have hszW : ((w1.alloc (.cells (Array.replicate F.size (.int .i64 0)) 3)).alloc (.cells #[.int .i64 F.kind, .int .i64 F.num, .string F.name, .slice a F.len cap, .slice (some ⟨w1.heap.size, 0, none⟩) F.size F.size, .int .i64 0, .int .i64 0, .slice none 0 0, .int .i64 0, .int .i64 0, .int .i64 0, .int .i64 0] 51)).heap.size = w1.heap.size + 2 := by simp
  have dI : K.lo ≤ K.cb := by omega
  have hlo2 : K.lo ≤ K.tb := by omega
  have hup1 : K.cb + 1 ≤ ((w1.alloc (.cells (Array.replicate F.size (.int .i64 0)) 3)).alloc (.cells #[.int .i64 F.kind, .int .i64 F.num, .string F.name, .slice a F.len cap, .slice (some ⟨w1.heap.size, 0, none⟩) F.size F.size, .int .i64 0, .int .i64 0, .slice none 0 0, .int .i64 0, .int .i64 0, .int .i64 0, .int .i64 0] 51)).heap.size := by omega
  have hup2 : K.tb + 1 ≤ ((w1.alloc (.cells (Array.replicate F.size (.int .i64 0)) 3)).alloc (.cells #[.int .i64 F.kind, .int .i64 F.num, .string F.name, .slice a F.len cap, .slice (some ⟨w1.heap.size, 0, none⟩) F.size F.size, .int .i64 0, .int .i64 0, .slice none 0 0, .int .i64 0, .int .i64 0, .int .i64 0, .int .i64 0] 51)).heap.size := by omega
  have FO : Hid (Row 0 K.lo w1 F (.slice a F.len cap)) := bl (ah fc.out cY HR0.out) lr (by omega)
  have oO : Hid (Below K.lo w1 ((w1.alloc (.cells (Array.replicate F.size (.int .i64 0)) 3)).alloc (.cells #[.int .i64 F.kind, .int .i64 F.num, .string F.name, .slice a F.len cap, .slice (some ⟨w1.heap.size, 0, none⟩) F.size F.size, .int .i64 0, .int .i64 0, .slice none 0 0, .int .i64 0, .int .i64 0, .int .i64 0, .int .i64 0] 51))) := ((Below.refl _ _).alloc (by omega) _).alloc (by simp; omega) _
  have HQ : Hid (∀ W, Below K.lo w1 W → W.cell? ⟨w.heap.size, 0, none⟩ = some (.int .i64 F.kind) ∧ W.cell? ⟨w.heap.size, 1, none⟩ = some (.int .i64 F.num) ∧ W.cell? ⟨w.heap.size, 2, none⟩ = some (.string F.name) ∧ W.cell? ⟨w.heap.size, 3, none⟩ = some (.slice a F.len cap)) := by
    intro W hb
    have hc : ∀ o, W.cell? ⟨w.heap.size, o, none⟩ = w1.cell? ⟨w.heap.size, o, none⟩ := fun o => hb.cell (p := ⟨w.heap.size, o, none⟩) (by show w.heap.size < K.lo; omega)
    exact ⟨(hc _).trans q0, (hc _).trans q1, (hc _).trans q2, (hc _).trans q3⟩
  clear q0 q1 q2 q3
  have hkcb : w1.heap.size + 1 = K.cb := ur.symm
  simp only [hkcb] at *
  generalize MI : ((w1.alloc (.cells (Array.replicate F.size (.int .i64 0)) 3)).alloc (.cells #[.int .i64 F.kind, .int .i64 F.num, .string F.name, .slice a F.len cap, .slice (some ⟨w1.heap.size, 0, none⟩) F.size F.size, .int .i64 0, .int .i64 0, .slice none 0 0, .int .i64 0, .int .i64 0, .int .i64 0, .int .i64 0] 51)) = W0 at *
  clear MI
  have cC := aa (fP F W0 _ K.lo 0 hf (by rw [klo]; exact oO.out.size) (ah oO.out lr FO.out) eS (by omega))
  unfold Nd.val at cC
  rw [show ((0 : Nat) : Int) = 0 from rfl] at cC
  obtain ⟨bx0, bx1, bx2, bx3⟩ := HQ.out W0 oO.out
  have HKC := aa (fun (h0 : F.len ≠ 0) => cN FO.out h0)
  have HINI : Hid (∀ w2, Below W0.heap.size W0 w2 → SS K w2 none (.ok ([], [0])) 0 0 0 w2) := fun w2 hb => SS.take (s := ([], [])) ⟨Sh, ⟨.slice none 0 0, 0, 0, 0, List.replicate F.size 0, [], HS0.out.calm hb, ⟨rfl, rfl, rfl, by rw [kN]; rfl, Nat.zero_le _, rfl, Nat.zero_le _, Nat.zero_le _⟩, .inl rfl⟩, Kept.refl _ _⟩ (by rw [kN]; have := F.size_eq; show 0 + 1 ≤ _; omega)
  have bz : Hid (∀ w2, Below W0.heap.size W0 w2 → ∀ W, Kept (K.S none) w2 W → Below K.lo w1 W) := fun w2 hb W hk => oO.out.trans ((hb.mono (by omega)).trans (hk.below (by have := hb.size; omega) (fun k h => by rcases h with h | h | h; omega; omega; cases h)))
  have HATC : Hid (∀ w2 u, Below W0.heap.size W0 w2 → JM w2 W0.heap.size u F.len (fun i => (aV F 0 i : Nat)) → F.len ≠ 0 → ∃ g off cap, u = .slice (some ⟨g, off, none⟩) F.len cap ∧ (F.len ≤ cap ∧ cap ≤ 9223372036854775807) ∧ ∀ W, Kept (K.S none) w2 W → ∀ i, i < F.len → W.cell? ⟨g, off + i, none⟩ = some (.int .i64 (aV F 0 i : Nat))) := by
    intro w2 u hb ha h0
    obtain ⟨a1, c1, e1, e2, e3, e4⟩ := ha
    rcases e4 with e | ⟨g, off, rfl, p1, p2, p3⟩
    · exact absurd e h0
    refine ⟨g, off, c1, e1, ⟨e2, e3⟩, fun W hk i fS => ?_⟩
    rw [World.cell?_of_block (a := ⟨g, off + i, none⟩) (hk.block g p2 (by rintro (h | h | h); omega; omega; cases h))]
    exact p3 i fS
  have bI := jz
  clear Sh hK hmk HMK zo NT dY HBS
  go_wp2_with (go_at_call 44; refine cC.out.mono ?_; rintro e w2 ⟨u, rfl, bx, hb2⟩; have aD := HINI.out w2 hb2; have R7 := HATC.out w2 u hb2 bx; obtain ⟨y0, y1, y2, y3⟩ := HQ.out w2 (bz.out w2 hb2 w2 (Kept.refl _ _)); have k5 := aD.code0; have DR : ∃ a' ca, u = .slice a' F.len ca ∧ F.len ≤ ca ∧ ca ≤ 9223372036854775807 := (by obtain ⟨z1, z2, z3, z4, z5, _⟩ := bx; exact ⟨z1, z2, z3, z4, z5⟩); have bM := aa aD; have KT := aa R7; have BA := aa (bz.out w2 hb2); have HW2 := aa hb2; clear aD R7 bx hb2)
  obtain ⟨a', ca, rfl, MF, hca2⟩ := DR
  go_loopw [5] (fun i wr => ∃ n : Nat, n ≤ F.len ∧ i = .int .i64 n ∧ SS K w2 none (CR.bind (forN (dC F) n ()) fun _ => .ok ([], [0])) 0 0 0 wr) (fun i _ => F.len - (intOf i).toNat)
  case atStart => exact ⟨0, Nat.zero_le _, rfl, bM.out⟩
  case round =>
    obtain ⟨n, Eb, rfl, cr⟩ := hrel
    have eJ := BA.out _ cr.kept
    obtain ⟨x0, x1, x2, x3⟩ := HQ.out wr eJ
    by_cases bB : n < F.len
    · have hni : (n : Int) < (F.len : Int) := by omega
      cases hq : forN (dC F) n () with
      | error e0 =>
        rw [hq] at cr
        obtain ⟨code, k5', hz'⟩ := cr.code1
        have HSE : Hid (SS K w2 none (CR.bind (forN (dC F) F.len ()) fun _ => .ok ([], [0])) 0 0 0 wr) := by unfold Hid; rw [ie hq Eb]; exact cr
        clear cr hq
        exact bP0
      | ok un =>
        rw [hq] at cr
        have k5' := cr.code0
        obtain ⟨g, off, l5, lZ, iW, rR, aQ⟩ := HKC.out (by omega)
        injection lZ with ti Kz th
        subst ti
        subst th
        obtain ⟨ga, oa, ca', QM, hca', fg⟩ := KT.out (by omega)
        injection QM with eu1 eu2 eu3
        subst eu1
        subst eu3
        obtain ⟨ud, kE, jG⟩ := aQ n bB
        obtain ⟨c0, c1, c2, c3⟩ := kE _ eJ
        have an := fg _ cr.kept n bB
        have DQ : K.lo ≤ wr.heap.size := by have := cr.lt; omega
        have yg := aa (u7 F wr.drew _ K.lo (F.kids n).name hf DQ (ah eJ.drew lr FO.out))
        unfold Nd.val at yg
        have kB : Hid (forN (dC F) (n + 1) () = dC F n ()) := by unfold Hid; simp only [forN, hq]; rfl
        have iK := aa cr
        have HCN := aa kE
        have HAVV := aa fg
        by_cases xl : findF F (F.kids n).name = some n
        · have hfi : kA F (F.kids n).name = n := by unfold kA; rw [xl]
          have HTW : Hid (dC F n () = .ok ()) := by unfold Hid dC; rw [if_pos xl]
          rw [hfi] at yg
          clear cr hq kE jG aQ fg hfi xl
          go_wp2
          go_region_held3 (fun W => W.cell? ⟨w.heap.size, 0, none⟩ = some (.int .i64 F.kind) ∧ W.cell? ⟨w.heap.size, 1, none⟩ = some (.int .i64 F.num) ∧ W.cell? ⟨w.heap.size, 2, none⟩ = some (.string F.name) ∧ W.cell? ⟨w.heap.size, 3, none⟩ = some (.slice (some ⟨g, off, none⟩) F.len cap) ∧ W.cell? ⟨g, off + n * 4 + 2, none⟩ = some (.string (F.kids n).name)) (go_keep) (first
            | (go_at_call 45; refine yg.out.mono ?_; rintro e w5 ⟨rfl, oT⟩; have jh := iK.out.drew.calm oT; obtain ⟨x0, x1, x2, x3⟩ := HQ.out w5 (BA.out _ jh.kept); obtain ⟨c0, c1, c2, c3⟩ := HCN.out _ (BA.out _ jh.kept); have l7 := aa jh; clear oT jh))
          go_wp2
          refine ⟨⟨n + 1, by omega, by go_num, ?_⟩, by simp [intOf]; omega⟩
          rw [kB.out, HTW.out]
          exact l7.out
        · have hfi : ((kA F (F.kids n).name) == (n : Int)) = false := by
            refine bn fun e => xl ?_
            unfold kA at e
            cases hx : findF F (F.kids n).name with
            | none => rw [hx] at e; have e' : (-1 : Int) = n := e; exact absurd e' (by omega)
            | some j => rw [hx] at e; have e' : (j : Int) = n := e; have e2 : j = n := by omega
                        rw [e2]
          have HTW : Hid (dC F n () = .error (6, aV F 0 n)) := by unfold Hid dC; rw [if_neg xl]; simp [aV]
          generalize kA F (F.kids n).name = fi at *
          clear cr hq kE jG aQ fg xl
          go_wp2
          go_region_held3 (fun W => W.cell? ⟨w.heap.size, 0, none⟩ = some (.int .i64 F.kind) ∧ W.cell? ⟨w.heap.size, 1, none⟩ = some (.int .i64 F.num) ∧ W.cell? ⟨w.heap.size, 2, none⟩ = some (.string F.name) ∧ W.cell? ⟨w.heap.size, 3, none⟩ = some (.slice (some ⟨g, off, none⟩) F.len cap) ∧ W.cell? ⟨g, off + n * 4 + 2, none⟩ = some (.string (F.kids n).name)) (go_keep) (first
            | (go_at_call 45; refine yg.out.mono ?_; rintro e w5 ⟨rfl, oT⟩; have jh := iK.out.drew.calm oT; obtain ⟨x0, x1, x2, x3⟩ := HQ.out w5 (BA.out _ jh.kept); obtain ⟨c0, c1, c2, c3⟩ := HCN.out _ (BA.out _ jh.kept); have an := HAVV.out _ jh.kept n bB; have l7 := aa jh; clear oT jh))
          go_wp2_with (first
            | (go_at_call 46; refine (dW l7.out 6 (by decide) (aV F 0 n)).mono ?_; rintro e w6 ⟨rfl, uF⟩; have ya := aa uF; clear uF))
          refine ⟨⟨n + 1, by omega, by go_num, ?_⟩, by simp [intOf]; omega⟩
          rw [kB.out, HTW.out]
          exact ya.out
    · obtain rfl : n = F.len := by omega
      have HSE := aa cr
      clear cr
      exact bP0
end Go.Proofs.YteaocammohcgoaaGreatDoor
