import Derived.Test.YteaocammohcgoaaGreatDoorQKdC
set_option linter.unusedVariables false
set_option maxHeartbeats 16000000
set_option maxRecDepth 100000
namespace Go.Proofs.YteaocammohcgoaaGreatDoor
open Go.RowKit
variable {G : Prop}
theorem bM0 (h : G := by
 have k_2 := kk
 exact Nq) : G := h
theorem bM1 (h : G := by
 have k_2 := kk
 exact bM9) : G := h
theorem bM2 (h : G := by
 have k_1 := kk
 exact U4) : G := h
theorem bM3 (h : G := by
 go_still_tail 8, bI
 go_wp2_with (go_at_call 72; refine (zy.out w1 own1 _ _ us vu.out _ l7.out.drew).mono ?_; rintro e w4 ⟨rfl, fH⟩; have uF := gL.out _ _ _ _ _ fH; obtain ⟨j9, j10, Qf⟩ := uF.outs; have k9 : w4.cell? ⟨K.cb, 9, none⟩ = some (.int .i64 cx.ret) := j9; have qG : w4.cell? ⟨K.cb, 10, none⟩ = some (.int .i64 ((cx.loops : Int) + 1)) := j10; have pN : w4.cell? ⟨K.cb, 11, none⟩ = some (.int .i64 ((cx.outs : Int) + 1)) := Qf; have f10 := uF.free 10; have f11 := uF.free 11; have ya := aa ((uF.setLoops cx.loops).setOuts cx.outs); clear fH uF j9 j10 Qf)
 go_end0
 exact ⟨rfl, ya.out⟩) : G := h
theorem bM4 (h : G := by
 go_quiet (fail)
 go_wp2_with (go_at_call 46; refine (dW (bb.out.calm (below_drewN _ _)) 9 (by decide) q).mono ?_; rintro e w3 ⟨rfl, bW⟩; have fa := aa bW; clear bW)
 go_end0
 exact ⟨rfl, gL.out _ _ _ _ _ fa.out⟩) : G := h
theorem bM5 (h : G := by
 rw [bT K.F (by omega)]
 unfold stM
 rw [if_neg (by omega), if_neg (by omega), if_neg (by omega), if_neg (by omega), if_neg (by omega), if_neg (by omega), if_neg (by omega), if_pos hk]; rw [hl]; exact C4.symm) : G := h
theorem bM6 (h : G := by
 first | go_end0 | refine bodyPost_ret (results_none rfl _ _ _) rfl ?_
 exact ⟨rfl, gL.out _ _ _ _ _ fa.out⟩) : G := h
theorem bM7 (h : G := by
 rw [bT K.F (by omega)]
 unfold stM
 iterate 8 rw [if_neg (by omega)]
 rw [if_pos hk, if_neg (by simp [hl, h0])]) : G := h
theorem bM8 (h : G := by
 have k_0 := kk
 exact Nt) : G := h
theorem bM9 (h : G := by
 have k_1 := kk
 exact Nt) : G := h
theorem U4 (h : G := by
 have k_2 := kk
 exact Nt) : G := h
theorem I6 (h : G := by
 have k_1 := kk
 exact U3) : G := h
theorem Nt (h : G := by
 have k_0 := kk
 exact U3) : G := h
theorem U3 (h : G := by
 have k_1 := kk
 exact US) : G := h
theorem U2 (h : G := by
 have k_1 := kk
 exact UT) : G := h
theorem U1 (h : G := by
 clear aM hS iu hE hN hk aN eT aQ cX dE hl bS hσ uC rM J1 H5 h3
 have k_0 := kk
 exact Nr) : G := h
theorem U0 (h : G := by
 clear aM hS iu hE hN hk aN eT aQ cX dE hl bS
 generalize hq : s.2.length = q at *
 have bI := jz
 go_enter Tryz.func95, Tryz.ntmps95
 go_wp2_with (first
  |(go_at_call 44; refine (cC.out _).mono ?_; rintro e w1 ⟨u, rfl, bx, hb1⟩; obtain ⟨own1, az, aZ, dR⟩ := ik.out w1 u _ hb1 bx; obtain ⟨ga, oa, ca, rfl, nI, fg⟩ := dR.ats (by omega); have HG := aa dR; have gM := aa fg; have gL := aa aZ; obtain ⟨b0, b1, b2, b3⟩ := HG.out.box _ _ _ _ _ az; rw [gi.out] at b0; have a0 := gM.out _ _ _ _ _ az 0 (by omega); rw [Nat.add_zero] at a0; obtain ⟨eD, eC, eB, eA⟩ := dH.out _ (HG.out.below _ _ _ _ _ az); obtain ⟨k9, qG, pN⟩ := az.outs; have bb := aa az; clear az aZ dR fg bx hb1))
 first
 |clear k_0
  go_quiet (fail)
  have wW := bb.out.calm (below_drewN w1 nq)
  obtain ⟨b0, b1, b2, b3⟩ := HG.out.box _ _ _ _ _ wW
  rw [gi.out] at b0
  have a0 := gM.out _ _ _ _ _ wW 0 (by omega)
  rw [Nat.add_zero] at a0
  obtain ⟨eD, eC, eB, eA⟩ := dH.out _ (HG.out.below _ _ _ _ _ wW)
  obtain ⟨k9, qG, pN⟩ := wW.outs
  have KN := aa wW
  clear wW
  generalize w1.drewN nq = wq at *
  go_wp2
  go_still_tail 12, bI
  go_wp2_with (go_at_call 109; refine (ji.out _ _ _ _ HG.out _ _ _ _ _ _ _ KN.out.drew ov.out).mono ?_; rintro e w2 ⟨rfl, aD⟩; have bM := aa (gL.out _ _ _ _ _ aD); clear aD)
  go_end0
  exact ⟨rfl, bM.out⟩
 |clear k_1
  exact bM4) : G := h
theorem UZ (h : G := by
 clear aM hS iu hE hN hk aN eT aQ cX dE hl bS
 have k_1 := kk
 exact Nr) : G := h
theorem UY (h : G := by
 have k_2 := kk
 exact Nr) : G := h
theorem UX (h : G := by
 have dm := hS.ok.few
 have bB := hS.lt
 have yX := hS.ok.cl
 have bS : 0 < T.size := by rw [T.size_eq]; omega
 have rM := hS.lens
 obtain ⟨a, cap, hv, b7, Mj⟩ := ar.1 hN.row
 subst hv
 clear Mj
 have cC := aa (fun o => fP T (w.alloc o) _ K.lo s.2.length hN.fine (by simp; omega) (ah (hS.box o) lr hN.row) hN.cost (by omega))
 have ik := aa (fun (w1 : World) (u : Value) (t : TypeId) hb ha => kT (w1 := w1) (T := T) (v := .slice a T.len cap) (p := s.2.length) (u := u) (t := t) hS hb ha)
 have FM := aa (fun (w1 : World) (own1 : Option Nat) (b : Nat) (u : Value) (hg : SGo K w w1 own1 b T (.slice a T.len cap) u s.2.length) hu => CZ hg hE hN hu)
 first
 |clear k_0
  have zy := aa (fun (w1 : World) (own1 : Option Nat) (u : Value) us (hL : mq K w1 own1 T s.2.length 0 T.len (.slice a T.len cap) u us) (W : World) (hW : SS K w1 own1 (.ok ([] :: s.1, s.2 ++ [0])) cx.ret cx.loops cx.outs W) => om hL (fun i hi => by rw [Nat.zero_add]; exact ih i hi) _ cx W hW (by omega) (fun i hi => by rw [Nat.zero_add]; exact Aw h4 aN i hi) (fun s' e => by injection e with e; subst e; exact ⟨by simp [aV, aw], by simp⟩) aq (fun i hi => by rw [Nat.zero_add]; have := aH T hi; omega) (fun i hi => by rw [Nat.zero_add]; have := aH T hi; omega))
  have oZ := aa (C3 (F := K.F) (cx := cx) (s := ([] :: s.1, s.2 ++ [0])) h4 aN (by simp))
  have HJ := aa (ve (F := K.F) (cx := cx) (s := s) [] (show T.kind ≠ 0 by omega))
  have gi := aa h4
  have o4 : Hid (s.2.length + 1 ≤ K.N) := by unfold Hid; omega
  unfold Nd.val at *
  rw [h4] at cC ik ⊢
  clear hS hE hN h4 aN ih aq bS
  generalize hτ : within [] ((bY K.F T).sts cx) s = τ at *
  clear hτ
  go_enter Tryz.func106, Tryz.ntmps106
  go_wp2_with (first
   |(go_at_call 44; refine (cC.out _).mono ?_; rintro e w1 ⟨u, rfl, bx, hb1⟩; obtain ⟨own1, az, aZ, dR⟩ := ik.out w1 u _ hb1 bx; obtain ⟨b0, b1, b2, b3⟩ := dR.box _ _ _ _ _ az; have DR : T.len = 0 → ∃ a' ca, u = .slice a' 0 ca ∧ ca ≤ 9223372036854775807 := (by obtain ⟨q1, q2, q3, q4, q5, _⟩ := bx; intro h0; exact ⟨q1, q2, by rw [q3, h0], q5⟩); obtain ⟨us, qY⟩ := FM.out w1 own1 _ u dR DR; have xd := az.take o4.out; obtain ⟨k8, f8, hd8⟩ := xd.deep; have bb := aa (xd.deeper (by rw [aP]; have := rM.2; exact this)); have HG := aa dR; have vu := aa qY; have gL := aa aZ; clear az xd aZ dR bx hb1 qY DR)
   |(go_at_call 72; refine (zy.out w1 own1 u us vu.out _ bb.out).mono ?_; rintro e w2 ⟨rfl, aD⟩; have bM := aa aD; clear aD)
   |(go_at_call 129; refine (rI bM.out oZ.out).mono ?_; rintro e w3 ⟨rfl, bW⟩; have fa := aa (gL.out _ _ _ _ _ bW); clear bW))
  go_end0
  refine ⟨rfl, ?_⟩
  rw [← HJ.out]
  exact fa.out
 |clear k_1
  have zy := aa (fun (w1 : World) (own1 : Option Nat) (u : Value) us (hL : mq K w1 own1 T s.2.length 0 T.len (.slice a T.len cap) u us) (W : World) (hW : SS K w1 own1 (.ok ([(name, 1)] :: s.1, s.2 ++ [0])) cx.ret cx.loops cx.outs W) => om hL (fun i hi => by rw [Nat.zero_add]; exact ih i hi) _ cx W hW (by omega) (fun i hi => by rw [Nat.zero_add]; exact Aw h4 aN i hi) (fun s' e => by injection e with e; subst e; exact ⟨by simp [aV, aw], by simp⟩) aq (fun i hi => by rw [Nat.zero_add]; have := aH T hi; omega) (fun i hi => by rw [Nat.zero_add]; have := aH T hi; omega))
  have oZ := aa (C3 (F := K.F) (cx := cx) (s := ([(name, 1)] :: s.1, s.2 ++ [0])) h4 aN (by simp))
  have HJ := aa (ve (F := K.F) (cx := cx) (s := s) [(name, 1)] (show T.kind ≠ 0 by omega))
  have HDV : Hid (aO ([] :: (ab s).1) + 1 ≤ (ab s).2.length) := by
   have e : aO ([] :: (ab s).1) = aO s.1 := by simp [aO, ab]
   unfold Hid; rw [e, aP]; omega
  have Pf : Hid (ij ([] :: s.1, s.2 ++ [0]) name 1 na = .ok ([(name, 1)] :: s.1, s.2 ++ [0])) := rfl
  obtain ⟨uN, vD⟩ := j5 dc
  have gi := aa h4
  have o4 : Hid (s.2.length + 1 ≤ K.N) := by unfold Hid; omega
  unfold Nd.val at *
  rw [h4] at cC ik ⊢
  clear hS hE hN h4 aN ih aq bS
  generalize hτ : within [(name, 1)] ((bY K.F T).sts cx) s = τ at *
  clear hτ
  go_enter Tryz.func106, Tryz.ntmps106
  go_wp2_with (first
   |(go_at_call 44; refine (cC.out _).mono ?_; rintro e w1 ⟨u, rfl, bx, hb1⟩; obtain ⟨own1, az, aZ, dR⟩ := ik.out w1 u _ hb1 bx; obtain ⟨b0, b1, b2, b3⟩ := dR.box _ _ _ _ _ az; have DR : T.len = 0 → ∃ a' ca, u = .slice a' 0 ca ∧ ca ≤ 9223372036854775807 := (by obtain ⟨q1, q2, q3, q4, q5, _⟩ := bx; intro h0; exact ⟨q1, q2, by rw [q3, h0], q5⟩); obtain ⟨us, qY⟩ := FM.out w1 own1 _ u dR DR; have xd := az.take o4.out; obtain ⟨k8, f8, hd8⟩ := xd.deep; have bb := aa (xd.deeper (by rw [aP]; have := rM.2; exact this)); have HG := aa dR; have vu := aa qY; have gL := aa aZ; clear az xd aZ dR bx hb1 qY DR)
   |(go_at_call 71; go_loud (refine (lp bb.out name 1 na (by simp) HDV.out).mono ?_; rintro e w4 ⟨rfl, fH⟩; have Hy := fH; rw [show ij ([] :: (ab s).1, (ab s).2) name 1 na = .ok ([(name, 1)] :: s.1, s.2 ++ [0]) from Pf.out] at Hy; obtain ⟨b0, b1, b2, b3⟩ := HG.out.box _ _ _ _ _ Hy; have kG := aa Hy; clear fH Hy))
   |(go_at_call 72; refine (zy.out w1 own1 u us vu.out _ kG.out).mono ?_; rintro e w2 ⟨rfl, aD⟩; have bM := aa aD; clear aD)
   |(go_at_call 129; refine (rI bM.out oZ.out).mono ?_; rintro e w3 ⟨rfl, bW⟩; have fa := aa (gL.out _ _ _ _ _ bW); clear bW))
  go_end0
  refine ⟨rfl, ?_⟩
  rw [← HJ.out]
  exact fa.out) : G := h
theorem UW (h : G := by
 rw [aM]
 subst uC
 have k_0 := kk
 exact UN) : G := h
theorem Ns (h : G := by
 have k_0 := kk
 exact UU) : G := h
theorem Nr (h : G := by
 generalize hq : s.2.length = q at *
 have bI := jz
 go_enter Tryz.func95, Tryz.ntmps95
 go_wp2_with (first
  |(go_at_call 44; refine (cC.out _).mono ?_; rintro e w1 ⟨u, rfl, bx, hb1⟩; obtain ⟨own1, az, aZ, dR⟩ := ik.out w1 u _ hb1 bx; obtain ⟨ga, oa, ca, rfl, nI, fg⟩ := dR.ats (by omega); have HG := aa dR; have gM := aa fg; have gL := aa aZ; obtain ⟨b0, b1, b2, b3⟩ := HG.out.box _ _ _ _ _ az; rw [gi.out] at b0; have a0 := gM.out _ _ _ _ _ az 0 (by omega); rw [Nat.add_zero] at a0; obtain ⟨eD, eC, eB, eA⟩ := dH.out _ (HG.out.below _ _ _ _ _ az); have bb := aa az; clear az aZ dR fg bx hb1))
 go_still_tail 8, bI
 first
 |clear k_0
  first
  |clear k_0
   go_wp2_with (first
    |(go_at_call 107; refine (Ji.out _ _ _ _ HG.out _ _ _ _ _ _ bb.out.drew ov.out).mono ?_; rintro e w2 ⟨t, rfl, hR, aD⟩; rw [oX.out] at aD; obtain ⟨b0, b1, b2, b3⟩ := HG.out.box _ _ _ _ _ aD; rw [gi.out] at b0; have a0 := gM.out _ _ _ _ _ aD 0 (by omega); rw [Nat.add_zero] at a0; obtain ⟨eD, eC, eB, eA⟩ := dH.out _ (HG.out.below _ _ _ _ _ aD); have k5 := aD.code0; obtain rfl : t = 3 := NM.out t hR; have bM := aa aD; clear aD hR)
    |(go_at_call 46; refine (dW bM.out 7 (by decide) (aV T q 0)).mono ?_; rintro e w3 ⟨rfl, bW⟩; have fa := aa bW; clear bW))
   go_end0
   exact ⟨rfl, gL.out _ _ _ _ _ fa.out⟩
  |clear k_1
   go_wp2_with (go_at_call 107; refine (Ji.out _ _ _ _ HG.out _ _ _ _ _ _ bb.out.drew ov.out).mono ?_; rintro e w2 ⟨t, rfl, hR, aD⟩; rw [oX.out] at aD; obtain ⟨b0, b1, b2, b3⟩ := HG.out.box _ _ _ _ _ aD; rw [gi.out] at b0; have a0 := gM.out _ _ _ _ _ aD 0 (by omega); rw [Nat.add_zero] at a0; obtain ⟨eD, eC, eB, eA⟩ := dH.out _ (HG.out.below _ _ _ _ _ aD); have k5 := aD.code0; have h3n := NM.out t hR; have bM := aa aD; clear aD hR)
   go_end0
   exact ⟨rfl, gL.out _ _ _ _ _ bM.out⟩
 |clear k_1
  first
  |clear k_0
   go_wp2_with (go_at_call 109; refine (ji.out _ _ _ _ HG.out _ _ _ _ _ _ _ bb.out.drew ov.out).mono ?_; rintro e w2 ⟨rfl, aD⟩; have bM := aa (gL.out _ _ _ _ _ aD); clear aD)
   go_end0
   exact ⟨rfl, bM.out⟩
  |clear k_1
   go_wp2_with (go_at_call 110; refine (NM.out _ _ _ _ HG.out _ _ _ _ _ _ bb.out.drew ov.out).mono ?_; rintro e w2 ⟨t, rfl, hR, aD⟩; have bM := aa (gL.out _ _ _ _ _ aD); clear aD hR)
   go_end0
   exact ⟨rfl, bM.out⟩
 |clear k_2
  first
  |clear k_0
   go_wp2_with (go_at_call 107; refine (Ji.out _ _ _ _ HG.out _ _ _ _ _ _ bb.out.drew ov.out).mono ?_; rintro e w2 ⟨t, rfl, hR, aD⟩; rw [oX.out] at aD; obtain ⟨b0, b1, b2, b3⟩ := HG.out.box _ _ _ _ _ aD; rw [gi.out] at b0; have a0 := gM.out _ _ _ _ _ aD 0 (by omega); rw [Nat.add_zero] at a0; obtain ⟨eD, eC, eB, eA⟩ := dH.out _ (HG.out.below _ _ _ _ _ aD); obtain ⟨code, k5, hz⟩ := aD.code1; have bM := aa aD; clear aD hR)
   go_end0
   exact ⟨rfl, gL.out _ _ _ _ _ bM.out⟩
  |clear k_1
   go_wp2_with (first
    |(go_at_call 107; refine (Ji.out _ _ _ _ HG.out _ _ _ _ _ _ bb.out.drew ov.out).mono ?_; rintro e w2 ⟨t, rfl, hR, aD⟩; rw [oX.out] at aD; obtain ⟨b0, b1, b2, b3⟩ := HG.out.box _ _ _ _ _ aD; rw [gi.out] at b0; have a0 := gM.out _ _ _ _ _ aD 0 (by omega); rw [Nat.add_zero] at a0; obtain ⟨eD, eC, eB, eA⟩ := dH.out _ (HG.out.below _ _ _ _ _ aD); have k5 := aD.code0; obtain rfl : t = t0 := NM.out t hR; have bM := aa aD; clear aD hR)
    |(go_at_call 71; refine (lp bM.out T.name t q mr.out jI.out).mono ?_; rintro e w3 ⟨rfl, bW⟩; have fa := aa bW; clear bW))
   go_end0
   exact ⟨rfl, by rw [← HT.out]; exact gL.out _ _ _ _ _ fa.out⟩) : G := h
theorem UV (h : G := by
 clear aM hS iu hE hN hk bS hl
 generalize hq : s.2.length = q at *
 have bI := jz
 go_enter Tryz.func95, Tryz.ntmps95
 go_wp2_with (first
  |(go_at_call 44; refine (cC.out _).mono ?_; rintro e w1 ⟨u, rfl, bx, hb1⟩; obtain ⟨own1, az, aZ, dR⟩ := ik.out w1 u _ hb1 bx; have HG := aa dR; have gL := aa aZ; obtain ⟨b0, b1, b2, b3⟩ := HG.out.box _ _ _ _ _ az; rw [gi.out] at b0; obtain ⟨k9, qG, pN⟩ := az.outs; have bb := aa az; clear az aZ dR bx hb1))
 first
 |clear k_0
  go_quiet (fail)
  go_wp2
  go_end0
  exact ⟨rfl, gL.out _ _ _ _ _ (bb.out.calm (below_drewN _ _))⟩
 |clear k_1
  exact bM4) : G := h
theorem UU (h : G := by
 rw [aM]
 have k_1 := kk
 exact UN) : G := h
theorem UT (h : G := by
 have cC := aa (fun o => fP T (w.alloc o) _ K.lo s.2.length hN.fine (by simp; omega) (ah (hS.box o) lr hN.row) hN.cost (by omega))
 have ik := aa (fun (w1 : World) (u : Value) (t : TypeId) hb ha => kT (w1 := w1) (T := T) (v := .slice (some ⟨g, off, none⟩) T.len cap) (p := s.2.length) (u := u) (t := t) hS hb ha)
 first
 |clear k_0
  have oP : ∀ i, i < T.len - 0 → (T.kids (0 + i)).sOk = true := by
   intro i hi
   obtain rfl : i = 0 := by omega
   exact hb1.2
  have FM := aa (fun (w1 : World) (own1 : Option Nat) (b ga oa ca : Nat) (hg : SGo K w w1 own1 b T (.slice (some ⟨g, off, none⟩) T.len cap) (.slice (some ⟨ga, oa, none⟩) T.len ca) s.2.length) nI fg => pB hg hE hN nI fg 0 (by omega))
  have zy := aa (fun (w1 : World) (own1 : Option Nat) (lv uv : Value) us (hL : mq K w1 own1 T s.2.length 0 (T.len - 0) lv uv us) (W : World) (hW : SS K w1 own1 (.ok (ab s)) cx.ret ((cx.loops : Int) + 1) ((cx.outs : Int) + 1) W) => om hL (fun i hi => ih (0 + i) (by omega)) _ ⟨cx.ret, cx.loops + 1, cx.outs + 1⟩ W hW (by omega) oP ((fun s2 e => by injection e with e; subst e; exact ⟨by rw [aP]; rfl, bh⟩)) aq (fun i hi => by have := aH T (i := 0 + i) (by omega); show cx.loops + 1 + _ ≤ _; omega) (fun i hi => by have := aH T (i := 0 + i) (by omega); show cx.outs + 1 + _ ≤ _; omega))
  have k_0 := kk
  exact UO
 |clear k_1
  have ji := aa (fun (w1 : World) (own1 : Option Nat) (b : Nat) (u : Value) (hg : SGo K w w1 own1 b T (.slice (some ⟨g, off, none⟩) T.len cap) u s.2.length) (W : World) (σ : CR CS) (r l o : Int) (q : Nat) (ty : Int) (hW : SS K w1 own1 σ r l o W) (ha : SAt K (T.kids 0) σ q) => lC (jV (T.kids 0)) K w1 own1 σ r l o W u0 q ty hW (hg.env hE hW) ((hN.kid (by omega) dE).later (hg.below _ _ _ _ _ hW)) ha cX)
  have Ji := aa (fun (w1 : World) (own1 : Option Nat) (b : Nat) (u : Value) (hg : SGo K w w1 own1 b T (.slice (some ⟨g, off, none⟩) T.len cap) u s.2.length) (W : World) (σ : CR CS) (r l o : Int) (q : Nat) (hW : SS K w1 own1 σ r l o W) (ha : SAt K (T.kids 0) σ q) => kO (jV (T.kids 0)) K w1 own1 σ r l o W u0 q hW (hg.env hE hW) ((hN.kid (by omega) dE).later (hg.below _ _ _ _ _ hW)) ha cX)
  first
  |clear k_0
   have vt := aa (fun (w1 : World) (own1 : Option Nat) (b : Nat) (u : Value) (hg : SGo K w w1 own1 b T (.slice (some ⟨g, off, none⟩) T.len cap) u s.2.length) (W : World) (σ : CR CS) (r l o : Int) (q : Nat) (ty : Int) (hW : SS K w1 own1 σ r l o W) (ha : SAt K (T.kids 1) σ q) => lC (jV (T.kids 1)) K w1 own1 σ r l o W u1 q ty hW (hg.env hE hW) ((hN.kid (by omega) fG).later (hg.below _ _ _ _ _ hW)) ha jB)
   have HV1 := aa (fun (w1 : World) (own1 : Option Nat) (b : Nat) (u : Value) (hg : SGo K w w1 own1 b T (.slice (some ⟨g, off, none⟩) T.len cap) u s.2.length) (W : World) (σ : CR CS) (r l o : Int) (q : Nat) (hW : SS K w1 own1 σ r l o W) (ha : SAt K (T.kids 1) σ q) => kO (jV (T.kids 1)) K w1 own1 σ r l o W u1 q hW (hg.env hE hW) ((hN.kid (by omega) fG).later (hg.below _ _ _ _ _ hW)) ha jB)
   have ov := aa (SAt.kid0 aq dm (by omega))
   have FV := aa (SAt.next (τ := cD K (T.kids 0) 3 (.ok (ab s))) ov.out (by omega) aq dm (gQ cX))
   unfold Nd.val at *
   rw [hk] at cC ik ⊢
   have gi := aa hk
   have gh : 0 < T.len := by omega
   have np : (1 : Int) < (T.len : Int) := by omega
   have j8 : 1 < T.len := by omega
   clear aM hS iu hE hN hk aN eT ed aQ cX jB dE fG hl bS
   generalize hq : s.2.length = q at *
   have bI := jz
   go_enter Tryz.func95, Tryz.ntmps95
   go_wp2_with (first
    |(go_at_call 44; refine (cC.out _).mono ?_; rintro e w1 ⟨u, rfl, bx, hb1⟩; obtain ⟨own1, az, aZ, dR⟩ := ik.out w1 u _ hb1 bx; obtain ⟨ga, oa, ca, rfl, nI, fg⟩ := dR.ats (by omega); have HG := aa dR; have gM := aa fg; have gL := aa aZ; obtain ⟨b0, b1, b2, b3⟩ := HG.out.box _ _ _ _ _ az; rw [gi.out] at b0; have a0 := gM.out _ _ _ _ _ az 0 (by omega); rw [Nat.add_zero] at a0; obtain ⟨eD, eC, eB, eA⟩ := dH.out _ (HG.out.below _ _ _ _ _ az); have a1 := gM.out _ _ _ _ _ az 1 (by omega); obtain ⟨gG, gB, gE, gA⟩ := fD.out _ (HG.out.below _ _ _ _ _ az); have bb := aa az; clear az aZ dR fg bx hb1))
   go_still_tail 8, bI
   go_wp2_with (go_at_call 109; refine (ji.out _ _ _ _ HG.out _ _ _ _ _ _ _ bb.out.drew ov.out).mono ?_; rintro e w3 ⟨rfl, bW⟩; obtain ⟨b0, b1, b2, b3⟩ := HG.out.box _ _ _ _ _ bW; rw [gi.out] at b0; have a0 := gM.out _ _ _ _ _ bW 0 (by omega); rw [Nat.add_zero] at a0; obtain ⟨eD, eC, eB, eA⟩ := dH.out _ (HG.out.below _ _ _ _ _ bW); have a1 := gM.out _ _ _ _ _ bW 1 (by omega); obtain ⟨gG, gB, gE, gA⟩ := fD.out _ (HG.out.below _ _ _ _ _ bW); have fa := aa bW; clear bW)
   go_still_tail 8, bI
   go_wp2_with (go_at_call 109; refine (vt.out _ _ _ _ HG.out _ _ _ _ _ _ _ fa.out.drew FV.out).mono ?_; rintro e w4 ⟨rfl, fH⟩; have kG := aa (gL.out _ _ _ _ _ fH); clear fH)
   go_end0
   exact ⟨rfl, kG.out⟩
  |clear k_1
   have ov := aa (SAt.kid0 aq dm (by omega))
   first
   |clear k_0
    unfold Nd.val at *
    rw [hk] at cC ik ⊢
    have gi := aa hk
    have gh : 0 < T.len := by omega
    first
    |clear k_0
     have hpi : (0 : Int) < (T.len : Int) := by omega
     have hpi2 : decide ((0 : Int) < (T.len : Int)) = true := by simp; omega
     have hpi3 : decide (0 < T.len) = true := decide_eq_true (by omega)
     first
     |clear k_0
      have Mh : (cx.ret == 0) = true := beq_iff_eq.2 h0
      have hr2' : (cx.ret != 0) = false := by simp only [bne, Mh]; rfl
      have k_1 := kk
      exact U0
     |clear k_1
      have Mh : (cx.ret == 0) = false := bn h0
      have hr2' : (cx.ret != 0) = true := by simp only [bne, Mh]; rfl
      have k_0 := kk
      exact U0
    |clear k_1
     have oX := aa hσ
     first
     |clear k_0
      have NM : Hid (∀ t', Fx K (T.kids 0) (.ok (ab s)) t' → t' = 3) := by intro t' h; rw [← h3]; exact J1 t' h
      have k_0 := kk
      exact U1
     |clear k_1
      have NM : Hid (∀ t', Fx K (T.kids 0) (.ok (ab s)) t' → (t' == 3) = false) := by intro t' h; rw [J1 t' h]; exact bn h3
      have k_1 := kk
      exact U1
     |clear k_2
      clear aM hS iu hE hN hk aN eT aQ cX dE hl bS hσ uC rM
      have k_0 := kk
      exact UY
    |clear k_2
     first
     |clear k_0
      have H0 : Hid (look (ab s).1 T.name = look s.1 T.name) := lP
      have p6 : (look s.1 T.name == 0) = false := bn h0
      clear aM hS iu hE hN hk aN eT aQ cX dE hl bS lP h0
      generalize look s.1 T.name = lk at *
      generalize hq : s.2.length = q at *
      have bI := jz
      go_enter Tryz.func95, Tryz.ntmps95
      go_wp2_with (first
       |(go_at_call 44; refine (cC.out _).mono ?_; rintro e w1 ⟨u, rfl, bx, hb1⟩; obtain ⟨own1, az, aZ, dR⟩ := ik.out w1 u _ hb1 bx; obtain ⟨ga, oa, ca, rfl, nI, fg⟩ := dR.ats (by omega); have HG := aa dR; have gM := aa fg; have gL := aa aZ; obtain ⟨b0, b1, b2, b3⟩ := HG.out.box _ _ _ _ _ az; rw [gi.out] at b0; have a0 := gM.out _ _ _ _ _ az 0 (by omega); rw [Nat.add_zero] at a0; obtain ⟨eD, eC, eB, eA⟩ := dH.out _ (HG.out.below _ _ _ _ _ az); have bb := aa az; clear az aZ dR fg bx hb1)
       |(go_at_call 108; refine (iU bb.out _).mono ?_; rw [H0.out]; rintro e w2 ⟨rfl, aD⟩; obtain ⟨b0, b1, b2, b3⟩ := HG.out.box _ _ _ _ _ aD; rw [gi.out] at b0; have a0 := gM.out _ _ _ _ _ aD 0 (by omega); rw [Nat.add_zero] at a0; obtain ⟨eD, eC, eB, eA⟩ := dH.out _ (HG.out.below _ _ _ _ _ aD); have bM := aa aD; clear aD))
      go_still_tail 9, bI
      go_wp2_with (go_at_call 109; refine (ji.out _ _ _ _ HG.out _ _ _ _ _ _ _ bM.out.drew ov.out).mono ?_; rintro e w3 ⟨rfl, bW⟩; have fa := aa (gL.out _ _ _ _ _ bW); clear bW)
      go_end0
      exact ⟨rfl, fa.out⟩
     |clear k_1
      have k_0 := kk
      exact UZ
   |clear k_1
    first
    |clear k_0
     have En : s1.1 ≠ [] := by rw [H5.1]; exact bh
     have Em : aO s1.1 + 1 ≤ s1.2.length := by rw [H5.1, H5.2, aP]; show aO s.1 + 1 ≤ _; omega
     unfold Nd.val at *
     rw [hk] at cC ik ⊢
     have gi := aa hk
     have gh : 0 < T.len := by omega
     have oX := aa hσ
     have NM := aa J1
     have mr := aa En
     have jI := aa Em
     clear aM hS iu hE hN hk aN eT aQ cX dE hl bS hσ uC rM J1 H5 En Em
     generalize hτ : ij s1 T.name t0 s.2.length = τ at *
     have HT := aa hτ
     clear hτ
     have k_1 := kk
     exact UY
    |clear k_1
     have oP : ∀ i, i < T.len - 1 → (T.kids (1 + i)).sOk = true := by
      intro i hi
      have : i = 0 ∨ i = 1 := by omega
      rcases this with rfl | rfl
      ·exact hb1.2
      ·exact (hb2 (by omega)).2
     have k_0 := kk
     exact UQ
    |clear k_2
     have oP : ∀ i, i < T.len - 1 → (T.kids (1 + i)).sOk = true := by
      intro i hi
      obtain rfl : i = 0 := by omega
      exact hb1.2
     have k_1 := kk
     exact UQ
    |clear k_3
     have NM := aa (fun (w1 : World) (own1 : Option Nat) (b : Nat) (u : Value) (hg : SGo K w w1 own1 b T (.slice (some ⟨g, off, none⟩) T.len cap) u s.2.length) (W : World) (σ : CR CS) (r l o : Int) (q : Nat) (hW : SS K w1 own1 σ r l o W) (ha : SAt K (T.kids 0) σ q) => jV (T.kids 0) K w1 own1 σ r l o W u0 q hW (hg.env hE hW) ((hN.kid (by omega) dE).later (hg.below _ _ _ _ _ hW)) ha cX)
     unfold Nd.val at *
     rw [hk] at cC ik ⊢
     have gi := aa hk
     have gh : 0 < T.len := by omega
     have k_1 := kk
     exact UZ) : G := h
theorem E4 (h : G := by
 rw [aM]
 have dm := hS.ok.few
 have bB := hS.lt
 have cC := aa (fun o => fP T (w.alloc o) v K.lo s.2.length hN.fine (by have := hS.ok.cl; simp; omega) (ah (hS.box o) lr hN.row) hN.cost (by omega))
 have HS := aa (fun o => hS.alloc o)
 unfold Nd.val at *
 rw [hk] at cC ⊢
 first
 |clear k_0
  have H0 := aa (lP.trans h0)
  clear aM hS iu hE hN hk bS lP h0
  generalize hq : s.2.length = q at *
  go_enter Tryz.func95, Tryz.ntmps95
  go_wp2_with (first
   |(go_at_call 44; refine (cC.out _).mono ?_; rintro e w1 ⟨u, rfl, bx, hb1⟩; have bb := aa ((HS.out _).calm hb1); have k0 : w1.cell? ⟨w.heap.size, 0, none⟩ = some (.int .i64 6) := (hb1.cell (p := ⟨w.heap.size, 0, none⟩) (by simp)).trans (by simp); have k2 : w1.cell? ⟨w.heap.size, 2, none⟩ = some (.string T.name) := (hb1.cell (p := ⟨w.heap.size, 2, none⟩) (by simp)).trans (by simp); have k3 : w1.cell? ⟨w.heap.size, 3, none⟩ = some v := (hb1.cell (p := ⟨w.heap.size, 3, none⟩) (by simp)).trans (by simp); clear hb1 bx)
   |(go_at_call 108; refine (iU bb.out _).mono ?_; rw [H0.out]; rintro e w2 ⟨rfl, aD⟩; have bM := aa aD; clear aD)
   |(go_at_call 46; refine (dW bM.out 5 (by decide) q).mono ?_; rintro e w3 ⟨rfl, bW⟩; have fa := aa bW; clear bW))
  first | go_end0 | refine bodyPost_ret (results_none rfl _ _ _) rfl ?_
  exact ⟨rfl, fa.out⟩
 |clear k_1
  have p6 : (((cx.outs : Nat) : Int) == 0) = true := beq_iff_eq.2 (by omega)
  clear aM hS iu hE hN hk bS jy h0
  generalize hq : s.2.length = q at *
  go_enter Tryz.func95, Tryz.ntmps95
  go_wp2_with (first
   |(go_at_call 44; refine (cC.out _).mono ?_; rintro e w1 ⟨u, rfl, bx, hb1⟩; have bb := aa ((HS.out _).calm hb1); have k0 : w1.cell? ⟨w.heap.size, 0, none⟩ = some (.int .i64 17) := (hb1.cell (p := ⟨w.heap.size, 0, none⟩) (by simp)).trans (by simp); have k2 : w1.cell? ⟨w.heap.size, 2, none⟩ = some (.string T.name) := (hb1.cell (p := ⟨w.heap.size, 2, none⟩) (by simp)).trans (by simp); have k3 : w1.cell? ⟨w.heap.size, 3, none⟩ = some v := (hb1.cell (p := ⟨w.heap.size, 3, none⟩) (by simp)).trans (by simp); obtain ⟨k9, qG, pN⟩ := bb.out.outs; clear hb1 bx)
   |(go_at_call 46; refine (dW bb.out 10 (by decide) q).mono ?_; rintro e w3 ⟨rfl, bW⟩; have fa := aa bW; clear bW))
  go_end0
  exact ⟨rfl, fa.out⟩
 |clear k_2
  have p6 : (((cx.outs : Nat) : Int) == 0) = false := bn (by omega)
  clear aM hS iu hE hN hk bS jy h0
  generalize hq : s.2.length = q at *
  go_enter Tryz.func95, Tryz.ntmps95
  go_wp2_with (first
   |(go_at_call 44; refine (cC.out _).mono ?_; rintro e w1 ⟨u, rfl, bx, hb1⟩; have bb := aa ((HS.out _).calm hb1); have k0 : w1.cell? ⟨w.heap.size, 0, none⟩ = some (.int .i64 17) := (hb1.cell (p := ⟨w.heap.size, 0, none⟩) (by simp)).trans (by simp); have k2 : w1.cell? ⟨w.heap.size, 2, none⟩ = some (.string T.name) := (hb1.cell (p := ⟨w.heap.size, 2, none⟩) (by simp)).trans (by simp); have k3 : w1.cell? ⟨w.heap.size, 3, none⟩ = some v := (hb1.cell (p := ⟨w.heap.size, 3, none⟩) (by simp)).trans (by simp); obtain ⟨k9, qG, pN⟩ := bb.out.outs; clear hb1 bx))
  go_end0
  exact ⟨rfl, bb.out⟩
 |clear k_3
  have p6 : (((cx.loops : Nat) : Int) == 0) = true := beq_iff_eq.2 (by omega)
  clear aM hS iu hE hN hk bS jy h0
  generalize hq : s.2.length = q at *
  go_enter Tryz.func95, Tryz.ntmps95
  go_wp2_with (first
   |(go_at_call 44; refine (cC.out _).mono ?_; rintro e w1 ⟨u, rfl, bx, hb1⟩; have bb := aa ((HS.out _).calm hb1); have k0 : w1.cell? ⟨w.heap.size, 0, none⟩ = some (.int .i64 18) := (hb1.cell (p := ⟨w.heap.size, 0, none⟩) (by simp)).trans (by simp); have k2 : w1.cell? ⟨w.heap.size, 2, none⟩ = some (.string T.name) := (hb1.cell (p := ⟨w.heap.size, 2, none⟩) (by simp)).trans (by simp); have k3 : w1.cell? ⟨w.heap.size, 3, none⟩ = some v := (hb1.cell (p := ⟨w.heap.size, 3, none⟩) (by simp)).trans (by simp); obtain ⟨k9, qG, pN⟩ := bb.out.outs; clear hb1 bx)
   |(go_at_call 46; refine (dW bb.out 10 (by decide) q).mono ?_; rintro e w3 ⟨rfl, bW⟩; have fa := aa bW; clear bW))
  go_end0
  exact ⟨rfl, fa.out⟩
 |clear k_4
  have p6 : (((cx.loops : Nat) : Int) == 0) = false := bn (by omega)
  clear aM hS iu hE hN hk bS jy h0
  generalize hq : s.2.length = q at *
  go_enter Tryz.func95, Tryz.ntmps95
  go_wp2_with (first
   |(go_at_call 44; refine (cC.out _).mono ?_; rintro e w1 ⟨u, rfl, bx, hb1⟩; have bb := aa ((HS.out _).calm hb1); have k0 : w1.cell? ⟨w.heap.size, 0, none⟩ = some (.int .i64 18) := (hb1.cell (p := ⟨w.heap.size, 0, none⟩) (by simp)).trans (by simp); have k2 : w1.cell? ⟨w.heap.size, 2, none⟩ = some (.string T.name) := (hb1.cell (p := ⟨w.heap.size, 2, none⟩) (by simp)).trans (by simp); have k3 : w1.cell? ⟨w.heap.size, 3, none⟩ = some v := (hb1.cell (p := ⟨w.heap.size, 3, none⟩) (by simp)).trans (by simp); obtain ⟨k9, qG, pN⟩ := bb.out.outs; clear hb1 bx))
  go_end0
  exact ⟨rfl, bb.out⟩) : G := h
theorem US (h : G := by
 have k_1 := kk
 exact UR) : G := h
theorem UR (h : G := by
 rw [aM]
 have dm := hS.ok.few
 have bB := hS.lt
 have yX := hS.ok.cl
 obtain ⟨g, off, cap, hv, iW, b7, aQ⟩ := cN hN.row (by omega)
 subst hv
 obtain ⟨u0, eT, dE⟩ := aQ 0 (by omega)
 simp only [Nat.zero_mul, Nat.add_zero] at eT
 have dH := aa eT
 first
 |clear k_0
  have k_0 := kk
  exact UT
 |clear k_1
  first
  |clear k_0
   obtain ⟨u1, ed, fG⟩ := aQ 1 (by omega)
   simp only [Nat.one_mul] at ed
   have fD := aa ed
   have k_0 := kk
   exact U2
  |clear k_1
   have k_1 := kk
   exact U2) : G := h
theorem UQ (h : G := by
 have FM := aa (fun (w1 : World) (own1 : Option Nat) (b ga oa ca : Nat) (hg : SGo K w w1 own1 b T (.slice (some ⟨g, off, none⟩) T.len cap) (.slice (some ⟨ga, oa, none⟩) T.len ca) s.2.length) nI fg => pB hg hE hN nI fg 1 (by omega))
 first
 |clear k_0
  have zy := aa (fun (w1 : World) (own1 : Option Nat) (lv uv : Value) us (hL : mq K w1 own1 T s.2.length 1 (T.len - 1) lv uv us) (W : World) (hW : SS K w1 own1 (cD K (T.kids 0) 2 (.ok (ab s))) cx.ret cx.loops cx.outs W) => om hL (fun i hi => ih (1 + i) (by omega)) _ cx W hW (by omega) oP (yn cX bh) aq (fun i hi => by have := aH T (i := 1 + i) (by omega); omega) (fun i hi => by have := aH T (i := 1 + i) (by omega); omega))
  unfold Nd.val at *
  rw [hk] at cC ik ⊢
  have gi := aa hk
  have gh : 0 < T.len := by omega
  have hpi1 : (1 : Int) ≤ (T.len : Int) := by omega
  have hpn1 : 1 ≤ T.len := by omega
  have hpn2 : 2 ≤ T.len := by omega
  have hcn1 : ¬ cap = 1 := by omega
  clear aM hS iu hE hN hk aN eT aQ cX dE hl bS oP hb1 hb2 ih
  generalize hq : s.2.length = q at *
  have bI := jz
  go_enter Tryz.func95, Tryz.ntmps95
  go_wp2_with (first
   |(go_at_call 44; refine (cC.out _).mono ?_; rintro e w1 ⟨u, rfl, bx, hb1⟩; obtain ⟨own1, az, aZ, dR⟩ := ik.out w1 u _ hb1 bx; obtain ⟨ga, oa, ca, rfl, nI, fg⟩ := dR.ats (by omega); have HG := aa dR; have gM := aa fg; have gL := aa aZ; obtain ⟨b0, b1, b2, b3⟩ := HG.out.box _ _ _ _ _ az; rw [gi.out] at b0; have a0 := gM.out _ _ _ _ _ az 0 (by omega); rw [Nat.add_zero] at a0; obtain ⟨eD, eC, eB, eA⟩ := dH.out _ (HG.out.below _ _ _ _ _ az); obtain ⟨us, qY⟩ := FM.out w1 own1 _ ga oa ca HG.out nI fg; have vu := aa qY; have hcan : ¬ ca = 1 := (by omega); clear qY; have bb := aa az; clear az aZ dR fg bx hb1))
  go_still_tail 8, bI
  go_wp2_with (go_at_call 109; refine (ji.out _ _ _ _ HG.out _ _ _ _ _ _ _ bb.out.drew ov.out).mono ?_; rintro e w3 ⟨rfl, bW⟩; obtain ⟨b0, b1, b2, b3⟩ := HG.out.box _ _ _ _ _ bW; rw [gi.out] at b0; have a0 := gM.out _ _ _ _ _ bW 0 (by omega); rw [Nat.add_zero] at a0; obtain ⟨eD, eC, eB, eA⟩ := dH.out _ (HG.out.below _ _ _ _ _ bW); have fa := aa bW; clear bW)
  go_still_tail 6, bI
  go_wp2_with (go_at_call 72; refine (zy.out w1 own1 _ _ us vu.out _ fa.out.drew).mono ?_; rintro e w4 ⟨rfl, fH⟩; have kG := aa (gL.out _ _ _ _ _ fH); clear fH)
  go_end0
  exact ⟨rfl, kG.out⟩
 |clear k_1
  have zy := aa (fun (w1 : World) (own1 : Option Nat) (lv uv : Value) us (hL : mq K w1 own1 T s.2.length 1 (T.len - 1) lv uv us) (W : World) (hW : SS K w1 own1 (cD K (T.kids 0) 2 (.ok (ab s))) cx.ret ((cx.loops : Int) + 1) ((cx.outs : Int) + 1) W) => om hL (fun i hi => ih (1 + i) (by omega)) _ ⟨cx.ret, cx.loops + 1, cx.outs + 1⟩ W hW (by omega) oP (yn cX bh) aq (fun i hi => by have := aH T (i := 1 + i) (by omega); show cx.loops + 1 + _ ≤ _; omega) (fun i hi => by have := aH T (i := 1 + i) (by omega); show cx.outs + 1 + _ ≤ _; omega))
  have k_1 := kk
  exact UO) : G := h
theorem UP (h : G := by
 obtain ⟨b0, b1, b2, b3⟩ := HG.out.box _ _ _ _ _ jh
 rw [gi.out] at b0
 have a0 := gM.out _ _ _ _ _ jh 0 (by omega)
 rw [Nat.add_zero] at a0
 obtain ⟨eD, eC, eB, eA⟩ := dH.out _ (HG.out.below _ _ _ _ _ jh)
 have l7 := aa jh
 clear jh
 first
 |clear k_0
  generalize (w1.setCell ⟨K.cb, 10, none⟩ (.int .i64 ((cx.loops : Int) + 1))).setCell ⟨K.cb, 11, none⟩ (.int .i64 ((cx.outs : Int) + 1)) = w5 at *
  exact bM3
 |clear k_1
  generalize (w3.setCell ⟨K.cb, 10, none⟩ (.int .i64 ((cx.loops : Int) + 1))).setCell ⟨K.cb, 11, none⟩ (.int .i64 ((cx.outs : Int) + 1)) = w5 at *
  clear yY
  exact bM3) : G := h
theorem UO (h : G := by
 unfold Nd.val at *
 rw [hk] at cC ik ⊢
 have gi := aa hk
 have gh : 0 < T.len := by omega
 have hpn1 : 1 ≤ T.len := by omega
 have vE : cx.loops ≤ 1099511627776 := by omega
 have yO : cx.outs ≤ 1099511627776 := by omega
 first
 |clear k_0
  have yY : (T.len : Int) - 1 = 0 := by omega
  clear aM hS iu hE hN hk aN eT aQ dE hl bS oP hb1 ih
  generalize hq : s.2.length = q at *
  have bI := jz
  go_enter Tryz.func95, Tryz.ntmps95
  go_wp2_with (first
   |(go_at_call 44; refine (cC.out _).mono ?_; rintro e w1 ⟨u, rfl, bx, hb1⟩; obtain ⟨own1, az, aZ, dR⟩ := ik.out w1 u _ hb1 bx; obtain ⟨ga, oa, ca, rfl, nI, fg⟩ := dR.ats (by omega); have HG := aa dR; have gM := aa fg; have gL := aa aZ; obtain ⟨b0, b1, b2, b3⟩ := HG.out.box _ _ _ _ _ az; rw [gi.out] at b0; have a0 := gM.out _ _ _ _ _ az 0 (by omega); rw [Nat.add_zero] at a0; obtain ⟨eD, eC, eB, eA⟩ := dH.out _ (HG.out.below _ _ _ _ _ az); obtain ⟨us, qY⟩ := FM.out w1 own1 _ ga oa ca HG.out nI fg; have vu := aa qY; clear qY; obtain ⟨k9, qG, pN⟩ := az.outs; have f10 := az.free 10; have f11 := az.free 11; have bb := aa az; clear az aZ dR fg bx hb1))
  have jh := (bb.out.setLoops ((cx.loops : Int) + 1)).setOuts ((cx.outs : Int) + 1)
  have k_0 := kk
  exact UP
 |clear k_1
  have hpi1 : (1 : Int) ≤ (T.len : Int) := by omega
  have hpn2 : 2 ≤ T.len := by omega
  have hcn1 : ¬ cap = 1 := by omega
  have yY : (T.len : Int) - 1 = 1 := by omega
  clear aM hS iu hE hN hk aN eT aQ cX dE hl bS oP hb1 ih
  generalize hq : s.2.length = q at *
  have bI := jz
  go_enter Tryz.func95, Tryz.ntmps95
  go_wp2_with (first
   |(go_at_call 44; refine (cC.out _).mono ?_; rintro e w1 ⟨u, rfl, bx, hb1⟩; obtain ⟨own1, az, aZ, dR⟩ := ik.out w1 u _ hb1 bx; obtain ⟨ga, oa, ca, rfl, nI, fg⟩ := dR.ats (by omega); have HG := aa dR; have gM := aa fg; have gL := aa aZ; obtain ⟨b0, b1, b2, b3⟩ := HG.out.box _ _ _ _ _ az; rw [gi.out] at b0; have a0 := gM.out _ _ _ _ _ az 0 (by omega); rw [Nat.add_zero] at a0; obtain ⟨eD, eC, eB, eA⟩ := dH.out _ (HG.out.below _ _ _ _ _ az); obtain ⟨us, qY⟩ := FM.out w1 own1 _ ga oa ca HG.out nI fg; have vu := aa qY; have hcan : ¬ ca = 1 := (by omega); clear qY; obtain ⟨k9, qG, pN⟩ := az.outs; have f10 := az.free 10; have f11 := az.free 11; have bb := aa az; clear az aZ dR fg bx hb1))
  go_still_tail 8, bI
  go_wp2_with (go_at_call 109; refine (ji.out _ _ _ _ HG.out _ _ _ _ _ _ _ bb.out.drew ov.out).mono ?_; rintro e w3 ⟨rfl, bW⟩; obtain ⟨b0, b1, b2, b3⟩ := HG.out.box _ _ _ _ _ bW; rw [gi.out] at b0; have a0 := gM.out _ _ _ _ _ bW 0 (by omega); rw [Nat.add_zero] at a0; obtain ⟨eD, eC, eB, eA⟩ := dH.out _ (HG.out.below _ _ _ _ _ bW); obtain ⟨k9, qG, pN⟩ := bW.outs; have f10 := bW.free 10; have f11 := bW.free 11; have fa := aa bW; clear bW)
  have jh := (fa.out.setLoops ((cx.loops : Int) + 1)).setOuts ((cx.outs : Int) + 1)
  have k_1 := kk
  exact UP) : G := h
theorem UN (h : G := by
 have dm := hS.ok.few
 have bB := hS.lt
 have yX := hS.ok.cl
 have cC := aa (fun o => fP T (w.alloc o) _ K.lo s.2.length hN.fine (by simp; omega) (ah (hS.box o) lr hN.row) hN.cost (by omega))
 first
 |clear k_0
  have ik := aa (fun (w1 : World) (u : Value) (t : TypeId) hb ha => kT (w1 := w1) (T := T) (v := .slice a0 T.len MV) (p := s.2.length) (u := u) (t := t) hS hb ha)
  unfold Nd.val at *
  rw [hk] at cC ik ⊢
  have gi := aa hk
  have hle : ¬ (0 : Int) < (T.len : Int) := by omega
  have hle2 : decide ((0 : Int) < (T.len : Int)) = false := by simp; omega
  have hle3 : decide (0 < T.len) = false := decide_eq_false (by omega)
  first
  |clear k_0
   have fG : (cx.ret == 0) = true := beq_iff_eq.2 h0
   have jH : (cx.ret != 0) = false := by simp only [bne, fG]; rfl
   have k_0 := kk
   exact UV
  |clear k_1
   have fG : (cx.ret == 0) = false := bn h0
   have jH : (cx.ret != 0) = true := by simp only [bne, fG]; rfl
   have k_1 := kk
   exact UV
 |clear k_1
  have ik := aa (fun (w1 : World) (u : Value) (t : TypeId) hb ha => kT (w1 := w1) (T := T) (v := v) (p := s.2.length) (u := u) (t := t) hS hb ha)
  first
  |clear k_0
   unfold Nd.val at *
   rw [hk] at cC ik ⊢
   have gi := aa hk
   first
   |clear k_0
    have H0 := aa (lP.trans h0)
    clear lP h0
    clear aM hS iu hE hN hk bS
    generalize hq : s.2.length = q at *
    have bI := jz
    go_enter Tryz.func95, Tryz.ntmps95
    go_wp2_with (first
     |(go_at_call 44; refine (cC.out _).mono ?_; rintro e w1 ⟨u, rfl, bx, hb1⟩; obtain ⟨own1, az, aZ, dR⟩ := ik.out w1 u _ hb1 bx; have HG := aa dR; have gL := aa aZ; obtain ⟨b0, b1, b2, b3⟩ := HG.out.box _ _ _ _ _ az; rw [gi.out] at b0; have bb := aa az; clear az aZ dR bx hb1)
     |(go_at_call 108; refine (iU bb.out _).mono ?_; rw [H0.out]; rintro e w2 ⟨rfl, aD⟩; obtain ⟨b0, b1, b2, b3⟩ := HG.out.box _ _ _ _ _ aD; rw [gi.out] at b0; have bM := aa aD; clear aD)
     |(go_at_call 46; refine (dW bM.out 5 (by decide) q).mono ?_; rintro e w3 ⟨rfl, bW⟩; have fa := aa bW; clear bW))
    exact bM6
   |clear k_1
    have H0 := aa (lP.trans h1)
    clear lP h0 h1
    clear aM hS iu hE hN hk bS
    generalize hq : s.2.length = q at *
    have bI := jz
    go_enter Tryz.func95, Tryz.ntmps95
    go_wp2_with (first
     |(go_at_call 44; refine (cC.out _).mono ?_; rintro e w1 ⟨u, rfl, bx, hb1⟩; obtain ⟨own1, az, aZ, dR⟩ := ik.out w1 u _ hb1 bx; have HG := aa dR; have gL := aa aZ; obtain ⟨b0, b1, b2, b3⟩ := HG.out.box _ _ _ _ _ az; rw [gi.out] at b0; have bb := aa az; clear az aZ dR bx hb1)
     |(go_at_call 108; refine (iU bb.out _).mono ?_; rw [H0.out]; rintro e w2 ⟨rfl, aD⟩; obtain ⟨b0, b1, b2, b3⟩ := HG.out.box _ _ _ _ _ aD; rw [gi.out] at b0; have bM := aa aD; clear aD))
    first | go_end0 | refine bodyPost_ret (results_none rfl _ _ _) rfl ?_
    exact ⟨rfl, gL.out _ _ _ _ _ bM.out⟩
   |clear k_2
    have H0 : Hid (look (ab s).1 T.name = look s.1 T.name) := lP
    have p6 : (look s.1 T.name == 0) = false := bn h0
    have Ey : (look s.1 T.name == 1) = false := bn h1
    clear lP h0 h1
    generalize look s.1 T.name = lk at *
    clear aM hS iu hE hN hk bS
    generalize hq : s.2.length = q at *
    have bI := jz
    go_enter Tryz.func95, Tryz.ntmps95
    go_wp2_with (first
     |(go_at_call 44; refine (cC.out _).mono ?_; rintro e w1 ⟨u, rfl, bx, hb1⟩; obtain ⟨own1, az, aZ, dR⟩ := ik.out w1 u _ hb1 bx; have HG := aa dR; have gL := aa aZ; obtain ⟨b0, b1, b2, b3⟩ := HG.out.box _ _ _ _ _ az; rw [gi.out] at b0; have bb := aa az; clear az aZ dR bx hb1)
     |(go_at_call 108; refine (iU bb.out _).mono ?_; rw [H0.out]; rintro e w2 ⟨rfl, aD⟩; obtain ⟨b0, b1, b2, b3⟩ := HG.out.box _ _ _ _ _ aD; rw [gi.out] at b0; have bM := aa aD; clear aD)
     |(go_at_call 46; refine (dW bM.out 7 (by decide) q).mono ?_; rintro e w3 ⟨rfl, bW⟩; have fa := aa bW; clear bW))
    exact bM6
  |clear k_1
   have bz := aa (fun (w1 : World) (own1 : Option Nat) (b : Nat) (u : Value) (hg : SGo K w w1 own1 b T v u s.2.length) (W : World) (hW : SS K w1 own1 (.ok s) cx.ret cx.loops cx.outs W) => EW hk ih K w1 own1 s cx W v hW (hg.env hE hW) (hN.later (hg.below _ _ _ _ _ hW)) aq aN dI dP 0)
   generalize hτ : within [] ((bY K.F T).sts cx) s = τ at *
   unfold Nd.val at *
   rw [hk] at cC ik bz ⊢
   have gi := aa hk
   clear aM hS hE hN hk hτ
   generalize hq : s.2.length = q at *
   have bI := jz
   go_enter Tryz.func95, Tryz.ntmps95
   go_wp2_with (first
    |(go_at_call 44; refine (cC.out _).mono ?_; rintro e w1 ⟨u, rfl, bx, hb1⟩; obtain ⟨own1, az, aZ, dR⟩ := ik.out w1 u _ hb1 bx; have HG := aa dR; have gL := aa aZ; obtain ⟨b0, b1, b2, b3⟩ := HG.out.box _ _ _ _ _ az; rw [gi.out] at b0; have bb := aa az; clear az aZ dR bx hb1)
    |(go_at_call 106; refine (bz.out _ _ _ _ HG.out _ bb.out).mono ?_; rintro e w3 ⟨rfl, bW⟩; have fa := aa (gL.out _ _ _ _ _ bW); clear bW))
   go_end0
   exact ⟨rfl, fa.out⟩) : G := h
theorem UM (h : G := by
 have k_0 := kk
 exact UK) : G := h
theorem UL (h : G := by
 intro K w0 ay s cx w v iu hE hN aq aN bh dI dP
 have bS : 0 < T.size := by rw [T.size_eq]; omega
 have hS := iu.take (by omega)
 have lP : look (ab s).1 T.name = look s.1 T.name := rfl
 first
 |clear k_0
  obtain ⟨hl, cX⟩ := mz (by omega) aN
  by_cases h0 : look s.1 T.name = 0
  ·have aM : (bY K.F T).st cx s = .error (5, s.2.length) := by
    rw [bT K.F (by omega)]
    unfold stM
    rw [if_neg (by omega), if_neg (by omega), if_pos hk, if_pos h0]
   have k_0 := kk
   exact E4
  ·have aM : (bY K.F T).st cx s = cD K (T.kids 0) (look s.1 T.name) (.ok (ab s)) := by
    rw [bT K.F (by omega)]
    unfold stM
    rw [if_neg (by omega), if_neg (by omega), if_pos hk, if_neg h0]; rfl
   have k_0 := kk
   exact U4
 |clear k_1
  by_cases h0 : look s.1 T.name = 0
  ·have aM : (bY K.F T).st cx s = .error (5, s.2.length) := by
    rw [bT K.F (by omega)]
    unfold stM
    iterate 3 rw [if_neg (by omega)]
    rw [if_pos hk, if_pos h0]
   have k_0 := kk
   exact Ns
  by_cases h1 : look s.1 T.name = 1
  ·have aM : (bY K.F T).st cx s = .ok (ab s) := by
    rw [bT K.F (by omega)]
    unfold stM
    iterate 3 rw [if_neg (by omega)]
    rw [if_pos hk, if_neg h0, if_pos h1]
   have k_1 := kk
   exact Ns
  ·have aM : (bY K.F T).st cx s = .error (7, s.2.length) := by
    rw [bT K.F (by omega)]
    unfold stM
    iterate 3 rw [if_neg (by omega)]
    rw [if_pos hk, if_neg h0, if_neg h1]
   have k_2 := kk
   exact Ns) : G := h
theorem Nq (h : G := by
 have k_1 := kk
 exact UK) : G := h
theorem UK (h : G := by
 intro K w0 ay s cx w v iu hE hN aq aN bh dI dP
 have bS : 0 < T.size := by rw [T.size_eq]; omega
 have hS := iu.take (by omega)
 obtain ⟨hl, cX⟩ := mz (by omega) aN
 first
 |clear k_0
  have rM := iu.lens
  first
  |clear k_0
   cases hσ : jY K (T.kids 0) (.ok (ab s)) with
   |error e0 =>
    have uC := yo hσ
    have aM : (bY K.F T).st cx s = .error e0 := by
     rw [bT K.F (by omega)]
     unfold stM
     rw [if_neg (by omega), if_pos hk, uC]; rfl
    exact bM1
   |ok s1 =>
    obtain ⟨t0, uC, J1⟩ := Ch hσ
    have H5 := (eh K.F _ cX).value _ _ _ uC
    have aM : (bY K.F T).st cx s = ij s1 T.name t0 s.2.length := by
     rw [bT K.F (by omega)]
     unfold stM
     rw [if_neg (by omega), if_pos hk, uC]; rfl
    have k_0 := kk
    exact I6
  |clear k_1
   cases hσ : jY K (T.kids 0) (.ok (ab s)) with
   |error e0 =>
    have uC := yo hσ
    have aM : (bY K.F T).st cx s = .error e0 := by
     rw [bT K.F (by omega)]
     unfold stM
     rw [if_neg (by omega), if_neg (by omega), if_neg (by omega), if_neg (by omega), if_neg (by omega), if_neg (by omega), if_neg (by omega), if_neg (by omega), if_neg (by omega), if_neg (by omega), if_neg (by omega), if_neg (by omega), if_neg (by omega), if_pos hk, uC]; rfl
    exact bM1
   |ok s1 =>
    obtain ⟨t0, uC, J1⟩ := Ch hσ
    have H5 := (eh K.F _ cX).value _ _ _ uC
    by_cases h3 : t0 = 3
    ·have aM : (bY K.F T).st cx s = .error (7, s.2.length + 1) := by
      rw [bT K.F (by omega)]
      unfold stM
      iterate 13 rw [if_neg (by omega)]
      rw [if_pos hk, uC, CR.bind_ok, if_pos h3]
     have k_0 := kk
     exact bM9
    ·have aM : (bY K.F T).st cx s = .ok s1 := by
      rw [bT K.F (by omega)]
      unfold stM
      iterate 13 rw [if_neg (by omega)]
      rw [if_pos hk, uC, CR.bind_ok, if_neg h3]
     have k_1 := kk
     exact bM9
 |clear k_1
  first
  |clear k_0
   have aM : (bY K.F T).st cx s = cD K (T.kids 0) 3 (.ok (ab s)) := by
    rw [bT K.F (by omega)]
    unfold stM
    rw [if_neg (by omega), if_neg (by omega), if_neg (by omega), if_neg (by omega), if_neg (by omega), if_neg (by omega), if_neg (by omega), if_neg (by omega), if_neg (by omega), if_neg (by omega), if_neg (by omega), if_neg (by omega), if_pos hk]; rfl
   exact bM2
  |clear k_1
   have aM : (bY K.F T).st cx s = cD K (T.kids 0) 1 (.ok (ab s)) := by
    rw [bT K.F (by omega)]
    unfold stM
    rw [if_neg (by omega), if_neg (by omega), if_neg (by omega), if_neg (by omega), if_neg (by omega), if_neg (by omega), if_neg (by omega), if_neg (by omega), if_neg (by omega), if_neg (by omega), if_neg (by omega), if_neg (by omega), if_neg (by omega), if_neg (by omega), if_pos hk]; rfl
   exact bM2
  |clear k_2
   have aM : (bY K.F T).st cx s = OQ K (T.kids 0) (.ok (ab s)) := by
    rw [bT K.F (by omega)]
    unfold stM
    rw [if_neg (by omega), if_neg (by omega), if_neg (by omega), if_neg (by omega), if_neg (by omega), if_pos (by omega)]; rfl
   have k_3 := kk
   exact I6) : G := h
theorem Dt (s : ByteArray) : iS s ≤ 5 := by
 unfold iS
 repeat' split
 all_goals omega
theorem Cj {T : Nd} (ih : ∀ i, i < T.len → vA (T.kids i)) : vo T := by
 intro K w0 ay s ret loops outs w v hS hE hN aq aN
 rcases tp aN with h | h | h | h | h | h | h | h
 ·exact Po h K w0 ay s ret loops outs w v hS hE hN aq aN
 ·exact Pn h K w0 ay s ret loops outs w v hS hE hN aq aN
 ·exact Pm h K w0 ay s ret loops outs w v hS hE hN aq aN
 ·exact Pl h ih K w0 ay s ret loops outs w v hS hE hN aq aN
 ·have hl := (zg h aN).1
  by_cases h0 : T.len = 0
  ·exact K5 h h0 K w0 ay s ret loops outs w v hS hE hN aq aN
  ·exact K4 h (by omega) ih K w0 ay s ret loops outs w v hS hE hN aq aN
 ·cases hn : qW T.name with
  |true => exact K0 h hn ih K w0 ay s ret loops outs w v hS hE hN aq aN
  |false => exact K2 h hn ih K w0 ay s ret loops outs w v hS hE hN aq aN
 ·have h0 := (oK h aN).1
  have h5 := Dt T.name
  cases he : xI T.name with
  |true => exact KZ h he ih K w0 ay s ret loops outs w v hS hE hN aq aN
  |false =>
   have : iS T.name = 1 ∨ iS T.name = 2 ∨ iS T.name = 3 ∨ iS T.name = 4 ∨ iS T.name = 5 := by omega
   rcases this with hl | hl | hl | hl | hl
   ·exact Gf h hl ih K w0 ay s ret loops outs w v hS hE hN aq aN
   ·exact Ge h hl ih K w0 ay s ret loops outs w v hS hE hN aq aN
   ·exact Gd h hl he ih K w0 ay s ret loops outs w v hS hE hN aq aN
   ·exact Gc h hl ih K w0 ay s ret loops outs w v hS hE hN aq aN
   ·exact Gb h hl ih K w0 ay s ret loops outs w v hS hE hN aq aN
 ·exact Pk h ih K w0 ay s ret loops outs w v hS hE hN aq aN
theorem jV (T : Nd) : vA T := by
 induction T with
 |nil => exact y6 (Cj fun i hi => absurd hi (Nat.not_lt_zero i))
 |mk k n s len kids ih => exact y6 (Cj fun i _ => ih i)
theorem pr (T : Nd) : WtS T := lC (jV T)
def lW (T : Nd) : Prop := ∀ (K : SK) (w0 : World) (ay : Option Nat) (s : CS) (cx : Cx) (w : World) (v : Value), SS K w0 ay (.ok s) cx.ret cx.loops cx.outs w → SEnv K w → SNd K w T v → s.2.length + T.size ≤ K.N → T.sOk = true → s.1 ≠ [] → cx.loops + T.size ≤ 1099511627776 → cx.outs + T.size ≤ 1099511627776 →
 Calls Tryz.prog 95 #[.pointer (some ⟨K.cb, 0, none⟩), T.val v, .int .i64 s.2.length] w fun e w' => e = .returned (.tuple #[]) ∧ SS K w0 ay ((bY K.F T).st cx s) cx.ret cx.loops cx.outs w'
structure mq (K : SK) (w1 : World) (own1 : Option Nat) (T : Nd) (p d m : Nat) (lv uv : Value) (u : Nat → Value) : Prop where
  lv : ∃ a cap, lv = .slice a m cap ∧ m ≤ cap ∧ cap ≤ 9223372036854775807 ∧ ∃ a' ca, uv = .slice a' m ca ∧ m ≤ ca ∧ ca ≤ 9223372036854775807 ∧ (m = 0 ∨ ∃ g off ga oa, a = some ⟨g, off, none⟩ ∧ a' = some ⟨ga, oa, none⟩ ∧
    ∀ W σ r l o, SS K w1 own1 σ r l o W → ∀ i, i < m → W.cell? ⟨ga, oa + i, none⟩ = some (.int .i64 (aV T p (d + i) : Nat)) ∧
      W.cell? ⟨g, off + i * 4, none⟩ = some (.int .i64 (T.kids (d + i)).kind) ∧ W.cell? ⟨g, off + i * 4 + 1, none⟩ = some (.int .i64 (T.kids (d + i)).num) ∧ W.cell? ⟨g, off + i * 4 + 2, none⟩ = some (.string (T.kids (d + i)).name) ∧ W.cell? ⟨g, off + i * 4 + 3, none⟩ = some (u i))
  env : ∀ W σ r l o, SS K w1 own1 σ r l o W → SEnv K W
  nd : ∀ W σ r l o, SS K w1 own1 σ r l o W → ∀ i, i < m → SNd K W (T.kids (d + i)) (u i)
theorem aH (T : Nd) {i : Nat} (h : i < T.len) : (T.kids i).size + 1 ≤ T.size := by
 have := bP T 0 h
 unfold aV at this
 omega
def gI (F T : Nd) (cx : Cx) (d m : Nat) (σ : CR CS) : CR CS := CR.bind σ (forN (fun i => (bY F (T.kids (d + i))).st cx) m)
theorem nN (F T : Nd) (cx : Cx) (d m : Nat) (σ : CR CS) : gI F T cx d (m + 1) σ = CR.bind (gI F T cx d m σ) ((bY F (T.kids (d + m))).st cx) := by
 unfold gI
 cases σ <;> rfl
theorem C5 {F T : Nd} {cx : Cx} {d m : Nat} {σ : CR CS} {e : Int × Nat} (h : gI F T cx d m σ = .error e) : ∀ {n : Nat}, m ≤ n → gI F T cx d n σ = .error e := by
 intro n hn
 induction hn with
 |refl => exact h
 |step _ ih => rw [nN, ih]; rfl
theorem om {K : SK} {w1 : World} {own1 : Option Nat} {T : Nd} {p d m : Nat} {lv uv : Value} {u : Nat → Value} (hL : mq K w1 own1 T p d m lv uv u) (ih : ∀ i, i < m → lW (T.kids (d + i))) (σ : CR CS) (cx : Cx) (w : World) (hS : SS K w1 own1 σ cx.ret cx.loops cx.outs w)
  (hdm : d + m ≤ T.len) (aN : ∀ i, i < m → (T.kids (d + i)).sOk = true) (Ih : ∀ s, σ = .ok s → s.2.length = aV T p d ∧ s.1 ≠ []) (aq : p + T.size ≤ K.N) (hl : ∀ i, i < m → cx.loops + (T.kids (d + i)).size ≤ 1099511627776) (ho : ∀ i, i < m → cx.outs + (T.kids (d + i)).size ≤ 1099511627776) :
  Calls Tryz.prog 72 #[.pointer (some ⟨K.cb, 0, none⟩), lv, uv] w fun e w' => e = .returned (.tuple #[]) ∧ SS K w1 own1 (gI K.F T cx d m σ) cx.ret cx.loops cx.outs w' := by
 have dm := hS.ok.few
 obtain ⟨a, cap, rfl, ed, iy, a', ca, rfl, hc3, hc4, eX⟩ := hL.lv
 have HL := aa hL
 have qQ := aa eX
 have HS := aa hS
 have mT : Hid (∀ n, n ≤ m → ∀ s, gI K.F T cx d n σ = .ok s → s.2.length = aV T p (d + n) ∧ s.1 ≠ []) := by
  intro n
  induction n with
  |zero =>
   intro _ s hs
   unfold gI at hs
   obtain ⟨s0, h1, h2⟩ := bg hs
   injection h2 with h2; subst h2
   exact Ih s0 h1
  |succ n ihn =>
   intro hn s hs
   rw [nN] at hs
   obtain ⟨s0, h1, h2⟩ := bg hs
   obtain ⟨q1, q2⟩ := ihn (by omega) s0 h1
   obtain ⟨r1, r2, r3, _⟩ := (iq K.F (T.kids (d + n))).st (aN n (by omega)) cx s0 s q2 h2
   refine ⟨?_, ?_⟩
   ·rw [r3, q1, show d + (n + 1) = d + n + 1 by omega, eW]
   ·intro e; rw [e] at r2; exact q2 (List.length_eq_zero_iff.1 r2.symm)
 have HKA := aa (fun i (h : i < m) => bP T p (i := d + i) (by omega))
 have Jq := aa ih
 have oY := aa aN
 have HHL := aa hl
 have HHO := aa ho
 clear hL eX hS ih aN Ih hl ho
 go_enter Tryz.func72, Tryz.ntmps72
 go_wp2
 have bI := jz
 go_loopw [6] (fun i wr => ∃ n : Nat, n ≤ m ∧ i = .int .i64 n ∧ SS K w1 own1 (gI K.F T cx d n σ) cx.ret cx.loops cx.outs wr) (fun i _ => m - (intOf i).toNat)
 case atStart =>
  refine ⟨0, Nat.zero_le _, rfl, ?_⟩
  have : gI K.F T cx d 0 σ = σ := by unfold gI; cases σ <;> rfl
  rw [this]; exact HS.out
 case round =>
  obtain ⟨n, hn, rfl, cr⟩ := hrel
  by_cases bB : n < m
  ·have hni : (n : Int) < (m : Int) := by omega
   rcases qQ.out with h0 | ⟨g, off, ga, oa, rfl, rfl, hc⟩
   ·omega
   obtain ⟨an, c0, c1, c2, c3⟩ := hc _ _ _ _ _ cr n bB
   cases hq : gI K.F T cx d n σ with
   |error e0 =>
    rw [hq] at cr
    obtain ⟨code, k5, hz⟩ := cr.code1
    have iK := aa cr
    have HQ := aa hq
    clear cr hq hc
    go_wp2
    go_end0
    refine ⟨rfl, ?_⟩
    rw [C5 HQ.out hn]
    exact iK.out
   |ok s =>
    rw [hq] at cr
    have k5 := cr.code0
    obtain ⟨hp, az⟩ := mT.out n hn s hq
    have Ia := HKA.out n bB
    have HW := aa (Jq.out n bB K w1 own1 s cx wr.drew (u n) cr.drew (HL.out.env _ _ _ _ _ cr.drew) (HL.out.nd _ _ _ _ _ cr.drew n bB) (by rw [hp]; omega) (oY.out n bB) az (HHL.out n bB) (HHO.out n bB))
    rw [hp] at HW
    unfold Nd.val at HW
    have HQ := aa hq
    clear cr hq hp hc Ia
    generalize aV T p (d + n) = kp at *
    go_wp2
    go_still_tail 9, bI
    go_wp2_with (go_at_call 95; refine HW.out.mono ?_; rintro e w5 ⟨rfl, jh⟩; have l7 := aa jh; clear jh)
    refine ⟨⟨n + 1, by omega, by go_num, ?_⟩, by simp [intOf]; omega⟩
    rw [nN, HQ.out]
    exact l7.out
  ·have iK := aa cr
   clear cr
   go_wp2
   go_end0
   obtain rfl : n = m := by omega
   exact ⟨rfl, iK.out⟩
theorem SS.deep {K : SK} {w0 : World} {ay : Option Nat} {s : CS} {ret loops outs : Int} {w : World} (h : SS K w0 ay (.ok s) ret loops outs w) : w.cell? ⟨K.cb, 8, none⟩ = some (.int .i64 (s.1.length : Nat)) ∧ w.frozen? ⟨K.cb, 8, none⟩ = false ∧ s.1.length ≤ 1048577 := by
 obtain ⟨vv, code, place, deep, zs, vs, h1, ⟨a1, a2, a3, a4, a5, a6, a7, a8⟩, h3⟩ := h.is
 have := h.ok.few
 refine ⟨?_, h1.free 8, by omega⟩
 rw [← a3]; exact h1.cells.2.2.2.2.2.2.2.2.1
theorem SS.deeper {K : SK} {w0 : World} {ay : Option Nat} {s : CS} {ret loops outs : Int} {w : World} (h : SS K w0 ay (.ok s) ret loops outs w) (hl : s.1.length ≤ s.2.length) :
  SS K w0 ay (.ok ([] :: s.1, s.2)) ret loops outs (w.setCell ⟨K.cb, 8, none⟩ (.int .i64 ((s.1.length : Int) + 1))) := by
 obtain ⟨vv, code, place, deep, zs, vs, h1, ⟨a1, a2, a3, a4, a5, a6, a7, a8⟩, h3⟩ := h.is
 have r1 := h1.set h.ok (i := 8) (u := .int .i64 ((s.1.length : Int) + 1)) (code' := code) (place' := place) (deep' := (s.1.length : Int) + 1) (ret' := ret) (loops' := loops) (outs' := outs) rfl
 refine h.of_raw (own := ay) r1 ⟨a1, a2, by simp, a4, a5, ?_, ?_, ?_⟩ h3 (.inl rfl) (Kept.setCell (S := K.S ay) ⟨K.cb, 8, none⟩ _ (.inl rfl))
 ·rw [a6]; simp [varsOf]
 ·have e : aO ([] :: s.1, s.2).1 = aO s.1 := by simp [aO]
  rw [e]; exact a7
 ·show ([] :: s.1).length ≤ _; simp; omega
theorem SS.lens {K : SK} {w0 : World} {ay : Option Nat} {s : CS} {ret loops outs : Int} {w : World} (h : SS K w0 ay (.ok s) ret loops outs w) : aO s.1 ≤ s.2.length ∧ s.1.length ≤ s.2.length + 1 := by
 obtain ⟨vv, code, place, deep, zs, vs, h1, ⟨a1, a2, a3, a4, a5, a6, a7, a8⟩, h3⟩ := h.is
 exact ⟨a7, a8⟩
theorem ve {F T : Nd} {cx : Cx} {s : CS} (l : List (ByteArray × Int)) (hk : T.kind ≠ 0) : sO (gI F T cx 0 T.len (.ok (l :: s.1, s.2 ++ [0]))) = within l ((bY F T).sts cx) s := by
 rw [jm F hk]
 unfold sO gI within oC ab
 simp only [CR.bind_ok, Nat.zero_add]
theorem C3 {F T : Nd} {cx : Cx} {s : CS} (h4 : T.kind = 4) (aN : T.sOk = true) (hs : s.1 ≠ []) : ∀ s', gI F T cx 0 T.len (.ok s) = .ok s' → s'.1 ≠ [] := by
 intro s' e
 unfold gI at e
 simp only [CR.bind_ok, Nat.zero_add] at e
 have := (StL.forN (g := fun i => (T.kids i).size) (fun i hi => (iq F (T.kids i)).st (Aw h4 aN i hi) cx) lr) s s' hs e
 intro h; rw [h] at this; exact hs (List.length_eq_zero_iff.1 this.2.1.symm)
theorem CZ {K : SK} {w w1 : World} {own1 : Option Nat} {b : Nat} {T : Nd} {a : Option Addr} {cap : Nat} {u : Value} {p : Nat} (hg : SGo K w w1 own1 b T (.slice a T.len cap) u p) (hE : SEnv K w) (hN : SNd K w T (.slice a T.len cap)) (hu : T.len = 0 → ∃ a' ca, u = .slice a' 0 ca ∧ ca ≤ 9223372036854775807) :
  ∃ us, mq K w1 own1 T p 0 T.len (.slice a T.len cap) u us := by
 by_cases h0 : T.len = 0
 ·obtain ⟨a', ca, rfl, nI⟩ := hu h0
  obtain ⟨a2, c2, e2, iy, _⟩ := ar.1 hN.row
  injection e2 with e3 e4 e5
  subst e5
  refine ⟨fun _ => .tuple #[], ⟨⟨a, cap, rfl, iy.1, iy.2, a', ca, by rw [h0], by omega, nI, .inl h0⟩, fun W σ r l o hW => hg.env hE hW, fun W σ r l o hW i hi => by omega⟩⟩
 ·obtain ⟨g, off, l5, hv, iW, b7, aQ⟩ := cN hN.row h0
  injection hv with e1 e2 e3
  subst e1
  subst e3
  obtain ⟨ga, oa, ca, rfl, nI, fg⟩ := hg.ats h0
  refine ⟨fun i => if h : i < T.len then (aQ i h).choose else .tuple #[], ⟨⟨_, cap, rfl, b7.1, b7.2, _, ca, rfl, nI.1, nI.2, .inr ⟨g, off, ga, oa, rfl, rfl, fun W σ r l o hW i hi => ?_⟩⟩, fun W σ r l o hW => hg.env hE hW, fun W σ r l o hW i hi => ?_⟩⟩
  ·have hx := (aQ i hi).choose_spec.1 W (hg.below W σ r l o hW)
   simp only [Nat.zero_add, hi, dif_pos]
   exact ⟨fg W σ r l o hW i hi, hx⟩
  ·have hx := (aQ i hi).choose_spec.2
   simp only [Nat.zero_add, hi, dif_pos]
   exact (hN.kid hi hx).later (hg.below W σ r l o hW)
theorem EW {T : Nd} (h4 : T.kind = 4) (ih : ∀ i, i < T.len → lW (T.kids i)) (K : SK) (w0 : World) (ay : Option Nat) (s : CS) (cx : Cx) (w : World) (v : Value) (hS : SS K w0 ay (.ok s) cx.ret cx.loops cx.outs w) (hE : SEnv K w) (hN : SNd K w T v) (aq : s.2.length + T.size ≤ K.N) (aN : T.sOk = true) (hl : cx.loops + T.size ≤ 1099511627776) (ho : cx.outs + T.size ≤ 1099511627776) (na : Nat) :
  Calls Tryz.prog 106 #[.pointer (some ⟨K.cb, 0, none⟩), T.val v, .int .i64 s.2.length, .string ⟨#[]⟩, .int .i64 na] w fun e w' => e = .returned (.tuple #[]) ∧ SS K w0 ay (within [] ((bY K.F T).sts cx) s) cx.ret cx.loops cx.outs w' := by
 have k_0 := kk
 exact UX
theorem Pv {T : Nd} (hk : T.kind = 19) : lW T := by
 have k_0 := kk
 exact Nq
theorem Pt {T : Nd} (hk : T.kind = 21) : lW T := by
 have k_1 := kk
 exact Nq
theorem st_8 {T : Nd} (hk : T.kind = 8) : lW T := by
 intro K w0 ay s cx w v iu hE hN aq aN bh dI dP
 have bS : 0 < T.size := by rw [T.size_eq]; omega
 have hS := iu.take (by omega)
 obtain ⟨hl, cX, jB⟩ := Lk hk aN
 have aM : (bY K.F T).st cx s = cD K (T.kids 1) 1 (cD K (T.kids 0) 3 (.ok (ab s))) := by
  rw [bT K.F (by omega)]
  unfold stM
  rw [if_neg (by omega), if_neg (by omega), if_neg (by omega), if_neg (by omega), if_pos hk]; rfl
 have k_0 := kk
 exact US
theorem st_9 {T : Nd} (hk : T.kind = 9) : lW T := by
 exact bM0
theorem PC {T : Nd} (hk : T.kind = 13) : lW T := by
 exact bM0
theorem Pz {T : Nd} (hk : T.kind = 14) : lW T := by
 exact bM0
theorem st_7 {T : Nd} (hk : T.kind = 7) : lW T := by
 have k_1 := kk
 exact UL
theorem st_6 {T : Nd} (hk : T.kind = 6) : lW T := by
 have k_0 := kk
 exact UL
theorem yo {K : SK} {A : Nd} {s : CS} {e : Int × Nat} (h : jY K A (.ok s) = .error e) : cE (bL K.F A) s = .error e := by
 unfold jY at h
 simp only [CR.bind_ok] at h
 cases hv : cE (bL K.F A) s with
 |error x => rw [hv, CR.bind_error] at h; injection h with h; rw [h]
 |ok r => rw [hv] at h; cases h
theorem Ch {K : SK} {A : Nd} {s s1 : CS} (h : jY K A (.ok s) = .ok s1) : ∃ t, cE (bL K.F A) s = .ok (t, s1) ∧ ∀ t', Fx K A (.ok s) t' → t' = t := by
 unfold jY at h
 simp only [CR.bind_ok] at h
 obtain ⟨r, h1, h2⟩ := bg h
 injection h2 with h2; subst h2
 exact ⟨r.1, h1, fun t' h => h s r rfl (gR h1).1⟩
theorem st_5 {T : Nd} (hk : T.kind = 5) : lW T := by
 have k_0 := kk
 exact UM
theorem Pu {T : Nd} (hk : T.kind = 20) : lW T := by
 have k_1 := kk
 exact UM
theorem SS.outs {K : SK} {w0 : World} {ay : Option Nat} {σ : CR CS} {ret loops outs : Int} {w : World} (h : SS K w0 ay σ ret loops outs w) : w.cell? ⟨K.cb, 9, none⟩ = some (.int .i64 ret) ∧ w.cell? ⟨K.cb, 10, none⟩ = some (.int .i64 loops) ∧ w.cell? ⟨K.cb, 11, none⟩ = some (.int .i64 outs) := by
 obtain ⟨vv, code, place, deep, zs, vs, h1, _⟩ := h.is
 exact ⟨h1.cells.2.2.2.2.2.2.2.2.2.1, h1.cells.2.2.2.2.2.2.2.2.2.2.1, h1.cells.2.2.2.2.2.2.2.2.2.2.2⟩
theorem Px {T : Nd} (hk : T.kind = 17) : lW T := by
 intro K w0 ay s cx w v iu hE hN aq aN bh dI dP
 have bS : 0 < T.size := by rw [T.size_eq]; omega
 have hS := iu.take (by omega)
 have jy : ((cx.outs : Nat) : Int) = cx.outs := rfl
 by_cases h0 : cx.outs = 0
 ·have aM : (bY K.F T).st cx s = .error (10, s.2.length) := by
   rw [bT K.F (by omega)]
   unfold stM
   iterate 10 rw [if_neg (by omega)]
   rw [if_pos hk, if_pos h0]
  have k_1 := kk
  exact E4
 ·have aM : (bY K.F T).st cx s = .ok (ab s) := by
   rw [bT K.F (by omega)]
   unfold stM
   iterate 10 rw [if_neg (by omega)]
   rw [if_pos hk, if_neg h0]
  have k_2 := kk
  exact E4
theorem Pw {T : Nd} (hk : T.kind = 18) : lW T := by
 intro K w0 ay s cx w v iu hE hN aq aN bh dI dP
 have bS : 0 < T.size := by rw [T.size_eq]; omega
 have hS := iu.take (by omega)
 have jy : ((cx.loops : Nat) : Int) = cx.loops := rfl
 by_cases h0 : cx.loops = 0
 ·have aM : (bY K.F T).st cx s = .error (10, s.2.length) := by
   rw [bT K.F (by omega)]
   unfold stM
   iterate 11 rw [if_neg (by omega)]
   rw [if_pos hk, if_pos h0]
  have k_3 := kk
  exact E4
 ·have aM : (bY K.F T).st cx s = .ok (ab s) := by
   rw [bT K.F (by omega)]
   unfold stM
   iterate 11 rw [if_neg (by omega)]
   rw [if_pos hk, if_neg h0]
  have k_4 := kk
  exact E4
theorem PD {T : Nd} (hk : T.kind = 12) : lW T := by
 intro K w0 ay s cx w v iu hE hN aq aN bh dI dP
 have bS : 0 < T.size := by rw [T.size_eq]; omega
 have hS := iu.take (by omega)
 obtain ⟨a0, MV, uC, hcap0, Q4⟩ := ar.1 hN.row
 have HQ00 := aa Q4
 clear Q4
 rcases CU hk aN with hl | ⟨hl, cX⟩
 ·by_cases h0 : cx.ret = 0
  ·have aM : (bY K.F T).st cx s = .ok (ab s) := by
    rw [bT K.F (by omega)]
    unfold stM
    iterate 8 rw [if_neg (by omega)]
    rw [if_pos hk, if_pos (by simp [hl, h0]), if_neg (by omega)]
   have k_0 := kk
   exact UW
  ·have aM : (bY K.F T).st cx s = .error (9, s.2.length) := by
    exact bM7
   have k_1 := kk
   exact UW
 ·by_cases h0 : cx.ret = 0
  ·have aM : (bY K.F T).st cx s = .error (9, s.2.length) := by
    exact bM7
   have k_0 := kk
   exact bM8
  ·have aM : (bY K.F T).st cx s = cD K (T.kids 0) cx.ret (.ok (ab s)) := by
    rw [bT K.F (by omega)]
    unfold stM
    rw [if_neg (by omega), if_neg (by omega), if_neg (by omega), if_neg (by omega), if_neg (by omega), if_neg (by omega), if_neg (by omega), if_neg (by omega), if_pos hk, if_pos (by simp [hl, h0]), if_pos (by omega)]; rfl
   have k_1 := kk
   exact bM8
theorem st_4 {T : Nd} (hk : T.kind = 4) (ih : ∀ i, i < T.len → lW (T.kids i)) : lW T := by
 intro K w0 ay s cx w v hS hE hN aq aN bh dI dP
 have aM : (bY K.F T).st cx s = within [] ((bY K.F T).sts cx) s := by
  rw [bT K.F (by omega)]
  unfold stM
  rw [if_pos hk]; rw [jm K.F (by omega)]
 have k_1 := kk
 exact UU
theorem SS.setLoops {K : SK} {w0 : World} {ay : Option Nat} {σ : CR CS} {ret loops outs : Int} {w : World} (h : SS K w0 ay σ ret loops outs w) (n : Int) : SS K w0 ay σ ret n outs (w.setCell ⟨K.cb, 10, none⟩ (.int .i64 n)) := by
 obtain ⟨vv, code, place, deep, zs, vs, h1, h2, h3⟩ := h.is
 have r1 := h1.set h.ok (i := 10) (u := .int .i64 n) (code' := code) (place' := place) (deep' := deep) (ret' := ret) (loops' := n) (outs' := outs) rfl
 exact h.of_raw (own := ay) r1 h2 h3 (.inl rfl) (Kept.setCell (S := K.S ay) ⟨K.cb, 10, none⟩ _ (.inl rfl))
theorem SS.setOuts {K : SK} {w0 : World} {ay : Option Nat} {σ : CR CS} {ret loops outs : Int} {w : World} (h : SS K w0 ay σ ret loops outs w) (n : Int) : SS K w0 ay σ ret loops n (w.setCell ⟨K.cb, 11, none⟩ (.int .i64 n)) := by
 obtain ⟨vv, code, place, deep, zs, vs, h1, h2, h3⟩ := h.is
 have r1 := h1.set h.ok (i := 11) (u := .int .i64 n) (code' := code) (place' := place) (deep' := deep) (ret' := ret) (loops' := loops) (outs' := n) rfl
 exact h.of_raw (own := ay) r1 h2 h3 (.inl rfl) (Kept.setCell (S := K.S ay) ⟨K.cb, 11, none⟩ _ (.inl rfl))
theorem SS.free {K : SK} {w0 : World} {ay : Option Nat} {σ : CR CS} {ret loops outs : Int} {w : World} (h : SS K w0 ay σ ret loops outs w) (i : Nat) : w.frozen? ⟨K.cb, i, none⟩ = false := by
 obtain ⟨vv, code, place, deep, zs, vs, h1, _⟩ := h.is
 exact h1.free i
theorem pB {K : SK} {w w1 : World} {own1 : Option Nat} {b : Nat} {T : Nd} {g off cap ga oa ca p : Nat} (hg : SGo K w w1 own1 b T (.slice (some ⟨g, off, none⟩) T.len cap) (.slice (some ⟨ga, oa, none⟩) T.len ca) p) (hE : SEnv K w) (hN : SNd K w T (.slice (some ⟨g, off, none⟩) T.len cap)) (nI : T.len ≤ ca ∧ ca ≤ 9223372036854775807)
  (fg : ∀ W σ r l o, SS K w1 own1 σ r l o W → ∀ i, i < T.len → W.cell? ⟨ga, oa + i, none⟩ = some (.int .i64 (aV T p i : Nat))) (d : Nat) (hd : d < T.len) :
  ∃ us, mq K w1 own1 T p d (T.len - d) (.slice (some ⟨g, off + d * 4, none⟩) (T.len - d) (cap - d)) (.slice (some ⟨ga, oa + d, none⟩) (T.len - d) (ca - d)) us := by
 obtain ⟨g', P9, l5, hv, iW, b7, aQ⟩ := cN hN.row (by omega)
 injection hv with e1 e2 e3
 injection e1 with e1
 injection e1 with e1 e4
 subst e1 e3 e4
 refine ⟨fun i => if h : d + i < T.len then (aQ (d + i) h).choose else .tuple #[], ⟨⟨_, cap - d, rfl, by omega, by omega, _, ca - d, rfl, by omega, by omega, .inr ⟨g, off + d * 4, ga, oa + d, rfl, rfl, fun W σ r l o hW i hi => ?_⟩⟩, fun W σ r l o hW => hg.env hE hW, fun W σ r l o hW i hi => ?_⟩⟩
 ·have fS : d + i < T.len := by omega
  have hx := (aQ (d + i) fS).choose_spec.1 W (hg.below W σ r l o hW)
  have ho : off + (d + i) * 4 = off + d * 4 + i * 4 := by omega
  have hu := (aQ (d + i) fS).choose
  simp only [fS, dif_pos]
  generalize (aQ (d + i) fS).choose = uu at hx ⊢
  rw [ho] at hx
  refine ⟨?_, hx⟩
  rw [Nat.add_assoc]
  exact fg W σ r l o hW (d + i) fS
 ·have fS : d + i < T.len := by omega
  have hx := (aQ (d + i) fS).choose_spec.2
  simp only [fS, dif_pos]
  exact (hN.kid fS hx).later (hg.below W σ r l o hW)
theorem GY {F T : Nd} {cx : Cx} {n : Nat} {σ : CR CS} : gI F T cx 1 n σ = CR.bind σ (forN (fun i => (bY F (T.kids (i + 1))).st cx) n) := by
 unfold gI
 have : (fun i => (bY F (T.kids (1 + i))).st cx) = (fun i => (bY F (T.kids (i + 1))).st cx) := by funext i; rw [Nat.add_comm]
 rw [this]
theorem C4 {F T : Nd} {cx : Cx} {d : Nat} {σ : CR CS} : gI F T cx d 1 σ = CR.bind σ ((bY F (T.kids d)).st cx) := by
 unfold gI
 cases σ <;> rfl
theorem yn {K : SK} {T : Nd} {s : CS} {t : Int} (he : (T.kids 0).eOk = true) (hs : s.1 ≠ []) : ∀ s', cD K (T.kids 0) t (.ok (ab s)) = .ok s' → s'.2.length = aV T s.2.length 1 ∧ s'.1 ≠ [] := by
 intro s' e
 have h1 : aC (bL K.F (T.kids 0)) t (ab s) = .ok s' := e
 obtain ⟨a1, a2⟩ := (eh K.F _ he).want t _ _ h1
 rw [aP] at a2
 refine ⟨by rw [a2]; unfold aV; simp only [aw]; omega, ?_⟩
 rw [a1]; exact hs
theorem PF {T : Nd} (hk : T.kind = 10) (ih : ∀ i, i < T.len → lW (T.kids i)) : lW T := by
 intro K w0 ay s cx w v iu hE hN aq aN bh dI dP
 have bS : 0 < T.size := by rw [T.size_eq]; omega
 have hS := iu.take (by omega)
 obtain ⟨hl, cX, hb1, hb2⟩ := pA hk aN
 have aM : (bY K.F T).st cx s = gI K.F T cx 1 (T.len - 1) (cD K (T.kids 0) 2 (.ok (ab s))) := by
  rw [bT K.F (by omega)]
  unfold stM
  rw [if_neg (by omega), if_neg (by omega), if_neg (by omega), if_neg (by omega), if_neg (by omega), if_neg (by omega), if_pos hk]; exact GY.symm
 have k_1 := kk
 exact I6
theorem Lj {T : Nd} (hk : T.kind = 11) (hl : T.len = 1) (hb1 : (T.kids 0).kind = 4 ∧ (T.kids 0).sOk = true) (ih : ∀ i, i < T.len → lW (T.kids i)) : lW T := by
 intro K w0 ay s cx w v iu hE hN aq aN bh dI dP
 have bS : 0 < T.size := by rw [T.size_eq]; omega
 have hS := iu.take (by omega)
 have aM : (bY K.F T).st cx s = gI K.F T ⟨cx.ret, cx.loops + 1, cx.outs + 1⟩ 0 (T.len - 0) (.ok (ab s)) := by
  exact bM5
 have k_0 := kk
 exact UR
theorem Li {T : Nd} (hk : T.kind = 11) (hl : T.len = 2) (cX : (T.kids 0).eOk = true) (hb1 : (T.kids 1).kind = 4 ∧ (T.kids 1).sOk = true) (ih : ∀ i, i < T.len → lW (T.kids i)) : lW T := by
 intro K w0 ay s cx w v iu hE hN aq aN bh dI dP
 have bS : 0 < T.size := by rw [T.size_eq]; omega
 have hS := iu.take (by omega)
 have aM : (bY K.F T).st cx s = gI K.F T ⟨cx.ret, cx.loops + 1, cx.outs + 1⟩ 1 (T.len - 1) (cD K (T.kids 0) 2 (.ok (ab s))) := by
  exact bM5
 have k_2 := kk
 exact I6
theorem j5 {s : ByteArray} (h : al s = false) : (s.toList == []) = false ∧ (s.toList != []) = true := by
 have e1 : (⟨#[]⟩ : ByteArray).toList = [] := by rw [ByteArray.toList_eq]
 have h1 : (s.toList == (⟨#[]⟩ : ByteArray).toList) = false := nM (fun e => by subst e; simp [al] at h)
 rw [e1] at h1
 exact ⟨h1, by simp only [bne, h1]; rfl⟩
theorem Nc {T : Nd} (h4 : T.kind = 4) (ih : ∀ i, i < T.len → lW (T.kids i)) (K : SK) (w0 : World) (ay : Option Nat) (s : CS) (cx : Cx) (w : World) (v : Value) (hS : SS K w0 ay (.ok s) cx.ret cx.loops cx.outs w) (hE : SEnv K w) (hN : SNd K w T v) (aq : s.2.length + T.size ≤ K.N) (aN : T.sOk = true) (hl : cx.loops + T.size ≤ 1099511627776) (ho : cx.outs + T.size ≤ 1099511627776) (name : ByteArray) (na : Nat) (dc : al name = false) :
  Calls Tryz.prog 106 #[.pointer (some ⟨K.cb, 0, none⟩), T.val v, .int .i64 s.2.length, .string name, .int .i64 na] w fun e w' => e = .returned (.tuple #[]) ∧ SS K w0 ay (within [(name, 1)] ((bY K.F T).sts cx) s) cx.ret cx.loops cx.outs w' := by
 have k_1 := kk
 exact UX
end Go.Proofs.YteaocammohcgoaaGreatDoor
