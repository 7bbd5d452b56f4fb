import Derived.Test.YteaocammohcgoaaGreatDoorVKdC
set_option linter.unusedVariables false
set_option maxHeartbeats 16000000
set_option maxRecDepth 100000
namespace Go.Proofs.YteaocammohcgoaaGreatDoor
open Go.RowKit
variable {G : Prop}
theorem bJ0 (h : G := by
 have k_J35_2 := kk
 exact OL) : G := h
theorem bJ1 (h : G := by
 have k_J9_2 := kk
 exact bJ9) : G := h
theorem bJ2 (h : G := by
 have k_J10_1 := kk
 exact WT) : G := h
theorem bJ3 (h : G := by
 go_still_tail 8, bH
 go_wp2_with (go_at_call 72; refine (zO.out w1 own1 _ _ us vO.out _ mY.out.drew).mono ?_; rintro e w4 ⟨rfl, gh⟩; have tR := gK.out _ _ _ _ _ gh; obtain ⟨j9, j10, Ry⟩ := tR.outs; have k9 : w4.cell? ⟨K.cb, 9, none⟩ = some (.int .i64 cx.ret) := j9; have qK : w4.cell? ⟨K.cb, 10, none⟩ = some (.int .i64 ((cx.loops : Int) + 1)) := j10; have pR : w4.cell? ⟨K.cb, 11, none⟩ = some (.int .i64 ((cx.outs : Int) + 1)) := Ry; have f10 := tR.free 10; have f11 := tR.free 11; have oO := aa ((tR.setLoops cx.loops).setOuts cx.outs); clear gh tR j9 j10 Ry)
 go_end0
 exact ⟨rfl, oO.out⟩) : G := h
theorem bJ4 (h : G := by
 go_quiet (fail)
 go_wp2_with (go_at_call 46; refine (dO (bh.out.calm (below_drewN _ _)) 9 (by decide) q).mono ?_; rintro e w3 ⟨rfl, bY⟩; have e7 := aa bY; clear bY)
 go_end0
 exact ⟨rfl, gK.out _ _ _ _ _ e7.out⟩) : G := h
theorem bJ5 (h : G := by
 rw [bT K.F (by omega)]
 unfold stM
 rw [if_neg (by omega), if_neg (by omega), if_neg (by omega), if_neg (by omega), if_neg (by omega), if_neg (by omega), if_neg (by omega), if_pos hk]; rw [hl]; exact Ds.symm) : G := h
theorem bJ6 (h : G := by
 first | go_end0 | refine bodyPost_ret (results_none rfl _ _ _) rfl ?_
 exact ⟨rfl, gK.out _ _ _ _ _ e7.out⟩) : G := h
theorem bJ7 (h : G := by
 rw [bT K.F (by omega)]
 unfold stM
 iterate 8 rw [if_neg (by omega)]
 rw [if_pos hk, if_neg (by simp [hl, h0])]) : G := h
theorem bJ8 (h : G := by
 have k_J12_0 := kk
 exact OO) : G := h
theorem bJ9 (h : G := by
 have k_J12_1 := kk
 exact OO) : G := h
theorem WT (h : G := by
 have k_J12_2 := kk
 exact OO) : G := h
theorem JN (h : G := by
 have k_J13_1 := kk
 exact WS) : G := h
theorem OO (h : G := by
 have k_J13_0 := kk
 exact WS) : G := h
theorem WS (h : G := by
 have k_J27_1 := kk
 exact WD) : G := h
theorem WR (h : G := by
 have k_J25_1 := kk
 exact WE) : G := h
theorem WQ (h : G := by
 clear aM hS mr hE hN hk aS fs aV dh dI hl b8 hσ uQ rV KN IA h3
 have k_J22_0 := kk
 exact OM) : G := h
theorem WO (h : G := by
 clear aM hS mr hE hN hk aS fs aV dh dI hl b8
 generalize hq : s.2.length = q at *
 have bH := jK
 go_enter Tryz.func95, Tryz.ntmps95
 go_wp2_with (first
  |(go_at_call 44; refine (cM.out _).mono ?_; rintro e w1 ⟨u, rfl, bz, hb1⟩; obtain ⟨own1, aD, bb, dG⟩ := iw.out w1 u _ hb1 bz; obtain ⟨ga, oa, ca, rfl, nL, fc⟩ := dG.ats (by omega); have HG := aa dG; have gO := aa fc; have gK := aa bb; obtain ⟨b0, b1, b2, b3⟩ := HG.out.box _ _ _ _ _ aD; rw [gr.out] at b0; have a0 := gO.out _ _ _ _ _ aD 0 (by omega); rw [Nat.add_zero] at a0; obtain ⟨eA, ez, ey, ew⟩ := dP.out _ (HG.out.below _ _ _ _ _ aD); obtain ⟨k9, qK, pR⟩ := aD.outs; have bh := aa aD; clear aD bb dG fc bz hb1))
 first
 |clear k_J16_0
  go_quiet (fail)
  have xy := bh.out.calm (below_drewN w1 nq)
  obtain ⟨b0, b1, b2, b3⟩ := HG.out.box _ _ _ _ _ xy
  rw [gr.out] at b0
  have a0 := gO.out _ _ _ _ _ xy 0 (by omega)
  rw [Nat.add_zero] at a0
  obtain ⟨eA, ez, ey, ew⟩ := dP.out _ (HG.out.below _ _ _ _ _ xy)
  obtain ⟨k9, qK, pR⟩ := xy.outs
  have LD := aa xy
  clear xy
  generalize w1.drewN nq = wq at *
  go_wp2
  go_still_tail 12, bH
  go_wp2_with (go_at_call 109; refine (jn.out _ _ _ _ HG.out _ _ _ _ _ _ _ LD.out.drew ot.out).mono ?_; rintro e w2 ⟨rfl, aC⟩; have bR := aa (gK.out _ _ _ _ _ aC); clear aC)
  go_end0
  exact ⟨rfl, bR.out⟩
 |clear k_J16_1
  exact bJ4) : G := h
theorem WN (h : G := by
 clear aM hS mr hE hN hk aS fs aV dh dI hl b8
 have k_J22_1 := kk
 exact OM) : G := h
theorem WK (h : G := by
 have k_J22_2 := kk
 exact OM) : G := h
theorem WJ (h : G := by
 have dK := hS.ok.few
 have bN := hS.lt
 have zr := hS.ok.cl
 have b8 : 0 < T.size := by rw [T.size_eq]; omega
 have rV := hS.lens
 obtain ⟨a, cap, hv, cr, Nc⟩ := aH.1 hN.row
 subst hv
 clear Nc
 have k_J37_0 := kk
 exact OK) : G := h
theorem WI (h : G := by
 rw [aM]
 subst uQ
 have k_J32_0 := kk
 exact Wy) : G := h
theorem ON (h : G := by
 have k_J24_0 := kk
 exact WG) : G := h
theorem OM (h : G := by
 generalize hq : s.2.length = q at *
 have bH := jK
 go_enter Tryz.func95, Tryz.ntmps95
 go_wp2_with (first
  |(go_at_call 44; refine (cM.out _).mono ?_; rintro e w1 ⟨u, rfl, bz, hb1⟩; obtain ⟨own1, aD, bb, dG⟩ := iw.out w1 u _ hb1 bz; obtain ⟨ga, oa, ca, rfl, nL, fc⟩ := dG.ats (by omega); have HG := aa dG; have gO := aa fc; have gK := aa bb; obtain ⟨b0, b1, b2, b3⟩ := HG.out.box _ _ _ _ _ aD; rw [gr.out] at b0; have a0 := gO.out _ _ _ _ _ aD 0 (by omega); rw [Nat.add_zero] at a0; obtain ⟨eA, ez, ey, ew⟩ := dP.out _ (HG.out.below _ _ _ _ _ aD); have bh := aa aD; clear aD bb dG fc bz hb1))
 go_still_tail 8, bH
 first
 |clear k_J22_0
  first
  |clear k_J15_0
   go_wp2_with (first
    |(go_at_call 107; refine (J2.out _ _ _ _ HG.out _ _ _ _ _ _ bh.out.drew ot.out).mono ?_; rintro e w2 ⟨t, rfl, hR, aC⟩; rw [oX.out] at aC; obtain ⟨b0, b1, b2, b3⟩ := HG.out.box _ _ _ _ _ aC; rw [gr.out] at b0; have a0 := gO.out _ _ _ _ _ aC 0 (by omega); rw [Nat.add_zero] at a0; obtain ⟨eA, ez, ey, ew⟩ := dP.out _ (HG.out.below _ _ _ _ _ aC); have k5 := aC.code0; obtain rfl : t = 3 := Pk.out t hR; have bR := aa aC; clear aC hR)
    |(go_at_call 46; refine (dO bR.out 7 (by decide) (aW T q 0)).mono ?_; rintro e w3 ⟨rfl, bY⟩; have e7 := aa bY; clear bY))
   go_end0
   exact ⟨rfl, gK.out _ _ _ _ _ e7.out⟩
  |clear k_J15_1
   go_wp2_with (go_at_call 107; refine (J2.out _ _ _ _ HG.out _ _ _ _ _ _ bh.out.drew ot.out).mono ?_; rintro e w2 ⟨t, rfl, hR, aC⟩; rw [oX.out] at aC; obtain ⟨b0, b1, b2, b3⟩ := HG.out.box _ _ _ _ _ aC; rw [gr.out] at b0; have a0 := gO.out _ _ _ _ _ aC 0 (by omega); rw [Nat.add_zero] at a0; obtain ⟨eA, ez, ey, ew⟩ := dP.out _ (HG.out.below _ _ _ _ _ aC); have k5 := aC.code0; have h3n := Pk.out t hR; have bR := aa aC; clear aC hR)
   go_end0
   exact ⟨rfl, gK.out _ _ _ _ _ bR.out⟩
 |clear k_J22_1
  first
  |clear k_J17_0
   go_wp2_with (go_at_call 109; refine (jn.out _ _ _ _ HG.out _ _ _ _ _ _ _ bh.out.drew ot.out).mono ?_; rintro e w2 ⟨rfl, aC⟩; have bR := aa (gK.out _ _ _ _ _ aC); clear aC)
   go_end0
   exact ⟨rfl, bR.out⟩
  |clear k_J17_1
   go_wp2_with (go_at_call 110; refine (Pk.out _ _ _ _ HG.out _ _ _ _ _ _ bh.out.drew ot.out).mono ?_; rintro e w2 ⟨t, rfl, hR, aC⟩; have bR := aa (gK.out _ _ _ _ _ aC); clear aC hR)
   go_end0
   exact ⟨rfl, bR.out⟩
 |clear k_J22_2
  first
  |clear k_J18_0
   go_wp2_with (go_at_call 107; refine (J2.out _ _ _ _ HG.out _ _ _ _ _ _ bh.out.drew ot.out).mono ?_; rintro e w2 ⟨t, rfl, hR, aC⟩; rw [oX.out] at aC; obtain ⟨b0, b1, b2, b3⟩ := HG.out.box _ _ _ _ _ aC; rw [gr.out] at b0; have a0 := gO.out _ _ _ _ _ aC 0 (by omega); rw [Nat.add_zero] at a0; obtain ⟨eA, ez, ey, ew⟩ := dP.out _ (HG.out.below _ _ _ _ _ aC); obtain ⟨code, k5, hz⟩ := aC.code1; have bR := aa aC; clear aC hR)
   go_end0
   exact ⟨rfl, gK.out _ _ _ _ _ bR.out⟩
  |clear k_J18_1
   go_wp2_with (first
    |(go_at_call 107; refine (J2.out _ _ _ _ HG.out _ _ _ _ _ _ bh.out.drew ot.out).mono ?_; rintro e w2 ⟨t, rfl, hR, aC⟩; rw [oX.out] at aC; obtain ⟨b0, b1, b2, b3⟩ := HG.out.box _ _ _ _ _ aC; rw [gr.out] at b0; have a0 := gO.out _ _ _ _ _ aC 0 (by omega); rw [Nat.add_zero] at a0; obtain ⟨eA, ez, ey, ew⟩ := dP.out _ (HG.out.below _ _ _ _ _ aC); have k5 := aC.code0; obtain rfl : t = t0 := Pk.out t hR; have bR := aa aC; clear aC hR)
    |(go_at_call 71; refine (lA bR.out T.name t q mZ.out jM.out).mono ?_; rintro e w3 ⟨rfl, bY⟩; have e7 := aa bY; clear bY))
   go_end0
   exact ⟨rfl, by rw [← HT.out]; exact gK.out _ _ _ _ _ e7.out⟩) : G := h
theorem WH (h : G := by
 clear aM hS mr hE hN hk b8 hl
 generalize hq : s.2.length = q at *
 have bH := jK
 go_enter Tryz.func95, Tryz.ntmps95
 go_wp2_with (first
  |(go_at_call 44; refine (cM.out _).mono ?_; rintro e w1 ⟨u, rfl, bz, hb1⟩; obtain ⟨own1, aD, bb, dG⟩ := iw.out w1 u _ hb1 bz; have HG := aa dG; have gK := aa bb; obtain ⟨b0, b1, b2, b3⟩ := HG.out.box _ _ _ _ _ aD; rw [gr.out] at b0; obtain ⟨k9, qK, pR⟩ := aD.outs; have bh := aa aD; clear aD bb dG bz hb1))
 first
 |clear k_J23_0
  go_quiet (fail)
  go_wp2
  go_end0
  exact ⟨rfl, gK.out _ _ _ _ _ (bh.out.calm (below_drewN _ _))⟩
 |clear k_J23_1
  exact bJ4) : G := h
theorem WG (h : G := by
 rw [aM]
 have k_J32_1 := kk
 exact Wy) : G := h
theorem WE (h : G := by
 have k_J37_1 := kk
 exact OK) : G := h
theorem FA (h : G := by
 rw [aM]
 have dK := hS.ok.few
 have bN := hS.lt
 have cM := aa (fun o => ib T (w.alloc o) v K.lo s.2.length hN.fine (by have := hS.ok.cl; simp; omega) (ah (hS.box o) lr hN.row) hN.cost (by omega))
 have HS := aa (fun o => hS.alloc o)
 unfold Nd.val at *
 rw [hk] at cM ⊢
 first
 |clear k_J26_0
  have H0 := aa (lW.trans h0)
  clear aM hS mr hE hN hk b8 lW h0
  generalize hq : s.2.length = q at *
  go_enter Tryz.func95, Tryz.ntmps95
  go_wp2_with (first
   |(go_at_call 44; refine (cM.out _).mono ?_; rintro e w1 ⟨u, rfl, bz, hb1⟩; have bh := aa ((HS.out _).calm hb1); have k0 : w1.cell? ⟨w.heap.size, 0, none⟩ = some (.int .i64 6) := (hb1.cell (p := ⟨w.heap.size, 0, none⟩) (by simp)).trans (by simp); have k2 : w1.cell? ⟨w.heap.size, 2, none⟩ = some (.string T.name) := (hb1.cell (p := ⟨w.heap.size, 2, none⟩) (by simp)).trans (by simp); have k3 : w1.cell? ⟨w.heap.size, 3, none⟩ = some v := (hb1.cell (p := ⟨w.heap.size, 3, none⟩) (by simp)).trans (by simp); clear hb1 bz)
   |(go_at_call 108; refine (iW bh.out _).mono ?_; rw [H0.out]; rintro e w2 ⟨rfl, aC⟩; have bR := aa aC; clear aC)
   |(go_at_call 46; refine (dO bR.out 5 (by decide) q).mono ?_; rintro e w3 ⟨rfl, bY⟩; have e7 := aa bY; clear bY))
  first | go_end0 | refine bodyPost_ret (results_none rfl _ _ _) rfl ?_
  exact ⟨rfl, e7.out⟩
 |clear k_J26_1
  have qd : (((cx.outs : Nat) : Int) == 0) = true := beq_iff_eq.2 (by omega)
  have k_J40_0 := kk
  exact JM
 |clear k_J26_2
  have qd : (((cx.outs : Nat) : Int) == 0) = false := bn (by omega)
  have k_J40_1 := kk
  exact JM
 |clear k_J26_3
  have qd : (((cx.loops : Nat) : Int) == 0) = true := beq_iff_eq.2 (by omega)
  have k_J40_2 := kk
  exact JM
 |clear k_J26_4
  have qd : (((cx.loops : Nat) : Int) == 0) = false := bn (by omega)
  have k_J40_3 := kk
  exact JM) : G := h
theorem WD (h : G := by
 have k_J28_1 := kk
 exact WC) : G := h
theorem WC (h : G := by
 rw [aM]
 have dK := hS.ok.few
 have bN := hS.lt
 have zr := hS.ok.cl
 obtain ⟨g, off, cap, hv, iM, cr, aV⟩ := dq hN.row (by omega)
 subst hv
 obtain ⟨u0, fs, dI⟩ := aV 0 (by omega)
 simp only [Nat.zero_mul, Nat.add_zero] at fs
 have dP := aa fs
 first
 |clear k_J28_0
  have k_J25_0 := kk
  exact WE
 |clear k_J28_1
  first
  |clear k_J27_0
   obtain ⟨u1, eM, fN⟩ := aV 1 (by omega)
   simp only [Nat.one_mul] at eM
   have fT := aa eM
   have k_J14_0 := kk
   exact WR
  |clear k_J27_1
   have k_J14_1 := kk
   exact WR) : G := h
theorem WB (h : G := by
 have Gl := aa (fun (w1 : World) (own1 : Option Nat) (b ga oa ca : Nat) (hg : SGo K w w1 own1 b T (.slice (some ⟨g, off, none⟩) T.len cap) (.slice (some ⟨ga, oa, none⟩) T.len ca) s.2.length) nL fc => pE hg hE hN nL fc 1 (by omega))
 first
 |clear k_J29_0
  have zO := aa (fun (w1 : World) (own1 : Option Nat) (lv uv : Value) us (hL : my K w1 own1 T s.2.length 1 (T.len - 1) lv uv us) (W : World) (hW : SS K w1 own1 (cL K (T.kids 0) 2 (.ok (ae s))) cx.ret cx.loops cx.outs W) => om hL (fun i hi => ih (1 + i) (by omega)) _ cx W hW (by omega) oR (yH dh bZ) ay (fun i hi => by have := aL T (i := 1 + i) (by omega); omega) (fun i hi => by have := aL T (i := 1 + i) (by omega); omega))
  unfold Nd.val at *
  rw [hk] at cM iw ⊢
  have gr := aa hk
  have iB : 0 < T.len := by omega
  have hpi1 : (1 : Int) ≤ (T.len : Int) := by omega
  have hpn1 : 1 ≤ T.len := by omega
  have hpn2 : 2 ≤ T.len := by omega
  have hcn1 : ¬ cap = 1 := by omega
  clear aM hS mr hE hN hk aS fs aV dh dI hl b8 oR hb1 ba ih
  generalize hq : s.2.length = q at *
  have bH := jK
  go_enter Tryz.func95, Tryz.ntmps95
  go_wp2_with (first
   |(go_at_call 44; refine (cM.out _).mono ?_; rintro e w1 ⟨u, rfl, bz, hb1⟩; obtain ⟨own1, aD, bb, dG⟩ := iw.out w1 u _ hb1 bz; obtain ⟨ga, oa, ca, rfl, nL, fc⟩ := dG.ats (by omega); have HG := aa dG; have gO := aa fc; have gK := aa bb; obtain ⟨b0, b1, b2, b3⟩ := HG.out.box _ _ _ _ _ aD; rw [gr.out] at b0; have a0 := gO.out _ _ _ _ _ aD 0 (by omega); rw [Nat.add_zero] at a0; obtain ⟨eA, ez, ey, ew⟩ := dP.out _ (HG.out.below _ _ _ _ _ aD); obtain ⟨us, qW⟩ := Gl.out w1 own1 _ ga oa ca HG.out nL fc; have vO := aa qW; have hcan : ¬ ca = 1 := (by omega); clear qW; have bh := aa aD; clear aD bb dG fc bz hb1))
  go_still_tail 8, bH
  go_wp2_with (go_at_call 109; refine (jn.out _ _ _ _ HG.out _ _ _ _ _ _ _ bh.out.drew ot.out).mono ?_; rintro e w3 ⟨rfl, bY⟩; obtain ⟨b0, b1, b2, b3⟩ := HG.out.box _ _ _ _ _ bY; rw [gr.out] at b0; have a0 := gO.out _ _ _ _ _ bY 0 (by omega); rw [Nat.add_zero] at a0; obtain ⟨eA, ez, ey, ew⟩ := dP.out _ (HG.out.below _ _ _ _ _ bY); have e7 := aa bY; clear bY)
  go_still_tail 6, bH
  go_wp2_with (go_at_call 72; refine (zO.out w1 own1 _ _ us vO.out _ e7.out.drew).mono ?_; rintro e w4 ⟨rfl, gh⟩; have mb := aa (gK.out _ _ _ _ _ gh); clear gh)
  go_end0
  exact ⟨rfl, mb.out⟩
 |clear k_J29_1
  have zO := aa (fun (w1 : World) (own1 : Option Nat) (lv uv : Value) us (hL : my K w1 own1 T s.2.length 1 (T.len - 1) lv uv us) (W : World) (hW : SS K w1 own1 (cL K (T.kids 0) 2 (.ok (ae s))) cx.ret ((cx.loops : Int) + 1) ((cx.outs : Int) + 1) W) => om hL (fun i hi => ih (1 + i) (by omega)) _ ⟨cx.ret, cx.loops + 1, cx.outs + 1⟩ W hW (by omega) oR (yH dh bZ) ay (fun i hi => by have := aL T (i := 1 + i) (by omega); show cx.loops + 1 + _ ≤ _; omega) (fun i hi => by have := aL T (i := 1 + i) (by omega); show cx.outs + 1 + _ ≤ _; omega))
  have k_J31_1 := kk
  exact Wz) : G := h
theorem WA (h : G := by
 obtain ⟨b0, b1, b2, b3⟩ := HG.out.box _ _ _ _ _ jh
 rw [gr.out] at b0
 have a0 := gO.out _ _ _ _ _ jh 0 (by omega)
 rw [Nat.add_zero] at a0
 obtain ⟨eA, ez, ey, ew⟩ := dP.out _ (HG.out.below _ _ _ _ _ jh)
 have mY := aa jh
 clear jh
 first
 |clear k_J30_0
  generalize (w1.setCell ⟨K.cb, 10, none⟩ (.int .i64 ((cx.loops : Int) + 1))).setCell ⟨K.cb, 11, none⟩ (.int .i64 ((cx.outs : Int) + 1)) = w5 at *
  exact bJ3
 |clear k_J30_1
  generalize (w3.setCell ⟨K.cb, 10, none⟩ (.int .i64 ((cx.loops : Int) + 1))).setCell ⟨K.cb, 11, none⟩ (.int .i64 ((cx.outs : Int) + 1)) = w5 at *
  clear Bx
  exact bJ3) : G := h
theorem Wz (h : G := by
 unfold Nd.val at *
 rw [hk] at cM iw ⊢
 have gr := aa hk
 have iB : 0 < T.len := by omega
 have hpn1 : 1 ≤ T.len := by omega
 have wb : cx.loops ≤ 1099511627776 := by omega
 have Bi : cx.outs ≤ 1099511627776 := by omega
 first
 |clear k_J31_0
  have Bx : (T.len : Int) - 1 = 0 := by omega
  clear aM hS mr hE hN hk aS fs aV dI hl b8 oR hb1 ih
  generalize hq : s.2.length = q at *
  have bH := jK
  go_enter Tryz.func95, Tryz.ntmps95
  go_wp2_with (first
   |(go_at_call 44; refine (cM.out _).mono ?_; rintro e w1 ⟨u, rfl, bz, hb1⟩; obtain ⟨own1, aD, bb, dG⟩ := iw.out w1 u _ hb1 bz; obtain ⟨ga, oa, ca, rfl, nL, fc⟩ := dG.ats (by omega); have HG := aa dG; have gO := aa fc; have gK := aa bb; obtain ⟨b0, b1, b2, b3⟩ := HG.out.box _ _ _ _ _ aD; rw [gr.out] at b0; have a0 := gO.out _ _ _ _ _ aD 0 (by omega); rw [Nat.add_zero] at a0; obtain ⟨eA, ez, ey, ew⟩ := dP.out _ (HG.out.below _ _ _ _ _ aD); obtain ⟨us, qW⟩ := Gl.out w1 own1 _ ga oa ca HG.out nL fc; have vO := aa qW; clear qW; obtain ⟨k9, qK, pR⟩ := aD.outs; have f10 := aD.free 10; have f11 := aD.free 11; have bh := aa aD; clear aD bb dG fc bz hb1))
  have jh := (bh.out.setLoops ((cx.loops : Int) + 1)).setOuts ((cx.outs : Int) + 1)
  have k_J30_0 := kk
  exact WA
 |clear k_J31_1
  have hpi1 : (1 : Int) ≤ (T.len : Int) := by omega
  have hpn2 : 2 ≤ T.len := by omega
  have hcn1 : ¬ cap = 1 := by omega
  have Bx : (T.len : Int) - 1 = 1 := by omega
  clear aM hS mr hE hN hk aS fs aV dh dI hl b8 oR hb1 ih
  generalize hq : s.2.length = q at *
  have bH := jK
  go_enter Tryz.func95, Tryz.ntmps95
  go_wp2_with (first
   |(go_at_call 44; refine (cM.out _).mono ?_; rintro e w1 ⟨u, rfl, bz, hb1⟩; obtain ⟨own1, aD, bb, dG⟩ := iw.out w1 u _ hb1 bz; obtain ⟨ga, oa, ca, rfl, nL, fc⟩ := dG.ats (by omega); have HG := aa dG; have gO := aa fc; have gK := aa bb; obtain ⟨b0, b1, b2, b3⟩ := HG.out.box _ _ _ _ _ aD; rw [gr.out] at b0; have a0 := gO.out _ _ _ _ _ aD 0 (by omega); rw [Nat.add_zero] at a0; obtain ⟨eA, ez, ey, ew⟩ := dP.out _ (HG.out.below _ _ _ _ _ aD); obtain ⟨us, qW⟩ := Gl.out w1 own1 _ ga oa ca HG.out nL fc; have vO := aa qW; have hcan : ¬ ca = 1 := (by omega); clear qW; obtain ⟨k9, qK, pR⟩ := aD.outs; have f10 := aD.free 10; have f11 := aD.free 11; have bh := aa aD; clear aD bb dG fc bz hb1))
  go_still_tail 8, bH
  go_wp2_with (go_at_call 109; refine (jn.out _ _ _ _ HG.out _ _ _ _ _ _ _ bh.out.drew ot.out).mono ?_; rintro e w3 ⟨rfl, bY⟩; obtain ⟨b0, b1, b2, b3⟩ := HG.out.box _ _ _ _ _ bY; rw [gr.out] at b0; have a0 := gO.out _ _ _ _ _ bY 0 (by omega); rw [Nat.add_zero] at a0; obtain ⟨eA, ez, ey, ew⟩ := dP.out _ (HG.out.below _ _ _ _ _ bY); obtain ⟨k9, qK, pR⟩ := bY.outs; have f10 := bY.free 10; have f11 := bY.free 11; have e7 := aa bY; clear bY)
  have jh := (e7.out.setLoops ((cx.loops : Int) + 1)).setOuts ((cx.outs : Int) + 1)
  have k_J30_1 := kk
  exact WA) : G := h
theorem Wy (h : G := by
 have dK := hS.ok.few
 have bN := hS.lt
 have zr := hS.ok.cl
 have k_J37_2 := kk
 exact OK) : G := h
theorem Wx (h : G := by
 have k_J36_0 := kk
 exact Wv) : G := h
theorem Ww (h : G := by
 have k_J38_7 := kk
 exact tI) : G := h
theorem OL (h : G := by
 have k_J36_1 := kk
 exact Wv) : G := h
theorem Wv (h : G := by
 have k_J38_8 := kk
 exact tI) : G := h
theorem OK (h : G := by
 have cM := aa (fun o => ib T (w.alloc o) _ K.lo s.2.length hN.fine (by simp; omega) (ah (hS.box o) lr hN.row) hN.cost (by omega))
 first
 |clear k_J37_0
  have iw := aa (fun (w1 : World) (u : Value) (t : TypeId) hb ha => kZ (w1 := w1) (T := T) (v := .slice a T.len cap) (p := s.2.length) (u := u) (t := t) hS hb ha)
  have Gl := aa (fun (w1 : World) (own1 : Option Nat) (b : Nat) (u : Value) (hg : SGo K w w1 own1 b T (.slice a T.len cap) u s.2.length) hu => Do hg hE hN hu)
  first
  |clear k_J19_0
   have zO := aa (fun (w1 : World) (own1 : Option Nat) (u : Value) us (hL : my K w1 own1 T s.2.length 0 T.len (.slice a T.len cap) u us) (W : World) (hW : SS K w1 own1 (.ok ([] :: s.1, s.2 ++ [0])) cx.ret cx.loops cx.outs W) => om hL (fun i hi => by rw [Nat.zero_add]; exact ih i hi) _ cx W hW (by omega) (fun i hi => by rw [Nat.zero_add]; exact AK h4 aS i hi) (fun s' e => by injection e with e; subst e; exact ⟨by simp [aW, ar], by simp⟩) ay (fun i hi => by rw [Nat.zero_add]; have := aL T hi; omega) (fun i hi => by rw [Nat.zero_add]; have := aL T hi; omega))
   have nH := aa (Dr (F := K.F) (cx := cx) (s := ([] :: s.1, s.2 ++ [0])) h4 aS (by simp))
   have HJ := aa (vA (F := K.F) (cx := cx) (s := s) [] (show T.kind ≠ 0 by omega))
   have gr := aa h4
   have oZ : Hid (s.2.length + 1 ≤ K.N) := by unfold Hid; omega
   unfold Nd.val at *
   rw [h4] at cM iw ⊢
   clear hS hE hN h4 aS ih ay b8
   generalize hτ : within [] ((b7 K.F T).sts cx) s = τ at *
   clear hτ
   go_enter Tryz.func106, Tryz.ntmps106
   go_wp2_with (first
    |(go_at_call 44; refine (cM.out _).mono ?_; rintro e w1 ⟨u, rfl, bz, hb1⟩; obtain ⟨own1, aD, bb, dG⟩ := iw.out w1 u _ hb1 bz; obtain ⟨b0, b1, b2, b3⟩ := dG.box _ _ _ _ _ aD; have Ep : T.len = 0 → ∃ a' ca, u = .slice a' 0 ca ∧ ca ≤ 9223372036854775807 := (by obtain ⟨q1, q2, q3, q4, q5, _⟩ := bz; intro h0; exact ⟨q1, q2, by rw [q3, h0], q5⟩); obtain ⟨us, qW⟩ := Gl.out w1 own1 _ u dG Ep; have xC := aD.take oZ.out; obtain ⟨k8, f8, hd8⟩ := xC.deep; have bh := aa (xC.deeper (by rw [aP]; have := rV.2; exact this)); have HG := aa dG; have vO := aa qW; have gK := aa bb; clear aD xC bb dG bz hb1 qW Ep)
    |(go_at_call 72; refine (zO.out w1 own1 u us vO.out _ bh.out).mono ?_; rintro e w2 ⟨rfl, aC⟩; have bR := aa aC; clear aC)
    |(go_at_call 129; refine (rO bR.out nH.out).mono ?_; rintro e w3 ⟨rfl, bY⟩; have e7 := aa (gK.out _ _ _ _ _ bY); clear bY))
   go_end0
   refine ⟨rfl, ?_⟩
   rw [← HJ.out]
   exact e7.out
  |clear k_J19_1
   have zO := aa (fun (w1 : World) (own1 : Option Nat) (u : Value) us (hL : my K w1 own1 T s.2.length 0 T.len (.slice a T.len cap) u us) (W : World) (hW : SS K w1 own1 (.ok ([(name, 1)] :: s.1, s.2 ++ [0])) cx.ret cx.loops cx.outs W) => om hL (fun i hi => by rw [Nat.zero_add]; exact ih i hi) _ cx W hW (by omega) (fun i hi => by rw [Nat.zero_add]; exact AK h4 aS i hi) (fun s' e => by injection e with e; subst e; exact ⟨by simp [aW, ar], by simp⟩) ay (fun i hi => by rw [Nat.zero_add]; have := aL T hi; omega) (fun i hi => by rw [Nat.zero_add]; have := aL T hi; omega))
   have nH := aa (Dr (F := K.F) (cx := cx) (s := ([(name, 1)] :: s.1, s.2 ++ [0])) h4 aS (by simp))
   have HJ := aa (vA (F := K.F) (cx := cx) (s := s) [(name, 1)] (show T.kind ≠ 0 by omega))
   have HDV : Hid (aN ([] :: (ae s).1) + 1 ≤ (ae s).2.length) := by
    have e : aN ([] :: (ae s).1) = aN s.1 := by simp [aN, ae]
    unfold Hid; rw [e, aP]; omega
   have QI : Hid (ir ([] :: s.1, s.2 ++ [0]) name 1 na = .ok ([(name, 1)] :: s.1, s.2 ++ [0])) := rfl
   obtain ⟨rU, rT⟩ := ke dn
   have gr := aa h4
   have oZ : Hid (s.2.length + 1 ≤ K.N) := by unfold Hid; omega
   unfold Nd.val at *
   rw [h4] at cM iw ⊢
   clear hS hE hN h4 aS ih ay b8
   generalize hτ : within [(name, 1)] ((b7 K.F T).sts cx) s = τ at *
   clear hτ
   go_enter Tryz.func106, Tryz.ntmps106
   go_wp2_with (first
    |(go_at_call 44; refine (cM.out _).mono ?_; rintro e w1 ⟨u, rfl, bz, hb1⟩; obtain ⟨own1, aD, bb, dG⟩ := iw.out w1 u _ hb1 bz; obtain ⟨b0, b1, b2, b3⟩ := dG.box _ _ _ _ _ aD; have Ep : T.len = 0 → ∃ a' ca, u = .slice a' 0 ca ∧ ca ≤ 9223372036854775807 := (by obtain ⟨q1, q2, q3, q4, q5, _⟩ := bz; intro h0; exact ⟨q1, q2, by rw [q3, h0], q5⟩); obtain ⟨us, qW⟩ := Gl.out w1 own1 _ u dG Ep; have xC := aD.take oZ.out; obtain ⟨k8, f8, hd8⟩ := xC.deep; have bh := aa (xC.deeper (by rw [aP]; have := rV.2; exact this)); have HG := aa dG; have vO := aa qW; have gK := aa bb; clear aD xC bb dG bz hb1 qW Ep)
    |(go_at_call 71; go_loud (refine (lA bh.out name 1 na (by simp) HDV.out).mono ?_; rintro e w4 ⟨rfl, gh⟩; have It := gh; rw [show ir ([] :: (ae s).1, (ae s).2) name 1 na = .ok ([(name, 1)] :: s.1, s.2 ++ [0]) from QI.out] at It; obtain ⟨b0, b1, b2, b3⟩ := HG.out.box _ _ _ _ _ It; have mb := aa It; clear gh It))
    |(go_at_call 72; refine (zO.out w1 own1 u us vO.out _ mb.out).mono ?_; rintro e w2 ⟨rfl, aC⟩; have bR := aa aC; clear aC)
    |(go_at_call 129; refine (rO bR.out nH.out).mono ?_; rintro e w3 ⟨rfl, bY⟩; have e7 := aa (gK.out _ _ _ _ _ bY); clear bY))
   go_end0
   refine ⟨rfl, ?_⟩
   rw [← HJ.out]
   exact e7.out
 |clear k_J37_1
  have iw := aa (fun (w1 : World) (u : Value) (t : TypeId) hb ha => kZ (w1 := w1) (T := T) (v := .slice (some ⟨g, off, none⟩) T.len cap) (p := s.2.length) (u := u) (t := t) hS hb ha)
  first
  |clear k_J25_0
   have oR : ∀ i, i < T.len - 0 → (T.kids (0 + i)).sOk = true := by
    intro i hi
    obtain rfl : i = 0 := by omega
    exact hb1.2
   have Gl := aa (fun (w1 : World) (own1 : Option Nat) (b ga oa ca : Nat) (hg : SGo K w w1 own1 b T (.slice (some ⟨g, off, none⟩) T.len cap) (.slice (some ⟨ga, oa, none⟩) T.len ca) s.2.length) nL fc => pE hg hE hN nL fc 0 (by omega))
   have zO := aa (fun (w1 : World) (own1 : Option Nat) (lv uv : Value) us (hL : my K w1 own1 T s.2.length 0 (T.len - 0) lv uv us) (W : World) (hW : SS K w1 own1 (.ok (ae s)) cx.ret ((cx.loops : Int) + 1) ((cx.outs : Int) + 1) W) => om hL (fun i hi => ih (0 + i) (by omega)) _ ⟨cx.ret, cx.loops + 1, cx.outs + 1⟩ W hW (by omega) oR ((fun s2 e => by injection e with e; subst e; exact ⟨by rw [aP]; rfl, bZ⟩)) ay (fun i hi => by have := aL T (i := 0 + i) (by omega); show cx.loops + 1 + _ ≤ _; omega) (fun i hi => by have := aL T (i := 0 + i) (by omega); show cx.outs + 1 + _ ≤ _; omega))
   have k_J31_0 := kk
   exact Wz
  |clear k_J25_1
   have jn := aa (fun (w1 : World) (own1 : Option Nat) (b : Nat) (u : Value) (hg : SGo K w w1 own1 b T (.slice (some ⟨g, off, none⟩) T.len cap) u s.2.length) (W : World) (σ : CR CS) (r l o : Int) (q : Nat) (ty : Int) (hW : SS K w1 own1 σ r l o W) (ha : SAt K (T.kids 0) σ q) => lJ (jY (T.kids 0)) K w1 own1 σ r l o W u0 q ty hW (hg.env hE hW) ((hN.kid (by omega) dI).later (hg.below _ _ _ _ _ hW)) ha dh)
   have J2 := aa (fun (w1 : World) (own1 : Option Nat) (b : Nat) (u : Value) (hg : SGo K w w1 own1 b T (.slice (some ⟨g, off, none⟩) T.len cap) u s.2.length) (W : World) (σ : CR CS) (r l o : Int) (q : Nat) (hW : SS K w1 own1 σ r l o W) (ha : SAt K (T.kids 0) σ q) => kU (jY (T.kids 0)) K w1 own1 σ r l o W u0 q hW (hg.env hE hW) ((hN.kid (by omega) dI).later (hg.below _ _ _ _ _ hW)) ha dh)
   first
   |clear k_J14_0
    have sB := aa (fun (w1 : World) (own1 : Option Nat) (b : Nat) (u : Value) (hg : SGo K w w1 own1 b T (.slice (some ⟨g, off, none⟩) T.len cap) u s.2.length) (W : World) (σ : CR CS) (r l o : Int) (q : Nat) (ty : Int) (hW : SS K w1 own1 σ r l o W) (ha : SAt K (T.kids 1) σ q) => lJ (jY (T.kids 1)) K w1 own1 σ r l o W u1 q ty hW (hg.env hE hW) ((hN.kid (by omega) fN).later (hg.below _ _ _ _ _ hW)) ha j5)
    have HV1 := aa (fun (w1 : World) (own1 : Option Nat) (b : Nat) (u : Value) (hg : SGo K w w1 own1 b T (.slice (some ⟨g, off, none⟩) T.len cap) u s.2.length) (W : World) (σ : CR CS) (r l o : Int) (q : Nat) (hW : SS K w1 own1 σ r l o W) (ha : SAt K (T.kids 1) σ q) => kU (jY (T.kids 1)) K w1 own1 σ r l o W u1 q hW (hg.env hE hW) ((hN.kid (by omega) fN).later (hg.below _ _ _ _ _ hW)) ha j5)
    have ot := aa (SAt.kid0 ay dK (by omega))
    have Gu := aa (SAt.next (τ := cL K (T.kids 0) 3 (.ok (ae s))) ot.out (by omega) ay dK (gU dh))
    unfold Nd.val at *
    rw [hk] at cM iw ⊢
    have gr := aa hk
    have iB : 0 < T.len := by omega
    have rS : (1 : Int) < (T.len : Int) := by omega
    have nY : 1 < T.len := by omega
    clear aM hS mr hE hN hk aS fs eM aV dh j5 dI fN hl b8
    generalize hq : s.2.length = q at *
    have bH := jK
    go_enter Tryz.func95, Tryz.ntmps95
    go_wp2_with (first
     |(go_at_call 44; refine (cM.out _).mono ?_; rintro e w1 ⟨u, rfl, bz, hb1⟩; obtain ⟨own1, aD, bb, dG⟩ := iw.out w1 u _ hb1 bz; obtain ⟨ga, oa, ca, rfl, nL, fc⟩ := dG.ats (by omega); have HG := aa dG; have gO := aa fc; have gK := aa bb; obtain ⟨b0, b1, b2, b3⟩ := HG.out.box _ _ _ _ _ aD; rw [gr.out] at b0; have a0 := gO.out _ _ _ _ _ aD 0 (by omega); rw [Nat.add_zero] at a0; obtain ⟨eA, ez, ey, ew⟩ := dP.out _ (HG.out.below _ _ _ _ _ aD); have a1 := gO.out _ _ _ _ _ aD 1 (by omega); obtain ⟨gS, gN, gR, gM⟩ := fT.out _ (HG.out.below _ _ _ _ _ aD); have bh := aa aD; clear aD bb dG fc bz hb1))
    go_still_tail 8, bH
    go_wp2_with (go_at_call 109; refine (jn.out _ _ _ _ HG.out _ _ _ _ _ _ _ bh.out.drew ot.out).mono ?_; rintro e w3 ⟨rfl, bY⟩; obtain ⟨b0, b1, b2, b3⟩ := HG.out.box _ _ _ _ _ bY; rw [gr.out] at b0; have a0 := gO.out _ _ _ _ _ bY 0 (by omega); rw [Nat.add_zero] at a0; obtain ⟨eA, ez, ey, ew⟩ := dP.out _ (HG.out.below _ _ _ _ _ bY); have a1 := gO.out _ _ _ _ _ bY 1 (by omega); obtain ⟨gS, gN, gR, gM⟩ := fT.out _ (HG.out.below _ _ _ _ _ bY); have e7 := aa bY; clear bY)
    go_still_tail 8, bH
    go_wp2_with (go_at_call 109; refine (sB.out _ _ _ _ HG.out _ _ _ _ _ _ _ e7.out.drew Gu.out).mono ?_; rintro e w4 ⟨rfl, gh⟩; have mb := aa (gK.out _ _ _ _ _ gh); clear gh)
    go_end0
    exact ⟨rfl, mb.out⟩
   |clear k_J14_1
    have ot := aa (SAt.kid0 ay dK (by omega))
    first
    |clear k_J13_0
     unfold Nd.val at *
     rw [hk] at cM iw ⊢
     have gr := aa hk
     have iB : 0 < T.len := by omega
     first
     |clear k_J12_0
      have hpi : (0 : Int) < (T.len : Int) := by omega
      have hpi2 : decide ((0 : Int) < (T.len : Int)) = true := by simp; omega
      have hpi3 : decide (0 < T.len) = true := decide_eq_true (by omega)
      first
      |clear k_J8_0
       have M8 : (cx.ret == 0) = true := beq_iff_eq.2 h0
       have hr2' : (cx.ret != 0) = false := by simp only [bne, M8]; rfl
       have k_J16_1 := kk
       exact WO
      |clear k_J8_1
       have M8 : (cx.ret == 0) = false := bn h0
       have hr2' : (cx.ret != 0) = true := by simp only [bne, M8]; rfl
       have k_J16_0 := kk
       exact WO
     |clear k_J12_1
      have oX := aa hσ
      first
      |clear k_J9_0
       have Pk : Hid (∀ t', F4 K (T.kids 0) (.ok (ae s)) t' → t' = 3) := by intro t' h; rw [← h3]; exact KN t' h
       have k_J15_0 := kk
       exact WQ
      |clear k_J9_1
       have Pk : Hid (∀ t', F4 K (T.kids 0) (.ok (ae s)) t' → (t' == 3) = false) := by intro t' h; rw [KN t' h]; exact bn h3
       have k_J15_1 := kk
       exact WQ
      |clear k_J9_2
       clear aM hS mr hE hN hk aS fs aV dh dI hl b8 hσ uQ rV
       have k_J18_0 := kk
       exact WK
     |clear k_J12_2
      first
      |clear k_J10_0
       have H0 : Hid (look (ae s).1 T.name = look s.1 T.name) := lW
       have qd : (look s.1 T.name == 0) = false := bn h0
       clear aM hS mr hE hN hk aS fs aV dh dI hl b8 lW h0
       generalize look s.1 T.name = lk at *
       generalize hq : s.2.length = q at *
       have bH := jK
       go_enter Tryz.func95, Tryz.ntmps95
       go_wp2_with (first
        |(go_at_call 44; refine (cM.out _).mono ?_; rintro e w1 ⟨u, rfl, bz, hb1⟩; obtain ⟨own1, aD, bb, dG⟩ := iw.out w1 u _ hb1 bz; obtain ⟨ga, oa, ca, rfl, nL, fc⟩ := dG.ats (by omega); have HG := aa dG; have gO := aa fc; have gK := aa bb; obtain ⟨b0, b1, b2, b3⟩ := HG.out.box _ _ _ _ _ aD; rw [gr.out] at b0; have a0 := gO.out _ _ _ _ _ aD 0 (by omega); rw [Nat.add_zero] at a0; obtain ⟨eA, ez, ey, ew⟩ := dP.out _ (HG.out.below _ _ _ _ _ aD); have bh := aa aD; clear aD bb dG fc bz hb1)
        |(go_at_call 108; refine (iW bh.out _).mono ?_; rw [H0.out]; rintro e w2 ⟨rfl, aC⟩; obtain ⟨b0, b1, b2, b3⟩ := HG.out.box _ _ _ _ _ aC; rw [gr.out] at b0; have a0 := gO.out _ _ _ _ _ aC 0 (by omega); rw [Nat.add_zero] at a0; obtain ⟨eA, ez, ey, ew⟩ := dP.out _ (HG.out.below _ _ _ _ _ aC); have bR := aa aC; clear aC))
       go_still_tail 9, bH
       go_wp2_with (go_at_call 109; refine (jn.out _ _ _ _ HG.out _ _ _ _ _ _ _ bR.out.drew ot.out).mono ?_; rintro e w3 ⟨rfl, bY⟩; have e7 := aa (gK.out _ _ _ _ _ bY); clear bY)
       go_end0
       exact ⟨rfl, e7.out⟩
      |clear k_J10_1
       have k_J17_0 := kk
       exact WN
    |clear k_J13_1
     first
     |clear k_J11_0
      have EO : s1.1 ≠ [] := by rw [IA.1]; exact bZ
      have EN : aN s1.1 + 1 ≤ s1.2.length := by rw [IA.1, IA.2, aP]; show aN s.1 + 1 ≤ _; omega
      unfold Nd.val at *
      rw [hk] at cM iw ⊢
      have gr := aa hk
      have iB : 0 < T.len := by omega
      have oX := aa hσ
      have Pk := aa KN
      have mZ := aa EO
      have jM := aa EN
      clear aM hS mr hE hN hk aS fs aV dh dI hl b8 hσ uQ rV KN IA EO EN
      generalize hτ : ir s1 T.name t0 s.2.length = τ at *
      have HT := aa hτ
      clear hτ
      have k_J18_1 := kk
      exact WK
     |clear k_J11_1
      have oR : ∀ i, i < T.len - 1 → (T.kids (1 + i)).sOk = true := by
       intro i hi
       have : i = 0 ∨ i = 1 := by omega
       rcases this with rfl | rfl
       ·exact hb1.2
       ·exact (ba (by omega)).2
      have k_J29_0 := kk
      exact WB
     |clear k_J11_2
      have oR : ∀ i, i < T.len - 1 → (T.kids (1 + i)).sOk = true := by
       intro i hi
       obtain rfl : i = 0 := by omega
       exact hb1.2
      have k_J29_1 := kk
      exact WB
     |clear k_J11_3
      have Pk := aa (fun (w1 : World) (own1 : Option Nat) (b : Nat) (u : Value) (hg : SGo K w w1 own1 b T (.slice (some ⟨g, off, none⟩) T.len cap) u s.2.length) (W : World) (σ : CR CS) (r l o : Int) (q : Nat) (hW : SS K w1 own1 σ r l o W) (ha : SAt K (T.kids 0) σ q) => jY (T.kids 0) K w1 own1 σ r l o W u0 q hW (hg.env hE hW) ((hN.kid (by omega) dI).later (hg.below _ _ _ _ _ hW)) ha dh)
      unfold Nd.val at *
      rw [hk] at cM iw ⊢
      have gr := aa hk
      have iB : 0 < T.len := by omega
      have k_J17_1 := kk
      exact WN
 |clear k_J37_2
  first
  |clear k_J32_0
   have iw := aa (fun (w1 : World) (u : Value) (t : TypeId) hb ha => kZ (w1 := w1) (T := T) (v := .slice a0 T.len N4) (p := s.2.length) (u := u) (t := t) hS hb ha)
   unfold Nd.val at *
   rw [hk] at cM iw ⊢
   have gr := aa hk
   have hle : ¬ (0 : Int) < (T.len : Int) := by omega
   have hle2 : decide ((0 : Int) < (T.len : Int)) = false := by simp; omega
   have hle3 : decide (0 < T.len) = false := decide_eq_false (by omega)
   first
   |clear k_J20_0
    have fN : (cx.ret == 0) = true := beq_iff_eq.2 h0
    have jk : (cx.ret != 0) = false := by simp only [bne, fN]; rfl
    have k_J23_0 := kk
    exact WH
   |clear k_J20_1
    have fN : (cx.ret == 0) = false := bn h0
    have jk : (cx.ret != 0) = true := by simp only [bne, fN]; rfl
    have k_J23_1 := kk
    exact WH
  |clear k_J32_1
   have iw := aa (fun (w1 : World) (u : Value) (t : TypeId) hb ha => kZ (w1 := w1) (T := T) (v := v) (p := s.2.length) (u := u) (t := t) hS hb ha)
   first
   |clear k_J24_0
    unfold Nd.val at *
    rw [hk] at cM iw ⊢
    have gr := aa hk
    first
    |clear k_J21_0
     have H0 := aa (lW.trans h0)
     clear lW h0
     have k_J39_0 := kk
     exact OJ
    |clear k_J21_1
     have H0 := aa (lW.trans h1)
     clear lW h0 h1
     have k_J39_1 := kk
     exact OJ
    |clear k_J21_2
     have H0 : Hid (look (ae s).1 T.name = look s.1 T.name) := lW
     have qd : (look s.1 T.name == 0) = false := bn h0
     have E3 : (look s.1 T.name == 1) = false := bn h1
     clear lW h0 h1
     generalize look s.1 T.name = lk at *
     have k_J39_2 := kk
     exact OJ
   |clear k_J24_1
    have bF := aa (fun (w1 : World) (own1 : Option Nat) (b : Nat) (u : Value) (hg : SGo K w w1 own1 b T v u s.2.length) (W : World) (hW : SS K w1 own1 (.ok s) cx.ret cx.loops cx.outs W) => Fu hk ih K w1 own1 s cx W v hW (hg.env hE hW) (hN.later (hg.below _ _ _ _ _ hW)) ay aS gn gD 0)
    generalize hτ : within [] ((b7 K.F T).sts cx) s = τ at *
    unfold Nd.val at *
    rw [hk] at cM iw bF ⊢
    have gr := aa hk
    clear aM hS hE hN hk hτ
    generalize hq : s.2.length = q at *
    have bH := jK
    go_enter Tryz.func95, Tryz.ntmps95
    go_wp2_with (first
     |(go_at_call 44; refine (cM.out _).mono ?_; rintro e w1 ⟨u, rfl, bz, hb1⟩; obtain ⟨own1, aD, bb, dG⟩ := iw.out w1 u _ hb1 bz; have HG := aa dG; have gK := aa bb; obtain ⟨b0, b1, b2, b3⟩ := HG.out.box _ _ _ _ _ aD; rw [gr.out] at b0; have bh := aa aD; clear aD bb dG bz hb1)
     |(go_at_call 106; refine (bF.out _ _ _ _ HG.out _ bh.out).mono ?_; rintro e w3 ⟨rfl, bY⟩; have e7 := aa (gK.out _ _ _ _ _ bY); clear bY))
    go_end0
    exact ⟨rfl, e7.out⟩) : G := h
theorem tI (h : G := by
 intro K w0 az s cx w v mr hE hN ay aS bZ gn gD
 have b8 : 0 < T.size := by rw [T.size_eq]; omega
 have hS := mr.take (by omega)
 first
 |clear k_J38_0
  obtain ⟨hl, dh, j5⟩ := Ma hk aS
  have aM : (b7 K.F T).st cx s = cL K (T.kids 1) 1 (cL K (T.kids 0) 3 (.ok (ae s))) := by
   rw [bT K.F (by omega)]
   unfold stM
   rw [if_neg (by omega), if_neg (by omega), if_neg (by omega), if_neg (by omega), if_pos hk]; rfl
  have k_J27_0 := kk
  exact WD
 |clear k_J38_1
  have kJ : ((cx.outs : Nat) : Int) = cx.outs := rfl
  by_cases h0 : cx.outs = 0
  ·have aM : (b7 K.F T).st cx s = .error (10, s.2.length) := by
    rw [bT K.F (by omega)]
    unfold stM
    iterate 10 rw [if_neg (by omega)]
    rw [if_pos hk, if_pos h0]
   have k_J26_1 := kk
   exact FA
  ·have aM : (b7 K.F T).st cx s = .ok (ae s) := by
    rw [bT K.F (by omega)]
    unfold stM
    iterate 10 rw [if_neg (by omega)]
    rw [if_pos hk, if_neg h0]
   have k_J26_2 := kk
   exact FA
 |clear k_J38_2
  have kJ : ((cx.loops : Nat) : Int) = cx.loops := rfl
  by_cases h0 : cx.loops = 0
  ·have aM : (b7 K.F T).st cx s = .error (10, s.2.length) := by
    rw [bT K.F (by omega)]
    unfold stM
    iterate 11 rw [if_neg (by omega)]
    rw [if_pos hk, if_pos h0]
   have k_J26_3 := kk
   exact FA
  ·have aM : (b7 K.F T).st cx s = .ok (ae s) := by
    rw [bT K.F (by omega)]
    unfold stM
    iterate 11 rw [if_neg (by omega)]
    rw [if_pos hk, if_neg h0]
   have k_J26_4 := kk
   exact FA
 |clear k_J38_3
  obtain ⟨a0, N4, uQ, hcap0, SR⟩ := aH.1 hN.row
  have HQ00 := aa SR
  clear SR
  rcases Dk hk aS with hl | ⟨hl, dh⟩
  ·by_cases h0 : cx.ret = 0
   ·have aM : (b7 K.F T).st cx s = .ok (ae s) := by
     rw [bT K.F (by omega)]
     unfold stM
     iterate 8 rw [if_neg (by omega)]
     rw [if_pos hk, if_pos (by simp [hl, h0]), if_neg (by omega)]
    have k_J20_0 := kk
    exact WI
   ·have aM : (b7 K.F T).st cx s = .error (9, s.2.length) := by
     exact bJ7
    have k_J20_1 := kk
    exact WI
  ·by_cases h0 : cx.ret = 0
   ·have aM : (b7 K.F T).st cx s = .error (9, s.2.length) := by
     exact bJ7
    have k_J8_0 := kk
    exact bJ8
   ·have aM : (b7 K.F T).st cx s = cL K (T.kids 0) cx.ret (.ok (ae s)) := by
     rw [bT K.F (by omega)]
     unfold stM
     rw [if_neg (by omega), if_neg (by omega), if_neg (by omega), if_neg (by omega), if_neg (by omega), if_neg (by omega), if_neg (by omega), if_neg (by omega), if_pos hk, if_pos (by simp [hl, h0]), if_pos (by omega)]; rfl
    have k_J8_1 := kk
    exact bJ8
 |clear k_J38_4
  obtain ⟨hl, dh, hb1, ba⟩ := pD hk aS
  have aM : (b7 K.F T).st cx s = gL K.F T cx 1 (T.len - 1) (cL K (T.kids 0) 2 (.ok (ae s))) := by
   rw [bT K.F (by omega)]
   unfold stM
   rw [if_neg (by omega), if_neg (by omega), if_neg (by omega), if_neg (by omega), if_neg (by omega), if_neg (by omega), if_pos hk]; exact Hw.symm
  have k_J11_1 := kk
  exact JN
 |clear k_J38_5
  have aM : (b7 K.F T).st cx s = gL K.F T ⟨cx.ret, cx.loops + 1, cx.outs + 1⟩ 0 (T.len - 0) (.ok (ae s)) := by
   exact bJ5
  have k_J28_0 := kk
  exact WC
 |clear k_J38_6
  have aM : (b7 K.F T).st cx s = gL K.F T ⟨cx.ret, cx.loops + 1, cx.outs + 1⟩ 1 (T.len - 1) (cL K (T.kids 0) 2 (.ok (ae s))) := by
   exact bJ5
  have k_J11_2 := kk
  exact JN
 |clear k_J38_7
  have lW : look (ae s).1 T.name = look s.1 T.name := rfl
  first
  |clear k_J34_0
   obtain ⟨hl, dh⟩ := mF (by omega) aS
   by_cases h0 : look s.1 T.name = 0
   ·have aM : (b7 K.F T).st cx s = .error (5, s.2.length) := by
     rw [bT K.F (by omega)]
     unfold stM
     rw [if_neg (by omega), if_neg (by omega), if_pos hk, if_pos h0]
    have k_J26_0 := kk
    exact FA
   ·have aM : (b7 K.F T).st cx s = cL K (T.kids 0) (look s.1 T.name) (.ok (ae s)) := by
     rw [bT K.F (by omega)]
     unfold stM
     rw [if_neg (by omega), if_neg (by omega), if_pos hk, if_neg h0]; rfl
    have k_J10_0 := kk
    exact WT
  |clear k_J34_1
   by_cases h0 : look s.1 T.name = 0
   ·have aM : (b7 K.F T).st cx s = .error (5, s.2.length) := by
     rw [bT K.F (by omega)]
     unfold stM
     iterate 3 rw [if_neg (by omega)]
     rw [if_pos hk, if_pos h0]
    have k_J21_0 := kk
    exact ON
   by_cases h1 : look s.1 T.name = 1
   ·have aM : (b7 K.F T).st cx s = .ok (ae s) := by
     rw [bT K.F (by omega)]
     unfold stM
     iterate 3 rw [if_neg (by omega)]
     rw [if_pos hk, if_neg h0, if_pos h1]
    have k_J21_1 := kk
    exact ON
   ·have aM : (b7 K.F T).st cx s = .error (7, s.2.length) := by
     rw [bT K.F (by omega)]
     unfold stM
     iterate 3 rw [if_neg (by omega)]
     rw [if_pos hk, if_neg h0, if_neg h1]
    have k_J21_2 := kk
    exact ON
 |clear k_J38_8
  obtain ⟨hl, dh⟩ := mF (by omega) aS
  first
  |clear k_J36_0
   have rV := mr.lens
   first
   |clear k_J33_0
    cases hσ : j7 K (T.kids 0) (.ok (ae s)) with
    |error e0 =>
     have uQ := yI hσ
     have aM : (b7 K.F T).st cx s = .error e0 := by
      rw [bT K.F (by omega)]
      unfold stM
      rw [if_neg (by omega), if_pos hk, uQ]; rfl
     exact bJ1
    |ok s1 =>
     obtain ⟨t0, uQ, KN⟩ := CG hσ
     have IA := (ej K.F _ dh).value _ _ _ uQ
     have aM : (b7 K.F T).st cx s = ir s1 T.name t0 s.2.length := by
      rw [bT K.F (by omega)]
      unfold stM
      rw [if_neg (by omega), if_pos hk, uQ]; rfl
     have k_J11_0 := kk
     exact JN
   |clear k_J33_1
    cases hσ : j7 K (T.kids 0) (.ok (ae s)) with
    |error e0 =>
     have uQ := yI hσ
     have aM : (b7 K.F T).st cx s = .error e0 := by
      rw [bT K.F (by omega)]
      unfold stM
      rw [if_neg (by omega), if_neg (by omega), if_neg (by omega), if_neg (by omega), if_neg (by omega), if_neg (by omega), if_neg (by omega), if_neg (by omega), if_neg (by omega), if_neg (by omega), if_neg (by omega), if_neg (by omega), if_neg (by omega), if_pos hk, uQ]; rfl
     exact bJ1
    |ok s1 =>
     obtain ⟨t0, uQ, KN⟩ := CG hσ
     have IA := (ej K.F _ dh).value _ _ _ uQ
     by_cases h3 : t0 = 3
     ·have aM : (b7 K.F T).st cx s = .error (7, s.2.length + 1) := by
       rw [bT K.F (by omega)]
       unfold stM
       iterate 13 rw [if_neg (by omega)]
       rw [if_pos hk, uQ, CR.bind_ok, if_pos h3]
      have k_J9_0 := kk
      exact bJ9
     ·have aM : (b7 K.F T).st cx s = .ok s1 := by
       rw [bT K.F (by omega)]
       unfold stM
       iterate 13 rw [if_neg (by omega)]
       rw [if_pos hk, uQ, CR.bind_ok, if_neg h3]
      have k_J9_1 := kk
      exact bJ9
  |clear k_J36_1
   first
   |clear k_J35_0
    have aM : (b7 K.F T).st cx s = cL K (T.kids 0) 3 (.ok (ae s)) := by
     rw [bT K.F (by omega)]
     unfold stM
     rw [if_neg (by omega), if_neg (by omega), if_neg (by omega), if_neg (by omega), if_neg (by omega), if_neg (by omega), if_neg (by omega), if_neg (by omega), if_neg (by omega), if_neg (by omega), if_neg (by omega), if_neg (by omega), if_pos hk]; rfl
    exact bJ2
   |clear k_J35_1
    have aM : (b7 K.F T).st cx s = cL K (T.kids 0) 1 (.ok (ae s)) := by
     rw [bT K.F (by omega)]
     unfold stM
     rw [if_neg (by omega), if_neg (by omega), if_neg (by omega), if_neg (by omega), if_neg (by omega), if_neg (by omega), if_neg (by omega), if_neg (by omega), if_neg (by omega), if_neg (by omega), if_neg (by omega), if_neg (by omega), if_neg (by omega), if_neg (by omega), if_pos hk]; rfl
    exact bJ2
   |clear k_J35_2
    have aM : (b7 K.F T).st cx s = Qo K (T.kids 0) (.ok (ae s)) := by
     rw [bT K.F (by omega)]
     unfold stM
     rw [if_neg (by omega), if_neg (by omega), if_neg (by omega), if_neg (by omega), if_neg (by omega), if_pos (by omega)]; rfl
    have k_J11_3 := kk
    exact JN) : G := h
theorem OJ (h : G := by
 clear aM hS mr hE hN hk b8
 generalize hq : s.2.length = q at *
 have bH := jK
 go_enter Tryz.func95, Tryz.ntmps95
 first
 |clear k_J39_0
  go_wp2_with (first
   |(go_at_call 44; refine (cM.out _).mono ?_; rintro e w1 ⟨u, rfl, bz, hb1⟩; obtain ⟨own1, aD, bb, dG⟩ := iw.out w1 u _ hb1 bz; have HG := aa dG; have gK := aa bb; obtain ⟨b0, b1, b2, b3⟩ := HG.out.box _ _ _ _ _ aD; rw [gr.out] at b0; have bh := aa aD; clear aD bb dG bz hb1)
   |(go_at_call 108; refine (iW bh.out _).mono ?_; rw [H0.out]; rintro e w2 ⟨rfl, aC⟩; obtain ⟨b0, b1, b2, b3⟩ := HG.out.box _ _ _ _ _ aC; rw [gr.out] at b0; have bR := aa aC; clear aC)
   |(go_at_call 46; refine (dO bR.out 5 (by decide) q).mono ?_; rintro e w3 ⟨rfl, bY⟩; have e7 := aa bY; clear bY))
  exact bJ6
 |clear k_J39_1
  go_wp2_with (first
   |(go_at_call 44; refine (cM.out _).mono ?_; rintro e w1 ⟨u, rfl, bz, hb1⟩; obtain ⟨own1, aD, bb, dG⟩ := iw.out w1 u _ hb1 bz; have HG := aa dG; have gK := aa bb; obtain ⟨b0, b1, b2, b3⟩ := HG.out.box _ _ _ _ _ aD; rw [gr.out] at b0; have bh := aa aD; clear aD bb dG bz hb1)
   |(go_at_call 108; refine (iW bh.out _).mono ?_; rw [H0.out]; rintro e w2 ⟨rfl, aC⟩; obtain ⟨b0, b1, b2, b3⟩ := HG.out.box _ _ _ _ _ aC; rw [gr.out] at b0; have bR := aa aC; clear aC))
  first | go_end0 | refine bodyPost_ret (results_none rfl _ _ _) rfl ?_
  exact ⟨rfl, gK.out _ _ _ _ _ bR.out⟩
 |clear k_J39_2
  go_wp2_with (first
   |(go_at_call 44; refine (cM.out _).mono ?_; rintro e w1 ⟨u, rfl, bz, hb1⟩; obtain ⟨own1, aD, bb, dG⟩ := iw.out w1 u _ hb1 bz; have HG := aa dG; have gK := aa bb; obtain ⟨b0, b1, b2, b3⟩ := HG.out.box _ _ _ _ _ aD; rw [gr.out] at b0; have bh := aa aD; clear aD bb dG bz hb1)
   |(go_at_call 108; refine (iW bh.out _).mono ?_; rw [H0.out]; rintro e w2 ⟨rfl, aC⟩; obtain ⟨b0, b1, b2, b3⟩ := HG.out.box _ _ _ _ _ aC; rw [gr.out] at b0; have bR := aa aC; clear aC)
   |(go_at_call 46; refine (dO bR.out 7 (by decide) q).mono ?_; rintro e w3 ⟨rfl, bY⟩; have e7 := aa bY; clear bY))
  exact bJ6) : G := h
theorem JM (h : G := by
 clear aM hS mr hE hN hk b8 kJ h0
 generalize hq : s.2.length = q at *
 go_enter Tryz.func95, Tryz.ntmps95
 first
 |clear k_J40_0
  go_wp2_with (first
   |(go_at_call 44; refine (cM.out _).mono ?_; rintro e w1 ⟨u, rfl, bz, hb1⟩; have bh := aa ((HS.out _).calm hb1); have k0 : w1.cell? ⟨w.heap.size, 0, none⟩ = some (.int .i64 17) := (hb1.cell (p := ⟨w.heap.size, 0, none⟩) (by simp)).trans (by simp); have k2 : w1.cell? ⟨w.heap.size, 2, none⟩ = some (.string T.name) := (hb1.cell (p := ⟨w.heap.size, 2, none⟩) (by simp)).trans (by simp); have k3 : w1.cell? ⟨w.heap.size, 3, none⟩ = some v := (hb1.cell (p := ⟨w.heap.size, 3, none⟩) (by simp)).trans (by simp); obtain ⟨k9, qK, pR⟩ := bh.out.outs; clear hb1 bz)
   |(go_at_call 46; refine (dO bh.out 10 (by decide) q).mono ?_; rintro e w3 ⟨rfl, bY⟩; have e7 := aa bY; clear bY))
  go_end0
  exact ⟨rfl, e7.out⟩
 |clear k_J40_1
  go_wp2_with (first
   |(go_at_call 44; refine (cM.out _).mono ?_; rintro e w1 ⟨u, rfl, bz, hb1⟩; have bh := aa ((HS.out _).calm hb1); have k0 : w1.cell? ⟨w.heap.size, 0, none⟩ = some (.int .i64 17) := (hb1.cell (p := ⟨w.heap.size, 0, none⟩) (by simp)).trans (by simp); have k2 : w1.cell? ⟨w.heap.size, 2, none⟩ = some (.string T.name) := (hb1.cell (p := ⟨w.heap.size, 2, none⟩) (by simp)).trans (by simp); have k3 : w1.cell? ⟨w.heap.size, 3, none⟩ = some v := (hb1.cell (p := ⟨w.heap.size, 3, none⟩) (by simp)).trans (by simp); obtain ⟨k9, qK, pR⟩ := bh.out.outs; clear hb1 bz))
  go_end0
  exact ⟨rfl, bh.out⟩
 |clear k_J40_2
  go_wp2_with (first
   |(go_at_call 44; refine (cM.out _).mono ?_; rintro e w1 ⟨u, rfl, bz, hb1⟩; have bh := aa ((HS.out _).calm hb1); have k0 : w1.cell? ⟨w.heap.size, 0, none⟩ = some (.int .i64 18) := (hb1.cell (p := ⟨w.heap.size, 0, none⟩) (by simp)).trans (by simp); have k2 : w1.cell? ⟨w.heap.size, 2, none⟩ = some (.string T.name) := (hb1.cell (p := ⟨w.heap.size, 2, none⟩) (by simp)).trans (by simp); have k3 : w1.cell? ⟨w.heap.size, 3, none⟩ = some v := (hb1.cell (p := ⟨w.heap.size, 3, none⟩) (by simp)).trans (by simp); obtain ⟨k9, qK, pR⟩ := bh.out.outs; clear hb1 bz)
   |(go_at_call 46; refine (dO bh.out 10 (by decide) q).mono ?_; rintro e w3 ⟨rfl, bY⟩; have e7 := aa bY; clear bY))
  go_end0
  exact ⟨rfl, e7.out⟩
 |clear k_J40_3
  go_wp2_with (first
   |(go_at_call 44; refine (cM.out _).mono ?_; rintro e w1 ⟨u, rfl, bz, hb1⟩; have bh := aa ((HS.out _).calm hb1); have k0 : w1.cell? ⟨w.heap.size, 0, none⟩ = some (.int .i64 18) := (hb1.cell (p := ⟨w.heap.size, 0, none⟩) (by simp)).trans (by simp); have k2 : w1.cell? ⟨w.heap.size, 2, none⟩ = some (.string T.name) := (hb1.cell (p := ⟨w.heap.size, 2, none⟩) (by simp)).trans (by simp); have k3 : w1.cell? ⟨w.heap.size, 3, none⟩ = some v := (hb1.cell (p := ⟨w.heap.size, 3, none⟩) (by simp)).trans (by simp); obtain ⟨k9, qK, pR⟩ := bh.out.outs; clear hb1 bz))
  go_end0
  exact ⟨rfl, bh.out⟩) : G := h
theorem DT (s : ByteArray) : iU s ≤ 5 := by
 unfold iU
 repeat' split
 all_goals omega
theorem CM {T : Nd} (ih : ∀ i, i < T.len → vX (T.kids i)) : vJ T := by
 intro K w0 az s ret loops outs w v hS hE hN ay aS
 rcases tE aS with h | h | h | h | h | h | h | h
 ·exact QR h K w0 az s ret loops outs w v hS hE hN ay aS
 ·exact QQ h K w0 az s ret loops outs w v hS hE hN ay aS
 ·exact QP h K w0 az s ret loops outs w v hS hE hN ay aS
 ·exact QO h ih K w0 az s ret loops outs w v hS hE hN ay aS
 ·have hl := (zD h aS).1
  by_cases h0 : T.len = 0
  ·exact LS h h0 K w0 az s ret loops outs w v hS hE hN ay aS
  ·exact LR h (by omega) ih K w0 az s ret loops outs w v hS hE hN ay aS
 ·cases hn : qU T.name with
  |true => exact LP h hn ih K w0 az s ret loops outs w v hS hE hN ay aS
  |false => exact LQ h hn ih K w0 az s ret loops outs w v hS hE hN ay aS
 ·have h0 := (vx h aS).1
  have h5 := DT T.name
  cases he : yc T.name with
  |true => exact LO h he ih K w0 az s ret loops outs w v hS hE hN ay aS
  |false =>
   have : iU T.name = 1 ∨ iU T.name = 2 ∨ iU T.name = 3 ∨ iU T.name = 4 ∨ iU T.name = 5 := by omega
   rcases this with hl | hl | hl | hl | hl
   ·exact GI h hl ih K w0 az s ret loops outs w v hS hE hN ay aS
   ·exact GH h hl ih K w0 az s ret loops outs w v hS hE hN ay aS
   ·exact GG h hl he ih K w0 az s ret loops outs w v hS hE hN ay aS
   ·exact GF h hl ih K w0 az s ret loops outs w v hS hE hN ay aS
   ·exact GD h hl ih K w0 az s ret loops outs w v hS hE hN ay aS
 ·exact QN h ih K w0 az s ret loops outs w v hS hE hN ay aS
theorem jY (T : Nd) : vX T := by
 induction T with
 |nil => exact zx (CM fun i hi => absurd hi (Nat.not_lt_zero i))
 |mk k n s len kids ih => exact zx (CM fun i _ => ih i)
theorem px (T : Nd) : WtS T := lJ (jY T)
def l9 (T : Nd) : Prop := ∀ (K : SK) (w0 : World) (az : Option Nat) (s : CS) (cx : Cx) (w : World) (v : Value), SS K w0 az (.ok s) cx.ret cx.loops cx.outs w → SEnv K w → SNd K w T v → s.2.length + T.size ≤ K.N → T.sOk = true → s.1 ≠ [] → cx.loops + T.size ≤ 1099511627776 → cx.outs + T.size ≤ 1099511627776 →
 Calls Tryz.prog 95 #[.pointer (some ⟨K.cb, 0, none⟩), T.val v, .int .i64 s.2.length] w fun e w' => e = .returned (.tuple #[]) ∧ SS K w0 az ((b7 K.F T).st cx s) cx.ret cx.loops cx.outs w'
structure my (K : SK) (w1 : World) (own1 : Option Nat) (T : Nd) (p d m : Nat) (lv uv : Value) (u : Nat → Value) : Prop where
  lv : ∃ a cap, lv = .slice a m cap ∧ m ≤ cap ∧ cap ≤ 9223372036854775807 ∧ ∃ a' ca, uv = .slice a' m ca ∧ m ≤ ca ∧ ca ≤ 9223372036854775807 ∧ (m = 0 ∨ ∃ g off ga oa, a = some ⟨g, off, none⟩ ∧ a' = some ⟨ga, oa, none⟩ ∧
    ∀ W σ r l o, SS K w1 own1 σ r l o W → ∀ i, i < m → W.cell? ⟨ga, oa + i, none⟩ = some (.int .i64 (aW T p (d + i) : Nat)) ∧
      W.cell? ⟨g, off + i * 4, none⟩ = some (.int .i64 (T.kids (d + i)).kind) ∧ W.cell? ⟨g, off + i * 4 + 1, none⟩ = some (.int .i64 (T.kids (d + i)).num) ∧ W.cell? ⟨g, off + i * 4 + 2, none⟩ = some (.string (T.kids (d + i)).name) ∧ W.cell? ⟨g, off + i * 4 + 3, none⟩ = some (u i))
  env : ∀ W σ r l o, SS K w1 own1 σ r l o W → SEnv K W
  nd : ∀ W σ r l o, SS K w1 own1 σ r l o W → ∀ i, i < m → SNd K W (T.kids (d + i)) (u i)
theorem aL (T : Nd) {i : Nat} (h : i < T.len) : (T.kids i).size + 1 ≤ T.size := by
 have := bV T 0 h
 unfold aW at this
 omega
def gL (F T : Nd) (cx : Cx) (d m : Nat) (σ : CR CS) : CR CS := CR.bind σ (forN (fun i => (b7 F (T.kids (d + i))).st cx) m)
theorem nQ (F T : Nd) (cx : Cx) (d m : Nat) (σ : CR CS) : gL F T cx d (m + 1) σ = CR.bind (gL F T cx d m σ) ((b7 F (T.kids (d + m))).st cx) := by
 unfold gL
 cases σ <;> rfl
theorem Dt {F T : Nd} {cx : Cx} {d m : Nat} {σ : CR CS} {e : Int × Nat} (h : gL F T cx d m σ = .error e) : ∀ {n : Nat}, m ≤ n → gL F T cx d n σ = .error e := by
 intro n hn
 induction hn with
 |refl => exact h
 |step _ ih => rw [nQ, ih]; rfl
theorem om {K : SK} {w1 : World} {own1 : Option Nat} {T : Nd} {p d m : Nat} {lv uv : Value} {u : Nat → Value} (hL : my K w1 own1 T p d m lv uv u) (ih : ∀ i, i < m → l9 (T.kids (d + i))) (σ : CR CS) (cx : Cx) (w : World) (hS : SS K w1 own1 σ cx.ret cx.loops cx.outs w)
  (hdm : d + m ≤ T.len) (aS : ∀ i, i < m → (T.kids (d + i)).sOk = true) (IV : ∀ s, σ = .ok s → s.2.length = aW T p d ∧ s.1 ≠ []) (ay : p + T.size ≤ K.N) (hl : ∀ i, i < m → cx.loops + (T.kids (d + i)).size ≤ 1099511627776) (ho : ∀ i, i < m → cx.outs + (T.kids (d + i)).size ≤ 1099511627776) :
  Calls Tryz.prog 72 #[.pointer (some ⟨K.cb, 0, none⟩), lv, uv] w fun e w' => e = .returned (.tuple #[]) ∧ SS K w1 own1 (gL K.F T cx d m σ) cx.ret cx.loops cx.outs w' := by
 have dK := hS.ok.few
 obtain ⟨a, cap, rfl, eM, iG, a', ca, rfl, hc3, hc4, eU⟩ := hL.lv
 have HL := aa hL
 have qR := aa eU
 have HS := aa hS
 have mX : Hid (∀ n, n ≤ m → ∀ s, gL K.F T cx d n σ = .ok s → s.2.length = aW T p (d + n) ∧ s.1 ≠ []) := by
  intro n
  induction n with
  |zero =>
   intro _ s hs
   unfold gL at hs
   obtain ⟨s0, h1, h2⟩ := bt hs
   injection h2 with h2; subst h2
   exact IV s0 h1
  |succ n ihn =>
   intro hn s hs
   rw [nQ] at hs
   obtain ⟨s0, h1, h2⟩ := bt hs
   obtain ⟨q1, q2⟩ := ihn (by omega) s0 h1
   obtain ⟨r1, r2, r3, _⟩ := (iz K.F (T.kids (d + n))).st (aS n (by omega)) cx s0 s q2 h2
   refine ⟨?_, ?_⟩
   ·rw [r3, q1, show d + (n + 1) = d + n + 1 by omega, eS]
   ·intro e; rw [e] at r2; exact q2 (List.length_eq_zero_iff.1 r2.symm)
 have HKA := aa (fun i (h : i < m) => bV T p (i := d + i) (by omega))
 have J9 := aa ih
 have oY := aa aS
 have HHL := aa hl
 have HHO := aa ho
 clear hL eU hS ih aS IV hl ho
 go_enter Tryz.func72, Tryz.ntmps72
 go_wp2
 have bH := jK
 go_loopw [6] (fun i wr => ∃ n : Nat, n ≤ m ∧ i = .int .i64 n ∧ SS K w1 own1 (gL K.F T cx d n σ) cx.ret cx.loops cx.outs wr) (fun i _ => m - (intOf i).toNat)
 case atStart =>
  refine ⟨0, Nat.zero_le _, rfl, ?_⟩
  have : gL K.F T cx d 0 σ = σ := by unfold gL; cases σ <;> rfl
  rw [this]; exact HS.out
 case round =>
  obtain ⟨n, hn, rfl, cy⟩ := hrel
  by_cases bN : n < m
  ·have hni : (n : Int) < (m : Int) := by omega
   rcases qR.out with h0 | ⟨g, off, ga, oa, rfl, rfl, hc⟩
   ·omega
   obtain ⟨an, c0, c1, c2, c3⟩ := hc _ _ _ _ _ cy n bN
   cases hq : gL K.F T cx d n σ with
   |error e0 =>
    rw [hq] at cy
    obtain ⟨code, k5, hz⟩ := cy.code1
    have iu := aa cy
    have HQ := aa hq
    clear cy hq hc
    go_wp2
    go_end0
    refine ⟨rfl, ?_⟩
    rw [Dt HQ.out hn]
    exact iu.out
   |ok s =>
    rw [hq] at cy
    have k5 := cy.code0
    obtain ⟨hp, aD⟩ := mX.out n hn s hq
    have IF := HKA.out n bN
    have HW := aa (J9.out n bN K w1 own1 s cx wr.drew (u n) cy.drew (HL.out.env _ _ _ _ _ cy.drew) (HL.out.nd _ _ _ _ _ cy.drew n bN) (by rw [hp]; omega) (oY.out n bN) aD (HHL.out n bN) (HHO.out n bN))
    rw [hp] at HW
    unfold Nd.val at HW
    have HQ := aa hq
    clear cy hq hp hc IF
    generalize aW T p (d + n) = kp at *
    go_wp2
    go_still_tail 9, bH
    go_wp2_with (go_at_call 95; refine HW.out.mono ?_; rintro e w5 ⟨rfl, jh⟩; have mY := aa jh; clear jh)
    refine ⟨⟨n + 1, by omega, by go_num, ?_⟩, by simp [intOf]; omega⟩
    rw [nQ, HQ.out]
    exact mY.out
  ·have iu := aa cy
   clear cy
   go_wp2
   go_end0
   obtain rfl : n = m := by omega
   exact ⟨rfl, iu.out⟩
theorem SS.deep {K : SK} {w0 : World} {az : Option Nat} {s : CS} {ret loops outs : Int} {w : World} (h : SS K w0 az (.ok s) ret loops outs w) : w.cell? ⟨K.cb, 8, none⟩ = some (.int .i64 (s.1.length : Nat)) ∧ w.frozen? ⟨K.cb, 8, none⟩ = false ∧ s.1.length ≤ 1048577 := by
 obtain ⟨vv, code, place, deep, zs, vs, h1, ⟨a1, a2, a3, a4, a5, a6, a7, a8⟩, h3⟩ := h.is
 have := h.ok.few
 refine ⟨?_, h1.free 8, by omega⟩
 rw [← a3]; exact h1.cells.2.2.2.2.2.2.2.2.1
theorem SS.deeper {K : SK} {w0 : World} {az : Option Nat} {s : CS} {ret loops outs : Int} {w : World} (h : SS K w0 az (.ok s) ret loops outs w) (hl : s.1.length ≤ s.2.length) :
  SS K w0 az (.ok ([] :: s.1, s.2)) ret loops outs (w.setCell ⟨K.cb, 8, none⟩ (.int .i64 ((s.1.length : Int) + 1))) := by
 obtain ⟨vv, code, place, deep, zs, vs, h1, ⟨a1, a2, a3, a4, a5, a6, a7, a8⟩, h3⟩ := h.is
 have r1 := h1.set h.ok (i := 8) (u := .int .i64 ((s.1.length : Int) + 1)) (code' := code) (place' := place) (deep' := (s.1.length : Int) + 1) (ret' := ret) (loops' := loops) (outs' := outs) rfl
 refine h.of_raw (own := az) r1 ⟨a1, a2, by simp, a4, a5, ?_, ?_, ?_⟩ h3 (.inl rfl) (Kept.setCell (S := K.S az) ⟨K.cb, 8, none⟩ _ (.inl rfl))
 ·rw [a6]; simp [varsOf]
 ·have e : aN ([] :: s.1, s.2).1 = aN s.1 := by simp [aN]
  rw [e]; exact a7
 ·show ([] :: s.1).length ≤ _; simp; omega
theorem SS.lens {K : SK} {w0 : World} {az : Option Nat} {s : CS} {ret loops outs : Int} {w : World} (h : SS K w0 az (.ok s) ret loops outs w) : aN s.1 ≤ s.2.length ∧ s.1.length ≤ s.2.length + 1 := by
 obtain ⟨vv, code, place, deep, zs, vs, h1, ⟨a1, a2, a3, a4, a5, a6, a7, a8⟩, h3⟩ := h.is
 exact ⟨a7, a8⟩
theorem vA {F T : Nd} {cx : Cx} {s : CS} (l : List (ByteArray × Int)) (hk : T.kind ≠ 0) : sW (gL F T cx 0 T.len (.ok (l :: s.1, s.2 ++ [0]))) = within l ((b7 F T).sts cx) s := by
 rw [jr F hk]
 unfold sW gL within oA ae
 simp only [CR.bind_ok, Nat.zero_add]
theorem Dr {F T : Nd} {cx : Cx} {s : CS} (h4 : T.kind = 4) (aS : T.sOk = true) (hs : s.1 ≠ []) : ∀ s', gL F T cx 0 T.len (.ok s) = .ok s' → s'.1 ≠ [] := by
 intro s' e
 unfold gL at e
 simp only [CR.bind_ok, Nat.zero_add] at e
 have := (StL.forN (g := fun i => (T.kids i).size) (fun i hi => (iz F (T.kids i)).st (AK h4 aS i hi) cx) lr) s s' hs e
 intro h; rw [h] at this; exact hs (List.length_eq_zero_iff.1 this.2.1.symm)
theorem Do {K : SK} {w w1 : World} {own1 : Option Nat} {b : Nat} {T : Nd} {a : Option Addr} {cap : Nat} {u : Value} {p : Nat} (hg : SGo K w w1 own1 b T (.slice a T.len cap) u p) (hE : SEnv K w) (hN : SNd K w T (.slice a T.len cap)) (hu : T.len = 0 → ∃ a' ca, u = .slice a' 0 ca ∧ ca ≤ 9223372036854775807) :
  ∃ us, my K w1 own1 T p 0 T.len (.slice a T.len cap) u us := by
 by_cases h0 : T.len = 0
 ·obtain ⟨a', ca, rfl, nL⟩ := hu h0
  obtain ⟨a2, c2, e2, iG, _⟩ := aH.1 hN.row
  injection e2 with e3 e4 e5
  subst e5
  refine ⟨fun _ => .tuple #[], ⟨⟨a, cap, rfl, iG.1, iG.2, a', ca, by rw [h0], by omega, nL, .inl h0⟩, fun W σ r l o hW => hg.env hE hW, fun W σ r l o hW i hi => by omega⟩⟩
 ·obtain ⟨g, off, mQ, hv, iM, cr, aV⟩ := dq hN.row h0
  injection hv with e1 e2 e3
  subst e1
  subst e3
  obtain ⟨ga, oa, ca, rfl, nL, fc⟩ := hg.ats h0
  refine ⟨fun i => if h : i < T.len then (aV i h).choose else .tuple #[], ⟨⟨_, cap, rfl, cr.1, cr.2, _, ca, rfl, nL.1, nL.2, .inr ⟨g, off, ga, oa, rfl, rfl, fun W σ r l o hW i hi => ?_⟩⟩, fun W σ r l o hW => hg.env hE hW, fun W σ r l o hW i hi => ?_⟩⟩
  ·have hx := (aV i hi).choose_spec.1 W (hg.below W σ r l o hW)
   simp only [Nat.zero_add, hi, dif_pos]
   exact ⟨fc W σ r l o hW i hi, hx⟩
  ·have hx := (aV i hi).choose_spec.2
   simp only [Nat.zero_add, hi, dif_pos]
   exact (hN.kid hi hx).later (hg.below W σ r l o hW)
theorem Fu {T : Nd} (h4 : T.kind = 4) (ih : ∀ i, i < T.len → l9 (T.kids i)) (K : SK) (w0 : World) (az : Option Nat) (s : CS) (cx : Cx) (w : World) (v : Value) (hS : SS K w0 az (.ok s) cx.ret cx.loops cx.outs w) (hE : SEnv K w) (hN : SNd K w T v) (ay : s.2.length + T.size ≤ K.N) (aS : T.sOk = true) (hl : cx.loops + T.size ≤ 1099511627776) (ho : cx.outs + T.size ≤ 1099511627776) (na : Nat) :
  Calls Tryz.prog 106 #[.pointer (some ⟨K.cb, 0, none⟩), T.val v, .int .i64 s.2.length, .string ⟨#[]⟩, .int .i64 na] w fun e w' => e = .returned (.tuple #[]) ∧ SS K w0 az (within [] ((b7 K.F T).sts cx) s) cx.ret cx.loops cx.outs w' := by
 have k_J19_0 := kk
 exact WJ
theorem QY {T : Nd} (hk : T.kind = 19) : l9 T := by
 have k_J35_0 := kk
 exact OL
theorem QW {T : Nd} (hk : T.kind = 21) : l9 T := by
 have k_J35_1 := kk
 exact OL
theorem st_8 {T : Nd} (hk : T.kind = 8) : l9 T := by
 have k_J38_0 := kk
 exact tI
theorem st_9 {T : Nd} (hk : T.kind = 9) : l9 T := by
 exact bJ0
theorem Q3 {T : Nd} (hk : T.kind = 13) : l9 T := by
 exact bJ0
theorem Q2 {T : Nd} (hk : T.kind = 14) : l9 T := by
 exact bJ0
theorem st_7 {T : Nd} (hk : T.kind = 7) : l9 T := by
 have k_J34_1 := kk
 exact Ww
theorem st_6 {T : Nd} (hk : T.kind = 6) : l9 T := by
 have k_J34_0 := kk
 exact Ww
theorem yI {K : SK} {A : Nd} {s : CS} {e : Int × Nat} (h : j7 K A (.ok s) = .error e) : cN (bP K.F A) s = .error e := by
 unfold j7 at h
 simp only [CR.bind_ok] at h
 cases hv : cN (bP K.F A) s with
 |error x => rw [hv, CR.bind_error] at h; injection h with h; rw [h]
 |ok r => rw [hv] at h; cases h
theorem CG {K : SK} {A : Nd} {s s1 : CS} (h : j7 K A (.ok s) = .ok s1) : ∃ t, cN (bP K.F A) s = .ok (t, s1) ∧ ∀ t', F4 K A (.ok s) t' → t' = t := by
 unfold j7 at h
 simp only [CR.bind_ok] at h
 obtain ⟨r, h1, h2⟩ := bt h
 injection h2 with h2; subst h2
 exact ⟨r.1, h1, fun t' h => h s r rfl (gV h1).1⟩
theorem st_5 {T : Nd} (hk : T.kind = 5) : l9 T := by
 have k_J33_0 := kk
 exact Wx
theorem QX {T : Nd} (hk : T.kind = 20) : l9 T := by
 have k_J33_1 := kk
 exact Wx
theorem SS.outs {K : SK} {w0 : World} {az : Option Nat} {σ : CR CS} {ret loops outs : Int} {w : World} (h : SS K w0 az σ ret loops outs w) : w.cell? ⟨K.cb, 9, none⟩ = some (.int .i64 ret) ∧ w.cell? ⟨K.cb, 10, none⟩ = some (.int .i64 loops) ∧ w.cell? ⟨K.cb, 11, none⟩ = some (.int .i64 outs) := by
 obtain ⟨vv, code, place, deep, zs, vs, h1, _⟩ := h.is
 exact ⟨h1.cells.2.2.2.2.2.2.2.2.2.1, h1.cells.2.2.2.2.2.2.2.2.2.2.1, h1.cells.2.2.2.2.2.2.2.2.2.2.2⟩
theorem Q0 {T : Nd} (hk : T.kind = 17) : l9 T := by
 have k_J38_1 := kk
 exact tI
theorem QZ {T : Nd} (hk : T.kind = 18) : l9 T := by
 have k_J38_2 := kk
 exact tI
theorem Q4 {T : Nd} (hk : T.kind = 12) : l9 T := by
 have k_J38_3 := kk
 exact tI
theorem st_4 {T : Nd} (hk : T.kind = 4) (ih : ∀ i, i < T.len → l9 (T.kids i)) : l9 T := by
 intro K w0 az s cx w v hS hE hN ay aS bZ gn gD
 have aM : (b7 K.F T).st cx s = within [] ((b7 K.F T).sts cx) s := by
  rw [bT K.F (by omega)]
  unfold stM
  rw [if_pos hk]; rw [jr K.F (by omega)]
 have k_J24_1 := kk
 exact WG
theorem SS.setLoops {K : SK} {w0 : World} {az : Option Nat} {σ : CR CS} {ret loops outs : Int} {w : World} (h : SS K w0 az σ ret loops outs w) (n : Int) : SS K w0 az σ ret n outs (w.setCell ⟨K.cb, 10, none⟩ (.int .i64 n)) := by
 obtain ⟨vv, code, place, deep, zs, vs, h1, h2, h3⟩ := h.is
 have r1 := h1.set h.ok (i := 10) (u := .int .i64 n) (code' := code) (place' := place) (deep' := deep) (ret' := ret) (loops' := n) (outs' := outs) rfl
 exact h.of_raw (own := az) r1 h2 h3 (.inl rfl) (Kept.setCell (S := K.S az) ⟨K.cb, 10, none⟩ _ (.inl rfl))
theorem SS.setOuts {K : SK} {w0 : World} {az : Option Nat} {σ : CR CS} {ret loops outs : Int} {w : World} (h : SS K w0 az σ ret loops outs w) (n : Int) : SS K w0 az σ ret loops n (w.setCell ⟨K.cb, 11, none⟩ (.int .i64 n)) := by
 obtain ⟨vv, code, place, deep, zs, vs, h1, h2, h3⟩ := h.is
 have r1 := h1.set h.ok (i := 11) (u := .int .i64 n) (code' := code) (place' := place) (deep' := deep) (ret' := ret) (loops' := loops) (outs' := n) rfl
 exact h.of_raw (own := az) r1 h2 h3 (.inl rfl) (Kept.setCell (S := K.S az) ⟨K.cb, 11, none⟩ _ (.inl rfl))
theorem SS.free {K : SK} {w0 : World} {az : Option Nat} {σ : CR CS} {ret loops outs : Int} {w : World} (h : SS K w0 az σ ret loops outs w) (i : Nat) : w.frozen? ⟨K.cb, i, none⟩ = false := by
 obtain ⟨vv, code, place, deep, zs, vs, h1, _⟩ := h.is
 exact h1.free i
theorem pE {K : SK} {w w1 : World} {own1 : Option Nat} {b : Nat} {T : Nd} {g off cap ga oa ca p : Nat} (hg : SGo K w w1 own1 b T (.slice (some ⟨g, off, none⟩) T.len cap) (.slice (some ⟨ga, oa, none⟩) T.len ca) p) (hE : SEnv K w) (hN : SNd K w T (.slice (some ⟨g, off, none⟩) T.len cap)) (nL : T.len ≤ ca ∧ ca ≤ 9223372036854775807)
  (fc : ∀ W σ r l o, SS K w1 own1 σ r l o W → ∀ i, i < T.len → W.cell? ⟨ga, oa + i, none⟩ = some (.int .i64 (aW T p i : Nat))) (d : Nat) (hd : d < T.len) :
  ∃ us, my K w1 own1 T p d (T.len - d) (.slice (some ⟨g, off + d * 4, none⟩) (T.len - d) (cap - d)) (.slice (some ⟨ga, oa + d, none⟩) (T.len - d) (ca - d)) us := by
 obtain ⟨g', Ru, mQ, hv, iM, cr, aV⟩ := dq hN.row (by omega)
 injection hv with e1 e2 e3
 injection e1 with e1
 injection e1 with e1 e4
 subst e1 e3 e4
 refine ⟨fun i => if h : d + i < T.len then (aV (d + i) h).choose else .tuple #[], ⟨⟨_, cap - d, rfl, by omega, by omega, _, ca - d, rfl, by omega, by omega, .inr ⟨g, off + d * 4, ga, oa + d, rfl, rfl, fun W σ r l o hW i hi => ?_⟩⟩, fun W σ r l o hW => hg.env hE hW, fun W σ r l o hW i hi => ?_⟩⟩
 ·have fO : d + i < T.len := by omega
  have hx := (aV (d + i) fO).choose_spec.1 W (hg.below W σ r l o hW)
  have ho : off + (d + i) * 4 = off + d * 4 + i * 4 := by omega
  have hu := (aV (d + i) fO).choose
  simp only [fO, dif_pos]
  generalize (aV (d + i) fO).choose = uu at hx ⊢
  rw [ho] at hx
  refine ⟨?_, hx⟩
  rw [Nat.add_assoc]
  exact fc W σ r l o hW (d + i) fO
 ·have fO : d + i < T.len := by omega
  have hx := (aV (d + i) fO).choose_spec.2
  simp only [fO, dif_pos]
  exact (hN.kid fO hx).later (hg.below W σ r l o hW)
theorem Hw {F T : Nd} {cx : Cx} {n : Nat} {σ : CR CS} : gL F T cx 1 n σ = CR.bind σ (forN (fun i => (b7 F (T.kids (i + 1))).st cx) n) := by
 unfold gL
 have : (fun i => (b7 F (T.kids (1 + i))).st cx) = (fun i => (b7 F (T.kids (i + 1))).st cx) := by funext i; rw [Nat.add_comm]
 rw [this]
theorem Ds {F T : Nd} {cx : Cx} {d : Nat} {σ : CR CS} : gL F T cx d 1 σ = CR.bind σ ((b7 F (T.kids d)).st cx) := by
 unfold gL
 cases σ <;> rfl
theorem yH {K : SK} {T : Nd} {s : CS} {t : Int} (he : (T.kids 0).eOk = true) (hs : s.1 ≠ []) : ∀ s', cL K (T.kids 0) t (.ok (ae s)) = .ok s' → s'.2.length = aW T s.2.length 1 ∧ s'.1 ≠ [] := by
 intro s' e
 have h1 : aE (bP K.F (T.kids 0)) t (ae s) = .ok s' := e
 obtain ⟨a1, a2⟩ := (ej K.F _ he).want t _ _ h1
 rw [aP] at a2
 refine ⟨by rw [a2]; unfold aW; simp only [ar]; omega, ?_⟩
 rw [a1]; exact hs
theorem Q5 {T : Nd} (hk : T.kind = 10) (ih : ∀ i, i < T.len → l9 (T.kids i)) : l9 T := by
 have k_J38_4 := kk
 exact tI
theorem L8 {T : Nd} (hk : T.kind = 11) (hl : T.len = 1) (hb1 : (T.kids 0).kind = 4 ∧ (T.kids 0).sOk = true) (ih : ∀ i, i < T.len → l9 (T.kids i)) : l9 T := by
 have k_J38_5 := kk
 exact tI
theorem L7 {T : Nd} (hk : T.kind = 11) (hl : T.len = 2) (dh : (T.kids 0).eOk = true) (hb1 : (T.kids 1).kind = 4 ∧ (T.kids 1).sOk = true) (ih : ∀ i, i < T.len → l9 (T.kids i)) : l9 T := by
 have k_J38_6 := kk
 exact tI
theorem ke {s : ByteArray} (h : ao s = false) : (s.toList == []) = false ∧ (s.toList != []) = true := by
 have e1 : (⟨#[]⟩ : ByteArray).toList = [] := by rw [ByteArray.toList_eq]
 have h1 : (s.toList == (⟨#[]⟩ : ByteArray).toList) = false := nP (fun e => by subst e; simp [ao] at h)
 rw [e1] at h1
 exact ⟨h1, by simp only [bne, h1]; rfl⟩
theorem Of {T : Nd} (h4 : T.kind = 4) (ih : ∀ i, i < T.len → l9 (T.kids i)) (K : SK) (w0 : World) (az : Option Nat) (s : CS) (cx : Cx) (w : World) (v : Value) (hS : SS K w0 az (.ok s) cx.ret cx.loops cx.outs w) (hE : SEnv K w) (hN : SNd K w T v) (ay : s.2.length + T.size ≤ K.N) (aS : T.sOk = true) (hl : cx.loops + T.size ≤ 1099511627776) (ho : cx.outs + T.size ≤ 1099511627776) (name : ByteArray) (na : Nat) (dn : ao name = false) :
  Calls Tryz.prog 106 #[.pointer (some ⟨K.cb, 0, none⟩), T.val v, .int .i64 s.2.length, .string name, .int .i64 na] w fun e w' => e = .returned (.tuple #[]) ∧ SS K w0 az (within [(name, 1)] ((b7 K.F T).sts cx) s) cx.ret cx.loops cx.outs w' := by
 have k_J19_1 := kk
 exact WJ
end Go.Proofs.YteaocammohcgoaaGreatDoor
