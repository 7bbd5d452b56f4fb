import Derived.Test.YteaocammohcgoaaGreatDoorQKdH
set_option linter.unusedVariables false
set_option maxHeartbeats 16000000
set_option maxRecDepth 100000
namespace Go.Proofs.YteaocammohcgoaaGreatDoor
open Go.RowKit
variable {G : Prop}
theorem bN0 (h : G := by
 have k_0 := kk
 exact bN6) : G := h
theorem bN1 (h : G := by
 have k_1 := kk
 exact bN6) : G := h
theorem bN2 (h : G := by
 have k_0 := kk
 exact bN7) : G := h
theorem bN3 (h : G := by
 have k_1 := kk
 exact bN7) : G := h
theorem bN4 (h : G := by
 go_still_tail 16, bI
 go_wp2_with (go_at_call 106; refine (bz.out x1 eR _ _ kL.out _ _ VN.out bM.out.drew).mono ?_; rintro e x4 ⟨rfl, fH⟩; have kG := aa (nG.out _ _ _ _ _ fH); clear fH)
 refine ⟨⟨j + 1, by omega, by go_num, by rw [VW.out], ?_⟩, by simp [intOf]; omega⟩
 rw [Ju.out]
 exact kG.out) : G := h
theorem bN5 (h : G := by
 refine ⟨⟨j + 1, by omega, by go_num, by rw [VW.out], ?_⟩, by simp [intOf]; omega⟩
 rw [Ju.out]
 exact nG.out _ _ _ _ _ bM.out) : G := h
theorem bN6 (h : G := by
 go_wp2
 generalize mR : wr.alloc (.cells #[.int .i64 D.kind, .int .i64 2, .string D.name, .slice (some ⟨gd, od, none⟩) D.len cd] 25) = wx
 have x0 : wx.cell? ⟨wr.heap.size, 0, none⟩ = some (.int .i64 D.kind) := by rw [← mR]; simp
 have x1 : wx.cell? ⟨wr.heap.size, 1, none⟩ = some (.int .i64 2) := by rw [← mR]; simp
 have k_0 := kk
 exact Np) : G := h
theorem bN7 (h : G := by
 go_wp2
 generalize mR : wr.alloc (.cells #[.int .i64 D.kind, .int .i64 1, .string D.name, .slice (some ⟨gd, od, none⟩) D.len cd] 25) = wx
 have x0 : wx.cell? ⟨wr.heap.size, 0, none⟩ = some (.int .i64 D.kind) := by rw [← mR]; simp
 have x1 : wx.cell? ⟨wr.heap.size, 1, none⟩ = some (.int .i64 1) := by rw [← mR]; simp
 have k_1 := kk
 exact Np) : G := h
theorem bN8 (h : G := by
 clear hf
 go_wp2
 generalize mR : wr.alloc (.cells #[.int .i64 D.kind, .int .i64 0, .string D.name, .slice (some ⟨gd, od, none⟩) D.len cd] 25) = wx
 have x0 : wx.cell? ⟨wr.heap.size, 0, none⟩ = some (.int .i64 D.kind) := by rw [← mR]; simp
 have x1 : wx.cell? ⟨wr.heap.size, 1, none⟩ = some (.int .i64 0) := by rw [← mR]; simp
 have k_2 := kk
 exact Np) : G := h
theorem bN9 (h : G := by
 obtain ⟨ud0, eT, dE⟩ := H8 0 (by omega)
 simp only [Nat.zero_mul, Nat.add_zero] at eT
 have dH := aa eT
 have ji := aa (fun (x1 : World) (eR : Option Nat) (b3 : Nat) (u3 : Value) (mg : SGo K wr.drew x1 eR b3 D (.slice (some ⟨gd, od, none⟩) D.len cd) u3 pj) (X : World) (σ : CR CS) (q : Nat) (ty : Int) (hX : SS K x1 eR σ cx.ret cx.loops cx.outs X) (ha : SAt K (D.kids 0) σ q) => pr (D.kids 0) K x1 eR σ cx.ret cx.loops cx.outs X ud0 q ty hX (mg.env V0.out hX) ((VX.out.kid (by omega) dE).later (mg.below _ _ _ _ _ hX)) ha cX)
 obtain ⟨ud1, ed, fG⟩ := H8 1 (by omega)
 simp only [Nat.one_mul] at ed
 have fD := aa ed
 first
 |clear k_0
  have BH := aH D (i := 1) (by omega)
  have Eh := bP D pj (i := 1) (by omega)
  have bz := aa (fun (x1 : World) (eR : Option Nat) (b3 : Nat) (u3 : Value) (mg : SGo K wr.drew x1 eR b3 D (.slice (some ⟨gd, od, none⟩) D.len cd) u3 pj) (X : World) (s1 : CS) (yL : s1.2.length = aV D pj 1) (hX : SS K x1 eR (.ok s1) cx.ret cx.loops cx.outs X) => xQ (T := D.kids 1) q8 (fun i hi => NV.out _ (by have := aH (D.kids 1) hi; omega)) K x1 eR s1 cx X ud1 (aV D pj 1) yL hX (mg.env V0.out hX) ((VX.out.kid (by omega) fG).later (mg.below _ _ _ _ _ hX)) (by omega) jD (by omega) (by omega) D pj)
  have ov : Hid (SAt K (D.kids 0) (.ok (ab sj)) (aV D pj 0)) := by rw [← O4.out]; exact SAt.kid0 (by rw [O4.out]; omega) dm (by omega)
  have Pe := aa Kt
  have N4 := aa hL
  have VW : Hid (kh T (j + 1) = kh T j) := by unfold Hid; rw [zw.out, lz.out]; simp
  have Ju : Hid (re K.F T cx (ab s) (j + 1) = CR.bind (cD K (D.kids 0) 3 (.ok (ab sj))) (within (FB D) ((bY K.F (D.kids 1)).sts cx))) := by
   unfold Hid; rw [vw.out, Su Pe.out lz.out N4.out]
   rfl
  cases hσ : cD K (D.kids 0) 3 (.ok (ab sj)) with
  |error e0 =>
   rw [hσ] at Ju
   have oX := aa hσ
   clear hσ
   clear Kt hL H8 q8 jD eT dE ed fG cX
   generalize kh T j = fj at *
   cases fj with
   |true =>
    exact bN3
   |false =>
    exact bN3
  |ok s1 =>
   have DT : s1.2.length = aV D pj 1 := (by obtain ⟨q1, e1, e2⟩ := gQ cX s1 hσ; injection e1 with e1; subst e1; rw [e2, aP, hpj, eW, o8])
   rw [hσ] at Ju
   have oX := aa hσ
   have VN := aa DT
   clear hσ DT
   clear Kt hL H8 q8 jD eT dE ed fG cX
   generalize kh T j = fj at *
   cases fj with
   |true =>
    exact bN2
   |false =>
    exact bN2
 |clear k_1
  have vt := aa (fun (x1 : World) (eR : Option Nat) (b3 : Nat) (u3 : Value) (mg : SGo K wr.drew x1 eR b3 D (.slice (some ⟨gd, od, none⟩) D.len cd) u3 pj) (X : World) (σ : CR CS) (q : Nat) (ty : Int) (hX : SS K x1 eR σ cx.ret cx.loops cx.outs X) (ha : SAt K (D.kids 1) σ q) => pr (D.kids 1) K x1 eR σ cx.ret cx.loops cx.outs X ud1 q ty hX (mg.env V0.out hX) ((VX.out.kid (by omega) fG).later (mg.below _ _ _ _ _ hX)) ha jB)
  obtain ⟨ud2, iy, jH⟩ := H8 2 (by omega)
  simp only [Nat.reduceMul] at iy
  have mU := aa iy
  have BH := aH D (i := 2) (by omega)
  have Eh := bP D pj (i := 2) (by omega)
  have bz := aa (fun (x1 : World) (eR : Option Nat) (b3 : Nat) (u3 : Value) (mg : SGo K wr.drew x1 eR b3 D (.slice (some ⟨gd, od, none⟩) D.len cd) u3 pj) (X : World) (s1 : CS) (yL : s1.2.length = aV D pj 2) (hX : SS K x1 eR (.ok s1) cx.ret cx.loops cx.outs X) => xQ (T := D.kids 2) q8 (fun i hi => NV.out _ (by have := aH (D.kids 2) hi; omega)) K x1 eR s1 cx X ud2 (aV D pj 2) yL hX (mg.env V0.out hX) ((VX.out.kid (by omega) jH).later (mg.below _ _ _ _ _ hX)) (by omega) jD (by omega) (by omega) D pj)
  have ov : Hid (SAt K (D.kids 0) (.ok (ab sj)) (aV D pj 0)) := by rw [← O4.out]; exact SAt.kid0 (by rw [O4.out]; omega) dm (by omega)
  have FV := aa (SAt.next (τ := cD K (D.kids 0) 3 (.ok (ab sj))) ov.out (by omega) (by omega) dm (gQ cX))
  have Pe := aa Kt
  have N4 := aa hL
  have VW : Hid (kh T (j + 1) = kh T j) := by unfold Hid; rw [zw.out, lz.out]; simp
  have Ju : Hid (re K.F T cx (ab s) (j + 1) = CR.bind (cD K (D.kids 1) 1 (cD K (D.kids 0) 3 (.ok (ab sj)))) (within (FB D) ((bY K.F (D.kids 2)).sts cx))) := by
   unfold Hid; rw [vw.out, St Pe.out lz.out N4.out]
   show _ = CR.bind (CR.bind (aC (bL K.F (D.kids 0)) 3 (ab sj)) (aC (bL K.F (D.kids 1)) 1)) _
   cases aC (bL K.F (D.kids 0)) 3 (ab sj) <;> rfl
  cases hσ : cD K (D.kids 1) 1 (cD K (D.kids 0) 3 (.ok (ab sj))) with
  |error e0 =>
   rw [hσ] at Ju
   have oX := aa hσ
   clear hσ
   clear Kt hL H8 q8 jD eT dE ed fG iy jH cX jB
   generalize kh T j = fj at *
   cases fj with
   |true =>
    exact bN1
   |false =>
    exact bN1
  |ok s1 =>
   have DT : s1.2.length = aV D pj 2 := (by obtain ⟨q2, e3, e4⟩ := gQ jB s1 hσ; obtain ⟨q1, e1, e2⟩ := gQ cX q2 e3; injection e1 with e1; subst e1; rw [e4, e2, aP, hpj, eW, eW, o8])
   rw [hσ] at Ju
   have oX := aa hσ
   have VN := aa DT
   clear hσ DT
   clear Kt hL H8 q8 jD eT dE ed fG iy jH cX jB
   generalize kh T j = fj at *
   cases fj with
   |true =>
    exact bN0
   |false =>
    exact bN0) : G := h
theorem Np (h : G := by
 have x2 : wx.cell? ⟨wr.heap.size, 2, none⟩ = some (.string D.name) := by rw [← mR]; simp
 have x3 : wx.cell? ⟨wr.heap.size, 3, none⟩ = some (.slice (some ⟨gd, od, none⟩) D.len cd) := by rw [← mR]; simp
 have xa : wx.cell? ⟨ga, oa + j, none⟩ = some (.int .i64 (pj : Nat)) := by rw [← mR]; exact (World.cell?_alloc_past _ _ _ Ru).trans an
 first
 |clear k_0
  have vy := aa (cC.out (.cells #[.int .i64 D.kind, .int .i64 2, .string D.name, .slice (some ⟨gd, od, none⟩) D.len cd] 25))
  rw [mR] at vy
  have xX := aa mR
  clear mR
  go_still_tail 5, bI
  go_wp2_with (go_at_call 44; refine vy.out.mono ?_; rintro e x1 ⟨u1, rfl, bx, hb1⟩; rw [← xX.out] at bx hb1; obtain ⟨eR, az, aZ, dR⟩ := ik.out x1 u1 _ hb1 bx; obtain ⟨ga1, oa1, ca1, rfl, MF, uS⟩ := dR.ats (by omega); have kL := aa dR; have jF := aa uS; have nG := aa aZ; obtain ⟨b0, b1, b2, b3⟩ := (show x1.cell? ⟨wr.heap.size, 0, none⟩ = _ ∧ x1.cell? ⟨wr.heap.size, 1, none⟩ = _ ∧ x1.cell? ⟨wr.heap.size, 2, none⟩ = _ ∧ x1.cell? ⟨wr.heap.size, 3, none⟩ = _ from kL.out.box _ _ _ _ _ az); rw [lz.out] at b1; have an := gM.out _ _ _ _ _ (nG.out _ _ _ _ _ az); have a0 := jF.out _ _ _ _ _ az 0 (by omega); rw [Nat.add_zero] at a0; obtain ⟨eD, eC, eB, eA⟩ := dH.out _ (kL.out.below _ _ _ _ _ az); have a1 := jF.out _ _ _ _ _ az 1 (by omega); obtain ⟨gG, gB, gE, gA⟩ := fD.out _ (kL.out.below _ _ _ _ _ az); have a2 := jF.out _ _ _ _ _ az 2 (by omega); obtain ⟨qM, qL, oi, oh⟩ := mU.out _ (kL.out.below _ _ _ _ _ az); have k5 := az.code0; have bb := aa az; clear az aZ dR uS bx hb1)
  go_still_tail 8, bI
  go_wp2_with (go_at_call 109; refine (ji.out x1 eR _ _ kL.out _ _ _ _ bb.out.drew ov.out).mono ?_; rintro e x3 ⟨rfl, bW⟩; obtain ⟨b0, b1, b2, b3⟩ := (show x3.cell? ⟨wr.heap.size, 0, none⟩ = _ ∧ x3.cell? ⟨wr.heap.size, 1, none⟩ = _ ∧ x3.cell? ⟨wr.heap.size, 2, none⟩ = _ ∧ x3.cell? ⟨wr.heap.size, 3, none⟩ = _ from kL.out.box _ _ _ _ _ bW); rw [lz.out] at b1; have an := gM.out _ _ _ _ _ (nG.out _ _ _ _ _ bW); have a0 := jF.out _ _ _ _ _ bW 0 (by omega); rw [Nat.add_zero] at a0; obtain ⟨eD, eC, eB, eA⟩ := dH.out _ (kL.out.below _ _ _ _ _ bW); have a1 := jF.out _ _ _ _ _ bW 1 (by omega); obtain ⟨gG, gB, gE, gA⟩ := fD.out _ (kL.out.below _ _ _ _ _ bW); have a2 := jF.out _ _ _ _ _ bW 2 (by omega); obtain ⟨qM, qL, oi, oh⟩ := mU.out _ (kL.out.below _ _ _ _ _ bW); have fa := aa bW; clear bW)
  go_still_tail 8, bI
  first
  |clear k_0
   go_wp2_with (go_at_call 109; refine (vt.out x1 eR _ _ kL.out _ _ _ _ fa.out.drew FV.out).mono ?_; rintro e x2 ⟨rfl, aD⟩; rw [oX.out] at aD; obtain ⟨b0, b1, b2, b3⟩ := (show x2.cell? ⟨wr.heap.size, 0, none⟩ = _ ∧ x2.cell? ⟨wr.heap.size, 1, none⟩ = _ ∧ x2.cell? ⟨wr.heap.size, 2, none⟩ = _ ∧ x2.cell? ⟨wr.heap.size, 3, none⟩ = _ from kL.out.box _ _ _ _ _ aD); rw [lz.out] at b1; have an := gM.out _ _ _ _ _ (nG.out _ _ _ _ _ aD); have a0 := jF.out _ _ _ _ _ aD 0 (by omega); rw [Nat.add_zero] at a0; obtain ⟨eD, eC, eB, eA⟩ := dH.out _ (kL.out.below _ _ _ _ _ aD); have a1 := jF.out _ _ _ _ _ aD 1 (by omega); obtain ⟨gG, gB, gE, gA⟩ := fD.out _ (kL.out.below _ _ _ _ _ aD); have a2 := jF.out _ _ _ _ _ aD 2 (by omega); obtain ⟨qM, qL, oi, oh⟩ := mU.out _ (kL.out.below _ _ _ _ _ aD); have k5 := aD.code0; have bM := aa aD; clear aD)
   exact bN4
  |clear k_1
   go_wp2_with (go_at_call 109; refine (vt.out x1 eR _ _ kL.out _ _ _ _ fa.out.drew FV.out).mono ?_; rintro e x2 ⟨rfl, aD⟩; rw [oX.out] at aD; obtain ⟨b0, b1, b2, b3⟩ := (show x2.cell? ⟨wr.heap.size, 0, none⟩ = _ ∧ x2.cell? ⟨wr.heap.size, 1, none⟩ = _ ∧ x2.cell? ⟨wr.heap.size, 2, none⟩ = _ ∧ x2.cell? ⟨wr.heap.size, 3, none⟩ = _ from kL.out.box _ _ _ _ _ aD); rw [lz.out] at b1; have an := gM.out _ _ _ _ _ (nG.out _ _ _ _ _ aD); have a0 := jF.out _ _ _ _ _ aD 0 (by omega); rw [Nat.add_zero] at a0; obtain ⟨eD, eC, eB, eA⟩ := dH.out _ (kL.out.below _ _ _ _ _ aD); have a1 := jF.out _ _ _ _ _ aD 1 (by omega); obtain ⟨gG, gB, gE, gA⟩ := fD.out _ (kL.out.below _ _ _ _ _ aD); have a2 := jF.out _ _ _ _ _ aD 2 (by omega); obtain ⟨qM, qL, oi, oh⟩ := mU.out _ (kL.out.below _ _ _ _ _ aD); obtain ⟨code, k5, hz⟩ := aD.code1; have bM := aa aD; clear aD)
   exact bN5
 |clear k_1
  have vy := aa (cC.out (.cells #[.int .i64 D.kind, .int .i64 1, .string D.name, .slice (some ⟨gd, od, none⟩) D.len cd] 25))
  rw [mR] at vy
  have xX := aa mR
  clear mR
  go_still_tail 5, bI
  go_wp2_with (go_at_call 44; refine vy.out.mono ?_; rintro e x1 ⟨u1, rfl, bx, hb1⟩; rw [← xX.out] at bx hb1; obtain ⟨eR, az, aZ, dR⟩ := ik.out x1 u1 _ hb1 bx; obtain ⟨ga1, oa1, ca1, rfl, MF, uS⟩ := dR.ats (by omega); have kL := aa dR; have jF := aa uS; have nG := aa aZ; obtain ⟨b0, b1, b2, b3⟩ := (show x1.cell? ⟨wr.heap.size, 0, none⟩ = _ ∧ x1.cell? ⟨wr.heap.size, 1, none⟩ = _ ∧ x1.cell? ⟨wr.heap.size, 2, none⟩ = _ ∧ x1.cell? ⟨wr.heap.size, 3, none⟩ = _ from kL.out.box _ _ _ _ _ az); rw [lz.out] at b1; have an := gM.out _ _ _ _ _ (nG.out _ _ _ _ _ az); have a0 := jF.out _ _ _ _ _ az 0 (by omega); rw [Nat.add_zero] at a0; obtain ⟨eD, eC, eB, eA⟩ := dH.out _ (kL.out.below _ _ _ _ _ az); have a1 := jF.out _ _ _ _ _ az 1 (by omega); obtain ⟨gG, gB, gE, gA⟩ := fD.out _ (kL.out.below _ _ _ _ _ az); have k5 := az.code0; have bb := aa az; clear az aZ dR uS bx hb1)
  go_still_tail 8, bI
  first
  |clear k_0
   go_wp2_with (go_at_call 109; refine (ji.out x1 eR _ _ kL.out _ _ _ _ bb.out.drew ov.out).mono ?_; rintro e x2 ⟨rfl, aD⟩; rw [oX.out] at aD; obtain ⟨b0, b1, b2, b3⟩ := (show x2.cell? ⟨wr.heap.size, 0, none⟩ = _ ∧ x2.cell? ⟨wr.heap.size, 1, none⟩ = _ ∧ x2.cell? ⟨wr.heap.size, 2, none⟩ = _ ∧ x2.cell? ⟨wr.heap.size, 3, none⟩ = _ from kL.out.box _ _ _ _ _ aD); rw [lz.out] at b1; have an := gM.out _ _ _ _ _ (nG.out _ _ _ _ _ aD); have a0 := jF.out _ _ _ _ _ aD 0 (by omega); rw [Nat.add_zero] at a0; obtain ⟨eD, eC, eB, eA⟩ := dH.out _ (kL.out.below _ _ _ _ _ aD); have a1 := jF.out _ _ _ _ _ aD 1 (by omega); obtain ⟨gG, gB, gE, gA⟩ := fD.out _ (kL.out.below _ _ _ _ _ aD); have k5 := aD.code0; have bM := aa aD; clear aD)
   exact bN4
  |clear k_1
   go_wp2_with (go_at_call 109; refine (ji.out x1 eR _ _ kL.out _ _ _ _ bb.out.drew ov.out).mono ?_; rintro e x2 ⟨rfl, aD⟩; rw [oX.out] at aD; obtain ⟨b0, b1, b2, b3⟩ := (show x2.cell? ⟨wr.heap.size, 0, none⟩ = _ ∧ x2.cell? ⟨wr.heap.size, 1, none⟩ = _ ∧ x2.cell? ⟨wr.heap.size, 2, none⟩ = _ ∧ x2.cell? ⟨wr.heap.size, 3, none⟩ = _ from kL.out.box _ _ _ _ _ aD); rw [lz.out] at b1; have an := gM.out _ _ _ _ _ (nG.out _ _ _ _ _ aD); have a0 := jF.out _ _ _ _ _ aD 0 (by omega); rw [Nat.add_zero] at a0; obtain ⟨eD, eC, eB, eA⟩ := dH.out _ (kL.out.below _ _ _ _ _ aD); have a1 := jF.out _ _ _ _ _ aD 1 (by omega); obtain ⟨gG, gB, gE, gA⟩ := fD.out _ (kL.out.below _ _ _ _ _ aD); obtain ⟨code, k5, hz⟩ := aD.code1; have bM := aa aD; clear aD)
   exact bN5
 |clear k_2
  have vy := aa (cC.out (.cells #[.int .i64 D.kind, .int .i64 0, .string D.name, .slice (some ⟨gd, od, none⟩) D.len cd] 25))
  rw [mR] at vy
  have xX := aa mR
  clear mR
  go_still_tail 5, bI
  go_wp2_with (go_at_call 44; refine vy.out.mono ?_; rintro e x1 ⟨u1, rfl, bx, hb1⟩; rw [← xX.out] at bx hb1; obtain ⟨eR, az, aZ, dR⟩ := ik.out x1 u1 _ hb1 bx; obtain ⟨ga1, oa1, ca1, rfl, MF, uS⟩ := dR.ats (by omega); have kL := aa dR; have jF := aa uS; have nG := aa aZ; obtain ⟨b0, b1, b2, b3⟩ := (show x1.cell? ⟨wr.heap.size, 0, none⟩ = _ ∧ x1.cell? ⟨wr.heap.size, 1, none⟩ = _ ∧ x1.cell? ⟨wr.heap.size, 2, none⟩ = _ ∧ x1.cell? ⟨wr.heap.size, 3, none⟩ = _ from kL.out.box _ _ _ _ _ az); rw [lz.out] at b1; have an := gM.out _ _ _ _ _ (nG.out _ _ _ _ _ az); have a0 := jF.out _ _ _ _ _ az 0 (by omega); rw [Nat.add_zero] at a0; obtain ⟨eD, eC, eB, eA⟩ := dH.out _ (kL.out.below _ _ _ _ _ az); have k5 := az.code0; have bb := aa az; clear az aZ dR uS bx hb1)
  first
  |clear k_0
   go_wp2_with (go_at_call 46; refine (dW bb.out 6 (by decide) pj).mono ?_; rintro e x4 ⟨rfl, fH⟩; have kG := aa (fI.out _ _ _ _ _ (nG.out _ _ _ _ _ fH)); clear fH)
   first | go_end0 | refine bodyPost_ret (results_none rfl _ _ _) rfl ?_
   refine ⟨rfl, ?_⟩
   rw [pd (e := (6, pj)) (by rw [vw.out, KF Pe.out lz.out, O4.out]) (show j + 1 ≤ T.len by omega)]
   exact kG.out
  |clear k_1
   go_still_tail 16, bI
   go_wp2_with (go_at_call 106; refine (bz.out x1 eR _ _ kL.out _ _ (by rw [aP, O4.out]; rfl) bb.out.drew).mono ?_; rintro e x4 ⟨rfl, fH⟩; have kG := aa (nG.out _ _ _ _ _ fH); clear fH)
   refine ⟨⟨j + 1, by omega, by go_num, by rw [zw.out, lz.out]; rfl, ?_⟩, by simp [intOf]; omega⟩
   rw [vw.out, KE Pe.out lz.out N4.out]
   exact kG.out) : G := h
def FB (T : Nd) : List (ByteArray × Int) := if al T.name then [] else [(T.name, 1)]
theorem nx {s : ByteArray} (h : al s = true) : s = ⟨#[]⟩ := by
 have h1 : s.toList = [] := by simpa [al] using h
 rw [ByteArray.toList_eq] at h1
 have h2 : s.data = #[] := by simpa using h1
 cases s; simp_all
theorem IY {T : Nd} (h4 : T.kind = 4) (ih : ∀ i, i < T.len → lW (T.kids i)) (K : SK) (w0 : World) (ay : Option Nat) (s : CS) (cx : Cx) (w : World) (v : Value) (hS : SS K w0 ay (.ok s) cx.ret cx.loops cx.outs w) (hE : SEnv K w) (hN : SNd K w T v) (aq : s.2.length + T.size ≤ K.N) (aN : T.sOk = true) (hl : cx.loops + T.size ≤ 1099511627776) (ho : cx.outs + T.size ≤ 1099511627776) (C : Nd) (na : Nat) :
  Calls Tryz.prog 106 #[.pointer (some ⟨K.cb, 0, none⟩), T.val v, .int .i64 s.2.length, .string C.name, .int .i64 na] w fun e w' => e = .returned (.tuple #[]) ∧ SS K w0 ay (within (FB C) ((bY K.F T).sts cx) s) cx.ret cx.loops cx.outs w' := by
 unfold FB
 cases he : al C.name with
 |true => rw [nx he]; exact EW h4 ih K w0 ay s cx w v hS hE hN aq aN hl ho na
 |false => exact Nc h4 ih K w0 ay s cx w v hS hE hN aq aN hl ho C.name na he
theorem KF {F C : Nd} {cx : Cx} {s : CS} (hk : C.kind = 16) (hn : C.num = 0) : (bY F C).cs true cx s = .error (6, s.2.length) := by
 rw [qi F (by omega)]; unfold FK; rw [if_pos ⟨hn, rfl⟩]
theorem KE {F C : Nd} {cx : Cx} {s : CS} (hk : C.kind = 16) (hn : C.num = 0) (hl : C.len = 1) : (bY F C).cs false cx s = within (FB C) ((bY F (C.kids 0)).sts cx) (ab s) := by
 rw [qi F (by omega)]; unfold FK; rw [if_neg (by simp), if_neg (by omega), CR.bind_ok, if_neg (by omega), CR.bind_ok, hl]; rfl
theorem Su {F C : Nd} {cx : Cx} {s : CS} {f : Bool} (hk : C.kind = 16) (hn : C.num = 1) (hl : C.len = 2) : (bY F C).cs f cx s = CR.bind (aC (bL F (C.kids 0)) 3 (ab s)) (within (FB C) ((bY F (C.kids 1)).sts cx)) := by
 rw [qi F (by omega)]; unfold FK; rw [if_neg (by omega), if_pos (by omega)]
 cases aC (bL F (C.kids 0)) 3 (ab s) with
 |error e => rfl
 |ok s1 => simp only [CR.bind_ok]; rw [if_neg (by omega), CR.bind_ok, hl]; rfl
theorem St {F C : Nd} {cx : Cx} {s : CS} {f : Bool} (hk : C.kind = 16) (hn : C.num = 2) (hl : C.len = 3) : (bY F C).cs f cx s = CR.bind (aC (bL F (C.kids 0)) 3 (ab s)) (fun s1 => CR.bind (aC (bL F (C.kids 1)) 1 s1) (within (FB C) ((bY F (C.kids 2)).sts cx))) := by
 rw [qi F (by omega)]; unfold FK; rw [if_neg (by omega), if_pos (by omega)]
 cases aC (bL F (C.kids 0)) 3 (ab s) with
 |error e => rfl
 |ok s1 => simp only [CR.bind_ok]; rw [if_pos hn, hl]; rfl
def kh (T : Nd) (j : Nat) : Bool := fL (fun i => decide ((T.kids i).num = 0)) j
def re (F T : Nd) (cx : Cx) (s : CS) (j : Nat) : CR CS := forN (fun i => (bY F (T.kids i)).cs (kh T i) cx) j s
theorem qj (F T : Nd) (cx : Cx) (s : CS) (j : Nat) : re F T cx s (j + 1) = CR.bind (re F T cx s j) ((bY F (T.kids j)).cs (kh T j) cx) := rfl
theorem pd {F T : Nd} {cx : Cx} {s : CS} {j : Nat} {e : Int × Nat} (h : re F T cx s j = .error e) : ∀ {n : Nat}, j ≤ n → re F T cx s n = .error e := by
 intro n hn
 induction hn with
 |refl => exact h
 |step _ ih => rw [qj, ih]; rfl
theorem EN {F T : Nd} {cx : Cx} {s : CS} (aN : ∀ i, i < T.len → (T.kids i).cOk = true) (hs : s.1 ≠ []) : ∀ {j : Nat}, j ≤ T.len → ∀ s', re F T cx (ab s) j = .ok s' → s'.2.length = aV T s.2.length j ∧ s'.1 ≠ [] := by
 intro j hj s' e
 have := (StL.forN (g := fun i => (T.kids i).size) (fun i hi => (iq F (T.kids i)).cs (aN i hi) _ _) hj) (ab s) s' hs e
 obtain ⟨r1, r2, r3, r4⟩ := this
 refine ⟨by rw [r3, aP]; unfold aV; rfl, fun h => ?_⟩
 rw [h] at r2
 exact hs (List.length_eq_zero_iff.1 r2.symm)
theorem xQ {T : Nd} (h4 : T.kind = 4) (ih : ∀ i, i < T.len → lW (T.kids i)) (K : SK) (w0 : World) (ay : Option Nat) (s : CS) (cx : Cx) (w : World) (v : Value) (p : Nat) (hp : s.2.length = p) (hS : SS K w0 ay (.ok s) cx.ret cx.loops cx.outs w) (hE : SEnv K w) (hN : SNd K w T v) (aq : p + T.size ≤ K.N) (aN : T.sOk = true) (hl : cx.loops + T.size ≤ 1099511627776) (ho : cx.outs + T.size ≤ 1099511627776) (C : Nd) (na : Nat) :
  Calls Tryz.prog 106 #[.pointer (some ⟨K.cb, 0, none⟩), T.val v, .int .i64 p, .string C.name, .int .i64 na] w fun e w' => e = .returned (.tuple #[]) ∧ SS K w0 ay (within (FB C) ((bY K.F T).sts cx) s) cx.ret cx.loops cx.outs w' := by
 subst hp
 exact IY h4 ih K w0 ay s cx w v hS hE hN aq aN hl ho C na
theorem ER {T : Nd} {K : SK} {w w1 : World} {own1 : Option Nat} {b : Nat} {v u : Value} {s : CS} (aN : ∀ i, i < T.len → (T.kids i).cOk = true) (b6 : ∀ U : Nd, U.size < T.size → lW U) (hE : SEnv K w) (hN : SNd K w T v) (hg : SGo K w w1 own1 b T v u s.2.length) (cx : Cx) (W : World) (hS : SS K w1 own1 (.ok (ab s)) cx.ret cx.loops cx.outs W)
  (bh : s.1 ≠ []) (aq : s.2.length + T.size ≤ K.N) (hl : cx.loops + T.size ≤ 1099511627776 + 1) (ho : cx.outs + T.size ≤ 1099511627776 + 1) :
  Calls Tryz.prog 111 #[.pointer (some ⟨K.cb, 0, none⟩), T.val v, u] W fun e w' => e = .returned (.tuple #[]) ∧ SS K w1 own1 (re K.F T cx (ab s) T.len) cx.ret cx.loops cx.outs w' := by
 have hn := T.fine_len hN.fine
 have dm := hS.ok.few
 obtain ⟨a, cap, hv, b7, hq⟩ := ar.1 hN.row
 subst hv
 obtain ⟨qU, bW, ee, xr⟩ := hS.boxed (nO T (.slice a T.len cap))
 have fa := aa bW
 have fI := aa ee
 have cJ := aa xr
 have HG := aa hg
 have BX := aa hE
 have KP := aa hN
 have oY := aa aN
 have NV := aa b6
 have HCT := aa (fun j (hj : j ≤ T.len) => EN (F := K.F) (cx := cx) aN bh hj)
 have kH := aa (fun (h0 : T.len ≠ 0) => cN hN.row h0)
 have HKA := aa (fun i (h : i < T.len) => bP T s.2.length h)
 have KQ := aa (fun i (h : i < T.len) => aH T h)
 have bI := jz
 clear bW ee xr hg hE hN aN b6 hS hq
 unfold Nd.val
 generalize hp : s.2.length = p at *
 go_enter Tryz.func111, Tryz.ntmps111
 go_wp2
 go_loopw [6, 7] (fun fd i wr => ∃ j : Nat, j ≤ T.len ∧ i = .int .i64 j ∧ fd = .bool (kh T j) ∧ SS K (W.alloc (nO T (.slice a T.len cap))) qU (re K.F T cx (ab s) j) cx.ret cx.loops cx.outs wr) (fun _ i _ => T.len - (intOf i).toNat)
 case atStart => exact ⟨0, Nat.zero_le _, rfl, rfl, fa.out⟩
 case round =>
  obtain ⟨j, hj, rfl, rfl, cr⟩ := hrel
  have gP := fI.out _ _ _ _ _ cr
  have BO := cJ.out _ _ _ _ _ cr
  have n3 : wr.cell? ⟨W.heap.size, 3, none⟩ = some (.slice a T.len cap) := by simp [World.cell?, BO]
  clear BO
  by_cases bB : j < T.len
  ·have Ib : (j : Int) < (T.len : Int) := by omega
   obtain ⟨g, off, l5, lZ, iW, rR, aQ⟩ := kH.out (by omega)
   injection lZ with ti Kz th
   subst ti
   subst th
   obtain ⟨ga, oa, ca, QM, nI, fg⟩ := HG.out.ats (by omega)
   subst QM
   obtain ⟨ud, kE, jG⟩ := aQ j bB
   cases hq : re K.F T cx (ab s) j with
   |error e0 =>
    rw [hq] at cr
    obtain ⟨code, k5, hz⟩ := cr.code1
    have iK := aa cr
    have HQ := aa hq
    clear cr hq aQ kE jG fg gP
    go_wp2
    go_end0
    refine ⟨rfl, ?_⟩
    rw [pd HQ.out hj]
    exact fI.out _ _ _ _ _ iK.out
   |ok sj =>
    obtain ⟨hpj, hsj⟩ := HCT.out j hj sj hq
    rw [hq] at cr
    have k5 := cr.code0
    have fe := HG.out.below _ _ _ _ _ gP
    obtain ⟨c0, c1, c2, c3⟩ := kE _ fe
    have an := fg _ _ _ _ _ gP j bB
    have Ru := World.block_lt_of_cell? wr ⟨ga, oa + j, none⟩ an
    dsimp only at Ru
    have Ia := HKA.out j bB
    have gX := KQ.out j bB
    have OM := (KP.out.kid bB jG).later fe.drew
    have hEd := BX.out.later fe.drew
    have Sj : ∀ X σ r l o, SS K (W.alloc (nO T (.slice (some ⟨g, off, none⟩) T.len cap))) qU σ r l o X → X.cell? ⟨ga, oa + j, none⟩ = some (.int .i64 (aV T p j : Nat)) := fun X σ r l o h => fg _ _ _ _ _ (fI.out _ _ _ _ _ h) j bB
    obtain ⟨Kt, hDn, q8, jD⟩ := zk (oY.out j bB)
    have hD1 : (T.kids j).len ≠ 0 := by rcases hDn with h | h | h <;> omega
    obtain ⟨gd, od, cd, hvd, hgd, hcd, H8⟩ := cN OM.row hD1
    subst hvd
    have Hx : 0 < (T.kids j).size := by rw [(T.kids j).size_eq]; omega
    have hsd := (cr.take (by omega)).drew
    have yX := cr.ok.cl
    have hwl := cr.lt
    have FN := aa hsd
    have cC : Hid (∀ o, Calls Tryz.prog 44 #[(T.kids j).val (.slice (some ⟨gd, od, none⟩) (T.kids j).len cd), .int .i64 (aV T p j : Nat)] ((wr.alloc o).drew) fun e w' => ∃ u, e = .returned u ∧ JM w' (wr.alloc o).heap.size u (T.kids j).len (fun i => (aV (T.kids j) (aV T p j) i : Int)) ∧ Below (wr.alloc o).heap.size ((wr.alloc o).drew) w') := fun o => fP (T.kids j) ((wr.alloc o).drew) _ K.lo (aV T p j) OM.fine (by show K.lo ≤ (wr.alloc o).heap.size; simp; omega) (ah (hsd.box o) lr OM.row) OM.cost (by omega)
    have ik := aa (fun (x1 : World) (u : Value) (t : TypeId) hb ha => kT (w1 := x1) (T := T.kids j) (v := .slice (some ⟨gd, od, none⟩) (T.kids j).len cd) (p := aV T p j) (u := u) (t := t) hsd hb ha)
    have HQ := aa hq
    have HSJ := aa hsj
    have O4 := aa hpj
    have vw : Hid (re K.F T cx (ab s) (j + 1) = (bY K.F (T.kids j)).cs (kh T j) cx sj) := by unfold Hid; rw [qj, hq]; rfl
    have zw : Hid (kh T (j + 1) = (kh T j || decide ((T.kids j).num = 0))) := rfl
    have gM := aa Sj
    have VX := aa OM
    have V0 := aa hEd
    have hDf := Nd.fine_len OM.fine
    clear cr hq kE jG fg gP fe Sj aQ
    unfold Nd.val at cC
    generalize T.kids j = D at *
    generalize aV T p j = pj at *
    rcases hDn with ⟨hN0, hL⟩ | ⟨hN1, hL, cX⟩ | ⟨hN2, hL, cX, jB⟩
    ·rw [hL] at q8 jD
     have lz := aa hN0
     rw [hN0] at cC ik c1
     have yY : (D.len : Int) - 1 = 0 := by omega
     have gh : 0 < D.len := by omega
     obtain ⟨ud0, eT, dE⟩ := H8 0 (by omega)
     simp only [Nat.zero_mul, Nat.add_zero] at eT
     have dH := aa eT
     have BH := aH D (i := 0) (by omega)
     have Eh := bP D pj (i := 0) (by omega)
     have bz := aa (fun (x1 : World) (eR : Option Nat) (b3 : Nat) (u3 : Value) (mg : SGo K wr.drew x1 eR b3 D (.slice (some ⟨gd, od, none⟩) D.len cd) u3 pj) (X : World) (s1 : CS) (yL : s1.2.length = aV D pj 0) (hX : SS K x1 eR (.ok s1) cx.ret cx.loops cx.outs X) => xQ (T := D.kids 0) q8 (fun i hi => NV.out _ (by have := aH (D.kids 0) hi; omega)) K x1 eR s1 cx X ud0 (aV D pj 0) yL hX (mg.env V0.out hX) ((VX.out.kid (by omega) dE).later (mg.below _ _ _ _ _ hX)) (by omega) jD (by omega) (by omega) D pj)
     have Pe := aa Kt
     have N4 := aa hL
     clear Kt hL H8 q8 jD eT dE
     cases hf : kh T j with
     |true =>
      rw [hf] at vw
      have k_0 := kk
      exact bN8
     |false =>
      rw [hf] at vw zw
      have k_1 := kk
      exact bN8
    ·rw [hL] at q8 jD
     have lz := aa hN1
     rw [hN1] at cC ik c1
     have yY : (D.len : Int) - 1 = 1 := by omega
     have gh : 0 < D.len := by omega
     have np : (1 : Int) < (D.len : Int) := by omega
     have j8 : 1 < D.len := by omega
     have k_0 := kk
     exact bN9
    ·rw [hL] at q8 jD
     have lz := aa hN2
     rw [hN2] at cC ik c1
     have yY : (D.len : Int) - 1 = 2 := by omega
     have gh : 0 < D.len := by omega
     have np : (1 : Int) < (D.len : Int) := by omega
     have j8 : 1 < D.len := by omega
     have Kc : (2 : Int) < (D.len : Int) := by omega
     have D1 : 2 < D.len := by omega
     have k_1 := kk
     exact bN9
  ·have iK := aa cr
   clear cr gP
   go_wp2
   go_end0
   obtain rfl : j = T.len := by omega
   exact ⟨rfl, fI.out _ _ _ _ _ iK.out⟩
theorem Py {T : Nd} (hk : T.kind = 15) (b6 : ∀ U : Nd, U.size < T.size → lW U) : lW T := by
 intro K w0 ay s cx w v iu hE hN aq aN bh dI dP
 have bS : 0 < T.size := by rw [T.size_eq]; omega
 have hS := iu.take (by omega)
 have Ko := CT hk aN
 have aM : (bY K.F T).st cx s = re K.F T ⟨cx.ret, cx.loops, cx.outs + 1⟩ (ab s) T.len := by
  rw [bT K.F (by omega)]
  unfold stM
  rw [if_neg (by omega), if_neg (by omega), if_neg (by omega), if_neg (by omega), if_neg (by omega), if_neg (by omega), if_neg (by omega), if_neg (by omega), if_neg (by omega), if_pos hk]; rfl
 rw [aM]
 have dm := hS.ok.few
 have bB := hS.lt
 have yX := hS.ok.cl
 have cC := aa (fun o => fP T (w.alloc o) _ K.lo s.2.length hN.fine (by simp; omega) (ah (hS.box o) lr hN.row) hN.cost (by omega))
 have ik := aa (fun (w1 : World) (u : Value) (t : TypeId) hb ha => kT (w1 := w1) (T := T) (v := v) (p := s.2.length) (u := u) (t := t) hS hb ha)
 have HCA := aa (fun (w1 : World) (own1 : Option Nat) (b : Nat) (u : Value) (hg : SGo K w w1 own1 b T v u s.2.length) (W : World) (hW : SS K w1 own1 (.ok (ab s)) cx.ret cx.loops ((cx.outs : Int) + 1) W) => ER Ko b6 hE hN hg ⟨cx.ret, cx.loops, cx.outs + 1⟩ W hW bh aq (show cx.loops + T.size ≤ _ by omega) (show cx.outs + 1 + T.size ≤ _ by omega))
 have yO : cx.outs ≤ 1099511627776 := by omega
 unfold Nd.val at cC ik ⊢
 rw [hk] at cC ik ⊢
 unfold Nd.val at HCA
 rw [hk] at HCA
 have gi := aa hk
 clear aM hS iu hE hN hk aN Ko bS b6
 generalize hq : s.2.length = q at *
 have bI := jz
 go_enter Tryz.func95, Tryz.ntmps95
 go_wp2_with (first
  |(go_at_call 44; refine (cC.out _).mono ?_; rintro e w1 ⟨u, rfl, bx, hb1⟩; obtain ⟨own1, az, aZ, dR⟩ := ik.out w1 u _ hb1 bx; have HG := aa dR; have gL := aa aZ; obtain ⟨b0, b1, b2, b3⟩ := HG.out.box _ _ _ _ _ az; rw [gi.out] at b0; obtain ⟨k9, qG, pN⟩ := az.outs; have f11 := az.free 11; have l7 := aa (az.setOuts ((cx.outs : Int) + 1)); have bb := aa az; clear az aZ dR bx hb1)
  |(go_at_call 111; refine (HCA.out _ _ _ _ HG.out _ l7.out).mono ?_; rintro e w4 ⟨rfl, fH⟩; have uF := gL.out _ _ _ _ _ fH; obtain ⟨j9, j10, Qf⟩ := uF.outs; have pN : w4.cell? ⟨K.cb, 11, none⟩ = some (.int .i64 ((cx.outs : Int) + 1)) := Qf; have f11 := uF.free 11; have ya := aa (uF.setOuts cx.outs); clear fH uF j9 j10 Qf))
 go_end0
 exact ⟨rfl, ya.out⟩
end Go.Proofs.YteaocammohcgoaaGreatDoor
