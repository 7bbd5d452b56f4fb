import Derived.Test.YteaocammohcgoaaGreatDoorVKdH
set_option linter.unusedVariables false
set_option maxHeartbeats 16000000
set_option maxRecDepth 100000
namespace Go.Proofs.YteaocammohcgoaaGreatDoor
open Go.RowKit
variable {G : Prop}
theorem bK0 (h : G := by
 have k_K6_0 := kk
 exact bK6) : G := h
theorem bK1 (h : G := by
 have k_K6_1 := kk
 exact bK6) : G := h
theorem bK2 (h : G := by
 have k_K7_0 := kk
 exact bK7) : G := h
theorem bK3 (h : G := by
 have k_K7_1 := kk
 exact bK7) : G := h
theorem bK4 (h : G := by
 go_still_tail 16, bH
 go_wp2_with (go_at_call 106; refine (bF.out x1 eQ _ _ kS.out _ _ X9.out bR.out.drew).mono ?_; rintro e x4 ⟨rfl, gh⟩; have mb := aa (nJ.out _ _ _ _ _ gh); clear gh)
 refine ⟨⟨j + 1, by omega, by go_num, by rw [Yj.out], ?_⟩, by simp [intOf]; omega⟩
 rw [Kd.out]
 exact mb.out) : G := h
theorem bK5 (h : G := by
 refine ⟨⟨j + 1, by omega, by go_num, by rw [Yj.out], ?_⟩, by simp [intOf]; omega⟩
 rw [Kd.out]
 exact nJ.out _ _ _ _ _ bR.out) : G := h
theorem bK6 (h : G := by
 go_wp2
 generalize mV : wr.alloc (.cells #[.int .i64 D.kind, .int .i64 2, .string D.name, .slice (some ⟨gd, od, none⟩) D.len cd] 25) = wx
 have x0 : wx.cell? ⟨wr.heap.size, 0, none⟩ = some (.int .i64 D.kind) := by rw [← mV]; simp
 have x1 : wx.cell? ⟨wr.heap.size, 1, none⟩ = some (.int .i64 2) := by rw [← mV]; simp
 have k_K10_0 := kk
 exact OI) : G := h
theorem bK7 (h : G := by
 go_wp2
 generalize mV : wr.alloc (.cells #[.int .i64 D.kind, .int .i64 1, .string D.name, .slice (some ⟨gd, od, none⟩) D.len cd] 25) = wx
 have x0 : wx.cell? ⟨wr.heap.size, 0, none⟩ = some (.int .i64 D.kind) := by rw [← mV]; simp
 have x1 : wx.cell? ⟨wr.heap.size, 1, none⟩ = some (.int .i64 1) := by rw [← mV]; simp
 have k_K10_1 := kk
 exact OI) : G := h
theorem bK8 (h : G := by
 clear hf
 go_wp2
 generalize mV : wr.alloc (.cells #[.int .i64 D.kind, .int .i64 0, .string D.name, .slice (some ⟨gd, od, none⟩) D.len cd] 25) = wx
 have x0 : wx.cell? ⟨wr.heap.size, 0, none⟩ = some (.int .i64 D.kind) := by rw [← mV]; simp
 have x1 : wx.cell? ⟨wr.heap.size, 1, none⟩ = some (.int .i64 0) := by rw [← mV]; simp
 have k_K10_2 := kk
 exact OI) : G := h
theorem bK9 (h : G := by
 obtain ⟨ud0, fs, dI⟩ := IE 0 (by omega)
 simp only [Nat.zero_mul, Nat.add_zero] at fs
 have dP := aa fs
 have jn := aa (fun (x1 : World) (eQ : Option Nat) (b3 : Nat) (u3 : Value) (mq : SGo K wr.drew x1 eQ b3 D (.slice (some ⟨gd, od, none⟩) D.len cd) u3 pj) (X : World) (σ : CR CS) (q : Nat) (ty : Int) (hX : SS K x1 eQ σ cx.ret cx.loops cx.outs X) (ha : SAt K (D.kids 0) σ q) => px (D.kids 0) K x1 eQ σ cx.ret cx.loops cx.outs X ud0 q ty hX (mq.env Yn.out hX) ((Yk.out.kid (by omega) dI).later (mq.below _ _ _ _ _ hX)) ha dh)
 obtain ⟨ud1, eM, fN⟩ := IE 1 (by omega)
 simp only [Nat.one_mul] at eM
 have fT := aa eM
 first
 |clear k_K9_0
  have K5 := aL D (i := 1) (by omega)
  have EJ := bV D pj (i := 1) (by omega)
  have bF := aa (fun (x1 : World) (eQ : Option Nat) (b3 : Nat) (u3 : Value) (mq : SGo K wr.drew x1 eQ b3 D (.slice (some ⟨gd, od, none⟩) D.len cd) u3 pj) (X : World) (s1 : CS) (zb : s1.2.length = aW D pj 1) (hX : SS K x1 eQ (.ok s1) cx.ret cx.loops cx.outs X) => ym (T := D.kids 1) qZ (fun i hi => Ps.out _ (by have := aL (D.kids 1) hi; omega)) K x1 eQ s1 cx X ud1 (aW D pj 1) zb hX (mq.env Yn.out hX) ((Yk.out.kid (by omega) fN).later (mq.below _ _ _ _ _ hX)) (by omega) jG (by omega) (by omega) D pj)
  have ot : Hid (SAt K (D.kids 0) (.ok (ae sj)) (aW D pj 0)) := by rw [← Qx.out]; exact SAt.kid0 (by rw [Qx.out]; omega) dK (by omega)
  have QH := aa Lk
  have Py := aa hL
  have Yj : Hid (km T (j + 1) = km T j) := by unfold Hid; rw [wk.out, lG.out]; simp
  have Kd : Hid (q9 K.F T cx (ae s) (j + 1) = CR.bind (cL K (D.kids 0) 3 (.ok (ae sj))) (within (Ga D) ((b7 K.F (D.kids 1)).sts cx))) := by
   unfold Hid; rw [vR.out, Uq QH.out lG.out Py.out]
   rfl
  cases hσ : cL K (D.kids 0) 3 (.ok (ae sj)) with
  |error e0 =>
   rw [hσ] at Kd
   have oX := aa hσ
   clear hσ
   clear Lk hL IE qZ jG fs dI eM fN dh
   generalize km T j = fj at *
   cases fj with
   |true =>
    exact bK3
   |false =>
    exact bK3
  |ok s1 =>
   have Es : s1.2.length = aW D pj 1 := (by obtain ⟨q1, e1, e2⟩ := gU dh s1 hσ; injection e1 with e1; subst e1; rw [e2, aP, hpj, eS, o8])
   rw [hσ] at Kd
   have oX := aa hσ
   have X9 := aa Es
   clear hσ Es
   clear Lk hL IE qZ jG fs dI eM fN dh
   generalize km T j = fj at *
   cases fj with
   |true =>
    exact bK2
   |false =>
    exact bK2
 |clear k_K9_1
  have sB := aa (fun (x1 : World) (eQ : Option Nat) (b3 : Nat) (u3 : Value) (mq : SGo K wr.drew x1 eQ b3 D (.slice (some ⟨gd, od, none⟩) D.len cd) u3 pj) (X : World) (σ : CR CS) (q : Nat) (ty : Int) (hX : SS K x1 eQ σ cx.ret cx.loops cx.outs X) (ha : SAt K (D.kids 1) σ q) => px (D.kids 1) K x1 eQ σ cx.ret cx.loops cx.outs X ud1 q ty hX (mq.env Yn.out hX) ((Yk.out.kid (by omega) fN).later (mq.below _ _ _ _ _ hX)) ha j5)
  obtain ⟨ud2, iG, jk⟩ := IE 2 (by omega)
  simp only [Nat.reduceMul] at iG
  have nI := aa iG
  have K5 := aL D (i := 2) (by omega)
  have EJ := bV D pj (i := 2) (by omega)
  have bF := aa (fun (x1 : World) (eQ : Option Nat) (b3 : Nat) (u3 : Value) (mq : SGo K wr.drew x1 eQ b3 D (.slice (some ⟨gd, od, none⟩) D.len cd) u3 pj) (X : World) (s1 : CS) (zb : s1.2.length = aW D pj 2) (hX : SS K x1 eQ (.ok s1) cx.ret cx.loops cx.outs X) => ym (T := D.kids 2) qZ (fun i hi => Ps.out _ (by have := aL (D.kids 2) hi; omega)) K x1 eQ s1 cx X ud2 (aW D pj 2) zb hX (mq.env Yn.out hX) ((Yk.out.kid (by omega) jk).later (mq.below _ _ _ _ _ hX)) (by omega) jG (by omega) (by omega) D pj)
  have ot : Hid (SAt K (D.kids 0) (.ok (ae sj)) (aW D pj 0)) := by rw [← Qx.out]; exact SAt.kid0 (by rw [Qx.out]; omega) dK (by omega)
  have Gu := aa (SAt.next (τ := cL K (D.kids 0) 3 (.ok (ae sj))) ot.out (by omega) (by omega) dK (gU dh))
  have QH := aa Lk
  have Py := aa hL
  have Yj : Hid (km T (j + 1) = km T j) := by unfold Hid; rw [wk.out, lG.out]; simp
  have Kd : Hid (q9 K.F T cx (ae s) (j + 1) = CR.bind (cL K (D.kids 1) 1 (cL K (D.kids 0) 3 (.ok (ae sj)))) (within (Ga D) ((b7 K.F (D.kids 2)).sts cx))) := by
   unfold Hid; rw [vR.out, Up QH.out lG.out Py.out]
   show _ = CR.bind (CR.bind (aE (bP K.F (D.kids 0)) 3 (ae sj)) (aE (bP K.F (D.kids 1)) 1)) _
   cases aE (bP K.F (D.kids 0)) 3 (ae sj) <;> rfl
  cases hσ : cL K (D.kids 1) 1 (cL K (D.kids 0) 3 (.ok (ae sj))) with
  |error e0 =>
   rw [hσ] at Kd
   have oX := aa hσ
   clear hσ
   clear Lk hL IE qZ jG fs dI eM fN iG jk dh j5
   generalize km T j = fj at *
   cases fj with
   |true =>
    exact bK1
   |false =>
    exact bK1
  |ok s1 =>
   have Es : s1.2.length = aW D pj 2 := (by obtain ⟨q2, e3, e4⟩ := gU j5 s1 hσ; obtain ⟨q1, e1, e2⟩ := gU dh q2 e3; injection e1 with e1; subst e1; rw [e4, e2, aP, hpj, eS, eS, o8])
   rw [hσ] at Kd
   have oX := aa hσ
   have X9 := aa Es
   clear hσ Es
   clear Lk hL IE qZ jG fs dI eM fN iG jk dh j5
   generalize km T j = fj at *
   cases fj with
   |true =>
    exact bK0
   |false =>
    exact bK0) : G := h
theorem OI (h : G := by
 have x2 : wx.cell? ⟨wr.heap.size, 2, none⟩ = some (.string D.name) := by rw [← mV]; simp
 have x3 : wx.cell? ⟨wr.heap.size, 3, none⟩ = some (.slice (some ⟨gd, od, none⟩) D.len cd) := by rw [← mV]; simp
 have xa : wx.cell? ⟨ga, oa + j, none⟩ = some (.int .i64 (pj : Nat)) := by rw [← mV]; exact (World.cell?_alloc_past _ _ _ Tt).trans an
 first
 |clear k_K10_0
  have vV := aa (cM.out (.cells #[.int .i64 D.kind, .int .i64 2, .string D.name, .slice (some ⟨gd, od, none⟩) D.len cd] 25))
  rw [mV] at vV
  have yu := aa mV
  clear mV
  go_still_tail 5, bH
  go_wp2_with (go_at_call 44; refine vV.out.mono ?_; rintro e x1 ⟨u1, rfl, bz, hb1⟩; rw [← yu.out] at bz hb1; obtain ⟨eQ, aD, bb, dG⟩ := iw.out x1 u1 _ hb1 bz; obtain ⟨ga1, oa1, ca1, rfl, NB, vf⟩ := dG.ats (by omega); have kS := aa dG; have jI := aa vf; have nJ := aa bb; obtain ⟨b0, b1, b2, b3⟩ := (show x1.cell? ⟨wr.heap.size, 0, none⟩ = _ ∧ x1.cell? ⟨wr.heap.size, 1, none⟩ = _ ∧ x1.cell? ⟨wr.heap.size, 2, none⟩ = _ ∧ x1.cell? ⟨wr.heap.size, 3, none⟩ = _ from kS.out.box _ _ _ _ _ aD); rw [lG.out] at b1; have an := gO.out _ _ _ _ _ (nJ.out _ _ _ _ _ aD); have a0 := jI.out _ _ _ _ _ aD 0 (by omega); rw [Nat.add_zero] at a0; obtain ⟨eA, ez, ey, ew⟩ := dP.out _ (kS.out.below _ _ _ _ _ aD); have a1 := jI.out _ _ _ _ _ aD 1 (by omega); obtain ⟨gS, gN, gR, gM⟩ := fT.out _ (kS.out.below _ _ _ _ _ aD); have a2 := jI.out _ _ _ _ _ aD 2 (by omega); obtain ⟨rh, re, oN, oM⟩ := nI.out _ (kS.out.below _ _ _ _ _ aD); have k5 := aD.code0; have bh := aa aD; clear aD bb dG vf bz hb1)
  go_still_tail 8, bH
  go_wp2_with (go_at_call 109; refine (jn.out x1 eQ _ _ kS.out _ _ _ _ bh.out.drew ot.out).mono ?_; rintro e x3 ⟨rfl, bY⟩; obtain ⟨b0, b1, b2, b3⟩ := (show x3.cell? ⟨wr.heap.size, 0, none⟩ = _ ∧ x3.cell? ⟨wr.heap.size, 1, none⟩ = _ ∧ x3.cell? ⟨wr.heap.size, 2, none⟩ = _ ∧ x3.cell? ⟨wr.heap.size, 3, none⟩ = _ from kS.out.box _ _ _ _ _ bY); rw [lG.out] at b1; have an := gO.out _ _ _ _ _ (nJ.out _ _ _ _ _ bY); have a0 := jI.out _ _ _ _ _ bY 0 (by omega); rw [Nat.add_zero] at a0; obtain ⟨eA, ez, ey, ew⟩ := dP.out _ (kS.out.below _ _ _ _ _ bY); have a1 := jI.out _ _ _ _ _ bY 1 (by omega); obtain ⟨gS, gN, gR, gM⟩ := fT.out _ (kS.out.below _ _ _ _ _ bY); have a2 := jI.out _ _ _ _ _ bY 2 (by omega); obtain ⟨rh, re, oN, oM⟩ := nI.out _ (kS.out.below _ _ _ _ _ bY); have e7 := aa bY; clear bY)
  go_still_tail 8, bH
  first
  |clear k_K6_0
   go_wp2_with (go_at_call 109; refine (sB.out x1 eQ _ _ kS.out _ _ _ _ e7.out.drew Gu.out).mono ?_; rintro e x2 ⟨rfl, aC⟩; rw [oX.out] at aC; obtain ⟨b0, b1, b2, b3⟩ := (show x2.cell? ⟨wr.heap.size, 0, none⟩ = _ ∧ x2.cell? ⟨wr.heap.size, 1, none⟩ = _ ∧ x2.cell? ⟨wr.heap.size, 2, none⟩ = _ ∧ x2.cell? ⟨wr.heap.size, 3, none⟩ = _ from kS.out.box _ _ _ _ _ aC); rw [lG.out] at b1; have an := gO.out _ _ _ _ _ (nJ.out _ _ _ _ _ aC); have a0 := jI.out _ _ _ _ _ aC 0 (by omega); rw [Nat.add_zero] at a0; obtain ⟨eA, ez, ey, ew⟩ := dP.out _ (kS.out.below _ _ _ _ _ aC); have a1 := jI.out _ _ _ _ _ aC 1 (by omega); obtain ⟨gS, gN, gR, gM⟩ := fT.out _ (kS.out.below _ _ _ _ _ aC); have a2 := jI.out _ _ _ _ _ aC 2 (by omega); obtain ⟨rh, re, oN, oM⟩ := nI.out _ (kS.out.below _ _ _ _ _ aC); have k5 := aC.code0; have bR := aa aC; clear aC)
   exact bK4
  |clear k_K6_1
   go_wp2_with (go_at_call 109; refine (sB.out x1 eQ _ _ kS.out _ _ _ _ e7.out.drew Gu.out).mono ?_; rintro e x2 ⟨rfl, aC⟩; rw [oX.out] at aC; obtain ⟨b0, b1, b2, b3⟩ := (show x2.cell? ⟨wr.heap.size, 0, none⟩ = _ ∧ x2.cell? ⟨wr.heap.size, 1, none⟩ = _ ∧ x2.cell? ⟨wr.heap.size, 2, none⟩ = _ ∧ x2.cell? ⟨wr.heap.size, 3, none⟩ = _ from kS.out.box _ _ _ _ _ aC); rw [lG.out] at b1; have an := gO.out _ _ _ _ _ (nJ.out _ _ _ _ _ aC); have a0 := jI.out _ _ _ _ _ aC 0 (by omega); rw [Nat.add_zero] at a0; obtain ⟨eA, ez, ey, ew⟩ := dP.out _ (kS.out.below _ _ _ _ _ aC); have a1 := jI.out _ _ _ _ _ aC 1 (by omega); obtain ⟨gS, gN, gR, gM⟩ := fT.out _ (kS.out.below _ _ _ _ _ aC); have a2 := jI.out _ _ _ _ _ aC 2 (by omega); obtain ⟨rh, re, oN, oM⟩ := nI.out _ (kS.out.below _ _ _ _ _ aC); obtain ⟨code, k5, hz⟩ := aC.code1; have bR := aa aC; clear aC)
   exact bK5
 |clear k_K10_1
  have vV := aa (cM.out (.cells #[.int .i64 D.kind, .int .i64 1, .string D.name, .slice (some ⟨gd, od, none⟩) D.len cd] 25))
  rw [mV] at vV
  have yu := aa mV
  clear mV
  go_still_tail 5, bH
  go_wp2_with (go_at_call 44; refine vV.out.mono ?_; rintro e x1 ⟨u1, rfl, bz, hb1⟩; rw [← yu.out] at bz hb1; obtain ⟨eQ, aD, bb, dG⟩ := iw.out x1 u1 _ hb1 bz; obtain ⟨ga1, oa1, ca1, rfl, NB, vf⟩ := dG.ats (by omega); have kS := aa dG; have jI := aa vf; have nJ := aa bb; obtain ⟨b0, b1, b2, b3⟩ := (show x1.cell? ⟨wr.heap.size, 0, none⟩ = _ ∧ x1.cell? ⟨wr.heap.size, 1, none⟩ = _ ∧ x1.cell? ⟨wr.heap.size, 2, none⟩ = _ ∧ x1.cell? ⟨wr.heap.size, 3, none⟩ = _ from kS.out.box _ _ _ _ _ aD); rw [lG.out] at b1; have an := gO.out _ _ _ _ _ (nJ.out _ _ _ _ _ aD); have a0 := jI.out _ _ _ _ _ aD 0 (by omega); rw [Nat.add_zero] at a0; obtain ⟨eA, ez, ey, ew⟩ := dP.out _ (kS.out.below _ _ _ _ _ aD); have a1 := jI.out _ _ _ _ _ aD 1 (by omega); obtain ⟨gS, gN, gR, gM⟩ := fT.out _ (kS.out.below _ _ _ _ _ aD); have k5 := aD.code0; have bh := aa aD; clear aD bb dG vf bz hb1)
  go_still_tail 8, bH
  first
  |clear k_K7_0
   go_wp2_with (go_at_call 109; refine (jn.out x1 eQ _ _ kS.out _ _ _ _ bh.out.drew ot.out).mono ?_; rintro e x2 ⟨rfl, aC⟩; rw [oX.out] at aC; obtain ⟨b0, b1, b2, b3⟩ := (show x2.cell? ⟨wr.heap.size, 0, none⟩ = _ ∧ x2.cell? ⟨wr.heap.size, 1, none⟩ = _ ∧ x2.cell? ⟨wr.heap.size, 2, none⟩ = _ ∧ x2.cell? ⟨wr.heap.size, 3, none⟩ = _ from kS.out.box _ _ _ _ _ aC); rw [lG.out] at b1; have an := gO.out _ _ _ _ _ (nJ.out _ _ _ _ _ aC); have a0 := jI.out _ _ _ _ _ aC 0 (by omega); rw [Nat.add_zero] at a0; obtain ⟨eA, ez, ey, ew⟩ := dP.out _ (kS.out.below _ _ _ _ _ aC); have a1 := jI.out _ _ _ _ _ aC 1 (by omega); obtain ⟨gS, gN, gR, gM⟩ := fT.out _ (kS.out.below _ _ _ _ _ aC); have k5 := aC.code0; have bR := aa aC; clear aC)
   exact bK4
  |clear k_K7_1
   go_wp2_with (go_at_call 109; refine (jn.out x1 eQ _ _ kS.out _ _ _ _ bh.out.drew ot.out).mono ?_; rintro e x2 ⟨rfl, aC⟩; rw [oX.out] at aC; obtain ⟨b0, b1, b2, b3⟩ := (show x2.cell? ⟨wr.heap.size, 0, none⟩ = _ ∧ x2.cell? ⟨wr.heap.size, 1, none⟩ = _ ∧ x2.cell? ⟨wr.heap.size, 2, none⟩ = _ ∧ x2.cell? ⟨wr.heap.size, 3, none⟩ = _ from kS.out.box _ _ _ _ _ aC); rw [lG.out] at b1; have an := gO.out _ _ _ _ _ (nJ.out _ _ _ _ _ aC); have a0 := jI.out _ _ _ _ _ aC 0 (by omega); rw [Nat.add_zero] at a0; obtain ⟨eA, ez, ey, ew⟩ := dP.out _ (kS.out.below _ _ _ _ _ aC); have a1 := jI.out _ _ _ _ _ aC 1 (by omega); obtain ⟨gS, gN, gR, gM⟩ := fT.out _ (kS.out.below _ _ _ _ _ aC); obtain ⟨code, k5, hz⟩ := aC.code1; have bR := aa aC; clear aC)
   exact bK5
 |clear k_K10_2
  have vV := aa (cM.out (.cells #[.int .i64 D.kind, .int .i64 0, .string D.name, .slice (some ⟨gd, od, none⟩) D.len cd] 25))
  rw [mV] at vV
  have yu := aa mV
  clear mV
  go_still_tail 5, bH
  go_wp2_with (go_at_call 44; refine vV.out.mono ?_; rintro e x1 ⟨u1, rfl, bz, hb1⟩; rw [← yu.out] at bz hb1; obtain ⟨eQ, aD, bb, dG⟩ := iw.out x1 u1 _ hb1 bz; obtain ⟨ga1, oa1, ca1, rfl, NB, vf⟩ := dG.ats (by omega); have kS := aa dG; have jI := aa vf; have nJ := aa bb; obtain ⟨b0, b1, b2, b3⟩ := (show x1.cell? ⟨wr.heap.size, 0, none⟩ = _ ∧ x1.cell? ⟨wr.heap.size, 1, none⟩ = _ ∧ x1.cell? ⟨wr.heap.size, 2, none⟩ = _ ∧ x1.cell? ⟨wr.heap.size, 3, none⟩ = _ from kS.out.box _ _ _ _ _ aD); rw [lG.out] at b1; have an := gO.out _ _ _ _ _ (nJ.out _ _ _ _ _ aD); have a0 := jI.out _ _ _ _ _ aD 0 (by omega); rw [Nat.add_zero] at a0; obtain ⟨eA, ez, ey, ew⟩ := dP.out _ (kS.out.below _ _ _ _ _ aD); have k5 := aD.code0; have bh := aa aD; clear aD bb dG vf bz hb1)
  first
  |clear k_K8_0
   go_wp2_with (go_at_call 46; refine (dO bh.out 6 (by decide) pj).mono ?_; rintro e x4 ⟨rfl, gh⟩; have mb := aa (jZ.out _ _ _ _ _ (nJ.out _ _ _ _ _ gh)); clear gh)
   first | go_end0 | refine bodyPost_ret (results_none rfl _ _ _) rfl ?_
   refine ⟨rfl, ?_⟩
   rw [pd (e := (6, pj)) (by rw [vR.out, Lv QH.out lG.out, Qx.out]) (show j + 1 ≤ T.len by omega)]
   exact mb.out
  |clear k_K8_1
   go_still_tail 16, bH
   go_wp2_with (go_at_call 106; refine (bF.out x1 eQ _ _ kS.out _ _ (by rw [aP, Qx.out]; rfl) bh.out.drew).mono ?_; rintro e x4 ⟨rfl, gh⟩; have mb := aa (nJ.out _ _ _ _ _ gh); clear gh)
   refine ⟨⟨j + 1, by omega, by go_num, by rw [wk.out, lG.out]; rfl, ?_⟩, by simp [intOf]; omega⟩
   rw [vR.out, Lu QH.out lG.out Py.out]
   exact mb.out) : G := h
def Ga (T : Nd) : List (ByteArray × Int) := if ao T.name then [] else [(T.name, 1)]
theorem vy {s : ByteArray} (h : ao s = true) : s = ⟨#[]⟩ := by
 have h1 : s.toList = [] := by simpa [ao] using h
 rw [ByteArray.toList_eq] at h1
 have h2 : s.data = #[] := by simpa using h1
 cases s; simp_all
theorem Jq {T : Nd} (h4 : T.kind = 4) (ih : ∀ i, i < T.len → l9 (T.kids i)) (K : SK) (w0 : World) (az : Option Nat) (s : CS) (cx : Cx) (w : World) (v : Value) (hS : SS K w0 az (.ok s) cx.ret cx.loops cx.outs w) (hE : SEnv K w) (hN : SNd K w T v) (ay : s.2.length + T.size ≤ K.N) (aS : T.sOk = true) (hl : cx.loops + T.size ≤ 1099511627776) (ho : cx.outs + T.size ≤ 1099511627776) (C : Nd) (na : Nat) :
  Calls Tryz.prog 106 #[.pointer (some ⟨K.cb, 0, none⟩), T.val v, .int .i64 s.2.length, .string C.name, .int .i64 na] w fun e w' => e = .returned (.tuple #[]) ∧ SS K w0 az (within (Ga C) ((b7 K.F T).sts cx) s) cx.ret cx.loops cx.outs w' := by
 unfold Ga
 cases he : ao C.name with
 |true => rw [vy he]; exact Fu h4 ih K w0 az s cx w v hS hE hN ay aS hl ho na
 |false => exact Of h4 ih K w0 az s cx w v hS hE hN ay aS hl ho C.name na he
theorem Lv {F C : Nd} {cx : Cx} {s : CS} (hk : C.kind = 16) (hn : C.num = 0) : (b7 F C).cs true cx s = .error (6, s.2.length) := by
 rw [qn F (by omega)]; unfold Gj; rw [if_pos ⟨hn, rfl⟩]
theorem Lu {F C : Nd} {cx : Cx} {s : CS} (hk : C.kind = 16) (hn : C.num = 0) (hl : C.len = 1) : (b7 F C).cs false cx s = within (Ga C) ((b7 F (C.kids 0)).sts cx) (ae s) := by
 rw [qn F (by omega)]; unfold Gj; rw [if_neg (by simp), if_neg (by omega), CR.bind_ok, if_neg (by omega), CR.bind_ok, hl]; rfl
theorem Uq {F C : Nd} {cx : Cx} {s : CS} {f : Bool} (hk : C.kind = 16) (hn : C.num = 1) (hl : C.len = 2) : (b7 F C).cs f cx s = CR.bind (aE (bP F (C.kids 0)) 3 (ae s)) (within (Ga C) ((b7 F (C.kids 1)).sts cx)) := by
 rw [qn F (by omega)]; unfold Gj; rw [if_neg (by omega), if_pos (by omega)]
 cases aE (bP F (C.kids 0)) 3 (ae s) with
 |error e => rfl
 |ok s1 => simp only [CR.bind_ok]; rw [if_neg (by omega), CR.bind_ok, hl]; rfl
theorem Up {F C : Nd} {cx : Cx} {s : CS} {f : Bool} (hk : C.kind = 16) (hn : C.num = 2) (hl : C.len = 3) : (b7 F C).cs f cx s = CR.bind (aE (bP F (C.kids 0)) 3 (ae s)) (fun s1 => CR.bind (aE (bP F (C.kids 1)) 1 s1) (within (Ga C) ((b7 F (C.kids 2)).sts cx))) := by
 rw [qn F (by omega)]; unfold Gj; rw [if_neg (by omega), if_pos (by omega)]
 cases aE (bP F (C.kids 0)) 3 (ae s) with
 |error e => rfl
 |ok s1 => simp only [CR.bind_ok]; rw [if_pos hn, hl]; rfl
def km (T : Nd) (j : Nat) : Bool := fQ (fun i => decide ((T.kids i).num = 0)) j
def q9 (F T : Nd) (cx : Cx) (s : CS) (j : Nat) : CR CS := forN (fun i => (b7 F (T.kids i)).cs (km T i) cx) j s
theorem qo (F T : Nd) (cx : Cx) (s : CS) (j : Nat) : q9 F T cx s (j + 1) = CR.bind (q9 F T cx s j) ((b7 F (T.kids j)).cs (km T j) cx) := rfl
theorem pd {F T : Nd} {cx : Cx} {s : CS} {j : Nat} {e : Int × Nat} (h : q9 F T cx s j = .error e) : ∀ {n : Nat}, j ≤ n → q9 F T cx s n = .error e := by
 intro n hn
 induction hn with
 |refl => exact h
 |step _ ih => rw [qo, ih]; rfl
theorem Fk {F T : Nd} {cx : Cx} {s : CS} (aS : ∀ i, i < T.len → (T.kids i).cOk = true) (hs : s.1 ≠ []) : ∀ {j : Nat}, j ≤ T.len → ∀ s', q9 F T cx (ae s) j = .ok s' → s'.2.length = aW T s.2.length j ∧ s'.1 ≠ [] := by
 intro j hj s' e
 have := (StL.forN (g := fun i => (T.kids i).size) (fun i hi => (iz F (T.kids i)).cs (aS i hi) _ _) hj) (ae s) s' hs e
 obtain ⟨r1, r2, r3, r4⟩ := this
 refine ⟨by rw [r3, aP]; unfold aW; rfl, fun h => ?_⟩
 rw [h] at r2
 exact hs (List.length_eq_zero_iff.1 r2.symm)
theorem ym {T : Nd} (h4 : T.kind = 4) (ih : ∀ i, i < T.len → l9 (T.kids i)) (K : SK) (w0 : World) (az : Option Nat) (s : CS) (cx : Cx) (w : World) (v : Value) (p : Nat) (hp : s.2.length = p) (hS : SS K w0 az (.ok s) cx.ret cx.loops cx.outs w) (hE : SEnv K w) (hN : SNd K w T v) (ay : p + T.size ≤ K.N) (aS : T.sOk = true) (hl : cx.loops + T.size ≤ 1099511627776) (ho : cx.outs + T.size ≤ 1099511627776) (C : Nd) (na : Nat) :
  Calls Tryz.prog 106 #[.pointer (some ⟨K.cb, 0, none⟩), T.val v, .int .i64 p, .string C.name, .int .i64 na] w fun e w' => e = .returned (.tuple #[]) ∧ SS K w0 az (within (Ga C) ((b7 K.F T).sts cx) s) cx.ret cx.loops cx.outs w' := by
 subst hp
 exact Jq h4 ih K w0 az s cx w v hS hE hN ay aS hl ho C na
theorem Fo {T : Nd} {K : SK} {w w1 : World} {own1 : Option Nat} {b : Nat} {v u : Value} {s : CS} (aS : ∀ i, i < T.len → (T.kids i).cOk = true) (cg : ∀ U : Nd, U.size < T.size → l9 U) (hE : SEnv K w) (hN : SNd K w T v) (hg : SGo K w w1 own1 b T v u s.2.length) (cx : Cx) (W : World) (hS : SS K w1 own1 (.ok (ae s)) cx.ret cx.loops cx.outs W)
  (bZ : s.1 ≠ []) (ay : s.2.length + T.size ≤ K.N) (hl : cx.loops + T.size ≤ 1099511627776 + 1) (ho : cx.outs + T.size ≤ 1099511627776 + 1) :
  Calls Tryz.prog 111 #[.pointer (some ⟨K.cb, 0, none⟩), T.val v, u] W fun e w' => e = .returned (.tuple #[]) ∧ SS K w1 own1 (q9 K.F T cx (ae s) T.len) cx.ret cx.loops cx.outs w' := by
 have hn := T.fine_len hN.fine
 have dK := hS.ok.few
 obtain ⟨a, cap, hv, cr, hq⟩ := aH.1 hN.row
 subst hv
 obtain ⟨qS, bY, dS, xL⟩ := hS.boxed (nO T (.slice a T.len cap))
 have e7 := aa bY
 have jZ := aa dS
 have cP := aa xL
 have HG := aa hg
 have Ct := aa hE
 have LG := aa hN
 have oY := aa aS
 have Ps := aa cg
 have HCT := aa (fun j (hj : j ≤ T.len) => Fk (F := K.F) (cx := cx) aS bZ hj)
 have kM := aa (fun (h0 : T.len ≠ 0) => dq hN.row h0)
 have HKA := aa (fun i (h : i < T.len) => bV T s.2.length h)
 have LH := aa (fun i (h : i < T.len) => aL T h)
 have bH := jK
 clear bY dS xL hg hE hN aS cg hS hq
 unfold Nd.val
 generalize hp : s.2.length = p at *
 go_enter Tryz.func111, Tryz.ntmps111
 go_wp2
 go_loopw [6, 7] (fun fd i wr => ∃ j : Nat, j ≤ T.len ∧ i = .int .i64 j ∧ fd = .bool (km T j) ∧ SS K (W.alloc (nO T (.slice a T.len cap))) qS (q9 K.F T cx (ae s) j) cx.ret cx.loops cx.outs wr) (fun _ i _ => T.len - (intOf i).toNat)
 case atStart => exact ⟨0, Nat.zero_le _, rfl, rfl, e7.out⟩
 case round =>
  obtain ⟨j, hj, rfl, rfl, cy⟩ := hrel
  have gE := jZ.out _ _ _ _ _ cy
  have Cj := cP.out _ _ _ _ _ cy
  have n3 : wr.cell? ⟨W.heap.size, 3, none⟩ = some (.slice a T.len cap) := by simp [World.cell?, Cj]
  clear Cj
  by_cases bN : j < T.len
  ·have La : (j : Int) < (T.len : Int) := by omega
   obtain ⟨g, off, mQ, mh, iM, rZ, aV⟩ := kM.out (by omega)
   injection mh with vw Lq vu
   subst vw
   subst vu
   obtain ⟨ga, oa, ca, So, nL, fc⟩ := HG.out.ats (by omega)
   subst So
   obtain ⟨ud, kK, jJ⟩ := aV j bN
   cases hq : q9 K.F T cx (ae s) j with
   |error e0 =>
    rw [hq] at cy
    obtain ⟨code, k5, hz⟩ := cy.code1
    have iu := aa cy
    have HQ := aa hq
    clear cy hq aV kK jJ fc gE
    go_wp2
    go_end0
    refine ⟨rfl, ?_⟩
    rw [pd HQ.out hj]
    exact jZ.out _ _ _ _ _ iu.out
   |ok sj =>
    obtain ⟨hpj, hsj⟩ := HCT.out j hj sj hq
    rw [hq] at cy
    have k5 := cy.code0
    have fy := HG.out.below _ _ _ _ _ gE
    obtain ⟨c0, c1, c2, c3⟩ := kK _ fy
    have an := fc _ _ _ _ _ gE j bN
    have Tt := World.block_lt_of_cell? wr ⟨ga, oa + j, none⟩ an
    dsimp only at Tt
    have IF := HKA.out j bN
    have ia := LH.out j bN
    have Qj := (LG.out.kid bN jJ).later fy.drew
    have hEd := Ct.out.later fy.drew
    have Ug : ∀ X σ r l o, SS K (W.alloc (nO T (.slice (some ⟨g, off, none⟩) T.len cap))) qS σ r l o X → X.cell? ⟨ga, oa + j, none⟩ = some (.int .i64 (aW T p j : Nat)) := fun X σ r l o h => fc _ _ _ _ _ (jZ.out _ _ _ _ _ h) j bN
    obtain ⟨Lk, hDn, qZ, jG⟩ := zH (oY.out j bN)
    have hD1 : (T.kids j).len ≠ 0 := by rcases hDn with h | h | h <;> omega
    obtain ⟨gd, od, cd, hvd, hgd, hcd, IE⟩ := dq Qj.row hD1
    subst hvd
    have Is : 0 < (T.kids j).size := by rw [(T.kids j).size_eq]; omega
    have hsd := (cy.take (by omega)).drew
    have zr := cy.ok.cl
    have hwl := cy.lt
    have Gm := aa hsd
    have cM : Hid (∀ o, Calls Tryz.prog 44 #[(T.kids j).val (.slice (some ⟨gd, od, none⟩) (T.kids j).len cd), .int .i64 (aW T p j : Nat)] ((wr.alloc o).drew) fun e w' => ∃ u, e = .returned u ∧ Kw w' (wr.alloc o).heap.size u (T.kids j).len (fun i => (aW (T.kids j) (aW T p j) i : Int)) ∧ Below (wr.alloc o).heap.size ((wr.alloc o).drew) w') := fun o => ib (T.kids j) ((wr.alloc o).drew) _ K.lo (aW T p j) Qj.fine (by show K.lo ≤ (wr.alloc o).heap.size; simp; omega) (ah (hsd.box o) lr Qj.row) Qj.cost (by omega)
    have iw := aa (fun (x1 : World) (u : Value) (t : TypeId) hb ha => kZ (w1 := x1) (T := T.kids j) (v := .slice (some ⟨gd, od, none⟩) (T.kids j).len cd) (p := aW T p j) (u := u) (t := t) hsd hb ha)
    have HQ := aa hq
    have HSJ := aa hsj
    have Qx := aa hpj
    have vR : Hid (q9 K.F T cx (ae s) (j + 1) = (b7 K.F (T.kids j)).cs (km T j) cx sj) := by unfold Hid; rw [qo, hq]; rfl
    have wk : Hid (km T (j + 1) = (km T j || decide ((T.kids j).num = 0))) := rfl
    have gO := aa Ug
    have Yk := aa Qj
    have Yn := aa hEd
    have hDf := Nd.fine_len Qj.fine
    clear cy hq kK jJ fc gE fy Ug aV
    unfold Nd.val at cM
    generalize T.kids j = D at *
    generalize aW T p j = pj at *
    rcases hDn with ⟨hN0, hL⟩ | ⟨hN1, hL, dh⟩ | ⟨hN2, hL, dh, j5⟩
    ·rw [hL] at qZ jG
     have lG := aa hN0
     rw [hN0] at cM iw c1
     have Bx : (D.len : Int) - 1 = 0 := by omega
     have iB : 0 < D.len := by omega
     obtain ⟨ud0, fs, dI⟩ := IE 0 (by omega)
     simp only [Nat.zero_mul, Nat.add_zero] at fs
     have dP := aa fs
     have K5 := aL D (i := 0) (by omega)
     have EJ := bV D pj (i := 0) (by omega)
     have bF := aa (fun (x1 : World) (eQ : Option Nat) (b3 : Nat) (u3 : Value) (mq : SGo K wr.drew x1 eQ b3 D (.slice (some ⟨gd, od, none⟩) D.len cd) u3 pj) (X : World) (s1 : CS) (zb : s1.2.length = aW D pj 0) (hX : SS K x1 eQ (.ok s1) cx.ret cx.loops cx.outs X) => ym (T := D.kids 0) qZ (fun i hi => Ps.out _ (by have := aL (D.kids 0) hi; omega)) K x1 eQ s1 cx X ud0 (aW D pj 0) zb hX (mq.env Yn.out hX) ((Yk.out.kid (by omega) dI).later (mq.below _ _ _ _ _ hX)) (by omega) jG (by omega) (by omega) D pj)
     have QH := aa Lk
     have Py := aa hL
     clear Lk hL IE qZ jG fs dI
     cases hf : km T j with
     |true =>
      rw [hf] at vR
      have k_K8_0 := kk
      exact bK8
     |false =>
      rw [hf] at vR wk
      have k_K8_1 := kk
      exact bK8
    ·rw [hL] at qZ jG
     have lG := aa hN1
     rw [hN1] at cM iw c1
     have Bx : (D.len : Int) - 1 = 1 := by omega
     have iB : 0 < D.len := by omega
     have rS : (1 : Int) < (D.len : Int) := by omega
     have nY : 1 < D.len := by omega
     have k_K9_0 := kk
     exact bK9
    ·rw [hL] at qZ jG
     have lG := aa hN2
     rw [hN2] at cM iw c1
     have Bx : (D.len : Int) - 1 = 2 := by omega
     have iB : 0 < D.len := by omega
     have rS : (1 : Int) < (D.len : Int) := by omega
     have nY : 1 < D.len := by omega
     have SU : (2 : Int) < (D.len : Int) := by omega
     have Nf : 2 < D.len := by omega
     have k_K9_1 := kk
     exact bK9
  ·have iu := aa cy
   clear cy gE
   go_wp2
   go_end0
   obtain rfl : j = T.len := by omega
   exact ⟨rfl, jZ.out _ _ _ _ _ iu.out⟩
theorem Q1 {T : Nd} (hk : T.kind = 15) (cg : ∀ U : Nd, U.size < T.size → l9 U) : l9 T := by
 intro K w0 az s cx w v mr hE hN ay aS bZ gn gD
 have b8 : 0 < T.size := by rw [T.size_eq]; omega
 have hS := mr.take (by omega)
 have Le := Dj hk aS
 have aM : (b7 K.F T).st cx s = q9 K.F T ⟨cx.ret, cx.loops, cx.outs + 1⟩ (ae s) T.len := by
  rw [bT K.F (by omega)]
  unfold stM
  rw [if_neg (by omega), if_neg (by omega), if_neg (by omega), if_neg (by omega), if_neg (by omega), if_neg (by omega), if_neg (by omega), if_neg (by omega), if_neg (by omega), if_pos hk]; rfl
 rw [aM]
 have dK := hS.ok.few
 have bN := hS.lt
 have zr := hS.ok.cl
 have cM := aa (fun o => ib T (w.alloc o) _ K.lo s.2.length hN.fine (by simp; omega) (ah (hS.box o) lr hN.row) hN.cost (by omega))
 have iw := aa (fun (w1 : World) (u : Value) (t : TypeId) hb ha => kZ (w1 := w1) (T := T) (v := v) (p := s.2.length) (u := u) (t := t) hS hb ha)
 have HCA := aa (fun (w1 : World) (own1 : Option Nat) (b : Nat) (u : Value) (hg : SGo K w w1 own1 b T v u s.2.length) (W : World) (hW : SS K w1 own1 (.ok (ae s)) cx.ret cx.loops ((cx.outs : Int) + 1) W) => Fo Le cg hE hN hg ⟨cx.ret, cx.loops, cx.outs + 1⟩ W hW bZ ay (show cx.loops + T.size ≤ _ by omega) (show cx.outs + 1 + T.size ≤ _ by omega))
 have Bi : cx.outs ≤ 1099511627776 := by omega
 unfold Nd.val at cM iw ⊢
 rw [hk] at cM iw ⊢
 unfold Nd.val at HCA
 rw [hk] at HCA
 have gr := aa hk
 clear aM hS mr hE hN hk aS Le b8 cg
 generalize hq : s.2.length = q at *
 have bH := jK
 go_enter Tryz.func95, Tryz.ntmps95
 go_wp2_with (first
  |(go_at_call 44; refine (cM.out _).mono ?_; rintro e w1 ⟨u, rfl, bz, hb1⟩; obtain ⟨own1, aD, bb, dG⟩ := iw.out w1 u _ hb1 bz; have HG := aa dG; have gK := aa bb; obtain ⟨b0, b1, b2, b3⟩ := HG.out.box _ _ _ _ _ aD; rw [gr.out] at b0; obtain ⟨k9, qK, pR⟩ := aD.outs; have f11 := aD.free 11; have mY := aa (aD.setOuts ((cx.outs : Int) + 1)); have bh := aa aD; clear aD bb dG bz hb1)
  |(go_at_call 111; refine (HCA.out _ _ _ _ HG.out _ mY.out).mono ?_; rintro e w4 ⟨rfl, gh⟩; have tR := gK.out _ _ _ _ _ gh; obtain ⟨j9, j10, Ry⟩ := tR.outs; have pR : w4.cell? ⟨K.cb, 11, none⟩ = some (.int .i64 ((cx.outs : Int) + 1)) := Ry; have f11 := tR.free 11; have oO := aa (tR.setOuts cx.outs); clear gh tR j9 j10 Ry))
 go_end0
 exact ⟨rfl, oO.out⟩
end Go.Proofs.YteaocammohcgoaaGreatDoor
