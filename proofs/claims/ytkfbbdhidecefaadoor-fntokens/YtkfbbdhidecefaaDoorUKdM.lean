import Derived.Test.YtkfbbdhidecefaaDoorUKdH
set_option linter.unusedVariables false
set_option maxHeartbeats 16000000
set_option maxRecDepth 100000
namespace Go.Proofs.YtkfbbdhidecefaaDoor
open Go.RowKit
variable {G : Prop}
theorem bT0 (h : G := by
 have k_T6_0 := kk
 exact bT6) : G := h
theorem bT1 (h : G := by
 have k_T6_1 := kk
 exact bT6) : G := h
theorem bT2 (h : G := by
 have k_T7_0 := kk
 exact bT7) : G := h
theorem bT3 (h : G := by
 have k_T7_1 := kk
 exact bT7) : G := h
theorem bT4 (h : G := by
 go_still_tail 16, fH
 go_wp2_with (go_at_call 89; refine (AH.out x1 ie _ _ pv.out _ _ VP.out lD.out.drew).mono ?_; rintro e x4 ⟨rfl, qT⟩; have AE := aa (pq.out _ _ _ _ _ qT); clear qT)
 refine ⟨⟨j + 1, by omega, by go_num, by rw [EK.out], ?_⟩, by simp [intOf]; omega⟩
 rw [LF.out]
 exact AE.out) : G := h
theorem bT5 (h : G := by
 refine ⟨⟨j + 1, by omega, by go_num, by rw [EK.out], ?_⟩, by simp [intOf]; omega⟩
 rw [LF.out]
 exact pq.out _ _ _ _ _ lD.out) : G := h
theorem bT6 (h : G := by
 go_wp2
 generalize xe : wr.alloc (.cells #[.int .i64 D.kind, .int .i64 2, .string D.name, .slice (some ⟨gd, od, none⟩) D.len cd] 27) = wx
 have x0 : wx.cell? ⟨wr.heap.size, 0, none⟩ = some (.int .i64 D.kind) := by rw [← xe]; simp
 have x1 : wx.cell? ⟨wr.heap.size, 1, none⟩ = some (.int .i64 2) := by rw [← xe]; simp
 have k_T10_0 := kk
 exact OZ) : G := h
theorem bT7 (h : G := by
 go_wp2
 generalize xe : wr.alloc (.cells #[.int .i64 D.kind, .int .i64 1, .string D.name, .slice (some ⟨gd, od, none⟩) D.len cd] 27) = wx
 have x0 : wx.cell? ⟨wr.heap.size, 0, none⟩ = some (.int .i64 D.kind) := by rw [← xe]; simp
 have x1 : wx.cell? ⟨wr.heap.size, 1, none⟩ = some (.int .i64 1) := by rw [← xe]; simp
 have k_T10_1 := kk
 exact OZ) : G := h
theorem bT8 (h : G := by
 clear hf
 go_wp2
 generalize xe : wr.alloc (.cells #[.int .i64 D.kind, .int .i64 0, .string D.name, .slice (some ⟨gd, od, none⟩) D.len cd] 27) = wx
 have x0 : wx.cell? ⟨wr.heap.size, 0, none⟩ = some (.int .i64 D.kind) := by rw [← xe]; simp
 have x1 : wx.cell? ⟨wr.heap.size, 1, none⟩ = some (.int .i64 0) := by rw [← xe]; simp
 have k_T10_2 := kk
 exact OZ) : G := h
theorem bT9 (h : G := by
 obtain ⟨ud0, iW, gV⟩ := Ky 0 (by omega)
 simp only [Nat.zero_mul, Nat.add_zero] at iW
 have gY := aa iW
 have EE := aa (fun (x1 : World) (ie : Option Nat) (b3 : Nat) (u3 : Value) (rK : SGo K wr.drew x1 ie b3 D (.slice (some ⟨gd, od, none⟩) D.len cd) u3 pj) (X : World) (σ : CR CS) (q : Nat) (ty : Int) (hX : SS K x1 ie σ cx.ret cx.loops cx.outs X) (ha : SAt K (D.kids 0) σ q) => tX (D.kids 0) K x1 ie σ cx.ret cx.loops cx.outs X ud0 q ty hX (rK.env V7.out hX) ((V2.out.kid (by omega) gV).later (rK.below _ _ _ _ _ hX)) ha lj)
 obtain ⟨ud1, iQ, mi⟩ := Ky 1 (by omega)
 simp only [Nat.one_mul] at iQ
 have mI := aa iQ
 first
 |clear k_T9_0
  have P6 := fK D (i := 1) (by omega)
  have hkf := ib D pj (i := 1) (by omega)
  have AH := aa (fun (x1 : World) (ie : Option Nat) (b3 : Nat) (u3 : Value) (rK : SGo K wr.drew x1 ie b3 D (.slice (some ⟨gd, od, none⟩) D.len cd) u3 pj) (X : World) (s1 : CS) (xi : s1.2.length = aP D pj 1) (hX : SS K x1 ie (.ok s1) cx.ret cx.loops cx.outs X) => BP (T := D.kids 1) zX (fun i hi => Pw.out _ (by have := fK (D.kids 1) hi; omega)) K x1 ie s1 cx X ud1 (aP D pj 1) xi hX (rK.env V7.out hX) ((V2.out.kid (by omega) mi).later (rK.below _ _ _ _ _ hX)) (by omega) pG (by omega) (by omega) D pj)
  have sX : Hid (SAt K (D.kids 0) (.ok (ao sj)) (aP D pj 0)) := by rw [← Qq.out]; exact SAt.kid0 (by rw [Qq.out]; omega) ig (by omega)
  have Qx := aa MN
  have VX := aa hL
  have EK : Hid (BB T (j + 1) = BB T j) := by unfold Hid; rw [HFN.out, pX.out]; simp
  have LF : Hid (EW K.F T cx (ao s) (j + 1) = CR.bind (fC K (D.kids 0) 3 (.ok (ao sj))) (within (L5 D) ((iB K.F (D.kids 1)).sts cx))) := by
   unfold Hid; rw [EI.out, cs_1 Qx.out pX.out VX.out]
   rfl
  cases hσ : fC K (D.kids 0) 3 (.ok (ao sj)) with
  |error e0 =>
   rw [hσ] at LF
   have sU := aa hσ
   clear hσ
   clear MN hL Ky zX pG iW gV iQ mi lj
   generalize BB T j = fj at *
   cases fj with
   |true =>
    exact bT3
   |false =>
    exact bT3
  |ok s1 =>
   have GJ : s1.2.length = aP D pj 1 := (by obtain ⟨q1, e1, e2⟩ := l5 lj s1 hσ; injection e1 with e1; subst e1; rw [e2, b5, hpj, iC, tK])
   rw [hσ] at LF
   have sU := aa hσ
   have VP := aa GJ
   clear hσ GJ
   clear MN hL Ky zX pG iW gV iQ mi lj
   generalize BB T j = fj at *
   cases fj with
   |true =>
    exact bT2
   |false =>
    exact bT2
 |clear k_T9_1
  have ED := aa (fun (x1 : World) (ie : Option Nat) (b3 : Nat) (u3 : Value) (rK : SGo K wr.drew x1 ie b3 D (.slice (some ⟨gd, od, none⟩) D.len cd) u3 pj) (X : World) (σ : CR CS) (q : Nat) (ty : Int) (hX : SS K x1 ie σ cx.ret cx.loops cx.outs X) (ha : SAt K (D.kids 1) σ q) => tX (D.kids 1) K x1 ie σ cx.ret cx.loops cx.outs X ud1 q ty hX (rK.env V7.out hX) ((V2.out.kid (by omega) mi).later (rK.below _ _ _ _ _ hX)) ha rL)
  obtain ⟨ud2, oC, vV⟩ := Ky 2 (by omega)
  simp only [Nat.reduceMul] at oC
  have xA := aa oC
  have P6 := fK D (i := 2) (by omega)
  have hkf := ib D pj (i := 2) (by omega)
  have AH := aa (fun (x1 : World) (ie : Option Nat) (b3 : Nat) (u3 : Value) (rK : SGo K wr.drew x1 ie b3 D (.slice (some ⟨gd, od, none⟩) D.len cd) u3 pj) (X : World) (s1 : CS) (xi : s1.2.length = aP D pj 2) (hX : SS K x1 ie (.ok s1) cx.ret cx.loops cx.outs X) => BP (T := D.kids 2) zX (fun i hi => Pw.out _ (by have := fK (D.kids 2) hi; omega)) K x1 ie s1 cx X ud2 (aP D pj 2) xi hX (rK.env V7.out hX) ((V2.out.kid (by omega) vV).later (rK.below _ _ _ _ _ hX)) (by omega) pG (by omega) (by omega) D pj)
  have sX : Hid (SAt K (D.kids 0) (.ok (ao sj)) (aP D pj 0)) := by rw [← Qq.out]; exact SAt.kid0 (by rw [Qq.out]; omega) ig (by omega)
  have I8 := aa (SAt.next (τ := fC K (D.kids 0) 3 (.ok (ao sj))) sX.out (by omega) (by omega) ig (l5 lj))
  have Qx := aa MN
  have VX := aa hL
  have EK : Hid (BB T (j + 1) = BB T j) := by unfold Hid; rw [HFN.out, pX.out]; simp
  have LF : Hid (EW K.F T cx (ao s) (j + 1) = CR.bind (fC K (D.kids 1) 1 (fC K (D.kids 0) 3 (.ok (ao sj)))) (within (L5 D) ((iB K.F (D.kids 2)).sts cx))) := by
   unfold Hid; rw [EI.out, cs_2 Qx.out pX.out VX.out]
   show _ = CR.bind (CR.bind (fM (ll K.F (D.kids 0)) 3 (ao sj)) (fM (ll K.F (D.kids 1)) 1)) _
   cases fM (ll K.F (D.kids 0)) 3 (ao sj) <;> rfl
  cases hσ : fC K (D.kids 1) 1 (fC K (D.kids 0) 3 (.ok (ao sj))) with
  |error e0 =>
   rw [hσ] at LF
   have sU := aa hσ
   clear hσ
   clear MN hL Ky zX pG iW gV iQ mi oC vV lj rL
   generalize BB T j = fj at *
   cases fj with
   |true =>
    exact bT1
   |false =>
    exact bT1
  |ok s1 =>
   have GJ : s1.2.length = aP D pj 2 := (by obtain ⟨q2, e3, e4⟩ := l5 rL s1 hσ; obtain ⟨q1, e1, e2⟩ := l5 lj q2 e3; injection e1 with e1; subst e1; rw [e4, e2, b5, hpj, iC, iC, tK])
   rw [hσ] at LF
   have sU := aa hσ
   have VP := aa GJ
   clear hσ GJ
   clear MN hL Ky zX pG iW gV iQ mi oC vV lj rL
   generalize BB T j = fj at *
   cases fj with
   |true =>
    exact bT0
   |false =>
    exact bT0) : G := h
theorem OZ (h : G := by
 have x2 : wx.cell? ⟨wr.heap.size, 2, none⟩ = some (.string D.name) := by rw [← xe]; simp
 have x3 : wx.cell? ⟨wr.heap.size, 3, none⟩ = some (.slice (some ⟨gd, od, none⟩) D.len cd) := by rw [← xe]; simp
 have xa : wx.cell? ⟨ga, oa + j, none⟩ = some (.int .i64 (pj : Nat)) := by rw [← xe]; exact (World.cell?_alloc_past _ _ _ SD).trans an
 first
 |clear k_T10_0
  have As := aa (cK.out (.cells #[.int .i64 D.kind, .int .i64 2, .string D.name, .slice (some ⟨gd, od, none⟩) D.len cd] 27))
  rw [xe] at As
  have VM := aa xe
  clear xe
  go_still_tail 5, fH
  go_wp2_with (go_at_call 50; refine As.out.mono ?_; rintro e x1 ⟨u1, rfl, bl, hb1⟩; rw [← VM.out] at bl hb1; obtain ⟨ie, aY, bj, fY⟩ := mH.out x1 u1 _ hb1 bl; obtain ⟨ga1, oa1, ca1, rfl, Ow, zU⟩ := fY.ats (by omega); have pv := aa fY; have oh := aa zU; have pq := aa bj; obtain ⟨b0, b1, b2, b3⟩ := (show x1.cell? ⟨wr.heap.size, 0, none⟩ = _ ∧ x1.cell? ⟨wr.heap.size, 1, none⟩ = _ ∧ x1.cell? ⟨wr.heap.size, 2, none⟩ = _ ∧ x1.cell? ⟨wr.heap.size, 3, none⟩ = _ from pv.out.box _ _ _ _ _ aY); rw [pX.out] at b1; have an := l3.out _ _ _ _ _ (pq.out _ _ _ _ _ aY); have a0 := oh.out _ _ _ _ _ aY 0 (by omega); rw [Nat.add_zero] at a0; obtain ⟨ja, iZ, iY, iX⟩ := gY.out _ (pv.out.below _ _ _ _ _ aY); have a1 := oh.out _ _ _ _ _ aY 1 (by omega); obtain ⟨om, oe, oj, oc⟩ := mI.out _ (pv.out.below _ _ _ _ _ aY); have a2 := oh.out _ _ _ _ _ aY 2 (by omega); obtain ⟨gM, EZ, EY, EX⟩ := xA.out _ (pv.out.below _ _ _ _ _ aY); have k5 := aY.code0; have gh := aa aY; clear aY bj fY zU bl hb1)
  go_still_tail 8, fH
  go_wp2_with (go_at_call 92; refine (EE.out x1 ie _ _ pv.out _ _ _ _ gh.out.drew sX.out).mono ?_; rintro e x3 ⟨rfl, fX⟩; obtain ⟨b0, b1, b2, b3⟩ := (show x3.cell? ⟨wr.heap.size, 0, none⟩ = _ ∧ x3.cell? ⟨wr.heap.size, 1, none⟩ = _ ∧ x3.cell? ⟨wr.heap.size, 2, none⟩ = _ ∧ x3.cell? ⟨wr.heap.size, 3, none⟩ = _ from pv.out.box _ _ _ _ _ fX); rw [pX.out] at b1; have an := l3.out _ _ _ _ _ (pq.out _ _ _ _ _ fX); have a0 := oh.out _ _ _ _ _ fX 0 (by omega); rw [Nat.add_zero] at a0; obtain ⟨ja, iZ, iY, iX⟩ := gY.out _ (pv.out.below _ _ _ _ _ fX); have a1 := oh.out _ _ _ _ _ fX 1 (by omega); obtain ⟨om, oe, oj, oc⟩ := mI.out _ (pv.out.below _ _ _ _ _ fX); have a2 := oh.out _ _ _ _ _ fX 2 (by omega); obtain ⟨gM, EZ, EY, EX⟩ := xA.out _ (pv.out.below _ _ _ _ _ fX); have lZ := aa fX; clear fX)
  go_still_tail 8, fH
  first
  |clear k_T6_0
   go_wp2_with (go_at_call 92; refine (ED.out x1 ie _ _ pv.out _ _ _ _ lZ.out.drew I8.out).mono ?_; rintro e x2 ⟨rfl, bH⟩; rw [sU.out] at bH; obtain ⟨b0, b1, b2, b3⟩ := (show x2.cell? ⟨wr.heap.size, 0, none⟩ = _ ∧ x2.cell? ⟨wr.heap.size, 1, none⟩ = _ ∧ x2.cell? ⟨wr.heap.size, 2, none⟩ = _ ∧ x2.cell? ⟨wr.heap.size, 3, none⟩ = _ from pv.out.box _ _ _ _ _ bH); rw [pX.out] at b1; have an := l3.out _ _ _ _ _ (pq.out _ _ _ _ _ bH); have a0 := oh.out _ _ _ _ _ bH 0 (by omega); rw [Nat.add_zero] at a0; obtain ⟨ja, iZ, iY, iX⟩ := gY.out _ (pv.out.below _ _ _ _ _ bH); have a1 := oh.out _ _ _ _ _ bH 1 (by omega); obtain ⟨om, oe, oj, oc⟩ := mI.out _ (pv.out.below _ _ _ _ _ bH); have a2 := oh.out _ _ _ _ _ bH 2 (by omega); obtain ⟨gM, EZ, EY, EX⟩ := xA.out _ (pv.out.below _ _ _ _ _ bH); have k5 := bH.code0; have lD := aa bH; clear bH)
   exact bT4
  |clear k_T6_1
   go_wp2_with (go_at_call 92; refine (ED.out x1 ie _ _ pv.out _ _ _ _ lZ.out.drew I8.out).mono ?_; rintro e x2 ⟨rfl, bH⟩; rw [sU.out] at bH; obtain ⟨b0, b1, b2, b3⟩ := (show x2.cell? ⟨wr.heap.size, 0, none⟩ = _ ∧ x2.cell? ⟨wr.heap.size, 1, none⟩ = _ ∧ x2.cell? ⟨wr.heap.size, 2, none⟩ = _ ∧ x2.cell? ⟨wr.heap.size, 3, none⟩ = _ from pv.out.box _ _ _ _ _ bH); rw [pX.out] at b1; have an := l3.out _ _ _ _ _ (pq.out _ _ _ _ _ bH); have a0 := oh.out _ _ _ _ _ bH 0 (by omega); rw [Nat.add_zero] at a0; obtain ⟨ja, iZ, iY, iX⟩ := gY.out _ (pv.out.below _ _ _ _ _ bH); have a1 := oh.out _ _ _ _ _ bH 1 (by omega); obtain ⟨om, oe, oj, oc⟩ := mI.out _ (pv.out.below _ _ _ _ _ bH); have a2 := oh.out _ _ _ _ _ bH 2 (by omega); obtain ⟨gM, EZ, EY, EX⟩ := xA.out _ (pv.out.below _ _ _ _ _ bH); obtain ⟨code, k5, hz⟩ := bH.code1; have lD := aa bH; clear bH)
   exact bT5
 |clear k_T10_1
  have As := aa (cK.out (.cells #[.int .i64 D.kind, .int .i64 1, .string D.name, .slice (some ⟨gd, od, none⟩) D.len cd] 27))
  rw [xe] at As
  have VM := aa xe
  clear xe
  go_still_tail 5, fH
  go_wp2_with (go_at_call 50; refine As.out.mono ?_; rintro e x1 ⟨u1, rfl, bl, hb1⟩; rw [← VM.out] at bl hb1; obtain ⟨ie, aY, bj, fY⟩ := mH.out x1 u1 _ hb1 bl; obtain ⟨ga1, oa1, ca1, rfl, Ow, zU⟩ := fY.ats (by omega); have pv := aa fY; have oh := aa zU; have pq := aa bj; obtain ⟨b0, b1, b2, b3⟩ := (show x1.cell? ⟨wr.heap.size, 0, none⟩ = _ ∧ x1.cell? ⟨wr.heap.size, 1, none⟩ = _ ∧ x1.cell? ⟨wr.heap.size, 2, none⟩ = _ ∧ x1.cell? ⟨wr.heap.size, 3, none⟩ = _ from pv.out.box _ _ _ _ _ aY); rw [pX.out] at b1; have an := l3.out _ _ _ _ _ (pq.out _ _ _ _ _ aY); have a0 := oh.out _ _ _ _ _ aY 0 (by omega); rw [Nat.add_zero] at a0; obtain ⟨ja, iZ, iY, iX⟩ := gY.out _ (pv.out.below _ _ _ _ _ aY); have a1 := oh.out _ _ _ _ _ aY 1 (by omega); obtain ⟨om, oe, oj, oc⟩ := mI.out _ (pv.out.below _ _ _ _ _ aY); have k5 := aY.code0; have gh := aa aY; clear aY bj fY zU bl hb1)
  go_still_tail 8, fH
  first
  |clear k_T7_0
   go_wp2_with (go_at_call 92; refine (EE.out x1 ie _ _ pv.out _ _ _ _ gh.out.drew sX.out).mono ?_; rintro e x2 ⟨rfl, bH⟩; rw [sU.out] at bH; obtain ⟨b0, b1, b2, b3⟩ := (show x2.cell? ⟨wr.heap.size, 0, none⟩ = _ ∧ x2.cell? ⟨wr.heap.size, 1, none⟩ = _ ∧ x2.cell? ⟨wr.heap.size, 2, none⟩ = _ ∧ x2.cell? ⟨wr.heap.size, 3, none⟩ = _ from pv.out.box _ _ _ _ _ bH); rw [pX.out] at b1; have an := l3.out _ _ _ _ _ (pq.out _ _ _ _ _ bH); have a0 := oh.out _ _ _ _ _ bH 0 (by omega); rw [Nat.add_zero] at a0; obtain ⟨ja, iZ, iY, iX⟩ := gY.out _ (pv.out.below _ _ _ _ _ bH); have a1 := oh.out _ _ _ _ _ bH 1 (by omega); obtain ⟨om, oe, oj, oc⟩ := mI.out _ (pv.out.below _ _ _ _ _ bH); have k5 := bH.code0; have lD := aa bH; clear bH)
   exact bT4
  |clear k_T7_1
   go_wp2_with (go_at_call 92; refine (EE.out x1 ie _ _ pv.out _ _ _ _ gh.out.drew sX.out).mono ?_; rintro e x2 ⟨rfl, bH⟩; rw [sU.out] at bH; obtain ⟨b0, b1, b2, b3⟩ := (show x2.cell? ⟨wr.heap.size, 0, none⟩ = _ ∧ x2.cell? ⟨wr.heap.size, 1, none⟩ = _ ∧ x2.cell? ⟨wr.heap.size, 2, none⟩ = _ ∧ x2.cell? ⟨wr.heap.size, 3, none⟩ = _ from pv.out.box _ _ _ _ _ bH); rw [pX.out] at b1; have an := l3.out _ _ _ _ _ (pq.out _ _ _ _ _ bH); have a0 := oh.out _ _ _ _ _ bH 0 (by omega); rw [Nat.add_zero] at a0; obtain ⟨ja, iZ, iY, iX⟩ := gY.out _ (pv.out.below _ _ _ _ _ bH); have a1 := oh.out _ _ _ _ _ bH 1 (by omega); obtain ⟨om, oe, oj, oc⟩ := mI.out _ (pv.out.below _ _ _ _ _ bH); obtain ⟨code, k5, hz⟩ := bH.code1; have lD := aa bH; clear bH)
   exact bT5
 |clear k_T10_2
  have As := aa (cK.out (.cells #[.int .i64 D.kind, .int .i64 0, .string D.name, .slice (some ⟨gd, od, none⟩) D.len cd] 27))
  rw [xe] at As
  have VM := aa xe
  clear xe
  go_still_tail 5, fH
  go_wp2_with (go_at_call 50; refine As.out.mono ?_; rintro e x1 ⟨u1, rfl, bl, hb1⟩; rw [← VM.out] at bl hb1; obtain ⟨ie, aY, bj, fY⟩ := mH.out x1 u1 _ hb1 bl; obtain ⟨ga1, oa1, ca1, rfl, Ow, zU⟩ := fY.ats (by omega); have pv := aa fY; have oh := aa zU; have pq := aa bj; obtain ⟨b0, b1, b2, b3⟩ := (show x1.cell? ⟨wr.heap.size, 0, none⟩ = _ ∧ x1.cell? ⟨wr.heap.size, 1, none⟩ = _ ∧ x1.cell? ⟨wr.heap.size, 2, none⟩ = _ ∧ x1.cell? ⟨wr.heap.size, 3, none⟩ = _ from pv.out.box _ _ _ _ _ aY); rw [pX.out] at b1; have an := l3.out _ _ _ _ _ (pq.out _ _ _ _ _ aY); have a0 := oh.out _ _ _ _ _ aY 0 (by omega); rw [Nat.add_zero] at a0; obtain ⟨ja, iZ, iY, iX⟩ := gY.out _ (pv.out.below _ _ _ _ _ aY); have k5 := aY.code0; have gh := aa aY; clear aY bj fY zU bl hb1)
  first
  |clear k_T8_0
   go_wp2_with (go_at_call 52; refine (gJ gh.out 6 (by decide) pj).mono ?_; rintro e x4 ⟨rfl, qT⟩; have AE := aa (rn.out _ _ _ _ _ (pq.out _ _ _ _ _ qT)); clear qT)
   first | go_end0 | refine bodyPost_ret (results_none rfl _ _ _) rfl ?_
   refine ⟨rfl, ?_⟩
   rw [CV (e := (6, pj)) (by rw [EI.out, TG Qx.out pX.out, Qq.out]) (show j + 1 ≤ T.len by omega)]
   exact AE.out
  |clear k_T8_1
   go_still_tail 16, fH
   go_wp2_with (go_at_call 89; refine (AH.out x1 ie _ _ pv.out _ _ (by rw [b5, Qq.out]; rfl) gh.out.drew).mono ?_; rintro e x4 ⟨rfl, qT⟩; have AE := aa (pq.out _ _ _ _ _ qT); clear qT)
   refine ⟨⟨j + 1, by omega, by go_num, by rw [HFN.out, pX.out]; rfl, ?_⟩, by simp [intOf]; omega⟩
   rw [EI.out, TF Qx.out pX.out VX.out]
   exact AE.out) : G := h
def L5 (T : Nd) : List (ByteArray × Int) := if az T.name then [] else [(T.name, 1)]
theorem H6 {s : ByteArray} (h : az s = true) : s = ⟨#[]⟩ := by
 have h1 : s.toList = [] := by simpa [az] using h
 rw [ByteArray.toList_eq] at h1
 have h2 : s.data = #[] := by simpa using h1
 cases s; simp_all
theorem Lh {T : Nd} (h4 : T.kind = 4) (ih : ∀ i, i < T.len → qk (T.kids i)) (K : SK) (w0 : World) (ah : Option Nat) (s : CS) (cx : Cx) (w : World) (v : Value) (hS : SS K w0 ah (.ok s) cx.ret cx.loops cx.outs w) (hE : SEnv K w) (hN : SNd K w T v) (be : s.2.length + T.size ≤ K.N) (ax : T.sOk = true) (hl : cx.loops + T.size ≤ 1099511627776) (ho : cx.outs + T.size ≤ 1099511627776) (C : Nd) (na : Nat) :
  Calls Tryd.prog 89 #[.pointer (some ⟨K.cb, 0, none⟩), T.val v, .int .i64 s.2.length, .string C.name, .int .i64 na] w fun e w' => e = .returned (.tuple #[]) ∧ SS K w0 ah (within (L5 C) ((iB K.F T).sts cx) s) cx.ret cx.loops cx.outs w' := by
 unfold L5
 cases he : az C.name with
 |true => rw [H6 he]; exact Ii h4 ih K w0 ah s cx w v hS hE hN be ax hl ho na
 |false => exact OQ h4 ih K w0 ah s cx w v hS hE hN be ax hl ho C.name na he
theorem TG {F C : Nd} {cx : Cx} {s : CS} (hk : C.kind = 16) (hn : C.num = 0) : (iB F C).cs true cx s = .error (6, s.2.length) := by
 rw [vt F (by omega)]; unfold I2; rw [if_pos ⟨hn, rfl⟩]
theorem TF {F C : Nd} {cx : Cx} {s : CS} (hk : C.kind = 16) (hn : C.num = 0) (hl : C.len = 1) : (iB F C).cs false cx s = within (L5 C) ((iB F (C.kids 0)).sts cx) (ao s) := by
 rw [vt F (by omega)]; unfold I2; rw [if_neg (by simp), if_neg (by omega), CR.bind_ok, if_neg (by omega), CR.bind_ok, hl]; rfl
theorem cs_1 {F C : Nd} {cx : Cx} {s : CS} {f : Bool} (hk : C.kind = 16) (hn : C.num = 1) (hl : C.len = 2) : (iB F C).cs f cx s = CR.bind (fM (ll F (C.kids 0)) 3 (ao s)) (within (L5 C) ((iB F (C.kids 1)).sts cx)) := by
 rw [vt F (by omega)]; unfold I2; rw [if_neg (by omega), if_pos (by omega)]
 cases fM (ll F (C.kids 0)) 3 (ao s) with
 |error e => rfl
 |ok s1 => simp only [CR.bind_ok]; rw [if_neg (by omega), CR.bind_ok, hl]; rfl
theorem cs_2 {F C : Nd} {cx : Cx} {s : CS} {f : Bool} (hk : C.kind = 16) (hn : C.num = 2) (hl : C.len = 3) : (iB F C).cs f cx s = CR.bind (fM (ll F (C.kids 0)) 3 (ao s)) (fun s1 => CR.bind (fM (ll F (C.kids 1)) 1 s1) (within (L5 C) ((iB F (C.kids 2)).sts cx))) := by
 rw [vt F (by omega)]; unfold I2; rw [if_neg (by omega), if_pos (by omega)]
 cases fM (ll F (C.kids 0)) 3 (ao s) with
 |error e => rfl
 |ok s1 => simp only [CR.bind_ok]; rw [if_pos hn, hl]; rfl
def BB (T : Nd) (j : Nat) : Bool := pU (fun i => decide ((T.kids i).num = 0)) j
def EW (F T : Nd) (cx : Cx) (s : CS) (j : Nat) : CR CS := forN (fun i => (iB F (T.kids i)).cs (BB T i) cx) j s
theorem Af (F T : Nd) (cx : Cx) (s : CS) (j : Nat) : EW F T cx s (j + 1) = CR.bind (EW F T cx s j) ((iB F (T.kids j)).cs (BB T j) cx) := rfl
theorem CV {F T : Nd} {cx : Cx} {s : CS} {j : Nat} {e : Int × Nat} (h : EW F T cx s j = .error e) : ∀ {n : Nat}, j ≤ n → EW F T cx s n = .error e := by
 intro n hn
 induction hn with
 |refl => exact h
 |step _ ih => rw [Af, ih]; rfl
theorem OJ {F T : Nd} {cx : Cx} {s : CS} (ax : ∀ i, i < T.len → (T.kids i).cOk = true) (hs : s.1 ≠ []) : ∀ {j : Nat}, j ≤ T.len → ∀ s', EW F T cx (ao s) j = .ok s' → s'.2.length = aP T s.2.length j ∧ s'.1 ≠ [] := by
 intro j hj s' e
 have := (StL.forN (g := fun i => (T.kids i).size) (fun i hi => (yb F (T.kids i)).cs (ax i hi) _ _) hj) (ao s) s' hs e
 obtain ⟨r1, r2, r3, r4⟩ := this
 refine ⟨by rw [r3, b5]; unfold aP; rfl, fun h => ?_⟩
 rw [h] at r2
 exact hs (List.length_eq_zero_iff.1 r2.symm)
theorem BP {T : Nd} (h4 : T.kind = 4) (ih : ∀ i, i < T.len → qk (T.kids i)) (K : SK) (w0 : World) (ah : Option Nat) (s : CS) (cx : Cx) (w : World) (v : Value) (p : Nat) (hp : s.2.length = p) (hS : SS K w0 ah (.ok s) cx.ret cx.loops cx.outs w) (hE : SEnv K w) (hN : SNd K w T v) (be : p + T.size ≤ K.N) (ax : T.sOk = true) (hl : cx.loops + T.size ≤ 1099511627776) (ho : cx.outs + T.size ≤ 1099511627776) (C : Nd) (na : Nat) :
  Calls Tryd.prog 89 #[.pointer (some ⟨K.cb, 0, none⟩), T.val v, .int .i64 p, .string C.name, .int .i64 na] w fun e w' => e = .returned (.tuple #[]) ∧ SS K w0 ah (within (L5 C) ((iB K.F T).sts cx) s) cx.ret cx.loops cx.outs w' := by
 subst hp
 exact Lh h4 ih K w0 ah s cx w v hS hE hN be ax hl ho C na
theorem Ie {T : Nd} {K : SK} {w w1 : World} {own1 : Option Nat} {b : Nat} {v u : Value} {s : CS} (ax : ∀ i, i < T.len → (T.kids i).cOk = true) (pd : ∀ U : Nd, U.size < T.size → qk U) (hE : SEnv K w) (hN : SNd K w T v) (hg : SGo K w w1 own1 b T v u s.2.length) (cx : Cx) (W : World) (hS : SS K w1 own1 (.ok (ao s)) cx.ret cx.loops cx.outs W)
  (iO : s.1 ≠ []) (be : s.2.length + T.size ≤ K.N) (hl : cx.loops + T.size ≤ 1099511627776 + 1) (ho : cx.outs + T.size ≤ 1099511627776 + 1) :
  Calls Tryd.prog 94 #[.pointer (some ⟨K.cb, 0, none⟩), T.val v, u] W fun e w' => e = .returned (.tuple #[]) ∧ SS K w1 own1 (EW K.F T cx (ao s) T.len) cx.ret cx.loops cx.outs w' := by
 have hn := T.fine_len hN.fine
 have ig := hS.ok.few
 obtain ⟨a, cap, hv, bQ, hq⟩ := ar.1 hN.row
 subst hv
 obtain ⟨vT, fX, u5, Hl⟩ := hS.boxed (nO T (.slice a T.len cap))
 have lZ := aa fX
 have rn := aa u5
 have tT := aa Hl
 have HG := aa hg
 have V5 := aa hE
 have VV := aa hN
 have yA := aa ax
 have Pw := aa pd
 have HCT := aa (fun j (hj : j ≤ T.len) => OJ (F := K.F) (cx := cx) ax iO hj)
 have EJ := aa (fun (h0 : T.len ≠ 0) => mJ hN.row h0)
 have HKA := aa (fun i (h : i < T.len) => ib T s.2.length h)
 have Qt := aa (fun i (h : i < T.len) => fK T h)
 have fH := rJ
 clear fX u5 Hl hg hE hN ax pd hS hq
 unfold Nd.val
 generalize hp : s.2.length = p at *
 go_enter Tryd.func94, Tryd.ntmps94
 go_wp2
 go_loopw [6, 7] (fun fd i wr => ∃ j : Nat, j ≤ T.len ∧ i = .int .i64 j ∧ fd = .bool (BB T j) ∧ SS K (W.alloc (nO T (.slice a T.len cap))) vT (EW K.F T cx (ao s) j) cx.ret cx.loops cx.outs wr) (fun _ i _ => T.len - (intOf i).toNat)
 case atStart => exact ⟨0, Nat.zero_le _, rfl, rfl, lZ.out⟩
 case round =>
  obtain ⟨j, hj, rfl, rfl, gS⟩ := hrel
  have o9 := rn.out _ _ _ _ _ gS
  have Oo := tT.out _ _ _ _ _ gS
  have n3 : wr.cell? ⟨W.heap.size, 3, none⟩ = some (.slice a T.len cap) := by simp [World.cell?, Oo]
  clear Oo
  by_cases bm : j < T.len
  ·have hji : (j : Int) < (T.len : Int) := by omega
   obtain ⟨g, off, ph, RC, tf, ME, bz⟩ := EJ.out (by omega)
   injection RC with K6 ev2 K5
   subst K6
   subst K5
   obtain ⟨ga, oa, ca, RD, sh, iH⟩ := HG.out.ats (by omega)
   subst RD
   obtain ⟨ud, yH, zD⟩ := bz j bm
   cases hq : EW K.F T cx (ao s) j with
   |error e0 =>
    rw [hq] at gS
    obtain ⟨code, k5, hz⟩ := gS.code1
    have po := aa gS
    have HQ := aa hq
    clear gS hq bz yH zD iH o9
    go_wp2
    go_end0
    refine ⟨rfl, ?_⟩
    rw [CV HQ.out hj]
    exact rn.out _ _ _ _ _ po.out
   |ok sj =>
    obtain ⟨hpj, hsj⟩ := HCT.out j hj sj hq
    rw [hq] at gS
    have k5 := gS.code0
    have lh := HG.out.below _ _ _ _ _ o9
    obtain ⟨c0, c1, c2, c3⟩ := yH _ lh
    have an := iH _ _ _ _ _ o9 j bm
    have SD := World.block_lt_of_cell? wr ⟨ga, oa + j, none⟩ an
    dsimp only at SD
    have Sr := HKA.out j bm
    have mC := Qt.out j bm
    have Qg := (VV.out.kid bm zD).later lh.drew
    have hEd := V5.out.later lh.drew
    have Tf : ∀ X σ r l o, SS K (W.alloc (nO T (.slice (some ⟨g, off, none⟩) T.len cap))) vT σ r l o X → X.cell? ⟨ga, oa + j, none⟩ = some (.int .i64 (aP T p j : Nat)) := fun X σ r l o h => iH _ _ _ _ _ (rn.out _ _ _ _ _ h) j bm
    obtain ⟨MN, hDn, zX, pG⟩ := MU (yA.out j bm)
    have hD1 : (T.kids j).len ≠ 0 := by rcases hDn with h | h | h <;> omega
    obtain ⟨gd, od, cd, hvd, MA, hcd, Ky⟩ := mJ Qg.row hD1
    subst hvd
    have RI : 0 < (T.kids j).size := by rw [(T.kids j).size_eq]; omega
    have hsd := (gS.take (by omega)).drew
    have sf := gS.ok.cl
    have hwl := gS.lt
    have HSD := aa hsd
    have cK : Hid (∀ o, Calls Tryd.prog 50 #[(T.kids j).val (.slice (some ⟨gd, od, none⟩) (T.kids j).len cd), .int .i64 (aP T p j : Nat)] ((wr.alloc o).drew) fun e w' => ∃ u, e = .returned u ∧ LX w' (wr.alloc o).heap.size u (T.kids j).len (fun i => (aP (T.kids j) (aP T p j) i : Int)) ∧ Below (wr.alloc o).heap.size ((wr.alloc o).drew) w') := fun o => ly (T.kids j) ((wr.alloc o).drew) _ K.lo (aP T p j) Qg.fine (by show K.lo ≤ (wr.alloc o).heap.size; simp; omega) (ae (hsd.box o) lr Qg.row) Qg.cost (by omega)
    have mH := aa (fun (x1 : World) (u : Value) (t : TypeId) hb ha => pB (w1 := x1) (T := T.kids j) (v := .slice (some ⟨gd, od, none⟩) (T.kids j).len cd) (p := aP T p j) (u := u) (t := t) hsd hb ha)
    have HQ := aa hq
    have HSJ := aa hsj
    have Qq := aa hpj
    have EI : Hid (EW K.F T cx (ao s) (j + 1) = (iB K.F (T.kids j)).cs (BB T j) cx sj) := by unfold Hid; rw [Af, hq]; rfl
    have HFN : Hid (BB T (j + 1) = (BB T j || decide ((T.kids j).num = 0))) := rfl
    have l3 := aa Tf
    have V2 := aa Qg
    have V7 := aa hEd
    have hDf := Nd.fine_len Qg.fine
    clear gS hq yH zD iH o9 lh Tf bz
    unfold Nd.val at cK
    generalize T.kids j = D at *
    generalize aP T p j = pj at *
    rcases hDn with ⟨hN0, hL⟩ | ⟨ML, hL, lj⟩ | ⟨hN2, hL, lj, rL⟩
    ·rw [hL] at zX pG
     have pX := aa hN0
     rw [hN0] at cK mH c1
     have KH : (D.len : Int) - 1 = 0 := by omega
     have mB : 0 < D.len := by omega
     obtain ⟨ud0, iW, gV⟩ := Ky 0 (by omega)
     simp only [Nat.zero_mul, Nat.add_zero] at iW
     have gY := aa iW
     have P6 := fK D (i := 0) (by omega)
     have hkf := ib D pj (i := 0) (by omega)
     have AH := aa (fun (x1 : World) (ie : Option Nat) (b3 : Nat) (u3 : Value) (rK : SGo K wr.drew x1 ie b3 D (.slice (some ⟨gd, od, none⟩) D.len cd) u3 pj) (X : World) (s1 : CS) (xi : s1.2.length = aP D pj 0) (hX : SS K x1 ie (.ok s1) cx.ret cx.loops cx.outs X) => BP (T := D.kids 0) zX (fun i hi => Pw.out _ (by have := fK (D.kids 0) hi; omega)) K x1 ie s1 cx X ud0 (aP D pj 0) xi hX (rK.env V7.out hX) ((V2.out.kid (by omega) gV).later (rK.below _ _ _ _ _ hX)) (by omega) pG (by omega) (by omega) D pj)
     have Qx := aa MN
     have VX := aa hL
     clear MN hL Ky zX pG iW gV
     cases hf : BB T j with
     |true =>
      rw [hf] at EI
      have k_T8_0 := kk
      exact bT8
     |false =>
      rw [hf] at EI HFN
      have k_T8_1 := kk
      exact bT8
    ·rw [hL] at zX pG
     have pX := aa ML
     rw [ML] at cK mH c1
     have KH : (D.len : Int) - 1 = 1 := by omega
     have mB : 0 < D.len := by omega
     have GR : (1 : Int) < (D.len : Int) := by omega
     have Bn : 1 < D.len := by omega
     have k_T9_0 := kk
     exact bT9
    ·rw [hL] at zX pG
     have pX := aa hN2
     rw [hN2] at cK mH c1
     have KH : (D.len : Int) - 1 = 2 := by omega
     have mB : 0 < D.len := by omega
     have GR : (1 : Int) < (D.len : Int) := by omega
     have Bn : 1 < D.len := by omega
     have hpos2 : (2 : Int) < (D.len : Int) := by omega
     have hpos2n : 2 < D.len := by omega
     have k_T9_1 := kk
     exact bT9
  ·have po := aa gS
   clear gS o9
   go_wp2
   go_end0
   obtain rfl : j = T.len := by omega
   exact ⟨rfl, rn.out _ _ _ _ _ po.out⟩
theorem QS {T : Nd} (hk : T.kind = 15) (pd : ∀ U : Nd, U.size < T.size → qk U) : qk T := by
 intro K w0 ah s cx w v oi hE hN be ax iO tz uS
 have bP : 0 < T.size := by rw [T.size_eq]; omega
 have hS := oi.take (by omega)
 have hco := L0 hk ax
 have aF : (iB K.F T).st cx s = EW K.F T ⟨cx.ret, cx.loops, cx.outs + 1⟩ (ao s) T.len := by
  rw [gl K.F (by omega)]
  unfold stM
  rw [if_neg (by omega), if_neg (by omega), if_neg (by omega), if_neg (by omega), if_neg (by omega), if_neg (by omega), if_neg (by omega), if_neg (by omega), if_neg (by omega), if_pos hk]; rfl
 rw [aF]
 have ig := hS.ok.few
 have bm := hS.lt
 have sf := hS.ok.cl
 have cK := aa (fun o => ly T (w.alloc o) _ K.lo s.2.length hN.fine (by simp; omega) (ae (hS.box o) lr hN.row) hN.cost (by omega))
 have mH := aa (fun (w1 : World) (u : Value) (t : TypeId) hb ha => pB (w1 := w1) (T := T) (v := v) (p := s.2.length) (u := u) (t := t) hS hb ha)
 have HCA := aa (fun (w1 : World) (own1 : Option Nat) (b : Nat) (u : Value) (hg : SGo K w w1 own1 b T v u s.2.length) (W : World) (hW : SS K w1 own1 (.ok (ao s)) cx.ret cx.loops ((cx.outs : Int) + 1) W) => Ie hco pd hE hN hg ⟨cx.ret, cx.loops, cx.outs + 1⟩ W hW iO be (show cx.loops + T.size ≤ _ by omega) (show cx.outs + 1 + T.size ≤ _ by omega))
 have ho1 : cx.outs ≤ 1099511627776 := by omega
 unfold Nd.val at cK mH ⊢
 rw [hk] at cK mH ⊢
 unfold Nd.val at HCA
 rw [hk] at HCA
 have mn := aa hk
 clear aF hS oi hE hN hk ax hco bP pd
 generalize hq : s.2.length = q at *
 have fH := rJ
 go_enter Tryd.func84, Tryd.ntmps84
 go_wp2_with (first
  |(go_at_call 50; refine (cK.out _).mono ?_; rintro e w1 ⟨u, rfl, bl, hb1⟩; obtain ⟨own1, aY, bj, fY⟩ := mH.out w1 u _ hb1 bl; have HG := aa fY; have mK := aa bj; obtain ⟨b0, b1, b2, b3⟩ := HG.out.box _ _ _ _ _ aY; rw [mn.out] at b0; obtain ⟨k9, vL, uQ⟩ := aY.outs; have f11 := aY.free 11; have wk := aa (aY.setOuts ((cx.outs : Int) + 1)); have gh := aa aY; clear aY bj fY bl hb1)
  |(go_at_call 94; refine (HCA.out _ _ _ _ HG.out _ wk.out).mono ?_; rintro e w4 ⟨rfl, qT⟩; have Av := mK.out _ _ _ _ _ qT; obtain ⟨j9, j10, Re⟩ := Av.outs; have uQ : w4.cell? ⟨K.cb, 11, none⟩ = some (.int .i64 ((cx.outs : Int) + 1)) := Re; have f11 := Av.free 11; have E3 := aa (Av.setOuts cx.outs); clear qT Av j9 j10 Re))
 go_end0
 exact ⟨rfl, E3.out⟩
end Go.Proofs.YtkfbbdhidecefaaDoor
