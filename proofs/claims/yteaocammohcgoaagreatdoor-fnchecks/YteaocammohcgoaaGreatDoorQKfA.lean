import Derived.Test.YteaocammohcgoaaGreatDoorQKeD
set_option linter.unusedVariables false
set_option maxHeartbeats 16000000
set_option maxRecDepth 100000
namespace Go.Proofs.YteaocammohcgoaaGreatDoor
open Go.RowKit
variable {G : Prop}
theorem bT0 (h : G := by
 have iB := aa hM
 have k_0 := kk
 exact Un) : G := h
theorem bT1 (h : G := by
 have iB := aa hM
 clear hM
 rw [CR.bind_error]
 go_enter Tryz.func134, Tryz.ntmps134
 go_wp2_with (first
  |(go_at_call 117; refine (dq (ji.out _ _ _ _ _ 3 bb.out iC.out) iB.out).mono ?_; rintro e w2 ⟨rfl, hb2⟩; skip))
 exact Ni) : G := h
theorem bT2 (h : G := by
 intro s1 h
 obtain ⟨r, h1, h2⟩ := bg h
 obtain ⟨x1, x2⟩ := (eh K.F _ cX).want 3 _ _ h1
 obtain ⟨y1, y2⟩ := (eh K.F _ jB).want 1 _ _ h2
 rw [aP] at x2
 exact ⟨by rw [y1, x1]; rfl, by omega⟩) : G := h
theorem bT3 (h : G := by
 intro st e1 e2
 have := bP T s.2.length (i := 0) (by omega)
 exact Nj) : G := h
theorem bT4 (h : G := by
 intro st e1 e2
 have := bP T s.2.length (i := 1) (by omega)
 exact Nj) : G := h
theorem bT5 (h : G := by
 intro st e1 e2
 have := bP T s.2.length (i := 2) (by omega)
 exact Nj) : G := h
theorem bT6 (h : G := by
 have := bP T s.2.length (i := 2) (by omega)
 unfold aV at this; simp only [aw] at this
 unfold Hid; rw [aP]; omega) : G := h
theorem bT7 (h : G := by
 intro E X s1 h e
 have := ((iq K.F (T.kids 0)).sts ho hb cx) _ s1 (by simp) h
 rw [e] at this
 have := this.2.1
 simp at this) : G := h
theorem bT8 (h : G := by
 intro E X s1 h e
 have := ((iq K.F (T.kids 1)).sts ho hb cx) _ s1 (by simp) h
 rw [e] at this
 have := this.2.1
 simp at this) : G := h
theorem bT9 (h : G := by
 intro E X s1 h e
 have := ((iq K.F (T.kids 2)).sts ho hb cx) _ s1 (by simp) h
 rw [e] at this
 have := this.2.1
 simp at this) : G := h
theorem Uz (h : G := by
 have mT := aa aM
 clear cr aM
 go_wp2
 go_end0
 rw [lu mT.out]
 exact ⟨rfl, fc.out _ _ _ _ _ iK.out⟩) : G := h
theorem Nl (h : G := by
 exact ⟨rfl, rfl, (bz.out _ _ _ _ _ l6.out).trans hb3⟩) : G := h
theorem Nk (h : G := by
 exact ⟨rfl, rfl, (bz.out _ _ _ _ _ ly.out).trans hb3⟩) : G := h
theorem Nj (h : G := by
 unfold aV at this; simp only [aw] at this
 refine ⟨by omega, by rw [e1]; exact bh, by rw [e1]; omega, by rw [e1]; omega, by rw [e1]; omega⟩) : G := h
theorem Ni (h : G := by
 exact ⟨rfl, rfl, (bz.out _ _ _ _ _ bb.out).trans hb2⟩) : G := h
theorem Uy (h : G := by
 have k_1 := kk
 exact Uo) : G := h
theorem Ux (h : G := by
 have k_0 := kk
 exact Uo) : G := h
theorem Uw (h : G := by
 have qA := aa (fK hN.fine)
 have yg : Hid (∀ st : CS, st.1 = s.1 → st.2.length = s.2.length + 1 + ((T.kids 0).size + (T.kids 1).size) → st.2.length + (T.kids 2).size ≤ K.N ∧ st.1 ≠ [] ∧ st.1.length ≤ st.2.length ∧ aO st.1 + 1 ≤ st.2.length ∧ st.1.length + 1 ≤ st.2.length) := by
  exact bT5
 have iC : Hid ((ab s).2.length + ((T.kids 0).size + (T.kids 1).size) ≤ K.N) := by
  exact bT6
 have Jl : Hid (∀ s1, CR.bind (aC (bL K.F (T.kids 0)) 3 (ab s)) (aC (bL K.F (T.kids 1)) 1) = .ok s1 → s1.1 = s.1 ∧ s1.2.length = s.2.length + 1 + ((T.kids 0).size + (T.kids 1).size)) := by
  exact bT2
 have k_0 := kk
 exact Um) : G := h
theorem Uv (h : G := by
 have k_1 := kk
 exact Ud) : G := h
theorem Uu (h : G := by
 have qA := aa (fK hN.fine)
 have yg : Hid (∀ st : CS, st.1 = s.1 → st.2.length = s.2.length + 1 + (T.kids 0).size → st.2.length + (T.kids 1).size ≤ K.N ∧ st.1 ≠ [] ∧ st.1.length ≤ st.2.length ∧ aO st.1 + 1 ≤ st.2.length ∧ st.1.length + 1 ≤ st.2.length) := by
  exact bT4
 have Jl := aa (fun s1 (h : aC (bL K.F (T.kids 0)) 3 (ab s) = .ok s1) => (eh K.F _ cX).want 3 _ _ h)
 have iC := aa (fJ aq (i := 0) (by omega))
 have k_1 := kk
 exact Up) : G := h
theorem Ut (h : G := by
 have qA := aa (fK hN.fine)
 have yg : Hid (∀ st : CS, st.1 = s.1 → st.2.length = s.2.length + 1 + 0 → st.2.length + (T.kids 0).size ≤ K.N ∧ st.1 ≠ [] ∧ st.1.length ≤ st.2.length ∧ aO st.1 + 1 ≤ st.2.length ∧ st.1.length + 1 ≤ st.2.length) := by
  exact bT3
 obtain ⟨sU, vG, jA, qI, FG⟩ := yg.out (ab s) rfl (by rw [aP])
 have k_0 := kk
 exact Ui) : G := h
theorem Ur (h : G := by
 have HM := aa hM
 have k_1 := kk
 exact Un) : G := h
theorem Uq (h : G := by
 have HM := aa hM
 clear hM
 rw [CR.bind_ok]
 have k_0 := kk
 exact Uk) : G := h
theorem Up (h : G := by
 have k_1 := kk
 exact Um) : G := h
theorem Uo (h : G := by
 have k_0 := kk
 exact Ud) : G := h
theorem Un (h : G := by
 clear hM
 rw [CR.bind_error]
 have k_1 := kk
 exact Uk) : G := h
theorem Um (h : G := by
 have k_1 := kk
 exact Ui) : G := h
theorem Ul (h : G := by
 have k_2 := kk
 exact Uj) : G := h
theorem Uk (h : G := by
 go_enter Tryz.func134, Tryz.ntmps134
 go_wp2
 have HSX := aa (bb.out)
 obtain ⟨e00, e01, e02, e03⟩ := ai (cJ.out _ _ _ _ _ bb.out)
 obtain ⟨d00, d01, d02, d03⟩ := dH.out _ (bz.out _ _ _ _ _ bb.out)
 obtain ⟨d10, d11, d12, d13⟩ := fD.out _ (bz.out _ _ _ _ _ bb.out)
 obtain ⟨d20, d21, d22, d23⟩ := mU.out _ (bz.out _ _ _ _ _ bb.out)
 generalize w.alloc (.cells #[.int .i64 T.kind, .int .i64 2, .string T.name, .slice (some ⟨g, off, none⟩) T.len cap] 25) = wx at *
 go_still_tail 9, bI
 first
 |clear k_0
  first
  |clear k_0
   go_wp2_with (first
    |(go_at_call 120; refine (cq (FN.out _ _ bb.out.drew iC.out) iB.out).mono ?_; rintro e w2 ⟨rfl, aD⟩; obtain ⟨b0, b1, b2, b3⟩ := ai (cJ.out _ _ _ _ _ aD); obtain ⟨eD, eC, eB, eA⟩ := dH.out _ (bz.out _ _ _ _ _ aD); obtain ⟨gG, gB, gE, gA⟩ := fD.out _ (bz.out _ _ _ _ _ aD); obtain ⟨qM, qL, oi, oh⟩ := mU.out _ (bz.out _ _ _ _ _ aD); have bM := aa aD; clear aD)
    |(go_at_call 90; refine (dx bM.out yd.out).mono ?_; rintro e x1 ⟨rfl, dJ⟩; obtain ⟨b0, b1, b2, b3⟩ := ai (cJ.out _ _ _ _ _ dJ); obtain ⟨eD, eC, eB, eA⟩ := dH.out _ (bz.out _ _ _ _ _ dJ); obtain ⟨gG, gB, gE, gA⟩ := fD.out _ (bz.out _ _ _ _ _ dJ); obtain ⟨qM, qL, oi, oh⟩ := mU.out _ (bz.out _ _ _ _ _ dJ); have l6 := aa dJ; clear dJ)
    |(go_at_call 92; refine (cq (kt.out _ _ l6.out vx.out (by simp) yc.out) HM.out).mono ?_; rintro e x3 ⟨rfl, mF⟩; have vL := aa mF; clear mF)
    |(go_at_call 93; refine (fx vL.out (oZ.out _ _ _ HM.out)).mono ?_; rintro e x4 ⟨rfl, oG⟩; have Fi := aa oG; clear oG))
   go_end0
   exact ⟨rfl, fc.out _ _ _ _ _ Fi.out⟩
  |clear k_1
   go_wp2_with (first
    |(go_at_call 120; refine (cq (FN.out _ _ bb.out.drew iC.out) iB.out).mono ?_; rintro e w2 ⟨rfl, aD⟩; obtain ⟨b0, b1, b2, b3⟩ := ai (cJ.out _ _ _ _ _ aD); obtain ⟨eD, eC, eB, eA⟩ := dH.out _ (bz.out _ _ _ _ _ aD); obtain ⟨gG, gB, gE, gA⟩ := fD.out _ (bz.out _ _ _ _ _ aD); obtain ⟨qM, qL, oi, oh⟩ := mU.out _ (bz.out _ _ _ _ _ aD); have bM := aa aD; clear aD)
    |(go_at_call 90; refine (dx bM.out yd.out).mono ?_; rintro e x1 ⟨rfl, dJ⟩; obtain ⟨b0, b1, b2, b3⟩ := ai (cJ.out _ _ _ _ _ dJ); obtain ⟨eD, eC, eB, eA⟩ := dH.out _ (bz.out _ _ _ _ _ dJ); obtain ⟨gG, gB, gE, gA⟩ := fD.out _ (bz.out _ _ _ _ _ dJ); obtain ⟨qM, qL, oi, oh⟩ := mU.out _ (bz.out _ _ _ _ _ dJ); have l6 := aa dJ; clear dJ)
    |(go_at_call 91; refine (cq (fA l6.out T.name 1 p (by simp) (by decide) qA.out Jr.out) rfl).mono ?_; rintro e x2 ⟨rfl, ld⟩; have ft : IS K _ O1 ([(T.name, 1)] :: s1.1, s1.2) cx.ret cx.loops ag x2 := ld; clear ld; obtain ⟨b0, b1, b2, b3⟩ := ai (cJ.out _ _ _ _ _ ft); obtain ⟨eD, eC, eB, eA⟩ := dH.out _ (bz.out _ _ _ _ _ ft); obtain ⟨gG, gB, gE, gA⟩ := fD.out _ (bz.out _ _ _ _ _ ft); obtain ⟨qM, qL, oi, oh⟩ := mU.out _ (bz.out _ _ _ _ _ ft); have ly := aa ft; clear ft)
    |(go_at_call 92; refine (cq (kt.out _ _ ly.out vx.out (by simp) yc.out) HM.out).mono ?_; rintro e x3 ⟨rfl, mF⟩; have vL := aa mF; clear mF)
    |(go_at_call 93; refine (fx vL.out (oZ.out _ _ _ HM.out)).mono ?_; rintro e x4 ⟨rfl, oG⟩; have Fi := aa oG; clear oG))
   go_end0
   exact ⟨rfl, fc.out _ _ _ _ _ Fi.out⟩
 |clear k_1
  first
  |clear k_0
   go_wp2_with (first
    |(go_at_call 120; refine (dq (FN.out _ _ bb.out.drew iC.out) iB.out).mono ?_; rintro e w2 ⟨rfl, hb2⟩; skip))
   exact ⟨rfl, rfl, (bz.out _ _ _ _ _ bb.out.drew).trans hb2⟩
  |clear k_1
   first
   |clear k_0
    go_wp2_with (first
     |(go_at_call 120; refine (cq (FN.out _ _ bb.out.drew iC.out) iB.out).mono ?_; rintro e w2 ⟨rfl, aD⟩; obtain ⟨b0, b1, b2, b3⟩ := ai (cJ.out _ _ _ _ _ aD); obtain ⟨eD, eC, eB, eA⟩ := dH.out _ (bz.out _ _ _ _ _ aD); obtain ⟨gG, gB, gE, gA⟩ := fD.out _ (bz.out _ _ _ _ _ aD); obtain ⟨qM, qL, oi, oh⟩ := mU.out _ (bz.out _ _ _ _ _ aD); have bM := aa aD; clear aD)
     |(go_at_call 90; refine (dx bM.out yd.out).mono ?_; rintro e x1 ⟨rfl, dJ⟩; obtain ⟨b0, b1, b2, b3⟩ := ai (cJ.out _ _ _ _ _ dJ); obtain ⟨eD, eC, eB, eA⟩ := dH.out _ (bz.out _ _ _ _ _ dJ); obtain ⟨gG, gB, gE, gA⟩ := fD.out _ (bz.out _ _ _ _ _ dJ); obtain ⟨qM, qL, oi, oh⟩ := mU.out _ (bz.out _ _ _ _ _ dJ); have l6 := aa dJ; clear dJ)
     |(go_at_call 92; refine (dq (kt.out _ _ l6.out vx.out (by simp) yc.out) HM.out).mono ?_; rintro e x3 ⟨rfl, hb3⟩; skip))
    exact Nl
   |clear k_1
    go_wp2_with (first
     |(go_at_call 120; refine (cq (FN.out _ _ bb.out.drew iC.out) iB.out).mono ?_; rintro e w2 ⟨rfl, aD⟩; obtain ⟨b0, b1, b2, b3⟩ := ai (cJ.out _ _ _ _ _ aD); obtain ⟨eD, eC, eB, eA⟩ := dH.out _ (bz.out _ _ _ _ _ aD); obtain ⟨gG, gB, gE, gA⟩ := fD.out _ (bz.out _ _ _ _ _ aD); obtain ⟨qM, qL, oi, oh⟩ := mU.out _ (bz.out _ _ _ _ _ aD); have bM := aa aD; clear aD)
     |(go_at_call 90; refine (dx bM.out yd.out).mono ?_; rintro e x1 ⟨rfl, dJ⟩; obtain ⟨b0, b1, b2, b3⟩ := ai (cJ.out _ _ _ _ _ dJ); obtain ⟨eD, eC, eB, eA⟩ := dH.out _ (bz.out _ _ _ _ _ dJ); obtain ⟨gG, gB, gE, gA⟩ := fD.out _ (bz.out _ _ _ _ _ dJ); obtain ⟨qM, qL, oi, oh⟩ := mU.out _ (bz.out _ _ _ _ _ dJ); have l6 := aa dJ; clear dJ)
     |(go_at_call 91; refine (cq (fA l6.out T.name 1 p (by simp) (by decide) qA.out Jr.out) rfl).mono ?_; rintro e x2 ⟨rfl, ld⟩; have ft : IS K _ O1 ([(T.name, 1)] :: s1.1, s1.2) cx.ret cx.loops ag x2 := ld; clear ld; obtain ⟨b0, b1, b2, b3⟩ := ai (cJ.out _ _ _ _ _ ft); obtain ⟨eD, eC, eB, eA⟩ := dH.out _ (bz.out _ _ _ _ _ ft); obtain ⟨gG, gB, gE, gA⟩ := fD.out _ (bz.out _ _ _ _ _ ft); obtain ⟨qM, qL, oi, oh⟩ := mU.out _ (bz.out _ _ _ _ _ ft); have ly := aa ft; clear ft)
     |(go_at_call 92; refine (dq (kt.out _ _ ly.out vx.out (by simp) yc.out) HM.out).mono ?_; rintro e x3 ⟨rfl, hb3⟩; skip))
    exact Nk) : G := h
theorem Uj (h : G := by
 obtain ⟨O1, az, aW, bp, aS⟩ := hS.boxed (.cells #[.int .i64 T.kind, .int .i64 T.num, .string T.name, .slice (some ⟨g, off, none⟩) T.len cap] 25)
 have cJ := aa bp
 have bz := aa aS
 have fc := aa aW
 have bb := aa az
 have fe : K.lo ≤ w.heap.size := by have := hS.lt; have := hS.ok.cl; omega
 have dm := hS.ok.few
 first
 |clear k_0
  have ji := aa (fun (W : World) (st : CS) (r l o : Int) (ty : Int) (hW : IS K (w.alloc (.cells #[.int .i64 T.kind, .int .i64 T.num, .string T.name, .slice (some ⟨g, off, none⟩) T.len cap] 25)) O1 st r l o W) (hf : st.2.length + (T.kids 0).size ≤ K.N) => dV (ej bE (T.kids 0)) K _ O1 st r l o W u0 ty hW (hE.later (aS _ _ _ _ _ hW)) ((hN.kid (by omega) dE).later (aS _ _ _ _ _ hW)) hf cX)
  have nJ := aa (fun (W : World) (st : CS) (hW : IS K (w.alloc (.cells #[.int .i64 T.kind, .int .i64 T.num, .string T.name, .slice (some ⟨g, off, none⟩) T.len cap] 25)) O1 st cx.ret cx.loops ag W) (hf : st.2.length + (T.kids 1).size ≤ K.N) (hd : st.1.length + 1 ≤ st.2.length) => nl hb1 (fun j hj => b6 _ (by have := aH (T.kids 1) hj; have := aH T (i := 1) (by omega); omega)) K _ O1 st cx ag W u1 Od.out hW (hE.later (aS _ _ _ _ _ hW)) ((hN.kid (by omega) fG).later (aS _ _ _ _ _ hW)) hf yO hd (by have := aH T (i := 1) (by omega); omega) (by have := aH T (i := 1) (by omega); omega))
  have iC := aa (fJ aq (i := 0) (by omega))
  have l6 : Hid (∀ s1, aC (bL K.F (T.kids 0)) 2 (ab s) = .ok s1 → s1.2.length + (T.kids 1).size ≤ K.N ∧ s1.1.length + 1 ≤ s1.2.length) := by
   intro s1 h
   obtain ⟨q1, q2⟩ := (eh K.F _ cX).want 2 _ _ h
   have := bP T s.2.length (i := 1) (by omega)
   unfold aV at this; simp only [aw] at this
   rw [aP] at q2
   refine ⟨by omega, ?_⟩
   rw [q1]; show s.1.length + 1 ≤ _; omega
  have k_0 := kk
  exact Up
 |clear k_1
  have kt := aa (fun (W : World) (st : CS) (hW : IS K (w.alloc (.cells #[.int .i64 T.kind, .int .i64 T.num, .string T.name, .slice (some ⟨g, off, none⟩) T.len cap] 25)) O1 st cx.ret cx.loops ag W) (hf : st.2.length + (T.kids 0).size ≤ K.N) (dr : st.1 ≠ []) (hd : st.1.length ≤ st.2.length) => nj hb (fun j hj => b6 _ (by have := aH (T.kids 0) hj; have := aH T (i := 0) (by omega); omega)) K _ O1 st cx ag W _ gJ hW (hE.later (aS _ _ _ _ _ hW)) ((hN.kid (by omega) dE).later (aS _ _ _ _ _ hW)) hf ho dr hd (by have := aH T (i := 0) (by omega); omega) (by have := aH T (i := 0) (by omega); omega))
  first
  |clear k_0
   have oZ : Hid (∀ (E : Sc) (X : List Int) s1, (bY K.F (T.kids 0)).sts cx ([] :: E, X) = .ok s1 → s1.1 ≠ []) := by
    exact bT7
   have k_0 := kk
   exact Ut
  |clear k_1
   have oZ : Hid (∀ (E : Sc) (X : List Int) s1, (bY K.F (T.kids 0)).sts cx ([(T.name, 1)] :: E, X) = .ok s1 → s1.1 ≠ []) := by
    exact bT7
   have k_1 := kk
   exact Ut
 |clear k_2
  have O6 := aa (hN.kid (i := 0) (by omega) dE)
  first
  |clear k_0
   have ji := aa (fun (W : World) (st : CS) (r l o : Int) (ty : Int) (hW : IS K (w.alloc (.cells #[.int .i64 T.kind, .int .i64 T.num, .string T.name, .slice (some ⟨g, off, none⟩) T.len cap] 25)) O1 st r l o W) (hf : st.2.length + (T.kids 0).size ≤ K.N) => dV (ej bE (T.kids 0)) K _ O1 st r l o W (.slice a0 (T.kids 0).len q0) ty hW (hE.later (aS _ _ _ _ _ hW)) ((hN.kid (by omega) dE).later (aS _ _ _ _ _ hW)) hf cX)
   have kt := aa (fun (W : World) (st : CS) (hW : IS K (w.alloc (.cells #[.int .i64 T.kind, .int .i64 T.num, .string T.name, .slice (some ⟨g, off, none⟩) T.len cap] 25)) O1 st cx.ret cx.loops ag W) (hf : st.2.length + (T.kids 1).size ≤ K.N) (dr : st.1 ≠ []) (hd : st.1.length ≤ st.2.length) => nj hb (fun j hj => b6 _ (by have := aH (T.kids 1) hj; have := aH T (i := 1) (by omega); omega)) K _ O1 st cx ag W _ gJ hW (hE.later (aS _ _ _ _ _ hW)) ((hN.kid (by omega) fG).later (aS _ _ _ _ _ hW)) hf ho dr hd (by have := aH T (i := 1) (by omega); omega) (by have := aH T (i := 1) (by omega); omega))
   first
   |clear k_0
    have oZ : Hid (∀ (E : Sc) (X : List Int) s1, (bY K.F (T.kids 1)).sts cx ([] :: E, X) = .ok s1 → s1.1 ≠ []) := by
     exact bT8
    have k_0 := kk
    exact Uu
   |clear k_1
    have oZ : Hid (∀ (E : Sc) (X : List Int) s1, (bY K.F (T.kids 1)).sts cx ([(T.name, 1)] :: E, X) = .ok s1 → s1.1 ≠ []) := by
     exact bT8
    have k_1 := kk
    exact Uu
  |clear k_1
   have HN1 := aa (hN.kid (i := 1) (by omega) fG)
   have FN := aa (fun (W : World) (st : CS) (hW : IS K (w.alloc (.cells #[.int .i64 T.kind, .int .i64 T.num, .string T.name, .slice (some ⟨g, off, none⟩) T.len cap] 25)) O1 st cx.ret cx.loops ag W) (hf : st.2.length + ((T.kids 0).size + (T.kids 1).size) ≤ K.N) => uw bE (A := T.kids 0) (B := T.kids 1) K _ O1 st cx.ret cx.loops ag W _ _ hW (hE.later (aS _ _ _ _ _ hW)) (O6.out.later (aS _ _ _ _ _ hW)) (HN1.out.later (aS _ _ _ _ _ hW)) hf cX jB)
   have kt := aa (fun (W : World) (st : CS) (hW : IS K (w.alloc (.cells #[.int .i64 T.kind, .int .i64 T.num, .string T.name, .slice (some ⟨g, off, none⟩) T.len cap] 25)) O1 st cx.ret cx.loops ag W) (hf : st.2.length + (T.kids 2).size ≤ K.N) (dr : st.1 ≠ []) (hd : st.1.length ≤ st.2.length) => nj hb (fun j hj => b6 _ (by have := aH (T.kids 2) hj; have := aH T (i := 2) (by omega); omega)) K _ O1 st cx ag W _ gJ hW (hE.later (aS _ _ _ _ _ hW)) ((hN.kid (by omega) jH).later (aS _ _ _ _ _ hW)) hf ho dr hd (by have := aH T (i := 2) (by omega); omega) (by have := aH T (i := 2) (by omega); omega))
   first
   |clear k_0
    have oZ : Hid (∀ (E : Sc) (X : List Int) s1, (bY K.F (T.kids 2)).sts cx ([] :: E, X) = .ok s1 → s1.1 ≠ []) := by
     exact bT9
    have k_0 := kk
    exact Uw
   |clear k_1
    have oZ : Hid (∀ (E : Sc) (X : List Int) s1, (bY K.F (T.kids 2)).sts cx ([(T.name, 1)] :: E, X) = .ok s1 → s1.1 ≠ []) := by
     exact bT9
    have k_1 := kk
    exact Uw) : G := h
theorem Ui (h : G := by
 unfold Nd.val at *
 have fO : g < w.heap.size := by omega
 have A0 : g < w.heap.size + 1 := by omega
 have AZ : g < w.heap.size + 1 + 1 := by omega
 have Ie : ¬ g = w.heap.size := by omega
 have A5 : ¬ g = w.heap.size + 1 := by omega
 have A4 : ¬ g = w.heap.size + 1 + 1 := by omega
 obtain ⟨eD, eC, eB, eA⟩ := dH.out w (Below.refl _ _)
 first
 |clear k_0
  have gh : 0 < T.len := by omega
  have yY : (T.len : Int) - 1 = 0 := by omega
  have bI := jz
  first
  |clear k_0
   obtain ⟨Qd, Qc⟩ : (T.name.toList == []) = true ∧ (T.name.toList != []) = false := by rw [nx dc, ByteArray.toList_eq]; exact ⟨rfl, rfl⟩
   have k_0 := kk
   exact Ub
  |clear k_1
   obtain ⟨Qd, Qc⟩ : (T.name.toList == []) = false ∧ (T.name.toList != []) = true := j5 dc
   have k_1 := kk
   exact Ub
 |clear k_1
  obtain ⟨gG, gB, gE, gA⟩ := fD.out w (Below.refl _ _)
  first
  |clear k_0
   obtain ⟨qM, qL, oi, oh⟩ := mU.out w (Below.refl _ _)
   have gh : 0 < T.len := by omega
   have np : (1 : Int) < (T.len : Int) := by omega
   have j8 : 1 < T.len := by omega
   have Kc : (2 : Int) < (T.len : Int) := by omega
   have D1 : 2 < T.len := by omega
   have yY : (T.len : Int) - 1 = 2 := by omega
   have bI := jz
   first
   |clear k_0
    obtain ⟨Qd, Qc⟩ : (T.name.toList == []) = true ∧ (T.name.toList != []) = false := by rw [nx dc, ByteArray.toList_eq]; exact ⟨rfl, rfl⟩
    rw [jy] at *
    clear hS hE hN az aW bp aS aQ eT dE ed fG iy jH jy hl b6 gJ aq hb ho cX jB bh hd qX dc
    cases hM : CR.bind (aC (bL K.F (T.kids 0)) 3 (ab s)) (aC (bL K.F (T.kids 1)) 1) with
    |error p =>
     exact bT0
    |ok s1 =>
     have iB := aa hM
     clear hM
     rw [CR.bind_ok]
     obtain ⟨sU, vG, jA, qI, FG⟩ := yg.out s1 (Jl.out _ iB.out).1 (Jl.out _ iB.out).2
     have vx : Hid ((([] : List (ByteArray × Int)) :: s1.1, s1.2).2.length + (T.kids 2).size ≤ K.N) := sU
     have k_0 := kk
     exact Uf
   |clear k_1
    obtain ⟨Qd, Qc⟩ : (T.name.toList == []) = false ∧ (T.name.toList != []) = true := j5 dc
    rw [jy] at *
    clear hS hE hN az aW bp aS aQ eT dE ed fG iy jH jy hl b6 gJ aq hb ho cX jB bh hd qX dc
    cases hM : CR.bind (aC (bL K.F (T.kids 0)) 3 (ab s)) (aC (bL K.F (T.kids 1)) 1) with
    |error p =>
     exact bT0
    |ok s1 =>
     have iB := aa hM
     clear hM
     rw [CR.bind_ok]
     obtain ⟨sU, vG, jA, qI, FG⟩ := yg.out s1 (Jl.out _ iB.out).1 (Jl.out _ iB.out).2
     have vx : Hid ((([(T.name, 1)] : List (ByteArray × Int)) :: s1.1, s1.2).2.length + (T.kids 2).size ≤ K.N) := sU
     have k_0 := kk
     exact Ug
  |clear k_1
   have gh : 0 < T.len := by omega
   have np : (1 : Int) < (T.len : Int) := by omega
   have j8 : 1 < T.len := by omega
   first
   |clear k_0
    have hl3 : ((T.len : Int) == 3) = false := bn (by omega)
    clear hS hE hN az aW bp aS aQ eT dE ed fG aN hk hl b6 gJ aq hb1 yO cX
    cases hM : aC (bL K.F (T.kids 0)) 2 (ab s) with
    |error p =>
     have HM := aa hM
     clear hM
     rw [CR.bind_error]
     go_enter Tryz.func122, Tryz.ntmps122
     go_wp2_with (first
      |(go_at_call 117; refine (dq (ji.out _ _ _ _ _ 2 bb.out iC.out) HM.out).mono ?_; rintro e w2 ⟨rfl, hb2⟩; skip))
     exact Ni
    |ok s1 =>
     have HM := aa hM
     clear hM
     rw [CR.bind_ok]
     have iB := HM
     obtain ⟨dJ, ft⟩ := l6.out _ iB.out
     have HX := aa dJ
     have HD := aa ft
     clear dJ ft
     cases hM : within [] ((bY K.F (T.kids 1)).sts cx) s1 with
     |error p =>
      have HM := aa hM
      clear hM
      go_enter Tryz.func122, Tryz.ntmps122
      go_wp2_with (first
       |(go_at_call 117; refine (cq (ji.out _ _ _ _ _ 2 bb.out iC.out) iB.out).mono ?_; rintro e w2 ⟨rfl, aD⟩; obtain ⟨b0, b1, b2, b3⟩ := ai (cJ.out _ _ _ _ _ aD); obtain ⟨eD, eC, eB, eA⟩ := dH.out _ (bz.out _ _ _ _ _ aD); obtain ⟨gG, gB, gE, gA⟩ := fD.out _ (bz.out _ _ _ _ _ aD); have bM := aa aD; clear aD)
       |(go_at_call 115; refine (dq (nJ.out _ _ bM.out HX.out HD.out) HM.out).mono ?_; rintro e w3 ⟨rfl, hb3⟩; skip))
      exact ⟨rfl, rfl, (bz.out _ _ _ _ _ bM.out).trans hb3⟩
     |ok s2 =>
      have HM := aa hM
      clear hM
      go_enter Tryz.func122, Tryz.ntmps122
      go_wp2_with (first
       |(go_at_call 117; refine (cq (ji.out _ _ _ _ _ 2 bb.out iC.out) iB.out).mono ?_; rintro e w2 ⟨rfl, aD⟩; obtain ⟨b0, b1, b2, b3⟩ := ai (cJ.out _ _ _ _ _ aD); obtain ⟨eD, eC, eB, eA⟩ := dH.out _ (bz.out _ _ _ _ _ aD); obtain ⟨gG, gB, gE, gA⟩ := fD.out _ (bz.out _ _ _ _ _ aD); have bM := aa aD; clear aD)
       |(go_at_call 115; refine (cq (nJ.out _ _ bM.out HX.out HD.out) HM.out).mono ?_; rintro e w3 ⟨rfl, bW⟩; obtain ⟨b0, b1, b2, b3⟩ := ai (cJ.out _ _ _ _ _ bW); have fa := aa bW; clear bW))
      go_end0
      exact ⟨rfl, fc.out _ _ _ _ _ fa.out⟩
   |clear k_1
    have yY : (T.len : Int) - 1 = 1 := by omega
    have bI := jz
    first
    |clear k_0
     obtain ⟨Qd, Qc⟩ : (T.name.toList == []) = true ∧ (T.name.toList != []) = false := by rw [nx dc, ByteArray.toList_eq]; exact ⟨rfl, rfl⟩
     rw [jy] at *
     clear hS hE hN az aW bp aS aQ eT dE ed fG jy hl b6 gJ aq hb ho cX bh hd qX dc
     cases hM : aC (bL K.F (T.kids 0)) 3 (ab s) with
     |error p =>
      exact bT1
     |ok s1 =>
      have iB := aa hM
      clear hM
      rw [CR.bind_ok]
      obtain ⟨sU, vG, jA, qI, FG⟩ := yg.out s1 (Jl.out _ iB.out).1 (by rw [(Jl.out _ iB.out).2, aP])
      have vx : Hid ((([] : List (ByteArray × Int)) :: s1.1, s1.2).2.length + (T.kids 1).size ≤ K.N) := sU
      have k_1 := kk
      exact Uf
    |clear k_1
     obtain ⟨Qd, Qc⟩ : (T.name.toList == []) = false ∧ (T.name.toList != []) = true := j5 dc
     rw [jy] at *
     clear hS hE hN az aW bp aS aQ eT dE ed fG jy hl b6 gJ aq hb ho cX bh hd qX dc
     cases hM : aC (bL K.F (T.kids 0)) 3 (ab s) with
     |error p =>
      exact bT1
     |ok s1 =>
      have iB := aa hM
      clear hM
      rw [CR.bind_ok]
      obtain ⟨sU, vG, jA, qI, FG⟩ := yg.out s1 (Jl.out _ iB.out).1 (by rw [(Jl.out _ iB.out).2, aP])
      have vx : Hid ((([(T.name, 1)] : List (ByteArray × Int)) :: s1.1, s1.2).2.length + (T.kids 1).size ≤ K.N) := sU
      have k_1 := kk
      exact Ug) : G := h
theorem Uh (h : G := by
 have Ib : (j : Int) < (T.len : Int) := by omega
 obtain ⟨g, off, l5, lZ, iW, rR, aQ⟩ := kH.out (by omega)
 injection lZ with ti Kz th
 subst ti
 subst th
 obtain ⟨u, kE, jG⟩ := aQ j bB
 obtain ⟨au, qu, hu, pV, AU⟩ := ar.1 jG
 subst hu
 clear AU
 obtain ⟨c0, c1, c2, c3⟩ := kE _ (bz.out _ _ _ _ _ cr)
 first
 |clear k_0
  have HW := aa (fun o => Jq.out j bB _ jG (wr.alloc o) st (cr.alloc o) aM)
  have kB : Hid (forN (fun i => (bY K.F (T.kids i)).st cx) (j + 1) (ab s) = (bY K.F (T.kids j)).st cx st) := by unfold Hid; simp only [forN, aM]; rfl
  have yj := aa (fun o => (bz.out _ _ _ _ _ cr).trans (cr.box o))
  unfold Nd.val at HW
  clear aQ kE jG cr
  cases hM : (bY K.F (T.kids j)).st cx st with
  |error p =>
   have HM := aa hM
   have qC : Hid (forN (fun i => (bY K.F (T.kids i)).st cx) T.len (ab s) = .error p) := ie (kB.out.trans hM) (show j + 1 ≤ T.len by omega)
   clear hM aM
   go_wp2_with (first
    |(go_at_call 104; refine (dq (HW.out _) HM.out).mono ?_; rintro e w2 ⟨rfl, hb2⟩; skip))
   refine ⟨rfl, ?_⟩
   rw [fQ qC.out]
   exact ⟨rfl, (yj.out _).trans hb2⟩
  |ok s1 =>
   have HM := aa hM
   clear hM aM
   go_wp2_with (first
    |(go_at_call 104; refine (cq (HW.out _) HM.out).mono ?_; rintro e w2 ⟨rfl, aD⟩; have bM := aa aD; clear aD))
   exact ⟨⟨j + 1, by omega, by go_num, s1, by rw [kB.out, HM.out], bM.out⟩, by simp [intOf]; omega⟩
 |clear k_1
  obtain ⟨yL, D4, yK⟩ := HCT.out j st hj aM
  have gX := KQ.out j bB
  have Hx : 0 < (T.kids j).size := by rw [(T.kids j).size_eq]; omega
  obtain ⟨O2, dJ, MH, RQ, sX⟩ := cr.boxed (.cells #[.int .i64 (T.kids j).kind, .int .i64 (T.kids j).num, .string (T.kids j).name, .slice au (T.kids j).len qu] 25)
  have iA := aa (ia dJ (by omega))
  have hvv := cr.len.vars
  have oO := aa (fun s' r' l' o' W (h : IS K (wr.alloc (.cells #[.int .i64 (T.kids j).kind, .int .i64 (T.kids j).num, .string (T.kids j).name, .slice au (T.kids j).len qu] 25)) O2 s' r' l' o' W) => bz.out _ _ _ _ _ (MH _ _ _ _ _ h))
  have Jy := aa MH
  have Oh := aa RQ
  have Jv := aa (fun (f : Bool) (OC : ¬ ((T.kids j).num = 0 ∧ f = true)) (W : World) (hW : IS K (wr.alloc (.cells #[.int .i64 (T.kids j).kind, .int .i64 (T.kids j).num, .string (T.kids j).name, .slice au (T.kids j).len qu] 25)) O2 (ab st) cx.ret cx.loops ((ag : Int) + 1) W) => HIC.out j bB f OC _ jG _ O2 W st st.2.length hW (oO.out _ _ _ _ _ hW) (by omega) D4 yK hvv)
  have kB : Hid (re K.F T ⟨cx.ret, cx.loops, cx.outs + 1⟩ (ab s) (j + 1) = (bY K.F (T.kids j)).cs (kh T j) ⟨cx.ret, cx.loops, cx.outs + 1⟩ st) := by unfold Hid; rw [qj, aM]; rfl
  have zw : Hid (kh T (j + 1) = (kh T j || decide ((T.kids j).num = 0))) := rfl
  have gi : Hid ((T.kids j).kind = 16) := (zk (HCO.out j bB)).1
  unfold Nd.val at Jv
  clear aQ kE jG cr dJ MH RQ sX aM hvv yL D4 yK
  generalize T.kids j = D at *
  by_cases sY : D.num = 0 ∧ kh T j = true
  ·obtain ⟨h0, hfj⟩ := sY
   have e1 : (D.num == 0) = true := beq_iff_eq.2 h0
   have qC : Hid (re K.F T ⟨cx.ret, cx.loops, cx.outs + 1⟩ (ab s) T.len = .error (6, st.2.length)) := pd (by rw [kB.out, hfj]; exact KF gi.out h0) (show j + 1 ≤ T.len by omega)
   generalize kh T j = fj at *
   subst hfj
   clear h0
   go_wp2_with (first
    |(go_at_call 69; refine iA.out.mono ?_; rintro e x2 ⟨rfl, ft⟩; obtain ⟨b0, b1, b2, b3⟩ := ai (Oh.out _ _ _ _ _ ft); have ly := aa ft; clear ft))
   refine ⟨rfl, ?_⟩
   rw [fQ qC.out]
   exact ⟨rfl, oO.out _ _ _ _ _ ly.out⟩
  ·have qD := aa sY
   clear sY
   cases hM : (bY K.F D).cs (kh T j) ⟨cx.ret, cx.loops, cx.outs + 1⟩ st with
   |error p =>
    have HM := aa hM
    have qC : Hid (re K.F T ⟨cx.ret, cx.loops, cx.outs + 1⟩ (ab s) T.len = .error p) := pd (by rw [kB.out]; exact hM) (show j + 1 ≤ T.len by omega)
    clear hM
    have qQ := aa (fun W hW => dq (Jv.out (kh T j) qD.out W hW) HM.out)
    have ky : (kh T j = true ∧ (D.num == 0) = false) ∨ (kh T j = false ∧ (D.num == 0) = true) ∨ (kh T j = false ∧ (D.num == 0) = false) := by
     by_cases h0 : D.num = 0
     ·cases hf : kh T j with
      |true => exact absurd ⟨h0, hf⟩ qD.out
      |false => exact .inr (.inl ⟨rfl, beq_iff_eq.2 h0⟩)
     ·cases hf : kh T j with
      |true => exact .inl ⟨rfl, bn h0⟩
      |false => exact .inr (.inr ⟨rfl, bn h0⟩)
    clear Jv kB zw qD HM
    generalize kh T j = fj at *
    rcases ky with ⟨rfl, e1⟩ | ⟨rfl, e1⟩ | ⟨rfl, e1⟩
    all_goals go_wp2_with (first
     |(go_at_call 69; refine iA.out.mono ?_; rintro e x2 ⟨rfl, ft⟩; obtain ⟨b0, b1, b2, b3⟩ := ai (Oh.out _ _ _ _ _ ft); have ly := aa ft; clear ft)
     |(go_at_call 134; refine (qQ.out _ ly.out).mono ?_; rintro e x3 ⟨rfl, hb3⟩; skip))
    all_goals refine ⟨rfl, ?_⟩
    all_goals rw [fQ qC.out]
    all_goals exact ⟨rfl, (oO.out _ _ _ _ _ ly.out).trans hb3⟩
   |ok s1 =>
    have HM := aa hM
    clear hM
    have qQ := aa (fun W hW => cq (Jv.out (kh T j) qD.out W hW) HM.out)
    have vw : Hid (re K.F T ⟨cx.ret, cx.loops, cx.outs + 1⟩ (ab s) (j + 1) = .ok s1) := kB.out.trans HM.out
    have ky : (kh T j = true ∧ (D.num == 0) = false ∧ kh T (j + 1) = true) ∨ (kh T j = false ∧ (D.num == 0) = true ∧ kh T (j + 1) = true) ∨ (kh T j = false ∧ (D.num == 0) = false ∧ kh T (j + 1) = false) := by
     rw [zw.out]
     by_cases h0 : D.num = 0
     ·cases hf : kh T j with
      |true => exact absurd ⟨h0, hf⟩ qD.out
      |false => exact .inr (.inl ⟨rfl, beq_iff_eq.2 h0, by rw [decide_eq_true h0]; rfl⟩)
     ·cases hf : kh T j with
      |true => exact .inl ⟨rfl, bn h0, rfl⟩
      |false => exact .inr (.inr ⟨rfl, bn h0, by rw [decide_eq_false h0]; rfl⟩)
    clear Jv kB zw qD HM
    generalize kh T j = fj at *
    rcases ky with ⟨rfl, e1, e9⟩ | ⟨rfl, e1, e9⟩ | ⟨rfl, e1, e9⟩
    all_goals have H9 := aa e9
    all_goals clear e9
    all_goals go_wp2_with (first
     |(go_at_call 69; refine iA.out.mono ?_; rintro e x2 ⟨rfl, ft⟩; obtain ⟨b0, b1, b2, b3⟩ := ai (Oh.out _ _ _ _ _ ft); have ly := aa ft; clear ft)
     |(go_at_call 134; refine (qQ.out _ ly.out).mono ?_; rintro e x3 ⟨rfl, mF⟩; have vL := aa (Jy.out _ _ _ _ _ mF); clear mF))
    all_goals exact ⟨⟨j + 1, by omega, by go_num, by rw [H9.out], s1, vw.out, vL.out⟩, by simp [intOf]; omega⟩) : G := h
theorem Ug (h : G := by
 have yd := aa jA
 have Jr : Hid (aO ([] :: s1.1) + 1 ≤ s1.2.length) := by unfold Hid; rw [jX]; exact qI
 have yc : Hid ((([(T.name, 1)] : List (ByteArray × Int)) :: s1.1, s1.2).1.length ≤ (([(T.name, 1)] : List (ByteArray × Int)) :: s1.1, s1.2).2.length) := by unfold Hid; simp; omega
 clear sU vG jA qI FG
 unfold within
 first
 |clear k_0
  cases hM : (bY K.F (T.kids 2)).sts cx ([(T.name, 1)] :: s1.1, s1.2) with
  |error pe =>
   have k_1 := kk
   exact Ur
  |ok s9 =>
   have k_1 := kk
   exact Uq
 |clear k_1
  cases hM : (bY K.F (T.kids 1)).sts cx ([(T.name, 1)] :: s1.1, s1.2) with
  |error pe =>
   have HM := aa hM
   clear hM
   rw [CR.bind_error]
   go_enter Tryz.func134, Tryz.ntmps134
   go_wp2_with (first
    |(go_at_call 117; refine (cq (ji.out _ _ _ _ _ 3 bb.out iC.out) iB.out).mono ?_; rintro e w2 ⟨rfl, aD⟩; obtain ⟨b0, b1, b2, b3⟩ := ai (cJ.out _ _ _ _ _ aD); obtain ⟨eD, eC, eB, eA⟩ := dH.out _ (bz.out _ _ _ _ _ aD); obtain ⟨gG, gB, gE, gA⟩ := fD.out _ (bz.out _ _ _ _ _ aD); have bM := aa aD; clear aD)
    |(go_at_call 90; refine (dx bM.out yd.out).mono ?_; rintro e x1 ⟨rfl, dJ⟩; obtain ⟨b0, b1, b2, b3⟩ := ai (cJ.out _ _ _ _ _ dJ); obtain ⟨eD, eC, eB, eA⟩ := dH.out _ (bz.out _ _ _ _ _ dJ); obtain ⟨gG, gB, gE, gA⟩ := fD.out _ (bz.out _ _ _ _ _ dJ); have l6 := aa dJ; clear dJ)
    |(go_at_call 91; refine (cq (fA l6.out T.name 1 p (by simp) (by decide) qA.out Jr.out) rfl).mono ?_; rintro e x2 ⟨rfl, ld⟩; have ft : IS K _ O1 ([(T.name, 1)] :: s1.1, s1.2) cx.ret cx.loops ag x2 := ld; clear ld; obtain ⟨b0, b1, b2, b3⟩ := ai (cJ.out _ _ _ _ _ ft); obtain ⟨eD, eC, eB, eA⟩ := dH.out _ (bz.out _ _ _ _ _ ft); obtain ⟨gG, gB, gE, gA⟩ := fD.out _ (bz.out _ _ _ _ _ ft); have ly := aa ft; clear ft)
    |(go_at_call 92; refine (dq (kt.out _ _ ly.out vx.out (by simp) yc.out) HM.out).mono ?_; rintro e x3 ⟨rfl, hb3⟩; skip))
   exact Nk
  |ok s9 =>
   have HM := aa hM
   clear hM
   rw [CR.bind_ok]
   go_enter Tryz.func134, Tryz.ntmps134
   go_wp2_with (first
    |(go_at_call 117; refine (cq (ji.out _ _ _ _ _ 3 bb.out iC.out) iB.out).mono ?_; rintro e w2 ⟨rfl, aD⟩; obtain ⟨b0, b1, b2, b3⟩ := ai (cJ.out _ _ _ _ _ aD); obtain ⟨eD, eC, eB, eA⟩ := dH.out _ (bz.out _ _ _ _ _ aD); obtain ⟨gG, gB, gE, gA⟩ := fD.out _ (bz.out _ _ _ _ _ aD); have bM := aa aD; clear aD)
    |(go_at_call 90; refine (dx bM.out yd.out).mono ?_; rintro e x1 ⟨rfl, dJ⟩; obtain ⟨b0, b1, b2, b3⟩ := ai (cJ.out _ _ _ _ _ dJ); obtain ⟨eD, eC, eB, eA⟩ := dH.out _ (bz.out _ _ _ _ _ dJ); obtain ⟨gG, gB, gE, gA⟩ := fD.out _ (bz.out _ _ _ _ _ dJ); have l6 := aa dJ; clear dJ)
    |(go_at_call 91; refine (cq (fA l6.out T.name 1 p (by simp) (by decide) qA.out Jr.out) rfl).mono ?_; rintro e x2 ⟨rfl, ld⟩; have ft : IS K _ O1 ([(T.name, 1)] :: s1.1, s1.2) cx.ret cx.loops ag x2 := ld; clear ld; obtain ⟨b0, b1, b2, b3⟩ := ai (cJ.out _ _ _ _ _ ft); obtain ⟨eD, eC, eB, eA⟩ := dH.out _ (bz.out _ _ _ _ _ ft); obtain ⟨gG, gB, gE, gA⟩ := fD.out _ (bz.out _ _ _ _ _ ft); have ly := aa ft; clear ft)
    |(go_at_call 92; refine (cq (kt.out _ _ ly.out vx.out (by simp) yc.out) HM.out).mono ?_; rintro e x3 ⟨rfl, mF⟩; have vL := aa mF; clear mF)
    |(go_at_call 93; refine (fx vL.out (oZ.out _ _ _ HM.out)).mono ?_; rintro e x4 ⟨rfl, oG⟩; have Fi := aa oG; clear oG))
   go_end0
   exact ⟨rfl, fc.out _ _ _ _ _ Fi.out⟩) : G := h
theorem Uf (h : G := by
 have yd := aa jA
 have Jr : Hid (aO ([] :: s1.1) + 1 ≤ s1.2.length) := by unfold Hid; rw [jX]; exact qI
 have yc : Hid ((([] : List (ByteArray × Int)) :: s1.1, s1.2).1.length ≤ (([] : List (ByteArray × Int)) :: s1.1, s1.2).2.length) := by unfold Hid; simp; omega
 clear sU vG jA qI FG
 unfold within
 first
 |clear k_0
  cases hM : (bY K.F (T.kids 2)).sts cx ([] :: s1.1, s1.2) with
  |error pe =>
   have k_0 := kk
   exact Ur
  |ok s9 =>
   have k_0 := kk
   exact Uq
 |clear k_1
  cases hM : (bY K.F (T.kids 1)).sts cx ([] :: s1.1, s1.2) with
  |error pe =>
   have HM := aa hM
   clear hM
   rw [CR.bind_error]
   go_enter Tryz.func134, Tryz.ntmps134
   go_wp2_with (first
    |(go_at_call 117; refine (cq (ji.out _ _ _ _ _ 3 bb.out iC.out) iB.out).mono ?_; rintro e w2 ⟨rfl, aD⟩; obtain ⟨b0, b1, b2, b3⟩ := ai (cJ.out _ _ _ _ _ aD); obtain ⟨eD, eC, eB, eA⟩ := dH.out _ (bz.out _ _ _ _ _ aD); obtain ⟨gG, gB, gE, gA⟩ := fD.out _ (bz.out _ _ _ _ _ aD); have bM := aa aD; clear aD)
    |(go_at_call 90; refine (dx bM.out yd.out).mono ?_; rintro e x1 ⟨rfl, dJ⟩; obtain ⟨b0, b1, b2, b3⟩ := ai (cJ.out _ _ _ _ _ dJ); obtain ⟨eD, eC, eB, eA⟩ := dH.out _ (bz.out _ _ _ _ _ dJ); obtain ⟨gG, gB, gE, gA⟩ := fD.out _ (bz.out _ _ _ _ _ dJ); have l6 := aa dJ; clear dJ)
    |(go_at_call 92; refine (dq (kt.out _ _ l6.out vx.out (by simp) yc.out) HM.out).mono ?_; rintro e x3 ⟨rfl, hb3⟩; skip))
   exact Nl
  |ok s9 =>
   have HM := aa hM
   clear hM
   rw [CR.bind_ok]
   go_enter Tryz.func134, Tryz.ntmps134
   go_wp2_with (first
    |(go_at_call 117; refine (cq (ji.out _ _ _ _ _ 3 bb.out iC.out) iB.out).mono ?_; rintro e w2 ⟨rfl, aD⟩; obtain ⟨b0, b1, b2, b3⟩ := ai (cJ.out _ _ _ _ _ aD); obtain ⟨eD, eC, eB, eA⟩ := dH.out _ (bz.out _ _ _ _ _ aD); obtain ⟨gG, gB, gE, gA⟩ := fD.out _ (bz.out _ _ _ _ _ aD); have bM := aa aD; clear aD)
    |(go_at_call 90; refine (dx bM.out yd.out).mono ?_; rintro e x1 ⟨rfl, dJ⟩; obtain ⟨b0, b1, b2, b3⟩ := ai (cJ.out _ _ _ _ _ dJ); obtain ⟨eD, eC, eB, eA⟩ := dH.out _ (bz.out _ _ _ _ _ dJ); obtain ⟨gG, gB, gE, gA⟩ := fD.out _ (bz.out _ _ _ _ _ dJ); have l6 := aa dJ; clear dJ)
    |(go_at_call 92; refine (cq (kt.out _ _ l6.out vx.out (by simp) yc.out) HM.out).mono ?_; rintro e x3 ⟨rfl, mF⟩; have vL := aa mF; clear mF)
    |(go_at_call 93; refine (fx vL.out (oZ.out _ _ _ HM.out)).mono ?_; rintro e x4 ⟨rfl, oG⟩; have Fi := aa oG; clear oG))
   go_end0
   exact ⟨rfl, fc.out _ _ _ _ _ Fi.out⟩) : G := h
theorem Ue (h : G := by
 have hn := T.fine_len hN.fine
 obtain ⟨a, cap, hv, b7, hq⟩ := ar.1 hN.row
 subst hv
 obtain ⟨O1, az, aW, bp, aS⟩ := hS.boxed (.cells #[.int .i64 T.kind, .int .i64 T.num, .string T.name, .slice a T.len cap] 25)
 have cJ := aa bp
 have bz := aa aS
 have fc := aa aW
 first
 |clear k_0
  have iA := aa (ia az (by omega))
  have kH := aa (fun (h0 : T.len ≠ 0) => cN hN.row h0)
  have KT : Hid (∀ j st, j ≤ T.len → forN (fun i => (bY K.F (T.kids i)).st cx) j (ab s) = .ok st → st.2.length = aV T s.2.length j ∧ st.1 ≠ [] ∧ st.1.length + 1 ≤ st.2.length) := by
   intro j st hj h
   obtain ⟨r1, r2, r3, r4⟩ := (StL.forN (g := fun i => (T.kids i).size) (fun i hi => (iq K.F (T.kids i)).st (oP i hi) cx) hj) (ab s) st bh h
   rw [aP] at r3
   refine ⟨by rw [r3]; unfold aV; omega, fun e => ?_, ?_⟩
   ·rw [e] at r2; exact bh (List.length_eq_zero_iff.1 r2.symm)
   ·have : st.1.length = s.1.length := r2
    omega
  have Jq := aa (fun (j : Nat) (hj : j < T.len) (u : Value) (hr : Row 0 K.lo w (T.kids j) u) (W : World) (st : CS) (hW : IS K (w.alloc (.cells #[.int .i64 T.kind, .int .i64 T.num, .string T.name, .slice a T.len cap] 25)) O1 st cx.ret cx.loops ag W) (aM : forN (fun i => (bY K.F (T.kids i)).st cx) j (ab s) = .ok st) => ih j hj K _ O1 st cx ag W u gJ hW (hE.later (aS _ _ _ _ _ hW)) ((hN.kid hj hr).later (aS _ _ _ _ _ hW)) (by have := (KT.out j st (Nat.le_of_lt hj) aM).1; have := bP T s.2.length hj; omega) (oP j hj) (KT.out j st (Nat.le_of_lt hj) aM).2.1 (KT.out j st (Nat.le_of_lt hj) aM).2.2 (by have := aH T hj; omega) (by have := aH T hj; omega))
  unfold Nd.val at *
  clear hS hE hN az aW bp aS aN hq ih aq bh hd oP h4
  generalize s.2.length = q at *
  go_enter Tryz.func92, Tryz.ntmps92
  go_wp2_with (first
   |(go_at_call 69; refine iA.out.mono ?_; rintro e w1 ⟨rfl, az⟩; obtain ⟨b0, b1, b2, b3⟩ := ai (cJ.out _ _ _ _ _ az); have bb := aa az; clear az))
  go_loopw [11] (fun i wr => ∃ j : Nat, j ≤ T.len ∧ i = .int .i64 j ∧ ∃ st, forN (fun i => (bY K.F (T.kids i)).st cx) j (ab s) = .ok st ∧ IS K (w.alloc (.cells #[.int .i64 T.kind, .int .i64 T.num, .string T.name, .slice a T.len cap] 25)) O1 st cx.ret cx.loops ag wr) (fun i _ => T.len - (intOf i).toNat)
  case atStart => exact ⟨0, Nat.zero_le _, rfl, ab s, rfl, bb.out⟩
  case round =>
   obtain ⟨j, hj, rfl, st, aM, cr⟩ := hrel
   by_cases bB : j < T.len
   ·have k_0 := kk
    exact Uh
   ·obtain rfl : j = T.len := by omega
    have iK := aa cr
    exact Uz
 |clear k_1
  have HSS1 := aa (az.setN ((ag : Int) + 1)).2
  obtain ⟨n4, n7, n8, MR, MQ⟩ := az.nums
  have dm := hS.ok.few
  have kH := aa (fun (h0 : T.len ≠ 0) => cN hN.row h0)
  have HCT : Hid (∀ j st, j ≤ T.len → re K.F T ⟨cx.ret, cx.loops, cx.outs + 1⟩ (ab s) j = .ok st → st.2.length = aV T s.2.length j ∧ st.1 ≠ [] ∧ st.1.length + 1 ≤ st.2.length) := by
   intro j st hj h
   obtain ⟨r1, r2⟩ := EN (F := K.F) (cx := ⟨cx.ret, cx.loops, cx.outs + 1⟩) Ko bh hj st h
   obtain ⟨_, r3, _, _⟩ := (StL.forN (g := fun i => (T.kids i).size) (fun i hi => (iq K.F (T.kids i)).cs (Ko i hi) _ _) hj) (ab s) st bh h
   refine ⟨r1, r2, ?_⟩
   have e3 : st.1.length = s.1.length := r3
   have : aV T s.2.length j ≥ s.2.length + 1 := by unfold aV; omega
   omega
  have HIC := aa (fun (j : Nat) (hj : j < T.len) (f : Bool) (OC : ¬ ((T.kids j).num = 0 ∧ f = true)) (u : Value) (hr : Row 0 K.lo w (T.kids j) u) (w9 : World) (O9 : Nat → Prop) (W : World) (st : CS) (p : Nat) (hW : IS K w9 O9 (ab st) cx.ret cx.loops ((ag : Int) + 1) W) (hb : Below K.lo w W) (hfj : st.2.length + (T.kids j).size ≤ K.N) (dr : st.1 ≠ []) (OG : st.1.length + 1 ≤ st.2.length) (hvv : aO st.1 ≤ st.2.length) => L1 bE (Ko j hj) f OC (fun U hU => b6 U (by have := aH T hj; omega)) K w9 O9 st ⟨cx.ret, cx.loops, cx.outs + 1⟩ (ag + 1) W u p (show cx.outs + 1 = cx.loops + (ag + 1) by omega) hW (hE.later hb) ((hN.kid hj hr).later hb) hfj dr OG hvv (by have := aH T hj; show cx.loops + _ ≤ _; omega) (by have := aH T hj; omega))
  have KQ := aa (fun i (h : i < T.len) => bP T s.2.length h)
  have hsb : ag ≤ 1099511627776 := by omega
  have hcbn : ¬ K.cb = w.heap.size := by have := hS.lt; omega
  have hcbm : ¬ w.heap.size = K.cb := by have := hS.lt; omega
  unfold Nd.val at *
  have HCO := aa Ko
  clear hS hE hN az aW bp aS aN hk hq b6 bh hd Ko gJ
  generalize s.2.length = q at *
  go_enter Tryz.func125, Tryz.ntmps125
  go_wp2
  go_loopw [4, 19] (fun hd i wr => ∃ j : Nat, j ≤ T.len ∧ i = .int .i64 j ∧ hd = .bool (kh T j) ∧ ∃ st, re K.F T ⟨cx.ret, cx.loops, cx.outs + 1⟩ (ab s) j = .ok st ∧ IS K (w.alloc (.cells #[.int .i64 T.kind, .int .i64 T.num, .string T.name, .slice a T.len cap] 25)) O1 st cx.ret cx.loops ((ag : Int) + 1) wr) (fun _ i _ => T.len - (intOf i).toNat)
  case atStart => exact ⟨0, Nat.zero_le _, rfl, rfl, ab s, rfl, HSS1.out⟩
  case round =>
   obtain ⟨j, hj, rfl, rfl, st, aM, cr⟩ := hrel
   by_cases bB : j < T.len
   ·have k_1 := kk
    exact Uh
   ·obtain rfl : j = T.len := by omega
    obtain ⟨m4, m7, m8, gr7, gr8⟩ := cr.nums
    have iK := aa (cr.setN (ag : Int)).2
    exact Uz) : G := h
theorem Ud (h : G := by
 obtain ⟨g, off, cap, hv, iW, b7, aQ⟩ := cN hN.row (by omega)
 subst hv
 obtain ⟨u0, eT, dE⟩ := aQ 0 (by omega)
 simp only [Nat.zero_mul, Nat.add_zero] at eT
 obtain ⟨a0, q0, J4, RK, D0⟩ := ar.1 dE
 clear D0
 subst J4
 have dH := aa eT
 first
 |clear k_0
  obtain ⟨u1, ed, fG⟩ := aQ 1 (by omega)
  simp only [Nat.one_mul] at ed
  obtain ⟨a1, q1, Ma, RJ, DZ⟩ := ar.1 fG
  clear DZ
  subst Ma
  have fD := aa ed
  first
  |clear k_0
   have k_0 := kk
   exact Ul
  |clear k_1
   obtain ⟨u2, iy, jH⟩ := aQ 2 (by omega)
   simp only [Nat.reduceMul] at iy
   obtain ⟨a2, q2, Hu, hcp2, hqq2⟩ := ar.1 jH
   clear hqq2
   subst Hu
   have mU := aa iy
   have k_1 := kk
   exact Ul
 |clear k_1
  have k_1 := kk
  exact Uj) : G := h
theorem Uc (h : G := by
 go_enter Tryz.func127, Tryz.ntmps127
 go_wp2_with (first
  |(go_at_call 131; refine (kB.out _).mono ?_; rintro e w1 ⟨rfl, rfl⟩)
  |(go_at_call 116; refine (HC.out _).mono ?_; rintro e w2 ⟨rfl, aD⟩; have bM := aa aD; clear aD))
 exact TZ) : G := h
theorem Ub (h : G := by
 rw [jy] at *
 clear hS hE hN az aW bp aS aQ eT dE jy hl b6 gJ aq hb ho bh hd qX dc
 obtain ⟨sU, vG, jA, qI, FG⟩ := (⟨sU, vG, jA, qI, FG⟩ : _ ∧ _ ∧ _ ∧ _ ∧ _)
 first
 |clear k_0
  have vx : Hid ((([] : List (ByteArray × Int)) :: (ab s).1, (ab s).2).2.length + (T.kids 0).size ≤ K.N) := sU
  have yd := aa jA
  have Jr : Hid (aO ([] :: (ab s).1) + 1 ≤ (ab s).2.length) := by unfold Hid; rw [jX]; exact qI
  have yc : Hid ((([] : List (ByteArray × Int)) :: (ab s).1, (ab s).2).1.length ≤ (([] : List (ByteArray × Int)) :: (ab s).1, (ab s).2).2.length) := by unfold Hid; simp; omega
  clear sU vG jA qI FG
  unfold within
  cases hM : (bY K.F (T.kids 0)).sts cx ([] :: (ab s).1, (ab s).2) with
  |error pe =>
   have HM := aa hM
   clear hM
   rw [CR.bind_error]
   go_enter Tryz.func134, Tryz.ntmps134
   go_wp2_with (first
    |(go_at_call 90; refine (dx bb.out yd.out).mono ?_; rintro e x1 ⟨rfl, dJ⟩; obtain ⟨b0, b1, b2, b3⟩ := ai (cJ.out _ _ _ _ _ dJ); obtain ⟨eD, eC, eB, eA⟩ := dH.out _ (bz.out _ _ _ _ _ dJ); have l6 := aa dJ; clear dJ)
    |(go_at_call 92; refine (dq (kt.out _ _ l6.out vx.out (by simp) yc.out) HM.out).mono ?_; rintro e x3 ⟨rfl, hb3⟩; skip))
   exact Nl
  |ok s9 =>
   have HM := aa hM
   clear hM
   rw [CR.bind_ok]
   go_enter Tryz.func134, Tryz.ntmps134
   go_wp2_with (first
    |(go_at_call 90; refine (dx bb.out yd.out).mono ?_; rintro e x1 ⟨rfl, dJ⟩; obtain ⟨b0, b1, b2, b3⟩ := ai (cJ.out _ _ _ _ _ dJ); obtain ⟨eD, eC, eB, eA⟩ := dH.out _ (bz.out _ _ _ _ _ dJ); have l6 := aa dJ; clear dJ)
    |(go_at_call 92; refine (cq (kt.out _ _ l6.out vx.out (by simp) yc.out) HM.out).mono ?_; rintro e x3 ⟨rfl, mF⟩; have vL := aa mF; clear mF)
    |(go_at_call 93; refine (fx vL.out (oZ.out _ _ _ HM.out)).mono ?_; rintro e x4 ⟨rfl, oG⟩; have Fi := aa oG; clear oG))
   go_end0
   exact ⟨rfl, fc.out _ _ _ _ _ Fi.out⟩
 |clear k_1
  have vx : Hid ((([(T.name, 1)] : List (ByteArray × Int)) :: (ab s).1, (ab s).2).2.length + (T.kids 0).size ≤ K.N) := sU
  have yd := aa jA
  have Jr : Hid (aO ([] :: (ab s).1) + 1 ≤ (ab s).2.length) := by unfold Hid; rw [jX]; exact qI
  have yc : Hid ((([(T.name, 1)] : List (ByteArray × Int)) :: (ab s).1, (ab s).2).1.length ≤ (([(T.name, 1)] : List (ByteArray × Int)) :: (ab s).1, (ab s).2).2.length) := by unfold Hid; simp; omega
  clear sU vG jA qI FG
  unfold within
  cases hM : (bY K.F (T.kids 0)).sts cx ([(T.name, 1)] :: (ab s).1, (ab s).2) with
  |error pe =>
   have HM := aa hM
   clear hM
   rw [CR.bind_error]
   go_enter Tryz.func134, Tryz.ntmps134
   go_wp2_with (first
    |(go_at_call 90; refine (dx bb.out yd.out).mono ?_; rintro e x1 ⟨rfl, dJ⟩; obtain ⟨b0, b1, b2, b3⟩ := ai (cJ.out _ _ _ _ _ dJ); obtain ⟨eD, eC, eB, eA⟩ := dH.out _ (bz.out _ _ _ _ _ dJ); have l6 := aa dJ; clear dJ)
    |(go_at_call 91; refine (cq (fA l6.out T.name 1 p (by simp) (by decide) qA.out Jr.out) rfl).mono ?_; rintro e x2 ⟨rfl, ld⟩; have ft : IS K _ O1 ([(T.name, 1)] :: (ab s).1, (ab s).2) cx.ret cx.loops ag x2 := ld; clear ld; obtain ⟨b0, b1, b2, b3⟩ := ai (cJ.out _ _ _ _ _ ft); obtain ⟨eD, eC, eB, eA⟩ := dH.out _ (bz.out _ _ _ _ _ ft); have ly := aa ft; clear ft)
    |(go_at_call 92; refine (dq (kt.out _ _ ly.out vx.out (by simp) yc.out) HM.out).mono ?_; rintro e x3 ⟨rfl, hb3⟩; skip))
   exact Nk
  |ok s9 =>
   have HM := aa hM
   clear hM
   rw [CR.bind_ok]
   go_enter Tryz.func134, Tryz.ntmps134
   go_wp2_with (first
    |(go_at_call 90; refine (dx bb.out yd.out).mono ?_; rintro e x1 ⟨rfl, dJ⟩; obtain ⟨b0, b1, b2, b3⟩ := ai (cJ.out _ _ _ _ _ dJ); obtain ⟨eD, eC, eB, eA⟩ := dH.out _ (bz.out _ _ _ _ _ dJ); have l6 := aa dJ; clear dJ)
    |(go_at_call 91; refine (cq (fA l6.out T.name 1 p (by simp) (by decide) qA.out Jr.out) rfl).mono ?_; rintro e x2 ⟨rfl, ld⟩; have ft : IS K _ O1 ([(T.name, 1)] :: (ab s).1, (ab s).2) cx.ret cx.loops ag x2 := ld; clear ld; obtain ⟨b0, b1, b2, b3⟩ := ai (cJ.out _ _ _ _ _ ft); obtain ⟨eD, eC, eB, eA⟩ := dH.out _ (bz.out _ _ _ _ _ ft); have ly := aa ft; clear ft)
    |(go_at_call 92; refine (cq (kt.out _ _ ly.out vx.out (by simp) yc.out) HM.out).mono ?_; rintro e x3 ⟨rfl, mF⟩; have vL := aa mF; clear mF)
    |(go_at_call 93; refine (fx vL.out (oZ.out _ _ _ HM.out)).mono ?_; rintro e x4 ⟨rfl, oG⟩; have Fi := aa oG; clear oG))
   go_end0
   exact ⟨rfl, fc.out _ _ _ _ _ Fi.out⟩) : G := h
theorem Ua (h : G := by
 clear h0 h1
 go_enter Tryz.func119, Tryz.ntmps119
 go_wp2_with (first
  |(go_at_call 118; refine (cq (HV.out _) rfl).mono ?_; rintro e w2 ⟨rfl, aD⟩; have bM := aa aD; clear aD))
 exact TZ) : G := h
theorem TZ (h : G := by
 first
 |clear k_0
  go_end0
  exact ⟨rfl, gL.out _ _ _ _ _ bM.out⟩
 |clear k_1
  exact ⟨rfl, rfl, zr.out _ _ _ _ _ bM.out⟩) : G := h
theorem DB (bE : eO) {T : Nd} (K : IK) (w0 : World) (O : Nat → Prop) (s : CS) (ret loops ag : Int) (w : World) (v : Value) (p : Nat) (hS : IS K w0 O s ret loops ag w) (hN : INd K w T v) :
  Calls Tryz.prog 119 #[.pointer (some ⟨K.cb, 0, none⟩), T.val v, .int .i64 p] w (kJ K w (if look s.1 T.name = 0 then .error (5, p) else if look s.1 T.name = 1 then .ok s else .error (7, p)) fun s1 e w1 => e = .returned (.tuple #[]) ∧ IS K w0 O s1 ret loops ag w1) := by
 obtain ⟨O1, Se, aZ, gy⟩ := hS.since
 have HB := aa (fun o => hS.box o)
 have HV := aa (fun o => bE K w O1 s ret loops ag (w.alloc o) T.name p (Se.alloc o) (fK hN.fine))
 have zr := aa gy
 have gL := aa aZ
 unfold Nd.val
 clear hS hN Se aZ gy
 generalize look s.1 T.name = lk at *
 by_cases h0 : lk = 0
 ·rw [if_pos h0] at HV ⊢
  clear h0
  go_enter Tryz.func119, Tryz.ntmps119
  go_wp2_with (first
   |(go_at_call 118; refine (dq (HV.out _) rfl).mono ?_; rintro e w2 ⟨rfl, hb2⟩; skip))
  exact ⟨rfl, rfl, (HB.out _).trans hb2⟩
 ·rw [if_neg h0] at HV ⊢
  by_cases h1 : lk = 1
  ·rw [if_pos h1]
   have Ey : (lk == 1) = true := beq_iff_eq.2 h1
   have h1n : (lk != 1) = false := by simp only [bne, Ey]; rfl
   have k_0 := kk
   exact Ua
  ·rw [if_neg h1]
   have Ey : (lk == 1) = false := bn h1
   have h1n : (lk != 1) = true := by simp only [bne, Ey]; rfl
   have k_1 := kk
   exact Ua
theorem pO {K : IK} (w : World) (n : Int) (p : Nat) (pt : Value) :
  Calls Tryz.prog 126 #[pt, .int .i64 n, .int .i64 p] w fun e w1 => if n = 0 then e = .panicked [{ v := q9 (10, p), recovered := false }] ∧ w1 = w else e = .returned (.tuple #[]) ∧ w1 = w := by
 by_cases h0 : n = 0
 ·simp only [if_pos h0]
  subst h0
  go_enter Tryz.func126, Tryz.ntmps126
  go_wp2
  exact ⟨rfl, rfl, rfl⟩
 ·simp only [if_neg h0]
  have p6 : (n == 0) = false := bn h0
  clear h0
  go_enter Tryz.func126, Tryz.ntmps126
  go_wp2
  go_end0
  exact ⟨rfl, rfl⟩
theorem AL (bE : eO) {T : Nd} (K : IK) (w0 : World) (O : Nat → Prop) (s : CS) (ret loops ag : Int) (w : World) (v : Value) (hS : IS K w0 O s ret loops ag w) (hE : IEnv K w) (hN : INd K w T v) (aq : s.2.length + T.size ≤ K.N) (aN : T.eOk = true) :
  Calls Tryz.prog 127 #[.pointer (some ⟨K.cb, 0, none⟩), T.val v] w (kJ K w (CR.bind (cE (bL K.F T) s) fun r => if r.1 = 3 then .error (7, s.2.length) else .ok r.2) fun s1 e w1 => e = .returned (.tuple #[]) ∧ IS K w0 O s1 ret loops ag w1) := by
 obtain ⟨O1, Se, aZ, gy⟩ := hS.since
 have HC := aa (fun o => jP (ej bE T) K w O1 s ret loops ag (w.alloc o) v (Se.alloc o) (hE.later (hS.box o)) (hN.later (hS.box o)) aq aN)
 have kB := aa (fun o => pJ (hS.alloc o))
 have HB := aa (fun o => hS.box o)
 have zr := aa gy
 have gL := aa aZ
 unfold Nd.val at *
 clear hS Se hE hN aN aq gy aZ
 generalize s.2.length = q at *
 generalize T.kind = tk at *
 generalize T.num = tn at *
 generalize T.name = ts at *
 cases hM : cE (bL K.F T) s with
 |error p =>
  rw [hM] at HC
  rw [CR.bind_error]
  clear hM
  go_enter Tryz.func127, Tryz.ntmps127
  go_wp2_with (first
   |(go_at_call 131; refine (kB.out _).mono ?_; rintro e w1 ⟨rfl, rfl⟩)
   |(go_at_call 116; refine (HC.out _).mono ?_; rintro e w1 ⟨rfl, hb1⟩; skip))
  exact ⟨rfl, rfl, (HB.out _).trans hb1⟩
 |ok r =>
  obtain ⟨r1, r2⟩ := r
  rw [hM] at HC
  rw [CR.bind_ok]
  dsimp only
  clear hM
  by_cases h0 : r1 = 3
  ·rw [if_pos h0]
   subst h0
   have k_1 := kk
   exact Uc
  ·rw [if_neg h0]
   have p6 : (r1 == 3) = false := bn h0
   clear h0
   have k_0 := kk
   exact Uc
theorem uw (bE : eO) {A B : Nd} (K : IK) (w0 : World) (O : Nat → Prop) (s : CS) (ret loops ag : Int) (w : World) (va vb : Value) (hS : IS K w0 O s ret loops ag w) (hE : IEnv K w) (hA : INd K w A va) (hB : INd K w B vb) (aq : s.2.length + (A.size + B.size) ≤ K.N) (cX : A.eOk = true) (jB : B.eOk = true) :
  Calls Tryz.prog 120 #[.pointer (some ⟨K.cb, 0, none⟩), A.val va, B.val vb] w (kJ K w (CR.bind (aC (bL K.F A) 3 s) (aC (bL K.F B) 1)) fun s1 e w1 => e = .returned (.tuple #[]) ∧ IS K w0 O s1 ret loops ag w1) := by
 obtain ⟨O1, az, aW, bp, aS⟩ := hS.boxed (.cells #[.int .i64 A.kind, .int .i64 A.num, .string A.name, va] 25)
 obtain ⟨O2, aD, ee, kz, sX⟩ := az.boxed (.cells #[.int .i64 B.kind, .int .i64 B.num, .string B.name, vb] 25)
 have cJ : Hid (∀ s' r' l' o' W, IS K ((w.alloc (.cells #[.int .i64 A.kind, .int .i64 A.num, .string A.name, va] 25)).alloc (.cells #[.int .i64 B.kind, .int .i64 B.num, .string B.name, vb] 25)) O2 s' r' l' o' W → W.heap[w.heap.size + 1]? = some (.cells #[.int .i64 B.kind, .int .i64 B.num, .string B.name, vb] 25)) := fun s' r' l' o' W h => by have := kz s' r' l' o' W h; simpa using this
 have bz := aa (fun s' r' l' o' W (h : IS K ((w.alloc (.cells #[.int .i64 A.kind, .int .i64 A.num, .string A.name, va] 25)).alloc (.cells #[.int .i64 B.kind, .int .i64 B.num, .string B.name, vb] 25)) O2 s' r' l' o' W) => aS _ _ _ _ _ (ee s' r' l' o' W h))
 have fc := aa (fun s' r' l' o' W (h : IS K ((w.alloc (.cells #[.int .i64 A.kind, .int .i64 A.num, .string A.name, va] 25)).alloc (.cells #[.int .i64 B.kind, .int .i64 B.num, .string B.name, vb] 25)) O2 s' r' l' o' W) => aW _ _ _ _ _ (ee s' r' l' o' W h))
 have bM := aa aD
 have HWA := aa (dV (ej bE A) K _ O2 s ret loops ag _ va 3 aD (hE.later (bz.out _ _ _ _ _ aD)) (hA.later (bz.out _ _ _ _ _ aD)) (by omega) cX)
 have HWB := aa (fun W (st : CS) (hW : IS K ((w.alloc (.cells #[.int .i64 A.kind, .int .i64 A.num, .string A.name, va] 25)).alloc (.cells #[.int .i64 B.kind, .int .i64 B.num, .string B.name, vb] 25)) O2 st ret loops ag W) (hf : st.2.length + B.size ≤ K.N) => dV (ej bE B) K _ O2 st ret loops ag W vb 1 hW (hE.later (bz.out _ _ _ _ _ hW)) (hB.later (bz.out _ _ _ _ _ hW)) hf jB)
 have KL : Hid (∀ s1, aC (bL K.F A) 3 s = .ok s1 → s1.2.length + B.size ≤ K.N) := fun s1 h => by have := ((eh K.F _ cX).want 3 _ _ h).2; omega
 unfold Nd.val at *
 clear hS hE hA hB az aD aW ee bp kz aS sX aq cX jB
 cases hM : aC (bL K.F A) 3 s with
 |error p =>
  have HM := aa hM
  clear hM
  rw [CR.bind_error]
  go_enter Tryz.func120, Tryz.ntmps120
  go_wp2_with (first
   |(go_at_call 117; refine (dq HWA.out HM.out).mono ?_; rintro e w2 ⟨rfl, hb2⟩; skip))
  exact ⟨rfl, rfl, (bz.out _ _ _ _ _ bM.out).trans hb2⟩
 |ok s1 =>
  have HM := aa hM
  clear hM
  rw [CR.bind_ok]
  have iB := HM
  clear HM
  have P1 : Hid True := trivial
  cases hM : aC (bL K.F B) 1 s1 with
  |error p =>
   have HM := aa hM
   clear hM
   go_enter Tryz.func120, Tryz.ntmps120
   go_wp2_with (first
    |(clear P1; go_at_call 117; refine (cq HWA.out iB.out).mono ?_; rintro e w2 ⟨rfl, bW⟩; obtain ⟨f0, f1, f2, f3⟩ := ai (cJ.out _ _ _ _ _ bW); have fa := aa bW; clear bW)
    |(go_at_call 117; refine (dq (HWB.out _ _ fa.out (KL.out _ iB.out)) HM.out).mono ?_; rintro e w3 ⟨rfl, hb3⟩; skip))
   exact ⟨rfl, rfl, (bz.out _ _ _ _ _ fa.out).trans hb3⟩
  |ok s2 =>
   have HM := aa hM
   clear hM
   go_enter Tryz.func120, Tryz.ntmps120
   go_wp2_with (first
    |(clear P1; go_at_call 117; refine (cq HWA.out iB.out).mono ?_; rintro e w2 ⟨rfl, bW⟩; obtain ⟨f0, f1, f2, f3⟩ := ai (cJ.out _ _ _ _ _ bW); have fa := aa bW; clear bW)
    |(go_at_call 117; refine (cq (HWB.out _ _ fa.out (KL.out _ iB.out)) HM.out).mono ?_; rintro e w3 ⟨rfl, fH⟩; have kG := aa fH; clear fH))
   go_end0
   exact ⟨rfl, fc.out _ _ _ _ _ kG.out⟩
def ew (T : Nd) : Prop := ∀ (K : IK) (w0 : World) (O : Nat → Prop) (s : CS) (cx : Cx) (ag : Nat) (w : World) (v : Value), cx.outs = cx.loops + ag → IS K w0 O s cx.ret cx.loops ag w → IEnv K w → INd K w T v → s.2.length + T.size ≤ K.N → T.sOk = true → s.1 ≠ [] → s.1.length + 1 ≤ s.2.length → cx.loops + T.size ≤ 1099511627776 → ag + T.size ≤ 1099511627776 →
 Calls Tryz.prog 104 #[.pointer (some ⟨K.cb, 0, none⟩), T.val v] w (kJ K w ((bY K.F T).st cx s) fun s1 e w1 => e = .returned (.tuple #[]) ∧ IS K w0 O s1 cx.ret cx.loops ag w1)
theorem nj {T : Nd} (h4 : T.kind = 4) (ih : ∀ i, i < T.len → ew (T.kids i)) (K : IK) (w0 : World) (O : Nat → Prop) (s : CS) (cx : Cx) (ag : Nat) (w : World) (v : Value) (gJ : cx.outs = cx.loops + ag) (hS : IS K w0 O s cx.ret cx.loops ag w) (hE : IEnv K w) (hN : INd K w T v) (aq : s.2.length + T.size ≤ K.N) (aN : T.sOk = true) (bh : s.1 ≠ []) (hd : s.1.length ≤ s.2.length) (hl : cx.loops + T.size ≤ 1099511627776 + 1) (ho : ag + T.size ≤ 1099511627776 + 1) :
  Calls Tryz.prog 92 #[.pointer (some ⟨K.cb, 0, none⟩), T.val v] w (kJ K w ((bY K.F T).sts cx s) fun s1 e w1 => e = .returned (.tuple #[]) ∧ IS K w0 O s1 cx.ret cx.loops ag w1) := by
 rw [show (bY K.F T).sts cx s = forN (fun i => (bY K.F (T.kids i)).st cx) T.len (ab s) by rw [jm K.F (by omega)]; rfl]
 have bS : 0 < T.size := by rw [T.size_eq]; omega
 have oP := Aw h4 aN
 have k_0 := kk
 exact Ue
theorem nl {T : Nd} (h4 : T.kind = 4) (ih : ∀ i, i < T.len → ew (T.kids i)) (K : IK) (w0 : World) (O : Nat → Prop) (s : CS) (cx : Cx) (ag : Nat) (w : World) (v : Value) (gJ : cx.outs = cx.loops + ag) (hS : IS K w0 O s cx.ret cx.loops ag w) (hE : IEnv K w) (hN : INd K w T v) (aq : s.2.length + T.size ≤ K.N) (aN : T.sOk = true) (hd : s.1.length + 1 ≤ s.2.length) (hl : cx.loops + T.size ≤ 1099511627776 + 1) (ho : ag + T.size ≤ 1099511627776 + 1) :
  Calls Tryz.prog 115 #[.pointer (some ⟨K.cb, 0, none⟩), T.val v] w (kJ K w (within [] ((bY K.F T).sts cx) s) fun s1 e w1 => e = .returned (.tuple #[]) ∧ IS K w0 O s1 cx.ret cx.loops ag w1) := by
 obtain ⟨O1, az, aW, bp, aS⟩ := hS.boxed (.cells #[.int .i64 T.kind, .int .i64 T.num, .string T.name, v] 25)
 have cJ := aa bp
 have bz := aa aS
 have fc := aa aW
 have FS := aa (dx az (by omega))
 have mT := aa (fun (W : World) (hW : IS K (w.alloc (.cells #[.int .i64 T.kind, .int .i64 T.num, .string T.name, v] 25)) O1 ([] :: s.1, s.2) cx.ret cx.loops ag W) => nj h4 ih K _ O1 ([] :: s.1, s.2) cx ag W v gJ hW (hE.later (aS _ _ _ _ _ hW)) (hN.later (aS _ _ _ _ _ hW)) aq aN (by simp) (by show ([] :: s.1).length ≤ s.2.length; simp; omega) hl ho)
 have oZ : Hid (∀ s1, (bY K.F T).sts cx ([] :: s.1, s.2) = .ok s1 → s1.1 ≠ []) := by
  intro s1 h e
  have := ((iq K.F T).sts aN h4 cx) _ s1 (by simp) h
  rw [e] at this
  have := this.2.1
  simp at this
 unfold within
 unfold Nd.val at *
 clear hS hE hN az aW bp aS aN ih aq hd h4
 cases hM : (bY K.F T).sts cx ([] :: s.1, s.2) with
 |error p =>
  have HM := aa hM
  clear hM
  rw [CR.bind_error]
  go_enter Tryz.func115, Tryz.ntmps115
  go_wp2_with (first
   |(go_at_call 90; refine FS.out.mono ?_; rintro e w1 ⟨rfl, az⟩; obtain ⟨b0, b1, b2, b3⟩ := ai (cJ.out _ _ _ _ _ az); have bb := aa az; clear az)
   |(go_at_call 92; refine (dq (mT.out _ bb.out) HM.out).mono ?_; rintro e w2 ⟨rfl, hb2⟩; skip))
  exact Ni
 |ok s1 =>
  have HM := aa hM
  clear hM
  rw [CR.bind_ok]
  go_enter Tryz.func115, Tryz.ntmps115
  go_wp2_with (first
   |(go_at_call 90; refine FS.out.mono ?_; rintro e w1 ⟨rfl, az⟩; obtain ⟨b0, b1, b2, b3⟩ := ai (cJ.out _ _ _ _ _ az); have bb := aa az; clear az)
   |(go_at_call 92; refine (cq (mT.out _ bb.out) HM.out).mono ?_; rintro e w2 ⟨rfl, aD⟩; have bM := aa aD; clear aD)
   |(go_at_call 93; refine (fx bM.out (oZ.out _ HM.out)).mono ?_; rintro e w3 ⟨rfl, bW⟩; have fa := aa bW; clear bW))
  go_end0
  exact ⟨rfl, fc.out _ _ _ _ _ fa.out⟩
theorem jX (E : Sc) : aO ([] :: E) = aO E := by simp [aO]
theorem px {F T : Nd} {cx : Cx} {s : CS} (h4 : T.kind = 4) : (bY F T).st cx s = within [] ((bY F T).sts cx) s := by
 rw [bT F (by omega), jm F (by omega)]
 unfold stM
 rw [if_pos h4]
theorem IS.setN {K : IK} {w0 : World} {O : Nat → Prop} {s : CS} {ret loops ag : Int} {w : World} (h : IS K w0 O s ret loops ag w) (n : Int) :
  IS K w0 O s ret n ag (w.setCell ⟨K.cb, 7, none⟩ (.int .i64 n)) ∧ IS K w0 O s ret loops n (w.setCell ⟨K.cb, 8, none⟩ (.int .i64 n)) := by
 obtain ⟨sv, tv, bs, h1, h2⟩ := h.is
 obtain ⟨f0, f2, f3, hb⟩ := h1.blk
 have pV := h.ok.cu
 have go : ∀ (i : Nat) (l o : Int), ((#[.map (some K.mf), sv, tv, f0, .int .i64 ret, f2, f3, .int .i64 loops, .int .i64 ag] : Array Value).set! i (.int .i64 n)) = #[.map (some K.mf), sv, tv, f0, .int .i64 ret, f2, f3, .int .i64 l, .int .i64 o] → IS K w0 O s ret l o (w.setCell ⟨K.cb, i, none⟩ (.int .i64 n)) := by
  intro i l o e
  have jH : IRaw K (w.setCell ⟨K.cb, i, none⟩ (.int .i64 n)) sv tv bs s ret l o := by
   refine ⟨⟨f0, f2, f3, ?_⟩, ownsRow_setCell_below h1.sc (show K.cb < K.up from pV) _, ownsRow_setCell_below h1.ty (show K.cb < K.up from pV) _, h1.maps.same fun b FI => Below.heap_setCell w ⟨K.cb, i, none⟩ _ b fun e' => ?_⟩
   ·rw [heap_setCell_same w K.cb i _ _ _ hb, ← e]; simp
   ·have := (h1.maps.mem b FI).1; have e'' : b = K.cb := e'; omega
  exact h.step h1 h2 jH (fun k hk => .inl hk) h.len (Kept.setCell (S := fun k => k = K.cb ∨ Own sv tv bs k) ⟨K.cb, i, none⟩ _ (.inl rfl))
 exact ⟨go 7 n ag rfl, go 8 loops n rfl⟩
theorem IS.nums {K : IK} {w0 : World} {O : Nat → Prop} {s : CS} {ret loops ag : Int} {w : World} (h : IS K w0 O s ret loops ag w) : w.cell? ⟨K.cb, 4, none⟩ = some (.int .i64 ret) ∧ w.cell? ⟨K.cb, 7, none⟩ = some (.int .i64 loops) ∧ w.cell? ⟨K.cb, 8, none⟩ = some (.int .i64 ag) ∧ w.frozen? ⟨K.cb, 7, none⟩ = false ∧ w.frozen? ⟨K.cb, 8, none⟩ = false := by
 obtain ⟨sv, tv, bs, h1, h2⟩ := h.is
 exact ⟨h1.cells.2.2.2.1, h1.cells.2.2.2.2.1, h1.cells.2.2.2.2.2, h1.free 7, h1.free 8⟩
theorem Qp (bE : eO) {T : Nd} (hk : T.kind = 10) (hl : T.len = 2) (b6 : ∀ U : Nd, U.size < T.size → ew U) (K : IK) (w0 : World) (O : Nat → Prop) (s : CS) (cx : Cx) (ag : Nat) (w : World) (v : Value) (gJ : cx.outs = cx.loops + ag) (hS : IS K w0 O (ab s) cx.ret cx.loops ag w) (hE : IEnv K w) (hN : INd K w T v) (aq : s.2.length + T.size ≤ K.N) (aN : T.sOk = true) (bh : s.1 ≠ []) (hd : s.1.length + 1 ≤ s.2.length) (dI : cx.loops + T.size ≤ 1099511627776) (dP : ag + T.size ≤ 1099511627776) :
  Calls Tryz.prog 122 #[.pointer (some ⟨K.cb, 0, none⟩), T.val v] w (kJ K w (CR.bind (aC (bL K.F (T.kids 0)) 2 (ab s)) fun s1 => within [] ((bY K.F (T.kids 1)).sts cx) s1) fun s1 e w1 => e = .returned (.tuple #[]) ∧ IS K w0 O s1 cx.ret cx.loops ag w1) := by
 obtain ⟨_, cX, ⟨hb1, yO⟩, _⟩ := pA hk aN
 have Od := aa gJ
 obtain ⟨g, off, cap, hv, iW, b7, aQ⟩ := cN hN.row (by omega)
 subst hv
 obtain ⟨u0, eT, dE⟩ := aQ 0 (by omega)
 simp only [Nat.zero_mul, Nat.add_zero] at eT
 have dH := aa eT
 obtain ⟨u1, ed, fG⟩ := aQ 1 (by omega)
 simp only [Nat.one_mul] at ed
 have fD := aa ed
 have k_0 := kk
 exact Uj
theorem L7 (bE : eO) {T : Nd} (jy : T.num = 0) (hl : T.len = 1) (hb : (T.kids 0).kind = 4) (ho : (T.kids 0).sOk = true) (dc : al T.name = true) (b6 : ∀ U : Nd, U.size < T.size → ew U) (K : IK) (w0 : World) (O : Nat → Prop) (s : CS) (cx : Cx) (ag : Nat) (w : World) (v : Value) (p : Nat) (gJ : cx.outs = cx.loops + ag) (hS : IS K w0 O (ab s) cx.ret cx.loops ag w) (hE : IEnv K w) (hN : INd K w T v) (aq : s.2.length + T.size ≤ K.N) (bh : s.1 ≠ []) (hd : s.1.length + 1 ≤ s.2.length) (qX : aO s.1 ≤ s.2.length) (dI : cx.loops + T.size ≤ 1099511627776 + 1) (dP : ag + T.size ≤ 1099511627776 + 1) :
  Calls Tryz.prog 134 #[.pointer (some ⟨K.cb, 0, none⟩), T.val v, .int .i64 p] w (kJ K w (within [] ((bY K.F (T.kids 0)).sts cx) (ab s)) fun s1 e w1 => e = .returned (.tuple #[]) ∧ IS K w0 O s1 cx.ret cx.loops ag w1) := by
 have k_0 := kk
 exact Uv
theorem L6 (bE : eO) {T : Nd} (jy : T.num = 0) (hl : T.len = 1) (hb : (T.kids 0).kind = 4) (ho : (T.kids 0).sOk = true) (dc : al T.name = false) (b6 : ∀ U : Nd, U.size < T.size → ew U) (K : IK) (w0 : World) (O : Nat → Prop) (s : CS) (cx : Cx) (ag : Nat) (w : World) (v : Value) (p : Nat) (gJ : cx.outs = cx.loops + ag) (hS : IS K w0 O (ab s) cx.ret cx.loops ag w) (hE : IEnv K w) (hN : INd K w T v) (aq : s.2.length + T.size ≤ K.N) (bh : s.1 ≠ []) (hd : s.1.length + 1 ≤ s.2.length) (qX : aO s.1 ≤ s.2.length) (dI : cx.loops + T.size ≤ 1099511627776 + 1) (dP : ag + T.size ≤ 1099511627776 + 1) :
  Calls Tryz.prog 134 #[.pointer (some ⟨K.cb, 0, none⟩), T.val v, .int .i64 p] w (kJ K w (within [(T.name, 1)] ((bY K.F (T.kids 0)).sts cx) (ab s)) fun s1 e w1 => e = .returned (.tuple #[]) ∧ IS K w0 O s1 cx.ret cx.loops ag w1) := by
 have k_1 := kk
 exact Uv
theorem L5 (bE : eO) {T : Nd} (jy : T.num = 1) (hl : T.len = 2) (cX : (T.kids 0).eOk = true) (hb : (T.kids 1).kind = 4) (ho : (T.kids 1).sOk = true) (dc : al T.name = true) (b6 : ∀ U : Nd, U.size < T.size → ew U) (K : IK) (w0 : World) (O : Nat → Prop) (s : CS) (cx : Cx) (ag : Nat) (w : World) (v : Value) (p : Nat) (gJ : cx.outs = cx.loops + ag) (hS : IS K w0 O (ab s) cx.ret cx.loops ag w) (hE : IEnv K w) (hN : INd K w T v) (aq : s.2.length + T.size ≤ K.N) (bh : s.1 ≠ []) (hd : s.1.length + 1 ≤ s.2.length) (qX : aO s.1 ≤ s.2.length) (dI : cx.loops + T.size ≤ 1099511627776 + 1) (dP : ag + T.size ≤ 1099511627776 + 1) :
  Calls Tryz.prog 134 #[.pointer (some ⟨K.cb, 0, none⟩), T.val v, .int .i64 p] w (kJ K w (CR.bind (aC (bL K.F (T.kids 0)) 3 (ab s)) (within [] ((bY K.F (T.kids 1)).sts cx))) fun s1 e w1 => e = .returned (.tuple #[]) ∧ IS K w0 O s1 cx.ret cx.loops ag w1) := by
 have k_0 := kk
 exact Ux
theorem L4 (bE : eO) {T : Nd} (jy : T.num = 1) (hl : T.len = 2) (cX : (T.kids 0).eOk = true) (hb : (T.kids 1).kind = 4) (ho : (T.kids 1).sOk = true) (dc : al T.name = false) (b6 : ∀ U : Nd, U.size < T.size → ew U) (K : IK) (w0 : World) (O : Nat → Prop) (s : CS) (cx : Cx) (ag : Nat) (w : World) (v : Value) (p : Nat) (gJ : cx.outs = cx.loops + ag) (hS : IS K w0 O (ab s) cx.ret cx.loops ag w) (hE : IEnv K w) (hN : INd K w T v) (aq : s.2.length + T.size ≤ K.N) (bh : s.1 ≠ []) (hd : s.1.length + 1 ≤ s.2.length) (qX : aO s.1 ≤ s.2.length) (dI : cx.loops + T.size ≤ 1099511627776 + 1) (dP : ag + T.size ≤ 1099511627776 + 1) :
  Calls Tryz.prog 134 #[.pointer (some ⟨K.cb, 0, none⟩), T.val v, .int .i64 p] w (kJ K w (CR.bind (aC (bL K.F (T.kids 0)) 3 (ab s)) (within [(T.name, 1)] ((bY K.F (T.kids 1)).sts cx))) fun s1 e w1 => e = .returned (.tuple #[]) ∧ IS K w0 O s1 cx.ret cx.loops ag w1) := by
 have k_1 := kk
 exact Ux
theorem L3 (bE : eO) {T : Nd} (jy : T.num = 2) (hl : T.len = 3) (cX : (T.kids 0).eOk = true) (jB : (T.kids 1).eOk = true) (hb : (T.kids 2).kind = 4) (ho : (T.kids 2).sOk = true) (dc : al T.name = true) (b6 : ∀ U : Nd, U.size < T.size → ew U) (K : IK) (w0 : World) (O : Nat → Prop) (s : CS) (cx : Cx) (ag : Nat) (w : World) (v : Value) (p : Nat) (gJ : cx.outs = cx.loops + ag) (hS : IS K w0 O (ab s) cx.ret cx.loops ag w) (hE : IEnv K w) (hN : INd K w T v) (aq : s.2.length + T.size ≤ K.N) (bh : s.1 ≠ []) (hd : s.1.length + 1 ≤ s.2.length) (qX : aO s.1 ≤ s.2.length) (dI : cx.loops + T.size ≤ 1099511627776 + 1) (dP : ag + T.size ≤ 1099511627776 + 1) :
  Calls Tryz.prog 134 #[.pointer (some ⟨K.cb, 0, none⟩), T.val v, .int .i64 p] w (kJ K w (CR.bind (CR.bind (aC (bL K.F (T.kids 0)) 3 (ab s)) (aC (bL K.F (T.kids 1)) 1)) (within [] ((bY K.F (T.kids 2)).sts cx))) fun s1 e w1 => e = .returned (.tuple #[]) ∧ IS K w0 O s1 cx.ret cx.loops ag w1) := by
 have k_0 := kk
 exact Uy
theorem L2 (bE : eO) {T : Nd} (jy : T.num = 2) (hl : T.len = 3) (cX : (T.kids 0).eOk = true) (jB : (T.kids 1).eOk = true) (hb : (T.kids 2).kind = 4) (ho : (T.kids 2).sOk = true) (dc : al T.name = false) (b6 : ∀ U : Nd, U.size < T.size → ew U) (K : IK) (w0 : World) (O : Nat → Prop) (s : CS) (cx : Cx) (ag : Nat) (w : World) (v : Value) (p : Nat) (gJ : cx.outs = cx.loops + ag) (hS : IS K w0 O (ab s) cx.ret cx.loops ag w) (hE : IEnv K w) (hN : INd K w T v) (aq : s.2.length + T.size ≤ K.N) (bh : s.1 ≠ []) (hd : s.1.length + 1 ≤ s.2.length) (qX : aO s.1 ≤ s.2.length) (dI : cx.loops + T.size ≤ 1099511627776 + 1) (dP : ag + T.size ≤ 1099511627776 + 1) :
  Calls Tryz.prog 134 #[.pointer (some ⟨K.cb, 0, none⟩), T.val v, .int .i64 p] w (kJ K w (CR.bind (CR.bind (aC (bL K.F (T.kids 0)) 3 (ab s)) (aC (bL K.F (T.kids 1)) 1)) (within [(T.name, 1)] ((bY K.F (T.kids 2)).sts cx))) fun s1 e w1 => e = .returned (.tuple #[]) ∧ IS K w0 O s1 cx.ret cx.loops ag w1) := by
 have k_1 := kk
 exact Uy
theorem L1 (bE : eO) {T : Nd} (aN : T.cOk = true) (f : Bool) (OC : ¬ (T.num = 0 ∧ f = true)) (b6 : ∀ U : Nd, U.size < T.size → ew U) (K : IK) (w0 : World) (O : Nat → Prop) (s : CS) (cx : Cx) (ag : Nat) (w : World) (v : Value) (p : Nat) (gJ : cx.outs = cx.loops + ag) (hS : IS K w0 O (ab s) cx.ret cx.loops ag w) (hE : IEnv K w) (hN : INd K w T v) (aq : s.2.length + T.size ≤ K.N) (bh : s.1 ≠ []) (hd : s.1.length + 1 ≤ s.2.length) (qX : aO s.1 ≤ s.2.length) (dI : cx.loops + T.size ≤ 1099511627776 + 1) (dP : ag + T.size ≤ 1099511627776 + 1) :
  Calls Tryz.prog 134 #[.pointer (some ⟨K.cb, 0, none⟩), T.val v, .int .i64 p] w (kJ K w ((bY K.F T).cs f cx s) fun s1 e w1 => e = .returned (.tuple #[]) ∧ IS K w0 O s1 cx.ret cx.loops ag w1) := by
 obtain ⟨hk, hn, lg, Eo⟩ := zk aN
 have dc : FB T = if al T.name then [] else [(T.name, 1)] := rfl
 rcases hn with ⟨h0, hl⟩ | ⟨h1, hl, cX⟩ | ⟨h2, hl, cX, jB⟩
 ·have hf : f = false := by cases f with | false => rfl | true => exact absurd ⟨h0, rfl⟩ OC
  subst hf
  rw [KE hk h0 hl, dc]
  rw [hl] at lg Eo
  cases he : al T.name with
  |true => exact L7 bE h0 hl lg Eo he b6 K w0 O s cx ag w v p gJ hS hE hN aq bh hd qX dI dP
  |false => exact L6 bE h0 hl lg Eo he b6 K w0 O s cx ag w v p gJ hS hE hN aq bh hd qX dI dP
 ·rw [Su hk h1 hl, dc]
  rw [hl] at lg Eo
  cases he : al T.name with
  |true => exact L5 bE h1 hl cX lg Eo he b6 K w0 O s cx ag w v p gJ hS hE hN aq bh hd qX dI dP
  |false => exact L4 bE h1 hl cX lg Eo he b6 K w0 O s cx ag w v p gJ hS hE hN aq bh hd qX dI dP
 ·have e2 : (bY K.F T).cs f cx s = CR.bind (CR.bind (aC (bL K.F (T.kids 0)) 3 (ab s)) (aC (bL K.F (T.kids 1)) 1)) (within (FB T) ((bY K.F (T.kids 2)).sts cx)) := by
   rw [St hk h2 hl]
   cases aC (bL K.F (T.kids 0)) 3 (ab s) <;> rfl
  rw [e2, dc]
  rw [hl] at lg Eo
  cases he : al T.name with
  |true => exact L3 bE h2 hl cX jB lg Eo he b6 K w0 O s cx ag w v p gJ hS hE hN aq bh hd qX dI dP
  |false => exact L2 bE h2 hl cX jB lg Eo he b6 K w0 O s cx ag w v p gJ hS hE hN aq bh hd qX dI dP
theorem Hs (bE : eO) {T : Nd} (hk : T.kind = 15) (b6 : ∀ U : Nd, U.size < T.size → ew U) (K : IK) (w0 : World) (O : Nat → Prop) (s : CS) (cx : Cx) (ag : Nat) (w : World) (v : Value) (gJ : cx.outs = cx.loops + ag) (hS : IS K w0 O (ab s) cx.ret cx.loops ag w) (hE : IEnv K w) (hN : INd K w T v) (aq : s.2.length + T.size ≤ K.N) (aN : T.sOk = true) (bh : s.1 ≠ []) (hd : s.1.length + 1 ≤ s.2.length) (dI : cx.loops + T.size ≤ 1099511627776) (dP : ag + T.size ≤ 1099511627776) :
  Calls Tryz.prog 125 #[.pointer (some ⟨K.cb, 0, none⟩), T.val v] w (kJ K w (re K.F T ⟨cx.ret, cx.loops, cx.outs + 1⟩ (ab s) T.len) fun s1 e w1 => e = .returned (.tuple #[]) ∧ IS K w0 O s1 cx.ret cx.loops ag w1) := by
 have Ko := CT hk aN
 have k_1 := kk
 exact Ue
end Go.Proofs.YteaocammohcgoaaGreatDoor
