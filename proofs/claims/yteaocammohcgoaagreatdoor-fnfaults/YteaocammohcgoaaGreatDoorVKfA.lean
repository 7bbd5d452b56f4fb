import Derived.Test.YteaocammohcgoaaGreatDoorVKeD
set_option linter.unusedVariables false
set_option maxHeartbeats 16000000
set_option maxRecDepth 100000
namespace Go.Proofs.YteaocammohcgoaaGreatDoor
open Go.RowKit
variable {G : Prop}
theorem bQ0 (h : G := by
 have k_Q85_5 := kk
 exact BP) : G := h
theorem bQ1 (h : G := by
 have iJ := aa hM
 have k_Q53_0 := kk
 exact VS) : G := h
theorem bQ2 (h : G := by
 have HM := aa hM
 clear hM
 go_enter Tryz.func104, Tryz.ntmps104
 go_wp2_with (first
  |(go_at_call 69; refine iI.out.mono ?_; rintro e w1 ⟨rfl, aD⟩; obtain ⟨b0, b1, b2, b3⟩ := al (cP.out _ _ _ _ _ aD); obtain ⟨eA, ez, ey, ew⟩ := dP.out _ (bF.out _ _ _ _ _ aD); have bh := aa aD; clear aD)
  |(go_at_call 117; refine (cw (HC.out _ bh.out) HM.out).mono ?_; rintro e w2 ⟨rfl, aC⟩; have bR := aa aC; clear aC))
 go_end0
 exact ⟨rfl, eB.out _ _ _ _ _ bR.out⟩) : G := h
theorem bQ3 (h : G := by
 have HM := aa hM
 clear hM
 go_enter Tryz.func104, Tryz.ntmps104
 go_wp2_with (first
  |(go_at_call 69; refine iI.out.mono ?_; rintro e w1 ⟨rfl, aD⟩; obtain ⟨b0, b1, b2, b3⟩ := al (cP.out _ _ _ _ _ aD); obtain ⟨eA, ez, ey, ew⟩ := dP.out _ (bF.out _ _ _ _ _ aD); have bh := aa aD; clear aD)
  |(go_at_call 117; refine (dr (HC.out _ bh.out) HM.out).mono ?_; rintro e w2 ⟨rfl, ba⟩; skip))
 exact yo) : G := h
theorem bQ4 (h : G := by
 have HM := aa hM
 clear hM
 go_enter Tryz.func104, Tryz.ntmps104
 go_wp2_with (first
  |(go_at_call 69; refine iI.out.mono ?_; rintro e w1 ⟨rfl, aD⟩; obtain ⟨b0, b1, b2, b3⟩ := al (cP.out _ _ _ _ _ aD); have bh := aa aD; clear aD)
  |(go_at_call 122; refine (cw (HC.out _ bh.out) HM.out).mono ?_; rintro e w2 ⟨rfl, aC⟩; have bR := aa aC; clear aC))
 go_end0
 exact ⟨rfl, eB.out _ _ _ _ _ bR.out⟩) : G := h
theorem bQ5 (h : G := by
 have HM := aa hM
 clear hM
 go_enter Tryz.func104, Tryz.ntmps104
 go_wp2_with (first
  |(go_at_call 69; refine iI.out.mono ?_; rintro e w1 ⟨rfl, aD⟩; obtain ⟨b0, b1, b2, b3⟩ := al (cP.out _ _ _ _ _ aD); have bh := aa aD; clear aD)
  |(go_at_call 123; refine (cw (HC.out _ bh.out) HM.out).mono ?_; rintro e w2 ⟨rfl, aC⟩; have bR := aa aC; clear aC))
 go_end0
 exact ⟨rfl, eB.out _ _ _ _ _ bR.out⟩) : G := h
theorem bQ6 (h : G := by
 have HM := aa hM
 clear hM
 go_enter Tryz.func104, Tryz.ntmps104
 go_wp2_with (first
  |(go_at_call 69; refine iI.out.mono ?_; rintro e w1 ⟨rfl, aD⟩; obtain ⟨b0, b1, b2, b3⟩ := al (cP.out _ _ _ _ _ aD); have bh := aa aD; clear aD)
  |(go_at_call 122; refine (dr (HC.out _ bh.out) HM.out).mono ?_; rintro e w2 ⟨rfl, ba⟩; skip))
 exact yo) : G := h
theorem bQ7 (h : G := by
 have HM := aa hM
 clear hM
 go_enter Tryz.func104, Tryz.ntmps104
 go_wp2_with (first
  |(go_at_call 69; refine iI.out.mono ?_; rintro e w1 ⟨rfl, aD⟩; obtain ⟨b0, b1, b2, b3⟩ := al (cP.out _ _ _ _ _ aD); have bh := aa aD; clear aD)
  |(go_at_call 123; refine (dr (HC.out _ bh.out) HM.out).mono ?_; rintro e w2 ⟨rfl, ba⟩; skip))
 exact yo) : G := h
theorem bQ8 (h : G := by
 have iJ := aa hM
 clear hM
 rw [CR.bind_error]
 go_enter Tryz.func134, Tryz.ntmps134
 go_wp2_with (first
  |(go_at_call 117; refine (dr (jn.out _ _ _ _ _ 3 bh.out iP.out) iJ.out).mono ?_; rintro e w2 ⟨rfl, ba⟩; skip))
 exact yo) : G := h
theorem bQ9 (h : G := by
 have HM := aa hM
 clear hM
 rw [CR.bind_error]
 go_enter Tryz.func122, Tryz.ntmps122
 go_wp2_with (first
  |(go_at_call 117; refine (dr (jn.out _ _ _ _ _ 2 bh.out iP.out) HM.out).mono ?_; rintro e w2 ⟨rfl, ba⟩; skip))
 exact yo) : G := h
theorem bQ10 (h : G := by
 intro s1 h
 obtain ⟨q1, q2⟩ := (ej K.F _ dh).want 2 _ _ h
 have := bV T s.2.length (i := 1) (by omega)
 unfold aW at this; simp only [ar] at this
 rw [aP] at q2
 refine ⟨by omega, ?_⟩
 rw [q1]; show s.1.length + 1 ≤ _; omega) : G := h
theorem bQ11 (h : G := by
 intro s1 h
 obtain ⟨r, h1, h2⟩ := bt h
 obtain ⟨x1, x2⟩ := (ej K.F _ dh).want 3 _ _ h1
 obtain ⟨y1, y2⟩ := (ej K.F _ j5).want 1 _ _ h2
 rw [aP] at x2
 exact ⟨by rw [y1, x1]; rfl, by omega⟩) : G := h
theorem bQ12 (h : G := by
 intro st e1 e2
 have := bV T s.2.length (i := 0) (by omega)
 exact OB) : G := h
theorem bQ13 (h : G := by
 intro st e1 e2
 have := bV T s.2.length (i := 1) (by omega)
 exact OB) : G := h
theorem bQ14 (h : G := by
 intro st e1 e2
 have := bV T s.2.length (i := 2) (by omega)
 exact OB) : G := h
theorem Wj (h : G := by
 refine hK.out _ _ ⟨b2, b3, eA, ez, ey, ew⟩ (fun xQ => ?_)
 refine wpAnyH_done (by kernel_rfl) ?_ _
 go_wp2
 go_end0
 exact ⟨rfl, eB.out _ _ _ _ _ e7.out⟩) : G := h
theorem Wi (h : G := by
 clear h1 h2
 go_enter Tryz.func124, Tryz.ntmps124
 go_wp2
 go_quiet (fail)
 go_wp2
 exact ⟨rfl, rfl, HB.out.trans ((below_drewN _ _).mono (by simp; omega))⟩) : G := h
theorem bQ17 (h : G := by
 have := bV T s.2.length (i := 2) (by omega)
 unfold aW at this; simp only [ar] at this
 unfold Hid; rw [aP]; omega) : G := h
theorem Wh (h : G := by
 intro E X s1 h e
 have := ((iz K.F (T.kids 0)).sts ho hb cx) _ s1 (by simp) h
 rw [e] at this
 have := this.2.1
 simp at this) : G := h
theorem Wg (h : G := by
 intro E X s1 h e
 have := ((iz K.F (T.kids 1)).sts ho hb cx) _ s1 (by simp) h
 rw [e] at this
 have := this.2.1
 simp at this) : G := h
theorem Wf (h : G := by
 intro E X s1 h e
 have := ((iz K.F (T.kids 2)).sts ho hb cx) _ s1 (by simp) h
 rw [e] at this
 have := this.2.1
 simp at this) : G := h
theorem We (h : G := by
 have mX := aa aM
 clear cy aM
 go_wp2
 go_end0
 rw [lD mX.out]
 exact ⟨rfl, eB.out _ _ _ _ _ iu.out⟩) : G := h
theorem ri (h : G := by
 intro W hW
 obtain ⟨x0, x1, x2, x3, x4, x5⟩ := hW
 go_simp
 with_reducible rfl) : G := h
theorem OE (h : G := by
 exact ⟨rfl, rfl, (bF.out _ _ _ _ _ bh.out.drew).trans ba⟩) : G := h
theorem vE (h : G := by
 exact yo) : G := h
theorem JK (h : G := by
 exact ⟨rfl, rfl, (bF.out _ _ _ _ _ bR.out).trans cZ⟩) : G := h
theorem OD (h : G := by
 exact ⟨rfl, rfl, (bF.out _ _ _ _ _ mz.out).trans cZ⟩) : G := h
theorem OC (h : G := by
 exact ⟨rfl, rfl, (bF.out _ _ _ _ _ lF.out).trans cZ⟩) : G := h
theorem OB (h : G := by
 unfold aW at this; simp only [ar] at this
 refine ⟨by omega, by rw [e1]; exact bZ, by rw [e1]; omega, by rw [e1]; omega, by rw [e1]; omega⟩) : G := h
theorem yo (h : G := by
 exact ⟨rfl, rfl, (bF.out _ _ _ _ _ bh.out).trans ba⟩) : G := h
theorem Wd (h : G := by
 have k_Q35_0 := kk
 exact V8) : G := h
theorem Wc (h : G := by
 have k_Q35_1 := kk
 exact V8) : G := h
theorem Wb (h : G := by
 have k_Q36_0 := kk
 exact V7) : G := h
theorem Wa (h : G := by
 have k_Q59_0 := kk
 exact VN) : G := h
theorem V9 (h : G := by
 have k_Q44_1 := kk
 exact VZ) : G := h
theorem V8 (h : G := by
 have qQ := aa Bw
 clear Bw
 have k_Q36_1 := kk
 exact V7) : G := h
theorem V7 (h : G := by
 go_enter Tryz.func104, Tryz.ntmps104
 go_wp2_with (first
  |(go_at_call 69; refine iI.out.mono ?_; rintro e w1 ⟨rfl, aD⟩; obtain ⟨b0, b1, b2, b3⟩ := al (cP.out _ _ _ _ _ aD); obtain ⟨eA, ez, ey, ew⟩ := dP.out _ (bF.out _ _ _ _ _ aD); have bh := aa aD; clear aD))
 refine wp_region_held_drew (S := (fun W => W.cell? ⟨w.heap.size, 2, none⟩ = some (.string T.name) ∧ W.cell? ⟨w.heap.size, 3, none⟩ = some (.slice (some ⟨g, off, none⟩) T.len cap) ∧ W.cell? ⟨g, off, none⟩ = some (.int .i64 (T.kids 0).kind) ∧ W.cell? ⟨g, off + 1, none⟩ = some (.int .i64 (T.kids 0).num) ∧ W.cell? ⟨g, off + 2, none⟩ = some (.string (T.kids 0).name) ∧ W.cell? ⟨g, off + 3, none⟩ = some (.slice a0 (T.kids 0).len q0))) bH ?_ (fun eG => ?_)
 ·exact ⟨b2, b3, eA, ez, ey, ew⟩
 refine wpAnyH_take (i := 0) (v := ?_) rfl (by kernel_rfl) (by kernel_rfl) (by kernel_rfl) (fun _ _ _ h => h) (Or.inl ⟨by rfl, ?_⟩) eG ?_
 rotate_left
 ·exact ri
 simp only [Act.put, List.setIfInBounds_toArray]
 refine wpAnyH_take (i := 1) (v := ?_) rfl (by kernel_rfl) (by kernel_rfl) (by kernel_rfl) (fun _ _ _ h => h) (Or.inl ⟨by rfl, ?_⟩) eG ?_
 rotate_left
 ·exact ri
 simp only [Act.put]
 refine wpAnyH_take (i := 2) (v := ?_) rfl (by kernel_rfl) (by kernel_rfl) (by kernel_rfl) (fun _ _ _ h => h) (Or.inl ⟨by rfl, ?_⟩) eG ?_
 rotate_left
 ·exact ri
 simp only [Act.put]
 refine wpAnyH_take (i := 3) (v := ?_) rfl (by kernel_rfl) (by kernel_rfl) (by kernel_rfl) (fun _ _ _ h => h) (Or.inl ⟨by rfl, ?_⟩) eG ?_
 rotate_left
 ·exact ri
 simp only [Act.put]
 refine wpAnyH_take (i := 4) (v := ?_) rfl (by kernel_rfl) (by kernel_rfl) (by kernel_rfl) (fun _ _ _ h => h) (Or.inl ⟨by rfl, ?_⟩) eG ?_
 rotate_left
 ·exact ri
 simp only [Act.put]
 refine wpAnyH_take (i := 5) (v := ?_) rfl (by kernel_rfl) (by kernel_rfl) (by kernel_rfl) (fun _ _ _ h => h) (Or.inl ⟨by rfl, ?_⟩) eG ?_
 rotate_left
 ·exact ri
 simp only [Act.put]
 refine wpAnyH_take (i := 6) (v := ?_) rfl (by kernel_rfl) (by kernel_rfl) (by kernel_rfl) (fun _ _ _ h => h) (Or.inl ⟨by rfl, ?_⟩) eG ?_
 rotate_left
 ·exact ri
 simp only [Act.put]
 refine wpAnyH_take (i := 7) (v := ?_) rfl (by kernel_rfl) (by kernel_rfl) (by kernel_rfl) (fun _ _ _ h => h) (Or.inl ⟨by rfl, ?_⟩) eG ?_
 rotate_left
 ·exact ri
 simp only [Act.put]
 first
 |clear k_Q36_0
  first
  |clear k_Q32_0
   have k_Q69_0 := kk
   exact VE
  |clear k_Q32_1
   have k_Q70_0 := kk
   exact VC
 |clear k_Q36_1
  first
  |clear k_Q35_0
   have k_Q69_1 := kk
   exact VE
  |clear k_Q35_1
   have k_Q70_1 := kk
   exact VC) : G := h
theorem V6 (h : G := by
 have k_Q43_1 := kk
 exact V0) : G := h
theorem V5 (h : G := by
 have qE := aa (fM hN.fine)
 have yC : Hid (∀ st : CS, st.1 = s.1 → st.2.length = s.2.length + 1 + ((T.kids 0).size + (T.kids 1).size) → st.2.length + (T.kids 2).size ≤ K.N ∧ st.1 ≠ [] ∧ st.1.length ≤ st.2.length ∧ aN st.1 + 1 ≤ st.2.length ∧ st.1.length + 1 ≤ st.2.length) := by
  exact bQ14
 have iP : Hid ((ae s).2.length + ((T.kids 0).size + (T.kids 1).size) ≤ K.N) := by
  exact bQ17
 have J4 : Hid (∀ s1, CR.bind (aE (bP K.F (T.kids 0)) 3 (ae s)) (aE (bP K.F (T.kids 1)) 1) = .ok s1 → s1.1 = s.1 ∧ s1.2.length = s.2.length + 1 + ((T.kids 0).size + (T.kids 1).size)) := by
  exact bQ11
 have k_Q52_0 := kk
 exact VT) : G := h
theorem V4 (h : G := by
 have k_Q48_1 := kk
 exact VW) : G := h
theorem V3 (h : G := by
 have qE := aa (fM hN.fine)
 have yC : Hid (∀ st : CS, st.1 = s.1 → st.2.length = s.2.length + 1 + (T.kids 0).size → st.2.length + (T.kids 1).size ≤ K.N ∧ st.1 ≠ [] ∧ st.1.length ≤ st.2.length ∧ aN st.1 + 1 ≤ st.2.length ∧ st.1.length + 1 ≤ st.2.length) := by
  exact bQ13
 have J4 := aa (fun s1 (h : aE (bP K.F (T.kids 0)) 3 (ae s) = .ok s1) => (ej K.F _ dh).want 3 _ _ h)
 have iP := aa (gz ay (i := 0) (by omega))
 have k_Q54_0 := kk
 exact VR) : G := h
theorem V2 (h : G := by
 rw [aM]
 have k_Q48_0 := kk
 exact VW) : G := h
theorem V1 (h : G := by
 have qE := aa (fM hN.fine)
 have yC : Hid (∀ st : CS, st.1 = s.1 → st.2.length = s.2.length + 1 + 0 → st.2.length + (T.kids 0).size ≤ K.N ∧ st.1 ≠ [] ∧ st.1.length ≤ st.2.length ∧ aN st.1 + 1 ≤ st.2.length ∧ st.1.length + 1 ≤ st.2.length) := by
  exact bQ12
 obtain ⟨ti, we, jF, qM, Ge⟩ := yC.out (ae s) rfl (by rw [aP])
 have k_Q49_1 := kk
 exact VV) : G := h
theorem V0 (h : G := by
 have k_Q66_0 := kk
 exact VH) : G := h
theorem VZ (h : G := by
 have k_Q59_1 := kk
 exact VN) : G := h
theorem JJ (h : G := by
 rw [aM]
 have k_Q60_0 := kk
 exact VM) : G := h
theorem VY (h : G := by
 have HM := aa hM
 have k_Q53_1 := kk
 exact VS) : G := h
theorem VX (h : G := by
 have HM := aa hM
 clear hM
 rw [CR.bind_ok]
 have k_Q58_0 := kk
 exact VO) : G := h
theorem VW (h : G := by
 have k_Q77_1 := kk
 exact Vv) : G := h
theorem VV (h : G := by
 have k_Q64_2 := kk
 exact JH) : G := h
theorem tH (h : G := by
 rw [aM]
 have k_Q74_1 := kk
 exact Vy) : G := h
theorem VU (h : G := by
 have iP := aa (gz ay (i := 0) (by omega))
 have mz : Hid (∀ s1, aE (bP K.F (T.kids 0)) 2 (ae s) = .ok s1 → s1.2.length + (T.kids 1).size ≤ K.N ∧ s1.1.length + 1 ≤ s1.2.length) := by
  exact bQ10
 have k_Q57_0 := kk
 exact VP) : G := h
theorem VT (h : G := by
 have k_Q62_1 := kk
 exact VK) : G := h
theorem VS (h : G := by
 clear hM
 rw [CR.bind_error]
 have k_Q58_1 := kk
 exact VO) : G := h
theorem VR (h : G := by
 have k_Q57_1 := kk
 exact VP) : G := h
theorem JI (h : G := by
 have k_Q64_3 := kk
 exact JH) : G := h
theorem VQ (h : G := by
 clear h0 Cn HD
 go_enter Tryz.func104, Tryz.ntmps104
 go_wp2_with (first
  |(go_at_call 69; refine iI.out.mono ?_; rintro e w1 ⟨rfl, aD⟩; obtain ⟨b0, b1, b2, b3⟩ := al (cP.out _ _ _ _ _ aD); obtain ⟨n4, n7, n8, NY, NV⟩ := aD.nums; have bh := aa aD; clear aD))
 go_still_tail 11, bH
 go_wp2_with (first
  |(go_at_call 126; refine (Gp.out _).mono ?_; rintro e w2 ⟨rfl, rfl⟩; skip))
 first
 |clear k_Q56_0
  go_end0
  exact ⟨rfl, eB.out _ _ _ _ _ bh.out.drew⟩
 |clear k_Q56_1
  exact ⟨rfl, rfl, (bF.out _ _ _ _ _ bh.out).drew⟩) : G := h
theorem VP (h : G := by
 have k_Q62_0 := kk
 exact VK) : G := h
theorem VO (h : G := by
 go_enter Tryz.func134, Tryz.ntmps134
 go_wp2
 have HSX := aa (bh.out)
 obtain ⟨e00, e01, e02, e03⟩ := al (cP.out _ _ _ _ _ bh.out)
 obtain ⟨d00, d01, d02, d03⟩ := dP.out _ (bF.out _ _ _ _ _ bh.out)
 obtain ⟨d10, d11, d12, d13⟩ := fT.out _ (bF.out _ _ _ _ _ bh.out)
 obtain ⟨d20, d21, d22, d23⟩ := nI.out _ (bF.out _ _ _ _ _ bh.out)
 generalize w.alloc (.cells #[.int .i64 T.kind, .int .i64 2, .string T.name, .slice (some ⟨g, off, none⟩) T.len cap] 25) = wx at *
 go_still_tail 9, bH
 first
 |clear k_Q58_0
  first
  |clear k_Q47_0
   go_wp2_with (first
    |(go_at_call 120; refine (cw (Gm.out _ _ bh.out.drew iP.out) iJ.out).mono ?_; rintro e w2 ⟨rfl, aC⟩; obtain ⟨b0, b1, b2, b3⟩ := al (cP.out _ _ _ _ _ aC); obtain ⟨eA, ez, ey, ew⟩ := dP.out _ (bF.out _ _ _ _ _ aC); obtain ⟨gS, gN, gR, gM⟩ := fT.out _ (bF.out _ _ _ _ _ aC); obtain ⟨rh, re, oN, oM⟩ := nI.out _ (bF.out _ _ _ _ _ aC); have bR := aa aC; clear aC)
    |(go_at_call 90; refine (dx bR.out yA.out).mono ?_; rintro e x1 ⟨rfl, dH⟩; obtain ⟨b0, b1, b2, b3⟩ := al (cP.out _ _ _ _ _ dH); obtain ⟨eA, ez, ey, ew⟩ := dP.out _ (bF.out _ _ _ _ _ dH); obtain ⟨gS, gN, gR, gM⟩ := fT.out _ (bF.out _ _ _ _ _ dH); obtain ⟨rh, re, oN, oM⟩ := nI.out _ (bF.out _ _ _ _ _ dH); have mz := aa dH; clear dH)
    |(go_at_call 92; refine (cw (kz.out _ _ mz.out vT.out (by simp) yz.out) HM.out).mono ?_; rintro e x3 ⟨rfl, mJ⟩; have wi := aa mJ; clear mJ)
    |(go_at_call 93; refine (fx wi.out (nH.out _ _ _ HM.out)).mono ?_; rintro e x4 ⟨rfl, oD⟩; have FN := aa oD; clear oD))
   go_end0
   exact ⟨rfl, eB.out _ _ _ _ _ FN.out⟩
  |clear k_Q47_1
   go_wp2_with (first
    |(go_at_call 120; refine (cw (Gm.out _ _ bh.out.drew iP.out) iJ.out).mono ?_; rintro e w2 ⟨rfl, aC⟩; obtain ⟨b0, b1, b2, b3⟩ := al (cP.out _ _ _ _ _ aC); obtain ⟨eA, ez, ey, ew⟩ := dP.out _ (bF.out _ _ _ _ _ aC); obtain ⟨gS, gN, gR, gM⟩ := fT.out _ (bF.out _ _ _ _ _ aC); obtain ⟨rh, re, oN, oM⟩ := nI.out _ (bF.out _ _ _ _ _ aC); have bR := aa aC; clear aC)
    |(go_at_call 90; refine (dx bR.out yA.out).mono ?_; rintro e x1 ⟨rfl, dH⟩; obtain ⟨b0, b1, b2, b3⟩ := al (cP.out _ _ _ _ _ dH); obtain ⟨eA, ez, ey, ew⟩ := dP.out _ (bF.out _ _ _ _ _ dH); obtain ⟨gS, gN, gR, gM⟩ := fT.out _ (bF.out _ _ _ _ _ dH); obtain ⟨rh, re, oN, oM⟩ := nI.out _ (bF.out _ _ _ _ _ dH); have mz := aa dH; clear dH)
    |(go_at_call 91; refine (cw (fB mz.out T.name 1 p (by simp) (by decide) qE.out Ka.out) rfl).mono ?_; rintro e x2 ⟨rfl, ll⟩; have ft : IS K _ O1 ([(T.name, 1)] :: s1.1, s1.2) cx.ret cx.loops ai x2 := ll; clear ll; obtain ⟨b0, b1, b2, b3⟩ := al (cP.out _ _ _ _ _ ft); obtain ⟨eA, ez, ey, ew⟩ := dP.out _ (bF.out _ _ _ _ _ ft); obtain ⟨gS, gN, gR, gM⟩ := fT.out _ (bF.out _ _ _ _ _ ft); obtain ⟨rh, re, oN, oM⟩ := nI.out _ (bF.out _ _ _ _ _ ft); have lF := aa ft; clear ft)
    |(go_at_call 92; refine (cw (kz.out _ _ lF.out vT.out (by simp) yz.out) HM.out).mono ?_; rintro e x3 ⟨rfl, mJ⟩; have wi := aa mJ; clear mJ)
    |(go_at_call 93; refine (fx wi.out (nH.out _ _ _ HM.out)).mono ?_; rintro e x4 ⟨rfl, oD⟩; have FN := aa oD; clear oD))
   go_end0
   exact ⟨rfl, eB.out _ _ _ _ _ FN.out⟩
 |clear k_Q58_1
  first
  |clear k_Q53_0
   go_wp2_with (first
    |(go_at_call 120; refine (dr (Gm.out _ _ bh.out.drew iP.out) iJ.out).mono ?_; rintro e w2 ⟨rfl, ba⟩; skip))
   exact ⟨rfl, rfl, (bF.out _ _ _ _ _ bh.out.drew).trans ba⟩
  |clear k_Q53_1
   first
   |clear k_Q46_0
    go_wp2_with (first
     |(go_at_call 120; refine (cw (Gm.out _ _ bh.out.drew iP.out) iJ.out).mono ?_; rintro e w2 ⟨rfl, aC⟩; obtain ⟨b0, b1, b2, b3⟩ := al (cP.out _ _ _ _ _ aC); obtain ⟨eA, ez, ey, ew⟩ := dP.out _ (bF.out _ _ _ _ _ aC); obtain ⟨gS, gN, gR, gM⟩ := fT.out _ (bF.out _ _ _ _ _ aC); obtain ⟨rh, re, oN, oM⟩ := nI.out _ (bF.out _ _ _ _ _ aC); have bR := aa aC; clear aC)
     |(go_at_call 90; refine (dx bR.out yA.out).mono ?_; rintro e x1 ⟨rfl, dH⟩; obtain ⟨b0, b1, b2, b3⟩ := al (cP.out _ _ _ _ _ dH); obtain ⟨eA, ez, ey, ew⟩ := dP.out _ (bF.out _ _ _ _ _ dH); obtain ⟨gS, gN, gR, gM⟩ := fT.out _ (bF.out _ _ _ _ _ dH); obtain ⟨rh, re, oN, oM⟩ := nI.out _ (bF.out _ _ _ _ _ dH); have mz := aa dH; clear dH)
     |(go_at_call 92; refine (dr (kz.out _ _ mz.out vT.out (by simp) yz.out) HM.out).mono ?_; rintro e x3 ⟨rfl, cZ⟩; skip))
    exact OD
   |clear k_Q46_1
    go_wp2_with (first
     |(go_at_call 120; refine (cw (Gm.out _ _ bh.out.drew iP.out) iJ.out).mono ?_; rintro e w2 ⟨rfl, aC⟩; obtain ⟨b0, b1, b2, b3⟩ := al (cP.out _ _ _ _ _ aC); obtain ⟨eA, ez, ey, ew⟩ := dP.out _ (bF.out _ _ _ _ _ aC); obtain ⟨gS, gN, gR, gM⟩ := fT.out _ (bF.out _ _ _ _ _ aC); obtain ⟨rh, re, oN, oM⟩ := nI.out _ (bF.out _ _ _ _ _ aC); have bR := aa aC; clear aC)
     |(go_at_call 90; refine (dx bR.out yA.out).mono ?_; rintro e x1 ⟨rfl, dH⟩; obtain ⟨b0, b1, b2, b3⟩ := al (cP.out _ _ _ _ _ dH); obtain ⟨eA, ez, ey, ew⟩ := dP.out _ (bF.out _ _ _ _ _ dH); obtain ⟨gS, gN, gR, gM⟩ := fT.out _ (bF.out _ _ _ _ _ dH); obtain ⟨rh, re, oN, oM⟩ := nI.out _ (bF.out _ _ _ _ _ dH); have mz := aa dH; clear dH)
     |(go_at_call 91; refine (cw (fB mz.out T.name 1 p (by simp) (by decide) qE.out Ka.out) rfl).mono ?_; rintro e x2 ⟨rfl, ll⟩; have ft : IS K _ O1 ([(T.name, 1)] :: s1.1, s1.2) cx.ret cx.loops ai x2 := ll; clear ll; obtain ⟨b0, b1, b2, b3⟩ := al (cP.out _ _ _ _ _ ft); obtain ⟨eA, ez, ey, ew⟩ := dP.out _ (bF.out _ _ _ _ _ ft); obtain ⟨gS, gN, gR, gM⟩ := fT.out _ (bF.out _ _ _ _ _ ft); obtain ⟨rh, re, oN, oM⟩ := nI.out _ (bF.out _ _ _ _ _ ft); have lF := aa ft; clear ft)
     |(go_at_call 92; refine (dr (kz.out _ _ lF.out vT.out (by simp) yz.out) HM.out).mono ?_; rintro e x3 ⟨rfl, cZ⟩; skip))
    exact OC) : G := h
theorem VN (h : G := by
 have k_Q77_0 := kk
 exact Vv) : G := h
theorem VM (h : G := by
 have k_Q86_0 := kk
 exact Vn) : G := h
theorem VL (h : G := by
 have HM := aa hM
 clear hM
 go_enter Tryz.func104, Tryz.ntmps104
 go_wp2_with (first
  |(go_at_call 69; refine iI.out.mono ?_; rintro e w1 ⟨rfl, aD⟩; obtain ⟨b0, b1, b2, b3⟩ := al (cP.out _ _ _ _ _ aD); obtain ⟨eA, ez, ey, ew⟩ := dP.out _ (bF.out _ _ _ _ _ aD); obtain ⟨gS, gN, gR, gM⟩ := fT.out _ (bF.out _ _ _ _ _ aD); have bh := aa aD; clear aD))
 go_still_tail 9, bH
 first
 |clear k_Q61_0
  go_wp2_with (first
   |(go_at_call 120; refine (dr (Gm.out _ bh.out.drew) HM.out).mono ?_; rintro e w2 ⟨rfl, ba⟩; skip))
  exact OE
 |clear k_Q61_1
  go_wp2_with (first
   |(go_at_call 120; refine (cw (Gm.out _ bh.out.drew) HM.out).mono ?_; rintro e w2 ⟨rfl, aC⟩; have bR := aa aC; clear aC))
  go_end0
  exact ⟨rfl, eB.out _ _ _ _ _ bR.out⟩) : G := h
theorem VK (h : G := by
 have k_Q73_0 := kk
 exact Vz) : G := h
theorem VJ (h : G := by
 have k_Q76_1 := kk
 exact Vw) : G := h
theorem JH (h : G := by
 have k_Q73_1 := kk
 exact Vz) : G := h
theorem VI (h : G := by
 clear h0 Cn kA
 go_enter Tryz.func104, Tryz.ntmps104
 go_wp2_with (first
  |(go_at_call 69; refine iI.out.mono ?_; rintro e w1 ⟨rfl, aD⟩; obtain ⟨b0, b1, b2, b3⟩ := al (cP.out _ _ _ _ _ aD); obtain ⟨n4, n7, n8, NY, NV⟩ := aD.nums; have bh := aa aD; clear aD)
  |(go_at_call 126; refine (Gp.out _).mono ?_; rintro e w2 ⟨rfl, rfl⟩; skip))
 first
 |clear k_Q65_0
  go_end0
  exact ⟨rfl, eB.out _ _ _ _ _ bh.out⟩
 |clear k_Q65_1
  exact ⟨rfl, rfl, bF.out _ _ _ _ _ bh.out⟩) : G := h
theorem VH (h : G := by
 have k_Q81_1 := kk
 exact JG) : G := h
theorem VG (h : G := by
 have yA := aa jF
 have Ka : Hid (aN ([] :: s1.1) + 1 ≤ s1.2.length) := by unfold Hid; rw [j6]; exact qM
 have yz : Hid ((([(T.name, 1)] : List (ByteArray × Int)) :: s1.1, s1.2).1.length ≤ (([(T.name, 1)] : List (ByteArray × Int)) :: s1.1, s1.2).2.length) := by unfold Hid; simp; omega
 clear ti we jF qM Ge
 unfold within
 first
 |clear k_Q67_0
  cases hM : (b7 K.F (T.kids 1)).sts cx ([(T.name, 1)] :: s1.1, s1.2) with
  |error pe =>
   have HM := aa hM
   clear hM
   rw [CR.bind_error]
   go_enter Tryz.func134, Tryz.ntmps134
   go_wp2_with (first
    |(go_at_call 117; refine (cw (jn.out _ _ _ _ _ 3 bh.out iP.out) iJ.out).mono ?_; rintro e w2 ⟨rfl, aC⟩; obtain ⟨b0, b1, b2, b3⟩ := al (cP.out _ _ _ _ _ aC); obtain ⟨eA, ez, ey, ew⟩ := dP.out _ (bF.out _ _ _ _ _ aC); obtain ⟨gS, gN, gR, gM⟩ := fT.out _ (bF.out _ _ _ _ _ aC); have bR := aa aC; clear aC)
    |(go_at_call 90; refine (dx bR.out yA.out).mono ?_; rintro e x1 ⟨rfl, dH⟩; obtain ⟨b0, b1, b2, b3⟩ := al (cP.out _ _ _ _ _ dH); obtain ⟨eA, ez, ey, ew⟩ := dP.out _ (bF.out _ _ _ _ _ dH); obtain ⟨gS, gN, gR, gM⟩ := fT.out _ (bF.out _ _ _ _ _ dH); have mz := aa dH; clear dH)
    |(go_at_call 91; refine (cw (fB mz.out T.name 1 p (by simp) (by decide) qE.out Ka.out) rfl).mono ?_; rintro e x2 ⟨rfl, ll⟩; have ft : IS K _ O1 ([(T.name, 1)] :: s1.1, s1.2) cx.ret cx.loops ai x2 := ll; clear ll; obtain ⟨b0, b1, b2, b3⟩ := al (cP.out _ _ _ _ _ ft); obtain ⟨eA, ez, ey, ew⟩ := dP.out _ (bF.out _ _ _ _ _ ft); obtain ⟨gS, gN, gR, gM⟩ := fT.out _ (bF.out _ _ _ _ _ ft); have lF := aa ft; clear ft)
    |(go_at_call 92; refine (dr (kz.out _ _ lF.out vT.out (by simp) yz.out) HM.out).mono ?_; rintro e x3 ⟨rfl, cZ⟩; skip))
   exact OC
  |ok s9 =>
   have HM := aa hM
   clear hM
   rw [CR.bind_ok]
   go_enter Tryz.func134, Tryz.ntmps134
   go_wp2_with (first
    |(go_at_call 117; refine (cw (jn.out _ _ _ _ _ 3 bh.out iP.out) iJ.out).mono ?_; rintro e w2 ⟨rfl, aC⟩; obtain ⟨b0, b1, b2, b3⟩ := al (cP.out _ _ _ _ _ aC); obtain ⟨eA, ez, ey, ew⟩ := dP.out _ (bF.out _ _ _ _ _ aC); obtain ⟨gS, gN, gR, gM⟩ := fT.out _ (bF.out _ _ _ _ _ aC); have bR := aa aC; clear aC)
    |(go_at_call 90; refine (dx bR.out yA.out).mono ?_; rintro e x1 ⟨rfl, dH⟩; obtain ⟨b0, b1, b2, b3⟩ := al (cP.out _ _ _ _ _ dH); obtain ⟨eA, ez, ey, ew⟩ := dP.out _ (bF.out _ _ _ _ _ dH); obtain ⟨gS, gN, gR, gM⟩ := fT.out _ (bF.out _ _ _ _ _ dH); have mz := aa dH; clear dH)
    |(go_at_call 91; refine (cw (fB mz.out T.name 1 p (by simp) (by decide) qE.out Ka.out) rfl).mono ?_; rintro e x2 ⟨rfl, ll⟩; have ft : IS K _ O1 ([(T.name, 1)] :: s1.1, s1.2) cx.ret cx.loops ai x2 := ll; clear ll; obtain ⟨b0, b1, b2, b3⟩ := al (cP.out _ _ _ _ _ ft); obtain ⟨eA, ez, ey, ew⟩ := dP.out _ (bF.out _ _ _ _ _ ft); obtain ⟨gS, gN, gR, gM⟩ := fT.out _ (bF.out _ _ _ _ _ ft); have lF := aa ft; clear ft)
    |(go_at_call 92; refine (cw (kz.out _ _ lF.out vT.out (by simp) yz.out) HM.out).mono ?_; rintro e x3 ⟨rfl, mJ⟩; have wi := aa mJ; clear mJ)
    |(go_at_call 93; refine (fx wi.out (nH.out _ _ _ HM.out)).mono ?_; rintro e x4 ⟨rfl, oD⟩; have FN := aa oD; clear oD))
   go_end0
   exact ⟨rfl, eB.out _ _ _ _ _ FN.out⟩
 |clear k_Q67_1
  cases hM : (b7 K.F (T.kids 2)).sts cx ([(T.name, 1)] :: s1.1, s1.2) with
  |error pe =>
   have k_Q46_1 := kk
   exact VY
  |ok s9 =>
   have k_Q47_1 := kk
   exact VX) : G := h
theorem VF (h : G := by
 have La : (j : Int) < (T.len : Int) := by omega
 obtain ⟨g, off, mQ, mh, iM, rZ, aV⟩ := kM.out (by omega)
 injection mh with vw Lq vu
 subst vw
 subst vu
 obtain ⟨u, kK, jJ⟩ := aV j bN
 obtain ⟨au, qu, hu, pY, Bg⟩ := aH.1 jJ
 subst hu
 clear Bg
 obtain ⟨c0, c1, c2, c3⟩ := kK _ (bF.out _ _ _ _ _ cy)
 first
 |clear k_Q68_0
  have HW := aa (fun o => J9.out j bN _ jJ (wr.alloc o) st (cy.alloc o) aM)
  have kG : Hid (forN (fun i => (b7 K.F (T.kids i)).st cx) (j + 1) (ae s) = (b7 K.F (T.kids j)).st cx st) := by unfold Hid; simp only [forN, aM]; rfl
  have pr := aa (fun o => (bF.out _ _ _ _ _ cy).trans (cy.box o))
  unfold Nd.val at HW
  clear aV kK jJ cy
  cases hM : (b7 K.F (T.kids j)).st cx st with
  |error p =>
   have HM := aa hM
   have qF : Hid (forN (fun i => (b7 K.F (T.kids i)).st cx) T.len (ae s) = .error p) := im (kG.out.trans hM) (show j + 1 ≤ T.len by omega)
   clear hM aM
   go_wp2_with (first
    |(go_at_call 104; refine (dr (HW.out _) HM.out).mono ?_; rintro e w2 ⟨rfl, ba⟩; skip))
   refine ⟨rfl, ?_⟩
   rw [fR qF.out]
   exact ⟨rfl, (pr.out _).trans ba⟩
  |ok s1 =>
   have HM := aa hM
   clear hM aM
   go_wp2_with (first
    |(go_at_call 104; refine (cw (HW.out _) HM.out).mono ?_; rintro e w2 ⟨rfl, aC⟩; have bR := aa aC; clear aC))
   exact ⟨⟨j + 1, by omega, by go_num, s1, by rw [kG.out, HM.out], bR.out⟩, by simp [intOf]; omega⟩
 |clear k_Q68_1
  obtain ⟨zb, Ex, za⟩ := HCT.out j st hj aM
  have ia := LH.out j bN
  have Is : 0 < (T.kids j).size := by rw [(T.kids j).size_eq]; omega
  obtain ⟨O2, dH, NF, Bq, tr⟩ := cy.boxed (.cells #[.int .i64 (T.kids j).kind, .int .i64 (T.kids j).num, .string (T.kids j).name, .slice au (T.kids j).len qu] 25)
  have iI := aa (ic dH (by omega))
  have hvv := cy.len.vars
  have oP := aa (fun s' r' l' o' W (h : IS K (wr.alloc (.cells #[.int .i64 (T.kids j).kind, .int .i64 (T.kids j).num, .string (T.kids j).name, .slice au (T.kids j).len qu] 25)) O2 s' r' l' o' W) => bF.out _ _ _ _ _ (NF _ _ _ _ _ h))
  have Kf := aa NF
  have PP := aa Bq
  have PL := aa (fun (f : Bool) (Qa : ¬ ((T.kids j).num = 0 ∧ f = true)) (W : World) (hW : IS K (wr.alloc (.cells #[.int .i64 (T.kids j).kind, .int .i64 (T.kids j).num, .string (T.kids j).name, .slice au (T.kids j).len qu] 25)) O2 (ae st) cx.ret cx.loops ((ai : Int) + 1) W) => HIC.out j bN f Qa _ jJ _ O2 W st st.2.length hW (oP.out _ _ _ _ _ hW) (by omega) Ex za hvv)
  have kG : Hid (q9 K.F T ⟨cx.ret, cx.loops, cx.outs + 1⟩ (ae s) (j + 1) = (b7 K.F (T.kids j)).cs (km T j) ⟨cx.ret, cx.loops, cx.outs + 1⟩ st) := by unfold Hid; rw [qo, aM]; rfl
  have wk : Hid (km T (j + 1) = (km T j || decide ((T.kids j).num = 0))) := rfl
  have gr : Hid ((T.kids j).kind = 16) := (zH (HCO.out j bN)).1
  unfold Nd.val at PL
  clear aV kK jJ cy dH NF Bq tr aM hvv zb Ex za
  generalize T.kids j = D at *
  by_cases tt : D.num = 0 ∧ km T j = true
  ·obtain ⟨h0, hfj⟩ := tt
   have e1 : (D.num == 0) = true := beq_iff_eq.2 h0
   have qF : Hid (q9 K.F T ⟨cx.ret, cx.loops, cx.outs + 1⟩ (ae s) T.len = .error (6, st.2.length)) := pd (by rw [kG.out, hfj]; exact Lv gr.out h0) (show j + 1 ≤ T.len by omega)
   generalize km T j = fj at *
   subst hfj
   clear h0
   go_wp2_with (first
    |(go_at_call 69; refine iI.out.mono ?_; rintro e x2 ⟨rfl, ft⟩; obtain ⟨b0, b1, b2, b3⟩ := al (PP.out _ _ _ _ _ ft); have lF := aa ft; clear ft))
   refine ⟨rfl, ?_⟩
   rw [fR qF.out]
   exact ⟨rfl, oP.out _ _ _ _ _ lF.out⟩
  ·have qH := aa tt
   clear tt
   cases hM : (b7 K.F D).cs (km T j) ⟨cx.ret, cx.loops, cx.outs + 1⟩ st with
   |error p =>
    have HM := aa hM
    have qF : Hid (q9 K.F T ⟨cx.ret, cx.loops, cx.outs + 1⟩ (ae s) T.len = .error p) := pd (by rw [kG.out]; exact hM) (show j + 1 ≤ T.len by omega)
    clear hM
    have qR := aa (fun W hW => dr (PL.out (km T j) qH.out W hW) HM.out)
    have kB : (km T j = true ∧ (D.num == 0) = false) ∨ (km T j = false ∧ (D.num == 0) = true) ∨ (km T j = false ∧ (D.num == 0) = false) := by
     by_cases h0 : D.num = 0
     ·cases hf : km T j with
      |true => exact absurd ⟨h0, hf⟩ qH.out
      |false => exact .inr (.inl ⟨rfl, beq_iff_eq.2 h0⟩)
     ·cases hf : km T j with
      |true => exact .inl ⟨rfl, bn h0⟩
      |false => exact .inr (.inr ⟨rfl, bn h0⟩)
    clear PL kG wk qH HM
    generalize km T j = fj at *
    rcases kB with ⟨rfl, e1⟩ | ⟨rfl, e1⟩ | ⟨rfl, e1⟩
    all_goals go_wp2_with (first
     |(go_at_call 69; refine iI.out.mono ?_; rintro e x2 ⟨rfl, ft⟩; obtain ⟨b0, b1, b2, b3⟩ := al (PP.out _ _ _ _ _ ft); have lF := aa ft; clear ft)
     |(go_at_call 134; refine (qR.out _ lF.out).mono ?_; rintro e x3 ⟨rfl, cZ⟩; skip))
    all_goals refine ⟨rfl, ?_⟩
    all_goals rw [fR qF.out]
    all_goals exact ⟨rfl, (oP.out _ _ _ _ _ lF.out).trans cZ⟩
   |ok s1 =>
    have HM := aa hM
    clear hM
    have qR := aa (fun W hW => cw (PL.out (km T j) qH.out W hW) HM.out)
    have vR : Hid (q9 K.F T ⟨cx.ret, cx.loops, cx.outs + 1⟩ (ae s) (j + 1) = .ok s1) := kG.out.trans HM.out
    have kB : (km T j = true ∧ (D.num == 0) = false ∧ km T (j + 1) = true) ∨ (km T j = false ∧ (D.num == 0) = true ∧ km T (j + 1) = true) ∨ (km T j = false ∧ (D.num == 0) = false ∧ km T (j + 1) = false) := by
     rw [wk.out]
     by_cases h0 : D.num = 0
     ·cases hf : km T j with
      |true => exact absurd ⟨h0, hf⟩ qH.out
      |false => exact .inr (.inl ⟨rfl, beq_iff_eq.2 h0, by rw [decide_eq_true h0]; rfl⟩)
     ·cases hf : km T j with
      |true => exact .inl ⟨rfl, bn h0, rfl⟩
      |false => exact .inr (.inr ⟨rfl, bn h0, by rw [decide_eq_false h0]; rfl⟩)
    clear PL kG wk qH HM
    generalize km T j = fj at *
    rcases kB with ⟨rfl, e1, e9⟩ | ⟨rfl, e1, e9⟩ | ⟨rfl, e1, e9⟩
    all_goals have H9 := aa e9
    all_goals clear e9
    all_goals go_wp2_with (first
     |(go_at_call 69; refine iI.out.mono ?_; rintro e x2 ⟨rfl, ft⟩; obtain ⟨b0, b1, b2, b3⟩ := al (PP.out _ _ _ _ _ ft); have lF := aa ft; clear ft)
     |(go_at_call 134; refine (qR.out _ lF.out).mono ?_; rintro e x3 ⟨rfl, mJ⟩; have wi := aa (Kf.out _ _ _ _ _ mJ); clear mJ))
    all_goals exact ⟨⟨j + 1, by omega, by go_num, by rw [H9.out], s1, vR.out, wi.out⟩, by simp [intOf]; omega⟩) : G := h
theorem VE (h : G := by
 refine wpAnyH_take (i := 9) (v := ?_) rfl (by kernel_rfl) (by kernel_rfl) (by kernel_rfl) (fun _ _ _ h => h) (Or.inl ⟨by rfl, ?_⟩) eG ?_
 rotate_left
 ·exact ri
 simp only [Act.put]
 refine wpAnyH_ready (rs := [8]) (by kernel_rfl) (by simp) ?_
 refine AllReadyH.cons rfl (fun K' hK => ?_) AllReadyH.nil
 rw [if_pos (by rfl)]
 first
 |clear k_Q69_0
  go_wp2_with (go_at_call 116; refine (dr (HV.out _ bh.out.drew) HM.out).mono ?_; rintro e w2 ⟨rfl, ba⟩; skip)
  exact OE
 |clear k_Q69_1
  go_wp2_with (go_at_call 116; refine (cw (HV.out _ bh.out.drew) HM.out).mono ?_; rintro e w2 ⟨rfl, aC⟩; obtain ⟨b0, b1, b2, b3⟩ := al (cP.out _ _ _ _ _ aC); obtain ⟨eA, ez, ey, ew⟩ := dP.out _ (bF.out _ _ _ _ _ aC); have bR := aa aC; clear aC)
  have k_Q82_0 := kk
  exact Vq) : G := h
theorem VC (h : G := by
 refine wpAnyH_take (i := 8) (v := ?_) rfl (by kernel_rfl) (by kernel_rfl) (by kernel_rfl) (fun _ _ _ h => h) (Or.inl ⟨by rfl, ?_⟩) eG ?_
 rotate_left
 ·exact ri
 simp only [Act.put]
 refine wpAnyH_ready (rs := [9]) (by kernel_rfl) (by simp) ?_
 refine AllReadyH.cons rfl (fun K' hK => ?_) AllReadyH.nil
 rw [if_pos (by rfl)]
 first
 |clear k_Q70_0
  go_wp2_with (go_at_call 118; refine (dr (HV.out _ bh.out.drew) rfl).mono ?_; rintro e w2 ⟨rfl, ba⟩; skip)
  exact OE
 |clear k_Q70_1
  go_wp2_with (go_at_call 118; refine (cw (HV.out _ bh.out.drew) rfl).mono ?_; rintro e w2 ⟨rfl, aC⟩; obtain ⟨b0, b1, b2, b3⟩ := al (cP.out _ _ _ _ _ aC); obtain ⟨eA, ez, ey, ew⟩ := dP.out _ (bF.out _ _ _ _ _ aC); have bR := aa aC; clear aC)
  have k_Q82_1 := kk
  exact Vq) : G := h
theorem VB (h : G := by
 have yA := aa jF
 have Ka : Hid (aN ([] :: s1.1) + 1 ≤ s1.2.length) := by unfold Hid; rw [j6]; exact qM
 have yz : Hid ((([] : List (ByteArray × Int)) :: s1.1, s1.2).1.length ≤ (([] : List (ByteArray × Int)) :: s1.1, s1.2).2.length) := by unfold Hid; simp; omega
 clear ti we jF qM Ge
 unfold within
 first
 |clear k_Q71_0
  cases hM : (b7 K.F (T.kids 1)).sts cx ([] :: s1.1, s1.2) with
  |error pe =>
   have HM := aa hM
   clear hM
   rw [CR.bind_error]
   go_enter Tryz.func134, Tryz.ntmps134
   go_wp2_with (first
    |(go_at_call 117; refine (cw (jn.out _ _ _ _ _ 3 bh.out iP.out) iJ.out).mono ?_; rintro e w2 ⟨rfl, aC⟩; obtain ⟨b0, b1, b2, b3⟩ := al (cP.out _ _ _ _ _ aC); obtain ⟨eA, ez, ey, ew⟩ := dP.out _ (bF.out _ _ _ _ _ aC); obtain ⟨gS, gN, gR, gM⟩ := fT.out _ (bF.out _ _ _ _ _ aC); have bR := aa aC; clear aC)
    |(go_at_call 90; refine (dx bR.out yA.out).mono ?_; rintro e x1 ⟨rfl, dH⟩; obtain ⟨b0, b1, b2, b3⟩ := al (cP.out _ _ _ _ _ dH); obtain ⟨eA, ez, ey, ew⟩ := dP.out _ (bF.out _ _ _ _ _ dH); obtain ⟨gS, gN, gR, gM⟩ := fT.out _ (bF.out _ _ _ _ _ dH); have mz := aa dH; clear dH)
    |(go_at_call 92; refine (dr (kz.out _ _ mz.out vT.out (by simp) yz.out) HM.out).mono ?_; rintro e x3 ⟨rfl, cZ⟩; skip))
   exact OD
  |ok s9 =>
   have HM := aa hM
   clear hM
   rw [CR.bind_ok]
   go_enter Tryz.func134, Tryz.ntmps134
   go_wp2_with (first
    |(go_at_call 117; refine (cw (jn.out _ _ _ _ _ 3 bh.out iP.out) iJ.out).mono ?_; rintro e w2 ⟨rfl, aC⟩; obtain ⟨b0, b1, b2, b3⟩ := al (cP.out _ _ _ _ _ aC); obtain ⟨eA, ez, ey, ew⟩ := dP.out _ (bF.out _ _ _ _ _ aC); obtain ⟨gS, gN, gR, gM⟩ := fT.out _ (bF.out _ _ _ _ _ aC); have bR := aa aC; clear aC)
    |(go_at_call 90; refine (dx bR.out yA.out).mono ?_; rintro e x1 ⟨rfl, dH⟩; obtain ⟨b0, b1, b2, b3⟩ := al (cP.out _ _ _ _ _ dH); obtain ⟨eA, ez, ey, ew⟩ := dP.out _ (bF.out _ _ _ _ _ dH); obtain ⟨gS, gN, gR, gM⟩ := fT.out _ (bF.out _ _ _ _ _ dH); have mz := aa dH; clear dH)
    |(go_at_call 92; refine (cw (kz.out _ _ mz.out vT.out (by simp) yz.out) HM.out).mono ?_; rintro e x3 ⟨rfl, mJ⟩; have wi := aa mJ; clear mJ)
    |(go_at_call 93; refine (fx wi.out (nH.out _ _ _ HM.out)).mono ?_; rintro e x4 ⟨rfl, oD⟩; have FN := aa oD; clear oD))
   go_end0
   exact ⟨rfl, eB.out _ _ _ _ _ FN.out⟩
 |clear k_Q71_1
  cases hM : (b7 K.F (T.kids 2)).sts cx ([] :: s1.1, s1.2) with
  |error pe =>
   have k_Q46_0 := kk
   exact VY
  |ok s9 =>
   have k_Q47_0 := kk
   exact VX) : G := h
theorem VA (h : G := by
 have QJ := aa jl
 have k_Q75_1 := kk
 exact Vx) : G := h
theorem Vz (h : G := by
 unfold Nd.val at *
 have fz : g < w.heap.size := by omega
 have IH : g < w.heap.size + 1 := by omega
 have IG : g < w.heap.size + 1 + 1 := by omega
 have Tp : ¬ g = w.heap.size := by omega
 have IL : ¬ g = w.heap.size + 1 := by omega
 have IJ : ¬ g = w.heap.size + 1 + 1 := by omega
 obtain ⟨eA, ez, ey, ew⟩ := dP.out w (Below.refl _ _)
 first
 |clear k_Q73_0
  obtain ⟨gS, gN, gR, gM⟩ := fT.out w (Below.refl _ _)
  first
  |clear k_Q62_0
   have iB : 0 < T.len := by omega
   have rS : (1 : Int) < (T.len : Int) := by omega
   have nY : 1 < T.len := by omega
   first
   |clear k_Q57_0
    first
    |clear k_Q51_0
     have Bx : (T.len : Int) - 1 = 1 := by omega
     have k_Q78_0 := kk
     exact Vu
    |clear k_Q51_1
     have hl3 : ((T.len : Int) == 3) = false := bn (by omega)
     clear hS hE hN aD bg bS aZ aV fs dI eM fN aS hk hl cg jl ay hb1 Bi dh
     cases hM : aE (bP K.F (T.kids 0)) 2 (ae s) with
     |error p =>
      exact bQ9
     |ok s1 =>
      have HM := aa hM
      clear hM
      rw [CR.bind_ok]
      have iJ := HM
      obtain ⟨dH, ft⟩ := mz.out _ iJ.out
      have HX := aa dH
      have HD := aa ft
      clear dH ft
      cases hM : within [] ((b7 K.F (T.kids 1)).sts cx) s1 with
      |error p =>
       have HM := aa hM
       clear hM
       go_enter Tryz.func122, Tryz.ntmps122
       go_wp2_with (first
        |(go_at_call 117; refine (cw (jn.out _ _ _ _ _ 2 bh.out iP.out) iJ.out).mono ?_; rintro e w2 ⟨rfl, aC⟩; obtain ⟨b0, b1, b2, b3⟩ := al (cP.out _ _ _ _ _ aC); obtain ⟨eA, ez, ey, ew⟩ := dP.out _ (bF.out _ _ _ _ _ aC); obtain ⟨gS, gN, gR, gM⟩ := fT.out _ (bF.out _ _ _ _ _ aC); have bR := aa aC; clear aC)
        |(go_at_call 115; refine (dr (oq.out _ _ bR.out HX.out HD.out) HM.out).mono ?_; rintro e w3 ⟨rfl, cZ⟩; skip))
       exact JK
      |ok s2 =>
       have HM := aa hM
       clear hM
       go_enter Tryz.func122, Tryz.ntmps122
       go_wp2_with (first
        |(go_at_call 117; refine (cw (jn.out _ _ _ _ _ 2 bh.out iP.out) iJ.out).mono ?_; rintro e w2 ⟨rfl, aC⟩; obtain ⟨b0, b1, b2, b3⟩ := al (cP.out _ _ _ _ _ aC); obtain ⟨eA, ez, ey, ew⟩ := dP.out _ (bF.out _ _ _ _ _ aC); obtain ⟨gS, gN, gR, gM⟩ := fT.out _ (bF.out _ _ _ _ _ aC); have bR := aa aC; clear aC)
        |(go_at_call 115; refine (cw (oq.out _ _ bR.out HX.out HD.out) HM.out).mono ?_; rintro e w3 ⟨rfl, bY⟩; obtain ⟨b0, b1, b2, b3⟩ := al (cP.out _ _ _ _ _ bY); have e7 := aa bY; clear bY))
       go_end0
       exact ⟨rfl, eB.out _ _ _ _ _ e7.out⟩
   |clear k_Q57_1
    first
    |clear k_Q54_0
     have Bx : (T.len : Int) - 1 = 1 := by omega
     have bH := jK
     first
     |clear k_Q40_0
      have k_Q88_0 := kk
      exact OA
     |clear k_Q40_1
      obtain ⟨nf1, nf2⟩ : (T.name.toList == []) = false ∧ (T.name.toList != []) = true := ke dn
      rw [kJ] at *
      clear hS hE hN aD bg bS aZ aV fs dI eM fN kJ hl cg jl ay hb ho dh bZ hd qV dn
      cases hM : aE (bP K.F (T.kids 0)) 3 (ae s) with
      |error p =>
       exact bQ8
      |ok s1 =>
       have iJ := aa hM
       clear hM
       rw [CR.bind_ok]
       obtain ⟨ti, we, jF, qM, Ge⟩ := yC.out s1 (J4.out _ iJ.out).1 (by rw [(J4.out _ iJ.out).2, aP])
       have vT : Hid ((([(T.name, 1)] : List (ByteArray × Int)) :: s1.1, s1.2).2.length + (T.kids 1).size ≤ K.N) := ti
       have k_Q67_0 := kk
       exact VG
    |clear k_Q54_1
     rw [hk] at Gm cP bF eB iI ⊢
     clear hS hE hN aD bg bS aZ aV fs dI eM fN aS hk hl aM ay bZ hd dh j5
     cases hM : CR.bind (aE (bP K.F (T.kids 0)) 3 (ae s)) (aE (bP K.F (T.kids 1)) 1) with
     |error p =>
      have k_Q61_0 := kk
      exact VL
     |ok s1 =>
      have k_Q61_1 := kk
      exact VL
  |clear k_Q62_1
   obtain ⟨rh, re, oN, oM⟩ := nI.out w (Below.refl _ _)
   have iB : 0 < T.len := by omega
   have rS : (1 : Int) < (T.len : Int) := by omega
   have nY : 1 < T.len := by omega
   have SU : (2 : Int) < (T.len : Int) := by omega
   have Nf : 2 < T.len := by omega
   first
   |clear k_Q52_0
    have Bx : (T.len : Int) - 1 = 2 := by omega
    have bH := jK
    first
    |clear k_Q38_0
     have k_Q88_1 := kk
     exact OA
    |clear k_Q38_1
     obtain ⟨nf1, nf2⟩ : (T.name.toList == []) = false ∧ (T.name.toList != []) = true := ke dn
     rw [kJ] at *
     clear hS hE hN aD bg bS aZ aV fs dI eM fN iG jk kJ hl cg jl ay hb ho dh j5 bZ hd qV dn
     cases hM : CR.bind (aE (bP K.F (T.kids 0)) 3 (ae s)) (aE (bP K.F (T.kids 1)) 1) with
     |error p =>
      exact bQ1
     |ok s1 =>
      have iJ := aa hM
      clear hM
      rw [CR.bind_ok]
      obtain ⟨ti, we, jF, qM, Ge⟩ := yC.out s1 (J4.out _ iJ.out).1 (J4.out _ iJ.out).2
      have vT : Hid ((([(T.name, 1)] : List (ByteArray × Int)) :: s1.1, s1.2).2.length + (T.kids 2).size ≤ K.N) := ti
      have k_Q67_1 := kk
      exact VG
   |clear k_Q52_1
    have hl3 : ((T.len : Int) == 3) = true := beq_iff_eq.2 (by omega)
    clear hS hE hN aD bg bS aZ aV fs dI eM fN iG jk aS hk hl cg jl ay hb1 Bi dh h2 ho2
    cases hM : aE (bP K.F (T.kids 0)) 2 (ae s) with
    |error p =>
     exact bQ9
    |ok s1 =>
     have iJ := aa hM
     clear hM
     rw [CR.bind_ok]
     obtain ⟨dH, ft, mJ, oD⟩ := mz.out _ iJ.out
     have HX := aa dH
     have HD := aa ft
     have HZ := aa oD
     have nH := aa mJ
     clear dH ft mJ oD
     cases hM : within [] ((b7 K.F (T.kids 1)).sts cx) s1 with
     |error p =>
      have HM := aa hM
      clear hM
      rw [CR.bind_error]
      go_enter Tryz.func122, Tryz.ntmps122
      go_wp2_with (first
       |(go_at_call 117; refine (cw (jn.out _ _ _ _ _ 2 bh.out iP.out) iJ.out).mono ?_; rintro e w2 ⟨rfl, aC⟩; obtain ⟨b0, b1, b2, b3⟩ := al (cP.out _ _ _ _ _ aC); obtain ⟨eA, ez, ey, ew⟩ := dP.out _ (bF.out _ _ _ _ _ aC); obtain ⟨gS, gN, gR, gM⟩ := fT.out _ (bF.out _ _ _ _ _ aC); obtain ⟨rh, re, oN, oM⟩ := nI.out _ (bF.out _ _ _ _ _ aC); have bR := aa aC; clear aC)
       |(go_at_call 115; refine (dr (oq.out _ _ bR.out HX.out HD.out) HM.out).mono ?_; rintro e w3 ⟨rfl, cZ⟩; skip))
      exact JK
     |ok s2 =>
      have qQ := aa hM
      clear hM
      rw [CR.bind_ok]
      have Yl : Hid (s2.2.length + (T.kids 2).size ≤ K.N) := by have := (lF.out s1 s2 nH.out qQ.out).2; have := HZ.out; unfold Hid; omega
      have HN2 : Hid (s2.1 ≠ []) := by have := (lF.out s1 s2 nH.out qQ.out).1; unfold Hid; rw [this]; exact nH.out
      have jM : Hid (s2.1.length + 1 ≤ s2.2.length) := by have := lF.out s1 s2 nH.out qQ.out; have := HD.out; unfold Hid; rw [(lF.out s1 s2 nH.out qQ.out).1]; omega
      cases hM : (b7 K.F (T.kids 2)).st cx s2 with
      |error p =>
       have HM := aa hM
       clear hM
       go_enter Tryz.func122, Tryz.ntmps122
       go_wp2_with (first
        |(go_at_call 117; refine (cw (jn.out _ _ _ _ _ 2 bh.out iP.out) iJ.out).mono ?_; rintro e w2 ⟨rfl, aC⟩; obtain ⟨b0, b1, b2, b3⟩ := al (cP.out _ _ _ _ _ aC); obtain ⟨eA, ez, ey, ew⟩ := dP.out _ (bF.out _ _ _ _ _ aC); obtain ⟨gS, gN, gR, gM⟩ := fT.out _ (bF.out _ _ _ _ _ aC); obtain ⟨rh, re, oN, oM⟩ := nI.out _ (bF.out _ _ _ _ _ aC); have bR := aa aC; clear aC)
        |(go_at_call 115; refine (cw (oq.out _ _ bR.out HX.out HD.out) qQ.out).mono ?_; rintro e w3 ⟨rfl, bY⟩; obtain ⟨b0, b1, b2, b3⟩ := al (cP.out _ _ _ _ _ bY); obtain ⟨eA, ez, ey, ew⟩ := dP.out _ (bF.out _ _ _ _ _ bY); obtain ⟨gS, gN, gR, gM⟩ := fT.out _ (bF.out _ _ _ _ _ bY); obtain ⟨rh, re, oN, oM⟩ := nI.out _ (bF.out _ _ _ _ _ bY); have e7 := aa bY; clear bY)
        |(go_at_call 104; refine (dr (J3.out _ _ e7.out Yl.out HN2.out jM.out) HM.out).mono ?_; rintro e w4 ⟨rfl, kL⟩; skip))
       exact ⟨rfl, rfl, (bF.out _ _ _ _ _ e7.out).trans kL⟩
      |ok s3 =>
       have HM := aa hM
       clear hM
       go_enter Tryz.func122, Tryz.ntmps122
       go_wp2_with (first
        |(go_at_call 117; refine (cw (jn.out _ _ _ _ _ 2 bh.out iP.out) iJ.out).mono ?_; rintro e w2 ⟨rfl, aC⟩; obtain ⟨b0, b1, b2, b3⟩ := al (cP.out _ _ _ _ _ aC); obtain ⟨eA, ez, ey, ew⟩ := dP.out _ (bF.out _ _ _ _ _ aC); obtain ⟨gS, gN, gR, gM⟩ := fT.out _ (bF.out _ _ _ _ _ aC); obtain ⟨rh, re, oN, oM⟩ := nI.out _ (bF.out _ _ _ _ _ aC); have bR := aa aC; clear aC)
        |(go_at_call 115; refine (cw (oq.out _ _ bR.out HX.out HD.out) qQ.out).mono ?_; rintro e w3 ⟨rfl, bY⟩; obtain ⟨b0, b1, b2, b3⟩ := al (cP.out _ _ _ _ _ bY); obtain ⟨eA, ez, ey, ew⟩ := dP.out _ (bF.out _ _ _ _ _ bY); obtain ⟨gS, gN, gR, gM⟩ := fT.out _ (bF.out _ _ _ _ _ bY); obtain ⟨rh, re, oN, oM⟩ := nI.out _ (bF.out _ _ _ _ _ bY); have e7 := aa bY; clear bY)
        |(go_at_call 104; refine (cw (J3.out _ _ e7.out Yl.out HN2.out jM.out) HM.out).mono ?_; rintro e w4 ⟨rfl, gh⟩; have mb := aa gh; clear gh))
       go_end0
       exact ⟨rfl, eB.out _ _ _ _ _ mb.out⟩
 |clear k_Q73_1
  have iB : 0 < T.len := by omega
  first
  |clear k_Q64_0
   rw [hk] at HV Cv cP bF eB iI ⊢
   clear hS hE hN aD bg bS aZ aV fs dI aS hk hl aM ay bZ hd dh
   cases hM : cN (bP K.F (T.kids 0)) (ae s) with
   |error p =>
    have HM := aa hM
    clear hM
    rw [CR.bind_error]
    have k_Q32_0 := kk
    exact Wb
   |ok r =>
    obtain ⟨dH, ft, mJ⟩ := HX.out _ hM
    obtain ⟨ty, s1⟩ := r
    have HM := aa hM
    have mz := aa dH
    have lF := aa ft
    have wi := aa mJ
    clear hM dH ft mJ
    rw [CR.bind_ok]
    dsimp only at *
    cases Bw : ir s1 T.name ty s.2.length with
    |error p =>
     have k_Q30_0 := kk
     exact Wd
    |ok s2 =>
     have k_Q30_1 := kk
     exact Wd
  |clear k_Q64_1
   rw [hk] at HW HV cP bF eB iI ⊢
   clear hS hE hN aD bg bS aZ aV fs dI aS hk hl aM ay bZ hd dh
   generalize look s.1 T.name = ty at *
   by_cases h0 : ty = 0
   ·rw [if_pos h0]
    simp only [if_pos h0] at HV
    clear h0
    have k_Q32_1 := kk
    exact Wb
   ·rw [if_neg h0]
    simp only [if_neg h0] at HV
    clear h0
    cases Bw : aE (bP K.F (T.kids 0)) ty (ae s) with
    |error p =>
     have k_Q31_0 := kk
     exact Wc
    |ok s2 =>
     have k_Q31_1 := kk
     exact Wc
  |clear k_Q64_2
   have Bx : (T.len : Int) - 1 = 0 := by omega
   first
   |clear k_Q49_0
    have k_Q78_1 := kk
    exact Vu
   |clear k_Q49_1
    have bH := jK
    first
    |clear k_Q42_0
     have k_Q88_2 := kk
     exact OA
    |clear k_Q42_1
     obtain ⟨nf1, nf2⟩ : (T.name.toList == []) = false ∧ (T.name.toList != []) = true := ke dn
     have k_Q83_1 := kk
     exact Vp
  |clear k_Q64_3
   rw [hk] at HC cP bF eB iI ⊢
   clear hS hE hN aD bg bS aZ aV fs dI aS hk hl aM ay bZ hd dh
   first
   |clear k_Q55_0
    cases hM : aE (bP K.F (T.kids 0)) 3 (ae s) with
    |error p =>
     exact bQ3
    |ok s1 =>
     exact bQ2
   |clear k_Q55_1
    cases hM : aE (bP K.F (T.kids 0)) 1 (ae s) with
    |error p =>
     exact bQ3
    |ok s1 =>
     exact bQ2
   |clear k_Q55_2
    cases hM : CR.bind (cN (bP K.F (T.kids 0)) (ae s)) fun r => if r.1 = 3 then .error (7, (ae s).2.length) else .ok r.2 with
    |error p =>
     have HM := aa hM
     clear hM
     go_enter Tryz.func104, Tryz.ntmps104
     go_wp2_with (first
      |(go_at_call 69; refine iI.out.mono ?_; rintro e w1 ⟨rfl, aD⟩; obtain ⟨b0, b1, b2, b3⟩ := al (cP.out _ _ _ _ _ aD); obtain ⟨eA, ez, ey, ew⟩ := dP.out _ (bF.out _ _ _ _ _ aD); have bh := aa aD; clear aD)
      |(go_at_call 127; refine (dr (HC.out _ bh.out) HM.out).mono ?_; rintro e w2 ⟨rfl, ba⟩; skip))
     exact vE
    |ok s1 =>
     have HM := aa hM
     clear hM
     go_enter Tryz.func104, Tryz.ntmps104
     go_wp2_with (first
      |(go_at_call 69; refine iI.out.mono ?_; rintro e w1 ⟨rfl, aD⟩; obtain ⟨b0, b1, b2, b3⟩ := al (cP.out _ _ _ _ _ aD); obtain ⟨eA, ez, ey, ew⟩ := dP.out _ (bF.out _ _ _ _ _ aD); have bh := aa aD; clear aD)
      |(go_at_call 127; refine (cw (HC.out _ bh.out) HM.out).mono ?_; rintro e w2 ⟨rfl, aC⟩; have bR := aa aC; clear aC))
     go_end0
     exact ⟨rfl, eB.out _ _ _ _ _ bR.out⟩
   |clear k_Q55_3
    cases hM : bP K.F (T.kids 0) (ae s) with
    |error p =>
     have HM := aa hM
     clear hM
     rw [CR.bind_error]
     go_enter Tryz.func104, Tryz.ntmps104
     go_wp2_with (first
      |(go_at_call 69; refine iI.out.mono ?_; rintro e w1 ⟨rfl, aD⟩; obtain ⟨b0, b1, b2, b3⟩ := al (cP.out _ _ _ _ _ aD); obtain ⟨eA, ez, ey, ew⟩ := dP.out _ (bF.out _ _ _ _ _ aD); have bh := aa aD; clear aD)
      |(go_at_call 121; refine (dr (HC.out _ bh.out) HM.out).mono ?_; rintro e w2 ⟨rfl, ba⟩; skip))
     exact yo
    |ok s1 =>
     have HM := aa hM
     clear hM
     rw [CR.bind_ok]
     go_enter Tryz.func104, Tryz.ntmps104
     go_wp2_with (first
      |(go_at_call 69; refine iI.out.mono ?_; rintro e w1 ⟨rfl, aD⟩; obtain ⟨b0, b1, b2, b3⟩ := al (cP.out _ _ _ _ _ aD); obtain ⟨eA, ez, ey, ew⟩ := dP.out _ (bF.out _ _ _ _ _ aD); have bh := aa aD; clear aD)
      |(go_at_call 121; refine (cw (HC.out _ bh.out) HM.out).mono ?_; rintro e w2 ⟨rfl, aC⟩; have bR := aa aC; clear aC))
     go_end0
     exact ⟨rfl, eB.out _ _ _ _ _ bR.out⟩) : G := h
theorem Vy (h : G := by
 have k_Q79_0 := kk
 exact Vt) : G := h
theorem Vx (h : G := by
 have k_Q86_1 := kk
 exact Vn) : G := h
theorem Vw (h : G := by
 have k_Q79_1 := kk
 exact Vt) : G := h
theorem Vv (h : G := by
 obtain ⟨g, off, cap, hv, iM, cr, aV⟩ := dq hN.row (by omega)
 subst hv
 obtain ⟨u0, fs, dI⟩ := aV 0 (by omega)
 simp only [Nat.zero_mul, Nat.add_zero] at fs
 obtain ⟨a0, q0, P4, hcp0, Na⟩ := aH.1 dI
 clear Na
 subst P4
 have dP := aa fs
 first
 |clear k_Q77_0
  obtain ⟨u1, eM, fN⟩ := aV 1 (by omega)
  simp only [Nat.one_mul] at eM
  obtain ⟨a1, q1, Sn, hcp1, M9⟩ := aH.1 fN
  clear M9
  subst Sn
  have fT := aa eM
  first
  |clear k_Q59_0
   obtain ⟨u2, iG, jk⟩ := aV 2 (by omega)
   simp only [Nat.reduceMul] at iG
   obtain ⟨a2, q2, Iq, hcp2, hqq2⟩ := aH.1 jk
   clear hqq2
   subst Iq
   have nI := aa iG
   have k_Q66_1 := kk
   exact VH
  |clear k_Q59_1
   have k_Q81_2 := kk
   exact JG
 |clear k_Q77_1
  have k_Q81_3 := kk
  exact JG) : G := h
theorem Vu (h : G := by
 have hlb : cx.loops ≤ 1099511627776 := by omega
 have hcbn : ¬ K.cb = w.heap.size := by have := hS.lt; omega
 have hcbm : ¬ w.heap.size = K.cb := by have := hS.lt; omega
 have hgcb : ¬ g = K.cb := by have := hS.ok.cl; omega
 have hcbg : ¬ K.cb = g := by have := hS.ok.cl; omega
 first
 |clear k_Q78_0
  clear hS hE hN aD bg bS aZ aV fs dI eM fN aS hk hl cg jl ay hb1 Bi dh
  cases hM : aE (bP K.F (T.kids 0)) 2 (ae s) with
  |error p =>
   have HM := aa hM
   clear hM
   rw [CR.bind_error]
   go_enter Tryz.func123, Tryz.ntmps123
   go_wp2_with (first
    |(go_at_call 117; refine (dr (jn.out _ _ _ _ _ 2 bh.out iP.out) HM.out).mono ?_; rintro e w2 ⟨rfl, ba⟩; skip))
   exact vE
  |ok s1 =>
   have iJ := aa hM
   clear hM
   rw [CR.bind_ok]
   obtain ⟨dH, ft⟩ := mz.out _ iJ.out
   have HX := aa dH
   have HD := aa ft
   clear dH ft
   cases hM : within [] ((b7 K.F (T.kids 1)).sts ⟨cx.ret, cx.loops + 1, cx.outs + 1⟩) s1 with
   |error p =>
    have HM := aa hM
    clear hM
    go_enter Tryz.func123, Tryz.ntmps123
    go_wp2_with (first
     |(go_at_call 117; refine (cw (jn.out _ _ _ _ _ 2 bh.out iP.out) iJ.out).mono ?_; rintro e w2 ⟨rfl, aC⟩; obtain ⟨n4, n7, n8, NY, NV⟩ := aC.nums; have FS := aa (aC.setN ((cx.loops : Int) + 1)).1; obtain ⟨b0, b1, b2, b3⟩ := al (cP.out _ _ _ _ _ aC); obtain ⟨eA, ez, ey, ew⟩ := dP.out _ (bF.out _ _ _ _ _ aC); obtain ⟨gS, gN, gR, gM⟩ := fT.out _ (bF.out _ _ _ _ _ aC); have bR := aa aC; clear aC)
     |(go_at_call 115; refine (dr (oq.out _ _ FS.out HX.out HD.out) HM.out).mono ?_; rintro e w3 ⟨rfl, cZ⟩; skip))
    exact ⟨rfl, rfl, (bF.out _ _ _ _ _ FS.out).trans cZ⟩
   |ok s2 =>
    have HM := aa hM
    clear hM
    go_enter Tryz.func123, Tryz.ntmps123
    go_wp2_with (first
     |(go_at_call 117; refine (cw (jn.out _ _ _ _ _ 2 bh.out iP.out) iJ.out).mono ?_; rintro e w2 ⟨rfl, aC⟩; obtain ⟨n4, n7, n8, NY, NV⟩ := aC.nums; have FS := aa (aC.setN ((cx.loops : Int) + 1)).1; obtain ⟨b0, b1, b2, b3⟩ := al (cP.out _ _ _ _ _ aC); obtain ⟨eA, ez, ey, ew⟩ := dP.out _ (bF.out _ _ _ _ _ aC); obtain ⟨gS, gN, gR, gM⟩ := fT.out _ (bF.out _ _ _ _ _ aC); have bR := aa aC; clear aC)
     |(go_at_call 115; refine (cw (oq.out _ _ FS.out HX.out HD.out) HM.out).mono ?_; rintro e w3 ⟨rfl, bY⟩; have gh := eB.out _ _ _ _ _ bY; obtain ⟨m4, m7, m8, gr7, gr8⟩ := gh.nums; have m7' : w3.cell? ⟨K.cb, 7, none⟩ = some (.int .i64 ((cx.loops : Int) + 1)) := m7; have mb := aa (gh.setN (cx.loops : Int)).1; clear bY gh m7))
    go_end0
    exact ⟨rfl, mb.out⟩
 |clear k_Q78_1
  clear hS hE hN aD bg bS aZ aV fs dI aS hk hl cg jl ay ja SX
  obtain ⟨n4, n7, n8, NY, NV⟩ := bh.out.nums
  have FS := aa (bh.out.setN ((cx.loops : Int) + 1)).1
  cases hM : within [] ((b7 K.F (T.kids 0)).sts ⟨cx.ret, cx.loops + 1, cx.outs + 1⟩) (ae s) with
  |error p =>
   have HM := aa hM
   clear hM
   go_enter Tryz.func123, Tryz.ntmps123
   go_wp2_with (first
    |(go_at_call 115; refine (dr (QB.out _ _ FS.out iP.out HD0.out) HM.out).mono ?_; rintro e w3 ⟨rfl, cZ⟩; skip))
   exact ⟨rfl, rfl, (bF.out _ _ _ _ _ FS.out).trans cZ⟩
  |ok s1 =>
   have HM := aa hM
   clear hM
   go_enter Tryz.func123, Tryz.ntmps123
   go_wp2_with (first
    |(go_at_call 115; refine (cw (QB.out _ _ FS.out iP.out HD0.out) HM.out).mono ?_; rintro e w3 ⟨rfl, bY⟩; have gh := eB.out _ _ _ _ _ bY; obtain ⟨m4, m7, m8, gr7, gr8⟩ := gh.nums; have m7' : w3.cell? ⟨K.cb, 7, none⟩ = some (.int .i64 ((cx.loops : Int) + 1)) := m7; have mb := aa (gh.setN (cx.loops : Int)).1; clear bY gh m7))
   go_end0
   exact ⟨rfl, mb.out⟩) : G := h
theorem Vt (h : G := by
 obtain ⟨a, cap, hv, cr, hq⟩ := aH.1 hN.row
 subst hv
 obtain ⟨O1, aD, bg, bS, aZ⟩ := hS.boxed (.cells #[.int .i64 T.kind, .int .i64 T.num, .string T.name, .slice a T.len cap] 25)
 have cP := aa bS
 have bF := aa aZ
 have eB := aa bg
 first
 |clear k_Q79_0
  have iI := aa (ic aD (by omega))
  first
  |clear k_Q74_0
   have kM := aa (fun (h0 : T.len ≠ 0) => dq hN.row h0)
   have LI : Hid (∀ j st, j ≤ T.len → forN (fun i => (b7 K.F (T.kids i)).st cx) j (ae s) = .ok st → st.2.length = aW T s.2.length j ∧ st.1 ≠ [] ∧ st.1.length + 1 ≤ st.2.length) := by
    intro j st hj h
    obtain ⟨r1, r2, r3, r4⟩ := (StL.forN (g := fun i => (T.kids i).size) (fun i hi => (iz K.F (T.kids i)).st (oR i hi) cx) hj) (ae s) st bZ h
    rw [aP] at r3
    refine ⟨by rw [r3]; unfold aW; omega, fun e => ?_, ?_⟩
    ·rw [e] at r2; exact bZ (List.length_eq_zero_iff.1 r2.symm)
    ·have : st.1.length = s.1.length := r2
     omega
   have J9 := aa (fun (j : Nat) (hj : j < T.len) (u : Value) (hr : Row 0 K.lo w (T.kids j) u) (W : World) (st : CS) (hW : IS K (w.alloc (.cells #[.int .i64 T.kind, .int .i64 T.num, .string T.name, .slice a T.len cap] 25)) O1 st cx.ret cx.loops ai W) (aM : forN (fun i => (b7 K.F (T.kids i)).st cx) j (ae s) = .ok st) => ih j hj K _ O1 st cx ai W u jl hW (hE.later (aZ _ _ _ _ _ hW)) ((hN.kid hj hr).later (aZ _ _ _ _ _ hW)) (by have := (LI.out j st (Nat.le_of_lt hj) aM).1; have := bV T s.2.length hj; omega) (oR j hj) (LI.out j st (Nat.le_of_lt hj) aM).2.1 (LI.out j st (Nat.le_of_lt hj) aM).2.2 (by have := aL T hj; omega) (by have := aL T hj; omega))
   unfold Nd.val at *
   clear hS hE hN aD bg bS aZ aS hq ih ay bZ hd oR h4
   generalize s.2.length = q at *
   go_enter Tryz.func92, Tryz.ntmps92
   go_wp2_with (first
    |(go_at_call 69; refine iI.out.mono ?_; rintro e w1 ⟨rfl, aD⟩; obtain ⟨b0, b1, b2, b3⟩ := al (cP.out _ _ _ _ _ aD); have bh := aa aD; clear aD))
   go_loopw [11] (fun i wr => ∃ j : Nat, j ≤ T.len ∧ i = .int .i64 j ∧ ∃ st, forN (fun i => (b7 K.F (T.kids i)).st cx) j (ae s) = .ok st ∧ IS K (w.alloc (.cells #[.int .i64 T.kind, .int .i64 T.num, .string T.name, .slice a T.len cap] 25)) O1 st cx.ret cx.loops ai wr) (fun i _ => T.len - (intOf i).toNat)
   case atStart => exact ⟨0, Nat.zero_le _, rfl, ae s, rfl, bh.out⟩
   case round =>
    obtain ⟨j, hj, rfl, st, aM, cy⟩ := hrel
    by_cases bN : j < T.len
    ·have k_Q68_0 := kk
     exact VF
    ·obtain rfl : j = T.len := by omega
     have iu := aa cy
     exact We
  |clear k_Q74_1
   have k_Q91_1 := kk
   exact JF
 |clear k_Q79_1
  first
  |clear k_Q76_0
   have HSS1 := aa (aD.setN ((ai : Int) + 1)).2
   obtain ⟨n4, n7, n8, NY, NV⟩ := aD.nums
   have dK := hS.ok.few
   have kM := aa (fun (h0 : T.len ≠ 0) => dq hN.row h0)
   have HCT : Hid (∀ j st, j ≤ T.len → q9 K.F T ⟨cx.ret, cx.loops, cx.outs + 1⟩ (ae s) j = .ok st → st.2.length = aW T s.2.length j ∧ st.1 ≠ [] ∧ st.1.length + 1 ≤ st.2.length) := by
    intro j st hj h
    obtain ⟨r1, r2⟩ := Fk (F := K.F) (cx := ⟨cx.ret, cx.loops, cx.outs + 1⟩) Le bZ hj st h
    obtain ⟨_, r3, _, _⟩ := (StL.forN (g := fun i => (T.kids i).size) (fun i hi => (iz K.F (T.kids i)).cs (Le i hi) _ _) hj) (ae s) st bZ h
    refine ⟨r1, r2, ?_⟩
    have e3 : st.1.length = s.1.length := r3
    have : aW T s.2.length j ≥ s.2.length + 1 := by unfold aW; omega
    omega
   have HIC := aa (fun (j : Nat) (hj : j < T.len) (f : Bool) (Qa : ¬ ((T.kids j).num = 0 ∧ f = true)) (u : Value) (hr : Row 0 K.lo w (T.kids j) u) (w9 : World) (O9 : Nat → Prop) (W : World) (st : CS) (p : Nat) (hW : IS K w9 O9 (ae st) cx.ret cx.loops ((ai : Int) + 1) W) (hb : Below K.lo w W) (hfj : st.2.length + (T.kids j).size ≤ K.N) (dE : st.1 ≠ []) (Qe : st.1.length + 1 ≤ st.2.length) (hvv : aN st.1 ≤ st.2.length) => MN bL (Le j hj) f Qa (fun U hU => cg U (by have := aL T hj; omega)) K w9 O9 st ⟨cx.ret, cx.loops, cx.outs + 1⟩ (ai + 1) W u p (show cx.outs + 1 = cx.loops + (ai + 1) by omega) hW (hE.later hb) ((hN.kid hj hr).later hb) hfj dE Qe hvv (by have := aL T hj; show cx.loops + _ ≤ _; omega) (by have := aL T hj; omega))
   have LH := aa (fun i (h : i < T.len) => bV T s.2.length h)
   have P7 : ai ≤ 1099511627776 := by omega
   have hcbn : ¬ K.cb = w.heap.size := by have := hS.lt; omega
   have hcbm : ¬ w.heap.size = K.cb := by have := hS.lt; omega
   unfold Nd.val at *
   have HCO := aa Le
   clear hS hE hN aD bg bS aZ aS hk hq cg bZ hd Le jl
   generalize s.2.length = q at *
   go_enter Tryz.func125, Tryz.ntmps125
   go_wp2
   go_loopw [4, 19] (fun hd i wr => ∃ j : Nat, j ≤ T.len ∧ i = .int .i64 j ∧ hd = .bool (km T j) ∧ ∃ st, q9 K.F T ⟨cx.ret, cx.loops, cx.outs + 1⟩ (ae s) j = .ok st ∧ IS K (w.alloc (.cells #[.int .i64 T.kind, .int .i64 T.num, .string T.name, .slice a T.len cap] 25)) O1 st cx.ret cx.loops ((ai : Int) + 1) wr) (fun _ i _ => T.len - (intOf i).toNat)
   case atStart => exact ⟨0, Nat.zero_le _, rfl, rfl, ae s, rfl, HSS1.out⟩
   case round =>
    obtain ⟨j, hj, rfl, rfl, st, aM, cy⟩ := hrel
    by_cases bN : j < T.len
    ·have k_Q68_1 := kk
     exact VF
    ·obtain rfl : j = T.len := by omega
     obtain ⟨m4, m7, m8, gr7, gr8⟩ := cy.nums
     have iu := aa (cy.setN (ai : Int)).2
     exact We
  |clear k_Q76_1
   have k_Q89_0 := kk
   exact Fz) : G := h
theorem Vs (h : G := by
 go_enter Tryz.func127, Tryz.ntmps127
 go_wp2_with (first
  |(go_at_call 131; refine (kG.out _).mono ?_; rintro e w1 ⟨rfl, rfl⟩)
  |(go_at_call 116; refine (HC.out _).mono ?_; rintro e w2 ⟨rfl, aC⟩; have bR := aa aC; clear aC))
 first
 |clear k_Q80_0
  go_end0
  exact ⟨rfl, gK.out _ _ _ _ _ bR.out⟩
 |clear k_Q80_1
  exact ⟨rfl, rfl, yx.out _ _ _ _ _ bR.out⟩) : G := h
theorem JG (h : G := by
 obtain ⟨O1, aD, bg, bS, aZ⟩ := hS.boxed (.cells #[.int .i64 T.kind, .int .i64 T.num, .string T.name, .slice (some ⟨g, off, none⟩) T.len cap] 25)
 have cP := aa bS
 have bF := aa aZ
 have eB := aa bg
 first
 |clear k_Q81_0
  first
  |clear k_Q60_0
   have iI := aa (ic aD (by omega))
   have k_Q91_0 := kk
   exact JF
  |clear k_Q60_1
   have k_Q89_1 := kk
   exact Fz
 |clear k_Q81_1
  have k_Q89_2 := kk
  exact Fz
 |clear k_Q81_2
  first
  |clear k_Q44_0
   have k_Q87_1 := kk
   exact Vm
  |clear k_Q44_1
   have k_Q89_3 := kk
   exact Fz
 |clear k_Q81_3
  first
  |clear k_Q48_0
   have k_Q87_0 := kk
   exact Vm
  |clear k_Q48_1
   have k_Q89_4 := kk
   exact Fz) : G := h
theorem Vq (h : G := by
 refine hK.out _ _ ⟨b2, b3, eA, ez, ey, ew⟩ (fun tw => ?_)
 refine wpAnyH_ready (rs := [10]) (by kernel_rfl) (by simp) ?_
 refine AllReadyH.cons rfl (fun K' hK => ?_) AllReadyH.nil
 rw [if_pos (by rfl)]
 first
 |clear k_Q82_0
  first
  |clear k_Q30_0
   go_wp2_with (go_at_call 91; refine (dr (Cv.out _ _ _ bR.out mz.out lF.out wi.out) qQ.out).mono ?_; rintro e w3 ⟨rfl, cZ⟩; skip)
   exact JK
  |clear k_Q30_1
   go_wp2_with (go_at_call 91; refine (cw (Cv.out _ _ _ bR.out mz.out lF.out wi.out) qQ.out).mono ?_; rintro e w3 ⟨rfl, bY⟩; obtain ⟨b0, b1, b2, b3⟩ := al (cP.out _ _ _ _ _ bY); obtain ⟨eA, ez, ey, ew⟩ := dP.out _ (bF.out _ _ _ _ _ bY); have e7 := aa bY; clear bY)
   exact Wj
 |clear k_Q82_1
  first
  |clear k_Q31_0
   go_wp2_with (go_at_call 117; refine (dr (HW.out _ _ bR.out) qQ.out).mono ?_; rintro e w3 ⟨rfl, cZ⟩; skip)
   exact JK
  |clear k_Q31_1
   go_wp2_with (go_at_call 117; refine (cw (HW.out _ _ bR.out) qQ.out).mono ?_; rintro e w3 ⟨rfl, bY⟩; obtain ⟨b0, b1, b2, b3⟩ := al (cP.out _ _ _ _ _ bY); obtain ⟨eA, ez, ey, ew⟩ := dP.out _ (bF.out _ _ _ _ _ bY); have e7 := aa bY; clear bY)
   exact Wj) : G := h
theorem Vp (h : G := by
 rw [kJ] at *
 clear hS hE hN aD bg bS aZ aV fs dI kJ hl cg jl ay hb ho bZ hd qV dn
 obtain ⟨ti, we, jF, qM, Ge⟩ := (⟨ti, we, jF, qM, Ge⟩ : _ ∧ _ ∧ _ ∧ _ ∧ _)
 first
 |clear k_Q83_0
  have vT : Hid ((([] : List (ByteArray × Int)) :: (ae s).1, (ae s).2).2.length + (T.kids 0).size ≤ K.N) := ti
  have yA := aa jF
  have Ka : Hid (aN ([] :: (ae s).1) + 1 ≤ (ae s).2.length) := by unfold Hid; rw [j6]; exact qM
  have yz : Hid ((([] : List (ByteArray × Int)) :: (ae s).1, (ae s).2).1.length ≤ (([] : List (ByteArray × Int)) :: (ae s).1, (ae s).2).2.length) := by unfold Hid; simp; omega
  clear ti we jF qM Ge
  unfold within
  cases hM : (b7 K.F (T.kids 0)).sts cx ([] :: (ae s).1, (ae s).2) with
  |error pe =>
   have HM := aa hM
   clear hM
   rw [CR.bind_error]
   go_enter Tryz.func134, Tryz.ntmps134
   go_wp2_with (first
    |(go_at_call 90; refine (dx bh.out yA.out).mono ?_; rintro e x1 ⟨rfl, dH⟩; obtain ⟨b0, b1, b2, b3⟩ := al (cP.out _ _ _ _ _ dH); obtain ⟨eA, ez, ey, ew⟩ := dP.out _ (bF.out _ _ _ _ _ dH); have mz := aa dH; clear dH)
    |(go_at_call 92; refine (dr (kz.out _ _ mz.out vT.out (by simp) yz.out) HM.out).mono ?_; rintro e x3 ⟨rfl, cZ⟩; skip))
   exact OD
  |ok s9 =>
   have HM := aa hM
   clear hM
   rw [CR.bind_ok]
   go_enter Tryz.func134, Tryz.ntmps134
   go_wp2_with (first
    |(go_at_call 90; refine (dx bh.out yA.out).mono ?_; rintro e x1 ⟨rfl, dH⟩; obtain ⟨b0, b1, b2, b3⟩ := al (cP.out _ _ _ _ _ dH); obtain ⟨eA, ez, ey, ew⟩ := dP.out _ (bF.out _ _ _ _ _ dH); have mz := aa dH; clear dH)
    |(go_at_call 92; refine (cw (kz.out _ _ mz.out vT.out (by simp) yz.out) HM.out).mono ?_; rintro e x3 ⟨rfl, mJ⟩; have wi := aa mJ; clear mJ)
    |(go_at_call 93; refine (fx wi.out (nH.out _ _ _ HM.out)).mono ?_; rintro e x4 ⟨rfl, oD⟩; have FN := aa oD; clear oD))
   go_end0
   exact ⟨rfl, eB.out _ _ _ _ _ FN.out⟩
 |clear k_Q83_1
  have vT : Hid ((([(T.name, 1)] : List (ByteArray × Int)) :: (ae s).1, (ae s).2).2.length + (T.kids 0).size ≤ K.N) := ti
  have yA := aa jF
  have Ka : Hid (aN ([] :: (ae s).1) + 1 ≤ (ae s).2.length) := by unfold Hid; rw [j6]; exact qM
  have yz : Hid ((([(T.name, 1)] : List (ByteArray × Int)) :: (ae s).1, (ae s).2).1.length ≤ (([(T.name, 1)] : List (ByteArray × Int)) :: (ae s).1, (ae s).2).2.length) := by unfold Hid; simp; omega
  clear ti we jF qM Ge
  unfold within
  cases hM : (b7 K.F (T.kids 0)).sts cx ([(T.name, 1)] :: (ae s).1, (ae s).2) with
  |error pe =>
   have HM := aa hM
   clear hM
   rw [CR.bind_error]
   go_enter Tryz.func134, Tryz.ntmps134
   go_wp2_with (first
    |(go_at_call 90; refine (dx bh.out yA.out).mono ?_; rintro e x1 ⟨rfl, dH⟩; obtain ⟨b0, b1, b2, b3⟩ := al (cP.out _ _ _ _ _ dH); obtain ⟨eA, ez, ey, ew⟩ := dP.out _ (bF.out _ _ _ _ _ dH); have mz := aa dH; clear dH)
    |(go_at_call 91; refine (cw (fB mz.out T.name 1 p (by simp) (by decide) qE.out Ka.out) rfl).mono ?_; rintro e x2 ⟨rfl, ll⟩; have ft : IS K _ O1 ([(T.name, 1)] :: (ae s).1, (ae s).2) cx.ret cx.loops ai x2 := ll; clear ll; obtain ⟨b0, b1, b2, b3⟩ := al (cP.out _ _ _ _ _ ft); obtain ⟨eA, ez, ey, ew⟩ := dP.out _ (bF.out _ _ _ _ _ ft); have lF := aa ft; clear ft)
    |(go_at_call 92; refine (dr (kz.out _ _ lF.out vT.out (by simp) yz.out) HM.out).mono ?_; rintro e x3 ⟨rfl, cZ⟩; skip))
   exact OC
  |ok s9 =>
   have HM := aa hM
   clear hM
   rw [CR.bind_ok]
   go_enter Tryz.func134, Tryz.ntmps134
   go_wp2_with (first
    |(go_at_call 90; refine (dx bh.out yA.out).mono ?_; rintro e x1 ⟨rfl, dH⟩; obtain ⟨b0, b1, b2, b3⟩ := al (cP.out _ _ _ _ _ dH); obtain ⟨eA, ez, ey, ew⟩ := dP.out _ (bF.out _ _ _ _ _ dH); have mz := aa dH; clear dH)
    |(go_at_call 91; refine (cw (fB mz.out T.name 1 p (by simp) (by decide) qE.out Ka.out) rfl).mono ?_; rintro e x2 ⟨rfl, ll⟩; have ft : IS K _ O1 ([(T.name, 1)] :: (ae s).1, (ae s).2) cx.ret cx.loops ai x2 := ll; clear ll; obtain ⟨b0, b1, b2, b3⟩ := al (cP.out _ _ _ _ _ ft); obtain ⟨eA, ez, ey, ew⟩ := dP.out _ (bF.out _ _ _ _ _ ft); have lF := aa ft; clear ft)
    |(go_at_call 92; refine (cw (kz.out _ _ lF.out vT.out (by simp) yz.out) HM.out).mono ?_; rintro e x3 ⟨rfl, mJ⟩; have wi := aa mJ; clear mJ)
    |(go_at_call 93; refine (fx wi.out (nH.out _ _ _ HM.out)).mono ?_; rintro e x4 ⟨rfl, oD⟩; have FN := aa oD; clear oD))
   go_end0
   exact ⟨rfl, eB.out _ _ _ _ _ FN.out⟩) : G := h
theorem Vo (h : G := by
 clear h0 h1
 go_enter Tryz.func119, Tryz.ntmps119
 go_wp2_with (first
  |(go_at_call 118; refine (cw (HV.out _) rfl).mono ?_; rintro e w2 ⟨rfl, aC⟩; have bR := aa aC; clear aC))
 first
 |clear k_Q84_0
  go_end0
  exact ⟨rfl, gK.out _ _ _ _ _ bR.out⟩
 |clear k_Q84_1
  exact ⟨rfl, rfl, yx.out _ _ _ _ _ bR.out⟩) : G := h
theorem BP (h : G := by
 have k_Q90_11 := kk
 exact oW) : G := h
theorem Vn (h : G := by
 obtain ⟨g, off, cap, hv, iM, cr, aV⟩ := dq hN.row (by omega)
 subst hv
 obtain ⟨u0, fs, dI⟩ := aV 0 (by omega)
 simp only [Nat.zero_mul, Nat.add_zero] at fs
 have dP := aa fs
 first
 |clear k_Q86_0
  have k_Q81_0 := kk
  exact JG
 |clear k_Q86_1
  obtain ⟨u1, eM, fN⟩ := aV 1 (by omega)
  simp only [Nat.one_mul] at eM
  have fT := aa eM
  first
  |clear k_Q75_0
   have k_Q43_0 := kk
   exact V0
  |clear k_Q75_1
   first
   |clear k_Q72_0
    have k_Q37_0 := kk
    exact V6
   |clear k_Q72_1
    obtain ⟨u2, iG, jk⟩ := aV 2 (by omega)
    simp only [Nat.reduceMul] at iG
    have nI := aa iG
    have k_Q37_1 := kk
    exact V6) : G := h
theorem Vm (h : G := by
 have iI := aa (ic aD (by omega))
 have k_Q91_2 := kk
 exact JF) : G := h
theorem OA (h : G := by
 obtain ⟨nf1, nf2⟩ : (T.name.toList == []) = true ∧ (T.name.toList != []) = false := by rw [vy dn, ByteArray.toList_eq]; exact ⟨rfl, rfl⟩
 first
 |clear k_Q88_0
  rw [kJ] at *
  clear hS hE hN aD bg bS aZ aV fs dI eM fN kJ hl cg jl ay hb ho dh bZ hd qV dn
  cases hM : aE (bP K.F (T.kids 0)) 3 (ae s) with
  |error p =>
   exact bQ8
  |ok s1 =>
   have iJ := aa hM
   clear hM
   rw [CR.bind_ok]
   obtain ⟨ti, we, jF, qM, Ge⟩ := yC.out s1 (J4.out _ iJ.out).1 (by rw [(J4.out _ iJ.out).2, aP])
   have vT : Hid ((([] : List (ByteArray × Int)) :: s1.1, s1.2).2.length + (T.kids 1).size ≤ K.N) := ti
   have k_Q71_0 := kk
   exact VB
 |clear k_Q88_1
  rw [kJ] at *
  clear hS hE hN aD bg bS aZ aV fs dI eM fN iG jk kJ hl cg jl ay hb ho dh j5 bZ hd qV dn
  cases hM : CR.bind (aE (bP K.F (T.kids 0)) 3 (ae s)) (aE (bP K.F (T.kids 1)) 1) with
  |error p =>
   exact bQ1
  |ok s1 =>
   have iJ := aa hM
   clear hM
   rw [CR.bind_ok]
   obtain ⟨ti, we, jF, qM, Ge⟩ := yC.out s1 (J4.out _ iJ.out).1 (J4.out _ iJ.out).2
   have vT : Hid ((([] : List (ByteArray × Int)) :: s1.1, s1.2).2.length + (T.kids 2).size ≤ K.N) := ti
   have k_Q71_1 := kk
   exact VB
 |clear k_Q88_2
  have k_Q83_0 := kk
  exact Vp) : G := h
theorem Fz (h : G := by
 have bh := aa aD
 have k_Q91_3 := kk
 exact JF) : G := h
theorem oW (h : G := by
 intro K w0 O s cx ai w v jl hS hE hN ay aS bZ hd gn gD
 have b8 : 0 < T.size := by rw [T.size_eq]; omega
 first
 |clear k_Q90_0
  have aM : (b7 K.F T).st cx s = (if look s.1 T.name = 0 then .error (5, s.2.length) else if look s.1 T.name = 1 then .ok (ae s) else .error (7, s.2.length) : CR CS) := by
   rw [bT K.F (by omega)]
   unfold stM
   iterate 3 rw [if_neg (by omega)]
   rw [if_pos hk]
  have k_Q50_0 := kk
  exact tH
 |clear k_Q90_1
  have hb1 := (pD hk aS).2.2.1.1
  have aM : (b7 K.F T).st cx s = CR.bind (aE (bP K.F (T.kids 0)) 2 (ae s)) fun s1 => within [] ((b7 K.F (T.kids 1)).sts cx) s1 := by
   rw [bT K.F (by omega)]
   unfold stM
   rw [if_neg (by omega), if_neg (by omega), if_neg (by omega), if_neg (by omega), if_neg (by omega), if_neg (by omega), if_pos hk]; rw [hl]; show CR.bind _ (fun s1 => (b7 K.F (T.kids 1)).st cx s1) = _; congr 1; funext s1; exact pA hb1
  have k_Q50_1 := kk
  exact tH
 |clear k_Q90_2
  have hb1 := (pD hk aS).2.2.1.1
  have aM : (b7 K.F T).st cx s = CR.bind (aE (bP K.F (T.kids 0)) 2 (ae s)) fun s1 => CR.bind (within [] ((b7 K.F (T.kids 1)).sts cx) s1) ((b7 K.F (T.kids 2)).st cx) := by
   rw [bT K.F (by omega)]
   unfold stM
   iterate 6 rw [if_neg (by omega)]
   rw [if_pos hk]; rw [hl]; show CR.bind _ (fun s1 => CR.bind ((b7 K.F (T.kids 1)).st cx s1) ((b7 K.F (T.kids 2)).st cx)) = _; congr 1; funext s1; rw [pA hb1]
  have k_Q50_2 := kk
  exact tH
 |clear k_Q90_3
  have aM : (b7 K.F T).st cx s = within [] ((b7 K.F (T.kids 0)).sts ⟨cx.ret, cx.loops + 1, cx.outs + 1⟩) (ae s) := by
   rw [bT K.F (by omega)]
   unfold stM
   rw [if_neg (by omega), if_neg (by omega), if_neg (by omega), if_neg (by omega), if_neg (by omega), if_neg (by omega), if_neg (by omega), if_pos hk]; rw [hl]; exact pA ja
  have k_Q50_3 := kk
  exact tH
 |clear k_Q90_4
  have aM : (b7 K.F T).st cx s = CR.bind (aE (bP K.F (T.kids 0)) 2 (ae s)) fun s1 => within [] ((b7 K.F (T.kids 1)).sts ⟨cx.ret, cx.loops + 1, cx.outs + 1⟩) s1 := by
   rw [bT K.F (by omega)]
   unfold stM
   rw [if_neg (by omega), if_neg (by omega), if_neg (by omega), if_neg (by omega), if_neg (by omega), if_neg (by omega), if_neg (by omega), if_pos hk]; rw [hl]; show CR.bind _ (fun s1 => (b7 K.F (T.kids 1)).st _ s1) = _; congr 1; funext s1; exact pA hb1
  have k_Q50_4 := kk
  exact tH
 |clear k_Q90_5
  have aM : (b7 K.F T).st cx s = q9 K.F T ⟨cx.ret, cx.loops, cx.outs + 1⟩ (ae s) T.len := by
   rw [bT K.F (by omega)]
   unfold stM
   rw [if_neg (by omega), if_neg (by omega), if_neg (by omega), if_neg (by omega), if_neg (by omega), if_neg (by omega), if_neg (by omega), if_neg (by omega), if_neg (by omega), if_pos hk]; rfl
  have k_Q50_5 := kk
  exact tH
 |clear k_Q90_6
  have aM : (b7 K.F T).st cx s = (if cx.loops = 0 then .error (10, s.2.length) else .ok (ae s) : CR CS) := by
   rw [bT K.F (by omega)]
   unfold stM
   iterate 11 rw [if_neg (by omega)]
   rw [if_pos hk]
  have k_Q50_6 := kk
  exact tH
 |clear k_Q90_7
  have aM : (b7 K.F T).st cx s = (if cx.outs = 0 then .error (10, s.2.length) else .ok (ae s) : CR CS) := by
   rw [bT K.F (by omega)]
   unfold stM
   iterate 10 rw [if_neg (by omega)]
   rw [if_pos hk]
  have k_Q50_7 := kk
  exact tH
 |clear k_Q90_8
  have SB := Dk hk aS
  have aM : (b7 K.F T).st cx s = (if decide (0 < T.len) = decide (cx.ret ≠ 0) then (if 0 < T.len then aE (bP K.F (T.kids 0)) cx.ret (ae s) else .ok (ae s)) else .error (9, s.2.length) : CR CS) := by
   rw [bT K.F (by omega)]
   unfold stM
   iterate 8 rw [if_neg (by omega)]
   rw [if_pos hk]
  have k_Q50_8 := kk
  exact tH
 |clear k_Q90_9
  rw [pA hk]
  have k_Q63_1 := kk
  exact VJ
 |clear k_Q90_10
  obtain ⟨hl, dh, j5⟩ := Ma hk aS
  have aM : (b7 K.F T).st cx s = CR.bind (aE (bP K.F (T.kids 0)) 3 (ae s)) (aE (bP K.F (T.kids 1)) 1) := by
   rw [bT K.F (by omega)]
   unfold stM
   iterate 4 rw [if_neg (by omega)]
   rw [if_pos hk]
  rw [aM]
  have k_Q44_0 := kk
  exact VZ
 |clear k_Q90_11
  obtain ⟨hl, dh⟩ := mF (by omega) aS
  first
  |clear k_Q85_0
   have aM : (b7 K.F T).st cx s = aE (bP K.F (T.kids 0)) 3 (ae s) := by
    rw [bT K.F (by omega)]
    unfold stM
    iterate 12 rw [if_neg (by omega)]
    rw [if_pos hk]
   have k_Q45_0 := kk
   exact JJ
  |clear k_Q85_1
   have aM : (b7 K.F T).st cx s = aE (bP K.F (T.kids 0)) 1 (ae s) := by
    rw [bT K.F (by omega)]
    unfold stM
    iterate 14 rw [if_neg (by omega)]
    rw [if_pos hk]
   have k_Q45_1 := kk
   exact JJ
  |clear k_Q85_2
   have aM : (b7 K.F T).st cx s = CR.bind (cN (bP K.F (T.kids 0)) (ae s)) fun r => if r.1 = 3 then .error (7, (ae s).2.length) else .ok r.2 := by
    rw [bT K.F (by omega)]
    unfold stM
    iterate 13 rw [if_neg (by omega)]
    rw [if_pos hk]; rw [aP]
   have k_Q45_2 := kk
   exact JJ
  |clear k_Q85_3
   have aM : (b7 K.F T).st cx s = CR.bind (cN (bP K.F (T.kids 0)) (ae s)) fun r => ir r.2 T.name r.1 s.2.length := by
    rw [bT K.F (by omega)]
    unfold stM
    rw [if_neg (by omega), if_pos hk]; rfl
   have k_Q41_0 := kk
   exact V2
  |clear k_Q85_4
   have aM : (b7 K.F T).st cx s = (if look s.1 T.name = 0 then .error (5, s.2.length) else aE (bP K.F (T.kids 0)) (look s.1 T.name) (ae s) : CR CS) := by
    rw [bT K.F (by omega)]
    unfold stM
    rw [if_neg (by omega), if_neg (by omega), if_pos hk]
   have k_Q41_1 := kk
   exact V2
  |clear k_Q85_5
   have aM : (b7 K.F T).st cx s = CR.bind (bP K.F (T.kids 0) (ae s)) fun r => .ok r.2 := by
    rw [bT K.F (by omega)]
    unfold stM
    iterate 5 rw [if_neg (by omega)]
    rw [if_pos (by omega)]
   have k_Q45_3 := kk
   exact JJ) : G := h
theorem JF (h : G := by
 have fy : K.lo ≤ w.heap.size := by have := hS.lt; have := hS.ok.cl; omega
 have dK := hS.ok.few
 first
 |clear k_Q91_0
  have iP := aa (gz ay (i := 0) (by omega))
  first
  |clear k_Q45_0
   have HC := aa (fun (W : World) (hW : IS K (w.alloc (.cells #[.int .i64 T.kind, .int .i64 T.num, .string T.name, .slice (some ⟨g, off, none⟩) T.len cap] 25)) O1 (ae s) cx.ret cx.loops ai W) => ec (eE bL (T.kids 0)) K _ O1 (ae s) cx.ret cx.loops ai W u0 3 hW (hE.later (aZ _ _ _ _ _ hW)) ((hN.kid (by omega) dI).later (aZ _ _ _ _ _ hW)) iP.out dh)
   have k_Q55_0 := kk
   exact JI
  |clear k_Q45_1
   have HC := aa (fun (W : World) (hW : IS K (w.alloc (.cells #[.int .i64 T.kind, .int .i64 T.num, .string T.name, .slice (some ⟨g, off, none⟩) T.len cap] 25)) O1 (ae s) cx.ret cx.loops ai W) => ec (eE bL (T.kids 0)) K _ O1 (ae s) cx.ret cx.loops ai W u0 1 hW (hE.later (aZ _ _ _ _ _ hW)) ((hN.kid (by omega) dI).later (aZ _ _ _ _ _ hW)) iP.out dh)
   have k_Q55_1 := kk
   exact JI
  |clear k_Q45_2
   have HC := aa (fun (W : World) (hW : IS K (w.alloc (.cells #[.int .i64 T.kind, .int .i64 T.num, .string T.name, .slice (some ⟨g, off, none⟩) T.len cap] 25)) O1 (ae s) cx.ret cx.loops ai W) => A7 bL K _ O1 (ae s) cx.ret cx.loops ai W u0 hW (hE.later (aZ _ _ _ _ _ hW)) ((hN.kid (by omega) dI).later (aZ _ _ _ _ _ hW)) iP.out dh)
   have k_Q55_2 := kk
   exact JI
  |clear k_Q45_3
   have HC := aa (fun (W : World) (hW : IS K (w.alloc (.cells #[.int .i64 T.kind, .int .i64 T.num, .string T.name, .slice (some ⟨g, off, none⟩) T.len cap] 25)) O1 (ae s) cx.ret cx.loops ai W) => eE bL (T.kids 0) K _ O1 (ae s) cx.ret cx.loops ai W u0 hW (hE.later (aZ _ _ _ _ _ hW)) ((hN.kid (by omega) dI).later (aZ _ _ _ _ _ hW)) iP.out dh)
   have k_Q55_3 := kk
   exact JI
 |clear k_Q91_1
  first
  |clear k_Q50_0
   have HC := aa (fun (W : World) (hW : IS K (w.alloc (.cells #[.int .i64 T.kind, .int .i64 T.num, .string T.name, .slice a T.len cap] 25)) O1 (ae s) cx.ret cx.loops ai W) => Eb bL K _ O1 (ae s) cx.ret cx.loops ai W _ s.2.length hW (hN.later (aZ _ _ _ _ _ hW)))
   unfold Nd.val at *
   rw [hk] at HC cP bF eB iI ⊢
   clear hS hE hN aD bg bS aZ aS hk hq aM ay bZ hd
   cases hM : (if look s.1 T.name = 0 then .error (5, s.2.length) else if look s.1 T.name = 1 then .ok (ae s) else .error (7, s.2.length) : CR CS) with
   |error p =>
    have HM := aa hM
    clear hM
    go_enter Tryz.func104, Tryz.ntmps104
    go_wp2_with (first
     |(go_at_call 69; refine iI.out.mono ?_; rintro e w1 ⟨rfl, aD⟩; obtain ⟨b0, b1, b2, b3⟩ := al (cP.out _ _ _ _ _ aD); have bh := aa aD; clear aD)
     |(go_at_call 119; refine (dr (HC.out _ bh.out) HM.out).mono ?_; rintro e w2 ⟨rfl, ba⟩; skip))
    exact vE
   |ok s1 =>
    have HM := aa hM
    clear hM
    go_enter Tryz.func104, Tryz.ntmps104
    go_wp2_with (first
     |(go_at_call 69; refine iI.out.mono ?_; rintro e w1 ⟨rfl, aD⟩; obtain ⟨b0, b1, b2, b3⟩ := al (cP.out _ _ _ _ _ aD); have bh := aa aD; clear aD)
     |(go_at_call 119; refine (cw (HC.out _ bh.out) HM.out).mono ?_; rintro e w2 ⟨rfl, aC⟩; have bR := aa aC; clear aC))
    go_end0
    exact ⟨rfl, eB.out _ _ _ _ _ bR.out⟩
  |clear k_Q50_1
   have HC := aa (fun (W : World) (hW : IS K (w.alloc (.cells #[.int .i64 T.kind, .int .i64 T.num, .string T.name, .slice a T.len cap] 25)) O1 (ae s) cx.ret cx.loops ai W) => RK bL hk hl cg K _ O1 s cx ai W _ jl hW (hE.later (aZ _ _ _ _ _ hW)) (hN.later (aZ _ _ _ _ _ hW)) ay aS bZ hd gn gD)
   unfold Nd.val at *
   rw [hk] at HC cP bF eB iI ⊢
   clear hS hE hN aD bg bS aZ aS hk hq aM ay bZ hd hl cg hb1
   cases hM : CR.bind (aE (bP K.F (T.kids 0)) 2 (ae s)) fun s1 => within [] ((b7 K.F (T.kids 1)).sts cx) s1 with
   |error p =>
    exact bQ6
   |ok s1 =>
    exact bQ4
  |clear k_Q50_2
   have HC := aa (fun (W : World) (hW : IS K (w.alloc (.cells #[.int .i64 T.kind, .int .i64 T.num, .string T.name, .slice a T.len cap] 25)) O1 (ae s) cx.ret cx.loops ai W) => RJ bL hk hl cg K _ O1 s cx ai W _ jl hW (hE.later (aZ _ _ _ _ _ hW)) (hN.later (aZ _ _ _ _ _ hW)) ay aS bZ hd gn gD)
   unfold Nd.val at *
   rw [hk] at HC cP bF eB iI ⊢
   clear hS hE hN aD bg bS aZ aS hk hq aM ay bZ hd hl cg hb1
   cases hM : CR.bind (aE (bP K.F (T.kids 0)) 2 (ae s)) fun s1 => CR.bind (within [] ((b7 K.F (T.kids 1)).sts cx) s1) ((b7 K.F (T.kids 2)).st cx) with
   |error p =>
    exact bQ6
   |ok s1 =>
    exact bQ4
  |clear k_Q50_3
   have HC := aa (fun (W : World) (hW : IS K (w.alloc (.cells #[.int .i64 T.kind, .int .i64 T.num, .string T.name, .slice a T.len cap] 25)) O1 (ae s) cx.ret cx.loops ai W) => Ik bL hk hl ja SX cg K _ O1 s cx ai W _ jl hW (hE.later (aZ _ _ _ _ _ hW)) (hN.later (aZ _ _ _ _ _ hW)) ay aS bZ hd gn gD)
   unfold Nd.val at *
   rw [hk] at HC cP bF eB iI ⊢
   clear hS hE hN aD bg bS aZ aS hk hq aM ay bZ hd hl cg ja SX
   cases hM : within [] ((b7 K.F (T.kids 0)).sts ⟨cx.ret, cx.loops + 1, cx.outs + 1⟩) (ae s) with
   |error p =>
    exact bQ7
   |ok s1 =>
    exact bQ5
  |clear k_Q50_4
   have HC := aa (fun (W : World) (hW : IS K (w.alloc (.cells #[.int .i64 T.kind, .int .i64 T.num, .string T.name, .slice a T.len cap] 25)) O1 (ae s) cx.ret cx.loops ai W) => Ij bL hk hl dh hb1 Bi cg K _ O1 s cx ai W _ jl hW (hE.later (aZ _ _ _ _ _ hW)) (hN.later (aZ _ _ _ _ _ hW)) ay aS bZ hd gn gD)
   unfold Nd.val at *
   rw [hk] at HC cP bF eB iI ⊢
   clear hS hE hN aD bg bS aZ aS hk hq aM ay bZ hd hl cg dh hb1 Bi
   cases hM : CR.bind (aE (bP K.F (T.kids 0)) 2 (ae s)) fun s1 => within [] ((b7 K.F (T.kids 1)).sts ⟨cx.ret, cx.loops + 1, cx.outs + 1⟩) s1 with
   |error p =>
    exact bQ7
   |ok s1 =>
    exact bQ5
  |clear k_Q50_5
   have HC := aa (fun (W : World) (hW : IS K (w.alloc (.cells #[.int .i64 T.kind, .int .i64 T.num, .string T.name, .slice a T.len cap] 25)) O1 (ae s) cx.ret cx.loops ai W) => Io bL hk cg K _ O1 s cx ai W _ jl hW (hE.later (aZ _ _ _ _ _ hW)) (hN.later (aZ _ _ _ _ _ hW)) ay aS bZ hd gn gD)
   unfold Nd.val at *
   rw [hk] at HC cP bF eB iI ⊢
   clear hS hE hN aD bg bS aZ aS hk hq aM ay bZ hd cg
   cases hM : q9 K.F T ⟨cx.ret, cx.loops, cx.outs + 1⟩ (ae s) T.len with
   |error p =>
    have HM := aa hM
    clear hM
    go_enter Tryz.func104, Tryz.ntmps104
    go_wp2_with (first
     |(go_at_call 69; refine iI.out.mono ?_; rintro e w1 ⟨rfl, aD⟩; obtain ⟨b0, b1, b2, b3⟩ := al (cP.out _ _ _ _ _ aD); have bh := aa aD; clear aD)
     |(go_at_call 125; refine (dr (HC.out _ bh.out) HM.out).mono ?_; rintro e w2 ⟨rfl, ba⟩; skip))
    exact vE
   |ok s1 =>
    have HM := aa hM
    clear hM
    go_enter Tryz.func104, Tryz.ntmps104
    go_wp2_with (first
     |(go_at_call 69; refine iI.out.mono ?_; rintro e w1 ⟨rfl, aD⟩; obtain ⟨b0, b1, b2, b3⟩ := al (cP.out _ _ _ _ _ aD); have bh := aa aD; clear aD)
     |(go_at_call 125; refine (cw (HC.out _ bh.out) HM.out).mono ?_; rintro e w2 ⟨rfl, aC⟩; have bR := aa aC; clear aC))
    go_end0
    exact ⟨rfl, eB.out _ _ _ _ _ bR.out⟩
  |clear k_Q50_6
   have Gp := aa (fun W => pS (K := K) W (cx.loops : Int) s.2.length (.pointer (some ⟨K.cb, 0, none⟩)))
   have kA : ((cx.loops : Int) = 0) = (cx.loops = 0) := by simp
   unfold Nd.val at *
   rw [hk] at cP bF eB iI ⊢
   clear hS hE hN aD bg bS aZ aS hk hq aM ay bZ hd
   have NU := @IS.nums
   by_cases h0 : cx.loops = 0
   ·have Cn : (cx.loops : Int) = 0 := by omega
    rw [if_pos h0]
    simp only [if_pos Cn] at Gp
    have k_Q65_1 := kk
    exact VI
   ·have Cn : ¬ (cx.loops : Int) = 0 := by omega
    rw [if_neg h0]
    simp only [if_neg Cn] at Gp
    have k_Q65_0 := kk
    exact VI
  |clear k_Q50_7
   have Gp := aa (fun W => pS (K := K) W ((cx.loops : Int) + (ai : Int)) s.2.length (.pointer (some ⟨K.cb, 0, none⟩)))
   have hlb : cx.loops ≤ 1099511627776 := by omega
   have P7 : ai ≤ 1099511627776 := by omega
   have bH := jK
   unfold Nd.val at *
   rw [hk] at cP bF eB iI ⊢
   have HD : Hid ((cx.outs = 0 ∧ ((cx.loops : Int) + (ai : Int) = 0)) ∨ (¬ cx.outs = 0 ∧ ¬ ((cx.loops : Int) + (ai : Int) = 0))) := by
    unfold Hid
    by_cases h : cx.outs = 0
    ·exact .inl ⟨h, by omega⟩
    ·exact .inr ⟨h, by omega⟩
   have Bd : IntKind.i64.wrap ((cx.loops : Int) + (ai : Int)) = (cx.loops : Int) + (ai : Int) := by simp [IntKind.wrap, IntKind.bits, IntKind.signed]; omega
   clear hS hE hN aD bg bS aZ aS hk hq aM ay bZ hd jl
   rcases HD.out with ⟨h0, Cn⟩ | ⟨h0, Cn⟩
   ·rw [if_pos h0]
    simp only [if_pos Cn] at Gp
    have k_Q56_1 := kk
    exact VQ
   ·rw [if_neg h0]
    simp only [if_neg Cn] at Gp
    have k_Q56_0 := kk
    exact VQ
  |clear k_Q50_8
   by_cases hg : decide (0 < T.len) = decide (cx.ret ≠ 0)
   ·have K0 : (T.len = 1 ∧ cx.ret ≠ 0) ∨ (T.len = 0 ∧ cx.ret = 0) := by
     rcases SB with h | ⟨h, _⟩
     ·right; refine ⟨h, Classical.byContradiction fun e => ?_⟩
      rw [h, decide_eq_true e] at hg; cases hg
     ·left; refine ⟨h, fun e => ?_⟩
      rw [h, e] at hg; cases hg
    have he : ∀ i, i < T.len → (T.kids i).eOk = true := by
     intro i hi
     rcases SB with h | ⟨h, h2⟩
     ·omega
     ·obtain rfl : i = 0 := by omega
      exact h2
    have hM0 : (if decide (0 < T.len) = decide (cx.ret ≠ 0) then (if 0 < T.len then aE (bP K.F (T.kids 0)) cx.ret (ae s) else .ok (ae s)) else .error (9, s.2.length) : CR CS) = forN (fun i => aE (bP K.F (T.kids i)) cx.ret) T.len (ae s) := by
     rw [if_pos hg]
     rcases K0 with ⟨h, _⟩ | ⟨h, _⟩
     ·rw [h]; rfl
     ·rw [h]; rfl
    rw [hM0]
    have HC := aa (fun (W : World) (hW : IS K (w.alloc (.cells #[.int .i64 T.kind, .int .i64 T.num, .string T.name, .slice a T.len cap] 25)) O1 (ae s) cx.ret cx.loops ai W) => MJ bL hk K _ O1 s cx ai W _ s.2.length hW (hE.later (aZ _ _ _ _ _ hW)) (hN.later (aZ _ _ _ _ _ hW)) ay he K0)
    unfold Nd.val at *
    rw [hk] at HC cP bF eB iI ⊢
    clear hS hE hN aD bg bS aZ aS hk hq aM ay bZ hd hM0 hg K0 he SB
    cases hM : forN (fun i => aE (bP K.F (T.kids i)) cx.ret) T.len (ae s) with
    |error p =>
     have HM := aa hM
     clear hM
     go_enter Tryz.func104, Tryz.ntmps104
     go_wp2_with (first
      |(go_at_call 69; refine iI.out.mono ?_; rintro e w1 ⟨rfl, aD⟩; obtain ⟨b0, b1, b2, b3⟩ := al (cP.out _ _ _ _ _ aD); have bh := aa aD; clear aD)
      |(go_at_call 124; refine (dr (HC.out _ bh.out) HM.out).mono ?_; rintro e w2 ⟨rfl, ba⟩; skip))
     exact vE
    |ok s1 =>
     have HM := aa hM
     clear hM
     go_enter Tryz.func104, Tryz.ntmps104
     go_wp2_with (first
      |(go_at_call 69; refine iI.out.mono ?_; rintro e w1 ⟨rfl, aD⟩; obtain ⟨b0, b1, b2, b3⟩ := al (cP.out _ _ _ _ _ aD); have bh := aa aD; clear aD)
      |(go_at_call 124; refine (cw (HC.out _ bh.out) HM.out).mono ?_; rintro e w2 ⟨rfl, aC⟩; have bR := aa aC; clear aC))
     go_end0
     exact ⟨rfl, eB.out _ _ _ _ _ bR.out⟩
   ·rw [if_neg hg]
    have HC := aa (fun (W : World) (hW : IS K (w.alloc (.cells #[.int .i64 T.kind, .int .i64 T.num, .string T.name, .slice a T.len cap] 25)) O1 (ae s) cx.ret cx.loops ai W) => MK hk K _ O1 (ae s) cx ai W _ s.2.length hW (hN.later (aZ _ _ _ _ _ hW)) (by rcases SB with h | ⟨h, _⟩; exact .inl h; exact .inr h) hg)
    unfold Nd.val at *
    rw [hk] at HC cP bF eB iI ⊢
    clear hS hE hN aD bg bS aZ aS hk hq aM ay bZ hd hg SB
    go_enter Tryz.func104, Tryz.ntmps104
    go_wp2_with (first
     |(go_at_call 69; refine iI.out.mono ?_; rintro e w1 ⟨rfl, aD⟩; obtain ⟨b0, b1, b2, b3⟩ := al (cP.out _ _ _ _ _ aD); have bh := aa aD; clear aD)
     |(go_at_call 124; refine (HC.out _ bh.out).mono ?_; rintro e w2 ⟨rfl, ba⟩; skip))
    exact vE
 |clear k_Q91_2
  have QA := aa (hN.kid (i := 0) (by omega) dI)
  first
  |clear k_Q87_0
   have iP := aa (gz ay (i := 0) (by omega))
   have qE := aa (fM hN.fine)
   first
   |clear k_Q41_0
    have HV := aa (fun (W : World) (hW : IS K (w.alloc (.cells #[.int .i64 T.kind, .int .i64 T.num, .string T.name, .slice (some ⟨g, off, none⟩) T.len cap] 25)) O1 (ae s) cx.ret cx.loops ai W) => jT (eE bL (T.kids 0)) K _ O1 (ae s) cx.ret cx.loops ai W _ hW (hE.later (aZ _ _ _ _ _ hW)) (QA.out.later (aZ _ _ _ _ _ hW)) iP.out dh)
    have Cv := aa (fun (W : World) (st : CS) (ty : Int) (hW : IS K (w.alloc (.cells #[.int .i64 T.kind, .int .i64 T.num, .string T.name, .slice (some ⟨g, off, none⟩) T.len cap] 25)) O1 st cx.ret cx.loops ai W) (h1 : st.1 ≠ []) (h2 : ty ≠ 0) (h4 : aN st.1 + 1 ≤ st.2.length) => fB hW T.name ty s.2.length h1 h2 qE.out h4)
    have HX : Hid (∀ r, cN (bP K.F (T.kids 0)) (ae s) = .ok r → r.2.1 ≠ [] ∧ r.1 ≠ 0 ∧ aN r.2.1 + 1 ≤ r.2.2.length) := by
     intro r h
     obtain ⟨x1, x2⟩ := (ej K.F _ dh).value _ _ _ h
     have := hS.len.vars
     rw [aP] at x2
     have e1 : r.2.1 = s.1 := x1
     exact ⟨by rw [e1]; exact bZ, (gV h).2, by rw [e1]; omega⟩
    have bH := jK
    have k_Q64_0 := kk
    exact JH
   |clear k_Q41_1
    have HW := aa (fun (W : World) (ty : Int) (hW : IS K (w.alloc (.cells #[.int .i64 T.kind, .int .i64 T.num, .string T.name, .slice (some ⟨g, off, none⟩) T.len cap] 25)) O1 (ae s) cx.ret cx.loops ai W) => ec (eE bL (T.kids 0)) K _ O1 (ae s) cx.ret cx.loops ai W _ ty hW (hE.later (aZ _ _ _ _ _ hW)) (QA.out.later (aZ _ _ _ _ _ hW)) iP.out dh)
    have HV := aa (fun (W : World) (hW : IS K (w.alloc (.cells #[.int .i64 T.kind, .int .i64 T.num, .string T.name, .slice (some ⟨g, off, none⟩) T.len cap] 25)) O1 (ae s) cx.ret cx.loops ai W) => bL K _ O1 (ae s) cx.ret cx.loops ai W T.name s.2.length hW qE.out)
    have bH := jK
    rw [show (ae s).1 = s.1 from rfl] at HV
    have k_Q64_1 := kk
    exact JH
  |clear k_Q87_1
   have HN1 := aa (hN.kid (i := 1) (by omega) fN)
   have iP : Hid ((ae s).2.length + ((T.kids 0).size + (T.kids 1).size) ≤ K.N) := by
    have := bV T s.2.length (i := 1) (by omega)
    unfold aW at this; simp only [ar] at this
    unfold Hid; rw [aP]; omega
   have Gm := aa (fun (W : World) (hW : IS K (w.alloc (.cells #[.int .i64 T.kind, .int .i64 T.num, .string T.name, .slice (some ⟨g, off, none⟩) T.len cap] 25)) O1 (ae s) cx.ret cx.loops ai W) => uM bL (A := T.kids 0) (B := T.kids 1) K _ O1 (ae s) cx.ret cx.loops ai W _ _ hW (hE.later (aZ _ _ _ _ _ hW)) (QA.out.later (aZ _ _ _ _ _ hW)) (HN1.out.later (aZ _ _ _ _ _ hW)) iP.out dh j5)
   have bH := jK
   have k_Q54_1 := kk
   exact VR
 |clear k_Q91_3
  first
  |clear k_Q89_0
   first
   |clear k_Q63_0
    obtain ⟨n4, n7, n8, NY, NV⟩ := bh.out.nums
    have kM := aa (fun (h0 : T.len ≠ 0) => dq hN.row h0)
    have J1 := aa (fun (j : Nat) (hj : j < T.len) (u : Value) (hr : Row 0 K.lo w (T.kids j) u) (W : World) (st : CS) (hW : IS K (w.alloc (.cells #[.int .i64 T.kind, .int .i64 T.num, .string T.name, .slice a T.len cap] 25)) O1 st cx.ret cx.loops ai W) (hf : st.2.length + (T.kids j).size ≤ K.N) => ec (eE bL (T.kids j)) K _ O1 st cx.ret cx.loops ai W u cx.ret hW (hE.later (aZ _ _ _ _ _ hW)) ((hN.kid hj hr).later (aZ _ _ _ _ _ hW)) hf (he j hj))
    have sC : Hid (∀ j st, j < T.len → forN (fun i => aE (bP K.F (T.kids i)) cx.ret) j (ae s) = .ok st → st.2.length + (T.kids j).size ≤ K.N) := by
     intro j st hj h
     have := nu (g := fun i => (T.kids i).size) (fun i hi => (ej K.F _ (he i hi)).want cx.ret) (Nat.le_of_lt hj) _ _ h
     have h2 := bV T s.2.length hj
     rw [aP] at this
     unfold aW at h2
     omega
    have hn := T.fine_len hN.fine
    have bH := jK
    unfold Nd.val at *
    clear hS hE hN aD bg bS aZ hk hq he ay
    have hor2 : (((T.len : Int) == 1) = true ∧ (cx.ret == 0) = false) ∨ (((T.len : Int) == 1) = false ∧ (cx.ret == 0) = true) := by
     rcases K0 with ⟨h1, h2⟩ | ⟨h1, h2⟩
     ·exact .inl ⟨beq_iff_eq.2 (by omega), bn h2⟩
     ·exact .inr ⟨bn (by omega), beq_iff_eq.2 h2⟩
    clear K0
    rcases hor2 with ⟨e1, e2⟩ | ⟨e1, e2⟩
    all_goals have e3 : (cx.ret != 0) = !(cx.ret == 0) := rfl
    all_goals rw [e2] at e3
    all_goals simp only [Bool.not_true, Bool.not_false] at e3
    all_goals go_enter Tryz.func124, Tryz.ntmps124
    all_goals go_wp2
    all_goals go_quiet (fail)
    all_goals go_wp2
    all_goals have LD := aa (bh.out.calm (below_drewN _ nq))
    all_goals go_loopw [25] (fun i wr => ∃ j : Nat, j ≤ T.len ∧ i = .int .i64 j ∧ ∃ st, forN (fun i => aE (bP K.F (T.kids i)) cx.ret) j (ae s) = .ok st ∧ IS K (w.alloc (.cells #[.int .i64 T.kind, .int .i64 T.num, .string T.name, .slice a T.len cap] 25)) O1 st cx.ret cx.loops ai wr) (fun i _ => T.len - (intOf i).toNat)
    all_goals try (case atStart => exact ⟨0, Nat.zero_le _, rfl, ae s, rfl, LD.out⟩)
    all_goals
     obtain ⟨n, EE, rfl, st, aM, cy⟩ := hrel
     obtain ⟨m4, m7, m8, gr7, gr8⟩ := cy.nums
     by_cases xG : n < T.len
     ·have hni : (n : Int) < (T.len : Int) := by omega
      obtain ⟨g, off, mQ, mh, iM, rZ, aV⟩ := kM.out (by omega)
      injection mh with vw Lq vu
      subst vw
      subst vu
      obtain ⟨u, kK, jJ⟩ := aV n xG
      obtain ⟨au, qu, hu, pY, Bg⟩ := aH.1 jJ
      subst hu
      clear Bg
      obtain ⟨c0, c1, c2, c3⟩ := kK _ (bF.out _ _ _ _ _ cy)
      have HW := aa (fun o => J1.out n xG _ jJ (wr.alloc o).drew st (cy.alloc o).drew (sC.out n st xG aM))
      have kG : Hid (forN (fun i => aE (bP K.F (T.kids i)) cx.ret) (n + 1) (ae s) = aE (bP K.F (T.kids n)) cx.ret st) := by unfold Hid; simp only [forN, aM]; rfl
      have pr := aa (fun o => (bF.out _ _ _ _ _ cy).trans (cy.box o))
      have HNU := aa (fun o => (cy.alloc o).nums)
      unfold Nd.val at HW
      clear aV kK jJ cy
      cases hM : aE (bP K.F (T.kids n)) cx.ret st with
      |error p =>
       have HM := aa hM
       have qF : Hid (forN (fun i => aE (bP K.F (T.kids i)) cx.ret) T.len (ae s) = .error p) := im (kG.out.trans hM) (show n + 1 ≤ T.len by omega)
       clear hM aM
       go_wp2
       have yu := aa (HW.out (.cells #[.int .i64 (T.kids n).kind, .int .i64 (T.kids n).num, .string (T.kids n).name, .slice au (T.kids n).len qu] 25))
       have FW := aa (pr.out (.cells #[.int .i64 (T.kids n).kind, .int .i64 (T.kids n).num, .string (T.kids n).name, .slice au (T.kids n).len qu] 25))
       obtain ⟨z4, z7, z8, zr7, zr8⟩ := HNU.out (.cells #[.int .i64 (T.kids n).kind, .int .i64 (T.kids n).num, .string (T.kids n).name, .slice au (T.kids n).len qu] 25)
       obtain ⟨x0, x1, x2, x3⟩ := al (w := wr.alloc (.cells #[.int .i64 (T.kids n).kind, .int .i64 (T.kids n).num, .string (T.kids n).name, .slice au (T.kids n).len qu] 25)) (b := wr.heap.size) (t := 25) (heap_alloc_new wr _)
       generalize wr.alloc (.cells #[.int .i64 (T.kids n).kind, .int .i64 (T.kids n).num, .string (T.kids n).name, .slice au (T.kids n).len qu] 25) = wx at *
       go_still_tail 7, bH
       go_wp2_with (first
        |(go_at_call 117; refine (dr yu.out HM.out).mono ?_; rintro e w2 ⟨rfl, ba⟩; skip))
       refine ⟨rfl, ?_⟩
       rw [fR qF.out]
       exact ⟨rfl, FW.out.drew.trans ba⟩
      |ok s1 =>
       have HM := aa hM
       clear hM aM
       go_wp2
       have yu := aa (HW.out (.cells #[.int .i64 (T.kids n).kind, .int .i64 (T.kids n).num, .string (T.kids n).name, .slice au (T.kids n).len qu] 25))
       have FW := aa (pr.out (.cells #[.int .i64 (T.kids n).kind, .int .i64 (T.kids n).num, .string (T.kids n).name, .slice au (T.kids n).len qu] 25))
       obtain ⟨z4, z7, z8, zr7, zr8⟩ := HNU.out (.cells #[.int .i64 (T.kids n).kind, .int .i64 (T.kids n).num, .string (T.kids n).name, .slice au (T.kids n).len qu] 25)
       obtain ⟨x0, x1, x2, x3⟩ := al (w := wr.alloc (.cells #[.int .i64 (T.kids n).kind, .int .i64 (T.kids n).num, .string (T.kids n).name, .slice au (T.kids n).len qu] 25)) (b := wr.heap.size) (t := 25) (heap_alloc_new wr _)
       generalize wr.alloc (.cells #[.int .i64 (T.kids n).kind, .int .i64 (T.kids n).num, .string (T.kids n).name, .slice au (T.kids n).len qu] 25) = wx at *
       go_still_tail 7, bH
       go_wp2_with (first
        |(go_at_call 117; refine (cw yu.out HM.out).mono ?_; rintro e w2 ⟨rfl, aC⟩; have pq := aa aC; clear aC))
       exact ⟨⟨n + 1, by omega, by go_num, s1, by rw [kG.out, HM.out], pq.out⟩, by simp [intOf]; omega⟩
     ·obtain rfl : n = T.len := by omega
      have iu := aa cy
      have mX := aa aM
      clear cy aM
      go_wp2
      go_end0
      rw [lD mX.out]
      exact ⟨rfl, eB.out _ _ _ _ _ iu.out⟩
   |clear k_Q63_1
    have HC := aa (o9 hk (fun i hi => cg _ (by have := aL T hi; omega)) K _ O1 s cx ai _ _ jl aD (hE.later (aZ _ _ _ _ _ aD)) (hN.later (aZ _ _ _ _ _ aD)) ay aS hd (by omega) (by omega))
    unfold Nd.val at *
    rw [hk] at HC cP bF eB bh ⊢
    clear hS hE hN aD bg bS aZ aS hk hq ay bZ hd cg
    cases hM : within [] ((b7 K.F T).sts cx) s with
    |error p =>
     have HM := aa hM
     clear hM
     go_enter Tryz.func104, Tryz.ntmps104
     go_wp2_with (first
      |(go_at_call 115; refine (dr HC.out HM.out).mono ?_; rintro e w2 ⟨rfl, ba⟩; skip))
     exact vE
    |ok s1 =>
     have HM := aa hM
     clear hM
     go_enter Tryz.func104, Tryz.ntmps104
     go_wp2_with (first
      |(go_at_call 115; refine (cw HC.out HM.out).mono ?_; rintro e w2 ⟨rfl, aC⟩; have bR := aa aC; clear aC))
     go_end0
     exact ⟨rfl, eB.out _ _ _ _ _ bR.out⟩
  |clear k_Q89_1
   have QB := aa (fun (W : World) (st : CS) (hW : IS K (w.alloc (.cells #[.int .i64 T.kind, .int .i64 T.num, .string T.name, .slice (some ⟨g, off, none⟩) T.len cap] 25)) O1 st cx.ret ((cx.loops : Int) + 1) ai W) (hf : st.2.length + (T.kids 0).size ≤ K.N) (hd : st.1.length + 1 ≤ st.2.length) => o9 ja (fun j hj => cg _ (by have := aL (T.kids 0) hj; have := aL T (i := 0) (by omega); omega)) K _ O1 st ⟨cx.ret, cx.loops + 1, cx.outs + 1⟩ ai W u0 QJ.out hW (hE.later (aZ _ _ _ _ _ hW)) ((hN.kid (by omega) dI).later (aZ _ _ _ _ _ hW)) hf SX hd (by have := aL T (i := 0) (by omega); show cx.loops + 1 + _ ≤ _; omega) (by have := aL T (i := 0) (by omega); omega))
   have iP := aa (gz ay (i := 0) (by omega))
   have HD0 : Hid ((ae s).1.length + 1 ≤ (ae s).2.length) := by unfold Hid; rw [aP]; show s.1.length + 1 ≤ _; omega
   have k_Q49_0 := kk
   exact VV
  |clear k_Q89_2
   first
   |clear k_Q66_0
    have jn := aa (fun (W : World) (st : CS) (r l o : Int) (ty : Int) (hW : IS K (w.alloc (.cells #[.int .i64 T.kind, .int .i64 T.num, .string T.name, .slice (some ⟨g, off, none⟩) T.len cap] 25)) O1 st r l o W) (hf : st.2.length + (T.kids 0).size ≤ K.N) => ec (eE bL (T.kids 0)) K _ O1 st r l o W u0 ty hW (hE.later (aZ _ _ _ _ _ hW)) ((hN.kid (by omega) dI).later (aZ _ _ _ _ _ hW)) hf dh)
    first
    |clear k_Q43_0
     have oq := aa (fun (W : World) (st : CS) (hW : IS K (w.alloc (.cells #[.int .i64 T.kind, .int .i64 T.num, .string T.name, .slice (some ⟨g, off, none⟩) T.len cap] 25)) O1 st cx.ret ((cx.loops : Int) + 1) ai W) (hf : st.2.length + (T.kids 1).size ≤ K.N) (hd : st.1.length + 1 ≤ st.2.length) => o9 hb1 (fun j hj => cg _ (by have := aL (T.kids 1) hj; have := aL T (i := 1) (by omega); omega)) K _ O1 st ⟨cx.ret, cx.loops + 1, cx.outs + 1⟩ ai W u1 QJ.out hW (hE.later (aZ _ _ _ _ _ hW)) ((hN.kid (by omega) fN).later (aZ _ _ _ _ _ hW)) hf Bi hd (by have := aL T (i := 1) (by omega); show cx.loops + 1 + _ ≤ _; omega) (by have := aL T (i := 1) (by omega); omega))
     have k_Q51_0 := kk
     exact VU
    |clear k_Q43_1
     have oq := aa (fun (W : World) (st : CS) (hW : IS K (w.alloc (.cells #[.int .i64 T.kind, .int .i64 T.num, .string T.name, .slice (some ⟨g, off, none⟩) T.len cap] 25)) O1 st cx.ret cx.loops ai W) (hf : st.2.length + (T.kids 1).size ≤ K.N) (hd : st.1.length + 1 ≤ st.2.length) => o9 hb1 (fun j hj => cg _ (by have := aL (T.kids 1) hj; have := aL T (i := 1) (by omega); omega)) K _ O1 st cx ai W u1 QJ.out hW (hE.later (aZ _ _ _ _ _ hW)) ((hN.kid (by omega) fN).later (aZ _ _ _ _ _ hW)) hf Bi hd (by have := aL T (i := 1) (by omega); omega) (by have := aL T (i := 1) (by omega); omega))
     first
     |clear k_Q37_0
      have k_Q51_1 := kk
      exact VU
     |clear k_Q37_1
      have J3 := aa (fun (W : World) (st : CS) (hW : IS K (w.alloc (.cells #[.int .i64 T.kind, .int .i64 T.num, .string T.name, .slice (some ⟨g, off, none⟩) T.len cap] 25)) O1 st cx.ret cx.loops ai W) (hf : st.2.length + (T.kids 2).size ≤ K.N) (dE : st.1 ≠ []) (hd : st.1.length + 1 ≤ st.2.length) => cg (T.kids 2) (by have := aL T (i := 2) (by omega); omega) K _ O1 st cx ai W u2 QJ.out hW (hE.later (aZ _ _ _ _ _ hW)) ((hN.kid (by omega) jk).later (aZ _ _ _ _ _ hW)) hf ho2 dE hd (by have := aL T (i := 2) (by omega); omega) (by have := aL T (i := 2) (by omega); omega))
      have iP := aa (gz ay (i := 0) (by omega))
      have mz : Hid (∀ s1, aE (bP K.F (T.kids 0)) 2 (ae s) = .ok s1 → s1.2.length + (T.kids 1).size ≤ K.N ∧ s1.1.length + 1 ≤ s1.2.length ∧ s1.1 ≠ [] ∧ s1.2.length + (T.kids 1).size + (T.kids 2).size ≤ K.N) := by
       intro s1 h
       obtain ⟨q1, q2⟩ := (ej K.F _ dh).want 2 _ _ h
       have := bV T s.2.length (i := 2) (by omega)
       unfold aW at this; simp only [ar] at this
       rw [aP] at q2
       refine ⟨by omega, ?_, by rw [q1]; exact bZ, by omega⟩
       rw [q1]; show s.1.length + 1 ≤ _; omega
      have lF : Hid (∀ s1 s2, s1.1 ≠ [] → within [] ((b7 K.F (T.kids 1)).sts cx) s1 = .ok s2 → s2.1 = s1.1 ∧ s2.2.length = s1.2.length + (T.kids 1).size) := by
       intro s1 s2 dE h
       exact ((iz K.F (T.kids 1)).sts Bi hb1 cx).within [] (by simp) s1 s2 h
      have k_Q52_1 := kk
      exact VT
   |clear k_Q66_1
    have QA := aa (hN.kid (i := 0) (by omega) dI)
    have HN1 := aa (hN.kid (i := 1) (by omega) fN)
    have Gm := aa (fun (W : World) (st : CS) (hW : IS K (w.alloc (.cells #[.int .i64 T.kind, .int .i64 T.num, .string T.name, .slice (some ⟨g, off, none⟩) T.len cap] 25)) O1 st cx.ret cx.loops ai W) (hf : st.2.length + ((T.kids 0).size + (T.kids 1).size) ≤ K.N) => uM bL (A := T.kids 0) (B := T.kids 1) K _ O1 st cx.ret cx.loops ai W _ _ hW (hE.later (aZ _ _ _ _ _ hW)) (QA.out.later (aZ _ _ _ _ _ hW)) (HN1.out.later (aZ _ _ _ _ _ hW)) hf dh j5)
    have kz := aa (fun (W : World) (st : CS) (hW : IS K (w.alloc (.cells #[.int .i64 T.kind, .int .i64 T.num, .string T.name, .slice (some ⟨g, off, none⟩) T.len cap] 25)) O1 st cx.ret cx.loops ai W) (hf : st.2.length + (T.kids 2).size ≤ K.N) (dE : st.1 ≠ []) (hd : st.1.length ≤ st.2.length) => np hb (fun j hj => cg _ (by have := aL (T.kids 2) hj; have := aL T (i := 2) (by omega); omega)) K _ O1 st cx ai W _ jl hW (hE.later (aZ _ _ _ _ _ hW)) ((hN.kid (by omega) jk).later (aZ _ _ _ _ _ hW)) hf ho dE hd (by have := aL T (i := 2) (by omega); omega) (by have := aL T (i := 2) (by omega); omega))
    first
    |clear k_Q33_0
     have nH : Hid (∀ (E : Sc) (X : List Int) s1, (b7 K.F (T.kids 2)).sts cx ([] :: E, X) = .ok s1 → s1.1 ≠ []) := by
      exact Wf
     have k_Q38_0 := kk
     exact V5
    |clear k_Q33_1
     have nH : Hid (∀ (E : Sc) (X : List Int) s1, (b7 K.F (T.kids 2)).sts cx ([(T.name, 1)] :: E, X) = .ok s1 → s1.1 ≠ []) := by
      exact Wf
     have k_Q38_1 := kk
     exact V5
  |clear k_Q89_3
   have QA := aa (hN.kid (i := 0) (by omega) dI)
   have jn := aa (fun (W : World) (st : CS) (r l o : Int) (ty : Int) (hW : IS K (w.alloc (.cells #[.int .i64 T.kind, .int .i64 T.num, .string T.name, .slice (some ⟨g, off, none⟩) T.len cap] 25)) O1 st r l o W) (hf : st.2.length + (T.kids 0).size ≤ K.N) => ec (eE bL (T.kids 0)) K _ O1 st r l o W (.slice a0 (T.kids 0).len q0) ty hW (hE.later (aZ _ _ _ _ _ hW)) ((hN.kid (by omega) dI).later (aZ _ _ _ _ _ hW)) hf dh)
   have kz := aa (fun (W : World) (st : CS) (hW : IS K (w.alloc (.cells #[.int .i64 T.kind, .int .i64 T.num, .string T.name, .slice (some ⟨g, off, none⟩) T.len cap] 25)) O1 st cx.ret cx.loops ai W) (hf : st.2.length + (T.kids 1).size ≤ K.N) (dE : st.1 ≠ []) (hd : st.1.length ≤ st.2.length) => np hb (fun j hj => cg _ (by have := aL (T.kids 1) hj; have := aL T (i := 1) (by omega); omega)) K _ O1 st cx ai W _ jl hW (hE.later (aZ _ _ _ _ _ hW)) ((hN.kid (by omega) fN).later (aZ _ _ _ _ _ hW)) hf ho dE hd (by have := aL T (i := 1) (by omega); omega) (by have := aL T (i := 1) (by omega); omega))
   first
   |clear k_Q34_0
    have nH : Hid (∀ (E : Sc) (X : List Int) s1, (b7 K.F (T.kids 1)).sts cx ([] :: E, X) = .ok s1 → s1.1 ≠ []) := by
     exact Wg
    have k_Q40_0 := kk
    exact V3
   |clear k_Q34_1
    have nH : Hid (∀ (E : Sc) (X : List Int) s1, (b7 K.F (T.kids 1)).sts cx ([(T.name, 1)] :: E, X) = .ok s1 → s1.1 ≠ []) := by
     exact Wg
    have k_Q40_1 := kk
    exact V3
  |clear k_Q89_4
   have kz := aa (fun (W : World) (st : CS) (hW : IS K (w.alloc (.cells #[.int .i64 T.kind, .int .i64 T.num, .string T.name, .slice (some ⟨g, off, none⟩) T.len cap] 25)) O1 st cx.ret cx.loops ai W) (hf : st.2.length + (T.kids 0).size ≤ K.N) (dE : st.1 ≠ []) (hd : st.1.length ≤ st.2.length) => np hb (fun j hj => cg _ (by have := aL (T.kids 0) hj; have := aL T (i := 0) (by omega); omega)) K _ O1 st cx ai W _ jl hW (hE.later (aZ _ _ _ _ _ hW)) ((hN.kid (by omega) dI).later (aZ _ _ _ _ _ hW)) hf ho dE hd (by have := aL T (i := 0) (by omega); omega) (by have := aL T (i := 0) (by omega); omega))
   first
   |clear k_Q39_0
    have nH : Hid (∀ (E : Sc) (X : List Int) s1, (b7 K.F (T.kids 0)).sts cx ([] :: E, X) = .ok s1 → s1.1 ≠ []) := by
     exact Wh
    have k_Q42_0 := kk
    exact V1
   |clear k_Q39_1
    have nH : Hid (∀ (E : Sc) (X : List Int) s1, (b7 K.F (T.kids 0)).sts cx ([(T.name, 1)] :: E, X) = .ok s1 → s1.1 ≠ []) := by
     exact Wh
    have k_Q42_1 := kk
    exact V1) : G := h
theorem Eb (bL : eL) {T : Nd} (K : IK) (w0 : World) (O : Nat → Prop) (s : CS) (ret loops ai : Int) (w : World) (v : Value) (p : Nat) (hS : IS K w0 O s ret loops ai w) (hN : INd K w T v) :
  Calls Tryz.prog 119 #[.pointer (some ⟨K.cb, 0, none⟩), T.val v, .int .i64 p] w (kQ K w (if look s.1 T.name = 0 then .error (5, p) else if look s.1 T.name = 1 then .ok s else .error (7, p)) fun s1 e w1 => e = .returned (.tuple #[]) ∧ IS K w0 O s1 ret loops ai w1) := by
 obtain ⟨O1, Ub, bb, gC⟩ := hS.since
 have HB := aa (fun o => hS.box o)
 have HV := aa (fun o => bL K w O1 s ret loops ai (w.alloc o) T.name p (Ub.alloc o) (fM hN.fine))
 have yx := aa gC
 have gK := aa bb
 unfold Nd.val
 clear hS hN Ub bb gC
 generalize look s.1 T.name = lk at *
 by_cases h0 : lk = 0
 ·rw [if_pos h0] at HV ⊢
  clear h0
  go_enter Tryz.func119, Tryz.ntmps119
  go_wp2_with (first
   |(go_at_call 118; refine (dr (HV.out _) rfl).mono ?_; rintro e w2 ⟨rfl, ba⟩; skip))
  exact ⟨rfl, rfl, (HB.out _).trans ba⟩
 ·rw [if_neg h0] at HV ⊢
  by_cases h1 : lk = 1
  ·rw [if_pos h1]
   have E3 : (lk == 1) = true := beq_iff_eq.2 h1
   have h1n : (lk != 1) = false := by simp only [bne, E3]; rfl
   have k_Q84_0 := kk
   exact Vo
  ·rw [if_neg h1]
   have E3 : (lk == 1) = false := bn h1
   have h1n : (lk != 1) = true := by simp only [bne, E3]; rfl
   have k_Q84_1 := kk
   exact Vo
theorem pS {K : IK} (w : World) (n : Int) (p : Nat) (pt : Value) :
  Calls Tryz.prog 126 #[pt, .int .i64 n, .int .i64 p] w fun e w1 => if n = 0 then e = .panicked [{ v := q6 (10, p), recovered := false }] ∧ w1 = w else e = .returned (.tuple #[]) ∧ w1 = w := by
 by_cases h0 : n = 0
 ·simp only [if_pos h0]
  subst h0
  go_enter Tryz.func126, Tryz.ntmps126
  go_wp2
  exact ⟨rfl, rfl, rfl⟩
 ·simp only [if_neg h0]
  have qd : (n == 0) = false := bn h0
  clear h0
  go_enter Tryz.func126, Tryz.ntmps126
  go_wp2
  go_end0
  exact ⟨rfl, rfl⟩
theorem A7 (bL : eL) {T : Nd} (K : IK) (w0 : World) (O : Nat → Prop) (s : CS) (ret loops ai : Int) (w : World) (v : Value) (hS : IS K w0 O s ret loops ai w) (hE : IEnv K w) (hN : INd K w T v) (ay : s.2.length + T.size ≤ K.N) (aS : T.eOk = true) :
  Calls Tryz.prog 127 #[.pointer (some ⟨K.cb, 0, none⟩), T.val v] w (kQ K w (CR.bind (cN (bP K.F T) s) fun r => if r.1 = 3 then .error (7, s.2.length) else .ok r.2) fun s1 e w1 => e = .returned (.tuple #[]) ∧ IS K w0 O s1 ret loops ai w1) := by
 obtain ⟨O1, Ub, bb, gC⟩ := hS.since
 have HC := aa (fun o => jT (eE bL T) K w O1 s ret loops ai (w.alloc o) v (Ub.alloc o) (hE.later (hS.box o)) (hN.later (hS.box o)) ay aS)
 have kG := aa (fun o => pN (hS.alloc o))
 have HB := aa (fun o => hS.box o)
 have yx := aa gC
 have gK := aa bb
 unfold Nd.val at *
 clear hS Ub hE hN aS ay gC bb
 generalize s.2.length = q at *
 generalize T.kind = tk at *
 generalize T.num = tn at *
 generalize T.name = ts at *
 cases hM : cN (bP K.F T) s with
 |error p =>
  rw [hM] at HC
  rw [CR.bind_error]
  clear hM
  go_enter Tryz.func127, Tryz.ntmps127
  go_wp2_with (first
   |(go_at_call 131; refine (kG.out _).mono ?_; rintro e w1 ⟨rfl, rfl⟩)
   |(go_at_call 116; refine (HC.out _).mono ?_; rintro e w1 ⟨rfl, hb1⟩; skip))
  exact ⟨rfl, rfl, (HB.out _).trans hb1⟩
 |ok r =>
  obtain ⟨r1, r2⟩ := r
  rw [hM] at HC
  rw [CR.bind_ok]
  dsimp only
  clear hM
  by_cases h0 : r1 = 3
  ·rw [if_pos h0]
   subst h0
   have k_Q80_1 := kk
   exact Vs
  ·rw [if_neg h0]
   have qd : (r1 == 3) = false := bn h0
   clear h0
   have k_Q80_0 := kk
   exact Vs
theorem uM (bL : eL) {A B : Nd} (K : IK) (w0 : World) (O : Nat → Prop) (s : CS) (ret loops ai : Int) (w : World) (va vb : Value) (hS : IS K w0 O s ret loops ai w) (hE : IEnv K w) (hA : INd K w A va) (hB : INd K w B vb) (ay : s.2.length + (A.size + B.size) ≤ K.N) (dh : A.eOk = true) (j5 : B.eOk = true) :
  Calls Tryz.prog 120 #[.pointer (some ⟨K.cb, 0, none⟩), A.val va, B.val vb] w (kQ K w (CR.bind (aE (bP K.F A) 3 s) (aE (bP K.F B) 1)) fun s1 e w1 => e = .returned (.tuple #[]) ∧ IS K w0 O s1 ret loops ai w1) := by
 obtain ⟨O1, aD, bg, bS, aZ⟩ := hS.boxed (.cells #[.int .i64 A.kind, .int .i64 A.num, .string A.name, va] 25)
 obtain ⟨O2, aC, dS, kD, tr⟩ := aD.boxed (.cells #[.int .i64 B.kind, .int .i64 B.num, .string B.name, vb] 25)
 have cP : Hid (∀ s' r' l' o' W, IS K ((w.alloc (.cells #[.int .i64 A.kind, .int .i64 A.num, .string A.name, va] 25)).alloc (.cells #[.int .i64 B.kind, .int .i64 B.num, .string B.name, vb] 25)) O2 s' r' l' o' W → W.heap[w.heap.size + 1]? = some (.cells #[.int .i64 B.kind, .int .i64 B.num, .string B.name, vb] 25)) := fun s' r' l' o' W h => by have := kD s' r' l' o' W h; simpa using this
 have bF := aa (fun s' r' l' o' W (h : IS K ((w.alloc (.cells #[.int .i64 A.kind, .int .i64 A.num, .string A.name, va] 25)).alloc (.cells #[.int .i64 B.kind, .int .i64 B.num, .string B.name, vb] 25)) O2 s' r' l' o' W) => aZ _ _ _ _ _ (dS s' r' l' o' W h))
 have eB := aa (fun s' r' l' o' W (h : IS K ((w.alloc (.cells #[.int .i64 A.kind, .int .i64 A.num, .string A.name, va] 25)).alloc (.cells #[.int .i64 B.kind, .int .i64 B.num, .string B.name, vb] 25)) O2 s' r' l' o' W) => bg _ _ _ _ _ (dS s' r' l' o' W h))
 have bR := aa aC
 have HWA := aa (ec (eE bL A) K _ O2 s ret loops ai _ va 3 aC (hE.later (bF.out _ _ _ _ _ aC)) (hA.later (bF.out _ _ _ _ _ aC)) (by omega) dh)
 have HWB := aa (fun W (st : CS) (hW : IS K ((w.alloc (.cells #[.int .i64 A.kind, .int .i64 A.num, .string A.name, va] 25)).alloc (.cells #[.int .i64 B.kind, .int .i64 B.num, .string B.name, vb] 25)) O2 st ret loops ai W) (hf : st.2.length + B.size ≤ K.N) => ec (eE bL B) K _ O2 st ret loops ai W vb 1 hW (hE.later (bF.out _ _ _ _ _ hW)) (hB.later (bF.out _ _ _ _ _ hW)) hf j5)
 have LB : Hid (∀ s1, aE (bP K.F A) 3 s = .ok s1 → s1.2.length + B.size ≤ K.N) := fun s1 h => by have := ((ej K.F _ dh).want 3 _ _ h).2; omega
 unfold Nd.val at *
 clear hS hE hA hB aD aC bg dS bS kD aZ tr ay dh j5
 cases hM : aE (bP K.F A) 3 s with
 |error p =>
  have HM := aa hM
  clear hM
  rw [CR.bind_error]
  go_enter Tryz.func120, Tryz.ntmps120
  go_wp2_with (first
   |(go_at_call 117; refine (dr HWA.out HM.out).mono ?_; rintro e w2 ⟨rfl, ba⟩; skip))
  exact ⟨rfl, rfl, (bF.out _ _ _ _ _ bR.out).trans ba⟩
 |ok s1 =>
  have HM := aa hM
  clear hM
  rw [CR.bind_ok]
  have iJ := HM
  clear HM
  have P1 : Hid True := trivial
  cases hM : aE (bP K.F B) 1 s1 with
  |error p =>
   have HM := aa hM
   clear hM
   go_enter Tryz.func120, Tryz.ntmps120
   go_wp2_with (first
    |(clear P1; go_at_call 117; refine (cw HWA.out iJ.out).mono ?_; rintro e w2 ⟨rfl, bY⟩; obtain ⟨f0, f1, f2, f3⟩ := al (cP.out _ _ _ _ _ bY); have e7 := aa bY; clear bY)
    |(go_at_call 117; refine (dr (HWB.out _ _ e7.out (LB.out _ iJ.out)) HM.out).mono ?_; rintro e w3 ⟨rfl, cZ⟩; skip))
   exact ⟨rfl, rfl, (bF.out _ _ _ _ _ e7.out).trans cZ⟩
  |ok s2 =>
   have HM := aa hM
   clear hM
   go_enter Tryz.func120, Tryz.ntmps120
   go_wp2_with (first
    |(clear P1; go_at_call 117; refine (cw HWA.out iJ.out).mono ?_; rintro e w2 ⟨rfl, bY⟩; obtain ⟨f0, f1, f2, f3⟩ := al (cP.out _ _ _ _ _ bY); have e7 := aa bY; clear bY)
    |(go_at_call 117; refine (cw (HWB.out _ _ e7.out (LB.out _ iJ.out)) HM.out).mono ?_; rintro e w3 ⟨rfl, gh⟩; have mb := aa gh; clear gh))
   go_end0
   exact ⟨rfl, eB.out _ _ _ _ _ mb.out⟩
def ef (T : Nd) : Prop := ∀ (K : IK) (w0 : World) (O : Nat → Prop) (s : CS) (cx : Cx) (ai : Nat) (w : World) (v : Value), cx.outs = cx.loops + ai → IS K w0 O s cx.ret cx.loops ai w → IEnv K w → INd K w T v → s.2.length + T.size ≤ K.N → T.sOk = true → s.1 ≠ [] → s.1.length + 1 ≤ s.2.length → cx.loops + T.size ≤ 1099511627776 → ai + T.size ≤ 1099511627776 →
 Calls Tryz.prog 104 #[.pointer (some ⟨K.cb, 0, none⟩), T.val v] w (kQ K w ((b7 K.F T).st cx s) fun s1 e w1 => e = .returned (.tuple #[]) ∧ IS K w0 O s1 cx.ret cx.loops ai w1)
theorem np {T : Nd} (h4 : T.kind = 4) (ih : ∀ i, i < T.len → ef (T.kids i)) (K : IK) (w0 : World) (O : Nat → Prop) (s : CS) (cx : Cx) (ai : Nat) (w : World) (v : Value) (jl : cx.outs = cx.loops + ai) (hS : IS K w0 O s cx.ret cx.loops ai w) (hE : IEnv K w) (hN : INd K w T v) (ay : s.2.length + T.size ≤ K.N) (aS : T.sOk = true) (bZ : s.1 ≠ []) (hd : s.1.length ≤ s.2.length) (hl : cx.loops + T.size ≤ 1099511627776 + 1) (ho : ai + T.size ≤ 1099511627776 + 1) :
  Calls Tryz.prog 92 #[.pointer (some ⟨K.cb, 0, none⟩), T.val v] w (kQ K w ((b7 K.F T).sts cx s) fun s1 e w1 => e = .returned (.tuple #[]) ∧ IS K w0 O s1 cx.ret cx.loops ai w1) := by
 rw [show (b7 K.F T).sts cx s = forN (fun i => (b7 K.F (T.kids i)).st cx) T.len (ae s) by rw [jr K.F (by omega)]; rfl]
 have b8 : 0 < T.size := by rw [T.size_eq]; omega
 have oR := AK h4 aS
 have hn := T.fine_len hN.fine
 have k_Q74_0 := kk
 exact Vy
theorem o9 {T : Nd} (h4 : T.kind = 4) (ih : ∀ i, i < T.len → ef (T.kids i)) (K : IK) (w0 : World) (O : Nat → Prop) (s : CS) (cx : Cx) (ai : Nat) (w : World) (v : Value) (jl : cx.outs = cx.loops + ai) (hS : IS K w0 O s cx.ret cx.loops ai w) (hE : IEnv K w) (hN : INd K w T v) (ay : s.2.length + T.size ≤ K.N) (aS : T.sOk = true) (hd : s.1.length + 1 ≤ s.2.length) (hl : cx.loops + T.size ≤ 1099511627776 + 1) (ho : ai + T.size ≤ 1099511627776 + 1) :
  Calls Tryz.prog 115 #[.pointer (some ⟨K.cb, 0, none⟩), T.val v] w (kQ K w (within [] ((b7 K.F T).sts cx) s) fun s1 e w1 => e = .returned (.tuple #[]) ∧ IS K w0 O s1 cx.ret cx.loops ai w1) := by
 obtain ⟨O1, aD, bg, bS, aZ⟩ := hS.boxed (.cells #[.int .i64 T.kind, .int .i64 T.num, .string T.name, v] 25)
 have cP := aa bS
 have bF := aa aZ
 have eB := aa bg
 have Gt := aa (dx aD (by omega))
 have mX := aa (fun (W : World) (hW : IS K (w.alloc (.cells #[.int .i64 T.kind, .int .i64 T.num, .string T.name, v] 25)) O1 ([] :: s.1, s.2) cx.ret cx.loops ai W) => np h4 ih K _ O1 ([] :: s.1, s.2) cx ai W v jl hW (hE.later (aZ _ _ _ _ _ hW)) (hN.later (aZ _ _ _ _ _ hW)) ay aS (by simp) (by show ([] :: s.1).length ≤ s.2.length; simp; omega) hl ho)
 have nH : Hid (∀ s1, (b7 K.F T).sts cx ([] :: s.1, s.2) = .ok s1 → s1.1 ≠ []) := by
  intro s1 h e
  have := ((iz K.F T).sts aS h4 cx) _ s1 (by simp) h
  rw [e] at this
  have := this.2.1
  simp at this
 unfold within
 unfold Nd.val at *
 clear hS hE hN aD bg bS aZ aS ih ay hd h4
 cases hM : (b7 K.F T).sts cx ([] :: s.1, s.2) with
 |error p =>
  have HM := aa hM
  clear hM
  rw [CR.bind_error]
  go_enter Tryz.func115, Tryz.ntmps115
  go_wp2_with (first
   |(go_at_call 90; refine Gt.out.mono ?_; rintro e w1 ⟨rfl, aD⟩; obtain ⟨b0, b1, b2, b3⟩ := al (cP.out _ _ _ _ _ aD); have bh := aa aD; clear aD)
   |(go_at_call 92; refine (dr (mX.out _ bh.out) HM.out).mono ?_; rintro e w2 ⟨rfl, ba⟩; skip))
  exact vE
 |ok s1 =>
  have HM := aa hM
  clear hM
  rw [CR.bind_ok]
  go_enter Tryz.func115, Tryz.ntmps115
  go_wp2_with (first
   |(go_at_call 90; refine Gt.out.mono ?_; rintro e w1 ⟨rfl, aD⟩; obtain ⟨b0, b1, b2, b3⟩ := al (cP.out _ _ _ _ _ aD); have bh := aa aD; clear aD)
   |(go_at_call 92; refine (cw (mX.out _ bh.out) HM.out).mono ?_; rintro e w2 ⟨rfl, aC⟩; have bR := aa aC; clear aC)
   |(go_at_call 93; refine (fx bR.out (nH.out _ HM.out)).mono ?_; rintro e w3 ⟨rfl, bY⟩; have e7 := aa bY; clear bY))
  go_end0
  exact ⟨rfl, eB.out _ _ _ _ _ e7.out⟩
theorem j6 (E : Sc) : aN ([] :: E) = aN E := by simp [aN]
theorem pA {F T : Nd} {cx : Cx} {s : CS} (h4 : T.kind = 4) : (b7 F T).st cx s = within [] ((b7 F T).sts cx) s := by
 rw [bT F (by omega), jr F (by omega)]
 unfold stM
 rw [if_pos h4]
theorem IS.setN {K : IK} {w0 : World} {O : Nat → Prop} {s : CS} {ret loops ai : Int} {w : World} (h : IS K w0 O s ret loops ai w) (n : Int) :
  IS K w0 O s ret n ai (w.setCell ⟨K.cb, 7, none⟩ (.int .i64 n)) ∧ IS K w0 O s ret loops n (w.setCell ⟨K.cb, 8, none⟩ (.int .i64 n)) := by
 obtain ⟨sv, tv, bs, h1, h2⟩ := h.is
 obtain ⟨f0, f2, f3, hb⟩ := h1.blk
 have pY := h.ok.cu
 have go : ∀ (i : Nat) (l o : Int), ((#[.map (some K.mf), sv, tv, f0, .int .i64 ret, f2, f3, .int .i64 loops, .int .i64 ai] : Array Value).set! i (.int .i64 n)) = #[.map (some K.mf), sv, tv, f0, .int .i64 ret, f2, f3, .int .i64 l, .int .i64 o] → IS K w0 O s ret l o (w.setCell ⟨K.cb, i, none⟩ (.int .i64 n)) := by
  intro i l o e
  have jk : IRaw K (w.setCell ⟨K.cb, i, none⟩ (.int .i64 n)) sv tv bs s ret l o := by
   refine ⟨⟨f0, f2, f3, ?_⟩, ownsRow_setCell_below h1.sc (show K.cb < K.up from pY) _, ownsRow_setCell_below h1.ty (show K.cb < K.up from pY) _, h1.maps.same fun b Gg => Below.heap_setCell w ⟨K.cb, i, none⟩ _ b fun e' => ?_⟩
   ·rw [heap_setCell_same w K.cb i _ _ _ hb, ← e]; simp
   ·have := (h1.maps.mem b Gg).1; have e'' : b = K.cb := e'; omega
  exact h.step h1 h2 jk (fun k hk => .inl hk) h.len (Kept.setCell (S := fun k => k = K.cb ∨ Own sv tv bs k) ⟨K.cb, i, none⟩ _ (.inl rfl))
 exact ⟨go 7 n ai rfl, go 8 loops n rfl⟩
theorem IS.nums {K : IK} {w0 : World} {O : Nat → Prop} {s : CS} {ret loops ai : Int} {w : World} (h : IS K w0 O s ret loops ai w) : w.cell? ⟨K.cb, 4, none⟩ = some (.int .i64 ret) ∧ w.cell? ⟨K.cb, 7, none⟩ = some (.int .i64 loops) ∧ w.cell? ⟨K.cb, 8, none⟩ = some (.int .i64 ai) ∧ w.frozen? ⟨K.cb, 7, none⟩ = false ∧ w.frozen? ⟨K.cb, 8, none⟩ = false := by
 obtain ⟨sv, tv, bs, h1, h2⟩ := h.is
 exact ⟨h1.cells.2.2.2.1, h1.cells.2.2.2.2.1, h1.cells.2.2.2.2.2, h1.free 7, h1.free 8⟩
theorem RK (bL : eL) {T : Nd} (hk : T.kind = 10) (hl : T.len = 2) (cg : ∀ U : Nd, U.size < T.size → ef U) (K : IK) (w0 : World) (O : Nat → Prop) (s : CS) (cx : Cx) (ai : Nat) (w : World) (v : Value) (jl : cx.outs = cx.loops + ai) (hS : IS K w0 O (ae s) cx.ret cx.loops ai w) (hE : IEnv K w) (hN : INd K w T v) (ay : s.2.length + T.size ≤ K.N) (aS : T.sOk = true) (bZ : s.1 ≠ []) (hd : s.1.length + 1 ≤ s.2.length) (gn : cx.loops + T.size ≤ 1099511627776) (gD : ai + T.size ≤ 1099511627776) :
  Calls Tryz.prog 122 #[.pointer (some ⟨K.cb, 0, none⟩), T.val v] w (kQ K w (CR.bind (aE (bP K.F (T.kids 0)) 2 (ae s)) fun s1 => within [] ((b7 K.F (T.kids 1)).sts cx) s1) fun s1 e w1 => e = .returned (.tuple #[]) ∧ IS K w0 O s1 cx.ret cx.loops ai w1) := by
 obtain ⟨_, dh, ⟨hb1, Bi⟩, _⟩ := pD hk aS
 have k_Q72_0 := kk
 exact VA
theorem MT (bL : eL) {T : Nd} (kJ : T.num = 0) (hl : T.len = 1) (hb : (T.kids 0).kind = 4) (ho : (T.kids 0).sOk = true) (dn : ao T.name = true) (cg : ∀ U : Nd, U.size < T.size → ef U) (K : IK) (w0 : World) (O : Nat → Prop) (s : CS) (cx : Cx) (ai : Nat) (w : World) (v : Value) (p : Nat) (jl : cx.outs = cx.loops + ai) (hS : IS K w0 O (ae s) cx.ret cx.loops ai w) (hE : IEnv K w) (hN : INd K w T v) (ay : s.2.length + T.size ≤ K.N) (bZ : s.1 ≠ []) (hd : s.1.length + 1 ≤ s.2.length) (qV : aN s.1 ≤ s.2.length) (gn : cx.loops + T.size ≤ 1099511627776 + 1) (gD : ai + T.size ≤ 1099511627776 + 1) :
  Calls Tryz.prog 134 #[.pointer (some ⟨K.cb, 0, none⟩), T.val v, .int .i64 p] w (kQ K w (within [] ((b7 K.F (T.kids 0)).sts cx) (ae s)) fun s1 e w1 => e = .returned (.tuple #[]) ∧ IS K w0 O s1 cx.ret cx.loops ai w1) := by
 have k_Q39_0 := kk
 exact V4
theorem MS (bL : eL) {T : Nd} (kJ : T.num = 0) (hl : T.len = 1) (hb : (T.kids 0).kind = 4) (ho : (T.kids 0).sOk = true) (dn : ao T.name = false) (cg : ∀ U : Nd, U.size < T.size → ef U) (K : IK) (w0 : World) (O : Nat → Prop) (s : CS) (cx : Cx) (ai : Nat) (w : World) (v : Value) (p : Nat) (jl : cx.outs = cx.loops + ai) (hS : IS K w0 O (ae s) cx.ret cx.loops ai w) (hE : IEnv K w) (hN : INd K w T v) (ay : s.2.length + T.size ≤ K.N) (bZ : s.1 ≠ []) (hd : s.1.length + 1 ≤ s.2.length) (qV : aN s.1 ≤ s.2.length) (gn : cx.loops + T.size ≤ 1099511627776 + 1) (gD : ai + T.size ≤ 1099511627776 + 1) :
  Calls Tryz.prog 134 #[.pointer (some ⟨K.cb, 0, none⟩), T.val v, .int .i64 p] w (kQ K w (within [(T.name, 1)] ((b7 K.F (T.kids 0)).sts cx) (ae s)) fun s1 e w1 => e = .returned (.tuple #[]) ∧ IS K w0 O s1 cx.ret cx.loops ai w1) := by
 have k_Q39_1 := kk
 exact V4
theorem MR (bL : eL) {T : Nd} (kJ : T.num = 1) (hl : T.len = 2) (dh : (T.kids 0).eOk = true) (hb : (T.kids 1).kind = 4) (ho : (T.kids 1).sOk = true) (dn : ao T.name = true) (cg : ∀ U : Nd, U.size < T.size → ef U) (K : IK) (w0 : World) (O : Nat → Prop) (s : CS) (cx : Cx) (ai : Nat) (w : World) (v : Value) (p : Nat) (jl : cx.outs = cx.loops + ai) (hS : IS K w0 O (ae s) cx.ret cx.loops ai w) (hE : IEnv K w) (hN : INd K w T v) (ay : s.2.length + T.size ≤ K.N) (bZ : s.1 ≠ []) (hd : s.1.length + 1 ≤ s.2.length) (qV : aN s.1 ≤ s.2.length) (gn : cx.loops + T.size ≤ 1099511627776 + 1) (gD : ai + T.size ≤ 1099511627776 + 1) :
  Calls Tryz.prog 134 #[.pointer (some ⟨K.cb, 0, none⟩), T.val v, .int .i64 p] w (kQ K w (CR.bind (aE (bP K.F (T.kids 0)) 3 (ae s)) (within [] ((b7 K.F (T.kids 1)).sts cx))) fun s1 e w1 => e = .returned (.tuple #[]) ∧ IS K w0 O s1 cx.ret cx.loops ai w1) := by
 have k_Q34_0 := kk
 exact V9
theorem MQ (bL : eL) {T : Nd} (kJ : T.num = 1) (hl : T.len = 2) (dh : (T.kids 0).eOk = true) (hb : (T.kids 1).kind = 4) (ho : (T.kids 1).sOk = true) (dn : ao T.name = false) (cg : ∀ U : Nd, U.size < T.size → ef U) (K : IK) (w0 : World) (O : Nat → Prop) (s : CS) (cx : Cx) (ai : Nat) (w : World) (v : Value) (p : Nat) (jl : cx.outs = cx.loops + ai) (hS : IS K w0 O (ae s) cx.ret cx.loops ai w) (hE : IEnv K w) (hN : INd K w T v) (ay : s.2.length + T.size ≤ K.N) (bZ : s.1 ≠ []) (hd : s.1.length + 1 ≤ s.2.length) (qV : aN s.1 ≤ s.2.length) (gn : cx.loops + T.size ≤ 1099511627776 + 1) (gD : ai + T.size ≤ 1099511627776 + 1) :
  Calls Tryz.prog 134 #[.pointer (some ⟨K.cb, 0, none⟩), T.val v, .int .i64 p] w (kQ K w (CR.bind (aE (bP K.F (T.kids 0)) 3 (ae s)) (within [(T.name, 1)] ((b7 K.F (T.kids 1)).sts cx))) fun s1 e w1 => e = .returned (.tuple #[]) ∧ IS K w0 O s1 cx.ret cx.loops ai w1) := by
 have k_Q34_1 := kk
 exact V9
theorem MP (bL : eL) {T : Nd} (kJ : T.num = 2) (hl : T.len = 3) (dh : (T.kids 0).eOk = true) (j5 : (T.kids 1).eOk = true) (hb : (T.kids 2).kind = 4) (ho : (T.kids 2).sOk = true) (dn : ao T.name = true) (cg : ∀ U : Nd, U.size < T.size → ef U) (K : IK) (w0 : World) (O : Nat → Prop) (s : CS) (cx : Cx) (ai : Nat) (w : World) (v : Value) (p : Nat) (jl : cx.outs = cx.loops + ai) (hS : IS K w0 O (ae s) cx.ret cx.loops ai w) (hE : IEnv K w) (hN : INd K w T v) (ay : s.2.length + T.size ≤ K.N) (bZ : s.1 ≠ []) (hd : s.1.length + 1 ≤ s.2.length) (qV : aN s.1 ≤ s.2.length) (gn : cx.loops + T.size ≤ 1099511627776 + 1) (gD : ai + T.size ≤ 1099511627776 + 1) :
  Calls Tryz.prog 134 #[.pointer (some ⟨K.cb, 0, none⟩), T.val v, .int .i64 p] w (kQ K w (CR.bind (CR.bind (aE (bP K.F (T.kids 0)) 3 (ae s)) (aE (bP K.F (T.kids 1)) 1)) (within [] ((b7 K.F (T.kids 2)).sts cx))) fun s1 e w1 => e = .returned (.tuple #[]) ∧ IS K w0 O s1 cx.ret cx.loops ai w1) := by
 have k_Q33_0 := kk
 exact Wa
theorem MO (bL : eL) {T : Nd} (kJ : T.num = 2) (hl : T.len = 3) (dh : (T.kids 0).eOk = true) (j5 : (T.kids 1).eOk = true) (hb : (T.kids 2).kind = 4) (ho : (T.kids 2).sOk = true) (dn : ao T.name = false) (cg : ∀ U : Nd, U.size < T.size → ef U) (K : IK) (w0 : World) (O : Nat → Prop) (s : CS) (cx : Cx) (ai : Nat) (w : World) (v : Value) (p : Nat) (jl : cx.outs = cx.loops + ai) (hS : IS K w0 O (ae s) cx.ret cx.loops ai w) (hE : IEnv K w) (hN : INd K w T v) (ay : s.2.length + T.size ≤ K.N) (bZ : s.1 ≠ []) (hd : s.1.length + 1 ≤ s.2.length) (qV : aN s.1 ≤ s.2.length) (gn : cx.loops + T.size ≤ 1099511627776 + 1) (gD : ai + T.size ≤ 1099511627776 + 1) :
  Calls Tryz.prog 134 #[.pointer (some ⟨K.cb, 0, none⟩), T.val v, .int .i64 p] w (kQ K w (CR.bind (CR.bind (aE (bP K.F (T.kids 0)) 3 (ae s)) (aE (bP K.F (T.kids 1)) 1)) (within [(T.name, 1)] ((b7 K.F (T.kids 2)).sts cx))) fun s1 e w1 => e = .returned (.tuple #[]) ∧ IS K w0 O s1 cx.ret cx.loops ai w1) := by
 have k_Q33_1 := kk
 exact Wa
theorem MN (bL : eL) {T : Nd} (aS : T.cOk = true) (f : Bool) (Qa : ¬ (T.num = 0 ∧ f = true)) (cg : ∀ U : Nd, U.size < T.size → ef U) (K : IK) (w0 : World) (O : Nat → Prop) (s : CS) (cx : Cx) (ai : Nat) (w : World) (v : Value) (p : Nat) (jl : cx.outs = cx.loops + ai) (hS : IS K w0 O (ae s) cx.ret cx.loops ai w) (hE : IEnv K w) (hN : INd K w T v) (ay : s.2.length + T.size ≤ K.N) (bZ : s.1 ≠ []) (hd : s.1.length + 1 ≤ s.2.length) (qV : aN s.1 ≤ s.2.length) (gn : cx.loops + T.size ≤ 1099511627776 + 1) (gD : ai + T.size ≤ 1099511627776 + 1) :
  Calls Tryz.prog 134 #[.pointer (some ⟨K.cb, 0, none⟩), T.val v, .int .i64 p] w (kQ K w ((b7 K.F T).cs f cx s) fun s1 e w1 => e = .returned (.tuple #[]) ∧ IS K w0 O s1 cx.ret cx.loops ai w1) := by
 obtain ⟨hk, hn, kL, xM⟩ := zH aS
 have dn : Ga T = if ao T.name then [] else [(T.name, 1)] := rfl
 rcases hn with ⟨h0, hl⟩ | ⟨h1, hl, dh⟩ | ⟨h2, hl, dh, j5⟩
 ·have hf : f = false := by cases f with | false => rfl | true => exact absurd ⟨h0, rfl⟩ Qa
  subst hf
  rw [Lu hk h0 hl, dn]
  rw [hl] at kL xM
  cases he : ao T.name with
  |true => exact MT bL h0 hl kL xM he cg K w0 O s cx ai w v p jl hS hE hN ay bZ hd qV gn gD
  |false => exact MS bL h0 hl kL xM he cg K w0 O s cx ai w v p jl hS hE hN ay bZ hd qV gn gD
 ·rw [Uq hk h1 hl, dn]
  rw [hl] at kL xM
  cases he : ao T.name with
  |true => exact MR bL h1 hl dh kL xM he cg K w0 O s cx ai w v p jl hS hE hN ay bZ hd qV gn gD
  |false => exact MQ bL h1 hl dh kL xM he cg K w0 O s cx ai w v p jl hS hE hN ay bZ hd qV gn gD
 ·have e2 : (b7 K.F T).cs f cx s = CR.bind (CR.bind (aE (bP K.F (T.kids 0)) 3 (ae s)) (aE (bP K.F (T.kids 1)) 1)) (within (Ga T) ((b7 K.F (T.kids 2)).sts cx)) := by
   rw [Up hk h2 hl]
   cases aE (bP K.F (T.kids 0)) 3 (ae s) <;> rfl
  rw [e2, dn]
  rw [hl] at kL xM
  cases he : ao T.name with
  |true => exact MP bL h2 hl dh j5 kL xM he cg K w0 O s cx ai w v p jl hS hE hN ay bZ hd qV gn gD
  |false => exact MO bL h2 hl dh j5 kL xM he cg K w0 O s cx ai w v p jl hS hE hN ay bZ hd qV gn gD
theorem Io (bL : eL) {T : Nd} (hk : T.kind = 15) (cg : ∀ U : Nd, U.size < T.size → ef U) (K : IK) (w0 : World) (O : Nat → Prop) (s : CS) (cx : Cx) (ai : Nat) (w : World) (v : Value) (jl : cx.outs = cx.loops + ai) (hS : IS K w0 O (ae s) cx.ret cx.loops ai w) (hE : IEnv K w) (hN : INd K w T v) (ay : s.2.length + T.size ≤ K.N) (aS : T.sOk = true) (bZ : s.1 ≠ []) (hd : s.1.length + 1 ≤ s.2.length) (gn : cx.loops + T.size ≤ 1099511627776) (gD : ai + T.size ≤ 1099511627776) :
  Calls Tryz.prog 125 #[.pointer (some ⟨K.cb, 0, none⟩), T.val v] w (kQ K w (q9 K.F T ⟨cx.ret, cx.loops, cx.outs + 1⟩ (ae s) T.len) fun s1 e w1 => e = .returned (.tuple #[]) ∧ IS K w0 O s1 cx.ret cx.loops ai w1) := by
 have Le := Dj hk aS
 have hn := T.fine_len hN.fine
 have k_Q76_0 := kk
 exact Vw
theorem RJ (bL : eL) {T : Nd} (hk : T.kind = 10) (hl : T.len = 3) (cg : ∀ U : Nd, U.size < T.size → ef U) (K : IK) (w0 : World) (O : Nat → Prop) (s : CS) (cx : Cx) (ai : Nat) (w : World) (v : Value) (jl : cx.outs = cx.loops + ai) (hS : IS K w0 O (ae s) cx.ret cx.loops ai w) (hE : IEnv K w) (hN : INd K w T v) (ay : s.2.length + T.size ≤ K.N) (aS : T.sOk = true) (bZ : s.1 ≠ []) (hd : s.1.length + 1 ≤ s.2.length) (gn : cx.loops + T.size ≤ 1099511627776) (gD : ai + T.size ≤ 1099511627776) :
  Calls Tryz.prog 122 #[.pointer (some ⟨K.cb, 0, none⟩), T.val v] w (kQ K w (CR.bind (aE (bP K.F (T.kids 0)) 2 (ae s)) fun s1 => CR.bind (within [] ((b7 K.F (T.kids 1)).sts cx) s1) ((b7 K.F (T.kids 2)).st cx)) fun s1 e w1 => e = .returned (.tuple #[]) ∧ IS K w0 O s1 cx.ret cx.loops ai w1) := by
 obtain ⟨_, dh, ⟨hb1, Bi⟩, h2⟩ := pD hk aS
 have ho2 := (h2 hl).2
 have k_Q72_1 := kk
 exact VA
theorem Ik (bL : eL) {T : Nd} (hk : T.kind = 11) (hl : T.len = 1) (ja : (T.kids 0).kind = 4) (SX : (T.kids 0).sOk = true) (cg : ∀ U : Nd, U.size < T.size → ef U) (K : IK) (w0 : World) (O : Nat → Prop) (s : CS) (cx : Cx) (ai : Nat) (w : World) (v : Value) (jl : cx.outs = cx.loops + ai) (hS : IS K w0 O (ae s) cx.ret cx.loops ai w) (hE : IEnv K w) (hN : INd K w T v) (ay : s.2.length + T.size ≤ K.N) (aS : T.sOk = true) (bZ : s.1 ≠ []) (hd : s.1.length + 1 ≤ s.2.length) (gn : cx.loops + T.size ≤ 1099511627776) (gD : ai + T.size ≤ 1099511627776) :
  Calls Tryz.prog 123 #[.pointer (some ⟨K.cb, 0, none⟩), T.val v] w (kQ K w (within [] ((b7 K.F (T.kids 0)).sts ⟨cx.ret, cx.loops + 1, cx.outs + 1⟩) (ae s)) fun s1 e w1 => e = .returned (.tuple #[]) ∧ IS K w0 O s1 cx.ret cx.loops ai w1) := by
 have QJ : Hid ((⟨cx.ret, cx.loops + 1, cx.outs + 1⟩ : Cx).outs = (⟨cx.ret, cx.loops + 1, cx.outs + 1⟩ : Cx).loops + ai) := by show cx.outs + 1 = cx.loops + 1 + ai; omega
 have k_Q60_1 := kk
 exact VM
theorem Ij (bL : eL) {T : Nd} (hk : T.kind = 11) (hl : T.len = 2) (dh : (T.kids 0).eOk = true) (hb1 : (T.kids 1).kind = 4) (Bi : (T.kids 1).sOk = true) (cg : ∀ U : Nd, U.size < T.size → ef U) (K : IK) (w0 : World) (O : Nat → Prop) (s : CS) (cx : Cx) (ai : Nat) (w : World) (v : Value) (jl : cx.outs = cx.loops + ai) (hS : IS K w0 O (ae s) cx.ret cx.loops ai w) (hE : IEnv K w) (hN : INd K w T v) (ay : s.2.length + T.size ≤ K.N) (aS : T.sOk = true) (bZ : s.1 ≠ []) (hd : s.1.length + 1 ≤ s.2.length) (gn : cx.loops + T.size ≤ 1099511627776) (gD : ai + T.size ≤ 1099511627776) :
  Calls Tryz.prog 123 #[.pointer (some ⟨K.cb, 0, none⟩), T.val v] w (kQ K w (CR.bind (aE (bP K.F (T.kids 0)) 2 (ae s)) fun s1 => within [] ((b7 K.F (T.kids 1)).sts ⟨cx.ret, cx.loops + 1, cx.outs + 1⟩) s1) fun s1 e w1 => e = .returned (.tuple #[]) ∧ IS K w0 O s1 cx.ret cx.loops ai w1) := by
 have QJ : Hid ((⟨cx.ret, cx.loops + 1, cx.outs + 1⟩ : Cx).outs = (⟨cx.ret, cx.loops + 1, cx.outs + 1⟩ : Cx).loops + ai) := by show cx.outs + 1 = cx.loops + 1 + ai; omega
 have k_Q75_0 := kk
 exact Vx
theorem MK {T : Nd} (hk : T.kind = 12) (K : IK) (w0 : World) (O : Nat → Prop) (s : CS) (cx : Cx) (ai : Nat) (w : World) (v : Value) (p : Nat) (hS : IS K w0 O s cx.ret cx.loops ai w) (hN : INd K w T v) (hl : T.len = 0 ∨ T.len = 1) (tt : decide (0 < T.len) ≠ decide (cx.ret ≠ 0)) :
  Calls Tryz.prog 124 #[.pointer (some ⟨K.cb, 0, none⟩), T.val v, .int .i64 p] w fun e w1 => e = .panicked [{ v := q6 (9, p), recovered := false }] ∧ Below K.lo w w1 := by
 obtain ⟨a, cap, hv, cr, hq⟩ := aH.1 hN.row
 subst hv
 obtain ⟨n4, n7, n8, NY, NV⟩ := (hS.alloc (.cells #[.int .i64 T.kind, .int .i64 T.num, .string T.name, .slice a T.len cap] 25)).nums
 have HB := aa (hS.box (.cells #[.int .i64 T.kind, .int .i64 T.num, .string T.name, .slice a T.len cap] 25))
 have hn := T.fine_len hN.fine
 have fy : K.lo ≤ w.heap.size := by have := hS.lt; have := hS.ok.cl; omega
 unfold Nd.val
 have K0 : (T.len = 1 ∧ cx.ret = 0) ∨ (T.len = 0 ∧ cx.ret ≠ 0) := by
  rcases hl with h | h
  ·rw [h] at tt; right; refine ⟨h, fun e => tt ?_⟩; rw [e]; rfl
  ·rw [h] at tt; left; refine ⟨h, Classical.byContradiction fun e => tt ?_⟩
   rw [decide_eq_true (show 0 < 1 by omega), decide_eq_true e]
 clear hS hN hq hl tt hk
 rcases K0 with ⟨h1, h2⟩ | ⟨h1, h2⟩
 ·have e1 : ((T.len : Int) == 1) = true := beq_iff_eq.2 (by omega)
  have e2 : (cx.ret == 0) = true := beq_iff_eq.2 h2
  have e3 : (cx.ret != 0) = false := by simp only [bne, e2]; rfl
  exact Wi
 ·have e1 : ((T.len : Int) == 1) = false := bn (by omega)
  have e2 : (cx.ret == 0) = false := bn h2
  have e3 : (cx.ret != 0) = true := by simp only [bne, e2]; rfl
  exact Wi
theorem MJ (bL : eL) {T : Nd} (hk : T.kind = 12) (K : IK) (w0 : World) (O : Nat → Prop) (s : CS) (cx : Cx) (ai : Nat) (w : World) (v : Value) (p : Nat) (hS : IS K w0 O (ae s) cx.ret cx.loops ai w) (hE : IEnv K w) (hN : INd K w T v) (ay : s.2.length + T.size ≤ K.N) (he : ∀ i, i < T.len → (T.kids i).eOk = true) (K0 : (T.len = 1 ∧ cx.ret ≠ 0) ∨ (T.len = 0 ∧ cx.ret = 0)) :
  Calls Tryz.prog 124 #[.pointer (some ⟨K.cb, 0, none⟩), T.val v, .int .i64 p] w (kQ K w (forN (fun i => aE (bP K.F (T.kids i)) cx.ret) T.len (ae s)) fun s1 e w1 => e = .returned (.tuple #[]) ∧ IS K w0 O s1 cx.ret cx.loops ai w1) := by
 have k_Q63_0 := kk
 exact VJ
theorem RD (bL : eL) {T : Nd} (hk : T.kind = 7) : ef T := by
 have k_Q90_0 := kk
 exact oW
theorem Ii (bL : eL) {T : Nd} (hk : T.kind = 10) (hl : T.len = 2) (cg : ∀ U : Nd, U.size < T.size → ef U) : ef T := by
 have k_Q90_1 := kk
 exact oW
theorem Ih (bL : eL) {T : Nd} (hk : T.kind = 10) (hl : T.len = 3) (cg : ∀ U : Nd, U.size < T.size → ef U) : ef T := by
 have k_Q90_2 := kk
 exact oW
theorem Ig (bL : eL) {T : Nd} (hk : T.kind = 11) (hl : T.len = 1) (ja : (T.kids 0).kind = 4) (SX : (T.kids 0).sOk = true) (cg : ∀ U : Nd, U.size < T.size → ef U) : ef T := by
 have k_Q90_3 := kk
 exact oW
theorem If (bL : eL) {T : Nd} (hk : T.kind = 11) (hl : T.len = 2) (dh : (T.kids 0).eOk = true) (hb1 : (T.kids 1).kind = 4) (Bi : (T.kids 1).sOk = true) (cg : ∀ U : Nd, U.size < T.size → ef U) : ef T := by
 have k_Q90_4 := kk
 exact oW
theorem MF (bL : eL) {T : Nd} (hk : T.kind = 15) (cg : ∀ U : Nd, U.size < T.size → ef U) : ef T := by
 have k_Q90_5 := kk
 exact oW
theorem MC (bL : eL) {T : Nd} (hk : T.kind = 19) : ef T := by
 have k_Q85_0 := kk
 exact BP
theorem MA (bL : eL) {T : Nd} (hk : T.kind = 21) : ef T := by
 have k_Q85_1 := kk
 exact BP
theorem MB (bL : eL) {T : Nd} (hk : T.kind = 20) : ef T := by
 have k_Q85_2 := kk
 exact BP
theorem Rz (bL : eL) {T : Nd} (hk : T.kind = 9) : ef T := by
 exact bQ0
theorem MH (bL : eL) {T : Nd} (hk : T.kind = 13) : ef T := by
 exact bQ0
theorem MG (bL : eL) {T : Nd} (hk : T.kind = 14) : ef T := by
 exact bQ0
theorem MD (bL : eL) {T : Nd} (hk : T.kind = 18) : ef T := by
 have k_Q90_6 := kk
 exact oW
theorem ME (bL : eL) {T : Nd} (hk : T.kind = 17) : ef T := by
 have k_Q90_7 := kk
 exact oW
theorem MI (bL : eL) {T : Nd} (hk : T.kind = 12) : ef T := by
 have k_Q90_8 := kk
 exact oW
theorem RG (bL : eL) {T : Nd} (hk : T.kind = 4) (cg : ∀ U : Nd, U.size < T.size → ef U) : ef T := by
 have k_Q90_9 := kk
 exact oW
theorem RC (bL : eL) {T : Nd} (hk : T.kind = 8) : ef T := by
 have k_Q90_10 := kk
 exact oW
theorem RF (bL : eL) {T : Nd} (hk : T.kind = 5) : ef T := by
 have k_Q85_3 := kk
 exact BP
theorem RE (bL : eL) {T : Nd} (hk : T.kind = 6) : ef T := by
 have k_Q85_4 := kk
 exact BP
theorem Ie (bL : eL) {T : Nd} (cg : ∀ U : Nd, U.size < T.size → ef U) : ef T := by
 intro K w0 O s cx ai w v jl hS hE hN ay aS bZ hd gn gD
 have go : ∀ h : ef T, _ := fun h => h K w0 O s cx ai w v jl hS hE hN ay aS bZ hd gn gD
 rcases sN aS with h | h | h | h | h | h | h | h | h | h | h | h | h | h | h | h | h
 ·exact go (RG bL h cg)
 ·exact go (RF bL h)
 ·exact go (RE bL h)
 ·exact go (RD bL h)
 ·exact go (RC bL h)
 ·exact go (Rz bL h)
 ·rcases (pD h aS).1 with hl | hl
  ·exact go (Ii bL h hl cg)
  ·exact go (Ih bL h hl cg)
 ·rcases Dl h aS with ⟨hl, hb⟩ | ⟨hl, he, hb⟩
  ·exact go (Ig bL h hl hb.1 hb.2 cg)
  ·exact go (If bL h hl he hb.1 hb.2 cg)
 ·exact go (MI bL h)
 ·exact go (MH bL h)
 ·exact go (MG bL h)
 ·exact go (MF bL h cg)
 ·exact go (ME bL h)
 ·exact go (MD bL h)
 ·exact go (MC bL h)
 ·exact go (MB bL h)
 ·exact go (MA bL h)
theorem A6 (bL : eL) : ∀ T : Nd, ef T := by
 have h : ∀ n : Nat, ∀ T : Nd, T.size ≤ n → ef T := by
  intro n
  induction n with
  |zero => intro T hT; have := T.size_eq; omega
  |succ n ih => intro T hT; exact Ie bL fun U hU => ih U (by omega)
 exact fun T => h _ T lr
end Go.Proofs.YteaocammohcgoaaGreatDoor
