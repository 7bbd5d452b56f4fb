import Derived.Test.YteaocammohcgoaaGreatDoorQKfC
set_option linter.unusedVariables false
set_option maxHeartbeats 16000000
set_option maxRecDepth 100000
namespace Go.Proofs.YteaocammohcgoaaGreatDoor
open Go.RowKit
variable {G : Prop}
theorem bV0 (h : G := by
 have k_5 := kk
 exact Bq) : G := h
theorem bV1 (h : G := by
 have HM := aa hM
 clear hM
 go_enter Tryz.func104, Tryz.ntmps104
 go_wp2_with (first
  |(go_at_call 69; refine iA.out.mono ?_; rintro e w1 ⟨rfl, az⟩; obtain ⟨b0, b1, b2, b3⟩ := ai (cJ.out _ _ _ _ _ az); obtain ⟨eD, eC, eB, eA⟩ := dH.out _ (bz.out _ _ _ _ _ az); have bb := aa az; clear az)
  |(go_at_call 117; refine (cq (HC.out _ bb.out) HM.out).mono ?_; rintro e w2 ⟨rfl, aD⟩; have bM := aa aD; clear aD))
 go_end0
 exact ⟨rfl, fc.out _ _ _ _ _ bM.out⟩) : G := h
theorem bV2 (h : G := by
 have HM := aa hM
 clear hM
 go_enter Tryz.func104, Tryz.ntmps104
 go_wp2_with (first
  |(go_at_call 69; refine iA.out.mono ?_; rintro e w1 ⟨rfl, az⟩; obtain ⟨b0, b1, b2, b3⟩ := ai (cJ.out _ _ _ _ _ az); obtain ⟨eD, eC, eB, eA⟩ := dH.out _ (bz.out _ _ _ _ _ az); have bb := aa az; clear az)
  |(go_at_call 117; refine (dq (HC.out _ bb.out) HM.out).mono ?_; rintro e w2 ⟨rfl, hb2⟩; skip))
 exact bV6) : G := h
theorem bV3 (h : G := by
 refine hK.out _ _ ⟨b2, b3, eD, eC, eB, eA⟩ (fun xx => ?_)
 refine wpAnyH_done (by kernel_rfl) ?_ _
 go_wp2
 go_end0
 exact ⟨rfl, fc.out _ _ _ _ _ fa.out⟩) : G := h
theorem FL (h : G := by
 intro W hW
 obtain ⟨x0, x1, x2, x3, x4, x5⟩ := hW
 go_simp
 with_reducible rfl) : G := h
theorem bV5 (h : G := by
 exact ⟨rfl, rfl, (bz.out _ _ _ _ _ bb.out.drew).trans hb2⟩) : G := h
theorem bV6 (h : G := by
 exact ⟨rfl, rfl, (bz.out _ _ _ _ _ bb.out).trans hb2⟩) : G := h
theorem bV7 (h : G := by
 have k_0 := kk
 exact TN) : G := h
theorem bV8 (h : G := by
 have k_1 := kk
 exact TN) : G := h
theorem bV9 (h : G := by
 have k_0 := kk
 exact TM) : G := h
theorem TN (h : G := by
 have qP := aa Bb
 clear Bb
 have k_1 := kk
 exact TM) : G := h
theorem TM (h : G := by
 go_enter Tryz.func104, Tryz.ntmps104
 go_wp2_with (first
  |(go_at_call 69; refine iA.out.mono ?_; rintro e w1 ⟨rfl, az⟩; obtain ⟨b0, b1, b2, b3⟩ := ai (cJ.out _ _ _ _ _ az); obtain ⟨eD, eC, eB, eA⟩ := dH.out _ (bz.out _ _ _ _ _ az); have bb := aa az; clear az))
 refine wp_region_held_drew (S := (fun W => W.cell? ⟨w.heap.size, 2, none⟩ = some (.string T.name) ∧ W.cell? ⟨w.heap.size, 3, none⟩ = some (.slice (some ⟨g, off, none⟩) T.len cap) ∧ W.cell? ⟨g, off, none⟩ = some (.int .i64 (T.kids 0).kind) ∧ W.cell? ⟨g, off + 1, none⟩ = some (.int .i64 (T.kids 0).num) ∧ W.cell? ⟨g, off + 2, none⟩ = some (.string (T.kids 0).name) ∧ W.cell? ⟨g, off + 3, none⟩ = some (.slice a0 (T.kids 0).len q0))) bI ?_ (fun eK => ?_)
 ·exact ⟨b2, b3, eD, eC, eB, eA⟩
 refine wpAnyH_take (i := 0) (v := ?_) rfl (by kernel_rfl) (by kernel_rfl) (by kernel_rfl) (fun _ _ _ h => h) (Or.inl ⟨by rfl, ?_⟩) eK ?_
 rotate_left
 ·exact FL
 simp only [Act.put, List.setIfInBounds_toArray]
 refine wpAnyH_take (i := 1) (v := ?_) rfl (by kernel_rfl) (by kernel_rfl) (by kernel_rfl) (fun _ _ _ h => h) (Or.inl ⟨by rfl, ?_⟩) eK ?_
 rotate_left
 ·exact FL
 simp only [Act.put]
 refine wpAnyH_take (i := 2) (v := ?_) rfl (by kernel_rfl) (by kernel_rfl) (by kernel_rfl) (fun _ _ _ h => h) (Or.inl ⟨by rfl, ?_⟩) eK ?_
 rotate_left
 ·exact FL
 simp only [Act.put]
 refine wpAnyH_take (i := 3) (v := ?_) rfl (by kernel_rfl) (by kernel_rfl) (by kernel_rfl) (fun _ _ _ h => h) (Or.inl ⟨by rfl, ?_⟩) eK ?_
 rotate_left
 ·exact FL
 simp only [Act.put]
 refine wpAnyH_take (i := 4) (v := ?_) rfl (by kernel_rfl) (by kernel_rfl) (by kernel_rfl) (fun _ _ _ h => h) (Or.inl ⟨by rfl, ?_⟩) eK ?_
 rotate_left
 ·exact FL
 simp only [Act.put]
 refine wpAnyH_take (i := 5) (v := ?_) rfl (by kernel_rfl) (by kernel_rfl) (by kernel_rfl) (fun _ _ _ h => h) (Or.inl ⟨by rfl, ?_⟩) eK ?_
 rotate_left
 ·exact FL
 simp only [Act.put]
 refine wpAnyH_take (i := 6) (v := ?_) rfl (by kernel_rfl) (by kernel_rfl) (by kernel_rfl) (fun _ _ _ h => h) (Or.inl ⟨by rfl, ?_⟩) eK ?_
 rotate_left
 ·exact FL
 simp only [Act.put]
 refine wpAnyH_take (i := 7) (v := ?_) rfl (by kernel_rfl) (by kernel_rfl) (by kernel_rfl) (fun _ _ _ h => h) (Or.inl ⟨by rfl, ?_⟩) eK ?_
 rotate_left
 ·exact FL
 simp only [Act.put]
 first
 |clear k_0
  first
  |clear k_0
   have k_0 := kk
   exact TI
  |clear k_1
   have k_0 := kk
   exact TH
 |clear k_1
  first
  |clear k_0
   have k_1 := kk
   exact TI
  |clear k_1
   have k_1 := kk
   exact TH) : G := h
theorem TL (h : G := by
 have k_0 := kk
 exact TG) : G := h
theorem I4 (h : G := by
 have k_0 := kk
 exact TC) : G := h
theorem TK (h : G := by
 have k_1 := kk
 exact TF) : G := h
theorem I3 (h : G := by
 have k_2 := kk
 exact TJ) : G := h
theorem Nh (h : G := by
 have HM := aa hM
 clear hM
 go_enter Tryz.func104, Tryz.ntmps104
 go_wp2_with (first
  |(go_at_call 69; refine iA.out.mono ?_; rintro e w1 ⟨rfl, az⟩; obtain ⟨b0, b1, b2, b3⟩ := ai (cJ.out _ _ _ _ _ az); obtain ⟨eD, eC, eB, eA⟩ := dH.out _ (bz.out _ _ _ _ _ az); obtain ⟨gG, gB, gE, gA⟩ := fD.out _ (bz.out _ _ _ _ _ az); have bb := aa az; clear az))
 go_still_tail 9, bI
 first
 |clear k_0
  go_wp2_with (first
   |(go_at_call 120; refine (dq (FN.out _ bb.out.drew) HM.out).mono ?_; rintro e w2 ⟨rfl, hb2⟩; skip))
  exact bV5
 |clear k_1
  go_wp2_with (first
   |(go_at_call 120; refine (cq (FN.out _ bb.out.drew) HM.out).mono ?_; rintro e w2 ⟨rfl, aD⟩; have bM := aa aD; clear aD))
  go_end0
  exact ⟨rfl, fc.out _ _ _ _ _ bM.out⟩) : G := h
theorem TJ (h : G := by
 have k_0 := kk
 exact TE) : G := h
theorem TI (h : G := by
 refine wpAnyH_take (i := 9) (v := ?_) rfl (by kernel_rfl) (by kernel_rfl) (by kernel_rfl) (fun _ _ _ h => h) (Or.inl ⟨by rfl, ?_⟩) eK ?_
 rotate_left
 ·exact FL
 simp only [Act.put]
 refine wpAnyH_ready (rs := [8]) (by kernel_rfl) (by simp) ?_
 refine AllReadyH.cons rfl (fun K' hK => ?_) AllReadyH.nil
 rw [if_pos (by rfl)]
 first
 |clear k_0
  go_wp2_with (go_at_call 116; refine (dq (HV.out _ bb.out.drew) HM.out).mono ?_; rintro e w2 ⟨rfl, hb2⟩; skip)
  exact bV5
 |clear k_1
  go_wp2_with (go_at_call 116; refine (cq (HV.out _ bb.out.drew) HM.out).mono ?_; rintro e w2 ⟨rfl, aD⟩; obtain ⟨b0, b1, b2, b3⟩ := ai (cJ.out _ _ _ _ _ aD); obtain ⟨eD, eC, eB, eA⟩ := dH.out _ (bz.out _ _ _ _ _ aD); have bM := aa aD; clear aD)
  have k_0 := kk
  exact TD) : G := h
theorem TH (h : G := by
 refine wpAnyH_take (i := 8) (v := ?_) rfl (by kernel_rfl) (by kernel_rfl) (by kernel_rfl) (fun _ _ _ h => h) (Or.inl ⟨by rfl, ?_⟩) eK ?_
 rotate_left
 ·exact FL
 simp only [Act.put]
 refine wpAnyH_ready (rs := [9]) (by kernel_rfl) (by simp) ?_
 refine AllReadyH.cons rfl (fun K' hK => ?_) AllReadyH.nil
 rw [if_pos (by rfl)]
 first
 |clear k_0
  go_wp2_with (go_at_call 118; refine (dq (HV.out _ bb.out.drew) rfl).mono ?_; rintro e w2 ⟨rfl, hb2⟩; skip)
  exact bV5
 |clear k_1
  go_wp2_with (go_at_call 118; refine (cq (HV.out _ bb.out.drew) rfl).mono ?_; rintro e w2 ⟨rfl, aD⟩; obtain ⟨b0, b1, b2, b3⟩ := ai (cJ.out _ _ _ _ _ aD); obtain ⟨eD, eC, eB, eA⟩ := dH.out _ (bz.out _ _ _ _ _ aD); have bM := aa aD; clear aD)
  have k_1 := kk
  exact TD) : G := h
theorem TG (h : G := by
 have k_1 := kk
 exact TC) : G := h
theorem TF (h : G := by
 obtain ⟨O1, az, aW, bp, aS⟩ := hS.boxed (.cells #[.int .i64 T.kind, .int .i64 T.num, .string T.name, .slice (some ⟨g, off, none⟩) T.len cap] 25)
 have cJ := aa bp
 have bz := aa aS
 have fc := aa aW
 have iA := aa (ia az (by omega))
 have fe : K.lo ≤ w.heap.size := by have := hS.lt; have := hS.ok.cl; omega
 have dm := hS.ok.few
 first
 |clear k_0
  have iC := aa (fJ aq (i := 0) (by omega))
  first
  |clear k_0
   have HC := aa (fun (W : World) (hW : IS K (w.alloc (.cells #[.int .i64 T.kind, .int .i64 T.num, .string T.name, .slice (some ⟨g, off, none⟩) T.len cap] 25)) O1 (ab s) cx.ret cx.loops ag W) => dV (ej bE (T.kids 0)) K _ O1 (ab s) cx.ret cx.loops ag W u0 3 hW (hE.later (aS _ _ _ _ _ hW)) ((hN.kid (by omega) dE).later (aS _ _ _ _ _ hW)) iC.out cX)
   have k_0 := kk
   exact I3
  |clear k_1
   have HC := aa (fun (W : World) (hW : IS K (w.alloc (.cells #[.int .i64 T.kind, .int .i64 T.num, .string T.name, .slice (some ⟨g, off, none⟩) T.len cap] 25)) O1 (ab s) cx.ret cx.loops ag W) => dV (ej bE (T.kids 0)) K _ O1 (ab s) cx.ret cx.loops ag W u0 1 hW (hE.later (aS _ _ _ _ _ hW)) ((hN.kid (by omega) dE).later (aS _ _ _ _ _ hW)) iC.out cX)
   have k_1 := kk
   exact I3
  |clear k_2
   have HC := aa (fun (W : World) (hW : IS K (w.alloc (.cells #[.int .i64 T.kind, .int .i64 T.num, .string T.name, .slice (some ⟨g, off, none⟩) T.len cap] 25)) O1 (ab s) cx.ret cx.loops ag W) => AL bE K _ O1 (ab s) cx.ret cx.loops ag W u0 hW (hE.later (aS _ _ _ _ _ hW)) ((hN.kid (by omega) dE).later (aS _ _ _ _ _ hW)) iC.out cX)
   have k_2 := kk
   exact I3
  |clear k_3
   have HC := aa (fun (W : World) (hW : IS K (w.alloc (.cells #[.int .i64 T.kind, .int .i64 T.num, .string T.name, .slice (some ⟨g, off, none⟩) T.len cap] 25)) O1 (ab s) cx.ret cx.loops ag W) => ej bE (T.kids 0) K _ O1 (ab s) cx.ret cx.loops ag W u0 hW (hE.later (aS _ _ _ _ _ hW)) ((hN.kid (by omega) dE).later (aS _ _ _ _ _ hW)) iC.out cX)
   have k_3 := kk
   exact I3
 |clear k_1
  have O6 := aa (hN.kid (i := 0) (by omega) dE)
  first
  |clear k_0
   have iC := aa (fJ aq (i := 0) (by omega))
   have qA := aa (fK hN.fine)
   first
   |clear k_0
    have HV := aa (fun (W : World) (hW : IS K (w.alloc (.cells #[.int .i64 T.kind, .int .i64 T.num, .string T.name, .slice (some ⟨g, off, none⟩) T.len cap] 25)) O1 (ab s) cx.ret cx.loops ag W) => jP (ej bE (T.kids 0)) K _ O1 (ab s) cx.ret cx.loops ag W _ hW (hE.later (aS _ _ _ _ _ hW)) (O6.out.later (aS _ _ _ _ _ hW)) iC.out cX)
    have BZ := aa (fun (W : World) (st : CS) (ty : Int) (hW : IS K (w.alloc (.cells #[.int .i64 T.kind, .int .i64 T.num, .string T.name, .slice (some ⟨g, off, none⟩) T.len cap] 25)) O1 st cx.ret cx.loops ag W) (h1 : st.1 ≠ []) (h2 : ty ≠ 0) (h4 : aO st.1 + 1 ≤ st.2.length) => fA hW T.name ty s.2.length h1 h2 qA.out h4)
    have HX : Hid (∀ r, cE (bL K.F (T.kids 0)) (ab s) = .ok r → r.2.1 ≠ [] ∧ r.1 ≠ 0 ∧ aO r.2.1 + 1 ≤ r.2.2.length) := by
     intro r h
     obtain ⟨x1, x2⟩ := (eh K.F _ cX).value _ _ _ h
     have := hS.len.vars
     rw [aP] at x2
     have e1 : r.2.1 = s.1 := x1
     exact ⟨by rw [e1]; exact bh, (gR h).2, by rw [e1]; omega⟩
    have bI := jz
    have k_0 := kk
    exact TJ
   |clear k_1
    have HW := aa (fun (W : World) (ty : Int) (hW : IS K (w.alloc (.cells #[.int .i64 T.kind, .int .i64 T.num, .string T.name, .slice (some ⟨g, off, none⟩) T.len cap] 25)) O1 (ab s) cx.ret cx.loops ag W) => dV (ej bE (T.kids 0)) K _ O1 (ab s) cx.ret cx.loops ag W _ ty hW (hE.later (aS _ _ _ _ _ hW)) (O6.out.later (aS _ _ _ _ _ hW)) iC.out cX)
    have HV := aa (fun (W : World) (hW : IS K (w.alloc (.cells #[.int .i64 T.kind, .int .i64 T.num, .string T.name, .slice (some ⟨g, off, none⟩) T.len cap] 25)) O1 (ab s) cx.ret cx.loops ag W) => bE K _ O1 (ab s) cx.ret cx.loops ag W T.name s.2.length hW qA.out)
    have bI := jz
    rw [show (ab s).1 = s.1 from rfl] at HV
    have k_1 := kk
    exact TJ
  |clear k_1
   have HN1 := aa (hN.kid (i := 1) (by omega) fG)
   have iC : Hid ((ab s).2.length + ((T.kids 0).size + (T.kids 1).size) ≤ K.N) := by
    have := bP T s.2.length (i := 1) (by omega)
    unfold aV at this; simp only [aw] at this
    unfold Hid; rw [aP]; omega
   have FN := aa (fun (W : World) (hW : IS K (w.alloc (.cells #[.int .i64 T.kind, .int .i64 T.num, .string T.name, .slice (some ⟨g, off, none⟩) T.len cap] 25)) O1 (ab s) cx.ret cx.loops ag W) => uw bE (A := T.kids 0) (B := T.kids 1) K _ O1 (ab s) cx.ret cx.loops ag W _ _ hW (hE.later (aS _ _ _ _ _ hW)) (O6.out.later (aS _ _ _ _ _ hW)) (HN1.out.later (aS _ _ _ _ _ hW)) iC.out cX jB)
   have bI := jz
   have k_1 := kk
   exact TE) : G := h
theorem TE (h : G := by
 unfold Nd.val at *
 have fO : g < w.heap.size := by omega
 have A0 : g < w.heap.size + 1 := by omega
 have AZ : g < w.heap.size + 1 + 1 := by omega
 have Ie : ¬ g = w.heap.size := by omega
 have A5 : ¬ g = w.heap.size + 1 := by omega
 have A4 : ¬ g = w.heap.size + 1 + 1 := by omega
 obtain ⟨eD, eC, eB, eA⟩ := dH.out w (Below.refl _ _)
 first
 |clear k_0
  have gh : 0 < T.len := by omega
  first
  |clear k_0
   rw [hk] at HV BZ cJ bz fc iA ⊢
   clear hS hE hN az aW bp aS aQ eT dE aN hk hl aM aq bh hd cX
   cases hM : cE (bL K.F (T.kids 0)) (ab s) with
   |error p =>
    have HM := aa hM
    clear hM
    rw [CR.bind_error]
    have k_0 := kk
    exact bV9
   |ok r =>
    obtain ⟨dJ, ft, mF⟩ := HX.out _ hM
    obtain ⟨ty, s1⟩ := r
    have HM := aa hM
    have l6 := aa dJ
    have ly := aa ft
    have vL := aa mF
    clear hM dJ ft mF
    rw [CR.bind_ok]
    dsimp only at *
    cases Bb : ij s1 T.name ty s.2.length with
    |error p =>
     have k_0 := kk
     exact bV7
    |ok s2 =>
     have k_1 := kk
     exact bV7
  |clear k_1
   rw [hk] at HW HV cJ bz fc iA ⊢
   clear hS hE hN az aW bp aS aQ eT dE aN hk hl aM aq bh hd cX
   generalize look s.1 T.name = ty at *
   by_cases h0 : ty = 0
   ·rw [if_pos h0]
    simp only [if_pos h0] at HV
    clear h0
    have k_1 := kk
    exact bV9
   ·rw [if_neg h0]
    simp only [if_neg h0] at HV
    clear h0
    cases Bb : aC (bL K.F (T.kids 0)) ty (ab s) with
    |error p =>
     have k_0 := kk
     exact bV8
    |ok s2 =>
     have k_1 := kk
     exact bV8
  |clear k_2
   rw [hk] at HC cJ bz fc iA ⊢
   clear hS hE hN az aW bp aS aQ eT dE aN hk hl aM aq bh hd cX
   first
   |clear k_0
    cases hM : aC (bL K.F (T.kids 0)) 3 (ab s) with
    |error p =>
     exact bV2
    |ok s1 =>
     exact bV1
   |clear k_1
    cases hM : aC (bL K.F (T.kids 0)) 1 (ab s) with
    |error p =>
     exact bV2
    |ok s1 =>
     exact bV1
   |clear k_2
    cases hM : CR.bind (cE (bL K.F (T.kids 0)) (ab s)) fun r => if r.1 = 3 then .error (7, (ab s).2.length) else .ok r.2 with
    |error p =>
     have HM := aa hM
     clear hM
     go_enter Tryz.func104, Tryz.ntmps104
     go_wp2_with (first
      |(go_at_call 69; refine iA.out.mono ?_; rintro e w1 ⟨rfl, az⟩; obtain ⟨b0, b1, b2, b3⟩ := ai (cJ.out _ _ _ _ _ az); obtain ⟨eD, eC, eB, eA⟩ := dH.out _ (bz.out _ _ _ _ _ az); have bb := aa az; clear az)
      |(go_at_call 127; refine (dq (HC.out _ bb.out) HM.out).mono ?_; rintro e w2 ⟨rfl, hb2⟩; skip))
     exact bV6
    |ok s1 =>
     have HM := aa hM
     clear hM
     go_enter Tryz.func104, Tryz.ntmps104
     go_wp2_with (first
      |(go_at_call 69; refine iA.out.mono ?_; rintro e w1 ⟨rfl, az⟩; obtain ⟨b0, b1, b2, b3⟩ := ai (cJ.out _ _ _ _ _ az); obtain ⟨eD, eC, eB, eA⟩ := dH.out _ (bz.out _ _ _ _ _ az); have bb := aa az; clear az)
      |(go_at_call 127; refine (cq (HC.out _ bb.out) HM.out).mono ?_; rintro e w2 ⟨rfl, aD⟩; have bM := aa aD; clear aD))
     go_end0
     exact ⟨rfl, fc.out _ _ _ _ _ bM.out⟩
   |clear k_3
    cases hM : bL K.F (T.kids 0) (ab s) with
    |error p =>
     have HM := aa hM
     clear hM
     rw [CR.bind_error]
     go_enter Tryz.func104, Tryz.ntmps104
     go_wp2_with (first
      |(go_at_call 69; refine iA.out.mono ?_; rintro e w1 ⟨rfl, az⟩; obtain ⟨b0, b1, b2, b3⟩ := ai (cJ.out _ _ _ _ _ az); obtain ⟨eD, eC, eB, eA⟩ := dH.out _ (bz.out _ _ _ _ _ az); have bb := aa az; clear az)
      |(go_at_call 121; refine (dq (HC.out _ bb.out) HM.out).mono ?_; rintro e w2 ⟨rfl, hb2⟩; skip))
     exact bV6
    |ok s1 =>
     have HM := aa hM
     clear hM
     rw [CR.bind_ok]
     go_enter Tryz.func104, Tryz.ntmps104
     go_wp2_with (first
      |(go_at_call 69; refine iA.out.mono ?_; rintro e w1 ⟨rfl, az⟩; obtain ⟨b0, b1, b2, b3⟩ := ai (cJ.out _ _ _ _ _ az); obtain ⟨eD, eC, eB, eA⟩ := dH.out _ (bz.out _ _ _ _ _ az); have bb := aa az; clear az)
      |(go_at_call 121; refine (cq (HC.out _ bb.out) HM.out).mono ?_; rintro e w2 ⟨rfl, aD⟩; have bM := aa aD; clear aD))
     go_end0
     exact ⟨rfl, fc.out _ _ _ _ _ bM.out⟩
 |clear k_1
  obtain ⟨gG, gB, gE, gA⟩ := fD.out w (Below.refl _ _)
  have gh : 0 < T.len := by omega
  have np : (1 : Int) < (T.len : Int) := by omega
  have j8 : 1 < T.len := by omega
  rw [hk] at FN cJ bz fc iA ⊢
  clear hS hE hN az aW bp aS aQ eT dE ed fG aN hk hl aM aq bh hd cX jB
  cases hM : CR.bind (aC (bL K.F (T.kids 0)) 3 (ab s)) (aC (bL K.F (T.kids 1)) 1) with
  |error p =>
   have k_0 := kk
   exact Nh
  |ok s1 =>
   have k_1 := kk
   exact Nh) : G := h
theorem TD (h : G := by
 refine hK.out _ _ ⟨b2, b3, eD, eC, eB, eA⟩ (fun sZ => ?_)
 refine wpAnyH_ready (rs := [10]) (by kernel_rfl) (by simp) ?_
 refine AllReadyH.cons rfl (fun K' hK => ?_) AllReadyH.nil
 rw [if_pos (by rfl)]
 first
 |clear k_0
  first
  |clear k_0
   go_wp2_with (go_at_call 91; refine (dq (BZ.out _ _ _ bM.out l6.out ly.out vL.out) qP.out).mono ?_; rintro e w3 ⟨rfl, hb3⟩; skip)
   exact ⟨rfl, rfl, (bz.out _ _ _ _ _ bM.out).trans hb3⟩
  |clear k_1
   go_wp2_with (go_at_call 91; refine (cq (BZ.out _ _ _ bM.out l6.out ly.out vL.out) qP.out).mono ?_; rintro e w3 ⟨rfl, bW⟩; obtain ⟨b0, b1, b2, b3⟩ := ai (cJ.out _ _ _ _ _ bW); obtain ⟨eD, eC, eB, eA⟩ := dH.out _ (bz.out _ _ _ _ _ bW); have fa := aa bW; clear bW)
   exact bV3
 |clear k_1
  first
  |clear k_0
   go_wp2_with (go_at_call 117; refine (dq (HW.out _ _ bM.out) qP.out).mono ?_; rintro e w3 ⟨rfl, hb3⟩; skip)
   exact ⟨rfl, rfl, (bz.out _ _ _ _ _ bM.out).trans hb3⟩
  |clear k_1
   go_wp2_with (go_at_call 117; refine (cq (HW.out _ _ bM.out) qP.out).mono ?_; rintro e w3 ⟨rfl, bW⟩; obtain ⟨b0, b1, b2, b3⟩ := ai (cJ.out _ _ _ _ _ bW); obtain ⟨eD, eC, eB, eA⟩ := dH.out _ (bz.out _ _ _ _ _ bW); have fa := aa bW; clear bW)
   exact bV3) : G := h
theorem TC (h : G := by
 rw [aM]
 obtain ⟨g, off, cap, hv, iW, b7, aQ⟩ := cN hN.row (by omega)
 subst hv
 obtain ⟨u0, eT, dE⟩ := aQ 0 (by omega)
 simp only [Nat.zero_mul, Nat.add_zero] at eT
 first
 |clear k_0
  have dH := aa eT
  have k_0 := kk
  exact TF
 |clear k_1
  obtain ⟨a0, q0, J4, RK, D0⟩ := ar.1 dE
  clear D0
  subst J4
  have dH := aa eT
  first
  |clear k_0
   have k_0 := kk
   exact TK
  |clear k_1
   obtain ⟨u1, ed, fG⟩ := aQ 1 (by omega)
   simp only [Nat.one_mul] at ed
   obtain ⟨a1, q1, Ma, RJ, DZ⟩ := ar.1 fG
   clear DZ
   subst Ma
   have fD := aa ed
   have k_1 := kk
   exact TK) : G := h
theorem Bq (h : G := by
 intro K w0 O s cx ag w v gJ hS hE hN aq aN bh hd dI dP
 have bS : 0 < T.size := by rw [T.size_eq]; omega
 obtain ⟨hl, cX⟩ := mz (by omega) aN
 first
 |clear k_0
  have aM : (bY K.F T).st cx s = aC (bL K.F (T.kids 0)) 3 (ab s) := by
   rw [bT K.F (by omega)]
   unfold stM
   iterate 12 rw [if_neg (by omega)]
   rw [if_pos hk]
  have k_0 := kk
  exact I4
 |clear k_1
  have aM : (bY K.F T).st cx s = aC (bL K.F (T.kids 0)) 1 (ab s) := by
   rw [bT K.F (by omega)]
   unfold stM
   iterate 14 rw [if_neg (by omega)]
   rw [if_pos hk]
  have k_1 := kk
  exact I4
 |clear k_2
  have aM : (bY K.F T).st cx s = CR.bind (cE (bL K.F (T.kids 0)) (ab s)) fun r => if r.1 = 3 then .error (7, (ab s).2.length) else .ok r.2 := by
   rw [bT K.F (by omega)]
   unfold stM
   iterate 13 rw [if_neg (by omega)]
   rw [if_pos hk]; rw [aP]
  have k_2 := kk
  exact I4
 |clear k_3
  have aM : (bY K.F T).st cx s = CR.bind (cE (bL K.F (T.kids 0)) (ab s)) fun r => ij r.2 T.name r.1 s.2.length := by
   rw [bT K.F (by omega)]
   unfold stM
   rw [if_neg (by omega), if_pos hk]; rfl
  have k_0 := kk
  exact TL
 |clear k_4
  have aM : (bY K.F T).st cx s = (if look s.1 T.name = 0 then .error (5, s.2.length) else aC (bL K.F (T.kids 0)) (look s.1 T.name) (ab s) : CR CS) := by
   rw [bT K.F (by omega)]
   unfold stM
   rw [if_neg (by omega), if_neg (by omega), if_pos hk]
  have k_1 := kk
  exact TL
 |clear k_5
  have aM : (bY K.F T).st cx s = CR.bind (bL K.F (T.kids 0) (ab s)) fun r => .ok r.2 := by
   rw [bT K.F (by omega)]
   unfold stM
   iterate 5 rw [if_neg (by omega)]
   rw [if_pos (by omega)]
  have k_3 := kk
  exact I4) : G := h
theorem LO (bE : eO) {T : Nd} (hk : T.kind = 19) : ew T := by
 have k_0 := kk
 exact Bq
theorem LM (bE : eO) {T : Nd} (hk : T.kind = 21) : ew T := by
 have k_1 := kk
 exact Bq
theorem LN (bE : eO) {T : Nd} (hk : T.kind = 20) : ew T := by
 have k_2 := kk
 exact Bq
theorem Qg (bE : eO) {T : Nd} (hk : T.kind = 9) : ew T := by
 exact bV0
theorem LU (bE : eO) {T : Nd} (hk : T.kind = 13) : ew T := by
 exact bV0
theorem LS (bE : eO) {T : Nd} (hk : T.kind = 14) : ew T := by
 exact bV0
theorem Ql (bE : eO) {T : Nd} (hk : T.kind = 4) (b6 : ∀ U : Nd, U.size < T.size → ew U) : ew T := by
 intro K w0 O s cx ag w v gJ hS hE hN aq aN bh hd dI dP
 have bS : 0 < T.size := by rw [T.size_eq]; omega
 rw [px hk]
 obtain ⟨a, cap, hv, b7, hq⟩ := ar.1 hN.row
 subst hv
 obtain ⟨O1, az, aW, bp, aS⟩ := hS.boxed (.cells #[.int .i64 T.kind, .int .i64 T.num, .string T.name, .slice a T.len cap] 25)
 have cJ := aa bp
 have bz := aa aS
 have fc := aa aW
 have bb := aa az
 have fe : K.lo ≤ w.heap.size := by have := hS.lt; have := hS.ok.cl; omega
 have dm := hS.ok.few
 have HC := aa (nl hk (fun i hi => b6 _ (by have := aH T hi; omega)) K _ O1 s cx ag _ _ gJ az (hE.later (aS _ _ _ _ _ az)) (hN.later (aS _ _ _ _ _ az)) aq aN hd (by omega) (by omega))
 unfold Nd.val at *
 rw [hk] at HC cJ bz fc bb ⊢
 clear hS hE hN az aW bp aS aN hk hq aq bh hd b6
 cases hM : within [] ((bY K.F T).sts cx) s with
 |error p =>
  have HM := aa hM
  clear hM
  go_enter Tryz.func104, Tryz.ntmps104
  go_wp2_with (first
   |(go_at_call 115; refine (dq HC.out HM.out).mono ?_; rintro e w2 ⟨rfl, hb2⟩; skip))
  exact bV6
 |ok s1 =>
  have HM := aa hM
  clear hM
  go_enter Tryz.func104, Tryz.ntmps104
  go_wp2_with (first
   |(go_at_call 115; refine (cq HC.out HM.out).mono ?_; rintro e w2 ⟨rfl, aD⟩; have bM := aa aD; clear aD))
  go_end0
  exact ⟨rfl, fc.out _ _ _ _ _ bM.out⟩
theorem Qh (bE : eO) {T : Nd} (hk : T.kind = 8) : ew T := by
 intro K w0 O s cx ag w v gJ hS hE hN aq aN bh hd dI dP
 have bS : 0 < T.size := by rw [T.size_eq]; omega
 obtain ⟨hl, cX, jB⟩ := Lk hk aN
 have aM : (bY K.F T).st cx s = CR.bind (aC (bL K.F (T.kids 0)) 3 (ab s)) (aC (bL K.F (T.kids 1)) 1) := by
  rw [bT K.F (by omega)]
  unfold stM
  iterate 4 rw [if_neg (by omega)]
  rw [if_pos hk]
 have k_1 := kk
 exact TG
theorem Qk (bE : eO) {T : Nd} (hk : T.kind = 5) : ew T := by
 have k_3 := kk
 exact Bq
theorem Qj (bE : eO) {T : Nd} (hk : T.kind = 6) : ew T := by
 have k_4 := kk
 exact Bq
theorem Hj (bE : eO) {T : Nd} (b6 : ∀ U : Nd, U.size < T.size → ew U) : ew T := by
 intro K w0 O s cx ag w v gJ hS hE hN aq aN bh hd dI dP
 have go : ∀ h : ew T, _ := fun h => h K w0 O s cx ag w v gJ hS hE hN aq aN bh hd dI dP
 rcases sE aN with h | h | h | h | h | h | h | h | h | h | h | h | h | h | h | h | h
 ·exact go (Ql bE h b6)
 ·exact go (Qk bE h)
 ·exact go (Qj bE h)
 ·exact go (Qi bE h)
 ·exact go (Qh bE h)
 ·exact go (Qg bE h)
 ·rcases (pA h aN).1 with hl | hl
  ·exact go (Hn bE h hl b6)
  ·exact go (Hm bE h hl b6)
 ·rcases CV h aN with ⟨hl, hb⟩ | ⟨hl, he, hb⟩
  ·exact go (Hl bE h hl hb.1 hb.2 b6)
  ·exact go (Hk bE h hl he hb.1 hb.2 b6)
 ·exact go (LW bE h)
 ·exact go (LU bE h)
 ·exact go (LS bE h)
 ·exact go (LR bE h b6)
 ·exact go (LQ bE h)
 ·exact go (LP bE h)
 ·exact go (LO bE h)
 ·exact go (LN bE h)
 ·exact go (LM bE h)
theorem AK (bE : eO) : ∀ T : Nd, ew T := by
 have h : ∀ n : Nat, ∀ T : Nd, T.size ≤ n → ew T := by
  intro n
  induction n with
  |zero => intro T hT; have := T.size_eq; omega
  |succ n ih => intro T hT; exact Hj bE fun U hU => ih U (by omega)
 exact fun T => h _ T lr
end Go.Proofs.YteaocammohcgoaaGreatDoor
