import Derived.Test.YteaocammohcgoaaGreatDoorQKeA
import Derived.Deep.RegionHeld3
set_option linter.unusedVariables false
set_option maxHeartbeats 16000000
set_option maxRecDepth 100000
namespace Go.Proofs.YteaocammohcgoaaGreatDoor
open Go.RowKit
variable {G : Prop}
theorem bR0 (h : G := by
 have k_0 := kk
 exact Nm) : G := h
theorem bR1 (h : G := by
 have k_1 := kk
 exact Nm) : G := h
theorem bR2 (h : G := by
 have k_2 := kk
 exact Nm) : G := h
theorem bR3 (h : G := by
 have k_0 := kk
 exact Nn) : G := h
theorem bR4 (h : G := by
 have k_1 := kk
 exact Nn) : G := h
theorem bR5 (h : G := by
 have k_2 := kk
 exact Nn) : G := h
theorem bR6 (h : G := by
 intro st h
 have hz := T.size_eq
 rw [hl] at hz; simp only [aw] at hz
 rw [aP] at h; omega) : G := h
theorem bR7 (h : G := by
 have k_0 := kk
 exact UI) : G := h
theorem bR8 (h : G := by
 have k_1 := kk
 exact UI) : G := h
theorem bR9 (h : G := by
 have k_0 := kk
 exact UH) : G := h
theorem I5 (h : G := by
 intro W hW
 obtain ⟨x0, x1, x2, x3, y0, y1, y2, y3⟩ := hW
 go_simp
 with_reducible rfl) : G := h
theorem UJ (h : G := by
 intro K w0 O s ret loops ag w v hS hE hN aq hk aN
 obtain ⟨yP, hl, cX, jB⟩ := oK hk aN
 have ir := Mb K.F (fun i => bL K.F (T.kids i)) (ab s) s.2.length
 rw [ir]
 clear Mb
 obtain ⟨g, off, cap, hv, iW, b7, aQ⟩ := cN hN.row (by omega)
 subst hv
 obtain ⟨u0, eT, dE⟩ := aQ 0 (by omega)
 simp only [Nat.zero_mul, Nat.add_zero] at eT
 obtain ⟨a0, q0, J4, RK, D0⟩ := ar.1 dE
 clear D0
 subst J4
 have dH := aa eT
 obtain ⟨u1, ed, fG⟩ := aQ 1 (by omega)
 simp only [Nat.one_mul] at ed
 obtain ⟨a1, q1, Ma, RJ, DZ⟩ := ar.1 fG
 clear DZ
 subst Ma
 have fD := aa ed
 have k_1 := kk
 exact UC) : G := h
theorem UI (h : G := by
 have k_1 := kk
 exact UH) : G := h
theorem UH (h : G := by
 go_wp2
 refine wp_region_held_drew (S := (fun W => W.cell? ⟨lb, 0, none⟩ = some (.int .i64 A.kind) ∧ W.cell? ⟨lb, 1, none⟩ = some (.int .i64 A.num) ∧ W.cell? ⟨lb, 2, none⟩ = some (.string A.name) ∧ W.cell? ⟨lb, 3, none⟩ = some (.slice a0 A.len q0) ∧ W.cell? ⟨rb, 0, none⟩ = some (.int .i64 B.kind) ∧ W.cell? ⟨rb, 1, none⟩ = some (.int .i64 B.num) ∧ W.cell? ⟨rb, 2, none⟩ = some (.string B.name) ∧ W.cell? ⟨rb, 3, none⟩ = some (.slice a1 B.len q1))) bI ?_ (fun eK => ?_)
 ·exact ⟨l0, l1, l2, l3, r0, r1, r2, r3⟩
 refine wpAnyH_take (i := 0) (v := ?_) rfl (by kernel_rfl) (by kernel_rfl) (by kernel_rfl) (fun _ _ _ h => h) (Or.inl ⟨by rfl, ?_⟩) eK ?_
 rotate_left
 ·exact I5
 simp only [Act.put, List.setIfInBounds_toArray]
 refine wpAnyH_take (i := 1) (v := ?_) rfl (by kernel_rfl) (by kernel_rfl) (by kernel_rfl) (fun _ _ _ h => h) (Or.inl ⟨by rfl, ?_⟩) eK ?_
 rotate_left
 ·exact I5
 simp only [Act.put]
 refine wpAnyH_take (i := 2) (v := ?_) rfl (by kernel_rfl) (by kernel_rfl) (by kernel_rfl) (fun _ _ _ h => h) (Or.inl ⟨by rfl, ?_⟩) eK ?_
 rotate_left
 ·exact I5
 simp only [Act.put]
 refine wpAnyH_take (i := 3) (v := ?_) rfl (by kernel_rfl) (by kernel_rfl) (by kernel_rfl) (fun _ _ _ h => h) (Or.inl ⟨by rfl, ?_⟩) eK ?_
 rotate_left
 ·exact I5
 simp only [Act.put]
 refine wpAnyH_ready (rs := [4]) (by kernel_rfl) (by simp) ?_
 refine AllReadyH.cons rfl (fun K' hK => ?_) AllReadyH.nil
 rw [if_pos (by rfl)]
 first
 |clear k_0
  go_wp2_with (go_at_call 116; refine (dq (Ji.out Bs Ob _ _ HI.out.st.drew (HI.out.below _ _ _ _ _ HI.out.st.drew) iC.out) HM.out).mono ?_; rintro e w2 ⟨rfl, hb2⟩; skip)
  exact ⟨rfl, rfl, (HI.out.below _ _ _ _ _ HI.out.st.drew).trans hb2⟩
 |clear k_1
  go_wp2_with (go_at_call 116; refine (cq (Ji.out Bs Ob _ _ HI.out.st.drew (HI.out.below _ _ _ _ _ HI.out.st.drew) iC.out) HM.out).mono ?_; rintro e w2 ⟨rfl, aD⟩; obtain ⟨l0, l1, l2, l3⟩ := HI.out.lc _ _ _ _ _ aD; obtain ⟨r0, r1, r2, r3⟩ := HI.out.rc _ _ _ _ _ aD; have bM := aa aD; clear aD)
  refine hK.out _ _ ⟨l0, l1, l2, l3, r0, r1, r2, r3⟩ (fun sZ => ?_)
  refine wpAnyH_ready (rs := [5]) (by kernel_rfl) (by simp) ?_
  refine AllReadyH.cons rfl (fun K' hK => ?_) AllReadyH.nil
  rw [if_pos (by rfl)]
  first
  |clear k_0
   go_wp2_with (go_at_call 117; refine (cq (vt.out Bs Ob _ _ _ bM.out (HI.out.below _ _ _ _ _ bM.out) (HF1.out _ (KL.out _ HM.out))) qP.out).mono ?_; rintro e w3 ⟨rfl, bW⟩; obtain ⟨l0, l1, l2, l3⟩ := HI.out.lc _ _ _ _ _ bW; obtain ⟨r0, r1, r2, r3⟩ := HI.out.rc _ _ _ _ _ bW; have fa := aa bW; clear bW)
   refine hK.out _ _ ⟨l0, l1, l2, l3, r0, r1, r2, r3⟩ (fun xx => ?_)
   refine wpAnyH_done (by kernel_rfl) ?_ _
   go_wp2
   go_ret
   exact ⟨rfl, HI.out.back _ _ _ _ _ fa.out⟩
  |clear k_1
   go_wp2_with (go_at_call 117; refine (dq (vt.out Bs Ob _ _ _ bM.out (HI.out.below _ _ _ _ _ bM.out) (HF1.out _ (KL.out _ HM.out))) qP.out).mono ?_; rintro e w3 ⟨rfl, hb3⟩; skip)
   exact ⟨rfl, rfl, (HI.out.below _ _ _ _ _ bM.out).trans hb3⟩) : G := h
theorem UG (h : G := by
 have HM := aa hM
 clear hM
 rw [CR.bind_error]
 have k_0 := kk
 exact No) : G := h
theorem UF (h : G := by
 have P1 : Hid True := trivial
 have k_1 := kk
 exact No) : G := h
theorem UE (h : G := by
 have k_2 := kk
 exact No) : G := h
theorem No (h : G := by
 go_enter Tryz.func139, Tryz.ntmps139
 go_wp2
 go_region_held3 (fun W => W.cell? ⟨w.heap.size, 2, none⟩ = some (.string T.name) ∧ W.cell? ⟨w.heap.size, 3, none⟩ = some (.slice (some ⟨g, off, none⟩) T.len cap) ∧ W.cell? ⟨g, off, none⟩ = some (.int .i64 A.kind) ∧ W.cell? ⟨g, off + 1, none⟩ = some (.int .i64 A.num) ∧ W.cell? ⟨g, off + 2, none⟩ = some (.string A.name) ∧ W.cell? ⟨g, off + 3, none⟩ = some (.slice a0 A.len q0) ∧ W.cell? ⟨g, off + 4, none⟩ = some (.int .i64 B.kind) ∧ W.cell? ⟨g, off + 4 + 1, none⟩ = some (.int .i64 B.num) ∧ W.cell? ⟨g, off + 4 + 2, none⟩ = some (.string B.name) ∧ W.cell? ⟨g, off + 4 + 3, none⟩ = some (.slice a1 B.len q1)) (go_keep) (fail)
 clear eD eC eB eA gG gB gE gA d00 d01 d02 d03 d10 d11 d12 d13
 rotate_left
 first
 |clear k_0
  first
  |clear k_0
   ·have k_0 := kk
    exact Bt
   ·have k_0 := kk
    exact Br
  |clear k_1
   ·have k_1 := kk
    exact Bt
   ·have k_1 := kk
    exact Br
 |clear k_1
  first
  |clear k_0
   ·have k_2 := kk
    exact Bt
   ·have k_2 := kk
    exact Br
  |clear k_1
   ·have k_3 := kk
    exact Bt
   ·have k_3 := kk
    exact Br
 |clear k_2
  first
  |clear k_0
   ·have k_4 := kk
    exact Bt
   ·have k_4 := kk
    exact Br
  |clear k_1
   ·have k_5 := kk
    exact Bt
   ·have k_5 := kk
    exact Br) : G := h
theorem Bt (h : G := by
 obtain ⟨Ob, hI⟩ := oO.out
 have nm : (((w.alloc (nO T (.slice (some ⟨g, off, none⟩) T.len cap))).alloc (nO B (.slice a1 B.len q1))).alloc (nO A (.slice a0 A.len q0))).drew.cell? ⟨w.heap.size, 2, none⟩ = some (.string T.name) := by simp [go_sem]
 generalize (((w.alloc (nO T (.slice (some ⟨g, off, none⟩) T.len cap))).alloc (nO B (.slice a1 B.len q1))).alloc (nO A (.slice a0 A.len q0))).drew = X at *
 generalize ((w.alloc (nO T (.slice (some ⟨g, off, none⟩) T.len cap))).alloc (nO B (.slice a1 B.len q1))).alloc (nO A (.slice a0 A.len q0)) = Bs at *
 clear A0 AZ A5 A4 HAB oO
 generalize w.heap.size + 1 + 1 = lb at *
 generalize w.heap.size + 1 = rb at *
 exact UB) : G := h
theorem Br (h : G := by
 obtain ⟨Ob, hI⟩ := HAB.out
 have nm : (((w.alloc (nO T (.slice (some ⟨g, off, none⟩) T.len cap))).alloc (nO A (.slice a0 A.len q0))).alloc (nO B (.slice a1 B.len q1))).drew.cell? ⟨w.heap.size, 2, none⟩ = some (.string T.name) := by simp [go_sem]
 generalize (((w.alloc (nO T (.slice (some ⟨g, off, none⟩) T.len cap))).alloc (nO A (.slice a0 A.len q0))).alloc (nO B (.slice a1 B.len q1))).drew = X at *
 generalize ((w.alloc (nO T (.slice (some ⟨g, off, none⟩) T.len cap))).alloc (nO A (.slice a0 A.len q0))).alloc (nO B (.slice a1 B.len q1)) = Bs at *
 clear A0 AZ A5 A4 HAB oO
 generalize w.heap.size + 1 + 1 = rb at *
 generalize w.heap.size + 1 = lb at *
 exact UB) : G := h
theorem Nn (h : G := by
 have HI := aa hI
 obtain ⟨l0, l1, l2, l3⟩ := hI.lc _ _ _ _ _ hI.st
 obtain ⟨r0, r1, r2, r3⟩ := hI.rc _ _ _ _ _ hI.st
 clear hI
 rcases HD.out with ⟨n1, rfl, rfl⟩ | ⟨n1, n2, rfl, rfl⟩ | ⟨n1, n2, n3, rfl, rfl⟩ | ⟨n1, n2, n3, n4, rfl, rfl⟩ | ⟨n1, n2, n3, n4, n5, rfl, rfl⟩ | ⟨n1, n2, n3, n4, n5, n6, rfl, rfl⟩ | ⟨n1, n2, n3, n4, n5, n6, rfl, rfl⟩
 first
 |clear k_0
  all_goals go_wp2_with (first
   |(clear P1; go_at_call 117; refine (cq (ji.out Bs Ob _ _ _ HI.out.st (HI.out.below _ _ _ _ _ HI.out.st) iC.out) HM.out).mono ?_; rintro e w2 ⟨rfl, aD⟩; obtain ⟨r0, r1, r2, r3⟩ := HI.out.rc _ _ _ _ _ aD; have bM := aa aD; clear aD)
   |(go_at_call 117; refine (cq (vt.out Bs Ob _ _ _ bM.out (HI.out.below _ _ _ _ _ bM.out) (HF1.out _ (KL.out _ HM.out))) qP.out).mono ?_; rintro e w3 ⟨rfl, bW⟩; have fa := aa bW; clear bW))
  all_goals go_ret
  all_goals exact ⟨rfl, HI.out.back _ _ _ _ _ fa.out⟩
 |clear k_1
  all_goals go_wp2_with (first
   |(clear P1; go_at_call 117; refine (cq (ji.out Bs Ob _ _ _ HI.out.st (HI.out.below _ _ _ _ _ HI.out.st) iC.out) HM.out).mono ?_; rintro e w2 ⟨rfl, aD⟩; obtain ⟨r0, r1, r2, r3⟩ := HI.out.rc _ _ _ _ _ aD; have bM := aa aD; clear aD)
   |(go_at_call 117; refine (dq (vt.out Bs Ob _ _ _ bM.out (HI.out.below _ _ _ _ _ bM.out) (HF1.out _ (KL.out _ HM.out))) qP.out).mono ?_; rintro e w3 ⟨rfl, hb3⟩; skip))
  all_goals exact ⟨rfl, rfl, (HI.out.below _ _ _ _ _ bM.out).trans hb3⟩
 |clear k_2
  all_goals go_wp2_with (first
   |(go_at_call 117; refine (dq (ji.out Bs Ob _ _ _ HI.out.st (HI.out.below _ _ _ _ _ HI.out.st) iC.out) HM.out).mono ?_; rintro e w2 ⟨rfl, hb2⟩; skip))
  all_goals exact ⟨rfl, rfl, (HI.out.below _ _ _ _ _ HI.out.st).trans hb2⟩) : G := h
theorem UD (h : G := by
 have fO : g < w.heap.size := by omega
 have A0 : g < w.heap.size + 1 := by omega
 have AZ : g < w.heap.size + 1 + 1 := by omega
 have Ie : ¬ g = w.heap.size := by omega
 have A5 : ¬ g = w.heap.size + 1 := by omega
 have A4 : ¬ g = w.heap.size + 1 + 1 := by omega
 obtain ⟨eD, eC, eB, eA⟩ := dH.out w (Below.refl _ _)
 first
 |clear k_0
  have gh : 0 < T.len := by omega
  clear hS hE hN az aW bp aS aQ eT dE ir aN hk hl
  cases Ea : qW T.name with
  |true =>
   rw [Ea] at js
   have Me : (T.name.toList == [33]) = true := js.symm
   simp only [if_true]
   clear js Ea
   cases hM : aC (bL K.F (T.kids 0)) 2 (ab s) with
   |error p =>
    have HM := aa hM
    clear hM
    rw [CR.bind_error]
    go_enter Tryz.func138, Tryz.ntmps138
    go_wp2_with (first
     |(go_at_call 117; refine (dq (ji.out _ _ _ _ _ 2 bb.out iC.out) HM.out).mono ?_; rintro e w2 ⟨rfl, hb2⟩; skip))
    exact ⟨rfl, rfl, (bz.out _ _ _ _ _ bb.out).trans hb2⟩
   |ok s1 =>
    have HM := aa hM
    clear hM
    rw [CR.bind_ok]
    go_enter Tryz.func138, Tryz.ntmps138
    go_wp2_with (first
     |(go_at_call 117; refine (cq (ji.out _ _ _ _ _ 2 bb.out iC.out) HM.out).mono ?_; rintro e w2 ⟨rfl, aD⟩; have bM := aa aD; clear aD))
    go_ret
    exact ⟨rfl, fc.out _ _ _ _ _ bM.out⟩
  |false =>
   rw [Ea] at js
   have Me : (T.name.toList == [33]) = false := js.symm
   simp only [if_false, Bool.false_eq_true]
   clear js Ea
   cases hM : aC (bL K.F (T.kids 0)) 1 (ab s) with
   |error p =>
    have HM := aa hM
    clear hM
    rw [CR.bind_error]
    go_enter Tryz.func138, Tryz.ntmps138
    go_wp2_with (first
     |(go_at_call 117; refine (dq (ji.out _ _ _ _ _ 1 bb.out iC.out) HM.out).mono ?_; rintro e w2 ⟨rfl, hb2⟩; skip))
    exact ⟨rfl, rfl, (bz.out _ _ _ _ _ bb.out).trans hb2⟩
   |ok s1 =>
    have HM := aa hM
    clear hM
    rw [CR.bind_ok]
    go_enter Tryz.func138, Tryz.ntmps138
    go_wp2_with (first
     |(go_at_call 117; refine (cq (ji.out _ _ _ _ _ 1 bb.out iC.out) HM.out).mono ?_; rintro e w2 ⟨rfl, aD⟩; have bM := aa aD; clear aD))
    go_ret
    exact ⟨rfl, fc.out _ _ _ _ _ bM.out⟩
 |clear k_1
  obtain ⟨gG, gB, gE, gA⟩ := fD.out w (Below.refl _ _)
  obtain ⟨d00, d01, d02, d03⟩ := dH.out _ (bz.out _ _ _ _ _ bb.out)
  obtain ⟨d10, d11, d12, d13⟩ := fD.out _ (bz.out _ _ _ _ _ bb.out)
  have gh : 0 < T.len := by omega
  have np : (1 : Int) < (T.len : Int) := by omega
  have j8 : 1 < T.len := by omega
  first
  |clear k_0
   have HD := aa hD
   have KL := aa (fun s1 (h : aC (bL K.F (T.kids 0)) side (ab s) = .ok s1) => ((eh K.F _ cX).want side _ _ h).2)
   clear hD yP
   clear hS hE hN az aW bp aS aQ eT dE ed fG aN hk hl ih ir cX jB aq
   generalize T.kids 0 = A at *
   generalize T.kids 1 = B at *
   cases hM : aC (bL K.F A) side (ab s) with
   |error p =>
    have k_0 := kk
    exact UG
   |ok s1 =>
    have HM := aa hM
    clear hM
    rw [CR.bind_ok]
    cases Bb : aC (bL K.F B) side s1 with
    |error p =>
     have qP := aa Bb
     clear Bb
     rw [CR.bind_error]
     have k_0 := kk
     exact UF
    |ok s2 =>
     have qP := aa Bb
     clear Bb
     rw [CR.bind_ok]
     have k_1 := kk
     exact UF
  |clear k_1
   have HD := aa dc
   have KL := aa (fun r (h : cE (bL K.F (T.kids 0)) (ab s) = .ok r) => ((eh K.F _ cX).value _ _ _ h).2)
   clear dc yP
   clear hS hE hN az aW bp aS aQ eT dE ed fG aN hk hl ih ir cX jB aq
   generalize T.kids 0 = A at *
   generalize T.kids 1 = B at *
   cases hM : cE (bL K.F A) (ab s) with
   |error p =>
    have k_1 := kk
    exact UG
   |ok r =>
    obtain ⟨ty, s1⟩ := r
    have HM := aa hM
    clear hM
    rw [CR.bind_ok]
    dsimp only at *
    cases Bb : aC (bL K.F B) ty s1 with
    |error p =>
     have qP := aa Bb
     clear Bb
     rw [CR.bind_error]
     have k_0 := kk
     exact UE
    |ok s2 =>
     have qP := aa Bb
     clear Bb
     rw [CR.bind_ok]
     have k_1 := kk
     exact UE) : G := h
theorem UC (h : G := by
 obtain ⟨O1, az, aW, bp, aS⟩ := hS.boxed (nO T (.slice (some ⟨g, off, none⟩) T.len cap))
 have cJ := aa bp
 have bz := aa aS
 have fc := aa aW
 have bb := aa az
 have fe : K.lo ≤ w.heap.size := by have := hS.lt; have := hS.ok.cl; omega
 have dm := hS.ok.few
 first
 |clear k_0
  have ji := aa (fun (W : World) (st : CS) (ret loops ag : Int) (ty : Int) (hW : IS K (w.alloc (nO T (.slice (some ⟨g, off, none⟩) T.len cap))) O1 st ret loops ag W) (hf : st.2.length + (T.kids 0).size ≤ K.N) => dV (ih 0 (by omega)) K _ O1 st ret loops ag W u0 ty hW (hE.later (aS _ _ _ _ _ hW)) ((hN.kid (by omega) dE).later (aS _ _ _ _ _ hW)) hf cX)
  have iC := aa (fJ aq (i := 0) (by omega))
  have js := sK T.name
  unfold Nd.val
  have k_0 := kk
  exact UD
 |clear k_1
  have HAB := aa (Qv hS (nO T (.slice (some ⟨g, off, none⟩) T.len cap)) (T.kids 0) (T.kids 1) (.slice a0 (T.kids 0).len q0) (.slice a1 (T.kids 1).len q1) 25)
  have oO := aa (Qu hS (nO T (.slice (some ⟨g, off, none⟩) T.len cap)) (T.kids 0) (T.kids 1) (.slice a0 (T.kids 0).len q0) (.slice a1 (T.kids 1).len q1) 25)
  have ji := aa (fun (Bs : World) (Ob : Nat → Prop) (W : World) (st : CS) (ty : Int) (hW : IS K Bs Ob st ret loops ag W) (hb : Below K.lo w W) (hf : st.2.length + (T.kids 0).size ≤ K.N) => dV (ih 0 (by omega)) K Bs Ob st ret loops ag W (.slice a0 (T.kids 0).len q0) ty hW (hE.later hb) ((hN.kid (by omega) dE).later hb) hf cX)
  have Ji := aa (fun (Bs : World) (Ob : Nat → Prop) (W : World) (st : CS) (hW : IS K Bs Ob st ret loops ag W) (hb : Below K.lo w W) (hf : st.2.length + (T.kids 0).size ≤ K.N) => jP (ih 0 (by omega)) K Bs Ob st ret loops ag W (.slice a0 (T.kids 0).len q0) hW (hE.later hb) ((hN.kid (by omega) dE).later hb) hf cX)
  have vt := aa (fun (Bs : World) (Ob : Nat → Prop) (W : World) (st : CS) (ty : Int) (hW : IS K Bs Ob st ret loops ag W) (hb : Below K.lo w W) (hf : st.2.length + (T.kids 1).size ≤ K.N) => dV (ih 1 (by omega)) K Bs Ob st ret loops ag W (.slice a1 (T.kids 1).len q1) ty hW (hE.later hb) ((hN.kid (by omega) fG).later hb) hf jB)
  have HV1 := aa (fun (Bs : World) (Ob : Nat → Prop) (W : World) (st : CS) (hW : IS K Bs Ob st ret loops ag W) (hb : Below K.lo w W) (hf : st.2.length + (T.kids 1).size ≤ K.N) => jP (ih 1 (by omega)) K Bs Ob st ret loops ag W (.slice a1 (T.kids 1).len q1) hW (hE.later hb) ((hN.kid (by omega) fG).later hb) hf jB)
  have iC := aa (fJ aq (i := 0) (by omega))
  have HF1 : Hid (∀ st : CS, st.2.length = (ab s).2.length + (T.kids 0).size → st.2.length + (T.kids 1).size ≤ K.N) := by
   exact bR6
  unfold Nd.val at *
  have k_1 := kk
  exact UD) : G := h
theorem Nm (h : G := by
 have HI := aa hI
 obtain ⟨l0, l1, l2, l3⟩ := hI.lc _ _ _ _ _ hI.st
 obtain ⟨r0, r1, r2, r3⟩ := hI.rc _ _ _ _ _ hI.st
 clear hI
 have bI := jz
 rcases HD.out with ⟨n1, _⟩ | ⟨n1, n2⟩
 first
 |clear k_0
  ·exact bR7
  ·exact bR7
 |clear k_1
  ·exact bR8
  ·exact bR8
 |clear k_2
  ·exact bR9
  ·exact bR9) : G := h
theorem UB (h : G := by
 first
 |clear k_0
  exact bR5
 |clear k_1
  exact bR2
 |clear k_2
  exact bR4
 |clear k_3
  exact bR3
 |clear k_4
  exact bR1
 |clear k_5
  exact bR0) : G := h
theorem ai {w : World} {b : Nat} {a b' : Int} {c : ByteArray} {d : Value} {t : TypeId} (h : w.heap[b]? = some (.cells #[.int .i64 a, .int .i64 b', .string c, d] t)) : w.cell? ⟨b, 0, none⟩ = some (.int .i64 a) ∧ w.cell? ⟨b, 1, none⟩ = some (.int .i64 b') ∧ w.cell? ⟨b, 2, none⟩ = some (.string c) ∧ w.cell? ⟨b, 3, none⟩ = some d := by
 refine ⟨?_, ?_, ?_, ?_⟩ <;> simp [World.cell?, h]
theorem dq {α : Type} {K : IK} {f : FuncId} {args : Array Value} {w : World} {M : CR α} {eL : α → Ending → World → Prop} (h : Calls Tryz.prog f args w (kJ K w M eL)) {p : Int × Nat} (hM : M = .error p) : Calls Tryz.prog f args w fun e w' => e = .panicked [{ v := q9 p, recovered := false }] ∧ Below K.lo w w' := by subst hM; exact h
theorem cq {α : Type} {K : IK} {f : FuncId} {args : Array Value} {w : World} {M : CR α} {eL : α → Ending → World → Prop} (h : Calls Tryz.prog f args w (kJ K w M eL)) {a : α} (hM : M = .ok a) : Calls Tryz.prog f args w (eL a) := by subst hM; exact h
theorem fJ {K : IK} {T : Nd} {s : CS} (aq : s.2.length + T.size ≤ K.N) {i : Nat} (hi : i < T.len) : (ab s).2.length + (T.kids i).size ≤ K.N := by
 have := aH T hi; rw [aP]; omega
def VJ (T : Nd) : Prop := ∀ (K : IK) (w0 : World) (O : Nat → Prop) (s : CS) (ret loops ag : Int) (w : World) (v : Value), IS K w0 O (ab s) ret loops ag w → IEnv K w → INd K w T v → s.2.length + T.size ≤ K.N → T.kind = 27 → T.eOk = true →
 Calls Tryz.prog 138 #[.pointer (some ⟨K.cb, 0, none⟩), T.val v] w (kJ K w (bC K.F T.kind T.name T.len (fun i => bL K.F (T.kids i)) (ab s) s.2.length) fun r e w' => e = .returned (.int .i64 r.1) ∧ IS K w0 O r.2 ret loops ag w')
theorem LC {T : Nd} (ih : ∀ i, i < T.len → oo (T.kids i)) : VJ T := by
 intro K w0 O s ret loops ag w v hS hE hN aq hk aN
 obtain ⟨hl, cX⟩ := ze hk aN
 have ir : bC K.F T.kind T.name T.len (fun i => bL K.F (T.kids i)) (ab s) s.2.length = CR.bind (aC (bL K.F (T.kids 0)) (if qW T.name then 2 else 1) (ab s)) fun s1 => .ok (if qW T.name then 2 else 1, s1) := by
  unfold bC
  iterate 5 rw [if_neg (by omega)]
  rw [if_pos hk]
 rw [ir]
 obtain ⟨g, off, cap, hv, iW, b7, aQ⟩ := cN hN.row (by omega)
 subst hv
 obtain ⟨u0, eT, dE⟩ := aQ 0 (by omega)
 simp only [Nat.zero_mul, Nat.add_zero] at eT
 have dH := aa eT
 have k_0 := kk
 exact UC
def Jg (T : Nd) : Prop := ∀ (K : IK) (w0 : World) (O : Nat → Prop) (s : CS) (ret loops ag : Int) (w : World) (v : Value), IS K w0 O (ab s) ret loops ag w → IEnv K w → INd K w T v → s.2.length + T.size ≤ K.N → T.kind = 28 → T.eOk = true →
 Calls Tryz.prog 139 #[.pointer (some ⟨K.cb, 0, none⟩), T.val v] w (kJ K w (bC K.F T.kind T.name T.len (fun i => bL K.F (T.kids i)) (ab s) s.2.length) fun r e w' => e = .returned (.int .i64 r.1) ∧ IS K w0 O r.2 ret loops ag w')
theorem IS.boxed3 {K : IK} {w0 : World} {O : Nat → Prop} {s : CS} {ret loops ag : Int} {w : World} (h : IS K w0 O s ret loops ag w) (o1 o2 o3 : Obj) : ∃ O3 : Nat → Prop, IS K (((w.alloc o1).alloc o2).alloc o3) O3 s ret loops ag (((w.alloc o1).alloc o2).alloc o3) ∧ (∀ s' r' l' o' W, IS K (((w.alloc o1).alloc o2).alloc o3) O3 s' r' l' o' W → IS K w0 O s' r' l' o' W) ∧
  (∀ s' r' l' o' W, IS K (((w.alloc o1).alloc o2).alloc o3) O3 s' r' l' o' W → W.heap[w.heap.size]? = some o1 ∧ W.heap[w.heap.size + 1]? = some o2 ∧ W.heap[w.heap.size + 1 + 1]? = some o3) ∧ ∀ s' r' l' o' W, IS K (((w.alloc o1).alloc o2).alloc o3) O3 s' r' l' o' W → Below K.lo w W := by
 obtain ⟨O1, a1, a2, a3, a4⟩ := h.boxed o1
 obtain ⟨O2, b1, b2, b3, b4⟩ := a1.boxed o2
 obtain ⟨O3, c1, c2, c3, c4⟩ := b1.boxed o3
 refine ⟨O3, c1, fun s' r' l' o' W hW => a2 _ _ _ _ _ (b2 _ _ _ _ _ (c2 _ _ _ _ _ hW)), fun s' r' l' o' W hW => ⟨a3 _ _ _ _ _ (b2 _ _ _ _ _ (c2 _ _ _ _ _ hW)), ?_, ?_⟩, fun s' r' l' o' W hW => a4 _ _ _ _ _ (b2 _ _ _ _ _ (c2 _ _ _ _ _ hW))⟩
 ·have := b3 _ _ _ _ _ (c2 _ _ _ _ _ hW); simpa using this
 ·have := c3 _ _ _ _ _ hW; simpa using this
structure I2 (K : IK) (w0 : World) (O : Nat → Prop) (Bs : World) (Ob : Nat → Prop) (w : World) (A B : Nd) (va vb : Value) (lb rb : Nat) (s : CS) (ret loops ag : Int) (X : World) : Prop where
 st : IS K Bs Ob s ret loops ag X
 back : ∀ s' r' l' o' W, IS K Bs Ob s' r' l' o' W → IS K w0 O s' r' l' o' W
 below : ∀ s' r' l' o' W, IS K Bs Ob s' r' l' o' W → Below K.lo w W
 lc : ∀ s' r' l' o' W, IS K Bs Ob s' r' l' o' W → W.cell? ⟨lb, 0, none⟩ = some (.int .i64 A.kind) ∧ W.cell? ⟨lb, 1, none⟩ = some (.int .i64 A.num) ∧ W.cell? ⟨lb, 2, none⟩ = some (.string A.name) ∧ W.cell? ⟨lb, 3, none⟩ = some va
 rc : ∀ s' r' l' o' W, IS K Bs Ob s' r' l' o' W → W.cell? ⟨rb, 0, none⟩ = some (.int .i64 B.kind) ∧ W.cell? ⟨rb, 1, none⟩ = some (.int .i64 B.num) ∧ W.cell? ⟨rb, 2, none⟩ = some (.string B.name) ∧ W.cell? ⟨rb, 3, none⟩ = some vb
theorem Qv {K : IK} {w0 : World} {O : Nat → Prop} {s : CS} {ret loops ag : Int} {w : World} (h : IS K w0 O s ret loops ag w) (o : Obj) (A B : Nd) (va vb : Value) (t : TypeId) : ∃ Ob, I2 K w0 O (((w.alloc o).alloc (.cells #[.int .i64 A.kind, .int .i64 A.num, .string A.name, va] t)).alloc (.cells #[.int .i64 B.kind, .int .i64 B.num, .string B.name, vb] t)) Ob w A B va vb (w.heap.size + 1) (w.heap.size + 1 + 1) s ret loops ag (((w.alloc o).alloc (.cells #[.int .i64 A.kind, .int .i64 A.num, .string A.name, va] t)).alloc (.cells #[.int .i64 B.kind, .int .i64 B.num, .string B.name, vb] t)).drew := by
 obtain ⟨O3, h1, h2, h3, h4⟩ := h.boxed3 o (.cells #[.int .i64 A.kind, .int .i64 A.num, .string A.name, va] t) (.cells #[.int .i64 B.kind, .int .i64 B.num, .string B.name, vb] t)
 exact ⟨O3, h1.drew, h2, h4, fun s' r' l' o' W hW => ai (h3 _ _ _ _ _ hW).2.1, fun s' r' l' o' W hW => ai (h3 _ _ _ _ _ hW).2.2⟩
theorem Qu {K : IK} {w0 : World} {O : Nat → Prop} {s : CS} {ret loops ag : Int} {w : World} (h : IS K w0 O s ret loops ag w) (o : Obj) (A B : Nd) (va vb : Value) (t : TypeId) : ∃ Ob, I2 K w0 O (((w.alloc o).alloc (.cells #[.int .i64 B.kind, .int .i64 B.num, .string B.name, vb] t)).alloc (.cells #[.int .i64 A.kind, .int .i64 A.num, .string A.name, va] t)) Ob w A B va vb (w.heap.size + 1 + 1) (w.heap.size + 1) s ret loops ag (((w.alloc o).alloc (.cells #[.int .i64 B.kind, .int .i64 B.num, .string B.name, vb] t)).alloc (.cells #[.int .i64 A.kind, .int .i64 A.num, .string A.name, va] t)).drew := by
 obtain ⟨O3, h1, h2, h3, h4⟩ := h.boxed3 o (.cells #[.int .i64 B.kind, .int .i64 B.num, .string B.name, vb] t) (.cells #[.int .i64 A.kind, .int .i64 A.num, .string A.name, va] t)
 exact ⟨O3, h1.drew, h2, h4, fun s' r' l' o' W hW => ai (h3 _ _ _ _ _ hW).2.2, fun s' r' l' o' W hW => ai (h3 _ _ _ _ _ hW).2.1⟩
def VD (n : ByteArray) (side whole : Int) : Prop :=
 ((n.toList == [38, 38]) = true ∧ side = 2 ∧ whole = 2) ∨
 ((n.toList == [38, 38]) = false ∧ (n.toList == [124, 124]) = true ∧ side = 2 ∧ whole = 2) ∨
 ((n.toList == [38, 38]) = false ∧ (n.toList == [124, 124]) = false ∧ (n.toList == [60]) = true ∧ side = 1 ∧ whole = 2) ∨
 ((n.toList == [38, 38]) = false ∧ (n.toList == [124, 124]) = false ∧ (n.toList == [60]) = false ∧ (n.toList == [60, 61]) = true ∧ side = 1 ∧ whole = 2) ∨
 ((n.toList == [38, 38]) = false ∧ (n.toList == [124, 124]) = false ∧ (n.toList == [60]) = false ∧ (n.toList == [60, 61]) = false ∧ (n.toList == [62]) = true ∧ side = 1 ∧ whole = 2) ∨
 ((n.toList == [38, 38]) = false ∧ (n.toList == [124, 124]) = false ∧ (n.toList == [60]) = false ∧ (n.toList == [60, 61]) = false ∧ (n.toList == [62]) = false ∧ (n.toList == [62, 61]) = true ∧ side = 1 ∧ whole = 2) ∨
 ((n.toList == [38, 38]) = false ∧ (n.toList == [124, 124]) = false ∧ (n.toList == [60]) = false ∧ (n.toList == [60, 61]) = false ∧ (n.toList == [62]) = false ∧ (n.toList == [62, 61]) = false ∧ side = 1 ∧ whole = 1)
theorem j7 {T : Nd} (ih : ∀ i, i < T.len → oo (T.kids i)) (side whole : Int) (AW : (T.name.toList == [61, 61]) = false) (iH : (T.name.toList == [33, 61]) = false)
  (hD : VD T.name side whole) (Mb : ∀ (F : Nd) (ex : Nat → qE) (s : CS) (p : Nat), bC F T.kind T.name T.len ex s p = CR.bind (aC (ex 0) side s) fun s1 => CR.bind (aC (ex 1) side s1) fun s2 => .ok (whole, s2)) : Jg T := by
 have k_0 := kk
 exact UJ
theorem DM {T : Nd} (ih : ∀ i, i < T.len → oo (T.kids i)) (dc : ((T.name.toList == [61, 61]) = true ∧ True) ∨ ((T.name.toList == [61, 61]) = false ∧ (T.name.toList == [33, 61]) = true))
  (Mb : ∀ (F : Nd) (ex : Nat → qE) (s : CS) (p : Nat), bC F T.kind T.name T.len ex s p = CR.bind (cE (ex 0) s) fun r => CR.bind (aC (ex 1) r.1 r.2) fun s2 => .ok (2, s2)) : Jg T := by
 have k_1 := kk
 exact UJ
end Go.Proofs.YteaocammohcgoaaGreatDoor
