import Derived.Test.YteaocammohcgoaaGreatDoorVKeA
import Derived.Deep.RegionHeld3
set_option linter.unusedVariables false
set_option maxHeartbeats 16000000
set_option maxRecDepth 100000
namespace Go.Proofs.YteaocammohcgoaaGreatDoor
open Go.RowKit
variable {G : Prop}
theorem bO0 (h : G := by
 have k_O23_0 := kk
 exact OF) : G := h
theorem bO1 (h : G := by
 have k_O23_1 := kk
 exact OF) : G := h
theorem bO2 (h : G := by
 have k_O23_2 := kk
 exact OF) : G := h
theorem bO3 (h : G := by
 have k_O20_0 := kk
 exact OG) : G := h
theorem bO4 (h : G := by
 have k_O20_1 := kk
 exact OG) : G := h
theorem bO5 (h : G := by
 have k_O20_2 := kk
 exact OG) : G := h
theorem bO6 (h : G := by
 intro st h
 have hz := T.size_eq
 rw [hl] at hz; simp only [ar] at hz
 rw [aP] at h; omega) : G := h
theorem bO7 (h : G := by
 have k_O12_0 := kk
 exact Wt) : G := h
theorem bO8 (h : G := by
 have k_O12_1 := kk
 exact Wt) : G := h
theorem bO9 (h : G := by
 have k_O13_0 := kk
 exact Ws) : G := h
theorem JL (h : G := by
 intro W hW
 obtain ⟨x0, x1, x2, x3, y0, y1, y2, y3⟩ := hW
 go_simp
 with_reducible rfl) : G := h
theorem Wu (h : G := by
 intro K w0 O s ret loops ai w v hS hE hN ay hk aS
 obtain ⟨zg, hl, dh, j5⟩ := vx hk aS
 have iA := MZ K.F (fun i => bP K.F (T.kids i)) (ae s) s.2.length
 rw [iA]
 clear MZ
 obtain ⟨g, off, cap, hv, iM, cr, aV⟩ := dq hN.row (by omega)
 subst hv
 obtain ⟨u0, fs, dI⟩ := aV 0 (by omega)
 simp only [Nat.zero_mul, Nat.add_zero] at fs
 obtain ⟨a0, q0, P4, hcp0, Na⟩ := aH.1 dI
 clear Na
 subst P4
 have dP := aa fs
 obtain ⟨u1, eM, fN⟩ := aV 1 (by omega)
 simp only [Nat.one_mul] at eM
 obtain ⟨a1, q1, Sn, hcp1, M9⟩ := aH.1 fN
 clear M9
 subst Sn
 have fT := aa eM
 have k_O22_1 := kk
 exact Wl) : G := h
theorem Wt (h : G := by
 have k_O13_1 := kk
 exact Ws) : G := h
theorem Ws (h : G := by
 go_wp2
 refine wp_region_held_drew (S := (fun W => W.cell? ⟨lb, 0, none⟩ = some (.int .i64 A.kind) ∧ W.cell? ⟨lb, 1, none⟩ = some (.int .i64 A.num) ∧ W.cell? ⟨lb, 2, none⟩ = some (.string A.name) ∧ W.cell? ⟨lb, 3, none⟩ = some (.slice a0 A.len q0) ∧ W.cell? ⟨rb, 0, none⟩ = some (.int .i64 B.kind) ∧ W.cell? ⟨rb, 1, none⟩ = some (.int .i64 B.num) ∧ W.cell? ⟨rb, 2, none⟩ = some (.string B.name) ∧ W.cell? ⟨rb, 3, none⟩ = some (.slice a1 B.len q1))) bH ?_ (fun eG => ?_)
 ·exact ⟨l0, l1, l2, l3, r0, r1, r2, r3⟩
 refine wpAnyH_take (i := 0) (v := ?_) rfl (by kernel_rfl) (by kernel_rfl) (by kernel_rfl) (fun _ _ _ h => h) (Or.inl ⟨by rfl, ?_⟩) eG ?_
 rotate_left
 ·exact JL
 simp only [Act.put, List.setIfInBounds_toArray]
 refine wpAnyH_take (i := 1) (v := ?_) rfl (by kernel_rfl) (by kernel_rfl) (by kernel_rfl) (fun _ _ _ h => h) (Or.inl ⟨by rfl, ?_⟩) eG ?_
 rotate_left
 ·exact JL
 simp only [Act.put]
 refine wpAnyH_take (i := 2) (v := ?_) rfl (by kernel_rfl) (by kernel_rfl) (by kernel_rfl) (fun _ _ _ h => h) (Or.inl ⟨by rfl, ?_⟩) eG ?_
 rotate_left
 ·exact JL
 simp only [Act.put]
 refine wpAnyH_take (i := 3) (v := ?_) rfl (by kernel_rfl) (by kernel_rfl) (by kernel_rfl) (fun _ _ _ h => h) (Or.inl ⟨by rfl, ?_⟩) eG ?_
 rotate_left
 ·exact JL
 simp only [Act.put]
 refine wpAnyH_ready (rs := [4]) (by kernel_rfl) (by simp) ?_
 refine AllReadyH.cons rfl (fun K' hK => ?_) AllReadyH.nil
 rw [if_pos (by rfl)]
 first
 |clear k_O13_0
  go_wp2_with (go_at_call 116; refine (dr (J2.out Bs Ob _ _ HI.out.st.drew (HI.out.below _ _ _ _ _ HI.out.st.drew) iP.out) HM.out).mono ?_; rintro e w2 ⟨rfl, ba⟩; skip)
  exact ⟨rfl, rfl, (HI.out.below _ _ _ _ _ HI.out.st.drew).trans ba⟩
 |clear k_O13_1
  go_wp2_with (go_at_call 116; refine (cw (J2.out Bs Ob _ _ HI.out.st.drew (HI.out.below _ _ _ _ _ HI.out.st.drew) iP.out) HM.out).mono ?_; rintro e w2 ⟨rfl, aC⟩; obtain ⟨l0, l1, l2, l3⟩ := HI.out.lc _ _ _ _ _ aC; obtain ⟨r0, r1, r2, r3⟩ := HI.out.rc _ _ _ _ _ aC; have bR := aa aC; clear aC)
  refine hK.out _ _ ⟨l0, l1, l2, l3, r0, r1, r2, r3⟩ (fun tw => ?_)
  refine wpAnyH_ready (rs := [5]) (by kernel_rfl) (by simp) ?_
  refine AllReadyH.cons rfl (fun K' hK => ?_) AllReadyH.nil
  rw [if_pos (by rfl)]
  first
  |clear k_O12_0
   go_wp2_with (go_at_call 117; refine (cw (sB.out Bs Ob _ _ _ bR.out (HI.out.below _ _ _ _ _ bR.out) (HF1.out _ (LB.out _ HM.out))) qQ.out).mono ?_; rintro e w3 ⟨rfl, bY⟩; obtain ⟨l0, l1, l2, l3⟩ := HI.out.lc _ _ _ _ _ bY; obtain ⟨r0, r1, r2, r3⟩ := HI.out.rc _ _ _ _ _ bY; have e7 := aa bY; clear bY)
   refine hK.out _ _ ⟨l0, l1, l2, l3, r0, r1, r2, r3⟩ (fun xQ => ?_)
   refine wpAnyH_done (by kernel_rfl) ?_ _
   go_wp2
   go_ret
   exact ⟨rfl, HI.out.back _ _ _ _ _ e7.out⟩
  |clear k_O12_1
   go_wp2_with (go_at_call 117; refine (dr (sB.out Bs Ob _ _ _ bR.out (HI.out.below _ _ _ _ _ bR.out) (HF1.out _ (LB.out _ HM.out))) qQ.out).mono ?_; rintro e w3 ⟨rfl, cZ⟩; skip)
   exact ⟨rfl, rfl, (HI.out.below _ _ _ _ _ bR.out).trans cZ⟩) : G := h
theorem Wq (h : G := by
 have HM := aa hM
 clear hM
 rw [CR.bind_error]
 have k_O17_0 := kk
 exact OH) : G := h
theorem Wp (h : G := by
 have P1 : Hid True := trivial
 have k_O17_1 := kk
 exact OH) : G := h
theorem Wo (h : G := by
 have k_O17_2 := kk
 exact OH) : G := h
theorem OH (h : G := by
 go_enter Tryz.func139, Tryz.ntmps139
 go_wp2
 go_region_held3 (fun W => W.cell? ⟨w.heap.size, 2, none⟩ = some (.string T.name) ∧ W.cell? ⟨w.heap.size, 3, none⟩ = some (.slice (some ⟨g, off, none⟩) T.len cap) ∧ W.cell? ⟨g, off, none⟩ = some (.int .i64 A.kind) ∧ W.cell? ⟨g, off + 1, none⟩ = some (.int .i64 A.num) ∧ W.cell? ⟨g, off + 2, none⟩ = some (.string A.name) ∧ W.cell? ⟨g, off + 3, none⟩ = some (.slice a0 A.len q0) ∧ W.cell? ⟨g, off + 4, none⟩ = some (.int .i64 B.kind) ∧ W.cell? ⟨g, off + 4 + 1, none⟩ = some (.int .i64 B.num) ∧ W.cell? ⟨g, off + 4 + 2, none⟩ = some (.string B.name) ∧ W.cell? ⟨g, off + 4 + 3, none⟩ = some (.slice a1 B.len q1)) (go_keep) (fail)
 clear eA ez ey ew gS gN gR gM d00 d01 d02 d03 d10 d11 d12 d13
 rotate_left
 first
 |clear k_O17_0
  first
  |clear k_O14_0
   ·have k_O18_0 := kk
    exact BR
   ·have k_O19_0 := kk
    exact BQ
  |clear k_O14_1
   ·have k_O18_1 := kk
    exact BR
   ·have k_O19_1 := kk
    exact BQ
 |clear k_O17_1
  first
  |clear k_O15_0
   ·have k_O18_2 := kk
    exact BR
   ·have k_O19_2 := kk
    exact BQ
  |clear k_O15_1
   ·have k_O18_3 := kk
    exact BR
   ·have k_O19_3 := kk
    exact BQ
 |clear k_O17_2
  first
  |clear k_O16_0
   ·have k_O18_4 := kk
    exact BR
   ·have k_O19_4 := kk
    exact BQ
  |clear k_O16_1
   ·have k_O18_5 := kk
    exact BR
   ·have k_O19_5 := kk
    exact BQ) : G := h
theorem BR (h : G := by
 obtain ⟨Ob, hI⟩ := oP.out
 have nm : (((w.alloc (nO T (.slice (some ⟨g, off, none⟩) T.len cap))).alloc (nO B (.slice a1 B.len q1))).alloc (nO A (.slice a0 A.len q0))).drew.cell? ⟨w.heap.size, 2, none⟩ = some (.string T.name) := by simp [go_sem]
 generalize (((w.alloc (nO T (.slice (some ⟨g, off, none⟩) T.len cap))).alloc (nO B (.slice a1 B.len q1))).alloc (nO A (.slice a0 A.len q0))).drew = X at *
 generalize ((w.alloc (nO T (.slice (some ⟨g, off, none⟩) T.len cap))).alloc (nO B (.slice a1 B.len q1))).alloc (nO A (.slice a0 A.len q0)) = Bs at *
 clear IH IG IL IJ HAB oP
 generalize w.heap.size + 1 + 1 = lb at *
 generalize w.heap.size + 1 = rb at *
 first
 |clear k_O18_0
  exact bO5
 |clear k_O18_1
  exact bO2
 |clear k_O18_2
  exact bO4
 |clear k_O18_3
  exact bO3
 |clear k_O18_4
  exact bO1
 |clear k_O18_5
  exact bO0) : G := h
theorem BQ (h : G := by
 obtain ⟨Ob, hI⟩ := HAB.out
 have nm : (((w.alloc (nO T (.slice (some ⟨g, off, none⟩) T.len cap))).alloc (nO A (.slice a0 A.len q0))).alloc (nO B (.slice a1 B.len q1))).drew.cell? ⟨w.heap.size, 2, none⟩ = some (.string T.name) := by simp [go_sem]
 generalize (((w.alloc (nO T (.slice (some ⟨g, off, none⟩) T.len cap))).alloc (nO A (.slice a0 A.len q0))).alloc (nO B (.slice a1 B.len q1))).drew = X at *
 generalize ((w.alloc (nO T (.slice (some ⟨g, off, none⟩) T.len cap))).alloc (nO A (.slice a0 A.len q0))).alloc (nO B (.slice a1 B.len q1)) = Bs at *
 clear IH IG IL IJ HAB oP
 generalize w.heap.size + 1 + 1 = rb at *
 generalize w.heap.size + 1 = lb at *
 first
 |clear k_O19_0
  exact bO5
 |clear k_O19_1
  exact bO2
 |clear k_O19_2
  exact bO4
 |clear k_O19_3
  exact bO3
 |clear k_O19_4
  exact bO1
 |clear k_O19_5
  exact bO0) : G := h
theorem OG (h : G := by
 have HI := aa hI
 obtain ⟨l0, l1, l2, l3⟩ := hI.lc _ _ _ _ _ hI.st
 obtain ⟨r0, r1, r2, r3⟩ := hI.rc _ _ _ _ _ hI.st
 clear hI
 rcases HD.out with ⟨n1, rfl, rfl⟩ | ⟨n1, n2, rfl, rfl⟩ | ⟨n1, n2, n3, rfl, rfl⟩ | ⟨n1, n2, n3, n4, rfl, rfl⟩ | ⟨n1, n2, n3, n4, n5, rfl, rfl⟩ | ⟨n1, n2, n3, n4, n5, n6, rfl, rfl⟩ | ⟨n1, n2, n3, n4, n5, n6, rfl, rfl⟩
 first
 |clear k_O20_0
  all_goals go_wp2_with (first
   |(clear P1; go_at_call 117; refine (cw (jn.out Bs Ob _ _ _ HI.out.st (HI.out.below _ _ _ _ _ HI.out.st) iP.out) HM.out).mono ?_; rintro e w2 ⟨rfl, aC⟩; obtain ⟨r0, r1, r2, r3⟩ := HI.out.rc _ _ _ _ _ aC; have bR := aa aC; clear aC)
   |(go_at_call 117; refine (cw (sB.out Bs Ob _ _ _ bR.out (HI.out.below _ _ _ _ _ bR.out) (HF1.out _ (LB.out _ HM.out))) qQ.out).mono ?_; rintro e w3 ⟨rfl, bY⟩; have e7 := aa bY; clear bY))
  all_goals go_ret
  all_goals exact ⟨rfl, HI.out.back _ _ _ _ _ e7.out⟩
 |clear k_O20_1
  all_goals go_wp2_with (first
   |(clear P1; go_at_call 117; refine (cw (jn.out Bs Ob _ _ _ HI.out.st (HI.out.below _ _ _ _ _ HI.out.st) iP.out) HM.out).mono ?_; rintro e w2 ⟨rfl, aC⟩; obtain ⟨r0, r1, r2, r3⟩ := HI.out.rc _ _ _ _ _ aC; have bR := aa aC; clear aC)
   |(go_at_call 117; refine (dr (sB.out Bs Ob _ _ _ bR.out (HI.out.below _ _ _ _ _ bR.out) (HF1.out _ (LB.out _ HM.out))) qQ.out).mono ?_; rintro e w3 ⟨rfl, cZ⟩; skip))
  all_goals exact ⟨rfl, rfl, (HI.out.below _ _ _ _ _ bR.out).trans cZ⟩
 |clear k_O20_2
  all_goals go_wp2_with (first
   |(go_at_call 117; refine (dr (jn.out Bs Ob _ _ _ HI.out.st (HI.out.below _ _ _ _ _ HI.out.st) iP.out) HM.out).mono ?_; rintro e w2 ⟨rfl, ba⟩; skip))
  all_goals exact ⟨rfl, rfl, (HI.out.below _ _ _ _ _ HI.out.st).trans ba⟩) : G := h
theorem Wm (h : G := by
 have fz : g < w.heap.size := by omega
 have IH : g < w.heap.size + 1 := by omega
 have IG : g < w.heap.size + 1 + 1 := by omega
 have Tp : ¬ g = w.heap.size := by omega
 have IL : ¬ g = w.heap.size + 1 := by omega
 have IJ : ¬ g = w.heap.size + 1 + 1 := by omega
 obtain ⟨eA, ez, ey, ew⟩ := dP.out w (Below.refl _ _)
 first
 |clear k_O21_0
  have iB : 0 < T.len := by omega
  clear hS hE hN aD bg bS aZ aV fs dI iA aS hk hl
  cases K4 : qU T.name with
  |true =>
   rw [K4] at ju
   have M5 : (T.name.toList == [33]) = true := ju.symm
   simp only [if_true]
   clear ju K4
   cases hM : aE (bP K.F (T.kids 0)) 2 (ae s) with
   |error p =>
    have HM := aa hM
    clear hM
    rw [CR.bind_error]
    go_enter Tryz.func138, Tryz.ntmps138
    go_wp2_with (first
     |(go_at_call 117; refine (dr (jn.out _ _ _ _ _ 2 bh.out iP.out) HM.out).mono ?_; rintro e w2 ⟨rfl, ba⟩; skip))
    exact ⟨rfl, rfl, (bF.out _ _ _ _ _ bh.out).trans ba⟩
   |ok s1 =>
    have HM := aa hM
    clear hM
    rw [CR.bind_ok]
    go_enter Tryz.func138, Tryz.ntmps138
    go_wp2_with (first
     |(go_at_call 117; refine (cw (jn.out _ _ _ _ _ 2 bh.out iP.out) HM.out).mono ?_; rintro e w2 ⟨rfl, aC⟩; have bR := aa aC; clear aC))
    go_ret
    exact ⟨rfl, eB.out _ _ _ _ _ bR.out⟩
  |false =>
   rw [K4] at ju
   have M5 : (T.name.toList == [33]) = false := ju.symm
   simp only [if_false, Bool.false_eq_true]
   clear ju K4
   cases hM : aE (bP K.F (T.kids 0)) 1 (ae s) with
   |error p =>
    have HM := aa hM
    clear hM
    rw [CR.bind_error]
    go_enter Tryz.func138, Tryz.ntmps138
    go_wp2_with (first
     |(go_at_call 117; refine (dr (jn.out _ _ _ _ _ 1 bh.out iP.out) HM.out).mono ?_; rintro e w2 ⟨rfl, ba⟩; skip))
    exact ⟨rfl, rfl, (bF.out _ _ _ _ _ bh.out).trans ba⟩
   |ok s1 =>
    have HM := aa hM
    clear hM
    rw [CR.bind_ok]
    go_enter Tryz.func138, Tryz.ntmps138
    go_wp2_with (first
     |(go_at_call 117; refine (cw (jn.out _ _ _ _ _ 1 bh.out iP.out) HM.out).mono ?_; rintro e w2 ⟨rfl, aC⟩; have bR := aa aC; clear aC))
    go_ret
    exact ⟨rfl, eB.out _ _ _ _ _ bR.out⟩
 |clear k_O21_1
  obtain ⟨gS, gN, gR, gM⟩ := fT.out w (Below.refl _ _)
  obtain ⟨d00, d01, d02, d03⟩ := dP.out _ (bF.out _ _ _ _ _ bh.out)
  obtain ⟨d10, d11, d12, d13⟩ := fT.out _ (bF.out _ _ _ _ _ bh.out)
  have iB : 0 < T.len := by omega
  have rS : (1 : Int) < (T.len : Int) := by omega
  have nY : 1 < T.len := by omega
  first
  |clear k_O11_0
   have HD := aa hD
   have LB := aa (fun s1 (h : aE (bP K.F (T.kids 0)) side (ae s) = .ok s1) => ((ej K.F _ dh).want side _ _ h).2)
   clear hD zg
   clear hS hE hN aD bg bS aZ aV fs dI eM fN aS hk hl ih iA dh j5 ay
   generalize T.kids 0 = A at *
   generalize T.kids 1 = B at *
   cases hM : aE (bP K.F A) side (ae s) with
   |error p =>
    have k_O14_0 := kk
    exact Wq
   |ok s1 =>
    have HM := aa hM
    clear hM
    rw [CR.bind_ok]
    cases Bw : aE (bP K.F B) side s1 with
    |error p =>
     have qQ := aa Bw
     clear Bw
     rw [CR.bind_error]
     have k_O15_0 := kk
     exact Wp
    |ok s2 =>
     have qQ := aa Bw
     clear Bw
     rw [CR.bind_ok]
     have k_O15_1 := kk
     exact Wp
  |clear k_O11_1
   have HD := aa dn
   have LB := aa (fun r (h : cN (bP K.F (T.kids 0)) (ae s) = .ok r) => ((ej K.F _ dh).value _ _ _ h).2)
   clear dn zg
   clear hS hE hN aD bg bS aZ aV fs dI eM fN aS hk hl ih iA dh j5 ay
   generalize T.kids 0 = A at *
   generalize T.kids 1 = B at *
   cases hM : cN (bP K.F A) (ae s) with
   |error p =>
    have k_O14_1 := kk
    exact Wq
   |ok r =>
    obtain ⟨ty, s1⟩ := r
    have HM := aa hM
    clear hM
    rw [CR.bind_ok]
    dsimp only at *
    cases Bw : aE (bP K.F B) ty s1 with
    |error p =>
     have qQ := aa Bw
     clear Bw
     rw [CR.bind_error]
     have k_O16_0 := kk
     exact Wo
    |ok s2 =>
     have qQ := aa Bw
     clear Bw
     rw [CR.bind_ok]
     have k_O16_1 := kk
     exact Wo) : G := h
theorem Wl (h : G := by
 obtain ⟨O1, aD, bg, bS, aZ⟩ := hS.boxed (nO T (.slice (some ⟨g, off, none⟩) T.len cap))
 have cP := aa bS
 have bF := aa aZ
 have eB := aa bg
 have bh := aa aD
 have fy : K.lo ≤ w.heap.size := by have := hS.lt; have := hS.ok.cl; omega
 have dK := hS.ok.few
 first
 |clear k_O22_0
  have jn := aa (fun (W : World) (st : CS) (ret loops ai : Int) (ty : Int) (hW : IS K (w.alloc (nO T (.slice (some ⟨g, off, none⟩) T.len cap))) O1 st ret loops ai W) (hf : st.2.length + (T.kids 0).size ≤ K.N) => ec (ih 0 (by omega)) K _ O1 st ret loops ai W u0 ty hW (hE.later (aZ _ _ _ _ _ hW)) ((hN.kid (by omega) dI).later (aZ _ _ _ _ _ hW)) hf dh)
  have iP := aa (gz ay (i := 0) (by omega))
  have ju := sS T.name
  unfold Nd.val
  have k_O21_0 := kk
  exact Wm
 |clear k_O22_1
  have HAB := aa (RS hS (nO T (.slice (some ⟨g, off, none⟩) T.len cap)) (T.kids 0) (T.kids 1) (.slice a0 (T.kids 0).len q0) (.slice a1 (T.kids 1).len q1) 25)
  have oP := aa (RQ hS (nO T (.slice (some ⟨g, off, none⟩) T.len cap)) (T.kids 0) (T.kids 1) (.slice a0 (T.kids 0).len q0) (.slice a1 (T.kids 1).len q1) 25)
  have jn := aa (fun (Bs : World) (Ob : Nat → Prop) (W : World) (st : CS) (ty : Int) (hW : IS K Bs Ob st ret loops ai W) (hb : Below K.lo w W) (hf : st.2.length + (T.kids 0).size ≤ K.N) => ec (ih 0 (by omega)) K Bs Ob st ret loops ai W (.slice a0 (T.kids 0).len q0) ty hW (hE.later hb) ((hN.kid (by omega) dI).later hb) hf dh)
  have J2 := aa (fun (Bs : World) (Ob : Nat → Prop) (W : World) (st : CS) (hW : IS K Bs Ob st ret loops ai W) (hb : Below K.lo w W) (hf : st.2.length + (T.kids 0).size ≤ K.N) => jT (ih 0 (by omega)) K Bs Ob st ret loops ai W (.slice a0 (T.kids 0).len q0) hW (hE.later hb) ((hN.kid (by omega) dI).later hb) hf dh)
  have sB := aa (fun (Bs : World) (Ob : Nat → Prop) (W : World) (st : CS) (ty : Int) (hW : IS K Bs Ob st ret loops ai W) (hb : Below K.lo w W) (hf : st.2.length + (T.kids 1).size ≤ K.N) => ec (ih 1 (by omega)) K Bs Ob st ret loops ai W (.slice a1 (T.kids 1).len q1) ty hW (hE.later hb) ((hN.kid (by omega) fN).later hb) hf j5)
  have HV1 := aa (fun (Bs : World) (Ob : Nat → Prop) (W : World) (st : CS) (hW : IS K Bs Ob st ret loops ai W) (hb : Below K.lo w W) (hf : st.2.length + (T.kids 1).size ≤ K.N) => jT (ih 1 (by omega)) K Bs Ob st ret loops ai W (.slice a1 (T.kids 1).len q1) hW (hE.later hb) ((hN.kid (by omega) fN).later hb) hf j5)
  have iP := aa (gz ay (i := 0) (by omega))
  have HF1 : Hid (∀ st : CS, st.2.length = (ae s).2.length + (T.kids 0).size → st.2.length + (T.kids 1).size ≤ K.N) := by
   exact bO6
  unfold Nd.val at *
  have k_O21_1 := kk
  exact Wm) : G := h
theorem OF (h : G := by
 have HI := aa hI
 obtain ⟨l0, l1, l2, l3⟩ := hI.lc _ _ _ _ _ hI.st
 obtain ⟨r0, r1, r2, r3⟩ := hI.rc _ _ _ _ _ hI.st
 clear hI
 have bH := jK
 rcases HD.out with ⟨n1, _⟩ | ⟨n1, n2⟩
 first
 |clear k_O23_0
  ·exact bO7
  ·exact bO7
 |clear k_O23_1
  ·exact bO8
  ·exact bO8
 |clear k_O23_2
  ·exact bO9
  ·exact bO9) : G := h
theorem al {w : World} {b : Nat} {a b' : Int} {c : ByteArray} {d : Value} {t : TypeId} (h : w.heap[b]? = some (.cells #[.int .i64 a, .int .i64 b', .string c, d] t)) : w.cell? ⟨b, 0, none⟩ = some (.int .i64 a) ∧ w.cell? ⟨b, 1, none⟩ = some (.int .i64 b') ∧ w.cell? ⟨b, 2, none⟩ = some (.string c) ∧ w.cell? ⟨b, 3, none⟩ = some d := by
 refine ⟨?_, ?_, ?_, ?_⟩ <;> simp [World.cell?, h]
theorem dr {α : Type} {K : IK} {f : FuncId} {args : Array Value} {w : World} {M : CR α} {eH : α → Ending → World → Prop} (h : Calls Tryz.prog f args w (kQ K w M eH)) {p : Int × Nat} (hM : M = .error p) : Calls Tryz.prog f args w fun e w' => e = .panicked [{ v := q6 p, recovered := false }] ∧ Below K.lo w w' := by subst hM; exact h
theorem cw {α : Type} {K : IK} {f : FuncId} {args : Array Value} {w : World} {M : CR α} {eH : α → Ending → World → Prop} (h : Calls Tryz.prog f args w (kQ K w M eH)) {a : α} (hM : M = .ok a) : Calls Tryz.prog f args w (eH a) := by subst hM; exact h
theorem gz {K : IK} {T : Nd} {s : CS} (ay : s.2.length + T.size ≤ K.N) {i : Nat} (hi : i < T.len) : (ae s).2.length + (T.kids i).size ≤ K.N := by
 have := aL T hi; rw [aP]; omega
def X3 (T : Nd) : Prop := ∀ (K : IK) (w0 : World) (O : Nat → Prop) (s : CS) (ret loops ai : Int) (w : World) (v : Value), IS K w0 O (ae s) ret loops ai w → IEnv K w → INd K w T v → s.2.length + T.size ≤ K.N → T.kind = 27 → T.eOk = true →
 Calls Tryz.prog 138 #[.pointer (some ⟨K.cb, 0, none⟩), T.val v] w (kQ K w (bI K.F T.kind T.name T.len (fun i => bP K.F (T.kids i)) (ae s) s.2.length) fun r e w' => e = .returned (.int .i64 r.1) ∧ IS K w0 O r.2 ret loops ai w')
theorem Mr {T : Nd} (ih : ∀ i, i < T.len → oo (T.kids i)) : X3 T := by
 intro K w0 O s ret loops ai w v hS hE hN ay hk aS
 obtain ⟨hl, dh⟩ := zC hk aS
 have iA : bI K.F T.kind T.name T.len (fun i => bP K.F (T.kids i)) (ae s) s.2.length = CR.bind (aE (bP K.F (T.kids 0)) (if qU T.name then 2 else 1) (ae s)) fun s1 => .ok (if qU T.name then 2 else 1, s1) := by
  unfold bI
  iterate 5 rw [if_neg (by omega)]
  rw [if_pos hk]
 rw [iA]
 obtain ⟨g, off, cap, hv, iM, cr, aV⟩ := dq hN.row (by omega)
 subst hv
 obtain ⟨u0, fs, dI⟩ := aV 0 (by omega)
 simp only [Nat.zero_mul, Nat.add_zero] at fs
 have dP := aa fs
 have k_O22_0 := kk
 exact Wl
def J0 (T : Nd) : Prop := ∀ (K : IK) (w0 : World) (O : Nat → Prop) (s : CS) (ret loops ai : Int) (w : World) (v : Value), IS K w0 O (ae s) ret loops ai w → IEnv K w → INd K w T v → s.2.length + T.size ≤ K.N → T.kind = 28 → T.eOk = true →
 Calls Tryz.prog 139 #[.pointer (some ⟨K.cb, 0, none⟩), T.val v] w (kQ K w (bI K.F T.kind T.name T.len (fun i => bP K.F (T.kids i)) (ae s) s.2.length) fun r e w' => e = .returned (.int .i64 r.1) ∧ IS K w0 O r.2 ret loops ai w')
theorem IS.boxed3 {K : IK} {w0 : World} {O : Nat → Prop} {s : CS} {ret loops ai : Int} {w : World} (h : IS K w0 O s ret loops ai w) (o1 o2 o3 : Obj) : ∃ O3 : Nat → Prop, IS K (((w.alloc o1).alloc o2).alloc o3) O3 s ret loops ai (((w.alloc o1).alloc o2).alloc o3) ∧ (∀ s' r' l' o' W, IS K (((w.alloc o1).alloc o2).alloc o3) O3 s' r' l' o' W → IS K w0 O s' r' l' o' W) ∧
  (∀ s' r' l' o' W, IS K (((w.alloc o1).alloc o2).alloc o3) O3 s' r' l' o' W → W.heap[w.heap.size]? = some o1 ∧ W.heap[w.heap.size + 1]? = some o2 ∧ W.heap[w.heap.size + 1 + 1]? = some o3) ∧ ∀ s' r' l' o' W, IS K (((w.alloc o1).alloc o2).alloc o3) O3 s' r' l' o' W → Below K.lo w W := by
 obtain ⟨O1, a1, a2, a3, a4⟩ := h.boxed o1
 obtain ⟨O2, b1, b2, b3, b4⟩ := a1.boxed o2
 obtain ⟨O3, c1, c2, c3, c4⟩ := b1.boxed o3
 refine ⟨O3, c1, fun s' r' l' o' W hW => a2 _ _ _ _ _ (b2 _ _ _ _ _ (c2 _ _ _ _ _ hW)), fun s' r' l' o' W hW => ⟨a3 _ _ _ _ _ (b2 _ _ _ _ _ (c2 _ _ _ _ _ hW)), ?_, ?_⟩, fun s' r' l' o' W hW => a4 _ _ _ _ _ (b2 _ _ _ _ _ (c2 _ _ _ _ _ hW))⟩
 ·have := b3 _ _ _ _ _ (c2 _ _ _ _ _ hW); simpa using this
 ·have := c3 _ _ _ _ _ hW; simpa using this
structure I2 (K : IK) (w0 : World) (O : Nat → Prop) (Bs : World) (Ob : Nat → Prop) (w : World) (A B : Nd) (va vb : Value) (lb rb : Nat) (s : CS) (ret loops ai : Int) (X : World) : Prop where
 st : IS K Bs Ob s ret loops ai X
 back : ∀ s' r' l' o' W, IS K Bs Ob s' r' l' o' W → IS K w0 O s' r' l' o' W
 below : ∀ s' r' l' o' W, IS K Bs Ob s' r' l' o' W → Below K.lo w W
 lc : ∀ s' r' l' o' W, IS K Bs Ob s' r' l' o' W → W.cell? ⟨lb, 0, none⟩ = some (.int .i64 A.kind) ∧ W.cell? ⟨lb, 1, none⟩ = some (.int .i64 A.num) ∧ W.cell? ⟨lb, 2, none⟩ = some (.string A.name) ∧ W.cell? ⟨lb, 3, none⟩ = some va
 rc : ∀ s' r' l' o' W, IS K Bs Ob s' r' l' o' W → W.cell? ⟨rb, 0, none⟩ = some (.int .i64 B.kind) ∧ W.cell? ⟨rb, 1, none⟩ = some (.int .i64 B.num) ∧ W.cell? ⟨rb, 2, none⟩ = some (.string B.name) ∧ W.cell? ⟨rb, 3, none⟩ = some vb
theorem RS {K : IK} {w0 : World} {O : Nat → Prop} {s : CS} {ret loops ai : Int} {w : World} (h : IS K w0 O s ret loops ai w) (o : Obj) (A B : Nd) (va vb : Value) (t : TypeId) : ∃ Ob, I2 K w0 O (((w.alloc o).alloc (.cells #[.int .i64 A.kind, .int .i64 A.num, .string A.name, va] t)).alloc (.cells #[.int .i64 B.kind, .int .i64 B.num, .string B.name, vb] t)) Ob w A B va vb (w.heap.size + 1) (w.heap.size + 1 + 1) s ret loops ai (((w.alloc o).alloc (.cells #[.int .i64 A.kind, .int .i64 A.num, .string A.name, va] t)).alloc (.cells #[.int .i64 B.kind, .int .i64 B.num, .string B.name, vb] t)).drew := by
 obtain ⟨O3, h1, h2, h3, h4⟩ := h.boxed3 o (.cells #[.int .i64 A.kind, .int .i64 A.num, .string A.name, va] t) (.cells #[.int .i64 B.kind, .int .i64 B.num, .string B.name, vb] t)
 exact ⟨O3, h1.drew, h2, h4, fun s' r' l' o' W hW => al (h3 _ _ _ _ _ hW).2.1, fun s' r' l' o' W hW => al (h3 _ _ _ _ _ hW).2.2⟩
theorem RQ {K : IK} {w0 : World} {O : Nat → Prop} {s : CS} {ret loops ai : Int} {w : World} (h : IS K w0 O s ret loops ai w) (o : Obj) (A B : Nd) (va vb : Value) (t : TypeId) : ∃ Ob, I2 K w0 O (((w.alloc o).alloc (.cells #[.int .i64 B.kind, .int .i64 B.num, .string B.name, vb] t)).alloc (.cells #[.int .i64 A.kind, .int .i64 A.num, .string A.name, va] t)) Ob w A B va vb (w.heap.size + 1 + 1) (w.heap.size + 1) s ret loops ai (((w.alloc o).alloc (.cells #[.int .i64 B.kind, .int .i64 B.num, .string B.name, vb] t)).alloc (.cells #[.int .i64 A.kind, .int .i64 A.num, .string A.name, va] t)).drew := by
 obtain ⟨O3, h1, h2, h3, h4⟩ := h.boxed3 o (.cells #[.int .i64 B.kind, .int .i64 B.num, .string B.name, vb] t) (.cells #[.int .i64 A.kind, .int .i64 A.num, .string A.name, va] t)
 exact ⟨O3, h1.drew, h2, h4, fun s' r' l' o' W hW => al (h3 _ _ _ _ _ hW).2.2, fun s' r' l' o' W hW => al (h3 _ _ _ _ _ hW).2.1⟩
def XU (n : ByteArray) (side whole : Int) : Prop :=
 ((n.toList == [38, 38]) = true ∧ side = 2 ∧ whole = 2) ∨
 ((n.toList == [38, 38]) = false ∧ (n.toList == [124, 124]) = true ∧ side = 2 ∧ whole = 2) ∨
 ((n.toList == [38, 38]) = false ∧ (n.toList == [124, 124]) = false ∧ (n.toList == [60]) = true ∧ side = 1 ∧ whole = 2) ∨
 ((n.toList == [38, 38]) = false ∧ (n.toList == [124, 124]) = false ∧ (n.toList == [60]) = false ∧ (n.toList == [60, 61]) = true ∧ side = 1 ∧ whole = 2) ∨
 ((n.toList == [38, 38]) = false ∧ (n.toList == [124, 124]) = false ∧ (n.toList == [60]) = false ∧ (n.toList == [60, 61]) = false ∧ (n.toList == [62]) = true ∧ side = 1 ∧ whole = 2) ∨
 ((n.toList == [38, 38]) = false ∧ (n.toList == [124, 124]) = false ∧ (n.toList == [60]) = false ∧ (n.toList == [60, 61]) = false ∧ (n.toList == [62]) = false ∧ (n.toList == [62, 61]) = true ∧ side = 1 ∧ whole = 2) ∨
 ((n.toList == [38, 38]) = false ∧ (n.toList == [124, 124]) = false ∧ (n.toList == [60]) = false ∧ (n.toList == [60, 61]) = false ∧ (n.toList == [62]) = false ∧ (n.toList == [62, 61]) = false ∧ side = 1 ∧ whole = 1)
theorem kl {T : Nd} (ih : ∀ i, i < T.len → oo (T.kids i)) (side whole : Int) (Bh : (T.name.toList == [61, 61]) = false) (iL : (T.name.toList == [33, 61]) = false)
  (hD : XU T.name side whole) (MZ : ∀ (F : Nd) (ex : Nat → qI) (s : CS) (p : Nat), bI F T.kind T.name T.len ex s p = CR.bind (aE (ex 0) side s) fun s1 => CR.bind (aE (ex 1) side s1) fun s2 => .ok (whole, s2)) : J0 T := by
 have k_O11_0 := kk
 exact Wu
theorem El {T : Nd} (ih : ∀ i, i < T.len → oo (T.kids i)) (dn : ((T.name.toList == [61, 61]) = true ∧ True) ∨ ((T.name.toList == [61, 61]) = false ∧ (T.name.toList == [33, 61]) = true))
  (MZ : ∀ (F : Nd) (ex : Nat → qI) (s : CS) (p : Nat), bI F T.kind T.name T.len ex s p = CR.bind (cN (ex 0) s) fun r => CR.bind (aE (ex 1) r.1 r.2) fun s2 => .ok (2, s2)) : J0 T := by
 have k_O11_1 := kk
 exact Wu
end Go.Proofs.YteaocammohcgoaaGreatDoor
