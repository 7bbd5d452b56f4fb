import Derived.Test.YtkfbbdhidecefaaDoorUKdC
set_option linter.unusedVariables false
set_option maxHeartbeats 16000000
set_option maxRecDepth 100000
namespace Go.Proofs.YtkfbbdhidecefaaDoor
open Go.RowKit
variable {G : Prop}
theorem bS0 (h : G := by
 have k_S35_2 := kk
 exact O0) : G := h
theorem bS1 (h : G := by
 have k_S9_2 := kk
 exact bS9) : G := h
theorem bS2 (h : G := by
 have k_S10_1 := kk
 exact UM) : G := h
theorem bS3 (h : G := by
 go_still_tail 8, fH
 go_wp2_with (go_at_call 73; refine (C8.out w1 own1 _ _ us Aq.out _ wk.out.drew).mono ?_; rintro e w4 ⟨rfl, qT⟩; have Av := mK.out _ _ _ _ _ qT; obtain ⟨j9, j10, Re⟩ := Av.outs; have k9 : w4.cell? ⟨K.cb, 9, none⟩ = some (.int .i64 cx.ret) := j9; have vL : w4.cell? ⟨K.cb, 10, none⟩ = some (.int .i64 ((cx.loops : Int) + 1)) := j10; have uQ : w4.cell? ⟨K.cb, 11, none⟩ = some (.int .i64 ((cx.outs : Int) + 1)) := Re; have f10 := Av.free 10; have f11 := Av.free 11; have E3 := aa ((Av.setLoops cx.loops).setOuts cx.outs); clear qT Av j9 j10 Re)
 go_end0
 exact ⟨rfl, E3.out⟩) : G := h
theorem bS4 (h : G := by
 go_quiet (fail)
 go_wp2_with (go_at_call 52; refine (gJ (gh.out.calm (below_drewN _ _)) 9 (by decide) q).mono ?_; rintro e w3 ⟨rfl, fX⟩; have lZ := aa fX; clear fX)
 go_end0
 exact ⟨rfl, mK.out _ _ _ _ _ lZ.out⟩) : G := h
theorem bS5 (h : G := by
 rw [gl K.F (by omega)]
 unfold stM
 rw [if_neg (by omega), if_neg (by omega), if_neg (by omega), if_neg (by omega), if_neg (by omega), if_neg (by omega), if_neg (by omega), if_neg (by omega), if_pos hk, if_neg (by simp [hl, h0])]) : G := h
theorem bS6 (h : G := by
 rw [gl K.F (by omega)]
 unfold stM
 rw [if_neg (by omega), if_neg (by omega), if_neg (by omega), if_neg (by omega), if_neg (by omega), if_neg (by omega), if_neg (by omega), if_pos hk]; rw [hl]; exact F4.symm) : G := h
theorem bS7 (h : G := by
 first | go_end0 | refine bodyPost_ret (results_none rfl _ _ _) rfl ?_
 exact ⟨rfl, mK.out _ _ _ _ _ lZ.out⟩) : G := h
theorem bS8 (h : G := by
 have k_S12_0 := kk
 exact O7) : G := h
theorem bS9 (h : G := by
 have k_S12_1 := kk
 exact O7) : G := h
theorem UM (h : G := by
 have k_S12_2 := kk
 exact O7) : G := h
theorem Lj (h : G := by
 have k_S13_1 := kk
 exact UL) : G := h
theorem O7 (h : G := by
 have k_S13_0 := kk
 exact UL) : G := h
theorem UL (h : G := by
 have k_S27_1 := kk
 exact UA) : G := h
theorem UK (h : G := by
 have k_S25_1 := kk
 exact UB) : G := h
theorem UJ (h : G := by
 clear aF hS oi hE hN hk ax iW bz lj gV hl bP hσ tw xk IU zK h3
 have k_S22_0 := kk
 exact O1) : G := h
theorem UI (h : G := by
 clear aF hS oi hE hN hk ax iW bz lj gV hl bP
 generalize hq : s.2.length = q at *
 have fH := rJ
 go_enter Tryd.func84, Tryd.ntmps84
 go_wp2_with (first
  |(go_at_call 50; refine (cK.out _).mono ?_; rintro e w1 ⟨u, rfl, bl, hb1⟩; obtain ⟨own1, aY, bj, fY⟩ := mH.out w1 u _ hb1 bl; obtain ⟨ga, oa, ca, rfl, sh, iH⟩ := fY.ats (by omega); have HG := aa fY; have l3 := aa iH; have mK := aa bj; obtain ⟨b0, b1, b2, b3⟩ := HG.out.box _ _ _ _ _ aY; rw [mn.out] at b0; have a0 := l3.out _ _ _ _ _ aY 0 (by omega); rw [Nat.add_zero] at a0; obtain ⟨ja, iZ, iY, iX⟩ := gY.out _ (HG.out.below _ _ _ _ _ aY); obtain ⟨k9, vL, uQ⟩ := aY.outs; have gh := aa aY; clear aY bj fY iH bl hb1))
 first
 |clear k_S16_0
  go_quiet (fail)
  have Mi := gh.out.calm (below_drewN w1 nq)
  obtain ⟨b0, b1, b2, b3⟩ := HG.out.box _ _ _ _ _ Mi
  rw [mn.out] at b0
  have a0 := l3.out _ _ _ _ _ Mi 0 (by omega)
  rw [Nat.add_zero] at a0
  obtain ⟨ja, iZ, iY, iX⟩ := gY.out _ (HG.out.below _ _ _ _ _ Mi)
  obtain ⟨k9, vL, uQ⟩ := Mi.outs
  have HSQ := aa Mi
  clear Mi
  generalize w1.drewN nq = wq at *
  go_wp2
  go_still_tail 12, fH
  go_wp2_with (go_at_call 92; refine (EE.out _ _ _ _ HG.out _ _ _ _ _ _ _ HSQ.out.drew sX.out).mono ?_; rintro e w2 ⟨rfl, bH⟩; have lD := aa (mK.out _ _ _ _ _ bH); clear bH)
  go_end0
  exact ⟨rfl, lD.out⟩
 |clear k_S16_1
  exact bS4) : G := h
theorem UH (h : G := by
 clear aF hS oi hE hN hk ax iW bz lj gV hl bP
 have k_S22_1 := kk
 exact O1) : G := h
theorem UG (h : G := by
 have k_S22_2 := kk
 exact O1) : G := h
theorem UF (h : G := by
 have ig := hS.ok.few
 have bm := hS.lt
 have sf := hS.ok.cl
 have bP : 0 < T.size := by rw [T.size_eq]; omega
 have xk := hS.lens
 obtain ⟨a, cap, hv, bQ, IY⟩ := ar.1 hN.row
 subst hv
 clear IY
 have cK := aa (fun o => ly T (w.alloc o) _ K.lo s.2.length hN.fine (by simp; omega) (ae (hS.box o) lr hN.row) hN.cost (by omega))
 have mH := aa (fun (w1 : World) (u : Value) (t : TypeId) hb ha => pB (w1 := w1) (T := T) (v := .slice a T.len cap) (p := s.2.length) (u := u) (t := t) hS hb ha)
 have I4 := aa (fun (w1 : World) (own1 : Option Nat) (b : Nat) (u : Value) (hg : SGo K w w1 own1 b T (.slice a T.len cap) u s.2.length) hu => FZ hg hE hN hu)
 first
 |clear k_S19_0
  have C8 := aa (fun (w1 : World) (own1 : Option Nat) (u : Value) us (hL : qC K w1 own1 T s.2.length 0 T.len (.slice a T.len cap) u us) (W : World) (hW : SS K w1 own1 (.ok ([] :: s.1, s.2 ++ [0])) cx.ret cx.loops cx.outs W) => sT hL (fun i hi => by rw [Nat.zero_add]; exact ih i hi) _ cx W hW (by omega) (fun i hi => by rw [Nat.zero_add]; exact FW h4 ax i hi) (fun s' e => by injection e with e; subst e; exact ⟨by simp [aP, ag], by simp⟩) be (fun i hi => by rw [Nat.zero_add]; have := fK T hi; omega) (fun i hi => by rw [Nat.zero_add]; have := fK T hi; omega))
  have HNE := aa (F3 (F := K.F) (cx := cx) (s := ([] :: s.1, s.2 ++ [0])) h4 ax (by simp))
  have HJ := aa (Ag (F := K.F) (cx := cx) (s := s) [] (show T.kind ≠ 0 by omega))
  have mn := aa h4
  have PJ : Hid (s.2.length + 1 ≤ K.N) := by unfold Hid; omega
  unfold Nd.val at *
  rw [h4] at cK mH ⊢
  clear hS hE hN h4 ax ih be bP
  generalize hτ : within [] ((iB K.F T).sts cx) s = τ at *
  clear hτ
  go_enter Tryd.func89, Tryd.ntmps89
  go_wp2_with (first
   |(go_at_call 50; refine (cK.out _).mono ?_; rintro e w1 ⟨u, rfl, bl, hb1⟩; obtain ⟨own1, aY, bj, fY⟩ := mH.out w1 u _ hb1 bl; obtain ⟨b0, b1, b2, b3⟩ := fY.box _ _ _ _ _ aY; have GF : T.len = 0 → ∃ a' ca, u = .slice a' 0 ca ∧ ca ≤ 9223372036854775807 := (by obtain ⟨q1, q2, q3, q4, q5, _⟩ := bl; intro h0; exact ⟨q1, q2, by rw [q3, h0], q5⟩); obtain ⟨us, te⟩ := I4.out w1 own1 _ u fY GF; have Bm := aY.take PJ.out; obtain ⟨k8, f8, hd8⟩ := Bm.deep; have gh := aa (Bm.deeper (by rw [b5]; have := xk.2; exact this)); have HG := aa fY; have Aq := aa te; have mK := aa bj; clear aY Bm bj fY bl hb1 te GF)
   |(go_at_call 73; refine (C8.out w1 own1 u us Aq.out _ gh.out).mono ?_; rintro e w2 ⟨rfl, bH⟩; have lD := aa bH; clear bH)
   |(go_at_call 95; refine (xb lD.out HNE.out).mono ?_; rintro e w3 ⟨rfl, fX⟩; have lZ := aa (mK.out _ _ _ _ _ fX); clear fX))
  go_end0
  refine ⟨rfl, ?_⟩
  rw [← HJ.out]
  exact lZ.out
 |clear k_S19_1
  have C8 := aa (fun (w1 : World) (own1 : Option Nat) (u : Value) us (hL : qC K w1 own1 T s.2.length 0 T.len (.slice a T.len cap) u us) (W : World) (hW : SS K w1 own1 (.ok ([(name, 1)] :: s.1, s.2 ++ [0])) cx.ret cx.loops cx.outs W) => sT hL (fun i hi => by rw [Nat.zero_add]; exact ih i hi) _ cx W hW (by omega) (fun i hi => by rw [Nat.zero_add]; exact FW h4 ax i hi) (fun s' e => by injection e with e; subst e; exact ⟨by simp [aP, ag], by simp⟩) be (fun i hi => by rw [Nat.zero_add]; have := fK T hi; omega) (fun i hi => by rw [Nat.zero_add]; have := fK T hi; omega))
  have HNE := aa (F3 (F := K.F) (cx := cx) (s := ([(name, 1)] :: s.1, s.2 ++ [0])) h4 ax (by simp))
  have HJ := aa (Ag (F := K.F) (cx := cx) (s := s) [(name, 1)] (show T.kind ≠ 0 by omega))
  have HDV : Hid (cy ([] :: (ao s).1) + 1 ≤ (ao s).2.length) := by
   have e : cy ([] :: (ao s).1) = cy s.1 := by simp [cy, ao]
   unfold Hid; rw [e, b5]; omega
  have Qy : Hid (tj ([] :: s.1, s.2 ++ [0]) name 1 na = .ok ([(name, 1)] :: s.1, s.2 ++ [0])) := rfl
  obtain ⟨zI, Ax⟩ := A6 il
  have mn := aa h4
  have PJ : Hid (s.2.length + 1 ≤ K.N) := by unfold Hid; omega
  unfold Nd.val at *
  rw [h4] at cK mH ⊢
  clear hS hE hN h4 ax ih be bP
  generalize hτ : within [(name, 1)] ((iB K.F T).sts cx) s = τ at *
  clear hτ
  go_enter Tryd.func89, Tryd.ntmps89
  go_wp2_with (first
   |(go_at_call 50; refine (cK.out _).mono ?_; rintro e w1 ⟨u, rfl, bl, hb1⟩; obtain ⟨own1, aY, bj, fY⟩ := mH.out w1 u _ hb1 bl; obtain ⟨b0, b1, b2, b3⟩ := fY.box _ _ _ _ _ aY; have GF : T.len = 0 → ∃ a' ca, u = .slice a' 0 ca ∧ ca ≤ 9223372036854775807 := (by obtain ⟨q1, q2, q3, q4, q5, _⟩ := bl; intro h0; exact ⟨q1, q2, by rw [q3, h0], q5⟩); obtain ⟨us, te⟩ := I4.out w1 own1 _ u fY GF; have Bm := aY.take PJ.out; obtain ⟨k8, f8, hd8⟩ := Bm.deep; have gh := aa (Bm.deeper (by rw [b5]; have := xk.2; exact this)); have HG := aa fY; have Aq := aa te; have mK := aa bj; clear aY Bm bj fY bl hb1 te GF)
   |(go_at_call 72; go_loud (refine (pN gh.out name 1 na (by simp) HDV.out).mono ?_; rintro e w4 ⟨rfl, qT⟩; have Kr := qT; rw [show tj ([] :: (ao s).1, (ao s).2) name 1 na = .ok ([(name, 1)] :: s.1, s.2 ++ [0]) from Qy.out] at Kr; obtain ⟨b0, b1, b2, b3⟩ := HG.out.box _ _ _ _ _ Kr; have AE := aa Kr; clear qT Kr))
   |(go_at_call 73; refine (C8.out w1 own1 u us Aq.out _ AE.out).mono ?_; rintro e w2 ⟨rfl, bH⟩; have lD := aa bH; clear bH)
   |(go_at_call 95; refine (xb lD.out HNE.out).mono ?_; rintro e w3 ⟨rfl, fX⟩; have lZ := aa (mK.out _ _ _ _ _ fX); clear fX))
  go_end0
  refine ⟨rfl, ?_⟩
  rw [← HJ.out]
  exact lZ.out) : G := h
theorem UE (h : G := by
 rw [aF]
 subst tw
 have k_S32_0 := kk
 exact Uv) : G := h
theorem O2 (h : G := by
 have k_S24_0 := kk
 exact UC) : G := h
theorem O1 (h : G := by
 generalize hq : s.2.length = q at *
 have fH := rJ
 go_enter Tryd.func84, Tryd.ntmps84
 go_wp2_with (first
  |(go_at_call 50; refine (cK.out _).mono ?_; rintro e w1 ⟨u, rfl, bl, hb1⟩; obtain ⟨own1, aY, bj, fY⟩ := mH.out w1 u _ hb1 bl; obtain ⟨ga, oa, ca, rfl, sh, iH⟩ := fY.ats (by omega); have HG := aa fY; have l3 := aa iH; have mK := aa bj; obtain ⟨b0, b1, b2, b3⟩ := HG.out.box _ _ _ _ _ aY; rw [mn.out] at b0; have a0 := l3.out _ _ _ _ _ aY 0 (by omega); rw [Nat.add_zero] at a0; obtain ⟨ja, iZ, iY, iX⟩ := gY.out _ (HG.out.below _ _ _ _ _ aY); have gh := aa aY; clear aY bj fY iH bl hb1))
 go_still_tail 8, fH
 first
 |clear k_S22_0
  first
  |clear k_S15_0
   go_wp2_with (first
    |(go_at_call 90; refine (Lx.out _ _ _ _ HG.out _ _ _ _ _ _ gh.out.drew sX.out).mono ?_; rintro e w2 ⟨t, rfl, hR, bH⟩; rw [sU.out] at bH; obtain ⟨b0, b1, b2, b3⟩ := HG.out.box _ _ _ _ _ bH; rw [mn.out] at b0; have a0 := l3.out _ _ _ _ _ bH 0 (by omega); rw [Nat.add_zero] at a0; obtain ⟨ja, iZ, iY, iX⟩ := gY.out _ (HG.out.below _ _ _ _ _ bH); have k5 := bH.code0; obtain rfl : t = 3 := I3.out t hR; have lD := aa bH; clear bH hR)
    |(go_at_call 52; refine (gJ lD.out 7 (by decide) (aP T q 0)).mono ?_; rintro e w3 ⟨rfl, fX⟩; have lZ := aa fX; clear fX))
   go_end0
   exact ⟨rfl, mK.out _ _ _ _ _ lZ.out⟩
  |clear k_S15_1
   go_wp2_with (go_at_call 90; refine (Lx.out _ _ _ _ HG.out _ _ _ _ _ _ gh.out.drew sX.out).mono ?_; rintro e w2 ⟨t, rfl, hR, bH⟩; rw [sU.out] at bH; obtain ⟨b0, b1, b2, b3⟩ := HG.out.box _ _ _ _ _ bH; rw [mn.out] at b0; have a0 := l3.out _ _ _ _ _ bH 0 (by omega); rw [Nat.add_zero] at a0; obtain ⟨ja, iZ, iY, iX⟩ := gY.out _ (HG.out.below _ _ _ _ _ bH); have k5 := bH.code0; have h3n := I3.out t hR; have lD := aa bH; clear bH hR)
   go_end0
   exact ⟨rfl, mK.out _ _ _ _ _ lD.out⟩
 |clear k_S22_1
  first
  |clear k_S17_0
   go_wp2_with (go_at_call 92; refine (EE.out _ _ _ _ HG.out _ _ _ _ _ _ _ gh.out.drew sX.out).mono ?_; rintro e w2 ⟨rfl, bH⟩; have lD := aa (mK.out _ _ _ _ _ bH); clear bH)
   go_end0
   exact ⟨rfl, lD.out⟩
  |clear k_S17_1
   go_wp2_with (go_at_call 93; refine (I3.out _ _ _ _ HG.out _ _ _ _ _ _ gh.out.drew sX.out).mono ?_; rintro e w2 ⟨t, rfl, hR, bH⟩; have lD := aa (mK.out _ _ _ _ _ bH); clear bH hR)
   go_end0
   exact ⟨rfl, lD.out⟩
 |clear k_S22_2
  first
  |clear k_S18_0
   go_wp2_with (go_at_call 90; refine (Lx.out _ _ _ _ HG.out _ _ _ _ _ _ gh.out.drew sX.out).mono ?_; rintro e w2 ⟨t, rfl, hR, bH⟩; rw [sU.out] at bH; obtain ⟨b0, b1, b2, b3⟩ := HG.out.box _ _ _ _ _ bH; rw [mn.out] at b0; have a0 := l3.out _ _ _ _ _ bH 0 (by omega); rw [Nat.add_zero] at a0; obtain ⟨ja, iZ, iY, iX⟩ := gY.out _ (HG.out.below _ _ _ _ _ bH); obtain ⟨code, k5, hz⟩ := bH.code1; have lD := aa bH; clear bH hR)
   go_end0
   exact ⟨rfl, mK.out _ _ _ _ _ lD.out⟩
  |clear k_S18_1
   go_wp2_with (first
    |(go_at_call 90; refine (Lx.out _ _ _ _ HG.out _ _ _ _ _ _ gh.out.drew sX.out).mono ?_; rintro e w2 ⟨t, rfl, hR, bH⟩; rw [sU.out] at bH; obtain ⟨b0, b1, b2, b3⟩ := HG.out.box _ _ _ _ _ bH; rw [mn.out] at b0; have a0 := l3.out _ _ _ _ _ bH 0 (by omega); rw [Nat.add_zero] at a0; obtain ⟨ja, iZ, iY, iX⟩ := gY.out _ (HG.out.below _ _ _ _ _ bH); have k5 := bH.code0; obtain rfl : t = t0 := I3.out t hR; have lD := aa bH; clear bH hR)
    |(go_at_call 72; refine (pN lD.out T.name t q qD.out o6.out).mono ?_; rintro e w3 ⟨rfl, fX⟩; have lZ := aa fX; clear fX))
   go_end0
   exact ⟨rfl, by rw [← HT.out]; exact mK.out _ _ _ _ _ lZ.out⟩) : G := h
theorem UD (h : G := by
 clear aF hS oi hE hN hk bP hl
 generalize hq : s.2.length = q at *
 have fH := rJ
 go_enter Tryd.func84, Tryd.ntmps84
 go_wp2_with (first
  |(go_at_call 50; refine (cK.out _).mono ?_; rintro e w1 ⟨u, rfl, bl, hb1⟩; obtain ⟨own1, aY, bj, fY⟩ := mH.out w1 u _ hb1 bl; have HG := aa fY; have mK := aa bj; obtain ⟨b0, b1, b2, b3⟩ := HG.out.box _ _ _ _ _ aY; rw [mn.out] at b0; obtain ⟨k9, vL, uQ⟩ := aY.outs; have gh := aa aY; clear aY bj fY bl hb1))
 first
 |clear k_S23_0
  go_quiet (fail)
  go_wp2
  go_end0
  exact ⟨rfl, mK.out _ _ _ _ _ (gh.out.calm (below_drewN _ _))⟩
 |clear k_S23_1
  exact bS4) : G := h
theorem UC (h : G := by
 rw [aF]
 have k_S32_1 := kk
 exact Uv) : G := h
theorem UB (h : G := by
 have cK := aa (fun o => ly T (w.alloc o) _ K.lo s.2.length hN.fine (by simp; omega) (ae (hS.box o) lr hN.row) hN.cost (by omega))
 have mH := aa (fun (w1 : World) (u : Value) (t : TypeId) hb ha => pB (w1 := w1) (T := T) (v := .slice (some ⟨g, off, none⟩) T.len cap) (p := s.2.length) (u := u) (t := t) hS hb ha)
 first
 |clear k_S25_0
  have zH : ∀ i, i < T.len - 0 → (T.kids (0 + i)).sOk = true := by
   intro i hi
   obtain rfl : i = 0 := by omega
   exact hb1.2
  have I4 := aa (fun (w1 : World) (own1 : Option Nat) (b ga oa ca : Nat) (hg : SGo K w w1 own1 b T (.slice (some ⟨g, off, none⟩) T.len cap) (.slice (some ⟨ga, oa, none⟩) T.len ca) s.2.length) sh iH => uD hg hE hN sh iH 0 (by omega))
  have C8 := aa (fun (w1 : World) (own1 : Option Nat) (lv uv : Value) us (hL : qC K w1 own1 T s.2.length 0 (T.len - 0) lv uv us) (W : World) (hW : SS K w1 own1 (.ok (ao s)) cx.ret ((cx.loops : Int) + 1) ((cx.outs : Int) + 1) W) => sT hL (fun i hi => ih (0 + i) (by omega)) _ ⟨cx.ret, cx.loops + 1, cx.outs + 1⟩ W hW (by omega) zH ((fun s2 e => by injection e with e; subst e; exact ⟨by rw [b5]; rfl, iO⟩)) be (fun i hi => by have := fK T (i := 0 + i) (by omega); show cx.loops + 1 + _ ≤ _; omega) (fun i hi => by have := fK T (i := 0 + i) (by omega); show cx.outs + 1 + _ ≤ _; omega))
  have k_S31_0 := kk
  exact Uw
 |clear k_S25_1
  have EE := aa (fun (w1 : World) (own1 : Option Nat) (b : Nat) (u : Value) (hg : SGo K w w1 own1 b T (.slice (some ⟨g, off, none⟩) T.len cap) u s.2.length) (W : World) (σ : CR CS) (r l o : Int) (q : Nat) (ty : Int) (hW : SS K w1 own1 σ r l o W) (ha : SAt K (T.kids 0) σ q) => p4 (oE (T.kids 0)) K w1 own1 σ r l o W u0 q ty hW (hg.env hE hW) ((hN.kid (by omega) gV).later (hg.below _ _ _ _ _ hW)) ha lj)
  have Lx := aa (fun (w1 : World) (own1 : Option Nat) (b : Nat) (u : Value) (hg : SGo K w w1 own1 b T (.slice (some ⟨g, off, none⟩) T.len cap) u s.2.length) (W : World) (σ : CR CS) (r l o : Int) (q : Nat) (hW : SS K w1 own1 σ r l o W) (ha : SAt K (T.kids 0) σ q) => pz (oE (T.kids 0)) K w1 own1 σ r l o W u0 q hW (hg.env hE hW) ((hN.kid (by omega) gV).later (hg.below _ _ _ _ _ hW)) ha lj)
  first
  |clear k_S14_0
   have ED := aa (fun (w1 : World) (own1 : Option Nat) (b : Nat) (u : Value) (hg : SGo K w w1 own1 b T (.slice (some ⟨g, off, none⟩) T.len cap) u s.2.length) (W : World) (σ : CR CS) (r l o : Int) (q : Nat) (ty : Int) (hW : SS K w1 own1 σ r l o W) (ha : SAt K (T.kids 1) σ q) => p4 (oE (T.kids 1)) K w1 own1 σ r l o W u1 q ty hW (hg.env hE hW) ((hN.kid (by omega) mi).later (hg.below _ _ _ _ _ hW)) ha rL)
   have HV1 := aa (fun (w1 : World) (own1 : Option Nat) (b : Nat) (u : Value) (hg : SGo K w w1 own1 b T (.slice (some ⟨g, off, none⟩) T.len cap) u s.2.length) (W : World) (σ : CR CS) (r l o : Int) (q : Nat) (hW : SS K w1 own1 σ r l o W) (ha : SAt K (T.kids 1) σ q) => pz (oE (T.kids 1)) K w1 own1 σ r l o W u1 q hW (hg.env hE hW) ((hN.kid (by omega) mi).later (hg.below _ _ _ _ _ hW)) ha rL)
   have sX := aa (SAt.kid0 be ig (by omega))
   have I8 := aa (SAt.next (τ := fC K (T.kids 0) 3 (.ok (ao s))) sX.out (by omega) be ig (l5 lj))
   unfold Nd.val at *
   rw [hk] at cK mH ⊢
   have mn := aa hk
   have mB : 0 < T.len := by omega
   have GR : (1 : Int) < (T.len : Int) := by omega
   have Bn : 1 < T.len := by omega
   clear aF hS oi hE hN hk ax iW iQ bz lj rL gV mi hl bP
   generalize hq : s.2.length = q at *
   have fH := rJ
   go_enter Tryd.func84, Tryd.ntmps84
   go_wp2_with (first
    |(go_at_call 50; refine (cK.out _).mono ?_; rintro e w1 ⟨u, rfl, bl, hb1⟩; obtain ⟨own1, aY, bj, fY⟩ := mH.out w1 u _ hb1 bl; obtain ⟨ga, oa, ca, rfl, sh, iH⟩ := fY.ats (by omega); have HG := aa fY; have l3 := aa iH; have mK := aa bj; obtain ⟨b0, b1, b2, b3⟩ := HG.out.box _ _ _ _ _ aY; rw [mn.out] at b0; have a0 := l3.out _ _ _ _ _ aY 0 (by omega); rw [Nat.add_zero] at a0; obtain ⟨ja, iZ, iY, iX⟩ := gY.out _ (HG.out.below _ _ _ _ _ aY); have a1 := l3.out _ _ _ _ _ aY 1 (by omega); obtain ⟨om, oe, oj, oc⟩ := mI.out _ (HG.out.below _ _ _ _ _ aY); have gh := aa aY; clear aY bj fY iH bl hb1))
   go_still_tail 8, fH
   go_wp2_with (go_at_call 92; refine (EE.out _ _ _ _ HG.out _ _ _ _ _ _ _ gh.out.drew sX.out).mono ?_; rintro e w3 ⟨rfl, fX⟩; obtain ⟨b0, b1, b2, b3⟩ := HG.out.box _ _ _ _ _ fX; rw [mn.out] at b0; have a0 := l3.out _ _ _ _ _ fX 0 (by omega); rw [Nat.add_zero] at a0; obtain ⟨ja, iZ, iY, iX⟩ := gY.out _ (HG.out.below _ _ _ _ _ fX); have a1 := l3.out _ _ _ _ _ fX 1 (by omega); obtain ⟨om, oe, oj, oc⟩ := mI.out _ (HG.out.below _ _ _ _ _ fX); have lZ := aa fX; clear fX)
   go_still_tail 8, fH
   go_wp2_with (go_at_call 92; refine (ED.out _ _ _ _ HG.out _ _ _ _ _ _ _ lZ.out.drew I8.out).mono ?_; rintro e w4 ⟨rfl, qT⟩; have AE := aa (mK.out _ _ _ _ _ qT); clear qT)
   go_end0
   exact ⟨rfl, AE.out⟩
  |clear k_S14_1
   have sX := aa (SAt.kid0 be ig (by omega))
   first
   |clear k_S13_0
    unfold Nd.val at *
    rw [hk] at cK mH ⊢
    have mn := aa hk
    have mB : 0 < T.len := by omega
    first
    |clear k_S12_0
     have hpi : (0 : Int) < (T.len : Int) := by omega
     have hpi2 : decide ((0 : Int) < (T.len : Int)) = true := by simp; omega
     have hpi3 : decide (0 < T.len) = true := decide_eq_true (by omega)
     first
     |clear k_S8_0
      have N9 : (cx.ret == 0) = true := beq_iff_eq.2 h0
      have hr2' : (cx.ret != 0) = false := by simp only [bne, N9]; rfl
      have k_S16_1 := kk
      exact UI
     |clear k_S8_1
      have N9 : (cx.ret == 0) = false := bn h0
      have hr2' : (cx.ret != 0) = true := by simp only [bne, N9]; rfl
      have k_S16_0 := kk
      exact UI
    |clear k_S12_1
     have sU := aa hσ
     first
     |clear k_S9_0
      have I3 : Hid (∀ t', IP K (T.kids 0) (.ok (ao s)) t' → t' = 3) := by intro t' h; rw [← h3]; exact IU t' h
      have k_S15_0 := kk
      exact UJ
     |clear k_S9_1
      have I3 : Hid (∀ t', IP K (T.kids 0) (.ok (ao s)) t' → (t' == 3) = false) := by intro t' h; rw [IU t' h]; exact bn h3
      have k_S15_1 := kk
      exact UJ
     |clear k_S9_2
      clear aF hS oi hE hN hk ax iW bz lj gV hl bP hσ tw xk
      have k_S18_0 := kk
      exact UG
    |clear k_S12_2
     first
     |clear k_S10_0
      have H0 : Hid (look (ao s).1 T.name = look s.1 T.name) := vW
      have By : (look s.1 T.name == 0) = false := bn h0
      clear aF hS oi hE hN hk ax iW bz lj gV hl bP vW h0
      generalize look s.1 T.name = lk at *
      generalize hq : s.2.length = q at *
      have fH := rJ
      go_enter Tryd.func84, Tryd.ntmps84
      go_wp2_with (first
       |(go_at_call 50; refine (cK.out _).mono ?_; rintro e w1 ⟨u, rfl, bl, hb1⟩; obtain ⟨own1, aY, bj, fY⟩ := mH.out w1 u _ hb1 bl; obtain ⟨ga, oa, ca, rfl, sh, iH⟩ := fY.ats (by omega); have HG := aa fY; have l3 := aa iH; have mK := aa bj; obtain ⟨b0, b1, b2, b3⟩ := HG.out.box _ _ _ _ _ aY; rw [mn.out] at b0; have a0 := l3.out _ _ _ _ _ aY 0 (by omega); rw [Nat.add_zero] at a0; obtain ⟨ja, iZ, iY, iX⟩ := gY.out _ (HG.out.below _ _ _ _ _ aY); have gh := aa aY; clear aY bj fY iH bl hb1)
       |(go_at_call 91; refine (ns gh.out _).mono ?_; rw [H0.out]; rintro e w2 ⟨rfl, bH⟩; obtain ⟨b0, b1, b2, b3⟩ := HG.out.box _ _ _ _ _ bH; rw [mn.out] at b0; have a0 := l3.out _ _ _ _ _ bH 0 (by omega); rw [Nat.add_zero] at a0; obtain ⟨ja, iZ, iY, iX⟩ := gY.out _ (HG.out.below _ _ _ _ _ bH); have lD := aa bH; clear bH))
      go_still_tail 9, fH
      go_wp2_with (go_at_call 92; refine (EE.out _ _ _ _ HG.out _ _ _ _ _ _ _ lD.out.drew sX.out).mono ?_; rintro e w3 ⟨rfl, fX⟩; have lZ := aa (mK.out _ _ _ _ _ fX); clear fX)
      go_end0
      exact ⟨rfl, lZ.out⟩
     |clear k_S10_1
      have k_S17_0 := kk
      exact UH
   |clear k_S13_1
    first
    |clear k_S11_0
     have Hi : s1.1 ≠ [] := by rw [zK.1]; exact iO
     have Hh : cy s1.1 + 1 ≤ s1.2.length := by rw [zK.1, zK.2, b5]; show cy s.1 + 1 ≤ _; omega
     unfold Nd.val at *
     rw [hk] at cK mH ⊢
     have mn := aa hk
     have mB : 0 < T.len := by omega
     have sU := aa hσ
     have I3 := aa IU
     have qD := aa Hi
     have o6 := aa Hh
     clear aF hS oi hE hN hk ax iW bz lj gV hl bP hσ tw xk IU zK Hi Hh
     generalize hτ : tj s1 T.name t0 s.2.length = τ at *
     have HT := aa hτ
     clear hτ
     have k_S18_1 := kk
     exact UG
    |clear k_S11_1
     have zH : ∀ i, i < T.len - 1 → (T.kids (1 + i)).sOk = true := by
      intro i hi
      have : i = 0 ∨ i = 1 := by omega
      rcases this with rfl | rfl
      ·exact hb1.2
      ·exact (hb2 (by omega)).2
     have k_S29_0 := kk
     exact Uy
    |clear k_S11_2
     have zH : ∀ i, i < T.len - 1 → (T.kids (1 + i)).sOk = true := by
      intro i hi
      obtain rfl : i = 0 := by omega
      exact hb1.2
     have k_S29_1 := kk
     exact Uy
    |clear k_S11_3
     have I3 := aa (fun (w1 : World) (own1 : Option Nat) (b : Nat) (u : Value) (hg : SGo K w w1 own1 b T (.slice (some ⟨g, off, none⟩) T.len cap) u s.2.length) (W : World) (σ : CR CS) (r l o : Int) (q : Nat) (hW : SS K w1 own1 σ r l o W) (ha : SAt K (T.kids 0) σ q) => oE (T.kids 0) K w1 own1 σ r l o W u0 q hW (hg.env hE hW) ((hN.kid (by omega) gV).later (hg.below _ _ _ _ _ hW)) ha lj)
     unfold Nd.val at *
     rw [hk] at cK mH ⊢
     have mn := aa hk
     have mB : 0 < T.len := by omega
     have k_S17_1 := kk
     exact UH) : G := h
theorem Im (h : G := by
 rw [aF]
 have ig := hS.ok.few
 have bm := hS.lt
 have cK := aa (fun o => ly T (w.alloc o) v K.lo s.2.length hN.fine (by have := hS.ok.cl; simp; omega) (ae (hS.box o) lr hN.row) hN.cost (by omega))
 have HS := aa (fun o => hS.alloc o)
 unfold Nd.val at *
 rw [hk] at cK ⊢
 first
 |clear k_S26_0
  have H0 := aa (vW.trans h0)
  clear aF hS oi hE hN hk bP vW h0
  generalize hq : s.2.length = q at *
  go_enter Tryd.func84, Tryd.ntmps84
  go_wp2_with (first
   |(go_at_call 50; refine (cK.out _).mono ?_; rintro e w1 ⟨u, rfl, bl, hb1⟩; have gh := aa ((HS.out _).calm hb1); have k0 : w1.cell? ⟨w.heap.size, 0, none⟩ = some (.int .i64 6) := (hb1.cell (p := ⟨w.heap.size, 0, none⟩) (by simp)).trans (by simp); have k2 : w1.cell? ⟨w.heap.size, 2, none⟩ = some (.string T.name) := (hb1.cell (p := ⟨w.heap.size, 2, none⟩) (by simp)).trans (by simp); have k3 : w1.cell? ⟨w.heap.size, 3, none⟩ = some v := (hb1.cell (p := ⟨w.heap.size, 3, none⟩) (by simp)).trans (by simp); clear hb1 bl)
   |(go_at_call 91; refine (ns gh.out _).mono ?_; rw [H0.out]; rintro e w2 ⟨rfl, bH⟩; have lD := aa bH; clear bH)
   |(go_at_call 52; refine (gJ lD.out 5 (by decide) q).mono ?_; rintro e w3 ⟨rfl, fX⟩; have lZ := aa fX; clear fX))
  first | go_end0 | refine bodyPost_ret (results_none rfl _ _ _) rfl ?_
  exact ⟨rfl, lZ.out⟩
 |clear k_S26_1
  have By : (((cx.outs : Nat) : Int) == 0) = true := beq_iff_eq.2 (by omega)
  clear aF hS oi hE hN hk bP lY h0
  generalize hq : s.2.length = q at *
  go_enter Tryd.func84, Tryd.ntmps84
  go_wp2_with (first
   |(go_at_call 50; refine (cK.out _).mono ?_; rintro e w1 ⟨u, rfl, bl, hb1⟩; have gh := aa ((HS.out _).calm hb1); have k0 : w1.cell? ⟨w.heap.size, 0, none⟩ = some (.int .i64 17) := (hb1.cell (p := ⟨w.heap.size, 0, none⟩) (by simp)).trans (by simp); have k2 : w1.cell? ⟨w.heap.size, 2, none⟩ = some (.string T.name) := (hb1.cell (p := ⟨w.heap.size, 2, none⟩) (by simp)).trans (by simp); have k3 : w1.cell? ⟨w.heap.size, 3, none⟩ = some v := (hb1.cell (p := ⟨w.heap.size, 3, none⟩) (by simp)).trans (by simp); obtain ⟨k9, vL, uQ⟩ := gh.out.outs; clear hb1 bl)
   |(go_at_call 52; refine (gJ gh.out 10 (by decide) q).mono ?_; rintro e w3 ⟨rfl, fX⟩; have lZ := aa fX; clear fX))
  go_end0
  exact ⟨rfl, lZ.out⟩
 |clear k_S26_2
  have By : (((cx.outs : Nat) : Int) == 0) = false := bn (by omega)
  clear aF hS oi hE hN hk bP lY h0
  generalize hq : s.2.length = q at *
  go_enter Tryd.func84, Tryd.ntmps84
  go_wp2_with (first
   |(go_at_call 50; refine (cK.out _).mono ?_; rintro e w1 ⟨u, rfl, bl, hb1⟩; have gh := aa ((HS.out _).calm hb1); have k0 : w1.cell? ⟨w.heap.size, 0, none⟩ = some (.int .i64 17) := (hb1.cell (p := ⟨w.heap.size, 0, none⟩) (by simp)).trans (by simp); have k2 : w1.cell? ⟨w.heap.size, 2, none⟩ = some (.string T.name) := (hb1.cell (p := ⟨w.heap.size, 2, none⟩) (by simp)).trans (by simp); have k3 : w1.cell? ⟨w.heap.size, 3, none⟩ = some v := (hb1.cell (p := ⟨w.heap.size, 3, none⟩) (by simp)).trans (by simp); obtain ⟨k9, vL, uQ⟩ := gh.out.outs; clear hb1 bl))
  go_end0
  exact ⟨rfl, gh.out⟩
 |clear k_S26_3
  have By : (((cx.loops : Nat) : Int) == 0) = true := beq_iff_eq.2 (by omega)
  clear aF hS oi hE hN hk bP lY h0
  generalize hq : s.2.length = q at *
  go_enter Tryd.func84, Tryd.ntmps84
  go_wp2_with (first
   |(go_at_call 50; refine (cK.out _).mono ?_; rintro e w1 ⟨u, rfl, bl, hb1⟩; have gh := aa ((HS.out _).calm hb1); have k0 : w1.cell? ⟨w.heap.size, 0, none⟩ = some (.int .i64 18) := (hb1.cell (p := ⟨w.heap.size, 0, none⟩) (by simp)).trans (by simp); have k2 : w1.cell? ⟨w.heap.size, 2, none⟩ = some (.string T.name) := (hb1.cell (p := ⟨w.heap.size, 2, none⟩) (by simp)).trans (by simp); have k3 : w1.cell? ⟨w.heap.size, 3, none⟩ = some v := (hb1.cell (p := ⟨w.heap.size, 3, none⟩) (by simp)).trans (by simp); obtain ⟨k9, vL, uQ⟩ := gh.out.outs; clear hb1 bl)
   |(go_at_call 52; refine (gJ gh.out 10 (by decide) q).mono ?_; rintro e w3 ⟨rfl, fX⟩; have lZ := aa fX; clear fX))
  go_end0
  exact ⟨rfl, lZ.out⟩
 |clear k_S26_4
  have By : (((cx.loops : Nat) : Int) == 0) = false := bn (by omega)
  clear aF hS oi hE hN hk bP lY h0
  generalize hq : s.2.length = q at *
  go_enter Tryd.func84, Tryd.ntmps84
  go_wp2_with (first
   |(go_at_call 50; refine (cK.out _).mono ?_; rintro e w1 ⟨u, rfl, bl, hb1⟩; have gh := aa ((HS.out _).calm hb1); have k0 : w1.cell? ⟨w.heap.size, 0, none⟩ = some (.int .i64 18) := (hb1.cell (p := ⟨w.heap.size, 0, none⟩) (by simp)).trans (by simp); have k2 : w1.cell? ⟨w.heap.size, 2, none⟩ = some (.string T.name) := (hb1.cell (p := ⟨w.heap.size, 2, none⟩) (by simp)).trans (by simp); have k3 : w1.cell? ⟨w.heap.size, 3, none⟩ = some v := (hb1.cell (p := ⟨w.heap.size, 3, none⟩) (by simp)).trans (by simp); obtain ⟨k9, vL, uQ⟩ := gh.out.outs; clear hb1 bl))
  go_end0
  exact ⟨rfl, gh.out⟩) : G := h
theorem UA (h : G := by
 have k_S28_1 := kk
 exact Uz) : G := h
theorem Uz (h : G := by
 rw [aF]
 have ig := hS.ok.few
 have bm := hS.lt
 have sf := hS.ok.cl
 obtain ⟨g, off, cap, hv, tf, bQ, bz⟩ := mJ hN.row (by omega)
 subst hv
 obtain ⟨u0, iW, gV⟩ := bz 0 (by omega)
 simp only [Nat.zero_mul, Nat.add_zero] at iW
 have gY := aa iW
 first
 |clear k_S28_0
  have k_S25_0 := kk
  exact UB
 |clear k_S28_1
  first
  |clear k_S27_0
   obtain ⟨u1, iQ, mi⟩ := bz 1 (by omega)
   simp only [Nat.one_mul] at iQ
   have mI := aa iQ
   have k_S14_0 := kk
   exact UK
  |clear k_S27_1
   have k_S14_1 := kk
   exact UK) : G := h
theorem Uy (h : G := by
 have I4 := aa (fun (w1 : World) (own1 : Option Nat) (b ga oa ca : Nat) (hg : SGo K w w1 own1 b T (.slice (some ⟨g, off, none⟩) T.len cap) (.slice (some ⟨ga, oa, none⟩) T.len ca) s.2.length) sh iH => uD hg hE hN sh iH 1 (by omega))
 first
 |clear k_S29_0
  have C8 := aa (fun (w1 : World) (own1 : Option Nat) (lv uv : Value) us (hL : qC K w1 own1 T s.2.length 1 (T.len - 1) lv uv us) (W : World) (hW : SS K w1 own1 (fC K (T.kids 0) 2 (.ok (ao s))) cx.ret cx.loops cx.outs W) => sT hL (fun i hi => ih (1 + i) (by omega)) _ cx W hW (by omega) zH (B8 lj iO) be (fun i hi => by have := fK T (i := 1 + i) (by omega); omega) (fun i hi => by have := fK T (i := 1 + i) (by omega); omega))
  unfold Nd.val at *
  rw [hk] at cK mH ⊢
  have mn := aa hk
  have mB : 0 < T.len := by omega
  have hpi1 : (1 : Int) ≤ (T.len : Int) := by omega
  have hpn1 : 1 ≤ T.len := by omega
  have hpn2 : 2 ≤ T.len := by omega
  have hcn1 : ¬ cap = 1 := by omega
  clear aF hS oi hE hN hk ax iW bz lj gV hl bP zH hb1 hb2 ih
  generalize hq : s.2.length = q at *
  have fH := rJ
  go_enter Tryd.func84, Tryd.ntmps84
  go_wp2_with (first
   |(go_at_call 50; refine (cK.out _).mono ?_; rintro e w1 ⟨u, rfl, bl, hb1⟩; obtain ⟨own1, aY, bj, fY⟩ := mH.out w1 u _ hb1 bl; obtain ⟨ga, oa, ca, rfl, sh, iH⟩ := fY.ats (by omega); have HG := aa fY; have l3 := aa iH; have mK := aa bj; obtain ⟨b0, b1, b2, b3⟩ := HG.out.box _ _ _ _ _ aY; rw [mn.out] at b0; have a0 := l3.out _ _ _ _ _ aY 0 (by omega); rw [Nat.add_zero] at a0; obtain ⟨ja, iZ, iY, iX⟩ := gY.out _ (HG.out.below _ _ _ _ _ aY); obtain ⟨us, te⟩ := I4.out w1 own1 _ ga oa ca HG.out sh iH; have Aq := aa te; have hcan : ¬ ca = 1 := (by omega); clear te; have gh := aa aY; clear aY bj fY iH bl hb1))
  go_still_tail 8, fH
  go_wp2_with (go_at_call 92; refine (EE.out _ _ _ _ HG.out _ _ _ _ _ _ _ gh.out.drew sX.out).mono ?_; rintro e w3 ⟨rfl, fX⟩; obtain ⟨b0, b1, b2, b3⟩ := HG.out.box _ _ _ _ _ fX; rw [mn.out] at b0; have a0 := l3.out _ _ _ _ _ fX 0 (by omega); rw [Nat.add_zero] at a0; obtain ⟨ja, iZ, iY, iX⟩ := gY.out _ (HG.out.below _ _ _ _ _ fX); have lZ := aa fX; clear fX)
  go_still_tail 6, fH
  go_wp2_with (go_at_call 73; refine (C8.out w1 own1 _ _ us Aq.out _ lZ.out.drew).mono ?_; rintro e w4 ⟨rfl, qT⟩; have AE := aa (mK.out _ _ _ _ _ qT); clear qT)
  go_end0
  exact ⟨rfl, AE.out⟩
 |clear k_S29_1
  have C8 := aa (fun (w1 : World) (own1 : Option Nat) (lv uv : Value) us (hL : qC K w1 own1 T s.2.length 1 (T.len - 1) lv uv us) (W : World) (hW : SS K w1 own1 (fC K (T.kids 0) 2 (.ok (ao s))) cx.ret ((cx.loops : Int) + 1) ((cx.outs : Int) + 1) W) => sT hL (fun i hi => ih (1 + i) (by omega)) _ ⟨cx.ret, cx.loops + 1, cx.outs + 1⟩ W hW (by omega) zH (B8 lj iO) be (fun i hi => by have := fK T (i := 1 + i) (by omega); show cx.loops + 1 + _ ≤ _; omega) (fun i hi => by have := fK T (i := 1 + i) (by omega); show cx.outs + 1 + _ ≤ _; omega))
  have k_S31_1 := kk
  exact Uw) : G := h
theorem Ux (h : G := by
 obtain ⟨b0, b1, b2, b3⟩ := HG.out.box _ _ _ _ _ qu
 rw [mn.out] at b0
 have a0 := l3.out _ _ _ _ _ qu 0 (by omega)
 rw [Nat.add_zero] at a0
 obtain ⟨ja, iZ, iY, iX⟩ := gY.out _ (HG.out.below _ _ _ _ _ qu)
 have wk := aa qu
 clear qu
 first
 |clear k_S30_0
  generalize (w1.setCell ⟨K.cb, 10, none⟩ (.int .i64 ((cx.loops : Int) + 1))).setCell ⟨K.cb, 11, none⟩ (.int .i64 ((cx.outs : Int) + 1)) = w5 at *
  exact bS3
 |clear k_S30_1
  generalize (w3.setCell ⟨K.cb, 10, none⟩ (.int .i64 ((cx.loops : Int) + 1))).setCell ⟨K.cb, 11, none⟩ (.int .i64 ((cx.outs : Int) + 1)) = w5 at *
  clear KH
  exact bS3) : G := h
theorem Uw (h : G := by
 unfold Nd.val at *
 rw [hk] at cK mH ⊢
 have mn := aa hk
 have mB : 0 < T.len := by omega
 have hpn1 : 1 ≤ T.len := by omega
 have Sm : cx.loops ≤ 1099511627776 := by omega
 have ho1 : cx.outs ≤ 1099511627776 := by omega
 first
 |clear k_S31_0
  have KH : (T.len : Int) - 1 = 0 := by omega
  clear aF hS oi hE hN hk ax iW bz gV hl bP zH hb1 ih
  generalize hq : s.2.length = q at *
  have fH := rJ
  go_enter Tryd.func84, Tryd.ntmps84
  go_wp2_with (first
   |(go_at_call 50; refine (cK.out _).mono ?_; rintro e w1 ⟨u, rfl, bl, hb1⟩; obtain ⟨own1, aY, bj, fY⟩ := mH.out w1 u _ hb1 bl; obtain ⟨ga, oa, ca, rfl, sh, iH⟩ := fY.ats (by omega); have HG := aa fY; have l3 := aa iH; have mK := aa bj; obtain ⟨b0, b1, b2, b3⟩ := HG.out.box _ _ _ _ _ aY; rw [mn.out] at b0; have a0 := l3.out _ _ _ _ _ aY 0 (by omega); rw [Nat.add_zero] at a0; obtain ⟨ja, iZ, iY, iX⟩ := gY.out _ (HG.out.below _ _ _ _ _ aY); obtain ⟨us, te⟩ := I4.out w1 own1 _ ga oa ca HG.out sh iH; have Aq := aa te; clear te; obtain ⟨k9, vL, uQ⟩ := aY.outs; have f10 := aY.free 10; have f11 := aY.free 11; have gh := aa aY; clear aY bj fY iH bl hb1))
  have qu := (gh.out.setLoops ((cx.loops : Int) + 1)).setOuts ((cx.outs : Int) + 1)
  have k_S30_0 := kk
  exact Ux
 |clear k_S31_1
  have hpi1 : (1 : Int) ≤ (T.len : Int) := by omega
  have hpn2 : 2 ≤ T.len := by omega
  have hcn1 : ¬ cap = 1 := by omega
  have KH : (T.len : Int) - 1 = 1 := by omega
  clear aF hS oi hE hN hk ax iW bz lj gV hl bP zH hb1 ih
  generalize hq : s.2.length = q at *
  have fH := rJ
  go_enter Tryd.func84, Tryd.ntmps84
  go_wp2_with (first
   |(go_at_call 50; refine (cK.out _).mono ?_; rintro e w1 ⟨u, rfl, bl, hb1⟩; obtain ⟨own1, aY, bj, fY⟩ := mH.out w1 u _ hb1 bl; obtain ⟨ga, oa, ca, rfl, sh, iH⟩ := fY.ats (by omega); have HG := aa fY; have l3 := aa iH; have mK := aa bj; obtain ⟨b0, b1, b2, b3⟩ := HG.out.box _ _ _ _ _ aY; rw [mn.out] at b0; have a0 := l3.out _ _ _ _ _ aY 0 (by omega); rw [Nat.add_zero] at a0; obtain ⟨ja, iZ, iY, iX⟩ := gY.out _ (HG.out.below _ _ _ _ _ aY); obtain ⟨us, te⟩ := I4.out w1 own1 _ ga oa ca HG.out sh iH; have Aq := aa te; have hcan : ¬ ca = 1 := (by omega); clear te; obtain ⟨k9, vL, uQ⟩ := aY.outs; have f10 := aY.free 10; have f11 := aY.free 11; have gh := aa aY; clear aY bj fY iH bl hb1))
  go_still_tail 8, fH
  go_wp2_with (go_at_call 92; refine (EE.out _ _ _ _ HG.out _ _ _ _ _ _ _ gh.out.drew sX.out).mono ?_; rintro e w3 ⟨rfl, fX⟩; obtain ⟨b0, b1, b2, b3⟩ := HG.out.box _ _ _ _ _ fX; rw [mn.out] at b0; have a0 := l3.out _ _ _ _ _ fX 0 (by omega); rw [Nat.add_zero] at a0; obtain ⟨ja, iZ, iY, iX⟩ := gY.out _ (HG.out.below _ _ _ _ _ fX); obtain ⟨k9, vL, uQ⟩ := fX.outs; have f10 := fX.free 10; have f11 := fX.free 11; have lZ := aa fX; clear fX)
  have qu := (lZ.out.setLoops ((cx.loops : Int) + 1)).setOuts ((cx.outs : Int) + 1)
  have k_S30_1 := kk
  exact Ux) : G := h
theorem Uv (h : G := by
 have ig := hS.ok.few
 have bm := hS.lt
 have sf := hS.ok.cl
 have cK := aa (fun o => ly T (w.alloc o) _ K.lo s.2.length hN.fine (by simp; omega) (ae (hS.box o) lr hN.row) hN.cost (by omega))
 first
 |clear k_S32_0
  have mH := aa (fun (w1 : World) (u : Value) (t : TypeId) hb ha => pB (w1 := w1) (T := T) (v := .slice a0 T.len cap0) (p := s.2.length) (u := u) (t := t) hS hb ha)
  unfold Nd.val at *
  rw [hk] at cK mH ⊢
  have mn := aa hk
  have hle : ¬ (0 : Int) < (T.len : Int) := by omega
  have Si : decide ((0 : Int) < (T.len : Int)) = false := by simp; omega
  have hle3 : decide (0 < T.len) = false := decide_eq_false (by omega)
  first
  |clear k_S20_0
   have mi : (cx.ret == 0) = true := beq_iff_eq.2 h0
   have vV : (cx.ret != 0) = false := by simp only [bne, mi]; rfl
   have k_S23_0 := kk
   exact UD
  |clear k_S20_1
   have mi : (cx.ret == 0) = false := bn h0
   have vV : (cx.ret != 0) = true := by simp only [bne, mi]; rfl
   have k_S23_1 := kk
   exact UD
 |clear k_S32_1
  have mH := aa (fun (w1 : World) (u : Value) (t : TypeId) hb ha => pB (w1 := w1) (T := T) (v := v) (p := s.2.length) (u := u) (t := t) hS hb ha)
  first
  |clear k_S24_0
   unfold Nd.val at *
   rw [hk] at cK mH ⊢
   have mn := aa hk
   first
   |clear k_S21_0
    have H0 := aa (vW.trans h0)
    clear vW h0
    clear aF hS oi hE hN hk bP
    generalize hq : s.2.length = q at *
    have fH := rJ
    go_enter Tryd.func84, Tryd.ntmps84
    go_wp2_with (first
     |(go_at_call 50; refine (cK.out _).mono ?_; rintro e w1 ⟨u, rfl, bl, hb1⟩; obtain ⟨own1, aY, bj, fY⟩ := mH.out w1 u _ hb1 bl; have HG := aa fY; have mK := aa bj; obtain ⟨b0, b1, b2, b3⟩ := HG.out.box _ _ _ _ _ aY; rw [mn.out] at b0; have gh := aa aY; clear aY bj fY bl hb1)
     |(go_at_call 91; refine (ns gh.out _).mono ?_; rw [H0.out]; rintro e w2 ⟨rfl, bH⟩; obtain ⟨b0, b1, b2, b3⟩ := HG.out.box _ _ _ _ _ bH; rw [mn.out] at b0; have lD := aa bH; clear bH)
     |(go_at_call 52; refine (gJ lD.out 5 (by decide) q).mono ?_; rintro e w3 ⟨rfl, fX⟩; have lZ := aa fX; clear fX))
    exact bS7
   |clear k_S21_1
    have H0 := aa (vW.trans h1)
    clear vW h0 h1
    clear aF hS oi hE hN hk bP
    generalize hq : s.2.length = q at *
    have fH := rJ
    go_enter Tryd.func84, Tryd.ntmps84
    go_wp2_with (first
     |(go_at_call 50; refine (cK.out _).mono ?_; rintro e w1 ⟨u, rfl, bl, hb1⟩; obtain ⟨own1, aY, bj, fY⟩ := mH.out w1 u _ hb1 bl; have HG := aa fY; have mK := aa bj; obtain ⟨b0, b1, b2, b3⟩ := HG.out.box _ _ _ _ _ aY; rw [mn.out] at b0; have gh := aa aY; clear aY bj fY bl hb1)
     |(go_at_call 91; refine (ns gh.out _).mono ?_; rw [H0.out]; rintro e w2 ⟨rfl, bH⟩; obtain ⟨b0, b1, b2, b3⟩ := HG.out.box _ _ _ _ _ bH; rw [mn.out] at b0; have lD := aa bH; clear bH))
    first | go_end0 | refine bodyPost_ret (results_none rfl _ _ _) rfl ?_
    exact ⟨rfl, mK.out _ _ _ _ _ lD.out⟩
   |clear k_S21_2
    have H0 : Hid (look (ao s).1 T.name = look s.1 T.name) := vW
    have By : (look s.1 T.name == 0) = false := bn h0
    have h1' : (look s.1 T.name == 1) = false := bn h1
    clear vW h0 h1
    generalize look s.1 T.name = lk at *
    clear aF hS oi hE hN hk bP
    generalize hq : s.2.length = q at *
    have fH := rJ
    go_enter Tryd.func84, Tryd.ntmps84
    go_wp2_with (first
     |(go_at_call 50; refine (cK.out _).mono ?_; rintro e w1 ⟨u, rfl, bl, hb1⟩; obtain ⟨own1, aY, bj, fY⟩ := mH.out w1 u _ hb1 bl; have HG := aa fY; have mK := aa bj; obtain ⟨b0, b1, b2, b3⟩ := HG.out.box _ _ _ _ _ aY; rw [mn.out] at b0; have gh := aa aY; clear aY bj fY bl hb1)
     |(go_at_call 91; refine (ns gh.out _).mono ?_; rw [H0.out]; rintro e w2 ⟨rfl, bH⟩; obtain ⟨b0, b1, b2, b3⟩ := HG.out.box _ _ _ _ _ bH; rw [mn.out] at b0; have lD := aa bH; clear bH)
     |(go_at_call 52; refine (gJ lD.out 7 (by decide) q).mono ?_; rintro e w3 ⟨rfl, fX⟩; have lZ := aa fX; clear fX))
    exact bS7
  |clear k_S24_1
   have AH := aa (fun (w1 : World) (own1 : Option Nat) (b : Nat) (u : Value) (hg : SGo K w w1 own1 b T v u s.2.length) (W : World) (hW : SS K w1 own1 (.ok s) cx.ret cx.loops cx.outs W) => Ii hk ih K w1 own1 s cx W v hW (hg.env hE hW) (hN.later (hg.below _ _ _ _ _ hW)) be ax tz uS 0)
   generalize hτ : within [] ((iB K.F T).sts cx) s = τ at *
   unfold Nd.val at *
   rw [hk] at cK mH AH ⊢
   have mn := aa hk
   clear aF hS hE hN hk hτ
   generalize hq : s.2.length = q at *
   have fH := rJ
   go_enter Tryd.func84, Tryd.ntmps84
   go_wp2_with (first
    |(go_at_call 50; refine (cK.out _).mono ?_; rintro e w1 ⟨u, rfl, bl, hb1⟩; obtain ⟨own1, aY, bj, fY⟩ := mH.out w1 u _ hb1 bl; have HG := aa fY; have mK := aa bj; obtain ⟨b0, b1, b2, b3⟩ := HG.out.box _ _ _ _ _ aY; rw [mn.out] at b0; have gh := aa aY; clear aY bj fY bl hb1)
    |(go_at_call 89; refine (AH.out _ _ _ _ HG.out _ gh.out).mono ?_; rintro e w3 ⟨rfl, fX⟩; have lZ := aa (mK.out _ _ _ _ _ fX); clear fX))
   go_end0
   exact ⟨rfl, lZ.out⟩) : G := h
theorem Uu (h : G := by
 have k_S36_0 := kk
 exact Ur) : G := h
theorem Ut (h : G := by
 intro K w0 ah s cx w v oi hE hN be ax iO tz uS
 have bP : 0 < T.size := by rw [T.size_eq]; omega
 have hS := oi.take (by omega)
 have vW : look (ao s).1 T.name = look s.1 T.name := rfl
 first
 |clear k_S34_0
  obtain ⟨hl, lj⟩ := sB (by omega) ax
  by_cases h0 : look s.1 T.name = 0
  ·have aF : (iB K.F T).st cx s = .error (5, s.2.length) := by
    rw [gl K.F (by omega)]
    unfold stM
    rw [if_neg (by omega), if_neg (by omega), if_pos hk, if_pos h0]
   have k_S26_0 := kk
   exact Im
  ·have aF : (iB K.F T).st cx s = fC K (T.kids 0) (look s.1 T.name) (.ok (ao s)) := by
    rw [gl K.F (by omega)]
    unfold stM
    rw [if_neg (by omega), if_neg (by omega), if_pos hk, if_neg h0]; rfl
   have k_S10_0 := kk
   exact UM
 |clear k_S34_1
  by_cases h0 : look s.1 T.name = 0
  ·have aF : (iB K.F T).st cx s = .error (5, s.2.length) := by
    rw [gl K.F (by omega)]
    unfold stM
    rw [if_neg (by omega), if_neg (by omega), if_neg (by omega), if_pos hk, if_pos h0]
   have k_S21_0 := kk
   exact O2
  by_cases h1 : look s.1 T.name = 1
  ·have aF : (iB K.F T).st cx s = .ok (ao s) := by
    rw [gl K.F (by omega)]
    unfold stM
    rw [if_neg (by omega), if_neg (by omega), if_neg (by omega), if_pos hk, if_neg h0, if_pos h1]
   have k_S21_1 := kk
   exact O2
  ·have aF : (iB K.F T).st cx s = .error (7, s.2.length) := by
    rw [gl K.F (by omega)]
    unfold stM
    rw [if_neg (by omega), if_neg (by omega), if_neg (by omega), if_pos hk, if_neg h0, if_neg h1]
   have k_S21_2 := kk
   exact O2) : G := h
theorem O0 (h : G := by
 have k_S36_1 := kk
 exact Ur) : G := h
theorem Ur (h : G := by
 intro K w0 ah s cx w v oi hE hN be ax iO tz uS
 have bP : 0 < T.size := by rw [T.size_eq]; omega
 have hS := oi.take (by omega)
 obtain ⟨hl, lj⟩ := sB (by omega) ax
 first
 |clear k_S36_0
  have xk := oi.lens
  first
  |clear k_S33_0
   cases hσ : oI K (T.kids 0) (.ok (ao s)) with
   |error e0 =>
    have tw := B9 hσ
    have aF : (iB K.F T).st cx s = .error e0 := by
     rw [gl K.F (by omega)]
     unfold stM
     rw [if_neg (by omega), if_pos hk, tw]; rfl
    exact bS1
   |ok s1 =>
    obtain ⟨t0, tw, IU⟩ := Fc hσ
    have zK := (pK K.F _ lj).value _ _ _ tw
    have aF : (iB K.F T).st cx s = tj s1 T.name t0 s.2.length := by
     rw [gl K.F (by omega)]
     unfold stM
     rw [if_neg (by omega), if_pos hk, tw]; rfl
    have k_S11_0 := kk
    exact Lj
  |clear k_S33_1
   cases hσ : oI K (T.kids 0) (.ok (ao s)) with
   |error e0 =>
    have tw := B9 hσ
    have aF : (iB K.F T).st cx s = .error e0 := by
     rw [gl K.F (by omega)]
     unfold stM
     rw [if_neg (by omega), if_neg (by omega), if_neg (by omega), if_neg (by omega), if_neg (by omega), if_neg (by omega), if_neg (by omega), if_neg (by omega), if_neg (by omega), if_neg (by omega), if_neg (by omega), if_neg (by omega), if_neg (by omega), if_pos hk, tw]; rfl
    exact bS1
   |ok s1 =>
    obtain ⟨t0, tw, IU⟩ := Fc hσ
    have zK := (pK K.F _ lj).value _ _ _ tw
    by_cases h3 : t0 = 3
    ·have aF : (iB K.F T).st cx s = .error (7, s.2.length + 1) := by
      rw [gl K.F (by omega)]
      unfold stM
      rw [if_neg (by omega), if_neg (by omega), if_neg (by omega), if_neg (by omega), if_neg (by omega), if_neg (by omega), if_neg (by omega), if_neg (by omega), if_neg (by omega), if_neg (by omega), if_neg (by omega), if_neg (by omega), if_neg (by omega), if_pos hk, tw, CR.bind_ok, if_pos h3]
     have k_S9_0 := kk
     exact bS9
    ·have aF : (iB K.F T).st cx s = .ok s1 := by
      rw [gl K.F (by omega)]
      unfold stM
      rw [if_neg (by omega), if_neg (by omega), if_neg (by omega), if_neg (by omega), if_neg (by omega), if_neg (by omega), if_neg (by omega), if_neg (by omega), if_neg (by omega), if_neg (by omega), if_neg (by omega), if_neg (by omega), if_neg (by omega), if_pos hk, tw, CR.bind_ok, if_neg h3]
     have k_S9_1 := kk
     exact bS9
 |clear k_S36_1
  first
  |clear k_S35_0
   have aF : (iB K.F T).st cx s = fC K (T.kids 0) 3 (.ok (ao s)) := by
    rw [gl K.F (by omega)]
    unfold stM
    rw [if_neg (by omega), if_neg (by omega), if_neg (by omega), if_neg (by omega), if_neg (by omega), if_neg (by omega), if_neg (by omega), if_neg (by omega), if_neg (by omega), if_neg (by omega), if_neg (by omega), if_neg (by omega), if_pos hk]; rfl
   exact bS2
  |clear k_S35_1
   have aF : (iB K.F T).st cx s = fC K (T.kids 0) 1 (.ok (ao s)) := by
    rw [gl K.F (by omega)]
    unfold stM
    rw [if_neg (by omega), if_neg (by omega), if_neg (by omega), if_neg (by omega), if_neg (by omega), if_neg (by omega), if_neg (by omega), if_neg (by omega), if_neg (by omega), if_neg (by omega), if_neg (by omega), if_neg (by omega), if_neg (by omega), if_neg (by omega), if_pos hk]; rfl
   exact bS2
  |clear k_S35_2
   have aF : (iB K.F T).st cx s = Qi K (T.kids 0) (.ok (ao s)) := by
    rw [gl K.F (by omega)]
    unfold stM
    rw [if_neg (by omega), if_neg (by omega), if_neg (by omega), if_neg (by omega), if_neg (by omega), if_pos (by omega)]; rfl
   have k_S11_3 := kk
   exact Lj) : G := h
theorem Gt (s : ByteArray) : lX s ≤ 5 := by
 unfold lX
 repeat' split
 all_goals omega
theorem Fg {T : Nd} (ih : ∀ i, i < T.len → At (T.kids i)) : Al T := by
 intro K w0 ah s ret loops outs w v hS hE hN be ax
 rcases CO ax with h | h | h | h | h | h | h | h
 ·exact QH h K w0 ah s ret loops outs w v hS hE hN be ax
 ·exact QG h K w0 ah s ret loops outs w v hS hE hN be ax
 ·exact QF h K w0 ah s ret loops outs w v hS hE hN be ax
 ·exact QE h ih K w0 ah s ret loops outs w v hS hE hN be ax
 ·have hl := (H5 h ax).1
  by_cases h0 : T.len = 0
  ·exact No h h0 K w0 ah s ret loops outs w v hS hE hN be ax
  ·exact Nn h (by omega) ih K w0 ah s ret loops outs w v hS hE hN be ax
 ·cases hn : A4 T.name with
  |true => exact Nl h hn ih K w0 ah s ret loops outs w v hS hE hN be ax
  |false => exact Nm h hn ih K w0 ah s ret loops outs w v hS hE hN be ax
 ·have h0 := (xt h ax).1
  have h5 := Gt T.name
  cases he : En T.name with
  |true => exact Nk h he ih K w0 ah s ret loops outs w v hS hE hN be ax
  |false =>
   have : lX T.name = 1 ∨ lX T.name = 2 ∨ lX T.name = 3 ∨ lX T.name = 4 ∨ lX T.name = 5 := by omega
   rcases this with hl | hl | hl | hl | hl
   ·exact Jk h hl ih K w0 ah s ret loops outs w v hS hE hN be ax
   ·exact Jj h hl ih K w0 ah s ret loops outs w v hS hE hN be ax
   ·exact Ji h hl he ih K w0 ah s ret loops outs w v hS hE hN be ax
   ·exact Jh h hl ih K w0 ah s ret loops outs w v hS hE hN be ax
   ·exact Jg h hl ih K w0 ah s ret loops outs w v hS hE hN be ax
 ·exact QD h ih K w0 ah s ret loops outs w v hS hE hN be ax
theorem oE (T : Nd) : At T := by
 induction T with
 |nil => exact CJ (Fg fun i hi => absurd hi (Nat.not_lt_zero i))
 |mk k n s len kids ih => exact CJ (Fg fun i _ => ih i)
theorem tX (T : Nd) : WtS T := p4 (oE T)
def qk (T : Nd) : Prop := ∀ (K : SK) (w0 : World) (ah : Option Nat) (s : CS) (cx : Cx) (w : World) (v : Value), SS K w0 ah (.ok s) cx.ret cx.loops cx.outs w → SEnv K w → SNd K w T v → s.2.length + T.size ≤ K.N → T.sOk = true → s.1 ≠ [] → cx.loops + T.size ≤ 1099511627776 → cx.outs + T.size ≤ 1099511627776 →
 Calls Tryd.prog 84 #[.pointer (some ⟨K.cb, 0, none⟩), T.val v, .int .i64 s.2.length] w fun e w' => e = .returned (.tuple #[]) ∧ SS K w0 ah ((iB K.F T).st cx s) cx.ret cx.loops cx.outs w'
structure qC (K : SK) (w1 : World) (own1 : Option Nat) (T : Nd) (p d m : Nat) (lv uv : Value) (u : Nat → Value) : Prop where
  lv : ∃ a cap, lv = .slice a m cap ∧ m ≤ cap ∧ cap ≤ 9223372036854775807 ∧ ∃ a' ca, uv = .slice a' m ca ∧ m ≤ ca ∧ ca ≤ 9223372036854775807 ∧ (m = 0 ∨ ∃ g off ga oa, a = some ⟨g, off, none⟩ ∧ a' = some ⟨ga, oa, none⟩ ∧
    ∀ W σ r l o, SS K w1 own1 σ r l o W → ∀ i, i < m → W.cell? ⟨ga, oa + i, none⟩ = some (.int .i64 (aP T p (d + i) : Nat)) ∧
      W.cell? ⟨g, off + i * 4, none⟩ = some (.int .i64 (T.kids (d + i)).kind) ∧ W.cell? ⟨g, off + i * 4 + 1, none⟩ = some (.int .i64 (T.kids (d + i)).num) ∧ W.cell? ⟨g, off + i * 4 + 2, none⟩ = some (.string (T.kids (d + i)).name) ∧ W.cell? ⟨g, off + i * 4 + 3, none⟩ = some (u i))
  env : ∀ W σ r l o, SS K w1 own1 σ r l o W → SEnv K W
  nd : ∀ W σ r l o, SS K w1 own1 σ r l o W → ∀ i, i < m → SNd K W (T.kids (d + i)) (u i)
theorem fK (T : Nd) {i : Nat} (h : i < T.len) : (T.kids i).size + 1 ≤ T.size := by
 have := ib T 0 h
 unfold aP at this
 omega
def lW (F T : Nd) (cx : Cx) (d m : Nat) (σ : CR CS) : CR CS := CR.bind σ (forN (fun i => (iB F (T.kids (d + i))).st cx) m)
theorem sC (F T : Nd) (cx : Cx) (d m : Nat) (σ : CR CS) : lW F T cx d (m + 1) σ = CR.bind (lW F T cx d m σ) ((iB F (T.kids (d + m))).st cx) := by
 unfold lW
 cases σ <;> rfl
theorem F5 {F T : Nd} {cx : Cx} {d m : Nat} {σ : CR CS} {e : Int × Nat} (h : lW F T cx d m σ = .error e) : ∀ {n : Nat}, m ≤ n → lW F T cx d n σ = .error e := by
 intro n hn
 induction hn with
 |refl => exact h
 |step _ ih => rw [sC, ih]; rfl
theorem sT {K : SK} {w1 : World} {own1 : Option Nat} {T : Nd} {p d m : Nat} {lv uv : Value} {u : Nat → Value} (hL : qC K w1 own1 T p d m lv uv u) (ih : ∀ i, i < m → qk (T.kids (d + i))) (σ : CR CS) (cx : Cx) (w : World) (hS : SS K w1 own1 σ cx.ret cx.loops cx.outs w)
  (hdm : d + m ≤ T.len) (ax : ∀ i, i < m → (T.kids (d + i)).sOk = true) (KF : ∀ s, σ = .ok s → s.2.length = aP T p d ∧ s.1 ≠ []) (be : p + T.size ≤ K.N) (hl : ∀ i, i < m → cx.loops + (T.kids (d + i)).size ≤ 1099511627776) (ho : ∀ i, i < m → cx.outs + (T.kids (d + i)).size ≤ 1099511627776) :
  Calls Tryd.prog 73 #[.pointer (some ⟨K.cb, 0, none⟩), lv, uv] w fun e w' => e = .returned (.tuple #[]) ∧ SS K w1 own1 (lW K.F T cx d m σ) cx.ret cx.loops cx.outs w' := by
 have ig := hS.ok.few
 obtain ⟨a, cap, rfl, iQ, oC, a', ca, rfl, hc3, hc4, nA⟩ := hL.lv
 have HL := aa hL
 have AG := aa nA
 have HS := aa hS
 have Pr : Hid (∀ n, n ≤ m → ∀ s, lW K.F T cx d n σ = .ok s → s.2.length = aP T p (d + n) ∧ s.1 ≠ []) := by
  intro n
  induction n with
  |zero =>
   intro _ s hs
   unfold lW at hs
   obtain ⟨s0, h1, h2⟩ := bb hs
   injection h2 with h2; subst h2
   exact KF s0 h1
  |succ n ihn =>
   intro hn s hs
   rw [sC] at hs
   obtain ⟨s0, h1, h2⟩ := bb hs
   obtain ⟨q1, q2⟩ := ihn (by omega) s0 h1
   obtain ⟨r1, r2, r3, _⟩ := (yb K.F (T.kids (d + n))).st (ax n (by omega)) cx s0 s q2 h2
   refine ⟨?_, ?_⟩
   ·rw [r3, q1, show d + (n + 1) = d + n + 1 by omega, iC]
   ·intro e; rw [e] at r2; exact q2 (List.length_eq_zero_iff.1 r2.symm)
 have HKA := aa (fun i (h : i < m) => ib T p (i := d + i) (by omega))
 have VZ := aa ih
 have yA := aa ax
 have HHL := aa hl
 have HHO := aa ho
 clear hL nA hS ih ax KF hl ho
 go_enter Tryd.func73, Tryd.ntmps73
 go_wp2
 have fH := rJ
 go_loopw [6] (fun i wr => ∃ n : Nat, n ≤ m ∧ i = .int .i64 n ∧ SS K w1 own1 (lW K.F T cx d n σ) cx.ret cx.loops cx.outs wr) (fun i _ => m - (intOf i).toNat)
 case atStart =>
  refine ⟨0, Nat.zero_le _, rfl, ?_⟩
  have : lW K.F T cx d 0 σ = σ := by unfold lW; cases σ <;> rfl
  rw [this]; exact HS.out
 case round =>
  obtain ⟨n, hn, rfl, gS⟩ := hrel
  by_cases bm : n < m
  ·have hni : (n : Int) < (m : Int) := by omega
   rcases AG.out with h0 | ⟨g, off, ga, oa, rfl, rfl, hc⟩
   ·omega
   obtain ⟨an, c0, c1, c2, c3⟩ := hc _ _ _ _ _ gS n bm
   cases hq : lW K.F T cx d n σ with
   |error e0 =>
    rw [hq] at gS
    obtain ⟨code, k5, hz⟩ := gS.code1
    have po := aa gS
    have HQ := aa hq
    clear gS hq hc
    go_wp2
    go_end0
    refine ⟨rfl, ?_⟩
    rw [F5 HQ.out hn]
    exact po.out
   |ok s =>
    rw [hq] at gS
    have k5 := gS.code0
    obtain ⟨hp, aY⟩ := Pr.out n hn s hq
    have Sr := HKA.out n bm
    have HW := aa (VZ.out n bm K w1 own1 s cx wr.drew (u n) gS.drew (HL.out.env _ _ _ _ _ gS.drew) (HL.out.nd _ _ _ _ _ gS.drew n bm) (by rw [hp]; omega) (yA.out n bm) aY (HHL.out n bm) (HHO.out n bm))
    rw [hp] at HW
    unfold Nd.val at HW
    have HQ := aa hq
    clear gS hq hp hc Sr
    generalize aP T p (d + n) = kp at *
    go_wp2
    go_still_tail 9, fH
    go_wp2_with (go_at_call 84; refine HW.out.mono ?_; rintro e w5 ⟨rfl, qu⟩; have wk := aa qu; clear qu)
    refine ⟨⟨n + 1, by omega, by go_num, ?_⟩, by simp [intOf]; omega⟩
    rw [sC, HQ.out]
    exact wk.out
  ·have po := aa gS
   clear gS
   go_wp2
   go_end0
   obtain rfl : n = m := by omega
   exact ⟨rfl, po.out⟩
theorem SS.deep {K : SK} {w0 : World} {ah : Option Nat} {s : CS} {ret loops outs : Int} {w : World} (h : SS K w0 ah (.ok s) ret loops outs w) : w.cell? ⟨K.cb, 8, none⟩ = some (.int .i64 (s.1.length : Nat)) ∧ w.frozen? ⟨K.cb, 8, none⟩ = false ∧ s.1.length ≤ 1048577 := by
 obtain ⟨vv, code, place, deep, zs, vs, h1, ⟨a1, a2, a3, a4, a5, a6, a7, a8⟩, h3⟩ := h.is
 have := h.ok.few
 refine ⟨?_, h1.free 8, by omega⟩
 rw [← a3]; exact h1.cells.2.2.2.2.2.2.2.2.1
theorem SS.deeper {K : SK} {w0 : World} {ah : Option Nat} {s : CS} {ret loops outs : Int} {w : World} (h : SS K w0 ah (.ok s) ret loops outs w) (hl : s.1.length ≤ s.2.length) :
  SS K w0 ah (.ok ([] :: s.1, s.2)) ret loops outs (w.setCell ⟨K.cb, 8, none⟩ (.int .i64 ((s.1.length : Int) + 1))) := by
 obtain ⟨vv, code, place, deep, zs, vs, h1, ⟨a1, a2, a3, a4, a5, a6, a7, a8⟩, h3⟩ := h.is
 have r1 := h1.set h.ok (i := 8) (u := .int .i64 ((s.1.length : Int) + 1)) (code' := code) (place' := place) (deep' := (s.1.length : Int) + 1) (ret' := ret) (loops' := loops) (outs' := outs) rfl
 refine h.of_raw (own := ah) r1 ⟨a1, a2, by simp, a4, a5, ?_, ?_, ?_⟩ h3 (.inl rfl) (Kept.setCell (S := K.S ah) ⟨K.cb, 8, none⟩ _ (.inl rfl))
 ·rw [a6]; simp [varsOf]
 ·have e : cy ([] :: s.1, s.2).1 = cy s.1 := by simp [cy]
  rw [e]; exact a7
 ·show ([] :: s.1).length ≤ _; simp; omega
theorem SS.lens {K : SK} {w0 : World} {ah : Option Nat} {s : CS} {ret loops outs : Int} {w : World} (h : SS K w0 ah (.ok s) ret loops outs w) : cy s.1 ≤ s.2.length ∧ s.1.length ≤ s.2.length + 1 := by
 obtain ⟨vv, code, place, deep, zs, vs, h1, ⟨a1, a2, a3, a4, a5, a6, a7, a8⟩, h3⟩ := h.is
 exact ⟨a7, a8⟩
theorem Ag {F T : Nd} {cx : Cx} {s : CS} (l : List (ByteArray × Int)) (hk : T.kind ≠ 0) : yc (lW F T cx 0 T.len (.ok (l :: s.1, s.2 ++ [0]))) = within l ((iB F T).sts cx) s := by
 rw [p8 F hk]
 unfold yc lW within tc ao
 simp only [CR.bind_ok, Nat.zero_add]
theorem F3 {F T : Nd} {cx : Cx} {s : CS} (h4 : T.kind = 4) (ax : T.sOk = true) (hs : s.1 ≠ []) : ∀ s', lW F T cx 0 T.len (.ok s) = .ok s' → s'.1 ≠ [] := by
 intro s' e
 unfold lW at e
 simp only [CR.bind_ok, Nat.zero_add] at e
 have := (StL.forN (g := fun i => (T.kids i).size) (fun i hi => (yb F (T.kids i)).st (FW h4 ax i hi) cx) lr) s s' hs e
 intro h; rw [h] at this; exact hs (List.length_eq_zero_iff.1 this.2.1.symm)
theorem FZ {K : SK} {w w1 : World} {own1 : Option Nat} {b : Nat} {T : Nd} {a : Option Addr} {cap : Nat} {u : Value} {p : Nat} (hg : SGo K w w1 own1 b T (.slice a T.len cap) u p) (hE : SEnv K w) (hN : SNd K w T (.slice a T.len cap)) (hu : T.len = 0 → ∃ a' ca, u = .slice a' 0 ca ∧ ca ≤ 9223372036854775807) :
  ∃ us, qC K w1 own1 T p 0 T.len (.slice a T.len cap) u us := by
 by_cases h0 : T.len = 0
 ·obtain ⟨a', ca, rfl, sh⟩ := hu h0
  obtain ⟨a2, c2, e2, oC, _⟩ := ar.1 hN.row
  injection e2 with e3 e4 e5
  subst e5
  refine ⟨fun _ => .tuple #[], ⟨⟨a, cap, rfl, oC.1, oC.2, a', ca, by rw [h0], by omega, sh, .inl h0⟩, fun W σ r l o hW => hg.env hE hW, fun W σ r l o hW i hi => by omega⟩⟩
 ·obtain ⟨g, off, ph, hv, tf, bQ, bz⟩ := mJ hN.row h0
  injection hv with e1 e2 e3
  subst e1
  subst e3
  obtain ⟨ga, oa, ca, rfl, sh, iH⟩ := hg.ats h0
  refine ⟨fun i => if h : i < T.len then (bz i h).choose else .tuple #[], ⟨⟨_, cap, rfl, bQ.1, bQ.2, _, ca, rfl, sh.1, sh.2, .inr ⟨g, off, ga, oa, rfl, rfl, fun W σ r l o hW i hi => ?_⟩⟩, fun W σ r l o hW => hg.env hE hW, fun W σ r l o hW i hi => ?_⟩⟩
  ·have hx := (bz i hi).choose_spec.1 W (hg.below W σ r l o hW)
   simp only [Nat.zero_add, hi, dif_pos]
   exact ⟨iH W σ r l o hW i hi, hx⟩
  ·have hx := (bz i hi).choose_spec.2
   simp only [Nat.zero_add, hi, dif_pos]
   exact (hN.kid hi hx).later (hg.below W σ r l o hW)
theorem Ii {T : Nd} (h4 : T.kind = 4) (ih : ∀ i, i < T.len → qk (T.kids i)) (K : SK) (w0 : World) (ah : Option Nat) (s : CS) (cx : Cx) (w : World) (v : Value) (hS : SS K w0 ah (.ok s) cx.ret cx.loops cx.outs w) (hE : SEnv K w) (hN : SNd K w T v) (be : s.2.length + T.size ≤ K.N) (ax : T.sOk = true) (hl : cx.loops + T.size ≤ 1099511627776) (ho : cx.outs + T.size ≤ 1099511627776) (na : Nat) :
  Calls Tryd.prog 89 #[.pointer (some ⟨K.cb, 0, none⟩), T.val v, .int .i64 s.2.length, .string ⟨#[]⟩, .int .i64 na] w fun e w' => e = .returned (.tuple #[]) ∧ SS K w0 ah (within [] ((iB K.F T).sts cx) s) cx.ret cx.loops cx.outs w' := by
 have k_S19_0 := kk
 exact UF
theorem QP {T : Nd} (hk : T.kind = 19) : qk T := by
 have k_S35_0 := kk
 exact O0
theorem QN {T : Nd} (hk : T.kind = 21) : qk T := by
 have k_S35_1 := kk
 exact O0
theorem st_8 {T : Nd} (hk : T.kind = 8) : qk T := by
 intro K w0 ah s cx w v oi hE hN be ax iO tz uS
 have bP : 0 < T.size := by rw [T.size_eq]; omega
 have hS := oi.take (by omega)
 obtain ⟨hl, lj, rL⟩ := QX hk ax
 have aF : (iB K.F T).st cx s = fC K (T.kids 1) 1 (fC K (T.kids 0) 3 (.ok (ao s))) := by
  rw [gl K.F (by omega)]
  unfold stM
  rw [if_neg (by omega), if_neg (by omega), if_neg (by omega), if_neg (by omega), if_pos hk]; rfl
 have k_S27_0 := kk
 exact UA
theorem st_9 {T : Nd} (hk : T.kind = 9) : qk T := by
 exact bS0
theorem QU {T : Nd} (hk : T.kind = 13) : qk T := by
 exact bS0
theorem QT {T : Nd} (hk : T.kind = 14) : qk T := by
 exact bS0
theorem st_7 {T : Nd} (hk : T.kind = 7) : qk T := by
 have k_S34_1 := kk
 exact Ut
theorem st_6 {T : Nd} (hk : T.kind = 6) : qk T := by
 have k_S34_0 := kk
 exact Ut
theorem B9 {K : SK} {A : Nd} {s : CS} {e : Int × Nat} (h : oI K A (.ok s) = .error e) : iz (ll K.F A) s = .error e := by
 unfold oI at h
 simp only [CR.bind_ok] at h
 cases hv : iz (ll K.F A) s with
 |error x => rw [hv, CR.bind_error] at h; injection h with h; rw [h]
 |ok r => rw [hv] at h; cases h
theorem Fc {K : SK} {A : Nd} {s s1 : CS} (h : oI K A (.ok s) = .ok s1) : ∃ t, iz (ll K.F A) s = .ok (t, s1) ∧ ∀ t', IP K A (.ok s) t' → t' = t := by
 unfold oI at h
 simp only [CR.bind_ok] at h
 obtain ⟨r, h1, h2⟩ := bb h
 injection h2 with h2; subst h2
 exact ⟨r.1, h1, fun t' h => h s r rfl (nf h1).1⟩
theorem st_5 {T : Nd} (hk : T.kind = 5) : qk T := by
 have k_S33_0 := kk
 exact Uu
theorem QO {T : Nd} (hk : T.kind = 20) : qk T := by
 have k_S33_1 := kk
 exact Uu
theorem SS.outs {K : SK} {w0 : World} {ah : Option Nat} {σ : CR CS} {ret loops outs : Int} {w : World} (h : SS K w0 ah σ ret loops outs w) : w.cell? ⟨K.cb, 9, none⟩ = some (.int .i64 ret) ∧ w.cell? ⟨K.cb, 10, none⟩ = some (.int .i64 loops) ∧ w.cell? ⟨K.cb, 11, none⟩ = some (.int .i64 outs) := by
 obtain ⟨vv, code, place, deep, zs, vs, h1, _⟩ := h.is
 exact ⟨h1.cells.2.2.2.2.2.2.2.2.2.1, h1.cells.2.2.2.2.2.2.2.2.2.2.1, h1.cells.2.2.2.2.2.2.2.2.2.2.2⟩
theorem QR {T : Nd} (hk : T.kind = 17) : qk T := by
 intro K w0 ah s cx w v oi hE hN be ax iO tz uS
 have bP : 0 < T.size := by rw [T.size_eq]; omega
 have hS := oi.take (by omega)
 have lY : ((cx.outs : Nat) : Int) = cx.outs := rfl
 by_cases h0 : cx.outs = 0
 ·have aF : (iB K.F T).st cx s = .error (10, s.2.length) := by
   rw [gl K.F (by omega)]
   unfold stM
   rw [if_neg (by omega), if_neg (by omega), if_neg (by omega), if_neg (by omega), if_neg (by omega), if_neg (by omega), if_neg (by omega), if_neg (by omega), if_neg (by omega), if_neg (by omega), if_pos hk, if_pos h0]
  have k_S26_1 := kk
  exact Im
 ·have aF : (iB K.F T).st cx s = .ok (ao s) := by
   rw [gl K.F (by omega)]
   unfold stM
   rw [if_neg (by omega), if_neg (by omega), if_neg (by omega), if_neg (by omega), if_neg (by omega), if_neg (by omega), if_neg (by omega), if_neg (by omega), if_neg (by omega), if_neg (by omega), if_pos hk, if_neg h0]
  have k_S26_2 := kk
  exact Im
theorem QQ {T : Nd} (hk : T.kind = 18) : qk T := by
 intro K w0 ah s cx w v oi hE hN be ax iO tz uS
 have bP : 0 < T.size := by rw [T.size_eq]; omega
 have hS := oi.take (by omega)
 have lY : ((cx.loops : Nat) : Int) = cx.loops := rfl
 by_cases h0 : cx.loops = 0
 ·have aF : (iB K.F T).st cx s = .error (10, s.2.length) := by
   rw [gl K.F (by omega)]
   unfold stM
   rw [if_neg (by omega), if_neg (by omega), if_neg (by omega), if_neg (by omega), if_neg (by omega), if_neg (by omega), if_neg (by omega), if_neg (by omega), if_neg (by omega), if_neg (by omega), if_neg (by omega), if_pos hk, if_pos h0]
  have k_S26_3 := kk
  exact Im
 ·have aF : (iB K.F T).st cx s = .ok (ao s) := by
   rw [gl K.F (by omega)]
   unfold stM
   rw [if_neg (by omega), if_neg (by omega), if_neg (by omega), if_neg (by omega), if_neg (by omega), if_neg (by omega), if_neg (by omega), if_neg (by omega), if_neg (by omega), if_neg (by omega), if_neg (by omega), if_pos hk, if_neg h0]
  have k_S26_4 := kk
  exact Im
theorem QV {T : Nd} (hk : T.kind = 12) : qk T := by
 intro K w0 ah s cx w v oi hE hN be ax iO tz uS
 have bP : 0 < T.size := by rw [T.size_eq]; omega
 have hS := oi.take (by omega)
 obtain ⟨a0, cap0, tw, hcap0, R9⟩ := ar.1 hN.row
 have HQ00 := aa R9
 clear R9
 rcases L1 hk ax with hl | ⟨hl, lj⟩
 ·by_cases h0 : cx.ret = 0
  ·have aF : (iB K.F T).st cx s = .ok (ao s) := by
    rw [gl K.F (by omega)]
    unfold stM
    rw [if_neg (by omega), if_neg (by omega), if_neg (by omega), if_neg (by omega), if_neg (by omega), if_neg (by omega), if_neg (by omega), if_neg (by omega), if_pos hk, if_pos (by simp [hl, h0]), if_neg (by omega)]
   have k_S20_0 := kk
   exact UE
  ·have aF : (iB K.F T).st cx s = .error (9, s.2.length) := by
    exact bS5
   have k_S20_1 := kk
   exact UE
 ·by_cases h0 : cx.ret = 0
  ·have aF : (iB K.F T).st cx s = .error (9, s.2.length) := by
    exact bS5
   have k_S8_0 := kk
   exact bS8
  ·have aF : (iB K.F T).st cx s = fC K (T.kids 0) cx.ret (.ok (ao s)) := by
    rw [gl K.F (by omega)]
    unfold stM
    rw [if_neg (by omega), if_neg (by omega), if_neg (by omega), if_neg (by omega), if_neg (by omega), if_neg (by omega), if_neg (by omega), if_neg (by omega), if_pos hk, if_pos (by simp [hl, h0]), if_pos (by omega)]; rfl
   have k_S8_1 := kk
   exact bS8
theorem st_4 {T : Nd} (hk : T.kind = 4) (ih : ∀ i, i < T.len → qk (T.kids i)) : qk T := by
 intro K w0 ah s cx w v hS hE hN be ax iO tz uS
 have aF : (iB K.F T).st cx s = within [] ((iB K.F T).sts cx) s := by
  rw [gl K.F (by omega)]
  unfold stM
  rw [if_pos hk]; rw [p8 K.F (by omega)]
 have k_S24_1 := kk
 exact UC
theorem SS.setLoops {K : SK} {w0 : World} {ah : Option Nat} {σ : CR CS} {ret loops outs : Int} {w : World} (h : SS K w0 ah σ ret loops outs w) (n : Int) : SS K w0 ah σ ret n outs (w.setCell ⟨K.cb, 10, none⟩ (.int .i64 n)) := by
 obtain ⟨vv, code, place, deep, zs, vs, h1, h2, h3⟩ := h.is
 have r1 := h1.set h.ok (i := 10) (u := .int .i64 n) (code' := code) (place' := place) (deep' := deep) (ret' := ret) (loops' := n) (outs' := outs) rfl
 exact h.of_raw (own := ah) r1 h2 h3 (.inl rfl) (Kept.setCell (S := K.S ah) ⟨K.cb, 10, none⟩ _ (.inl rfl))
theorem SS.setOuts {K : SK} {w0 : World} {ah : Option Nat} {σ : CR CS} {ret loops outs : Int} {w : World} (h : SS K w0 ah σ ret loops outs w) (n : Int) : SS K w0 ah σ ret loops n (w.setCell ⟨K.cb, 11, none⟩ (.int .i64 n)) := by
 obtain ⟨vv, code, place, deep, zs, vs, h1, h2, h3⟩ := h.is
 have r1 := h1.set h.ok (i := 11) (u := .int .i64 n) (code' := code) (place' := place) (deep' := deep) (ret' := ret) (loops' := loops) (outs' := n) rfl
 exact h.of_raw (own := ah) r1 h2 h3 (.inl rfl) (Kept.setCell (S := K.S ah) ⟨K.cb, 11, none⟩ _ (.inl rfl))
theorem SS.free {K : SK} {w0 : World} {ah : Option Nat} {σ : CR CS} {ret loops outs : Int} {w : World} (h : SS K w0 ah σ ret loops outs w) (i : Nat) : w.frozen? ⟨K.cb, i, none⟩ = false := by
 obtain ⟨vv, code, place, deep, zs, vs, h1, _⟩ := h.is
 exact h1.free i
theorem uD {K : SK} {w w1 : World} {own1 : Option Nat} {b : Nat} {T : Nd} {g off cap ga oa ca p : Nat} (hg : SGo K w w1 own1 b T (.slice (some ⟨g, off, none⟩) T.len cap) (.slice (some ⟨ga, oa, none⟩) T.len ca) p) (hE : SEnv K w) (hN : SNd K w T (.slice (some ⟨g, off, none⟩) T.len cap)) (sh : T.len ≤ ca ∧ ca ≤ 9223372036854775807)
  (iH : ∀ W σ r l o, SS K w1 own1 σ r l o W → ∀ i, i < T.len → W.cell? ⟨ga, oa + i, none⟩ = some (.int .i64 (aP T p i : Nat))) (d : Nat) (hd : d < T.len) :
  ∃ us, qC K w1 own1 T p d (T.len - d) (.slice (some ⟨g, off + d * 4, none⟩) (T.len - d) (cap - d)) (.slice (some ⟨ga, oa + d, none⟩) (T.len - d) (ca - d)) us := by
 obtain ⟨g', off', ph, hv, tf, bQ, bz⟩ := mJ hN.row (by omega)
 injection hv with e1 e2 e3
 injection e1 with e1
 injection e1 with e1 e4
 subst e1 e3 e4
 refine ⟨fun i => if h : d + i < T.len then (bz (d + i) h).choose else .tuple #[], ⟨⟨_, cap - d, rfl, by omega, by omega, _, ca - d, rfl, by omega, by omega, .inr ⟨g, off + d * 4, ga, oa + d, rfl, rfl, fun W σ r l o hW i hi => ?_⟩⟩, fun W σ r l o hW => hg.env hE hW, fun W σ r l o hW i hi => ?_⟩⟩
 ·have nx : d + i < T.len := by omega
  have hx := (bz (d + i) nx).choose_spec.1 W (hg.below W σ r l o hW)
  have ho : off + (d + i) * 4 = off + d * 4 + i * 4 := by omega
  have hu := (bz (d + i) nx).choose
  simp only [nx, dif_pos]
  generalize (bz (d + i) nx).choose = uu at hx ⊢
  rw [ho] at hx
  refine ⟨?_, hx⟩
  rw [Nat.add_assoc]
  exact iH W σ r l o hW (d + i) nx
 ·have nx : d + i < T.len := by omega
  have hx := (bz (d + i) nx).choose_spec.2
  simp only [nx, dif_pos]
  exact (hN.kid nx hx).later (hg.below W σ r l o hW)
theorem J3 {F T : Nd} {cx : Cx} {n : Nat} {σ : CR CS} : lW F T cx 1 n σ = CR.bind σ (forN (fun i => (iB F (T.kids (i + 1))).st cx) n) := by
 unfold lW
 have : (fun i => (iB F (T.kids (1 + i))).st cx) = (fun i => (iB F (T.kids (i + 1))).st cx) := by funext i; rw [Nat.add_comm]
 rw [this]
theorem F4 {F T : Nd} {cx : Cx} {d : Nat} {σ : CR CS} : lW F T cx d 1 σ = CR.bind σ ((iB F (T.kids d)).st cx) := by
 unfold lW
 cases σ <;> rfl
theorem B8 {K : SK} {T : Nd} {s : CS} {t : Int} (he : (T.kids 0).eOk = true) (hs : s.1 ≠ []) : ∀ s', fC K (T.kids 0) t (.ok (ao s)) = .ok s' → s'.2.length = aP T s.2.length 1 ∧ s'.1 ≠ [] := by
 intro s' e
 have h1 : fM (ll K.F (T.kids 0)) t (ao s) = .ok s' := e
 obtain ⟨a1, a2⟩ := (pK K.F _ he).want t _ _ h1
 rw [b5] at a2
 refine ⟨by rw [a2]; unfold aP; simp only [ag]; omega, ?_⟩
 rw [a1]; exact hs
theorem QW {T : Nd} (hk : T.kind = 10) (ih : ∀ i, i < T.len → qk (T.kids i)) : qk T := by
 intro K w0 ah s cx w v oi hE hN be ax iO tz uS
 have bP : 0 < T.size := by rw [T.size_eq]; omega
 have hS := oi.take (by omega)
 obtain ⟨hl, lj, hb1, hb2⟩ := L3 hk ax
 have aF : (iB K.F T).st cx s = lW K.F T cx 1 (T.len - 1) (fC K (T.kids 0) 2 (.ok (ao s))) := by
  rw [gl K.F (by omega)]
  unfold stM
  rw [if_neg (by omega), if_neg (by omega), if_neg (by omega), if_neg (by omega), if_neg (by omega), if_neg (by omega), if_pos hk]; exact J3.symm
 have k_S11_1 := kk
 exact Lj
theorem NC {T : Nd} (hk : T.kind = 11) (hl : T.len = 1) (hb1 : (T.kids 0).kind = 4 ∧ (T.kids 0).sOk = true) (ih : ∀ i, i < T.len → qk (T.kids i)) : qk T := by
 intro K w0 ah s cx w v oi hE hN be ax iO tz uS
 have bP : 0 < T.size := by rw [T.size_eq]; omega
 have hS := oi.take (by omega)
 have aF : (iB K.F T).st cx s = lW K.F T ⟨cx.ret, cx.loops + 1, cx.outs + 1⟩ 0 (T.len - 0) (.ok (ao s)) := by
  exact bS6
 have k_S28_0 := kk
 exact Uz
theorem NB {T : Nd} (hk : T.kind = 11) (hl : T.len = 2) (lj : (T.kids 0).eOk = true) (hb1 : (T.kids 1).kind = 4 ∧ (T.kids 1).sOk = true) (ih : ∀ i, i < T.len → qk (T.kids i)) : qk T := by
 intro K w0 ah s cx w v oi hE hN be ax iO tz uS
 have bP : 0 < T.size := by rw [T.size_eq]; omega
 have hS := oi.take (by omega)
 have aF : (iB K.F T).st cx s = lW K.F T ⟨cx.ret, cx.loops + 1, cx.outs + 1⟩ 1 (T.len - 1) (fC K (T.kids 0) 2 (.ok (ao s))) := by
  exact bS6
 have k_S11_2 := kk
 exact Lj
theorem A6 {s : ByteArray} (h : az s = false) : (s.toList == []) = false ∧ (s.toList != []) = true := by
 have e1 : (⟨#[]⟩ : ByteArray).toList = [] := by rw [ByteArray.toList_eq]
 have h1 : (s.toList == (⟨#[]⟩ : ByteArray).toList) = false := sq (fun e => by subst e; simp [az] at h)
 rw [e1] at h1
 exact ⟨h1, by simp only [bne, h1]; rfl⟩
theorem OQ {T : Nd} (h4 : T.kind = 4) (ih : ∀ i, i < T.len → qk (T.kids i)) (K : SK) (w0 : World) (ah : Option Nat) (s : CS) (cx : Cx) (w : World) (v : Value) (hS : SS K w0 ah (.ok s) cx.ret cx.loops cx.outs w) (hE : SEnv K w) (hN : SNd K w T v) (be : s.2.length + T.size ≤ K.N) (ax : T.sOk = true) (hl : cx.loops + T.size ≤ 1099511627776) (ho : cx.outs + T.size ≤ 1099511627776) (name : ByteArray) (na : Nat) (il : az name = false) :
  Calls Tryd.prog 89 #[.pointer (some ⟨K.cb, 0, none⟩), T.val v, .int .i64 s.2.length, .string name, .int .i64 na] w fun e w' => e = .returned (.tuple #[]) ∧ SS K w0 ah (within [(name, 1)] ((iB K.F T).sts cx) s) cx.ret cx.loops cx.outs w' := by
 have k_S19_1 := kk
 exact UF
end Go.Proofs.YtkfbbdhidecefaaDoor
