import Derived.Test.YtkfbbdhidecefaaDoorUDG
set_option linter.unusedVariables false
set_option maxHeartbeats 16000000
set_option maxRecDepth 100000
namespace Go.Proofs.YtkfbbdhidecefaaDoor
open Go.RowKit
variable {G : Prop}
theorem bM0 (h : G := by
 obtain ⟨gC, gH⟩ := HS.out.pre bB
 obtain ⟨z0, z1, z2, z3, zf⟩ := aw (bG mS.out.obx yh gH)
 exact bM3) : G := h
theorem VA (h : G := by
 exact bM3) : G := h
theorem vO (h : G := by
 exact bM4) : G := h
theorem bM3 (h : G := by
 clear gC gH
 exact bM4) : G := h
theorem bM4 (h : G := by
 go_simp
 exact fG.out v (fun _ _ _ h => h) (HS.out.same (by omega) cJ (by decide) (by decide) rfl) _ rfl (by decide)) : G := h
theorem bM5 (h : G := by
 obtain ⟨gC, gH⟩ := HS.out.pre bB
 have mO : w6.heap.size ≤ v.heap.size := by have := gH.size; omega
 obtain ⟨xj, v2, iS, aD, iH⟩ := SI.join (sb := sb) (A := A) (w := w) (mS.out.gw.kp (sb := sb) (by omega) gH) mS.out.ok GM GU (by omega) mO lr (fun g hg => (mS.out.gw.own.lt g hg).2) (by omega)
 first
 |clear k_M5_0
  refine oH rfl h36 hx (iS _) ?_
  exact fG.out v2 (rm (Wn.of_grown aD (fun k hk => (mS.out.gw.own.lt k hk).2)) bB aF) (HS.out.join (by omega) cJ (by decide) aF (by omega) yh aD (fun k hk => by have := (mS.out.gw.own.lt k hk).1; omega)) _ iH (by decide)
 |clear k_M5_1
  refine oH rfl h88 hx (iS _) ?_
  exact fG.out v2 (qj (Wn.of_grown aD (fun k hk => (mS.out.gw.own.lt k hk).2)) bB aF) (HS.out.join (by omega) cJ (by decide) aF (by omega) yh aD (fun k hk => by have := (mS.out.gw.own.lt k hk).1; omega)) _ iH (by decide)) : G := h
theorem bM6 (h : G := by
 rw [oz] at htu
 have HSV := aa (SC.out _ v gC)
 have mO := gH.size
 clear hx
 go_simp
 refine (vy Fa.out sb _ n q2 (.slice va n vc) loops v (by omega) (by omega) (by omega) gC.src HSV.out).mono ?_
 rintro e' v2 ⟨T2, u2, rfl, d2⟩
 obtain ⟨a2, c2, rfl⟩ := aQ d2.row
 first
 |clear k_M6_0
  exact fG.out v2 (rm (Wn.of_kp d2.kp Bl) bB aF) (HS.out.ask (by omega) (by omega) cJ (by decide) (by decide) bB aF d2.src d2.kp) _ ⟨T2, a2, c2, ⟨d2.fine, d2.ok.1, d2.cost⟩, rfl, cD d2.row mO lr⟩ (by decide)
 |clear k_M6_1
  exact fG.out v2 (qj (Wn.of_kp d2.kp Bl) bB aF) (HS.out.ask (by omega) (by omega) cJ (by decide) (by decide) bB aF d2.src d2.kp) _ ⟨T2, a2, c2, ⟨d2.fine, d2.ok.1, d2.cost⟩, rfl, cD d2.row mO lr⟩ (by decide)) : G := h
theorem bM7 (h : G := by
 have k_M16_1 := kk
 exact Pe) : G := h
theorem bM8 (h : G := by
 have bB := fN (f := 40) (j := 7) mZ.out (by kernel_rfl) cJ
 have aF := fN (f := 40) (j := 9) mZ.out (by kernel_rfl) cJ
 obtain ⟨gC, gH⟩ := HS.out.pre bB
 have mO : wX.heap.size ≤ v.heap.size := by have := gH.size; omega
 first
 |clear k_M8_0
  have EF := aa (cD (l8 RL.out (by omega) lr gH) lr gH.size)
  go_simp
  exact fG.out _ (tQ (Wn.of_calm (bA)) bB aF) (HS.out.calm (by omega) cJ (by decide) (by decide) rfl bB aF (bA)) _ ⟨gO 0 0 ⟨#[]⟩ (al 24 0 ch) (ct l7 TB), _, _, rfl, rfl, LV.two (A := al 24 0 ch) (B := ct l7 TB) mO (gD _ _ _ _ _ _) EF.out⟩ (by decide)
 |clear k_M8_1
  clear Me Mo
  go_simp
  exact fG.out _ (tQ (Wn.of_calm (bA)) bB aF) (HS.out.calm (by omega) cJ (by decide) (by decide) rfl bB aF (bA)) _ ⟨cm 0 0 ⟨#[]⟩ T5, _, _, ⟨T5, Sa, rfl⟩, rfl, LV.one mO HR.out⟩ (by decide)) : G := h
theorem bM9 (h : G := by
 obtain ⟨gC, o9⟩ := HS.out.mid vX (fF cJ)
 rw [oz] at gC
 have qx := o9.trans mS.out.obx
 obtain ⟨z0, z1, z2, z3, zf⟩ := aw qx
 have Ng := zf 3
 obtain ⟨a2, c2, hx, ER⟩ := SI.done gC Cy qx iH
 first
 |clear k_M9_0
  have h52 := ab hx
  have PG := aa ER
  clear hx gC o9 qx iH ER zf
  go_simp
  exact vQ.out _ (fun j x _ hx => Ph (by omega) j x hx) (GS.store (by omega) (.inr vX) PG.out) (fun _ => trivial)
 |clear k_M9_1
  have h100 := ab hx
  have PG := aa ER
  clear hx gC o9 qx iH ER zf
  go_simp
  exact vQ.out _ (fun j x _ hx => Lt (by omega) j x hx) (GS.store (by omega) (.inr vX) PG.out) (fun _ => trivial)) : G := h
theorem Vz (h : G := by
 have bB := fN (f := 40) (j := 17) mZ.out (by kernel_rfl) cJ
 have aF := fN (f := 40) (j := 19) mZ.out (by kernel_rfl) cJ
 obtain ⟨gC, gH⟩ := HS.out.pre bB
 have mO := gH.size
 go_simp
 first
 |clear k_M10_0
  refine (yC.out _ v (by omega) gC).mono ?_
  rintro e' v2 ⟨T2, u2, rfl, d2⟩
  obtain ⟨a2, c2, rfl⟩ := aQ d2.row
  exact fG.out v2 (rm (Wn.of_kp d2.kp Bl) bB aF) (HS.out.ask (by omega) (by omega) cJ (by decide) (by decide) bB aF d2.src d2.kp) _ ⟨T2, a2, c2, ⟨d2.fine, d2.ok, d2.cost⟩, rfl, cD d2.row mO lr⟩ (by decide)
 |clear k_M10_1
  exact fG.out _ (rm (Wn.of_calm (bA)) bB aF) (HS.out.calm (by omega) cJ (by decide) (by decide) rfl bB aF (bA)) _ ⟨nW 0 0 ⟨#[]⟩ (al 24 0 ch) T5 T13, _, _, ⟨T5, T13, Sa, Oc, rfl⟩, rfl, LV.three (A := al 24 0 ch) mO (gD _ _ _ _ _ _) VQ.out HR13.out⟩ (by decide)) : G := h
theorem Vy (h : G := by
 have k_M15_1 := kk
 exact Vx) : G := h
theorem Ip (h : G := by
 have bB := fN (f := 40) (j := 17) mZ.out (by kernel_rfl) cJ
 have aF := fN (f := 40) (j := 19) mZ.out (by kernel_rfl) cJ
 obtain ⟨gC, gH⟩ := HS.out.pre bB
 first
 |clear k_M12_0
  go_simp
  refine (bM _ _ _ _ _ _ _).mono ?_
  rintro e' v2 ⟨rfl, hb⟩
  exact fG.out v2 (rm (Wn.of_calm hb) bB aF) (HS.out.calm (by omega) cJ (by decide) (by decide) rfl bB aF hb) _ (TV.node (P := fun _ => True) 16 2 ⟨#[]⟩ (cs9 vH.out hF14 hB14) ((Wn.of_calm hb).row HR.out)) (by decide)
 |clear k_M12_1
  go_simp
  refine (gv sb _ 2 v (by omega) (by omega) gC.src).mono ?_
  rintro e' v2 ⟨q2, mU, rfl, hs, hk⟩
  exact fG.out v2 (rm (Wn.of_kp hk Bl) bB aF) (HS.out.ask (by omega) (by omega) cJ (by decide) (by decide) bB aF hs hk) _ ⟨q2, by omega, rfl⟩ (by decide)
 |clear k_M12_2
  obtain ⟨z0, z1, z2, z3, zf⟩ := aw (bG LG.out G8 gH)
  exact VA
 |clear k_M12_3
  have htu : vK (fun i => if i = 5 then 300 else if i = 11 then 3 else if i = 13 then 2 * K + 10 else 0) l 20 + (2 * K + 10) ≤ ag (fun i => if i = 5 then 300 else if i = 11 then 3 else if i = 13 then 2 * K + 10 else 0) 20 := by have := xH (asks := fun i => if i = 5 then 300 else if i = 11 then 3 else if i = 13 then 2 * K + 10 else 0) (n := 20) (i := 13) (fF cJ) (by omega); exact this
  have k_M6_0 := kk
  exact bM6
 |clear k_M12_4
  have mO : w6.heap.size ≤ v.heap.size := by have := gH.size; omega
  clear Rv RZ
  go_simp
  exact fG.out _ (rm (Wn.of_calm (bA)) bB aF) (HS.out.calm (by omega) cJ (by decide) (by decide) rfl bB aF (bA)) _ ⟨cm 0 0 ⟨#[]⟩ T15, _, _, ⟨T15, hp15, rfl⟩, rfl, LV.one mO HR.out⟩ (by decide)) : G := h
theorem Io (h : G := by
 have bB := fN (f := 40) (j := 13) mZ.out (by kernel_rfl) cJ
 have aF := fN (f := 40) (j := 15) mZ.out (by kernel_rfl) cJ
 obtain ⟨gC, gH⟩ := HS.out.pre bB
 first
 |clear k_M13_0
  go_simp
  refine (bM _ _ _ _ _ _ _).mono ?_
  rintro e' v2 ⟨rfl, hb⟩
  exact fG.out v2 (qj (Wn.of_calm hb) bB aF) (HS.out.calm (by omega) cJ (by decide) (by decide) rfl bB aF hb) _ (TV.node (P := fun _ => True) 16 0 ⟨#[]⟩ (cs15 hB10) ((Wn.of_calm hb).row HR.out)) (by decide)
 |clear k_M13_1
  go_simp
  refine (gv sb _ 2 v (by omega) (by omega) gC.src).mono ?_
  rintro e' v2 ⟨q2, mU, rfl, hs, hk⟩
  exact fG.out v2 (qj (Wn.of_kp hk Bl) bB aF) (HS.out.ask (by omega) (by omega) cJ (by decide) (by decide) bB aF hs hk) _ ⟨q2, by omega, rfl⟩ (by decide)
 |clear k_M13_2
  have mO := gH.size
  go_simp
  exact fG.out _ (qj (Wn.of_calm (bA)) bB aF) (HS.out.calm (by omega) cJ (by decide) (by decide) rfl bB aF (bA)) _ ⟨cm 0 0 ⟨#[]⟩ T9, _, _, ⟨T9, hp9, rfl⟩, rfl, LV.one mO HR.out⟩ (by decide)
 |clear k_M13_3
  have mO : w6.heap.size ≤ v.heap.size := by have := gH.size; omega
  clear GD GP
  go_simp
  exact fG.out _ (qj (Wn.of_calm (bA)) bB aF) (HS.out.calm (by omega) cJ (by decide) (by decide) rfl bB aF (bA)) _ ⟨cm 0 0 ⟨#[]⟩ T11, _, _, ⟨T11, Od, rfl⟩, rfl, LV.one mO HR.out⟩ (by decide)
 |clear k_M13_4
  have htu : vK (fun i => if i = 7 then 3 else if i = 9 then 2 * K + 10 else 0) l 16 + (2 * K + 10) ≤ ag (fun i => if i = 7 then 3 else if i = 9 then 2 * K + 10 else 0) 16 := by have := xH (asks := fun i => if i = 7 then 3 else if i = 9 then 2 * K + 10 else 0) (n := 16) (i := 9) (fF cJ) (by omega); exact this
  have k_M6_1 := kk
  exact bM6) : G := h
theorem Ln (h : G := by
 have bB := fN (f := 40) (j := 7) mZ.out (by kernel_rfl) cJ
 have aF := fN (f := 40) (j := 9) mZ.out (by kernel_rfl) cJ
 obtain ⟨gC, gH⟩ := HS.out.pre bB
 first
 |clear k_M14_0
  go_simp
  refine (bM _ _ _ _ _ _ _).mono ?_
  rintro e' v2 ⟨rfl, hb⟩
  exact fG.out v2 (tQ (Wn.of_calm hb) bB aF) (HS.out.calm (by omega) cJ (by decide) (by decide) rfl bB aF hb) _ (TV.node (P := fun _ => True) 16 1 ⟨#[118]⟩ (cs13 vH.out PB.out Sk) ((Wn.of_calm hb).row HR.out)) (by decide)
 |clear k_M14_1
  obtain ⟨z0, z1, z2, z3, zf⟩ := aw (bG BX.out.obx yh gH)
  exact VA
 |clear k_M14_2
  obtain ⟨z0, z1, z2, z3, zf⟩ := aw (bG PO.out G8 gH)
  exact VA
 |clear k_M14_3
  obtain ⟨z0, z1, z2, z3, zf⟩ := aw (bG E7.out qU gH)
  exact VA) : G := h
theorem Vx (h : G := by
 have k_M16_2 := kk
 exact Pe) : G := h
theorem Pe (h : G := by
 have bB := fN (f := 40) (j := 8) mZ.out (by kernel_rfl) cJ
 have aF := fN (f := 40) (j := 8) mZ.out (by kernel_rfl) cJ
 obtain ⟨gC, gH⟩ := HS.out.pre bB
 first
 |clear k_M16_0
  obtain ⟨z0, z1, z2, z3, zf⟩ := aw (bG tT.out qU gH)
  exact VA
 |clear k_M16_1
  go_simp
  refine (ay _ _ _ _ _ _).mono ?_
  rintro e' v2 ⟨rfl, hb⟩
  first
  |clear k_M7_0
   exact fG.out v2 (rZ (Wn.of_calm hb) gV bB aF) (HS.out.calm (by omega) cJ (by decide) (by decide) rfl bB aF hb) _ rfl (by decide)
  |clear k_M7_1
   exact fG.out v2 (rZ (Wn.of_calm hb) gV bB aF) (HS.out.calm (by omega) cJ (by decide) (by decide) rfl bB aF hb) _ (TV.node (P := fun _ => True) 20 0 ⟨#[]⟩ rfl ((Wn.of_calm hb).row HR.out)) (by decide)
 |clear k_M16_2
  have mO := gH.size
  first
  |clear k_M15_0
   obtain ⟨aj, cj, v2, vs, iS, mV, aD, iU⟩ := nE (Mz.weak (show wX.heap.size ≤ wE.heap.size by omega)) (l8 RB.out (by omega) (by omega) gH) (by omega) lr Rm (by omega) (fun g hg => .inr (by simp [Value.ownBlock] at hg; omega)) (by omega)
   have uX := vA Mz (l8 RB.out (by omega) (by omega) gH) (by omega) iS
   refine oH rfl hx h73 (iS _) ?_
   refine fG.out v2 (rZ (Wn.of_calm uX) gV bB aF) (HS.out.calm (by omega) cJ (by decide) (by decide) rfl bB aF uX) _ ⟨_, _, _, _, aj, cj, rfl, mV, rfl, ?_, fun i hi => ?_⟩ (by decide)
   ·rcases iU with e | ⟨k, e, hk⟩
    ·rw [e]; simp [Value.ownBlock]; omega
    ·rw [e]; intro h; have := Option.some.inj h; omega
   ·by_cases h3 : i < 1
    ·rw [bh _ _ h3, bh _ _ h3]; left; omega
    ·rw [bN _ _ (by omega), bN _ _ (by omega)]; right; omega
  |clear k_M15_1
   go_simp
   first
   |clear k_M11_0
    exact fG.out _ (rZ (Wn.of_calm (bA)) gV bB aF) (HS.out.calm (by omega) cJ (by decide) (by decide) rfl bB aF (bA)) _ ⟨cm 0 0 ⟨#[]⟩ (al 24 0 ⟨#[118]⟩), _, _, rfl, rfl, LV.one (A := al 24 0 ⟨#[118]⟩) mO (gD _ _ _ _ _ _)⟩ (by decide)
   |clear k_M11_1
    exact fG.out _ (rZ (Wn.of_calm (bA)) gV bB aF) (HS.out.calm (by omega) cJ (by decide) (by decide) rfl bB aF (bA)) _ (GV.new (A := l7) rfl mO HR.out) (by decide)) : G := h
theorem wQ (deep : Int) (C K M : Nat) (h0 : 0 < deep) (h9 : deep ≤ 100) (hC : C ≤ 100000000) (hK : K ≤ 100000000) (E1 : EXC 1 1 300 300) (BD : LW (deep - 1) C K M) : SLC deep (3 * (2 * C + 401)) (6 * K + 1000) (M + 3) := by
 intro sb A n v loops w hA hnM h hs
 have HD := aa (DW.start h)
 obtain ⟨va, vc, rfl, _⟩ := id hs
 have sL := bO w gZ
 have SC := aa (fun B W (hd : DW sb B w W) => (hs.keep (b7 sL _)).keep hd.kp)
 have PV := aa (fun (typ : Int) B W (hB : B + 3 ≤ 1099511627776) (hd : DW sb B w W) => pD sb B n typ (.slice va n vc) W hB hd.src (SC.out B W hd))
 have CH := aa (fun B W (hB : B + 3 ≤ 1099511627776) (hd : DW sb B w W) (k : Nat) (hk : k ≤ 100) => ri sb B k W hB (by omega) hd.src)
 have NX := aa (fun B W (hB : B + 3 ≤ 1099511627776) (hd : DW sb B w W) (k : Nat) (hk : k ≤ 100) => gv sb B k W hB (by omega) hd.src)
 have yC := aa (fun B W (hB : B + 300 ≤ 1099511627776) (hd : DW sb B w W) => E1 sb B n (.slice va n vc) W hB hd.src (SC.out B W hd))
 have Fa := aa BD
 have fH := rJ
 have EP : IntKind.i64.wrap (deep - 1) = deep - 1 := lu (by omega) (by omega)
 have sJ : sb < w.heap.size := h.lt
 unfold gZ at *
 clear h sL E1 BD
 go_enter Tryd.func71, Tryd.ntmps71
 go_wp2_with fail
 refine (bM _ _ _ _ _ _ _).mono ?_
 rintro e w1 ⟨rfl, hb⟩
 have qD := aa (HD.out.calm hb)
 have hZ := qD.out.size
 have o6 := aa (qD.out.alloc (lV 15 0 ⟨#[]⟩ none 0 0))
 have yh : w1.heap.size ≠ sb := by omega
 clear hb HD
 go_wp2_with fail
 refine (NX.out _ _ (by omega) o6.out 3 (by omega)).mono ?_
 rintro e w3 ⟨q, hq, rfl, hs, hk⟩
 have SE0 : Hid (SE sb (A + 3) (2 * C + 400) w w1.heap.size 0 w3) := ⟨fun _ => .nil, fun _ => undef, fun _ => 0, fun _ => 0, none, 0, o6.out.step hs hk, by omega, bG (heap_alloc_new w1 _) yh hk, Gw.start _ _ _ _ (World.ownsRow_nil _ _ _ _), fun i hi => absurd hi (Nat.not_lt_zero _)⟩
 clear hs hk qD o6
 go_wp2_with fail
 go_loopw [10] (fun i wr => ∃ (c j B : Nat), i = .int .i64 c ∧ c ≤ 2 ∧ j + c ≤ 2 ∧ B + c * (2 * K + 330) ≤ A + 3 + 2 * (2 * K + 330) ∧ SE sb B (2 * C + 400) w w1.heap.size j wr) (fun i _ => (intOf i).toNat)
 case atStart =>
  exact ⟨q, 0, A + 3, rfl, by omega, by omega, by have : q * (2 * K + 330) ≤ 2 * (2 * K + 330) := Nat.mul_le_mul_right _ (by omega); omega, SE0.out⟩
 case round =>
  obtain ⟨c, j, B, rfl, hc, hj, hB, Ts, us, s, e, ka, kc, hsi⟩ := hrel
  have Qm := aa hsi
  have Cy := hsi.low
  clear hsi SE0
  by_cases hcz : 0 < c
  ·skip
   obtain ⟨c1, iQ⟩ : ∃ c1, c = c1 + 1 := ⟨c - 1, by omega⟩
   have hwc : IntKind.i64.wrap ((c : Int) - 1) = (c1 : Int) := by rw [lu (by omega) (by omega)]; omega
   have SQ : (0 : Int) < (c : Int) := by omega
   have hB1 : B + (2 * K + 330) + c1 * (2 * K + 330) ≤ A + 3 + 2 * (2 * K + 330) := by rw [iQ, Nat.add_mul] at hB; omega
   have hB2 : B + (2 * K + 330) ≤ A + 3 + 2 * (2 * K + 330) := by omega
   generalize hY : c1 * (2 * K + 330) = Y at hB1
   go_wp2_with fail
   refine (PV.out 3 _ _ (by omega) Qm.out.dw).mono ?_
   rintro e' w4 ⟨ch, isChan, il, rfl, aY, mP⟩
   have Pv := aa (Qm.out.kp aY mP)
   have IG := aa il
   clear aY mP il Qm
   cases isChan
   ·go_wp2
    exact ⟨⟨c1, j, B + 3, rfl, by omega, by omega, by omega, _, _, _, _, _, _, Pv.out⟩, by simp [intOf]; omega⟩
   ·have oS := IG.out (by trivial)
    have Kq := gR oS
    have vH := aa oS
    clear oS IG
    go_wp2_with fail
    refine (ay _ _ _ _ _ _).mono ?_
    rintro e' w5 ⟨rfl, hb⟩
    have C4 := aa (Pv.out.calm hb)
    have hz5 := C4.out.dw.size
    have hob5 := (Array.getElem?_eq_some_iff.1 C4.out.obx).1
    have Pu := aa (C4.out.calm ((Below.refl _ _).alloc lr (lV 24 0 ch none 0 0)))
    have G8 : w5.heap.size ≠ sb := by omega
    clear hb Pv C4
    go_wp2_with fail
    refine (CH.out _ _ (by omega) Pu.out.dw 2 (by omega)).mono ?_
    rintro e' w6 ⟨t, rfl, hs, hk⟩
    have mS := aa (Pu.out.kp hs hk)
    have LG : Hid (w6.heap[w5.heap.size]? = some (lV 24 0 ch none 0 0)) := bG (heap_alloc_new w5 _) G8 hk
    have Rp : w5.heap.size + 1 ≤ w6.heap.size := by have := hk.size; simpa [lV] using this
    clear hs hk Pu
    cases t
    ·skip
     obtain ⟨iv, Oj, Bh, Bg, Bf⟩ := info_parts ye
     obtain ⟨v3, w7, iS, Au, hb3⟩ := sS (B := w6.heap.size) (SC.out _ _ mS.out.dw) lr
     obtain ⟨a3, c3, rfl⟩ := Au.shape
     obtain ⟨f3, rI, G0⟩ := id Au
     have vG := aa iS
     have Ro := hb3.size
     have PX := aa hb3
     have IE := aa rI
     have MZ := aa Au
     clear iS Au hb3 rI
     go_wp2_with (first
      |(at_builtin; refine iL _ rfl _ _ 68 rfl _ _ _ _ rfl rfl vG.out ?_; clear vG)
      |(at_builtin; refine bE _ rfl _ _ 68 rfl w6.heap.size 83 iv (.agg #[.string ⟨#[]⟩, .int .i64 0, .int .i64 0]) 3 32 Tryd.underlying68 Oj Bh Bg Bf rfl (by decide) _ n _ rfl (IE.out.alloc _) ⟨w7.heap.size, 0, none⟩ 1 1 [.string ⟨#[118]⟩, .int .i64 1, .int .i64 0] rfl rfl (p6 _ _ _ _ _) (rp _ _ _) (by unfold maxLen; omega) (by omega) (by simp; omega) ?_; intro v4 wI zG uV Hc GI; obtain ⟨aI, cI, xg⟩ := GI.out; subst xg)
      |(go_at_call 28; fail))
     have VI := aa (xL (t := 1) G0 (show ck ⟨#[118]⟩ = true by decide) zG.out)
     have hbI : Below w6.heap.size w6 wI := Below.of_grown (PX.out.trans ((bO w7 (.cells #[.string ⟨#[118]⟩, .int .i64 1, .int .i64 0] 83)).mono Ro)) uV.out (by simp; omega) (fun g hg => (MZ.out.lt g hg).1)
     have Pt := aa (mS.out.calm hbI)
     have Wd := aa (aZ LG.out hbI)
     have hzI := hbI.size
     clear zG uV Hc GI MZ IE G0 PX hbI mS LG
     refine (NX.out _ _ (by omega) Pt.out.dw 2 (by omega)).mono ?_
     rintro e' wX ⟨q, hq, rfl, hs, hk⟩
     have yy := aa (Pt.out.kp hs hk)
     have Wc := aa (bG Wd.out G8 hk)
     have VH := aa (VI.out.kp (sb := sb) (by omega) hk)
     have hzX := hk.size
     clear hs hk Pt VI Wd
     go_wp2_with fail
     refine (vy Fa.out sb _ (n + 1) q (.slice aI (n + 1) cI) loops wX (by omega) (by omega) (by omega) yy.out.dw.src (VH.out.scp (by omega) (by omega))).mono ?_
     rintro e' wY ⟨TB, uB, rfl, dB⟩
     obtain ⟨aB, cB, rfl⟩ := aQ dB.row
     have Na := aa (yy.out.dw.step dB.src dB.kp)
     have Rm := dB.kp.size
     have RB := aa (ae (bO wY (lV TB.kind TB.num TB.name aB TB.len cB)) lr dB.row)
     have PB : Hid (mo (2 * C) TB) := ⟨dB.fine, dB.ok.1, dB.cost⟩
     have P5 := Nd.fine_len dB.fine
     have Sk : TB.len ≤ 2 := dB.ok.2
     obtain ⟨wE, Cu⟩ : ∃ W, wY.alloc (lV TB.kind TB.num TB.name aB TB.len cB) = W := ⟨_, rfl⟩
     have PD : Hid (Kp sb wX (wY.alloc (lV TB.kind TB.num TB.name aB TB.len cB))) := dB.kp.trans (b7 (bO wY _) _) (fun _ _ h => h)
     clear dB VH
     unfold Nd.val
     have yN := aa (Na.out.alloc (lV TB.kind TB.num TB.name aB TB.len cB))
     have tT := aa (heap_alloc_new wY (lV TB.kind TB.num TB.name aB TB.len cB))
     have hzE : wY.heap.size + 1 ≤ wE.heap.size := by rw [← Cu]; simp
     rw [Cu] at yN tT RB PD
     have M5 := aa Cu
     clear Cu Na
     have qU : wY.heap.size ≠ sb := by omega
     have gV : wX.heap.size ≤ wE.heap.size := by omega
     go_upto_region 12 with fail
     rw [show (wY.alloc (Obj.cells #[.int .i64 TB.kind, .int .i64 TB.num, .string TB.name, .slice aB TB.len cB] 27)) = wE from M5.out]
     clear M5
     have oz : ag (fun _ => 0) 9 = 0 := by simp [ag]
     refine fO fH (by kernel_rfl) wv (vD wY.heap.size wE.heap.size wX.heap.size aB TB cB) (GS sb (B + 3 + 3 + 3 + (2 * K + 10)) (fun _ => 0) 9 8 8 w wE (wY.heap.size) (F12 sb (B + 3 + 3 + 3 + (2 * K + 10)) wX.heap.size wY.heap.size TB w wE)) (GS.start _ yN.out) ?_ ?_
     ·intro l a v i hI hr
      have EU : i < 9 := (bd hr).1
      have cJ := (bd hr).2
      have Hb : l.size = 9 := hI.lsize
      have HS := aa hI.s
      have qS := ng (fun _ => 0) l 9
      rw [oz] at qS
      have mZ := aa hI.shut
      have fG := aa (fun (v' : World) (hw : ∀ jj x, l.getD jj false = true → vD wY.heap.size wE.heap.size wX.heap.size aB TB cB jj v x → vD wY.heap.size wE.heap.size wX.heap.size aB TB cB jj v' x) (nB : GS sb (B + 3 + 3 + 3 + (2 * K + 10)) (fun _ => 0) 9 8 8 w wE (wY.heap.size) (F12 sb (B + 3 + 3 + 3 + (2 * K + 10)) wX.heap.size wY.heap.size TB w wE) (l.setIfInBounds i true) v') (x : Value) (hx : vD wY.heap.size wE.heap.size wX.heap.size aB TB cB i v' x) (bP : wv i < 103) => hI.put IS hr bP hw nB hx)
      have vQ := aa (fun (v' : World) (hw : ∀ jj x, l.getD jj false = true → vD wY.heap.size wE.heap.size wX.heap.size aB TB cB jj v x → vD wY.heap.size wE.heap.size wX.heap.size aB TB cB jj v' x) (nB : GS sb (B + 3 + 3 + 3 + (2 * K + 10)) (fun _ => 0) 9 8 8 w wE (wY.heap.size) (F12 sb (B + 3 + 3 + 3 + (2 * K + 10)) wX.heap.size wY.heap.size TB w wE) (l.setIfInBounds i true) v') (hx : ∀ x, vD wY.heap.size wE.heap.size wX.heap.size aB TB cB i v' x) => hI.none hr hw nB hx)
      have bx := aa (fun (j : Nat) (hj : j < 9) (hl : l.getD j false = true) => hI.vals j hj hl)
      have bg := aa (fun o (ho : _ = some o) => gE hr (o := o) ho)
      have s15 : a.tmps[15]?.getD undef = .pointer (some ⟨wY.heap.size, 0, none⟩) := ab (hI.keep 15 (by intro i hi; have h2 : i < 9 := hi; show 15 ≠ wv i; have : ((List.range 9).all fun i => decide (wv i ≠ 15)) = true := (by decide); have h3 := List.all_eq_true.1 this i (List.mem_range.2 h2); simp at h3; exact fun e => h3 e.symm))
      clear hI hr
      rcases (by omega : i = 0 ∨ i = 1 ∨ i = 2 ∨ i = 3 ∨ i = 4 ∨ i = 5 ∨ i = 6 ∨ i = 7 ∨ i = 8) with rfl | rfl | rfl | rfl | rfl | rfl | rfl | rfl | rfl
      all_goals (refine lx rfl rfl ?_)
      ·have k_M7_0 := kk
       exact bM7
      ·have h68 := ab (show a.eval (.tmp 68) = .agg #[.int .i64 24, .int .i64 0, .string ⟨#[118]⟩, .slice none 0 0] from bx.out 0 (by omega) (bg.out _ rfl ⟨0, Ground.data⟩ (by simp) rfl))
       have k_M11_0 := kk
       exact Vy
      ·obtain ⟨T1, a1, c1, xi, Ct, mi⟩ : LV wE.heap.size (fun T => T = cm 0 0 ⟨#[]⟩ (al 24 0 ⟨#[118]⟩)) v (a.eval (.tmp 69)) := bx.out 1 (by omega) (bg.out _ rfl ⟨1, Ground.data⟩ (by simp) rfl)
       subst xi
       have h69 := ab Ct
       have HR := aa mi
       clear Ct mi
       have k_M7_1 := kk
       exact bM7
      ·obtain ⟨T2, a2, c2, IZ, Bi, vV⟩ : TV wE.heap.size (fun T => T = l7) v (a.eval (.tmp 70)) := bx.out 2 (by omega) (bg.out _ rfl ⟨2, Ground.data⟩ (by simp) rfl)
       subst IZ
       have h70 := ab Bi
       unfold Nd.val at h70
       have HR := aa vV
       clear Bi vV
       have k_M11_1 := kk
       exact Vy
      ·exact vO
      ·have h72 := ab (show a.eval (.tmp 72) = .pointer (some ⟨wY.heap.size, 3, none⟩) from bx.out 4 (by omega) (bg.out _ rfl ⟨4, Ground.data⟩ (by simp) rfl))
       have k_M16_0 := kk
       exact Pe
      ·obtain ⟨A3, u3, g3, rfl, rK, hx, Mz⟩ : GV wE.heap.size (fun A => A = l7) v (a.eval (.tmp 71)) := bx.out 3 (by omega) (bg.out _ rfl ⟨3, Ground.data⟩ (by simp) rfl)
       have h73 : a.eval (.tmp 73) = .slice aB TB.len cB := bx.out 5 (by omega) (bg.out _ rfl ⟨5, Ground.data⟩ (by simp) rfl)
       have k_M15_0 := kk
       exact Vx
      ·exact vO
      ·have h75 := ab (show a.eval (.tmp 75) = .pointer (some ⟨wY.heap.size, 3, none⟩) from bx.out 7 (by omega) (bg.out _ rfl ⟨7, Ground.data⟩ (by simp) rfl))
       obtain ⟨Ts2, QC, s2, e2, a2, c2, hx, mV, rfl, zI, Ax⟩ : AV wX.heap.size wY.heap.size (1 + TB.len) (fun Ts => Ts = fW (fun _ => l7) 1 TB.kids) v (a.eval (.tmp 74)) := bx.out 6 (by omega) (bg.out _ rfl ⟨6, Ground.data⟩ (by simp) rfl)
       have h74 := ab hx
       have bB := fF cJ
       obtain ⟨gC, gH⟩ := HS.out.pre bB
       have qx := bG tT.out qU gH
       obtain ⟨z0, z1, z2, z3, zf⟩ := aw qx
       have Ng := zf 3
       have HF12 : Hid (F12 sb (B + 3 + 3 + 3 + (2 * K + 10)) wX.heap.size wY.heap.size TB w wE (v.setCell ⟨wY.heap.size, 3, none⟩ (.slice a2 (1 + TB.len) c2))) := ⟨(show DW sb (B + 3 + 3 + 3 + (2 * K + 10)) w v from ⟨gC.src.mono (by omega), gC.kp, gC.low⟩).put _ _ _ (by omega), fun k h1 h2 h3 => (Below.heap_setCell _ _ _ _ (by show k ≠ wY.heap.size; exact h3)).trans (gH.block k h1 h2), (by have := gH.size; simpa [World.setCell] using this), QC, s2, e2, a2, c2, (heap_setCell_same v wY.heap.size 3 _ 27 (.slice a2 (1 + TB.len) c2) qx).trans rfl, mV.put zI Ax⟩
       clear hx gC gH qx mV zf
       go_simp
       exact vQ.out _ (fun j x _ hx => Lv (by omega) j x hx) (GS.store (by omega) (.inl rfl) HF12.out) (fun _ => trivial)
     ·intro a v bP o8 cL wa iM
      obtain ⟨l, hS, aN⟩ := wa
      have HF := aa (hS.fin (aN 8 (by decide)))
      rw [iV (n := 9) bP o8 cL]
      generalize (fun i => a.eval (.tmp (wv i))) = ff
      clear bP o8 cL iM hS aN
      simp only [mM, Act.put, wv, List.getD_cons_zero, List.getD_cons_succ, List.setIfInBounds_toArray, List.set_cons_succ, List.set_cons_zero, List.set_nil]
      obtain ⟨gC, nY, Ko, QC, s2, e2, la, lc, qi, mV⟩ := HF.out
      have Lz := aa (yy.out.dw.kp2 gC (by omega) (fun k h1 h2 => (nY k (by omega) h2 (by omega)).trans (PD.out.block k h1 h2)))
      have BX := aa (yy.out.kp gC.src Lz.out)
      have PO := aa (bG Wc.out G8 Lz.out)
      have RL : Hid (Row wX.heap.size v.heap.size v (ct l7 TB) (.slice la (1 + TB.len) lc)) := mV.row lr TB.kind TB.num TB.name
      have E7 := aa qi
      have Rn := (Array.getElem?_eq_some_iff.1 qi).1
      have hlX := yy.out
      have hobX := (Array.getElem?_eq_some_iff.1 hlX.obx).1
      obtain ⟨wG, Mg⟩ : ∃ W, W = v := ⟨_, rfl⟩
      rw [← Mg] at BX RL E7 Rn PO ⊢
      clear gC mV HF qi tT yN RB Mg nY PD Lz hlX Ko Wc
      have oz : ag (fun _ => 0) 10 = 0 := by simp [ag]
      go_upto_region 13 with fail
      refine fO fH (by kernel_rfl) r8 (vC w1.heap.size wX.heap.size (2 * C + 400) j ka la kc lc ch (ct l7 TB)) (GS sb (B + 3 + 3 + 3 + (2 * K + 10)) (fun _ => 0) 10 7 9 w wG (w1.heap.size) (SE sb (B + 3 + 3 + 3 + (2 * K + 10)) (2 * C + 400) w w1.heap.size (j + 1))) (GS.start _ BX.out.dw) ?_ ?_
      ·intro l a v i hI hr
       have EU : i < 10 := (bd hr).1
       have cJ := (bd hr).2
       have Hb : l.size = 10 := hI.lsize
       have HS := aa hI.s
       have qS := ng (fun _ => 0) l 10
       rw [oz] at qS
       have mZ := aa hI.shut
       have fG := aa (fun (v' : World) (hw : ∀ jj x, l.getD jj false = true → vC w1.heap.size wX.heap.size (2 * C + 400) j ka la kc lc ch (ct l7 TB) jj v x → vC w1.heap.size wX.heap.size (2 * C + 400) j ka la kc lc ch (ct l7 TB) jj v' x) (nB : GS sb (B + 3 + 3 + 3 + (2 * K + 10)) (fun _ => 0) 10 7 9 w wG (w1.heap.size) (SE sb (B + 3 + 3 + 3 + (2 * K + 10)) (2 * C + 400) w w1.heap.size (j + 1)) (l.setIfInBounds i true) v') (x : Value) (hx : vC w1.heap.size wX.heap.size (2 * C + 400) j ka la kc lc ch (ct l7 TB) i v' x) (bP : r8 i < 103) => hI.put IR hr bP hw nB hx)
       have vQ := aa (fun (v' : World) (hw : ∀ jj x, l.getD jj false = true → vC w1.heap.size wX.heap.size (2 * C + 400) j ka la kc lc ch (ct l7 TB) jj v x → vC w1.heap.size wX.heap.size (2 * C + 400) j ka la kc lc ch (ct l7 TB) jj v' x) (nB : GS sb (B + 3 + 3 + 3 + (2 * K + 10)) (fun _ => 0) 10 7 9 w wG (w1.heap.size) (SE sb (B + 3 + 3 + 3 + (2 * K + 10)) (2 * C + 400) w w1.heap.size (j + 1)) (l.setIfInBounds i true) v') (hx : ∀ x, vC w1.heap.size wX.heap.size (2 * C + 400) j ka la kc lc ch (ct l7 TB) i v' x) => hI.none hr hw nB hx)
       have bx := aa (fun (j : Nat) (hj : j < 10) (hl : l.getD j false = true) => hI.vals j hj hl)
       have bg := aa (fun o (ho : _ = some o) => gE hr (o := o) ho)
       have s9 : a.tmps[9]?.getD undef = .pointer (some ⟨w1.heap.size, 0, none⟩) := ab (hI.keep 9 (by intro i hi; have h2 : i < 10 := hi; show 9 ≠ r8 i; have : ((List.range 10).all fun i => decide (r8 i ≠ 9)) = true := (by decide); have h3 := List.all_eq_true.1 this i (List.mem_range.2 h2); simp at h3; exact fun e => h3 e.symm))
       have s13 : a.tmps[13]?.getD undef = .pointer (some ⟨w5.heap.size, 0, none⟩) := ab (hI.keep 13 (by intro i hi; have h2 : i < 10 := hi; show 13 ≠ r8 i; have : ((List.range 10).all fun i => decide (r8 i ≠ 13)) = true := (by decide); have h3 := List.all_eq_true.1 this i (List.mem_range.2 h2); simp at h3; exact fun e => h3 e.symm))
       have s15 : a.tmps[15]?.getD undef = .pointer (some ⟨wY.heap.size, 0, none⟩) := ab (hI.keep 15 (by intro i hi; have h2 : i < 10 := hi; show 15 ≠ r8 i; have : ((List.range 10).all fun i => decide (r8 i ≠ 15)) = true := (by decide); have h3 := List.all_eq_true.1 this i (List.mem_range.2 h2); simp at h3; exact fun e => h3 e.symm))
       clear hI hr
       rcases (by omega : i = 0 ∨ i = 1 ∨ i = 2 ∨ i = 3 ∨ i = 4 ∨ i = 5 ∨ i = 6 ∨ i = 7 ∨ i = 8 ∨ i = 9) with rfl | rfl | rfl | rfl | rfl | rfl | rfl | rfl | rfl | rfl
       all_goals (refine lx rfl rfl ?_)
       ·exact vO
       ·have h76 := ab (show a.eval (.tmp 76) = .pointer (some ⟨w1.heap.size, 3, none⟩) from bx.out 0 (by omega) (bg.out _ rfl ⟨0, Ground.data⟩ (by simp) rfl))
        have k_M14_1 := kk
        exact Ln
       ·have k_M14_2 := kk
        exact Ln
       ·have k_M14_3 := kk
        exact Ln
       ·have h78 := ab (show a.eval (.tmp 78) = .agg #[.int .i64 24, .int .i64 0, .string ch, .slice none 0 0] from bx.out 2 (by omega) (bg.out _ rfl ⟨2, Ground.data⟩ (by simp) rfl))
        have h79 := ab (show a.eval (.tmp 79) = .agg #[.int .i64 (ct l7 TB).kind, .int .i64 (ct l7 TB).num, .string (ct l7 TB).name, .slice la (ct l7 TB).len lc] from bx.out 3 (by omega) (bg.out _ rfl ⟨3, Ground.data⟩ (by simp) rfl))
        have k_M8_0 := kk
        exact bM8
       ·obtain ⟨T4, a4, c4, hp4, Rt, P3⟩ : LV wX.heap.size (fun T => T = gO 0 0 ⟨#[]⟩ (al 24 0 ch) (ct l7 TB)) v (a.eval (.tmp 80)) := bx.out 4 (by omega) (bg.out _ rfl ⟨4, Ground.data⟩ (by simp) rfl)
        subst hp4
        have h80 := ab Rt
        have HR := aa P3
        clear Rt P3
        have k_M14_0 := kk
        exact Ln
       ·obtain ⟨T5, a5, c5, Sa, Me, Mo⟩ : TV wX.heap.size (CsP (2 * C + 400)) v (a.eval (.tmp 81)) := bx.out 5 (by omega) (bg.out _ rfl ⟨5, Ground.data⟩ (by simp) rfl)
        have h81 := ab Me
        unfold Nd.val at h81
        have HR := aa Mo
        have k_M8_1 := kk
        exact bM8
       ·have h77 : a.eval (.tmp 77) = .slice ka j kc := bx.out 1 (by omega) (bg.out _ rfl ⟨1, Ground.data⟩ (by simp) rfl)
        obtain ⟨T3, a3, c3, ⟨A3, GU, rfl⟩, hx, GM⟩ : LV wX.heap.size (fun T => ∃ A, CsP (2 * C + 400) A ∧ T = cm 0 0 ⟨#[]⟩ A) v (a.eval (.tmp 82)) := bx.out 6 (by omega) (bg.out _ rfl ⟨6, Ground.data⟩ (by simp) rfl)
        have bB := fF cJ
        have aF := fN (f := 40) (j := 9) mZ.out (by kernel_rfl) cJ
        obtain ⟨gC, gH⟩ := HS.out.pre bB
        have mO : wX.heap.size ≤ v.heap.size := by have := gH.size; omega
        obtain ⟨xj, v2, iS, aD, iH⟩ := SI.join (sb := sb) (A := A) (w := w) (BX.out.gw.kp (sb := sb) (by omega) gH) BX.out.ok GM GU (by omega) mO lr (fun g hg => (yy.out.gw.own.lt g hg).2) (by omega)
        refine oH rfl h77 hx (iS _) ?_
        exact fG.out v2 (tQ (Wn.of_grown aD (fun k hk => (yy.out.gw.own.lt k hk).2)) bB aF) (HS.out.join (by omega) cJ (by decide) aF (by omega) yh aD (fun k hk => by have := (yy.out.gw.own.lt k hk).1; omega)) _ iH (by decide)
       ·exact vO
       ·have h84 := ab (show a.eval (.tmp 84) = .pointer (some ⟨w1.heap.size, 3, none⟩) from bx.out 8 (by omega) (bg.out _ rfl ⟨8, Ground.data⟩ (by simp) rfl))
        have iH : AV (w1.heap.size + 1) w1.heap.size (j + 1) (fun Ts => ∀ i, i < j + 1 → CsP (2 * C + 400) (Ts i)) v (a.eval (.tmp 83)) := bx.out 7 (by omega) (bg.out _ rfl ⟨7, Ground.data⟩ (by simp) rfl)
        have vX : l.getD 7 false = true := bg.out _ rfl ⟨7, Ground.data⟩ (by simp) rfl
        obtain ⟨gC, o9⟩ := HS.out.mid vX (fF cJ)
        rw [oz] at gC
        have qx := o9.trans BX.out.obx
        obtain ⟨z0, z1, z2, z3, zf⟩ := aw qx
        have Ng := zf 3
        obtain ⟨a2, c2, hx, ER⟩ := SI.done gC Cy qx iH
        have h83 := ab hx
        have PG := aa ER
        clear hx gC o9 qx iH ER zf
        go_simp
        exact vQ.out _ (fun j x _ hx => Lu (by omega) j x hx) (GS.store (by omega) (.inr vX) PG.out) (fun _ => trivial)
      ·intro a v bP o8 cL wa iM
       obtain ⟨l, hS, aN⟩ := wa
       have HF := aa (hS.fin (aN 9 (by decide)))
       rw [iV (n := 10) bP o8 cL]
       generalize (fun i => a.eval (.tmp (r8 i))) = ff
       clear bP o8 cL iM hS aN
       simp only [mM, Act.put, r8, List.getD_cons_zero, List.getD_cons_succ, List.setIfInBounds_toArray, List.set_cons_succ, List.set_cons_zero, List.set_nil]
       obtain ⟨Ts', us', s', e', sI, sH, zB⟩ := HF.out
       have wj := aa zB
       clear zB HF BX yy PO E7 RL
       go_wp2
       exact ⟨⟨c1, j + 1, B + 3 + 3 + 3 + (2 * K + 10), rfl, by omega, by omega, by omega, _, _, _, _, _, _, wj.out⟩, by simp [intOf]; omega⟩
    ·skip
     go_upto_region 9 with fail
     have oz : ag (fun i => if i = 5 then 300 else if i = 11 then 3 else if i = 13 then 2 * K + 10 else 0) 20 = 2 * K + 313 := by simp [ag]; omega
     have Bl : sb < w6.heap.size := by omega
     refine fO fH (by kernel_rfl) xC (Iw sb w1.heap.size w6.heap.size (2 * C) (2 * C + 400) n j ka va kc vc ch deep loops) (GS sb (B + 3 + 3) (fun i => if i = 5 then 300 else if i = 11 then 3 else if i = 13 then 2 * K + 10 else 0) 20 17 19 w w6 (w1.heap.size) (SE sb (B + 3 + 3 + (2 * K + 313)) (2 * C + 400) w w1.heap.size (j + 1))) (GS.start _ mS.out.dw) ?_ ?_
     ·intro l a v i hI hr
      have EU : i < 20 := (bd hr).1
      have cJ := (bd hr).2
      have Hb : l.size = 20 := hI.lsize
      have HS := aa hI.s
      have qS := ng (fun i => if i = 5 then 300 else if i = 11 then 3 else if i = 13 then 2 * K + 10 else 0) l 20
      rw [oz] at qS
      have mZ := aa hI.shut
      have fG := aa (fun (v' : World) (hw : ∀ jj x, l.getD jj false = true → Iw sb w1.heap.size w6.heap.size (2 * C) (2 * C + 400) n j ka va kc vc ch deep loops jj v x → Iw sb w1.heap.size w6.heap.size (2 * C) (2 * C + 400) n j ka va kc vc ch deep loops jj v' x) (nB : GS sb (B + 3 + 3) (fun i => if i = 5 then 300 else if i = 11 then 3 else if i = 13 then 2 * K + 10 else 0) 20 17 19 w w6 (w1.heap.size) (SE sb (B + 3 + 3 + (2 * K + 313)) (2 * C + 400) w w1.heap.size (j + 1)) (l.setIfInBounds i true) v') (x : Value) (hx : Iw sb w1.heap.size w6.heap.size (2 * C) (2 * C + 400) n j ka va kc vc ch deep loops i v' x) (bP : xC i < 103) => hI.put LM hr bP hw nB hx)
      have vQ := aa (fun (v' : World) (hw : ∀ jj x, l.getD jj false = true → Iw sb w1.heap.size w6.heap.size (2 * C) (2 * C + 400) n j ka va kc vc ch deep loops jj v x → Iw sb w1.heap.size w6.heap.size (2 * C) (2 * C + 400) n j ka va kc vc ch deep loops jj v' x) (nB : GS sb (B + 3 + 3) (fun i => if i = 5 then 300 else if i = 11 then 3 else if i = 13 then 2 * K + 10 else 0) 20 17 19 w w6 (w1.heap.size) (SE sb (B + 3 + 3 + (2 * K + 313)) (2 * C + 400) w w1.heap.size (j + 1)) (l.setIfInBounds i true) v') (hx : ∀ x, Iw sb w1.heap.size w6.heap.size (2 * C) (2 * C + 400) n j ka va kc vc ch deep loops i v' x) => hI.none hr hw nB hx)
      have bx := aa (fun (j : Nat) (hj : j < 20) (hl : l.getD j false = true) => hI.vals j hj hl)
      have bg := aa (fun o (ho : _ = some o) => gE hr (o := o) ho)
      have s0 : a.tmps[0]?.getD undef = .pointer (some ⟨sb, 0, none⟩) := ab (hI.keep 0 (by intro i hi; have h2 : i < 20 := hi; show 0 ≠ xC i; have : ((List.range 20).all fun i => decide (xC i ≠ 0)) = true := (by decide); have h3 := List.all_eq_true.1 this i (List.mem_range.2 h2); simp at h3; exact fun e => h3 e.symm))
      have s1 : a.tmps[1]?.getD undef = .slice va n vc := ab (hI.keep 1 (by intro i hi; have h2 : i < 20 := hi; show 1 ≠ xC i; have : ((List.range 20).all fun i => decide (xC i ≠ 1)) = true := (by decide); have h3 := List.all_eq_true.1 this i (List.mem_range.2 h2); simp at h3; exact fun e => h3 e.symm))
      have s2 : a.tmps[2]?.getD undef = .int .i64 deep := ab (hI.keep 2 (by intro i hi; have h2 : i < 20 := hi; show 2 ≠ xC i; have : ((List.range 20).all fun i => decide (xC i ≠ 2)) = true := (by decide); have h3 := List.all_eq_true.1 this i (List.mem_range.2 h2); simp at h3; exact fun e => h3 e.symm))
      have s3 : a.tmps[3]?.getD undef = .bool loops := ab (hI.keep 3 (by intro i hi; have h2 : i < 20 := hi; show 3 ≠ xC i; have : ((List.range 20).all fun i => decide (xC i ≠ 3)) = true := (by decide); have h3 := List.all_eq_true.1 this i (List.mem_range.2 h2); simp at h3; exact fun e => h3 e.symm))
      have s9 : a.tmps[9]?.getD undef = .pointer (some ⟨w1.heap.size, 0, none⟩) := ab (hI.keep 9 (by intro i hi; have h2 : i < 20 := hi; show 9 ≠ xC i; have : ((List.range 20).all fun i => decide (xC i ≠ 9)) = true := (by decide); have h3 := List.all_eq_true.1 this i (List.mem_range.2 h2); simp at h3; exact fun e => h3 e.symm))
      have s13 : a.tmps[13]?.getD undef = .pointer (some ⟨w5.heap.size, 0, none⟩) := ab (hI.keep 13 (by intro i hi; have h2 : i < 20 := hi; show 13 ≠ xC i; have : ((List.range 20).all fun i => decide (xC i ≠ 13)) = true := (by decide); have h3 := List.all_eq_true.1 this i (List.mem_range.2 h2); simp at h3; exact fun e => h3 e.symm))
      clear hI hr
      rcases (by omega : i = 0 ∨ i = 1 ∨ i = 2 ∨ i = 3 ∨ i = 4 ∨ i = 5 ∨ i = 6 ∨ i = 7 ∨ i = 8 ∨ i = 9 ∨ i = 10 ∨ i = 11 ∨ i = 12 ∨ i = 13 ∨ i = 14 ∨ i = 15 ∨ i = 16 ∨ i = 17 ∨ i = 18 ∨ i = 19) with rfl | rfl | rfl | rfl | rfl | rfl | rfl | rfl | rfl | rfl | rfl | rfl | rfl | rfl | rfl | rfl | rfl | rfl | rfl | rfl
      all_goals (refine lx rfl rfl ?_)
      ·exact vO
      ·have h35 := ab (show a.eval (.tmp 35) = .pointer (some ⟨w1.heap.size, 3, none⟩) from bx.out 0 (by omega) (bg.out _ rfl ⟨0, Ground.data⟩ (by simp) rfl))
       have bB := fN (f := 40) (j := 17) mZ.out (by kernel_rfl) cJ
       have aF := fN (f := 40) (j := 19) mZ.out (by kernel_rfl) cJ
       exact bM0
      ·have k_M12_2 := kk
       exact Ip
      ·exact vO
      ·exact vO
      ·have h38 := ab (show a.eval (.tmp 38) = .pointer (some ⟨sb, 0, none⟩) from bx.out 3 (by omega) (bg.out _ rfl ⟨3, Ground.data⟩ (by simp) rfl))
       have h39 := ab (show a.eval (.tmp 39) = .slice va n vc from bx.out 4 (by omega) (bg.out _ rfl ⟨4, Ground.data⟩ (by simp) rfl))
       have k_M10_0 := kk
       exact Vz
      ·exact vO
      ·exact vO
      ·exact vO
      ·have h43 := ab (show a.eval (.tmp 43) = .int .i64 deep from bx.out 8 (by omega) (bg.out _ rfl ⟨8, Ground.data⟩ (by simp) rfl))
       exact vO
      ·exact vO
      ·have h45 := ab (show a.eval (.tmp 45) = .pointer (some ⟨sb, 0, none⟩) from bx.out 10 (by omega) (bg.out _ rfl ⟨10, Ground.data⟩ (by simp) rfl))
       have k_M12_1 := kk
       exact Ip
      ·exact vO
      ·have Th := ab (show a.eval (.tmp 41) = .pointer (some ⟨sb, 0, none⟩) from bx.out 6 (by omega) (bg.out _ rfl ⟨6, Ground.data⟩ (by simp) rfl))
       have h42 := ab (show a.eval (.tmp 42) = .slice va n vc from bx.out 7 (by omega) (bg.out _ rfl ⟨7, Ground.data⟩ (by simp) rfl))
       have h44 := ab (show a.eval (.tmp 44) = .int .i64 (deep - 1) from bx.out 9 (by omega) (bg.out _ rfl ⟨9, Ground.data⟩ (by simp) rfl))
       obtain ⟨q2, mU, hx⟩ : ∃ q : Nat, q < 2 ∧ a.eval (.tmp 46) = .int .i64 (q : Int) := bx.out 11 (by omega) (bg.out _ rfl ⟨11, Ground.data⟩ (by simp) rfl)
       have hq46 := ab hx
       have zY := ab (show a.eval (.tmp 47) = .bool loops from bx.out 12 (by omega) (bg.out _ rfl ⟨12, Ground.data⟩ (by simp) rfl))
       have k_M12_3 := kk
       exact Ip
      ·have h37 := ab (show a.eval (.tmp 37) = .agg #[.int .i64 24, .int .i64 0, .string ch, .slice none 0 0] from bx.out 2 (by omega) (bg.out _ rfl ⟨2, Ground.data⟩ (by simp) rfl))
       obtain ⟨T5, a5, c5, Sa, Me, Mo⟩ : TV w6.heap.size (LJ 300) v (a.eval (.tmp 40)) := bx.out 5 (by omega) (bg.out _ rfl ⟨5, Ground.data⟩ (by simp) rfl)
       have KL := ab Me
       have VQ := aa Mo
       obtain ⟨T13, a13, oc, Oc, GC, GO⟩ : TV w6.heap.size (mo (2 * C)) v (a.eval (.tmp 48)) := bx.out 13 (by omega) (bg.out _ rfl ⟨13, Ground.data⟩ (by simp) rfl)
       have Ox := ab GC
       have HR13 := aa GO
       unfold Nd.val at KL Ox
       clear Me Mo GC GO
       have k_M10_1 := kk
       exact Vz
      ·obtain ⟨T14, a14, c14, Ob, GB, GN⟩ : LV w6.heap.size (fun T => ∃ F B, LJ 300 F ∧ mo (2 * C) B ∧ T = nW 0 0 ⟨#[]⟩ (al 24 0 ch) F B) v (a.eval (.tmp 49)) := bx.out 14 (by omega) (bg.out _ rfl ⟨14, Ground.data⟩ (by simp) rfl)
       obtain ⟨F14, B14, hF14, hB14, rfl⟩ := Ob
       have h49 := ab GB
       have HR := aa GN
       clear GB GN
       have k_M12_0 := kk
       exact Ip
      ·obtain ⟨T15, a15, ij, hp15, Rv, RZ⟩ : TV w6.heap.size (CsP (2 * C + 400)) v (a.eval (.tmp 50)) := bx.out 15 (by omega) (bg.out _ rfl ⟨15, Ground.data⟩ (by simp) rfl)
       have h50 := ab Rv
       unfold Nd.val at h50
       have HR := aa RZ
       have k_M12_4 := kk
       exact Ip
      ·have h36 : a.eval (.tmp 36) = .slice ka j kc := bx.out 1 (by omega) (bg.out _ rfl ⟨1, Ground.data⟩ (by simp) rfl)
       obtain ⟨T3, a3, c3, ⟨A3, GU, rfl⟩, hx, GM⟩ : LV w6.heap.size (fun T => ∃ A, CsP (2 * C + 400) A ∧ T = cm 0 0 ⟨#[]⟩ A) v (a.eval (.tmp 51)) := bx.out 16 (by omega) (bg.out _ rfl ⟨16, Ground.data⟩ (by simp) rfl)
       have bB := fF cJ
       have aF := fN (f := 40) (j := 19) mZ.out (by kernel_rfl) cJ
       have k_M5_0 := kk
       exact bM5
      ·exact vO
      ·have h53 := ab (show a.eval (.tmp 53) = .pointer (some ⟨w1.heap.size, 3, none⟩) from bx.out 18 (by omega) (bg.out _ rfl ⟨18, Ground.data⟩ (by simp) rfl))
       have iH : AV (w1.heap.size + 1) w1.heap.size (j + 1) (fun Ts => ∀ i, i < j + 1 → CsP (2 * C + 400) (Ts i)) v (a.eval (.tmp 52)) := bx.out 17 (by omega) (bg.out _ rfl ⟨17, Ground.data⟩ (by simp) rfl)
       have vX : l.getD 17 false = true := bg.out _ rfl ⟨17, Ground.data⟩ (by simp) rfl
       have k_M9_0 := kk
       exact bM9
     ·intro a v bP o8 cL wa iM
      obtain ⟨l, hS, aN⟩ := wa
      have HF := aa (hS.fin (aN 19 (by decide)))
      rw [iV (n := 20) bP o8 cL]
      generalize (fun i => a.eval (.tmp (xC i))) = ff
      clear bP o8 cL iM hS aN
      simp only [mM, Act.put, xC, List.getD_cons_zero, List.getD_cons_succ, List.setIfInBounds_toArray, List.set_cons_succ, List.set_cons_zero, List.set_nil]
      obtain ⟨Ts', us', s', e', sI, sH, zB⟩ := HF.out
      have wj := aa zB
      clear zB HF mS LG
      go_wp2
      exact ⟨⟨c1, j + 1, B + 3 + 3 + (2 * K + 313), rfl, by omega, by omega, by omega, _, _, _, _, _, _, wj.out⟩, by simp [intOf]; omega⟩
  ·skip
   obtain rfl : c = 0 := by omega
   have yH : ¬ (0 : Int) < ((0 : Nat) : Int) := by omega
   simp only [Nat.zero_mul, Nat.add_zero] at hB
   go_wp2_with fail
   refine (CH.out _ _ (by omega) Qm.out.dw 2 (by omega)).mono ?_
   rintro e' w6 ⟨t, rfl, hs, hk⟩
   have mS := aa (Qm.out.kp hs hk)
   have hob6 := (Array.getElem?_eq_some_iff.1 mS.out.obx).1
   clear hs hk Qm
   cases t
   ·skip
    obtain ⟨o0, o1, o2, o3, of⟩ := aw mS.out.obx
    obtain ⟨f0, f1, f2, f3, ff⟩ := mS.out.dw.cells
    have yz := aa (mS.out.gw.row (lo := w.heap.size + 1) (by omega) 15 0 ⟨#[]⟩)
    have Nb := aa mS.out.dw
    have yA := aa mS.out.ok
    clear mS
    go_wp2
    refine bodyPost_ret (Nb.out.read Tryd.results71 rfl _ _ _ _) rfl ⟨.mk 15 0 ⟨#[]⟩ (j) Ts, _, rfl, ?_⟩
    exact (Nb.out.fin (P := fun T => T.sOk = true) (C := 3 * (2 * C + 401)) yz.out ⟨by omega, by omega, by decide, by show j ≤ _; omega, fun i hi => (yA.out i hi).1⟩ (uE fun i hi => (yA.out i hi).2.1) (Nat.le_trans (tq fun i hi => (yA.out i hi).2.2) (Nat.mul_le_mul_right _ (by omega)))).more (by omega)
   ·skip
    go_upto_region 15 with fail
    have oz : ag (fun i => if i = 7 then 3 else if i = 9 then 2 * K + 10 else 0) 16 = 2 * K + 13 := by simp [ag]; omega
    have Bl : sb < w6.heap.size := by omega
    refine fO fH (by kernel_rfl) pr (vB sb w1.heap.size w6.heap.size (2 * C) (2 * C + 400) n j ka va kc vc deep loops) (GS sb (B + 3) (fun i => if i = 7 then 3 else if i = 9 then 2 * K + 10 else 0) 16 13 15 w w6 (w1.heap.size) (SE sb (B + 3 + (2 * K + 13)) (2 * C + 400) w w1.heap.size (j + 1))) (GS.start _ mS.out.dw) ?_ ?_
    ·intro l a v i hI hr
     have EU : i < 16 := (bd hr).1
     have cJ := (bd hr).2
     have Hb : l.size = 16 := hI.lsize
     have HS := aa hI.s
     have qS := ng (fun i => if i = 7 then 3 else if i = 9 then 2 * K + 10 else 0) l 16
     rw [oz] at qS
     have mZ := aa hI.shut
     have fG := aa (fun (v' : World) (hw : ∀ jj x, l.getD jj false = true → vB sb w1.heap.size w6.heap.size (2 * C) (2 * C + 400) n j ka va kc vc deep loops jj v x → vB sb w1.heap.size w6.heap.size (2 * C) (2 * C + 400) n j ka va kc vc deep loops jj v' x) (nB : GS sb (B + 3) (fun i => if i = 7 then 3 else if i = 9 then 2 * K + 10 else 0) 16 13 15 w w6 (w1.heap.size) (SE sb (B + 3 + (2 * K + 13)) (2 * C + 400) w w1.heap.size (j + 1)) (l.setIfInBounds i true) v') (x : Value) (hx : vB sb w1.heap.size w6.heap.size (2 * C) (2 * C + 400) n j ka va kc vc deep loops i v' x) (bP : pr i < 103) => hI.put IQ hr bP hw nB hx)
     have vQ := aa (fun (v' : World) (hw : ∀ jj x, l.getD jj false = true → vB sb w1.heap.size w6.heap.size (2 * C) (2 * C + 400) n j ka va kc vc deep loops jj v x → vB sb w1.heap.size w6.heap.size (2 * C) (2 * C + 400) n j ka va kc vc deep loops jj v' x) (nB : GS sb (B + 3) (fun i => if i = 7 then 3 else if i = 9 then 2 * K + 10 else 0) 16 13 15 w w6 (w1.heap.size) (SE sb (B + 3 + (2 * K + 13)) (2 * C + 400) w w1.heap.size (j + 1)) (l.setIfInBounds i true) v') (hx : ∀ x, vB sb w1.heap.size w6.heap.size (2 * C) (2 * C + 400) n j ka va kc vc deep loops i v' x) => hI.none hr hw nB hx)
     have bx := aa (fun (j : Nat) (hj : j < 16) (hl : l.getD j false = true) => hI.vals j hj hl)
     have bg := aa (fun o (ho : _ = some o) => gE hr (o := o) ho)
     have s0 : a.tmps[0]?.getD undef = .pointer (some ⟨sb, 0, none⟩) := ab (hI.keep 0 (by intro i hi; have h2 : i < 16 := hi; show 0 ≠ pr i; have : ((List.range 16).all fun i => decide (pr i ≠ 0)) = true := (by decide); have h3 := List.all_eq_true.1 this i (List.mem_range.2 h2); simp at h3; exact fun e => h3 e.symm))
     have s1 : a.tmps[1]?.getD undef = .slice va n vc := ab (hI.keep 1 (by intro i hi; have h2 : i < 16 := hi; show 1 ≠ pr i; have : ((List.range 16).all fun i => decide (pr i ≠ 1)) = true := (by decide); have h3 := List.all_eq_true.1 this i (List.mem_range.2 h2); simp at h3; exact fun e => h3 e.symm))
     have s2 : a.tmps[2]?.getD undef = .int .i64 deep := ab (hI.keep 2 (by intro i hi; have h2 : i < 16 := hi; show 2 ≠ pr i; have : ((List.range 16).all fun i => decide (pr i ≠ 2)) = true := (by decide); have h3 := List.all_eq_true.1 this i (List.mem_range.2 h2); simp at h3; exact fun e => h3 e.symm))
     have s3 : a.tmps[3]?.getD undef = .bool loops := ab (hI.keep 3 (by intro i hi; have h2 : i < 16 := hi; show 3 ≠ pr i; have : ((List.range 16).all fun i => decide (pr i ≠ 3)) = true := (by decide); have h3 := List.all_eq_true.1 this i (List.mem_range.2 h2); simp at h3; exact fun e => h3 e.symm))
     have s9 : a.tmps[9]?.getD undef = .pointer (some ⟨w1.heap.size, 0, none⟩) := ab (hI.keep 9 (by intro i hi; have h2 : i < 16 := hi; show 9 ≠ pr i; have : ((List.range 16).all fun i => decide (pr i ≠ 9)) = true := (by decide); have h3 := List.all_eq_true.1 this i (List.mem_range.2 h2); simp at h3; exact fun e => h3 e.symm))
     clear hI hr
     rcases (by omega : i = 0 ∨ i = 1 ∨ i = 2 ∨ i = 3 ∨ i = 4 ∨ i = 5 ∨ i = 6 ∨ i = 7 ∨ i = 8 ∨ i = 9 ∨ i = 10 ∨ i = 11 ∨ i = 12 ∨ i = 13 ∨ i = 14 ∨ i = 15) with rfl | rfl | rfl | rfl | rfl | rfl | rfl | rfl | rfl | rfl | rfl | rfl | rfl | rfl | rfl | rfl
     all_goals (refine lx rfl rfl ?_)
     ·exact vO
     ·have h87 := ab (show a.eval (.tmp 87) = .pointer (some ⟨w1.heap.size, 3, none⟩) from bx.out 0 (by omega) (bg.out _ rfl ⟨0, Ground.data⟩ (by simp) rfl))
      have bB := fN (f := 40) (j := 13) mZ.out (by kernel_rfl) cJ
      have aF := fN (f := 40) (j := 15) mZ.out (by kernel_rfl) cJ
      exact bM0
     ·exact vO
     ·exact vO
     ·exact vO
     ·have h91 := ab (show a.eval (.tmp 91) = .int .i64 deep from bx.out 4 (by omega) (bg.out _ rfl ⟨4, Ground.data⟩ (by simp) rfl))
      exact vO
     ·exact vO
     ·have h93 := ab (show a.eval (.tmp 93) = .pointer (some ⟨sb, 0, none⟩) from bx.out 6 (by omega) (bg.out _ rfl ⟨6, Ground.data⟩ (by simp) rfl))
      have k_M13_1 := kk
      exact Io
     ·exact vO
     ·have h89 := ab (show a.eval (.tmp 89) = .pointer (some ⟨sb, 0, none⟩) from bx.out 2 (by omega) (bg.out _ rfl ⟨2, Ground.data⟩ (by simp) rfl))
      have h90 := ab (show a.eval (.tmp 90) = .slice va n vc from bx.out 3 (by omega) (bg.out _ rfl ⟨3, Ground.data⟩ (by simp) rfl))
      have h92 := ab (show a.eval (.tmp 92) = .int .i64 (deep - 1) from bx.out 5 (by omega) (bg.out _ rfl ⟨5, Ground.data⟩ (by simp) rfl))
      obtain ⟨q2, mU, hx⟩ : ∃ q : Nat, q < 2 ∧ a.eval (.tmp 94) = .int .i64 (q : Int) := bx.out 7 (by omega) (bg.out _ rfl ⟨7, Ground.data⟩ (by simp) rfl)
      have hq94 := ab hx
      have h95 := ab (show a.eval (.tmp 95) = .bool loops from bx.out 8 (by omega) (bg.out _ rfl ⟨8, Ground.data⟩ (by simp) rfl))
      have k_M13_4 := kk
      exact Io
     ·obtain ⟨T9, a9, c9, hp9, Rr, N8⟩ : TV w6.heap.size (mo (2 * C)) v (a.eval (.tmp 96)) := bx.out 9 (by omega) (bg.out _ rfl ⟨9, Ground.data⟩ (by simp) rfl)
      have h96 := ab Rr
      have HR := aa N8
      unfold Nd.val at h96
      clear Rr N8
      have k_M13_2 := kk
      exact Io
     ·obtain ⟨T10, a10, om, hp10, Rx, R7⟩ : LV w6.heap.size (fun T => ∃ B, mo (2 * C) B ∧ T = cm 0 0 ⟨#[]⟩ B) v (a.eval (.tmp 97)) := bx.out 10 (by omega) (bg.out _ rfl ⟨10, Ground.data⟩ (by simp) rfl)
      obtain ⟨B10, hB10, rfl⟩ := hp10
      have h97 := ab Rx
      have HR := aa R7
      clear Rx R7
      have k_M13_0 := kk
      exact Io
     ·obtain ⟨T11, a11, oe, Od, GD, GP⟩ : TV w6.heap.size (CsP (2 * C + 400)) v (a.eval (.tmp 98)) := bx.out 11 (by omega) (bg.out _ rfl ⟨11, Ground.data⟩ (by simp) rfl)
      have h98 := ab GD
      unfold Nd.val at h98
      have HR := aa GP
      have k_M13_3 := kk
      exact Io
     ·have h88 : a.eval (.tmp 88) = .slice ka j kc := bx.out 1 (by omega) (bg.out _ rfl ⟨1, Ground.data⟩ (by simp) rfl)
      obtain ⟨T3, a3, c3, ⟨A3, GU, rfl⟩, hx, GM⟩ : LV w6.heap.size (fun T => ∃ A, CsP (2 * C + 400) A ∧ T = cm 0 0 ⟨#[]⟩ A) v (a.eval (.tmp 99)) := bx.out 12 (by omega) (bg.out _ rfl ⟨12, Ground.data⟩ (by simp) rfl)
      have bB := fF cJ
      have aF := fN (f := 40) (j := 15) mZ.out (by kernel_rfl) cJ
      have k_M5_1 := kk
      exact bM5
     ·exact vO
     ·have h101 := ab (show a.eval (.tmp 101) = .pointer (some ⟨w1.heap.size, 3, none⟩) from bx.out 14 (by omega) (bg.out _ rfl ⟨14, Ground.data⟩ (by simp) rfl))
      have iH : AV (w1.heap.size + 1) w1.heap.size (j + 1) (fun Ts => ∀ i, i < j + 1 → CsP (2 * C + 400) (Ts i)) v (a.eval (.tmp 100)) := bx.out 13 (by omega) (bg.out _ rfl ⟨13, Ground.data⟩ (by simp) rfl)
      have vX : l.getD 13 false = true := bg.out _ rfl ⟨13, Ground.data⟩ (by simp) rfl
      have k_M9_1 := kk
      exact bM9
    ·intro a v bP o8 cL wa iM
     obtain ⟨l, hS, aN⟩ := wa
     have HF := aa (hS.fin (aN 15 (by decide)))
     rw [iV (n := 16) bP o8 cL]
     generalize (fun i => a.eval (.tmp (pr i))) = ff
     clear bP o8 cL iM hS aN
     simp only [mM, Act.put, pr, List.getD_cons_zero, List.getD_cons_succ, List.setIfInBounds_toArray, List.set_cons_succ, List.set_cons_zero, List.set_nil]
     obtain ⟨Ts', us', s', e', sI, sH, zB⟩ := HF.out
     have wj := aa zB
     clear zB HF mS
     obtain ⟨o0, o1, o2, o3, of⟩ := aw wj.out.obx
     obtain ⟨f0, f1, f2, f3, ff⟩ := wj.out.dw.cells
     have yz := aa (wj.out.gw.row (lo := w.heap.size + 1) (by omega) 15 0 ⟨#[]⟩)
     have Nb := aa wj.out.dw
     have yA := aa wj.out.ok
     clear wj
     go_wp2
     refine bodyPost_ret (Nb.out.read Tryd.results71 rfl _ _ _ _) rfl ⟨.mk 15 0 ⟨#[]⟩ (j + 1) Ts', _, rfl, ?_⟩
     exact (Nb.out.fin (P := fun T => T.sOk = true) (C := 3 * (2 * C + 401)) yz.out ⟨by omega, by omega, by decide, by show j + 1 ≤ _; omega, fun i hi => (yA.out i hi).1⟩ (uE fun i hi => (yA.out i hi).2.1) (Nat.le_trans (tq fun i hi => (yA.out i hi).2.2) (Nat.mul_le_mul_right _ (by omega)))).more (by omega)
end Go.Proofs.YtkfbbdhidecefaaDoor
