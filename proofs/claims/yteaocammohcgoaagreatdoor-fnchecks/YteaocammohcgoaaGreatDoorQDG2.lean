import Derived.Test.YteaocammohcgoaaGreatDoorQDG
set_option linter.unusedVariables false
set_option maxHeartbeats 16000000
set_option maxRecDepth 100000
namespace Go.Proofs.YteaocammohcgoaaGreatDoor
open Go.RowKit
variable {G : Prop}
theorem bk0 (h : G := by
 obtain ⟨dK, dD⟩ := HS.out.pre bK
 obtain ⟨z0, z1, z2, z3, zf⟩ := aG (bU iL.out.obx sT dD)
 exact bk3) : G := h
theorem To (h : G := by
 exact bk3) : G := h
theorem qN (h : G := by
 exact bk4) : G := h
theorem bk3 (h : G := by
 clear dK dD
 exact bk4) : G := h
theorem bk4 (h : G := by
 go_simp
 exact cH.out v (fun _ _ _ h => h) (HS.out.same (by omega) cz (by decide) (by decide) rfl) _ rfl (by decide)) : G := h
theorem bk5 (h : G := by
 obtain ⟨dK, dD⟩ := HS.out.pre bK
 have iG : w6.heap.size ≤ v.heap.size := by have := dD.size; omega
 obtain ⟨xj, v2, fk, aX, fg⟩ := SI.join (sb := sb) (A := A) (w := w) (iL.out.gw.kp (sb := sb) (by omega) dD) iL.out.ok DU yK (by omega) iG lr (fun g hg => (iL.out.gw.own.lt g hg).2) (by omega)
 first
 |clear k_0
  refine jW rfl h36 hx (fk _) ?_
  exact cH.out v2 (mQ (Wn.of_grown aX (fun k hk => (iL.out.gw.own.lt k hk).2)) bK aM) (HS.out.join (by omega) cz (by decide) aM (by omega) sT aX (fun k hk => by have := (iL.out.gw.own.lt k hk).1; omega)) _ fg (by decide)
 |clear k_1
  refine jW rfl h88 hx (fk _) ?_
  exact cH.out v2 (lV (Wn.of_grown aX (fun k hk => (iL.out.gw.own.lt k hk).2)) bK aM) (HS.out.join (by omega) cz (by decide) aM (by omega) sT aX (fun k hk => by have := (iL.out.gw.own.lt k hk).1; omega)) _ fg (by decide)) : G := h
theorem bk6 (h : G := by
 rw [jQ] at htu
 have HSV := aa (SC.out _ v dK)
 have iG := dD.size
 clear hx
 go_simp
 refine (qp Cd.out sb _ n q2 (.slice va n vc) loops v (by omega) (by omega) (by omega) dK.src HSV.out).mono ?_
 rintro e' v2 ⟨T2, u2, rfl, d2⟩
 obtain ⟨a2, c2, rfl⟩ := bc d2.row
 first
 |clear k_0
  exact cH.out v2 (mQ (Wn.of_kp d2.kp xc) bK aM) (HS.out.ask (by omega) (by omega) cz (by decide) (by decide) bK aM d2.src d2.kp) _ ⟨T2, a2, c2, ⟨d2.fine, d2.ok.1, d2.cost⟩, rfl, bl d2.row iG lr⟩ (by decide)
 |clear k_1
  exact cH.out v2 (lV (Wn.of_kp d2.kp xc) bK aM) (HS.out.ask (by omega) (by omega) cz (by decide) (by decide) bK aM d2.src d2.kp) _ ⟨T2, a2, c2, ⟨d2.fine, d2.ok.1, d2.cost⟩, rfl, bl d2.row iG lr⟩ (by decide)) : G := h
theorem bk7 (h : G := by
 have k_1 := kk
 exact Nf) : G := h
theorem bk8 (h : G := by
 have bK := cR (f := 40) (j := 7) iO.out (by kernel_rfl) cz
 have aM := cR (f := 40) (j := 9) iO.out (by kernel_rfl) cz
 obtain ⟨dK, dD⟩ := HS.out.pre bK
 have iG : wX.heap.size ≤ v.heap.size := by have := dD.size; omega
 first
 |clear k_0
  have FO := aa (bl (gU RL.out (by omega) lr dD) lr dD.size)
  go_simp
  exact cH.out _ (ph (Wn.of_calm (bA)) bK aM) (HS.out.calm (by omega) cz (by decide) (by decide) rfl bK aM (bA)) _ ⟨dZ 0 0 ⟨#[]⟩ (ax 24 0 ch) (cm gT TB), _, _, rfl, rfl, LV.two (A := ax 24 0 ch) (B := cm gT TB) iG (dL _ _ _ _ _ _) FO.out⟩ (by decide)
 |clear k_1
  clear J0 Kb
  go_simp
  exact cH.out _ (ph (Wn.of_calm (bA)) bK aM) (HS.out.calm (by omega) cz (by decide) (by decide) rfl bK aM (bA)) _ ⟨b8 0 0 ⟨#[]⟩ T5, _, _, ⟨T5, Q5, rfl⟩, rfl, LV.one iG HR.out⟩ (by decide)) : G := h
theorem bk9 (h : G := by
 obtain ⟨dK, gP⟩ := HS.out.mid qZ (cG cz)
 rw [jQ] at dK
 have mh := gP.trans iL.out.obx
 obtain ⟨z0, z1, z2, z3, zf⟩ := aG mh
 have KV := zf 3
 obtain ⟨a2, c2, hx, BF⟩ := SI.done dK yQ mh fg
 first
 |clear k_0
  have h52 := ae hx
  have FR := aa BF
  clear hx dK gP mh fg BF zf
  go_simp
  exact qO.out _ (fun j x _ hx => NG (by omega) j x hx) (GS.store (by omega) (.inr qZ) FR.out) (fun _ => trivial)
 |clear k_1
  have h100 := ae hx
  have FR := aa BF
  clear hx dK gP mh fg BF zf
  go_simp
  exact qO.out _ (fun j x _ hx => Jc (by omega) j x hx) (GS.store (by omega) (.inr qZ) FR.out) (fun _ => trivial)) : G := h
theorem Tn (h : G := by
 have bK := cR (f := 40) (j := 17) iO.out (by kernel_rfl) cz
 have aM := cR (f := 40) (j := 19) iO.out (by kernel_rfl) cz
 obtain ⟨dK, dD⟩ := HS.out.pre bK
 have iG := dD.size
 go_simp
 first
 |clear k_0
  refine (tx.out _ v (by omega) dK).mono ?_
  rintro e' v2 ⟨T2, u2, rfl, d2⟩
  obtain ⟨a2, c2, rfl⟩ := bc d2.row
  exact cH.out v2 (mQ (Wn.of_kp d2.kp xc) bK aM) (HS.out.ask (by omega) (by omega) cz (by decide) (by decide) bK aM d2.src d2.kp) _ ⟨T2, a2, c2, ⟨d2.fine, d2.ok, d2.cost⟩, rfl, bl d2.row iG lr⟩ (by decide)
 |clear k_1
  exact cH.out _ (mQ (Wn.of_calm (bA)) bK aM) (HS.out.calm (by omega) cz (by decide) (by decide) rfl bK aM (bA)) _ ⟨jx 0 0 ⟨#[]⟩ (ax 24 0 ch) T5 T13, _, _, ⟨T5, T13, Q5, Mm, rfl⟩, rfl, LV.three (A := ax 24 0 ch) iG (dL _ _ _ _ _ _) VP.out HR13.out⟩ (by decide)) : G := h
theorem Tm (h : G := by
 have k_1 := kk
 exact Tl) : G := h
theorem EY (h : G := by
 have bK := cR (f := 40) (j := 17) iO.out (by kernel_rfl) cz
 have aM := cR (f := 40) (j := 19) iO.out (by kernel_rfl) cz
 obtain ⟨dK, dD⟩ := HS.out.pre bK
 first
 |clear k_0
  go_simp
  refine (bZ _ _ _ _ _ _ _).mono ?_
  rintro e' v2 ⟨rfl, hb⟩
  exact cH.out v2 (mQ (Wn.of_calm hb) bK aM) (HS.out.calm (by omega) cz (by decide) (by decide) rfl bK aM hb) _ (TV.node (P := fun _ => True) 16 2 ⟨#[]⟩ (cs9 qB.out hF14 hB14) ((Wn.of_calm hb).row HR.out)) (by decide)
 |clear k_1
  go_simp
  refine (dv sb _ 2 v (by omega) (by omega) dK.src).mono ?_
  rintro e' v2 ⟨q2, iH, rfl, hs, hk⟩
  exact cH.out v2 (mQ (Wn.of_kp hk xc) bK aM) (HS.out.ask (by omega) (by omega) cz (by decide) (by decide) bK aM hs hk) _ ⟨q2, by omega, rfl⟩ (by decide)
 |clear k_2
  obtain ⟨z0, z1, z2, z3, zf⟩ := aG (bU Jw.out D8 dD)
  exact To
 |clear k_3
  have htu : qF (fun i => if i = 5 then 300 else if i = 11 then 3 else if i = 13 then 2 * K + 10 else 0) l 20 + (2 * K + 10) ≤ aw (fun i => if i = 5 then 300 else if i = 11 then 3 else if i = 13 then 2 * K + 10 else 0) 20 := by have := sA (asks := fun i => if i = 5 then 300 else if i = 11 then 3 else if i = 13 then 2 * K + 10 else 0) (n := 20) (i := 13) (cG cz) (by omega); exact this
  have k_0 := kk
  exact bk6
 |clear k_4
  have iG : w6.heap.size ≤ v.heap.size := by have := dD.size; omega
  clear QH Q1
  go_simp
  exact cH.out _ (mQ (Wn.of_calm (bA)) bK aM) (HS.out.calm (by omega) cz (by decide) (by decide) rfl bK aM (bA)) _ ⟨b8 0 0 ⟨#[]⟩ T15, _, _, ⟨T15, hp15, rfl⟩, rfl, LV.one iG HR.out⟩ (by decide)) : G := h
theorem EX (h : G := by
 have bK := cR (f := 40) (j := 13) iO.out (by kernel_rfl) cz
 have aM := cR (f := 40) (j := 15) iO.out (by kernel_rfl) cz
 obtain ⟨dK, dD⟩ := HS.out.pre bK
 first
 |clear k_0
  go_simp
  refine (bZ _ _ _ _ _ _ _).mono ?_
  rintro e' v2 ⟨rfl, hb⟩
  exact cH.out v2 (lV (Wn.of_calm hb) bK aM) (HS.out.calm (by omega) cz (by decide) (by decide) rfl bK aM hb) _ (TV.node (P := fun _ => True) 16 0 ⟨#[]⟩ (cs15 hB10) ((Wn.of_calm hb).row HR.out)) (by decide)
 |clear k_1
  go_simp
  refine (dv sb _ 2 v (by omega) (by omega) dK.src).mono ?_
  rintro e' v2 ⟨q2, iH, rfl, hs, hk⟩
  exact cH.out v2 (lV (Wn.of_kp hk xc) bK aM) (HS.out.ask (by omega) (by omega) cz (by decide) (by decide) bK aM hs hk) _ ⟨q2, by omega, rfl⟩ (by decide)
 |clear k_2
  have iG := dD.size
  go_simp
  exact cH.out _ (lV (Wn.of_calm (bA)) bK aM) (HS.out.calm (by omega) cz (by decide) (by decide) rfl bK aM (bA)) _ ⟨b8 0 0 ⟨#[]⟩ T9, _, _, ⟨T9, hp9, rfl⟩, rfl, LV.one iG HR.out⟩ (by decide)
 |clear k_3
  have iG : w6.heap.size ≤ v.heap.size := by have := dD.size; omega
  clear DP DY
  go_simp
  exact cH.out _ (lV (Wn.of_calm (bA)) bK aM) (HS.out.calm (by omega) cz (by decide) (by decide) rfl bK aM (bA)) _ ⟨b8 0 0 ⟨#[]⟩ T11, _, _, ⟨T11, Mo, rfl⟩, rfl, LV.one iG HR.out⟩ (by decide)
 |clear k_4
  have htu : qF (fun i => if i = 7 then 3 else if i = 9 then 2 * K + 10 else 0) l 16 + (2 * K + 10) ≤ aw (fun i => if i = 7 then 3 else if i = 9 then 2 * K + 10 else 0) 16 := by have := sA (asks := fun i => if i = 7 then 3 else if i = 9 then 2 * K + 10 else 0) (n := 16) (i := 9) (cG cz) (by omega); exact this
  have k_1 := kk
  exact bk6) : G := h
theorem I0 (h : G := by
 have bK := cR (f := 40) (j := 7) iO.out (by kernel_rfl) cz
 have aM := cR (f := 40) (j := 9) iO.out (by kernel_rfl) cz
 obtain ⟨dK, dD⟩ := HS.out.pre bK
 first
 |clear k_0
  go_simp
  refine (bZ _ _ _ _ _ _ _).mono ?_
  rintro e' v2 ⟨rfl, hb⟩
  exact cH.out v2 (ph (Wn.of_calm hb) bK aM) (HS.out.calm (by omega) cz (by decide) (by decide) rfl bK aM hb) _ (TV.node (P := fun _ => True) 16 1 ⟨#[118]⟩ (cs13 qB.out PB.out Rh) ((Wn.of_calm hb).row HR.out)) (by decide)
 |clear k_1
  obtain ⟨z0, z1, z2, z3, zf⟩ := aG (bU xZ.out.obx sT dD)
  exact To
 |clear k_2
  obtain ⟨z0, z1, z2, z3, zf⟩ := aG (bU Oe.out D8 dD)
  exact To
 |clear k_3
  obtain ⟨z0, z1, z2, z3, zf⟩ := aG (bU Ca.out mH dD)
  exact To) : G := h
theorem Tl (h : G := by
 have k_2 := kk
 exact Nf) : G := h
theorem Nf (h : G := by
 have bK := cR (f := 40) (j := 8) iO.out (by kernel_rfl) cz
 have aM := cR (f := 40) (j := 8) iO.out (by kernel_rfl) cz
 obtain ⟨dK, dD⟩ := HS.out.pre bK
 first
 |clear k_0
  obtain ⟨z0, z1, z2, z3, zf⟩ := aG (bU cJ.out mH dD)
  exact To
 |clear k_1
  go_simp
  refine (aJ _ _ _ _ _ _).mono ?_
  rintro e' v2 ⟨rfl, hb⟩
  first
  |clear k_0
   exact cH.out v2 (nE (Wn.of_calm hb) dE bK aM) (HS.out.calm (by omega) cz (by decide) (by decide) rfl bK aM hb) _ rfl (by decide)
  |clear k_1
   exact cH.out v2 (nE (Wn.of_calm hb) dE bK aM) (HS.out.calm (by omega) cz (by decide) (by decide) rfl bK aM hb) _ (TV.node (P := fun _ => True) 20 0 ⟨#[]⟩ rfl ((Wn.of_calm hb).row HR.out)) (by decide)
 |clear k_2
  have iG := dD.size
  first
  |clear k_0
   obtain ⟨aj, cj, v2, vs, fk, fO, aX, fy⟩ := jc (Ic.weak (show wX.heap.size ≤ wE.heap.size by omega)) (gU RB.out (by omega) (by omega) dD) (by omega) lr QC (by omega) (fun g hg => .inr (by simp [Value.ownBlock] at hg; omega)) (by omega)
   have pW := qs Ic (gU RB.out (by omega) (by omega) dD) (by omega) fk
   refine jW rfl hx h73 (fk _) ?_
   refine cH.out v2 (nE (Wn.of_calm pW) dE bK aM) (HS.out.calm (by omega) cz (by decide) (by decide) rfl bK aM pW) _ ⟨_, _, _, _, aj, cj, rfl, fO, rfl, ?_, fun i hi => ?_⟩ (by decide)
   ·rcases fy with e | ⟨k, e, hk⟩
    ·rw [e]; simp [Value.ownBlock]; omega
    ·rw [e]; intro h; have := Option.some.inj h; omega
   ·by_cases h3 : i < 1
    ·rw [bw _ _ h3, bw _ _ h3]; left; omega
    ·rw [b5 _ _ (by omega), b5 _ _ (by omega)]; right; omega
  |clear k_1
   go_simp
   first
   |clear k_0
    exact cH.out _ (nE (Wn.of_calm (bA)) dE bK aM) (HS.out.calm (by omega) cz (by decide) (by decide) rfl bK aM (bA)) _ ⟨b8 0 0 ⟨#[]⟩ (ax 24 0 ⟨#[118]⟩), _, _, rfl, rfl, LV.one (A := ax 24 0 ⟨#[118]⟩) iG (dL _ _ _ _ _ _)⟩ (by decide)
   |clear k_1
    exact cH.out _ (nE (Wn.of_calm (bA)) dE bK aM) (HS.out.calm (by omega) cz (by decide) (by decide) rfl bK aM (bA)) _ (GV.new (A := gT) rfl iG HR.out) (by decide)) : G := h
theorem rz (deep : Int) (C K M : Nat) (h0 : 0 < deep) (h9 : deep ≤ 100) (hC : C ≤ 100000000) (hK : K ≤ 100000000) (E1 : EXC 1 1 300 300) (BD : JL (deep - 1) C K M) : SLC deep (3 * (2 * C + 401)) (6 * K + 1000) (M + 3) := by
 intro sb A n v loops w hA hnM h hs
 have HD := aa (DW.start h)
 obtain ⟨va, vc, rfl, _⟩ := id hs
 have iY := bO w eF
 have SC := aa (fun B W (hd : DW sb B w W) => (hs.keep (bQ iY _)).keep hd.kp)
 have PV := aa (fun (typ : Int) B W (hB : B + 3 ≤ 1099511627776) (hd : DW sb B w W) => kU sb B n typ (.slice va n vc) W hB hd.src (SC.out B W hd))
 have CH := aa (fun B W (hB : B + 3 ≤ 1099511627776) (hd : DW sb B w W) (k : Nat) (hk : k ≤ 100) => mN sb B k W hB (by omega) hd.src)
 have NX := aa (fun B W (hB : B + 3 ≤ 1099511627776) (hd : DW sb B w W) (k : Nat) (hk : k ≤ 100) => dv sb B k W hB (by omega) hd.src)
 have tx := aa (fun B W (hB : B + 300 ≤ 1099511627776) (hd : DW sb B w W) => E1 sb B n (.slice va n vc) W hB hd.src (SC.out B W hd))
 have Cd := aa BD
 have bI := jz
 have DQ : IntKind.i64.wrap (deep - 1) = deep - 1 := fM (by omega) (by omega)
 have nW : sb < w.heap.size := h.lt
 unfold eF at *
 clear h iY E1 BD
 go_enter Tryz.func86, Tryz.ntmps86
 go_wp2_with fail
 refine (bZ _ _ _ _ _ _ _).mono ?_
 rintro e w1 ⟨rfl, hb⟩
 have mr := aa (HD.out.calm hb)
 have eZ := mr.out.size
 have jI := aa (mr.out.alloc (gH 15 0 ⟨#[]⟩ none 0 0))
 have sT : w1.heap.size ≠ sb := by omega
 clear hb HD
 go_wp2_with fail
 refine (NX.out _ _ (by omega) jI.out 3 (by omega)).mono ?_
 rintro e w3 ⟨q, hq, rfl, hs, hk⟩
 have SE0 : Hid (SE sb (A + 3) (2 * C + 400) w w1.heap.size 0 w3) := ⟨fun _ => .nil, fun _ => undef, fun _ => 0, fun _ => 0, none, 0, jI.out.step hs hk, by omega, bU (heap_alloc_new w1 _) sT hk, Gw.start _ _ _ _ (World.ownsRow_nil _ _ _ _), fun i hi => absurd hi (Nat.not_lt_zero _)⟩
 clear hs hk mr jI
 go_wp2_with fail
 go_loopw [10] (fun i wr => ∃ (c j B : Nat), i = .int .i64 c ∧ c ≤ 2 ∧ j + c ≤ 2 ∧ B + c * (2 * K + 330) ≤ A + 3 + 2 * (2 * K + 330) ∧ SE sb B (2 * C + 400) w w1.heap.size j wr) (fun i _ => (intOf i).toNat)
 case atStart =>
  exact ⟨q, 0, A + 3, rfl, by omega, by omega, by have : q * (2 * K + 330) ≤ 2 * (2 * K + 330) := Nat.mul_le_mul_right _ (by omega); omega, SE0.out⟩
 case round =>
  obtain ⟨c, j, B, rfl, hc, hj, hB, Ts, us, s, e, ka, kc, Oz⟩ := hrel
  have zr := aa Oz
  have yQ := Oz.low
  clear Oz SE0
  by_cases RG : 0 < c
  ·skip
   obtain ⟨c1, ed⟩ : ∃ c1, c = c1 + 1 := ⟨c - 1, by omega⟩
   have hwc : IntKind.i64.wrap ((c : Int) - 1) = (c1 : Int) := by rw [fM (by omega) (by omega)]; omega
   have MD : (0 : Int) < (c : Int) := by omega
   have hB1 : B + (2 * K + 330) + c1 * (2 * K + 330) ≤ A + 3 + 2 * (2 * K + 330) := by rw [ed, Nat.add_mul] at hB; omega
   have hB2 : B + (2 * K + 330) ≤ A + 3 + 2 * (2 * K + 330) := by omega
   generalize hY : c1 * (2 * K + 330) = Y at hB1
   go_wp2_with fail
   refine (PV.out 3 _ _ (by omega) zr.out.dw).mono ?_
   rintro e' w4 ⟨ch, isChan, dc, rfl, az, iI⟩
   have NR := aa (zr.out.kp az iI)
   have Fm := aa dc
   clear az iI dc zr
   cases isChan
   ·go_wp2
    exact ⟨⟨c1, j, B + 3, rfl, by omega, by omega, by omega, _, _, _, _, _, _, NR.out⟩, by simp [intOf]; omega⟩
   ·have kb := Fm.out (by trivial)
    have Hw := ei kb
    have qB := aa kb
    clear kb Fm
    go_wp2_with fail
    refine (aJ _ _ _ _ _ _).mono ?_
    rintro e' w5 ⟨rfl, hb⟩
    have zq := aa (NR.out.calm hb)
    have Oq := zq.out.dw.size
    have hob5 := (Array.getElem?_eq_some_iff.1 zq.out.obx).1
    have NQ := aa (zq.out.calm ((Below.refl _ _).alloc lr (gH 24 0 ch none 0 0)))
    have D8 : w5.heap.size ≠ sb := by omega
    clear hb NR zq
    go_wp2_with fail
    refine (CH.out _ _ (by omega) NQ.out.dw 2 (by omega)).mono ?_
    rintro e' w6 ⟨t, rfl, hs, hk⟩
    have iL := aa (NQ.out.kp hs hk)
    have Jw : Hid (w6.heap[w5.heap.size]? = some (gH 24 0 ch none 0 0)) := bU (heap_alloc_new w5 _) D8 hk
    have Oo : w5.heap.size + 1 ≤ w6.heap.size := by have := hk.size; simpa [gH] using this
    clear hs hk NQ
    cases t
    ·skip
     obtain ⟨iv, Mx, wU, wT, wS⟩ := info_parts sQ
     obtain ⟨v3, w7, fk, pQ, hb3⟩ := oj (B := w6.heap.size) (SC.out _ _ iL.out.dw) lr
     obtain ⟨a3, c3, rfl⟩ := pQ.shape
     obtain ⟨f3, uK, D7⟩ := id pQ
     have qz := aa fk
     have On := hb3.size
     have ou := aa hb3
     have Fg := aa uK
     have KK := aa pQ
     clear fk pQ hb3 uK
     go_wp2_with (first
      |(at_builtin; refine fq _ rfl _ _ 49 rfl _ _ _ _ rfl rfl qz.out ?_; clear qz)
      |(at_builtin; refine bd _ rfl _ _ 49 rfl w6.heap.size 92 iv (.agg #[.string ⟨#[]⟩, .int .i64 0, .int .i64 0]) 3 32 Tryz.underlying49 Mx wU wT wS rfl (by decide) _ n _ rfl (Fg.out.alloc _) ⟨w7.heap.size, 0, none⟩ 1 1 [.string ⟨#[118]⟩, .int .i64 1, .int .i64 0] rfl rfl (lD _ _ _ _ _) (mW _ _ _) (by unfold maxLen; omega) (by omega) (by simp; omega) ?_; intro v4 wI uJ pU Ee DS; obtain ⟨aI, cI, rL⟩ := DS.out; subst rL)
      |(go_at_call 34; fail))
     have VF := aa (sC (t := 1) D7 (show aR ⟨#[118]⟩ = true by decide) uJ.out)
     have hbI : Below w6.heap.size w6 wI := Below.of_grown (ou.out.trans ((bO w7 (.cells #[.string ⟨#[118]⟩, .int .i64 1, .int .i64 0] 92)).mono On)) pU.out (by simp; omega) (fun g hg => (KK.out.lt g hg).1)
     have NP := aa (iL.out.calm hbI)
     have V4 := aa (bm Jw.out hbI)
     have hzI := hbI.size
     clear uJ pU Ee DS KK Fg D7 ou hbI iL Jw
     refine (NX.out _ _ (by omega) NP.out.dw 2 (by omega)).mono ?_
     rintro e' wX ⟨q, hq, rfl, hs, hk⟩
     have tw := aa (NP.out.kp hs hk)
     have V3 := aa (bU V4.out D8 hk)
     have VE := aa (VF.out.kp (sb := sb) (by omega) hk)
     have hzX := hk.size
     clear hs hk NP VF V4
     go_wp2_with fail
     refine (qp Cd.out sb _ (n + 1) q (.slice aI (n + 1) cI) loops wX (by omega) (by omega) (by omega) tw.out.dw.src (VE.out.scp (by omega) (by omega))).mono ?_
     rintro e' wY ⟨TB, uB, rfl, dB⟩
     obtain ⟨aB, cB, rfl⟩ := bc dB.row
     have KR := aa (tw.out.dw.step dB.src dB.kp)
     have QC := dB.kp.size
     have RB := aa (ah (bO wY (gH TB.kind TB.num TB.name aB TB.len cB)) lr dB.row)
     have PB : Hid (hG (2 * C) TB) := ⟨dB.fine, dB.ok.1, dB.cost⟩
     have OE := Nd.fine_len dB.fine
     have Rh : TB.len ≤ 2 := dB.ok.2
     obtain ⟨wE, yG⟩ : ∃ W, wY.alloc (gH TB.kind TB.num TB.name aB TB.len cB) = W := ⟨_, rfl⟩
     have N8 : Hid (Kp sb wX (wY.alloc (gH TB.kind TB.num TB.name aB TB.len cB))) := dB.kp.trans (bQ (bO wY _) _) (fun _ _ h => h)
     clear dB VE
     unfold Nd.val
     have tD := aa (KR.out.alloc (gH TB.kind TB.num TB.name aB TB.len cB))
     have cJ := aa (heap_alloc_new wY (gH TB.kind TB.num TB.name aB TB.len cB))
     have hzE : wY.heap.size + 1 ≤ wE.heap.size := by rw [← yG]; simp
     rw [yG] at tD cJ RB N8
     have KM := aa yG
     clear yG KR
     have mH : wY.heap.size ≠ sb := by omega
     have dE : wX.heap.size ≤ wE.heap.size := by omega
     go_upto_region 12 with fail
     rw [show (wY.alloc (Obj.cells #[.int .i64 TB.kind, .int .i64 TB.num, .string TB.name, .slice aB TB.len cB] 25)) = wE from KM.out]
     clear KM
     have jQ : aw (fun _ => 0) 9 = 0 := by simp [aw]
     refine cS bI (by kernel_rfl) rm (qw wY.heap.size wE.heap.size wX.heap.size aB TB cB) (GS sb (B + 3 + 3 + 3 + (2 * K + 10)) (fun _ => 0) 9 8 8 w wE (wY.heap.size) (F12 sb (B + 3 + 3 + 3 + (2 * K + 10)) wX.heap.size wY.heap.size TB w wE)) (GS.start _ tD.out) ?_ ?_
     ·intro l a v i hI hr
      have BN : i < 9 := (bo hr).1
      have cz := (bo hr).2
      have xk : l.size = 9 := hI.lsize
      have HS := aa hI.s
      have mG := iP (fun _ => 0) l 9
      rw [jQ] at mG
      have iO := aa hI.shut
      have cH := aa (fun (v' : World) (hw : ∀ jj x, l.getD jj false = true → qw wY.heap.size wE.heap.size wX.heap.size aB TB cB jj v x → qw wY.heap.size wE.heap.size wX.heap.size aB TB cB jj v' x) (iZ : GS sb (B + 3 + 3 + 3 + (2 * K + 10)) (fun _ => 0) 9 8 8 w wE (wY.heap.size) (F12 sb (B + 3 + 3 + 3 + (2 * K + 10)) wX.heap.size wY.heap.size TB w wE) (l.setIfInBounds i true) v') (x : Value) (hx : qw wY.heap.size wE.heap.size wX.heap.size aB TB cB i v' x) (bS : rm i < 103) => hI.put FA hr bS hw iZ hx)
      have qO := aa (fun (v' : World) (hw : ∀ jj x, l.getD jj false = true → qw wY.heap.size wE.heap.size wX.heap.size aB TB cB jj v x → qw wY.heap.size wE.heap.size wX.heap.size aB TB cB jj v' x) (iZ : GS sb (B + 3 + 3 + 3 + (2 * K + 10)) (fun _ => 0) 9 8 8 w wE (wY.heap.size) (F12 sb (B + 3 + 3 + 3 + (2 * K + 10)) wX.heap.size wY.heap.size TB w wE) (l.setIfInBounds i true) v') (hx : ∀ x, qw wY.heap.size wE.heap.size wX.heap.size aB TB cB i v' x) => hI.none hr hw iZ hx)
      have bJ := aa (fun (j : Nat) (hj : j < 9) (hl : l.getD j false = true) => hI.vals j hj hl)
      have bq := aa (fun o (ho : _ = some o) => dM hr (o := o) ho)
      have s15 : a.tmps[15]?.getD undef = .pointer (some ⟨wY.heap.size, 0, none⟩) := ae (hI.keep 15 (by intro i hi; have h2 : i < 9 := hi; show 15 ≠ rm i; have : ((List.range 9).all fun i => decide (rm i ≠ 15)) = true := (by decide); have h3 := List.all_eq_true.1 this i (List.mem_range.2 h2); simp at h3; exact fun e => h3 e.symm))
      clear hI hr
      rcases (by omega : i = 0 ∨ i = 1 ∨ i = 2 ∨ i = 3 ∨ i = 4 ∨ i = 5 ∨ i = 6 ∨ i = 7 ∨ i = 8) with rfl | rfl | rfl | rfl | rfl | rfl | rfl | rfl | rfl
      all_goals (refine fN rfl rfl ?_)
      ·have k_0 := kk
       exact bk7
      ·have h68 := ae (show a.eval (.tmp 68) = .agg #[.int .i64 24, .int .i64 0, .string ⟨#[118]⟩, .slice none 0 0] from bJ.out 0 (by omega) (bq.out _ rfl ⟨0, Ground.data⟩ (by simp) rfl))
       have k_0 := kk
       exact Tm
      ·obtain ⟨T1, a1, c1, yL, dJ, fG⟩ : LV wE.heap.size (fun T => T = b8 0 0 ⟨#[]⟩ (ax 24 0 ⟨#[118]⟩)) v (a.eval (.tmp 69)) := bJ.out 1 (by omega) (bq.out _ rfl ⟨1, Ground.data⟩ (by simp) rfl)
       subst yL
       have h69 := ae dJ
       have HR := aa fG
       clear dJ fG
       have k_1 := kk
       exact bk7
      ·obtain ⟨T2, a2, c2, D4, ft, jH⟩ : TV wE.heap.size (fun T => T = gT) v (a.eval (.tmp 70)) := bJ.out 2 (by omega) (bq.out _ rfl ⟨2, Ground.data⟩ (by simp) rfl)
       subst D4
       have h70 := ae ft
       unfold Nd.val at h70
       have HR := aa jH
       clear ft jH
       have k_1 := kk
       exact Tm
      ·exact qN
      ·have h72 := ae (show a.eval (.tmp 72) = .pointer (some ⟨wY.heap.size, 3, none⟩) from bJ.out 4 (by omega) (bq.out _ rfl ⟨4, Ground.data⟩ (by simp) rfl))
       have k_0 := kk
       exact Nf
      ·obtain ⟨A3, u3, g3, rfl, mg, hx, Ic⟩ : GV wE.heap.size (fun A => A = gT) v (a.eval (.tmp 71)) := bJ.out 3 (by omega) (bq.out _ rfl ⟨3, Ground.data⟩ (by simp) rfl)
       have h73 : a.eval (.tmp 73) = .slice aB TB.len cB := bJ.out 5 (by omega) (bq.out _ rfl ⟨5, Ground.data⟩ (by simp) rfl)
       have k_0 := kk
       exact Tl
      ·exact qN
      ·have h75 := ae (show a.eval (.tmp 75) = .pointer (some ⟨wY.heap.size, 3, none⟩) from bJ.out 7 (by omega) (bq.out _ rfl ⟨7, Ground.data⟩ (by simp) rfl))
       obtain ⟨Ts2, Pj, s2, e2, a2, c2, hx, fO, rfl, uN, vD⟩ : AV wX.heap.size wY.heap.size (1 + TB.len) (fun Ts => Ts = dg (fun _ => gT) 1 TB.kids) v (a.eval (.tmp 74)) := bJ.out 6 (by omega) (bq.out _ rfl ⟨6, Ground.data⟩ (by simp) rfl)
       have h74 := ae hx
       have bK := cG cz
       obtain ⟨dK, dD⟩ := HS.out.pre bK
       have mh := bU cJ.out mH dD
       obtain ⟨z0, z1, z2, z3, zf⟩ := aG mh
       have KV := zf 3
       have HF12 : Hid (F12 sb (B + 3 + 3 + 3 + (2 * K + 10)) wX.heap.size wY.heap.size TB w wE (v.setCell ⟨wY.heap.size, 3, none⟩ (.slice a2 (1 + TB.len) c2))) := ⟨(show DW sb (B + 3 + 3 + 3 + (2 * K + 10)) w v from ⟨dK.src.mono (by omega), dK.kp, dK.low⟩).put _ _ _ (by omega), fun k h1 h2 h3 => (Below.heap_setCell _ _ _ _ (by show k ≠ wY.heap.size; exact h3)).trans (dD.block k h1 h2), (by have := dD.size; simpa [World.setCell] using this), Pj, s2, e2, a2, c2, (heap_setCell_same v wY.heap.size 3 _ 25 (.slice a2 (1 + TB.len) c2) mh).trans rfl, fO.put uN vD⟩
       clear hx dK dD mh fO zf
       go_simp
       exact qO.out _ (fun j x _ hx => Je (by omega) j x hx) (GS.store (by omega) (.inl rfl) HF12.out) (fun _ => trivial)
     ·intro a v bS ku cM q6 fr
      obtain ⟨l, hS, bj⟩ := q6
      have HF := aa (hS.fin (bj 8 (by decide)))
      rw [fB (n := 9) bS ku cM]
      generalize (fun i => a.eval (.tmp (rm i))) = ff
      clear bS ku cM fr hS bj
      simp only [iE, Act.put, rm, List.getD_cons_zero, List.getD_cons_succ, List.setIfInBounds_toArray, List.set_cons_succ, List.set_cons_zero, List.set_nil]
      obtain ⟨dK, gK, Hv, Pj, s2, e2, la, lc, fC, fO⟩ := HF.out
      have Jp := aa (tw.out.dw.kp2 dK (by omega) (fun k h1 h2 => (gK k (by omega) h2 (by omega)).trans (N8.out.block k h1 h2)))
      have xZ := aa (tw.out.kp dK.src Jp.out)
      have Oe := aa (bU V3.out D8 Jp.out)
      have RL : Hid (Row wX.heap.size v.heap.size v (cm gT TB) (.slice la (1 + TB.len) lc)) := fO.row lr TB.kind TB.num TB.name
      have Ca := aa fC
      have QD := (Array.getElem?_eq_some_iff.1 fC).1
      have hlX := tw.out
      have hobX := (Array.getElem?_eq_some_iff.1 hlX.obx).1
      obtain ⟨wG, J3⟩ : ∃ W, W = v := ⟨_, rfl⟩
      rw [← J3] at xZ RL Ca QD Oe ⊢
      clear dK fO HF fC cJ tD RB J3 gK N8 Jp hlX Hv V3
      have jQ : aw (fun _ => 0) 10 = 0 := by simp [aw]
      go_upto_region 13 with fail
      refine cS bI (by kernel_rfl) nH (qv w1.heap.size wX.heap.size (2 * C + 400) j ka la kc lc ch (cm gT TB)) (GS sb (B + 3 + 3 + 3 + (2 * K + 10)) (fun _ => 0) 10 7 9 w wG (w1.heap.size) (SE sb (B + 3 + 3 + 3 + (2 * K + 10)) (2 * C + 400) w w1.heap.size (j + 1))) (GS.start _ xZ.out.dw) ?_ ?_
      ·intro l a v i hI hr
       have BN : i < 10 := (bo hr).1
       have cz := (bo hr).2
       have xk : l.size = 10 := hI.lsize
       have HS := aa hI.s
       have mG := iP (fun _ => 0) l 10
       rw [jQ] at mG
       have iO := aa hI.shut
       have cH := aa (fun (v' : World) (hw : ∀ jj x, l.getD jj false = true → qv w1.heap.size wX.heap.size (2 * C + 400) j ka la kc lc ch (cm gT TB) jj v x → qv w1.heap.size wX.heap.size (2 * C + 400) j ka la kc lc ch (cm gT TB) jj v' x) (iZ : GS sb (B + 3 + 3 + 3 + (2 * K + 10)) (fun _ => 0) 10 7 9 w wG (w1.heap.size) (SE sb (B + 3 + 3 + 3 + (2 * K + 10)) (2 * C + 400) w w1.heap.size (j + 1)) (l.setIfInBounds i true) v') (x : Value) (hx : qv w1.heap.size wX.heap.size (2 * C + 400) j ka la kc lc ch (cm gT TB) i v' x) (bS : nH i < 103) => hI.put Fz hr bS hw iZ hx)
       have qO := aa (fun (v' : World) (hw : ∀ jj x, l.getD jj false = true → qv w1.heap.size wX.heap.size (2 * C + 400) j ka la kc lc ch (cm gT TB) jj v x → qv w1.heap.size wX.heap.size (2 * C + 400) j ka la kc lc ch (cm gT TB) jj v' x) (iZ : GS sb (B + 3 + 3 + 3 + (2 * K + 10)) (fun _ => 0) 10 7 9 w wG (w1.heap.size) (SE sb (B + 3 + 3 + 3 + (2 * K + 10)) (2 * C + 400) w w1.heap.size (j + 1)) (l.setIfInBounds i true) v') (hx : ∀ x, qv w1.heap.size wX.heap.size (2 * C + 400) j ka la kc lc ch (cm gT TB) i v' x) => hI.none hr hw iZ hx)
       have bJ := aa (fun (j : Nat) (hj : j < 10) (hl : l.getD j false = true) => hI.vals j hj hl)
       have bq := aa (fun o (ho : _ = some o) => dM hr (o := o) ho)
       have s9 : a.tmps[9]?.getD undef = .pointer (some ⟨w1.heap.size, 0, none⟩) := ae (hI.keep 9 (by intro i hi; have h2 : i < 10 := hi; show 9 ≠ nH i; have : ((List.range 10).all fun i => decide (nH i ≠ 9)) = true := (by decide); have h3 := List.all_eq_true.1 this i (List.mem_range.2 h2); simp at h3; exact fun e => h3 e.symm))
       have s13 : a.tmps[13]?.getD undef = .pointer (some ⟨w5.heap.size, 0, none⟩) := ae (hI.keep 13 (by intro i hi; have h2 : i < 10 := hi; show 13 ≠ nH i; have : ((List.range 10).all fun i => decide (nH i ≠ 13)) = true := (by decide); have h3 := List.all_eq_true.1 this i (List.mem_range.2 h2); simp at h3; exact fun e => h3 e.symm))
       have s15 : a.tmps[15]?.getD undef = .pointer (some ⟨wY.heap.size, 0, none⟩) := ae (hI.keep 15 (by intro i hi; have h2 : i < 10 := hi; show 15 ≠ nH i; have : ((List.range 10).all fun i => decide (nH i ≠ 15)) = true := (by decide); have h3 := List.all_eq_true.1 this i (List.mem_range.2 h2); simp at h3; exact fun e => h3 e.symm))
       clear hI hr
       rcases (by omega : i = 0 ∨ i = 1 ∨ i = 2 ∨ i = 3 ∨ i = 4 ∨ i = 5 ∨ i = 6 ∨ i = 7 ∨ i = 8 ∨ i = 9) with rfl | rfl | rfl | rfl | rfl | rfl | rfl | rfl | rfl | rfl
       all_goals (refine fN rfl rfl ?_)
       ·exact qN
       ·have h76 := ae (show a.eval (.tmp 76) = .pointer (some ⟨w1.heap.size, 3, none⟩) from bJ.out 0 (by omega) (bq.out _ rfl ⟨0, Ground.data⟩ (by simp) rfl))
        have k_1 := kk
        exact I0
       ·have k_2 := kk
        exact I0
       ·have k_3 := kk
        exact I0
       ·have h78 := ae (show a.eval (.tmp 78) = .agg #[.int .i64 24, .int .i64 0, .string ch, .slice none 0 0] from bJ.out 2 (by omega) (bq.out _ rfl ⟨2, Ground.data⟩ (by simp) rfl))
        have h79 := ae (show a.eval (.tmp 79) = .agg #[.int .i64 (cm gT TB).kind, .int .i64 (cm gT TB).num, .string (cm gT TB).name, .slice la (cm gT TB).len lc] from bJ.out 3 (by omega) (bq.out _ rfl ⟨3, Ground.data⟩ (by simp) rfl))
        have k_0 := kk
        exact bk8
       ·obtain ⟨T4, a4, c4, hp4, oG, OB⟩ : LV wX.heap.size (fun T => T = dZ 0 0 ⟨#[]⟩ (ax 24 0 ch) (cm gT TB)) v (a.eval (.tmp 80)) := bJ.out 4 (by omega) (bq.out _ rfl ⟨4, Ground.data⟩ (by simp) rfl)
        subst hp4
        have h80 := ae oG
        have HR := aa OB
        clear oG OB
        have k_0 := kk
        exact I0
       ·obtain ⟨T5, a5, c5, Q5, J0, Kb⟩ : TV wX.heap.size (CsP (2 * C + 400)) v (a.eval (.tmp 81)) := bJ.out 5 (by omega) (bq.out _ rfl ⟨5, Ground.data⟩ (by simp) rfl)
        have h81 := ae J0
        unfold Nd.val at h81
        have HR := aa Kb
        have k_1 := kk
        exact bk8
       ·have h77 : a.eval (.tmp 77) = .slice ka j kc := bJ.out 1 (by omega) (bq.out _ rfl ⟨1, Ground.data⟩ (by simp) rfl)
        obtain ⟨T3, a3, c3, ⟨A3, yK, rfl⟩, hx, DU⟩ : LV wX.heap.size (fun T => ∃ A, CsP (2 * C + 400) A ∧ T = b8 0 0 ⟨#[]⟩ A) v (a.eval (.tmp 82)) := bJ.out 6 (by omega) (bq.out _ rfl ⟨6, Ground.data⟩ (by simp) rfl)
        have bK := cG cz
        have aM := cR (f := 40) (j := 9) iO.out (by kernel_rfl) cz
        obtain ⟨dK, dD⟩ := HS.out.pre bK
        have iG : wX.heap.size ≤ v.heap.size := by have := dD.size; omega
        obtain ⟨xj, v2, fk, aX, fg⟩ := SI.join (sb := sb) (A := A) (w := w) (xZ.out.gw.kp (sb := sb) (by omega) dD) xZ.out.ok DU yK (by omega) iG lr (fun g hg => (tw.out.gw.own.lt g hg).2) (by omega)
        refine jW rfl h77 hx (fk _) ?_
        exact cH.out v2 (ph (Wn.of_grown aX (fun k hk => (tw.out.gw.own.lt k hk).2)) bK aM) (HS.out.join (by omega) cz (by decide) aM (by omega) sT aX (fun k hk => by have := (tw.out.gw.own.lt k hk).1; omega)) _ fg (by decide)
       ·exact qN
       ·have h84 := ae (show a.eval (.tmp 84) = .pointer (some ⟨w1.heap.size, 3, none⟩) from bJ.out 8 (by omega) (bq.out _ rfl ⟨8, Ground.data⟩ (by simp) rfl))
        have fg : AV (w1.heap.size + 1) w1.heap.size (j + 1) (fun Ts => ∀ i, i < j + 1 → CsP (2 * C + 400) (Ts i)) v (a.eval (.tmp 83)) := bJ.out 7 (by omega) (bq.out _ rfl ⟨7, Ground.data⟩ (by simp) rfl)
        have qZ : l.getD 7 false = true := bq.out _ rfl ⟨7, Ground.data⟩ (by simp) rfl
        obtain ⟨dK, gP⟩ := HS.out.mid qZ (cG cz)
        rw [jQ] at dK
        have mh := gP.trans xZ.out.obx
        obtain ⟨z0, z1, z2, z3, zf⟩ := aG mh
        have KV := zf 3
        obtain ⟨a2, c2, hx, BF⟩ := SI.done dK yQ mh fg
        have h83 := ae hx
        have FR := aa BF
        clear hx dK gP mh fg BF zf
        go_simp
        exact qO.out _ (fun j x _ hx => Jd (by omega) j x hx) (GS.store (by omega) (.inr qZ) FR.out) (fun _ => trivial)
      ·intro a v bS ku cM q6 fr
       obtain ⟨l, hS, bj⟩ := q6
       have HF := aa (hS.fin (bj 9 (by decide)))
       rw [fB (n := 10) bS ku cM]
       generalize (fun i => a.eval (.tmp (nH i))) = ff
       clear bS ku cM fr hS bj
       simp only [iE, Act.put, nH, List.getD_cons_zero, List.getD_cons_succ, List.setIfInBounds_toArray, List.set_cons_succ, List.set_cons_zero, List.set_nil]
       obtain ⟨Ts', us', s', e', nV, nU, uE⟩ := HF.out
       have rk := aa uE
       clear uE HF xZ tw Oe Ca RL
       go_wp2
       exact ⟨⟨c1, j + 1, B + 3 + 3 + 3 + (2 * K + 10), rfl, by omega, by omega, by omega, _, _, _, _, _, _, rk.out⟩, by simp [intOf]; omega⟩
    ·skip
     go_upto_region 9 with fail
     have jQ : aw (fun i => if i = 5 then 300 else if i = 11 then 3 else if i = 13 then 2 * K + 10 else 0) 20 = 2 * K + 313 := by simp [aw]; omega
     have xc : sb < w6.heap.size := by omega
     refine cS bI (by kernel_rfl) sw (E8 sb w1.heap.size w6.heap.size (2 * C) (2 * C + 400) n j ka va kc vc ch deep loops) (GS sb (B + 3 + 3) (fun i => if i = 5 then 300 else if i = 11 then 3 else if i = 13 then 2 * K + 10 else 0) 20 17 19 w w6 (w1.heap.size) (SE sb (B + 3 + 3 + (2 * K + 313)) (2 * C + 400) w w1.heap.size (j + 1))) (GS.start _ iL.out.dw) ?_ ?_
     ·intro l a v i hI hr
      have BN : i < 20 := (bo hr).1
      have cz := (bo hr).2
      have xk : l.size = 20 := hI.lsize
      have HS := aa hI.s
      have mG := iP (fun i => if i = 5 then 300 else if i = 11 then 3 else if i = 13 then 2 * K + 10 else 0) l 20
      rw [jQ] at mG
      have iO := aa hI.shut
      have cH := aa (fun (v' : World) (hw : ∀ jj x, l.getD jj false = true → E8 sb w1.heap.size w6.heap.size (2 * C) (2 * C + 400) n j ka va kc vc ch deep loops jj v x → E8 sb w1.heap.size w6.heap.size (2 * C) (2 * C + 400) n j ka va kc vc ch deep loops jj v' x) (iZ : GS sb (B + 3 + 3) (fun i => if i = 5 then 300 else if i = 11 then 3 else if i = 13 then 2 * K + 10 else 0) 20 17 19 w w6 (w1.heap.size) (SE sb (B + 3 + 3 + (2 * K + 313)) (2 * C + 400) w w1.heap.size (j + 1)) (l.setIfInBounds i true) v') (x : Value) (hx : E8 sb w1.heap.size w6.heap.size (2 * C) (2 * C + 400) n j ka va kc vc ch deep loops i v' x) (bS : sw i < 103) => hI.put JD hr bS hw iZ hx)
      have qO := aa (fun (v' : World) (hw : ∀ jj x, l.getD jj false = true → E8 sb w1.heap.size w6.heap.size (2 * C) (2 * C + 400) n j ka va kc vc ch deep loops jj v x → E8 sb w1.heap.size w6.heap.size (2 * C) (2 * C + 400) n j ka va kc vc ch deep loops jj v' x) (iZ : GS sb (B + 3 + 3) (fun i => if i = 5 then 300 else if i = 11 then 3 else if i = 13 then 2 * K + 10 else 0) 20 17 19 w w6 (w1.heap.size) (SE sb (B + 3 + 3 + (2 * K + 313)) (2 * C + 400) w w1.heap.size (j + 1)) (l.setIfInBounds i true) v') (hx : ∀ x, E8 sb w1.heap.size w6.heap.size (2 * C) (2 * C + 400) n j ka va kc vc ch deep loops i v' x) => hI.none hr hw iZ hx)
      have bJ := aa (fun (j : Nat) (hj : j < 20) (hl : l.getD j false = true) => hI.vals j hj hl)
      have bq := aa (fun o (ho : _ = some o) => dM hr (o := o) ho)
      have s0 : a.tmps[0]?.getD undef = .pointer (some ⟨sb, 0, none⟩) := ae (hI.keep 0 (by intro i hi; have h2 : i < 20 := hi; show 0 ≠ sw i; have : ((List.range 20).all fun i => decide (sw i ≠ 0)) = true := (by decide); have h3 := List.all_eq_true.1 this i (List.mem_range.2 h2); simp at h3; exact fun e => h3 e.symm))
      have s1 : a.tmps[1]?.getD undef = .slice va n vc := ae (hI.keep 1 (by intro i hi; have h2 : i < 20 := hi; show 1 ≠ sw i; have : ((List.range 20).all fun i => decide (sw i ≠ 1)) = true := (by decide); have h3 := List.all_eq_true.1 this i (List.mem_range.2 h2); simp at h3; exact fun e => h3 e.symm))
      have s2 : a.tmps[2]?.getD undef = .int .i64 deep := ae (hI.keep 2 (by intro i hi; have h2 : i < 20 := hi; show 2 ≠ sw i; have : ((List.range 20).all fun i => decide (sw i ≠ 2)) = true := (by decide); have h3 := List.all_eq_true.1 this i (List.mem_range.2 h2); simp at h3; exact fun e => h3 e.symm))
      have s3 : a.tmps[3]?.getD undef = .bool loops := ae (hI.keep 3 (by intro i hi; have h2 : i < 20 := hi; show 3 ≠ sw i; have : ((List.range 20).all fun i => decide (sw i ≠ 3)) = true := (by decide); have h3 := List.all_eq_true.1 this i (List.mem_range.2 h2); simp at h3; exact fun e => h3 e.symm))
      have s9 : a.tmps[9]?.getD undef = .pointer (some ⟨w1.heap.size, 0, none⟩) := ae (hI.keep 9 (by intro i hi; have h2 : i < 20 := hi; show 9 ≠ sw i; have : ((List.range 20).all fun i => decide (sw i ≠ 9)) = true := (by decide); have h3 := List.all_eq_true.1 this i (List.mem_range.2 h2); simp at h3; exact fun e => h3 e.symm))
      have s13 : a.tmps[13]?.getD undef = .pointer (some ⟨w5.heap.size, 0, none⟩) := ae (hI.keep 13 (by intro i hi; have h2 : i < 20 := hi; show 13 ≠ sw i; have : ((List.range 20).all fun i => decide (sw i ≠ 13)) = true := (by decide); have h3 := List.all_eq_true.1 this i (List.mem_range.2 h2); simp at h3; exact fun e => h3 e.symm))
      clear hI hr
      rcases (by omega : i = 0 ∨ i = 1 ∨ i = 2 ∨ i = 3 ∨ i = 4 ∨ i = 5 ∨ i = 6 ∨ i = 7 ∨ i = 8 ∨ i = 9 ∨ i = 10 ∨ i = 11 ∨ i = 12 ∨ i = 13 ∨ i = 14 ∨ i = 15 ∨ i = 16 ∨ i = 17 ∨ i = 18 ∨ i = 19) with rfl | rfl | rfl | rfl | rfl | rfl | rfl | rfl | rfl | rfl | rfl | rfl | rfl | rfl | rfl | rfl | rfl | rfl | rfl | rfl
      all_goals (refine fN rfl rfl ?_)
      ·exact qN
      ·have h35 := ae (show a.eval (.tmp 35) = .pointer (some ⟨w1.heap.size, 3, none⟩) from bJ.out 0 (by omega) (bq.out _ rfl ⟨0, Ground.data⟩ (by simp) rfl))
       have bK := cR (f := 40) (j := 17) iO.out (by kernel_rfl) cz
       have aM := cR (f := 40) (j := 19) iO.out (by kernel_rfl) cz
       exact bk0
      ·have k_2 := kk
       exact EY
      ·exact qN
      ·exact qN
      ·have h38 := ae (show a.eval (.tmp 38) = .pointer (some ⟨sb, 0, none⟩) from bJ.out 3 (by omega) (bq.out _ rfl ⟨3, Ground.data⟩ (by simp) rfl))
       have h39 := ae (show a.eval (.tmp 39) = .slice va n vc from bJ.out 4 (by omega) (bq.out _ rfl ⟨4, Ground.data⟩ (by simp) rfl))
       have k_0 := kk
       exact Tn
      ·exact qN
      ·exact qN
      ·exact qN
      ·have h43 := ae (show a.eval (.tmp 43) = .int .i64 deep from bJ.out 8 (by omega) (bq.out _ rfl ⟨8, Ground.data⟩ (by simp) rfl))
       exact qN
      ·exact qN
      ·have h45 := ae (show a.eval (.tmp 45) = .pointer (some ⟨sb, 0, none⟩) from bJ.out 10 (by omega) (bq.out _ rfl ⟨10, Ground.data⟩ (by simp) rfl))
       have k_1 := kk
       exact EY
      ·exact qN
      ·have h41 := ae (show a.eval (.tmp 41) = .pointer (some ⟨sb, 0, none⟩) from bJ.out 6 (by omega) (bq.out _ rfl ⟨6, Ground.data⟩ (by simp) rfl))
       have h42 := ae (show a.eval (.tmp 42) = .slice va n vc from bJ.out 7 (by omega) (bq.out _ rfl ⟨7, Ground.data⟩ (by simp) rfl))
       have h44 := ae (show a.eval (.tmp 44) = .int .i64 (deep - 1) from bJ.out 9 (by omega) (bq.out _ rfl ⟨9, Ground.data⟩ (by simp) rfl))
       obtain ⟨q2, iH, hx⟩ : ∃ q : Nat, q < 2 ∧ a.eval (.tmp 46) = .int .i64 (q : Int) := bJ.out 11 (by omega) (bq.out _ rfl ⟨11, Ground.data⟩ (by simp) rfl)
       have hq46 := ae hx
       have h47 := ae (show a.eval (.tmp 47) = .bool loops from bJ.out 12 (by omega) (bq.out _ rfl ⟨12, Ground.data⟩ (by simp) rfl))
       have k_3 := kk
       exact EY
      ·have h37 := ae (show a.eval (.tmp 37) = .agg #[.int .i64 24, .int .i64 0, .string ch, .slice none 0 0] from bJ.out 2 (by omega) (bq.out _ rfl ⟨2, Ground.data⟩ (by simp) rfl))
       obtain ⟨T5, a5, c5, Q5, J0, Kb⟩ : TV w6.heap.size (JA 300) v (a.eval (.tmp 40)) := bJ.out 5 (by omega) (bq.out _ rfl ⟨5, Ground.data⟩ (by simp) rfl)
       have h40 := ae J0
       have VP := aa Kb
       obtain ⟨T13, a13, gA, Mm, DO, DX⟩ : TV w6.heap.size (hG (2 * C)) v (a.eval (.tmp 48)) := bJ.out 13 (by omega) (bq.out _ rfl ⟨13, Ground.data⟩ (by simp) rfl)
       have h48 := ae DO
       have HR13 := aa DX
       unfold Nd.val at h40 h48
       clear J0 Kb DO DX
       have k_1 := kk
       exact Tn
      ·obtain ⟨T14, a14, c14, Ml, DN, DV⟩ : LV w6.heap.size (fun T => ∃ F B, JA 300 F ∧ hG (2 * C) B ∧ T = jx 0 0 ⟨#[]⟩ (ax 24 0 ch) F B) v (a.eval (.tmp 49)) := bJ.out 14 (by omega) (bq.out _ rfl ⟨14, Ground.data⟩ (by simp) rfl)
       obtain ⟨F14, B14, hF14, hB14, rfl⟩ := Ml
       have h49 := ae DN
       have HR := aa DV
       clear DN DV
       have k_0 := kk
       exact EY
      ·obtain ⟨T15, a15, c15, hp15, QH, Q1⟩ : TV w6.heap.size (CsP (2 * C + 400)) v (a.eval (.tmp 50)) := bJ.out 15 (by omega) (bq.out _ rfl ⟨15, Ground.data⟩ (by simp) rfl)
       have h50 := ae QH
       unfold Nd.val at h50
       have HR := aa Q1
       have k_4 := kk
       exact EY
      ·have h36 : a.eval (.tmp 36) = .slice ka j kc := bJ.out 1 (by omega) (bq.out _ rfl ⟨1, Ground.data⟩ (by simp) rfl)
       obtain ⟨T3, a3, c3, ⟨A3, yK, rfl⟩, hx, DU⟩ : LV w6.heap.size (fun T => ∃ A, CsP (2 * C + 400) A ∧ T = b8 0 0 ⟨#[]⟩ A) v (a.eval (.tmp 51)) := bJ.out 16 (by omega) (bq.out _ rfl ⟨16, Ground.data⟩ (by simp) rfl)
       have bK := cG cz
       have aM := cR (f := 40) (j := 19) iO.out (by kernel_rfl) cz
       have k_0 := kk
       exact bk5
      ·exact qN
      ·have h53 := ae (show a.eval (.tmp 53) = .pointer (some ⟨w1.heap.size, 3, none⟩) from bJ.out 18 (by omega) (bq.out _ rfl ⟨18, Ground.data⟩ (by simp) rfl))
       have fg : AV (w1.heap.size + 1) w1.heap.size (j + 1) (fun Ts => ∀ i, i < j + 1 → CsP (2 * C + 400) (Ts i)) v (a.eval (.tmp 52)) := bJ.out 17 (by omega) (bq.out _ rfl ⟨17, Ground.data⟩ (by simp) rfl)
       have qZ : l.getD 17 false = true := bq.out _ rfl ⟨17, Ground.data⟩ (by simp) rfl
       have k_0 := kk
       exact bk9
     ·intro a v bS ku cM q6 fr
      obtain ⟨l, hS, bj⟩ := q6
      have HF := aa (hS.fin (bj 19 (by decide)))
      rw [fB (n := 20) bS ku cM]
      generalize (fun i => a.eval (.tmp (sw i))) = ff
      clear bS ku cM fr hS bj
      simp only [iE, Act.put, sw, List.getD_cons_zero, List.getD_cons_succ, List.setIfInBounds_toArray, List.set_cons_succ, List.set_cons_zero, List.set_nil]
      obtain ⟨Ts', us', s', e', nV, nU, uE⟩ := HF.out
      have rk := aa uE
      clear uE HF iL Jw
      go_wp2
      exact ⟨⟨c1, j + 1, B + 3 + 3 + (2 * K + 313), rfl, by omega, by omega, by omega, _, _, _, _, _, _, rk.out⟩, by simp [intOf]; omega⟩
  ·skip
   obtain rfl : c = 0 := by omega
   have kE : ¬ (0 : Int) < ((0 : Nat) : Int) := by omega
   simp only [Nat.zero_mul, Nat.add_zero] at hB
   go_wp2_with fail
   refine (CH.out _ _ (by omega) zr.out.dw 2 (by omega)).mono ?_
   rintro e' w6 ⟨t, rfl, hs, hk⟩
   have iL := aa (zr.out.kp hs hk)
   have hob6 := (Array.getElem?_eq_some_iff.1 iL.out.obx).1
   clear hs hk zr
   cases t
   ·skip
    obtain ⟨o0, o1, o2, o3, of⟩ := aG iL.out.obx
    obtain ⟨f0, f1, f2, f3, ff⟩ := iL.out.dw.cells
    have nF := aa (iL.out.gw.row (lo := w.heap.size + 1) (by omega) 15 0 ⟨#[]⟩)
    have KS := aa iL.out.dw
    have oY := aa iL.out.ok
    clear iL
    go_wp2
    refine bodyPost_ret (KS.out.read Tryz.results86 rfl _ _ _ _) rfl ⟨.mk 15 0 ⟨#[]⟩ (j) Ts, _, rfl, ?_⟩
    exact (KS.out.fin (P := fun T => T.sOk = true) (C := 3 * (2 * C + 401)) nF.out ⟨by omega, by omega, by decide, by show j ≤ _; omega, fun i hi => (oY.out i hi).1⟩ (pD fun i hi => (oY.out i hi).2.1) (Nat.le_trans (oN fun i hi => (oY.out i hi).2.2) (Nat.mul_le_mul_right _ (by omega)))).more (by omega)
   ·skip
    go_upto_region 15 with fail
    have jQ : aw (fun i => if i = 7 then 3 else if i = 9 then 2 * K + 10 else 0) 16 = 2 * K + 13 := by simp [aw]; omega
    have xc : sb < w6.heap.size := by omega
    refine cS bI (by kernel_rfl) kI (qt sb w1.heap.size w6.heap.size (2 * C) (2 * C + 400) n j ka va kc vc deep loops) (GS sb (B + 3) (fun i => if i = 7 then 3 else if i = 9 then 2 * K + 10 else 0) 16 13 15 w w6 (w1.heap.size) (SE sb (B + 3 + (2 * K + 13)) (2 * C + 400) w w1.heap.size (j + 1))) (GS.start _ iL.out.dw) ?_ ?_
    ·intro l a v i hI hr
     have BN : i < 16 := (bo hr).1
     have cz := (bo hr).2
     have xk : l.size = 16 := hI.lsize
     have HS := aa hI.s
     have mG := iP (fun i => if i = 7 then 3 else if i = 9 then 2 * K + 10 else 0) l 16
     rw [jQ] at mG
     have iO := aa hI.shut
     have cH := aa (fun (v' : World) (hw : ∀ jj x, l.getD jj false = true → qt sb w1.heap.size w6.heap.size (2 * C) (2 * C + 400) n j ka va kc vc deep loops jj v x → qt sb w1.heap.size w6.heap.size (2 * C) (2 * C + 400) n j ka va kc vc deep loops jj v' x) (iZ : GS sb (B + 3) (fun i => if i = 7 then 3 else if i = 9 then 2 * K + 10 else 0) 16 13 15 w w6 (w1.heap.size) (SE sb (B + 3 + (2 * K + 13)) (2 * C + 400) w w1.heap.size (j + 1)) (l.setIfInBounds i true) v') (x : Value) (hx : qt sb w1.heap.size w6.heap.size (2 * C) (2 * C + 400) n j ka va kc vc deep loops i v' x) (bS : kI i < 103) => hI.put Fy hr bS hw iZ hx)
     have qO := aa (fun (v' : World) (hw : ∀ jj x, l.getD jj false = true → qt sb w1.heap.size w6.heap.size (2 * C) (2 * C + 400) n j ka va kc vc deep loops jj v x → qt sb w1.heap.size w6.heap.size (2 * C) (2 * C + 400) n j ka va kc vc deep loops jj v' x) (iZ : GS sb (B + 3) (fun i => if i = 7 then 3 else if i = 9 then 2 * K + 10 else 0) 16 13 15 w w6 (w1.heap.size) (SE sb (B + 3 + (2 * K + 13)) (2 * C + 400) w w1.heap.size (j + 1)) (l.setIfInBounds i true) v') (hx : ∀ x, qt sb w1.heap.size w6.heap.size (2 * C) (2 * C + 400) n j ka va kc vc deep loops i v' x) => hI.none hr hw iZ hx)
     have bJ := aa (fun (j : Nat) (hj : j < 16) (hl : l.getD j false = true) => hI.vals j hj hl)
     have bq := aa (fun o (ho : _ = some o) => dM hr (o := o) ho)
     have s0 : a.tmps[0]?.getD undef = .pointer (some ⟨sb, 0, none⟩) := ae (hI.keep 0 (by intro i hi; have h2 : i < 16 := hi; show 0 ≠ kI i; have : ((List.range 16).all fun i => decide (kI i ≠ 0)) = true := (by decide); have h3 := List.all_eq_true.1 this i (List.mem_range.2 h2); simp at h3; exact fun e => h3 e.symm))
     have s1 : a.tmps[1]?.getD undef = .slice va n vc := ae (hI.keep 1 (by intro i hi; have h2 : i < 16 := hi; show 1 ≠ kI i; have : ((List.range 16).all fun i => decide (kI i ≠ 1)) = true := (by decide); have h3 := List.all_eq_true.1 this i (List.mem_range.2 h2); simp at h3; exact fun e => h3 e.symm))
     have s2 : a.tmps[2]?.getD undef = .int .i64 deep := ae (hI.keep 2 (by intro i hi; have h2 : i < 16 := hi; show 2 ≠ kI i; have : ((List.range 16).all fun i => decide (kI i ≠ 2)) = true := (by decide); have h3 := List.all_eq_true.1 this i (List.mem_range.2 h2); simp at h3; exact fun e => h3 e.symm))
     have s3 : a.tmps[3]?.getD undef = .bool loops := ae (hI.keep 3 (by intro i hi; have h2 : i < 16 := hi; show 3 ≠ kI i; have : ((List.range 16).all fun i => decide (kI i ≠ 3)) = true := (by decide); have h3 := List.all_eq_true.1 this i (List.mem_range.2 h2); simp at h3; exact fun e => h3 e.symm))
     have s9 : a.tmps[9]?.getD undef = .pointer (some ⟨w1.heap.size, 0, none⟩) := ae (hI.keep 9 (by intro i hi; have h2 : i < 16 := hi; show 9 ≠ kI i; have : ((List.range 16).all fun i => decide (kI i ≠ 9)) = true := (by decide); have h3 := List.all_eq_true.1 this i (List.mem_range.2 h2); simp at h3; exact fun e => h3 e.symm))
     clear hI hr
     rcases (by omega : i = 0 ∨ i = 1 ∨ i = 2 ∨ i = 3 ∨ i = 4 ∨ i = 5 ∨ i = 6 ∨ i = 7 ∨ i = 8 ∨ i = 9 ∨ i = 10 ∨ i = 11 ∨ i = 12 ∨ i = 13 ∨ i = 14 ∨ i = 15) with rfl | rfl | rfl | rfl | rfl | rfl | rfl | rfl | rfl | rfl | rfl | rfl | rfl | rfl | rfl | rfl
     all_goals (refine fN rfl rfl ?_)
     ·exact qN
     ·have h87 := ae (show a.eval (.tmp 87) = .pointer (some ⟨w1.heap.size, 3, none⟩) from bJ.out 0 (by omega) (bq.out _ rfl ⟨0, Ground.data⟩ (by simp) rfl))
      have bK := cR (f := 40) (j := 13) iO.out (by kernel_rfl) cz
      have aM := cR (f := 40) (j := 15) iO.out (by kernel_rfl) cz
      exact bk0
     ·exact qN
     ·exact qN
     ·exact qN
     ·have h91 := ae (show a.eval (.tmp 91) = .int .i64 deep from bJ.out 4 (by omega) (bq.out _ rfl ⟨4, Ground.data⟩ (by simp) rfl))
      exact qN
     ·exact qN
     ·have h93 := ae (show a.eval (.tmp 93) = .pointer (some ⟨sb, 0, none⟩) from bJ.out 6 (by omega) (bq.out _ rfl ⟨6, Ground.data⟩ (by simp) rfl))
      have k_1 := kk
      exact EX
     ·exact qN
     ·have h89 := ae (show a.eval (.tmp 89) = .pointer (some ⟨sb, 0, none⟩) from bJ.out 2 (by omega) (bq.out _ rfl ⟨2, Ground.data⟩ (by simp) rfl))
      have h90 := ae (show a.eval (.tmp 90) = .slice va n vc from bJ.out 3 (by omega) (bq.out _ rfl ⟨3, Ground.data⟩ (by simp) rfl))
      have h92 := ae (show a.eval (.tmp 92) = .int .i64 (deep - 1) from bJ.out 5 (by omega) (bq.out _ rfl ⟨5, Ground.data⟩ (by simp) rfl))
      obtain ⟨q2, iH, hx⟩ : ∃ q : Nat, q < 2 ∧ a.eval (.tmp 94) = .int .i64 (q : Int) := bJ.out 7 (by omega) (bq.out _ rfl ⟨7, Ground.data⟩ (by simp) rfl)
      have hq94 := ae hx
      have h95 := ae (show a.eval (.tmp 95) = .bool loops from bJ.out 8 (by omega) (bq.out _ rfl ⟨8, Ground.data⟩ (by simp) rfl))
      have k_4 := kk
      exact EX
     ·obtain ⟨T9, a9, c9, hp9, QF, Mg⟩ : TV w6.heap.size (hG (2 * C)) v (a.eval (.tmp 96)) := bJ.out 9 (by omega) (bq.out _ rfl ⟨9, Ground.data⟩ (by simp) rfl)
      have h96 := ae QF
      have HR := aa Mg
      unfold Nd.val at h96
      clear QF Mg
      have k_2 := kk
      exact EX
     ·obtain ⟨T10, a10, gG, hp10, QJ, Q3⟩ : LV w6.heap.size (fun T => ∃ B, hG (2 * C) B ∧ T = b8 0 0 ⟨#[]⟩ B) v (a.eval (.tmp 97)) := bJ.out 10 (by omega) (bq.out _ rfl ⟨10, Ground.data⟩ (by simp) rfl)
      obtain ⟨B10, hB10, rfl⟩ := hp10
      have h97 := ae QJ
      have HR := aa Q3
      clear QJ Q3
      have k_0 := kk
      exact EX
     ·obtain ⟨T11, a11, gB, Mo, DP, DY⟩ : TV w6.heap.size (CsP (2 * C + 400)) v (a.eval (.tmp 98)) := bJ.out 11 (by omega) (bq.out _ rfl ⟨11, Ground.data⟩ (by simp) rfl)
      have h98 := ae DP
      unfold Nd.val at h98
      have HR := aa DY
      have k_3 := kk
      exact EX
     ·have h88 : a.eval (.tmp 88) = .slice ka j kc := bJ.out 1 (by omega) (bq.out _ rfl ⟨1, Ground.data⟩ (by simp) rfl)
      obtain ⟨T3, a3, c3, ⟨A3, yK, rfl⟩, hx, DU⟩ : LV w6.heap.size (fun T => ∃ A, CsP (2 * C + 400) A ∧ T = b8 0 0 ⟨#[]⟩ A) v (a.eval (.tmp 99)) := bJ.out 12 (by omega) (bq.out _ rfl ⟨12, Ground.data⟩ (by simp) rfl)
      have bK := cG cz
      have aM := cR (f := 40) (j := 15) iO.out (by kernel_rfl) cz
      have k_1 := kk
      exact bk5
     ·exact qN
     ·have h101 := ae (show a.eval (.tmp 101) = .pointer (some ⟨w1.heap.size, 3, none⟩) from bJ.out 14 (by omega) (bq.out _ rfl ⟨14, Ground.data⟩ (by simp) rfl))
      have fg : AV (w1.heap.size + 1) w1.heap.size (j + 1) (fun Ts => ∀ i, i < j + 1 → CsP (2 * C + 400) (Ts i)) v (a.eval (.tmp 100)) := bJ.out 13 (by omega) (bq.out _ rfl ⟨13, Ground.data⟩ (by simp) rfl)
      have qZ : l.getD 13 false = true := bq.out _ rfl ⟨13, Ground.data⟩ (by simp) rfl
      have k_1 := kk
      exact bk9
    ·intro a v bS ku cM q6 fr
     obtain ⟨l, hS, bj⟩ := q6
     have HF := aa (hS.fin (bj 15 (by decide)))
     rw [fB (n := 16) bS ku cM]
     generalize (fun i => a.eval (.tmp (kI i))) = ff
     clear bS ku cM fr hS bj
     simp only [iE, Act.put, kI, List.getD_cons_zero, List.getD_cons_succ, List.setIfInBounds_toArray, List.set_cons_succ, List.set_cons_zero, List.set_nil]
     obtain ⟨Ts', us', s', e', nV, nU, uE⟩ := HF.out
     have rk := aa uE
     clear uE HF iL
     obtain ⟨o0, o1, o2, o3, of⟩ := aG rk.out.obx
     obtain ⟨f0, f1, f2, f3, ff⟩ := rk.out.dw.cells
     have nF := aa (rk.out.gw.row (lo := w.heap.size + 1) (by omega) 15 0 ⟨#[]⟩)
     have KS := aa rk.out.dw
     have oY := aa rk.out.ok
     clear rk
     go_wp2
     refine bodyPost_ret (KS.out.read Tryz.results86 rfl _ _ _ _) rfl ⟨.mk 15 0 ⟨#[]⟩ (j + 1) Ts', _, rfl, ?_⟩
     exact (KS.out.fin (P := fun T => T.sOk = true) (C := 3 * (2 * C + 401)) nF.out ⟨by omega, by omega, by decide, by show j + 1 ≤ _; omega, fun i hi => (oY.out i hi).1⟩ (pD fun i hi => (oY.out i hi).2.1) (Nat.le_trans (oN fun i hi => (oY.out i hi).2.2) (Nat.mul_le_mul_right _ (by omega)))).more (by omega)
end Go.Proofs.YteaocammohcgoaaGreatDoor
