import Derived.Test.YteaocammohcgoaaGreatDoorVDB
set_option linter.unusedVariables false
set_option maxHeartbeats 16000000
set_option maxRecDepth 100000
namespace Go.Proofs.YteaocammohcgoaaGreatDoor
open Go.RowKit
variable {G : Prop}
theorem bZ0 (h : G := by
 rintro e w4 ⟨sg, ju, rfl, hs, hk⟩
 have eW := aa ((gu.out.alloc _).step hs hk)
 have oX := aa ju.1
 have b8 := ju.2
 clear hs hk gu ju
 go_wp2_with fail
 refine (Kk.out _ _ (by omega) eW.out).mono ?_
 have k_Z10_0 := kk
 exact Vl) : G := h
theorem bZ1 (h : G := by
 skip
 go_wp2_with fail
 refine (aQ _ _ _ _ _ _).mono ?_
 rintro e w4 ⟨rfl, hb⟩
 have eW := aa (gu.out.calm hb)
 clear hb gu
 have dn := Gr.out (by trivial)
 have K2 := fD dn
 have Pw := aa dn
 clear dn
 obtain ⟨f0, f1, f2, f3, ff⟩ := eW.out.cells
 go_wp2
 refine bodyPost_ret (eW.out.read Tryz.results85 rfl _ _ _ _) rfl ⟨aq 24 0 s, .slice none 0 0, rfl, ?_⟩
 exact (eW.out.fin (P := fun T => T.eOk = true) (C := 2 * C + 100) (RW.leaf w _ 24 0 s) (aJ (by omega) (by omega) (by omega)) (gG Pw.out) (by rw [bm]; omega)).more (by omega)) : G := h
theorem bZ2 (h : G := by
 skip
 go_wp2_with fail
 refine (aQ _ _ _ _ _ _).mono ?_
 rintro e w3 ⟨rfl, hb⟩
 have gu := aa (jM.out.calm hb)
 clear hb jM
 have dn := Gr.out (by trivial)
 have K2 := fD dn
 have Pw := aa dn
 clear dn
 obtain ⟨f0, f1, f2, f3, ff⟩ := gu.out.cells
 go_wp2
 refine bodyPost_ret (gu.out.read Tryz.results85 rfl _ _ _ _) rfl ⟨aq 24 0 s, .slice none 0 0, rfl, ?_⟩
 exact (gu.out.fin (P := fun T => T.eOk = true) (C := 100) (RW.leaf w _ 24 0 s) (aJ (by omega) (by omega) (by omega)) (gG Pw.out) (by rw [bm]; omega)).more (by omega)) : G := h
theorem bZ3 (h : G := by
 rintro e w6 ⟨U, uU, rfl, dU⟩
 obtain ⟨aU, cU, rfl⟩ := be dU.row
 have fm := aa (eN.out.step dU.src dU.kp)
 have RU := aa (RW.of_drawn eN.out dU)
 have k_Z17_0 := kk
 exact JE) : G := h
theorem bZ4 (h : G := by
 have k_Z6_0 := kk
 exact bZ6) : G := h
theorem bZ5 (h : G := by
 have k_Z6_1 := kk
 exact bZ6) : G := h
theorem bZ6 (h : G := by
 intro sb A n v w hA h hs
 have HD := aa (DW.start h)
 obtain ⟨va, vc, rfl, _⟩ := id hs
 have ja := bO w dL
 have SC := aa (fun B W (hd : DW sb B w W) => (hs.keep (bG ja _)).keep hd.kp)
 have PV := aa (fun (typ : Int) B W (hB : B + 3 ≤ 1099511627776) (hd : DW sb B w W) => lg sb B n typ (.slice va n vc) W hB hd.src (SC.out B W hd))
 have CH := aa (fun B W (hB : B + 3 ≤ 1099511627776) (hd : DW sb B w W) (k : Nat) (hk : k ≤ 100) => ks sb B k W hB (by omega) hd.src)
 have NX := aa (fun B W (hB : B + 3 ≤ 1099511627776) (hd : DW sb B w W) (k : Nat) (hk : k ≤ 100) => cK sb B k W hB (by omega) hd.src)
 first
 |clear k_Z6_0
  have Kk := aa (fun B W (hB : B + K ≤ 1099511627776) (hd : DW sb B w W) => IHI sb B n (.slice va n vc) W hB hd.src (SC.out B W hd))
  first
  |clear k_Z4_0
   have EXB := aa (fun B W (hB : B + K ≤ 1099511627776) (hd : DW sb B w W) => IHB sb B n (.slice va n vc) W hB hd.src (SC.out B W hd))
   have k_Z13_0 := kk
   exact Vi
  |clear k_Z4_1
   have k_Z13_1 := kk
   exact Vi
 |clear k_Z6_1
  unfold dL at *
  clear h hs ja
  go_enter Tryz.func85, Tryz.ntmps85
  go_wp2_with fail
  first
  |clear k_Z5_0
   refine (PV.out 2 _ _ (by omega) HD.out).mono ?_
   have k_Z16_1 := kk
   exact Oz
  |clear k_Z5_1
   refine (PV.out 1 _ _ (by omega) HD.out).mono ?_
   have k_Z16_2 := kk
   exact Oz) : G := h
theorem bZ7 (h : G := by
 skip
 go_wp2_with fail
 refine (NX.out _ _ (by omega) jM.out 2 (by omega)).mono ?_
 rintro e w3 ⟨r, hr, rfl, hs, hk⟩
 have gu := aa (jM.out.step hs hk)
 clear hs hk jM
 go_wp2_with fail
 refine (bU _ _ _ _ _ _ _).mono ?_
 rintro e w4 ⟨rfl, hb⟩
 have eW := aa (gu.out.calm hb)
 clear hb gu
 obtain ⟨f0, f1, f2, f3, ff⟩ := eW.out.cells
 go_wp2
 refine bodyPost_ret (eW.out.read Tryz.results85 rfl _ _ _ _) rfl ⟨aq 23 r ⟨#[]⟩, .slice none 0 0, rfl, ?_⟩
 first
 |clear k_Z7_0
  exact (eW.out.fin (P := fun T => T.eOk = true) (C := 2 * C + 100) (RW.leaf w _ 23 r ⟨#[]⟩) (aJ (by omega) (by omega) (by decide)) (ny (by omega)) (by rw [bm]; show 0 ≤ _; omega)).more (by omega)
 |clear k_Z7_1
  exact (eW.out.fin (P := fun T => T.eOk = true) (C := 100) (RW.leaf w _ 23 r ⟨#[]⟩) (aJ (by omega) (by omega) (by decide)) (ny (by omega)) (by rw [bm]; show 0 ≤ _; omega)).more (by omega)) : G := h
theorem bZ8 (h : G := by
 skip
 go_wp2_with fail
 refine (NX.out _ _ (by omega) jM.out 6 (by omega)).mono ?_
 rintro e w3 ⟨r, hr, rfl, hs, hk⟩
 have gu := aa (jM.out.step hs hk)
 clear hs hk jM
 go_wp2_with fail
 refine (fE _ _).mono ?_
 rintro e w4 ⟨rfl, hb⟩
 have eW := aa (gu.out.calm hb)
 clear hb gu
 obtain ⟨f0, f1, f2, f3, ff⟩ := eW.out.cells
 go_wp2
 refine bodyPost_ret (eW.out.read Tryz.results85 rfl _ _ _ _) rfl ⟨aq 22 r ⟨#[]⟩, .slice none 0 0, rfl, ?_⟩
 first
 |clear k_Z8_0
  exact (eW.out.fin (P := fun T => T.eOk = true) (C := 2 * C + 100) (RW.leaf w _ 22 r ⟨#[]⟩) (aJ (by omega) (by omega) (by decide)) (iN (by omega)) (by rw [bm]; show 0 ≤ _; omega)).more (by omega)
 |clear k_Z8_1
  exact (eW.out.fin (P := fun T => T.eOk = true) (C := 100) (RW.leaf w _ 22 r ⟨#[]⟩) (aJ (by omega) (by omega) (by decide)) (iN (by omega)) (by rw [bm]; show 0 ≤ _; omega)).more (by omega)) : G := h
theorem bZ9 (h : G := by
 have k_Z11_1 := kk
 exact Vk) : G := h
theorem Vl (h : G := by
 rintro e w5 ⟨T, uT, rfl, dT⟩
 obtain ⟨aT, cT, rfl⟩ := be dT.row
 have eN := aa (eW.out.step dT.src dT.kp)
 have RT := aa (RW.of_drawn eW.out dT)
 have k_Z18_0 := kk
 exact JD) : G := h
theorem Vk (h : G := by
 rintro e w4 ⟨T, uT, rfl, dT⟩
 obtain ⟨aT, cT, rfl⟩ := be dT.row
 have eW := aa (gu.out.step dT.src dT.kp)
 have RT := aa (RW.of_drawn gu.out dT)
 have k_Z18_1 := kk
 exact JD) : G := h
theorem Vj (h : G := by
 have k_Z16_0 := kk
 exact Oz) : G := h
theorem Vi (h : G := by
 have hle : ¬ deep ≤ 0 := by omega
 have Bd : IntKind.i64.wrap (deep - 1) = deep - 1 := fq (by omega) (by omega)
 unfold dL at *
 clear h hs ja
 go_enter Tryz.func85, Tryz.ntmps85
 go_wp2_with fail
 first
 |clear k_Z13_0
  refine (PV.out 2 _ _ (by omega) HD.out).mono ?_
  have k_Z12_0 := kk
  exact Vj
 |clear k_Z13_1
  refine (PV.out 1 _ _ (by omega) HD.out).mono ?_
  have k_Z12_1 := kk
  exact Vj) : G := h
theorem Vh (h : G := by
 skip
 go_wp2_with fail
 refine (CH.out _ _ (by omega) mZ.out 3 (by omega)).mono ?_
 rintro e w2 ⟨t, rfl, hs, hk⟩
 have jM := aa (mZ.out.step hs hk)
 clear hs hk mZ
 cases t
 ·exact bZ2
 first
 |clear k_Z14_0
  ·have k_Z7_1 := kk
   exact bZ7
 |clear k_Z14_1
  ·have k_Z8_1 := kk
   exact bZ8) : G := h
theorem Vg (h : G := by
 skip
 go_wp2_with fail
 refine (CH.out _ _ (by omega) jM.out 3 (by omega)).mono ?_
 rintro e w3 ⟨t, rfl, hs, hk⟩
 have gu := aa (jM.out.step hs hk)
 clear hs hk jM
 cases t
 ·exact bZ1
 first
 |clear k_Z15_0
  ·skip
   go_wp2_with fail
   refine (NX.out _ _ (by omega) gu.out 2 (by omega)).mono ?_
   rintro e w4 ⟨r, hr, rfl, hs, hk⟩
   have eW := aa (gu.out.step hs hk)
   clear hs hk gu
   go_wp2_with fail
   refine (bU _ _ _ _ _ _ _).mono ?_
   rintro e w5 ⟨rfl, hb⟩
   have eN := aa (eW.out.calm hb)
   clear hb eW
   obtain ⟨f0, f1, f2, f3, ff⟩ := eN.out.cells
   go_wp2
   refine bodyPost_ret (eN.out.read Tryz.results85 rfl _ _ _ _) rfl ⟨aq 23 r ⟨#[]⟩, .slice none 0 0, rfl, ?_⟩
   exact (eN.out.fin (P := fun T => T.eOk = true) (C := 2 * C + 100) (RW.leaf w _ 23 r ⟨#[]⟩) (aJ (by omega) (by omega) (by decide)) (ny (by omega)) (by rw [bm]; show 0 ≤ _; omega)).more (by omega)
 |clear k_Z15_1
  ·skip
   go_wp2_with fail
   refine (NX.out _ _ (by omega) gu.out 6 (by omega)).mono ?_
   rintro e w4 ⟨r, hr, rfl, hs, hk⟩
   have eW := aa (gu.out.step hs hk)
   clear hs hk gu
   go_wp2_with fail
   refine (fE _ _).mono ?_
   rintro e w5 ⟨rfl, hb⟩
   have eN := aa (eW.out.calm hb)
   clear hb eW
   obtain ⟨f0, f1, f2, f3, ff⟩ := eN.out.cells
   go_wp2
   refine bodyPost_ret (eN.out.read Tryz.results85 rfl _ _ _ _) rfl ⟨aq 22 r ⟨#[]⟩, .slice none 0 0, rfl, ?_⟩
   exact (eN.out.fin (P := fun T => T.eOk = true) (C := 2 * C + 100) (RW.leaf w _ 22 r ⟨#[]⟩) (aJ (by omega) (by omega) (by decide)) (iN (by omega)) (by rw [bm]; show 0 ≤ _; omega)).more (by omega)) : G := h
theorem Oz (h : G := by
 rintro e w1 ⟨s, ok, dn, rfl, aD, jE⟩
 have mZ := aa (HD.out.step aD jE)
 have Gr := aa dn
 clear aD jE HD dn
 first
 |clear k_Z16_0
  go_wp2_with fail
  refine (CH.out _ _ (by omega) mZ.out 3 (by omega)).mono ?_
  rintro e w2 ⟨t, rfl, hs, hk⟩
  have jM := aa (mZ.out.step hs hk)
  clear hs hk mZ
  cases t
  first
  |clear k_Z12_0
   ·skip
    go_wp2_with fail
    refine (NX.out _ _ (by omega) jM.out 5 (by omega)).mono ?_
    rintro e w3 ⟨r, hr, rfl, hs, hk⟩
    have gu := aa (jM.out.step hs hk)
    clear hs hk jM
    rcases (by omega : r = 0 ∨ r = 1 ∨ 2 ≤ r) with rfl | rfl | hge
    ·skip
     go_wp2_with fail
     refine (EXB.out _ _ (by omega) gu.out).mono ?_
     have k_Z9_0 := kk
     exact bZ9
    ·skip
     go_wp2_with fail
     refine (ij ys sb _ w3.heap.size 0 4 4 _ (by omega) (by omega) (by omega) (by have := gu.out.src.lt; omega) (gu.out.alloc _).src (ie ys w3 [⟨#[38, 38]⟩, ⟨#[124, 124]⟩, ⟨#[61, 61]⟩, ⟨#[33, 61]⟩] 9 (by intro s hs; simp only [List.mem_cons, List.not_mem_nil, or_false] at hs; unfold ys; rcases hs with rfl | rfl | rfl | rfl <;> decide))).mono ?_
     rintro e w4 ⟨sg, ju, rfl, hs, hk⟩
     have eW := aa ((gu.out.alloc _).step hs hk)
     have oX := aa ju.1
     have b8 := ju.2
     clear hs hk gu ju
     go_wp2_with fail
     refine (EXB.out _ _ (by omega) eW.out).mono ?_
     have k_Z10_1 := kk
     exact Vl
    ·have Nn : ¬ (r : Int) = 0 := by omega
     have rU : ¬ (r : Int) = 1 := by omega
     skip
     go_wp2_with fail
     refine (ij ys sb _ w3.heap.size 0 6 6 _ (by omega) (by omega) (by omega) (by have := gu.out.src.lt; omega) (gu.out.alloc _).src (ie ys w3 [⟨#[60]⟩, ⟨#[60, 61]⟩, ⟨#[62]⟩, ⟨#[62, 61]⟩, ⟨#[61, 61]⟩, ⟨#[33, 61]⟩] 9 (by intro s hs; simp only [List.mem_cons, List.not_mem_nil, or_false] at hs; unfold ys; rcases hs with rfl | rfl | rfl | rfl | rfl | rfl <;> decide))).mono ?_
     exact bZ0
   ·skip
    cases ok
    ·have k_Z7_0 := kk
     exact bZ7
    ·have k_Z15_0 := kk
     exact Vg
  |clear k_Z12_1
   ·skip
    go_wp2_with fail
    refine (NX.out _ _ (by omega) jM.out 8 (by omega)).mono ?_
    rintro e w3 ⟨r, hr, rfl, hs, hk⟩
    have gu := aa (jM.out.step hs hk)
    clear hs hk jM
    rcases (by omega : r = 0 ∨ r = 1 ∨ r = 2 ∨ 3 ≤ r) with rfl | rfl | rfl | hge
    ·skip
     go_wp2_with fail
     refine (Kk.out _ _ (by omega) gu.out).mono ?_
     have k_Z9_1 := kk
     exact bZ9
    ·skip
     go_wp2_with fail
     refine (Kk.out _ _ (by omega) gu.out).mono ?_
     have k_Z11_0 := kk
     exact Vk
    ·skip
     go_wp2_with fail
     refine (PV.out 3 _ _ (by omega) gu.out).mono ?_
     rintro e w4 ⟨s2, there, dn, rfl, hs, hk⟩
     have eW := aa (gu.out.step hs hk)
     have HNM3 := aa dn
     clear hs hk gu dn
     cases there
     ·skip
      go_wp2_with fail
      refine (ij ys sb _ w4.heap.size 0 7 7 _ (by omega) (by omega) (by omega) (by have := eW.out.src.lt; omega) (eW.out.alloc _).src (ie ys w4 [⟨#[43]⟩, ⟨#[45]⟩, ⟨#[42]⟩, ⟨#[47]⟩, ⟨#[37]⟩, ⟨#[43]⟩, ⟨#[45]⟩] 9 (by intro s hs; simp only [List.mem_cons, List.not_mem_nil, or_false] at hs; unfold ys; rcases hs with rfl | rfl | rfl | rfl | rfl | rfl | rfl <;> decide))).mono ?_
      rintro e w5 ⟨sg, ju, rfl, hs, hk⟩
      have eN := aa ((eW.out.alloc _).step hs hk)
      have oX := aa ju.1
      have b8 := ju.2
      clear hs hk eW ju
      go_wp2_with fail
      refine (Kk.out _ _ (by omega) eN.out).mono ?_
      rintro e w6 ⟨T, uT, rfl, dT⟩
      obtain ⟨aT, cT, rfl⟩ := be dT.row
      have fm := aa (eN.out.step dT.src dT.kp)
      have RT := aa (RW.of_drawn eN.out dT)
      have k_Z18_2 := kk
      exact JD
     ·skip
      go_wp2_with fail
      refine (CH.out _ _ (by omega) eW.out 2 (by omega)).mono ?_
      rintro e w5 ⟨t, rfl, hs, hk⟩
      have eN := aa (eW.out.step hs hk)
      clear hs hk eW
      cases t
      ·skip
       go_wp2_with fail
       refine (ij ys sb _ w5.heap.size 0 7 7 _ (by omega) (by omega) (by omega) (by have := eN.out.src.lt; omega) (eN.out.alloc _).src (ie ys w5 [⟨#[43]⟩, ⟨#[45]⟩, ⟨#[42]⟩, ⟨#[47]⟩, ⟨#[37]⟩, ⟨#[43]⟩, ⟨#[45]⟩] 9 (by intro s hs; simp only [List.mem_cons, List.not_mem_nil, or_false] at hs; unfold ys; rcases hs with rfl | rfl | rfl | rfl | rfl | rfl | rfl <;> decide))).mono ?_
       rintro e w6 ⟨sg, ju, rfl, hs, hk⟩
       have fm := aa ((eN.out.alloc _).step hs hk)
       have oX := aa ju.1
       have b8 := ju.2
       clear hs hk eN ju
       go_wp2_with fail
       refine (Kk.out _ _ (by omega) fm.out).mono ?_
       rintro e w7 ⟨T, uT, rfl, dT⟩
       obtain ⟨aT, cT, rfl⟩ := be dT.row
       have fY := aa (fm.out.step dT.src dT.kp)
       have RT := aa (RW.of_drawn fm.out dT)
       have k_Z18_3 := kk
       exact JD
      ·skip
       go_wp2_with fail
       refine (aQ _ _ _ _ _ _).mono ?_
       rintro e w6 ⟨rfl, hb⟩
       have fm := aa (eN.out.calm hb)
       clear hb eN
       go_wp2_with fail
       refine (aQ _ _ _ _ _ _).mono ?_
       rintro e w7 ⟨rfl, hb⟩
       have fY := aa ((fm.out.alloc (.cells #[.int .i64 24, .int .i64 0, .string s2, .slice none 0 0] 25)).calm hb)
       have RR := aa (RW.one (A := aq 24 0 s2) fm.out.size (RW.leaf w _ 24 0 s2) (hb.mono (by simp)) 29 0 ⟨#[]⟩)
       have dn := HNM3.out (by trivial)
       have K2 := fD dn
       have HNM4 := aa dn
       clear hb fm dn
       have b8 : ByteArray.size ⟨#[]⟩ ≤ 1 := by decide
       obtain ⟨f0, f1, f2, f3, ff⟩ := fY.out.cells
       go_wp2
       refine bodyPost_ret (fY.out.read Tryz.results85 rfl _ _ _ _) rfl ⟨bX 29 0 ⟨#[]⟩ (aq 24 0 s2), .slice (some ⟨w6.heap.size, 0, none⟩) 1 1, rfl, ?_⟩
       exact (fY.out.fin (P := fun T => T.eOk = true) (C := 2 * C + 100) RR.out (bB (by omega) (by omega) (by decide) (aJ (by omega) (by omega) (by omega))) (vz (gG HNM4.out)) (by rw [b9, bm]; omega)).more (by omega)
    ·have Nn : ¬ (r : Int) = 0 := by omega
     have rU : ¬ (r : Int) = 1 := by omega
     have rT : ¬ (r : Int) = 2 := by omega
     skip
     go_wp2_with fail
     refine (ij ys sb _ w3.heap.size 0 7 7 _ (by omega) (by omega) (by omega) (by have := gu.out.src.lt; omega) (gu.out.alloc _).src (ie ys w3 [⟨#[43]⟩, ⟨#[45]⟩, ⟨#[42]⟩, ⟨#[47]⟩, ⟨#[37]⟩, ⟨#[43]⟩, ⟨#[45]⟩] 9 (by intro s hs; simp only [List.mem_cons, List.not_mem_nil, or_false] at hs; unfold ys; rcases hs with rfl | rfl | rfl | rfl | rfl | rfl | rfl <;> decide))).mono ?_
     exact bZ0
   ·skip
    cases ok
    ·have k_Z8_0 := kk
     exact bZ8
    ·have k_Z15_1 := kk
     exact Vg
 |clear k_Z16_1
  cases ok
  ·skip
   go_wp2_with fail
   refine (NX.out _ _ (by omega) mZ.out 2 (by omega)).mono ?_
   rintro e w2 ⟨r, hr, rfl, hs, hk⟩
   have jM := aa (mZ.out.step hs hk)
   clear hs hk mZ
   go_wp2_with fail
   refine (bU _ _ _ _ _ _ _).mono ?_
   rintro e w3 ⟨rfl, hb⟩
   have gu := aa (jM.out.calm hb)
   clear hb jM
   obtain ⟨f0, f1, f2, f3, ff⟩ := gu.out.cells
   go_wp2
   refine bodyPost_ret (gu.out.read Tryz.results85 rfl _ _ _ _) rfl ⟨aq 23 r ⟨#[]⟩, .slice none 0 0, rfl, ?_⟩
   exact (gu.out.fin (P := fun T => T.eOk = true) (C := 100) (RW.leaf w _ 23 r ⟨#[]⟩) (aJ (by omega) (by omega) (by decide)) (ny (by omega)) (by rw [bm]; show 0 ≤ _; omega)).more (by omega)
  ·have k_Z14_0 := kk
   exact Vh
 |clear k_Z16_2
  cases ok
  ·skip
   go_wp2_with fail
   refine (NX.out _ _ (by omega) mZ.out 6 (by omega)).mono ?_
   rintro e w2 ⟨r, hr, rfl, hs, hk⟩
   have jM := aa (mZ.out.step hs hk)
   clear hs hk mZ
   go_wp2_with fail
   refine (fE _ _).mono ?_
   rintro e w3 ⟨rfl, hb⟩
   have gu := aa (jM.out.calm hb)
   clear hb jM
   obtain ⟨f0, f1, f2, f3, ff⟩ := gu.out.cells
   go_wp2
   refine bodyPost_ret (gu.out.read Tryz.results85 rfl _ _ _ _) rfl ⟨aq 22 r ⟨#[]⟩, .slice none 0 0, rfl, ?_⟩
   exact (gu.out.fin (P := fun T => T.eOk = true) (C := 100) (RW.leaf w _ 22 r ⟨#[]⟩) (aJ (by omega) (by omega) (by decide)) (iN (by omega)) (by rw [bm]; show 0 ≤ _; omega)).more (by omega)
  ·have k_Z14_1 := kk
   exact Vh) : G := h
theorem JE (h : G := by
 have FU := aa dU.fine
 have OU : Hid (U.eOk = true) := dU.ok
 have hcostU := dU.cost
 have hlenU := Nd.fine_len dU.fine
 first
 |clear k_Z17_0
  have vL := aa (RW.step RT.out eN.out dU.kp)
  clear RT
  have RT := vL
  clear vL
  clear dU eN
  unfold Nd.val
  go_wp2_with fail
  refine (aQ _ _ _ _ _ _).mono ?_
  rintro e w7 ⟨rfl, hb⟩
  have fY := aa ((fm.out.alloc (.cells #[.int .i64 T.kind, .int .i64 T.num, .string T.name, .slice aT T.len cT, .int .i64 U.kind, .int .i64 U.num, .string U.name, .slice aU U.len cU] 25)).calm hb)
  have RR := aa (RW.two fm.out.size RT.out RU.out (hb.mono (by simp)) 28 0 sg)
  clear hb fm RT RU
  obtain ⟨f0, f1, f2, f3, ff⟩ := fY.out.cells
  go_wp2
  refine bodyPost_ret (fY.out.read Tryz.results85 rfl _ _ _ _) rfl ⟨dR 28 0 sg T U, .slice (some ⟨w6.heap.size, 0, none⟩) 2 2, rfl, ?_⟩
  exact (fY.out.fin (P := fun T => T.eOk = true) (C := 2 * C + 100) RR.out (eY (by omega) (by omega) (by omega) FT.out FU.out) (nA oX.out OT.out OU.out) (by rw [eZ]; omega)).more (by omega)
 |clear k_Z17_1
  have vL := aa (RW.step RT.out eW.out dU.kp)
  clear RT
  have RT := vL
  clear vL
  clear dU eW
  unfold Nd.val
  go_wp2_with fail
  refine (jd _ _ _ _ _).mono ?_
  rintro e w6 ⟨rfl, hb⟩
  have fm := aa ((eN.out.alloc (.cells #[.int .i64 T.kind, .int .i64 T.num, .string T.name, .slice aT T.len cT, .int .i64 U.kind, .int .i64 U.num, .string U.name, .slice aU U.len cU] 25)).calm hb)
  have RR := aa (RW.two eN.out.size RT.out RU.out (hb.mono (by simp)) 25 0 ⟨#[97, 100, 100]⟩)
  clear hb eN RT RU
  have b8 : ByteArray.size ⟨#[97, 100, 100]⟩ = 3 := by decide
  obtain ⟨f0, f1, f2, f3, ff⟩ := fm.out.cells
  go_wp2
  refine bodyPost_ret (fm.out.read Tryz.results85 rfl _ _ _ _) rfl ⟨dR 25 0 ⟨#[97, 100, 100]⟩ T U, .slice (some ⟨w5.heap.size, 0, none⟩) 2 2, rfl, ?_⟩
  exact (fm.out.fin (P := fun T => T.eOk = true) (C := 2 * C + 100) RR.out (eY (by omega) (by omega) (by decide) FT.out FU.out) (oe (by decide) OT.out OU.out) (by rw [eZ]; omega)).more (by omega)
 |clear k_Z17_2
  have vL := aa (RW.step RT.out fm.out dU.kp)
  clear RT
  have RT := vL
  clear vL
  clear dU fm
  unfold Nd.val
  go_wp2_with fail
  refine (aQ _ _ _ _ _ _).mono ?_
  rintro e w8 ⟨rfl, hb⟩
  have qG := aa ((fY.out.alloc (.cells #[.int .i64 T.kind, .int .i64 T.num, .string T.name, .slice aT T.len cT, .int .i64 U.kind, .int .i64 U.num, .string U.name, .slice aU U.len cU] 25)).calm hb)
  have RR := aa (RW.two fY.out.size RT.out RU.out (hb.mono (by simp)) 28 0 sg)
  clear hb fY RT RU
  obtain ⟨f0, f1, f2, f3, ff⟩ := qG.out.cells
  go_wp2
  refine bodyPost_ret (qG.out.read Tryz.results85 rfl _ _ _ _) rfl ⟨dR 28 0 sg T U, .slice (some ⟨w7.heap.size, 0, none⟩) 2 2, rfl, ?_⟩
  exact (qG.out.fin (P := fun T => T.eOk = true) (C := 2 * C + 100) RR.out (eY (by omega) (by omega) (by omega) FT.out FU.out) (nA oX.out OT.out OU.out) (by rw [eZ]; omega)).more (by omega)
 |clear k_Z17_3
  have vL := aa (RW.step RT.out fY.out dU.kp)
  clear RT
  have RT := vL
  clear vL
  clear dU fY
  unfold Nd.val
  go_wp2_with fail
  refine (aQ _ _ _ _ _ _).mono ?_
  rintro e w9 ⟨rfl, hb⟩
  have BZ := aa ((qG.out.alloc (.cells #[.int .i64 T.kind, .int .i64 T.num, .string T.name, .slice aT T.len cT, .int .i64 U.kind, .int .i64 U.num, .string U.name, .slice aU U.len cU] 25)).calm hb)
  have RR := aa (RW.two qG.out.size RT.out RU.out (hb.mono (by simp)) 28 0 sg)
  clear hb qG RT RU
  obtain ⟨f0, f1, f2, f3, ff⟩ := BZ.out.cells
  go_wp2
  refine bodyPost_ret (BZ.out.read Tryz.results85 rfl _ _ _ _) rfl ⟨dR 28 0 sg T U, .slice (some ⟨w8.heap.size, 0, none⟩) 2 2, rfl, ?_⟩
  exact (BZ.out.fin (P := fun T => T.eOk = true) (C := 2 * C + 100) RR.out (eY (by omega) (by omega) (by omega) FT.out FU.out) (nA oX.out OT.out OU.out) (by rw [eZ]; omega)).more (by omega)) : G := h
theorem JD (h : G := by
 have FT := aa dT.fine
 have OT : Hid (T.eOk = true) := dT.ok
 have tq := dT.cost
 have zj := Nd.fine_len dT.fine
 first
 |clear k_Z18_0
  clear dT eW
  unfold Nd.val
  go_wp2_with fail
  first
  |clear k_Z10_0
   refine (Kk.out _ _ (by omega) eN.out).mono ?_
   exact bZ3
  |clear k_Z10_1
   refine (EXB.out _ _ (by omega) eN.out).mono ?_
   exact bZ3
 |clear k_Z18_1
  clear dT gu
  unfold Nd.val
  go_wp2_with fail
  first
  |clear k_Z11_0
   refine (Kk.out _ _ (by omega) eW.out).mono ?_
   rintro e w5 ⟨U, uU, rfl, dU⟩
   obtain ⟨aU, cU, rfl⟩ := be dU.row
   have eN := aa (eW.out.step dU.src dU.kp)
   have RU := aa (RW.of_drawn eW.out dU)
   have k_Z17_1 := kk
   exact JE
  |clear k_Z11_1
   refine (aQ _ _ _ _ _ _).mono ?_
   rintro e w5 ⟨rfl, hb⟩
   have eN := aa ((eW.out.alloc (nO T (.slice aT T.len cT))).calm hb)
   first
   |clear k_Z9_0
    have RR := aa (RW.one eW.out.size RT.out (hb.mono (by simp)) 27 0 ⟨#[33]⟩)
    clear hb eW RT
    have b8 : ByteArray.size ⟨#[33]⟩ ≤ 1 := by decide
    obtain ⟨f0, f1, f2, f3, ff⟩ := eN.out.cells
    go_wp2
    refine bodyPost_ret (eN.out.read Tryz.results85 rfl _ _ _ _) rfl ⟨bX 27 0 ⟨#[33]⟩ T, .slice (some ⟨w4.heap.size, 0, none⟩) 1 1, rfl, ?_⟩
    exact (eN.out.fin (P := fun T => T.eOk = true) (C := 2 * C + 100) RR.out (bB (by omega) (by omega) (by decide) FT.out) (Jh OT.out) (by rw [b9]; omega)).more (by omega)
   |clear k_Z9_1
    have RR := aa (RW.one eW.out.size RT.out (hb.mono (by simp)) 27 0 ⟨#[45]⟩)
    clear hb eW RT
    have b8 : ByteArray.size ⟨#[45]⟩ ≤ 1 := by decide
    obtain ⟨f0, f1, f2, f3, ff⟩ := eN.out.cells
    go_wp2
    refine bodyPost_ret (eN.out.read Tryz.results85 rfl _ _ _ _) rfl ⟨bX 27 0 ⟨#[45]⟩ T, .slice (some ⟨w4.heap.size, 0, none⟩) 1 1, rfl, ?_⟩
    exact (eN.out.fin (P := fun T => T.eOk = true) (C := 2 * C + 100) RR.out (bB (by omega) (by omega) (by decide) FT.out) (Ji OT.out) (by rw [b9]; omega)).more (by omega)
 |clear k_Z18_2
  clear dT eN
  unfold Nd.val
  go_wp2_with fail
  refine (Kk.out _ _ (by omega) fm.out).mono ?_
  rintro e w7 ⟨U, uU, rfl, dU⟩
  obtain ⟨aU, cU, rfl⟩ := be dU.row
  have fY := aa (fm.out.step dU.src dU.kp)
  have RU := aa (RW.of_drawn fm.out dU)
  have k_Z17_2 := kk
  exact JE
 |clear k_Z18_3
  clear dT fm
  unfold Nd.val
  go_wp2_with fail
  refine (Kk.out _ _ (by omega) fY.out).mono ?_
  rintro e w8 ⟨U, uU, rfl, dU⟩
  obtain ⟨aU, cU, rfl⟩ := be dU.row
  have qG := aa (fY.out.step dU.src dU.kp)
  have RU := aa (RW.of_drawn fY.out dU)
  have k_Z17_3 := kk
  exact JE) : G := h
theorem zz (deep : Int) (C K : Nat) (h0 : 0 < deep) (h9 : deep ≤ 100) (hC : C ≤ 100000) (hK : K ≤ 100000) (IHI : EXC 1 (deep - 1) C K) (IHB : EXC 2 (deep - 1) C K) : EXC 2 deep (2 * C + 100) (2 * K + 100) := by
 have k_Z4_0 := kk
 exact bZ4
theorem nx : EXC 1 0 100 100 := by
 have k_Z5_1 := kk
 exact bZ5
theorem Jd : EXC 2 0 100 100 := by
 have k_Z5_0 := kk
 exact bZ5
theorem Fb (deep : Int) (C K : Nat) (h0 : 0 < deep) (h9 : deep ≤ 100) (hC : C ≤ 100000) (hK : K ≤ 100000) (IHI : EXC 1 (deep - 1) C K) : EXC 1 deep (2 * C + 100) (2 * K + 100) := by
 have k_Z4_1 := kk
 exact bZ4
end Go.Proofs.YteaocammohcgoaaGreatDoor
