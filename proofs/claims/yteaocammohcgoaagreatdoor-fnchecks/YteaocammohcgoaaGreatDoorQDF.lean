import Derived.Test.YteaocammohcgoaaGreatDoorQDB
set_option linter.unusedVariables false
set_option maxHeartbeats 16000000
set_option maxRecDepth 100000
namespace Go.Proofs.YteaocammohcgoaaGreatDoor
open Go.RowKit
variable {G : Prop}
theorem bi0 (h : G := by
 rintro e w4 ⟨sg, js, rfl, hs, hk⟩
 have eH := aa ((gj.out.alloc _).step hs hk)
 have oX := aa js.1
 have bS := js.2
 clear hs hk gj js
 go_wp2_with fail
 refine (JB.out _ _ (by omega) eH.out).mono ?_
 have k_0 := kk
 exact Tw) : G := h
theorem bi1 (h : G := by
 skip
 go_wp2_with fail
 refine (aJ _ _ _ _ _ _).mono ?_
 rintro e w4 ⟨rfl, hb⟩
 have eH := aa (gj.out.calm hb)
 clear hb gj
 have dc := BT.out (by trivial)
 have uL := ei dc
 have N0 := aa dc
 clear dc
 obtain ⟨f0, f1, f2, f3, ff⟩ := eH.out.cells
 go_wp2
 refine bodyPost_ret (eH.out.read Tryz.results85 rfl _ _ _ _) rfl ⟨ax 24 0 s, .slice none 0 0, rfl, ?_⟩
 exact (eH.out.fin (P := fun T => T.eOk = true) (C := 2 * C + 100) (RW.leaf w _ 24 0 s) (aL (by omega) (by omega) (by omega)) (gz N0.out) (by rw [bG]; omega)).more (by omega)) : G := h
theorem bi2 (h : G := by
 skip
 go_wp2_with fail
 refine (aJ _ _ _ _ _ _).mono ?_
 rintro e w3 ⟨rfl, hb⟩
 have gj := aa (jI.out.calm hb)
 clear hb jI
 have dc := BT.out (by trivial)
 have uL := ei dc
 have N0 := aa dc
 clear dc
 obtain ⟨f0, f1, f2, f3, ff⟩ := gj.out.cells
 go_wp2
 refine bodyPost_ret (gj.out.read Tryz.results85 rfl _ _ _ _) rfl ⟨ax 24 0 s, .slice none 0 0, rfl, ?_⟩
 exact (gj.out.fin (P := fun T => T.eOk = true) (C := 100) (RW.leaf w _ 24 0 s) (aL (by omega) (by omega) (by omega)) (gz N0.out) (by rw [bG]; omega)).more (by omega)) : G := h
theorem bi3 (h : G := by
 rintro e w6 ⟨U, uU, rfl, dU⟩
 obtain ⟨aU, cU, rfl⟩ := bc dU.row
 have eU := aa (dQ.out.step dU.src dU.kp)
 have RU := aa (RW.of_drawn dQ.out dU)
 have FU := aa dU.fine
 have OU : Hid (U.eOk = true) := dU.ok
 have xn := dU.cost
 have Ef := Nd.fine_len dU.fine
 have vq := aa (RW.step RT.out dQ.out dU.kp)
 clear RT
 have RT := vq
 clear vq
 clear dU dQ
 unfold Nd.val
 go_wp2_with fail
 refine (aJ _ _ _ _ _ _).mono ?_
 rintro e w7 ⟨rfl, hb⟩
 have hZ := aa ((eU.out.alloc (.cells #[.int .i64 T.kind, .int .i64 T.num, .string T.name, .slice aT T.len cT, .int .i64 U.kind, .int .i64 U.num, .string U.name, .slice aU U.len cU] 25)).calm hb)
 have RR := aa (RW.two eU.out.size RT.out RU.out (hb.mono (by simp)) 28 0 sg)
 clear hb eU RT RU
 obtain ⟨f0, f1, f2, f3, ff⟩ := hZ.out.cells
 go_wp2
 refine bodyPost_ret (hZ.out.read Tryz.results85 rfl _ _ _ _) rfl ⟨dZ 28 0 sg T U, .slice (some ⟨w6.heap.size, 0, none⟩) 2 2, rfl, ?_⟩
 exact (hZ.out.fin (P := fun T => T.eOk = true) (C := 2 * C + 100) RR.out (e6 (by omega) (by omega) (by omega) FT.out FU.out) (nA oX.out OT.out OU.out) (by rw [e7]; omega)).more (by omega)) : G := h
theorem bi4 (h : G := by
 have k_0 := kk
 exact bi6) : G := h
theorem bi5 (h : G := by
 have k_1 := kk
 exact bi6) : G := h
theorem bi6 (h : G := by
 intro sb A n v w hA h hs
 have HD := aa (DW.start h)
 obtain ⟨va, vc, rfl, _⟩ := id hs
 have iY := bO w eF
 have SC := aa (fun B W (hd : DW sb B w W) => (hs.keep (bQ iY _)).keep hd.kp)
 have PV := aa (fun (typ : Int) B W (hB : B + 3 ≤ 1099511627776) (hd : DW sb B w W) => kU sb B n typ (.slice va n vc) W hB hd.src (SC.out B W hd))
 have CH := aa (fun B W (hB : B + 3 ≤ 1099511627776) (hd : DW sb B w W) (k : Nat) (hk : k ≤ 100) => mN sb B k W hB (by omega) hd.src)
 have NX := aa (fun B W (hB : B + 3 ≤ 1099511627776) (hd : DW sb B w W) (k : Nat) (hk : k ≤ 100) => dv sb B k W hB (by omega) hd.src)
 first
 |clear k_0
  have JB := aa (fun B W (hB : B + K ≤ 1099511627776) (hd : DW sb B w W) => IHI sb B n (.slice va n vc) W hB hd.src (SC.out B W hd))
  first
  |clear k_0
   have EXB := aa (fun B W (hB : B + K ≤ 1099511627776) (hd : DW sb B w W) => IHB sb B n (.slice va n vc) W hB hd.src (SC.out B W hd))
   have k_0 := kk
   exact Tt
  |clear k_1
   have k_1 := kk
   exact Tt
 |clear k_1
  unfold eF at *
  clear h hs iY
  go_enter Tryz.func85, Tryz.ntmps85
  go_wp2_with fail
  first
  |clear k_0
   refine (PV.out 1 _ _ (by omega) HD.out).mono ?_
   rintro e w1 ⟨s, ok, dc, rfl, az, iI⟩
   have mr := aa (HD.out.step az iI)
   have BT := aa dc
   clear az iI HD dc
   cases ok
   ·skip
    go_wp2_with fail
    refine (NX.out _ _ (by omega) mr.out 6 (by omega)).mono ?_
    rintro e w2 ⟨r, hr, rfl, hs, hk⟩
    have jI := aa (mr.out.step hs hk)
    clear hs hk mr
    go_wp2_with fail
    refine (jr _ _).mono ?_
    rintro e w3 ⟨rfl, hb⟩
    have gj := aa (jI.out.calm hb)
    clear hb jI
    obtain ⟨f0, f1, f2, f3, ff⟩ := gj.out.cells
    go_wp2
    refine bodyPost_ret (gj.out.read Tryz.results85 rfl _ _ _ _) rfl ⟨ax 22 r ⟨#[]⟩, .slice none 0 0, rfl, ?_⟩
    exact (gj.out.fin (P := fun T => T.eOk = true) (C := 100) (RW.leaf w _ 22 r ⟨#[]⟩) (aL (by omega) (by omega) (by decide)) (iJ (by omega)) (by rw [bG]; show 0 ≤ _; omega)).more (by omega)
   ·have k_0 := kk
    exact Tq
  |clear k_1
   refine (PV.out 2 _ _ (by omega) HD.out).mono ?_
   rintro e w1 ⟨s, ok, dc, rfl, az, iI⟩
   have mr := aa (HD.out.step az iI)
   have BT := aa dc
   clear az iI HD dc
   cases ok
   ·skip
    go_wp2_with fail
    refine (NX.out _ _ (by omega) mr.out 2 (by omega)).mono ?_
    rintro e w2 ⟨r, hr, rfl, hs, hk⟩
    have jI := aa (mr.out.step hs hk)
    clear hs hk mr
    go_wp2_with fail
    refine (bZ _ _ _ _ _ _ _).mono ?_
    rintro e w3 ⟨rfl, hb⟩
    have gj := aa (jI.out.calm hb)
    clear hb jI
    obtain ⟨f0, f1, f2, f3, ff⟩ := gj.out.cells
    go_wp2
    refine bodyPost_ret (gj.out.read Tryz.results85 rfl _ _ _ _) rfl ⟨ax 23 r ⟨#[]⟩, .slice none 0 0, rfl, ?_⟩
    exact (gj.out.fin (P := fun T => T.eOk = true) (C := 100) (RW.leaf w _ 23 r ⟨#[]⟩) (aL (by omega) (by omega) (by decide)) (ny (by omega)) (by rw [bG]; show 0 ≤ _; omega)).more (by omega)
   ·have k_1 := kk
    exact Tq) : G := h
theorem bi7 (h : G := by
 skip
 go_wp2_with fail
 refine (NX.out _ _ (by omega) jI.out 2 (by omega)).mono ?_
 rintro e w3 ⟨r, hr, rfl, hs, hk⟩
 have gj := aa (jI.out.step hs hk)
 clear hs hk jI
 go_wp2_with fail
 refine (bZ _ _ _ _ _ _ _).mono ?_
 rintro e w4 ⟨rfl, hb⟩
 have eH := aa (gj.out.calm hb)
 clear hb gj
 obtain ⟨f0, f1, f2, f3, ff⟩ := eH.out.cells
 go_wp2
 refine bodyPost_ret (eH.out.read Tryz.results85 rfl _ _ _ _) rfl ⟨ax 23 r ⟨#[]⟩, .slice none 0 0, rfl, ?_⟩
 first
 |clear k_0
  exact (eH.out.fin (P := fun T => T.eOk = true) (C := 2 * C + 100) (RW.leaf w _ 23 r ⟨#[]⟩) (aL (by omega) (by omega) (by decide)) (ny (by omega)) (by rw [bG]; show 0 ≤ _; omega)).more (by omega)
 |clear k_1
  exact (eH.out.fin (P := fun T => T.eOk = true) (C := 100) (RW.leaf w _ 23 r ⟨#[]⟩) (aL (by omega) (by omega) (by decide)) (ny (by omega)) (by rw [bG]; show 0 ≤ _; omega)).more (by omega)) : G := h
theorem bi8 (h : G := by
 skip
 go_wp2_with fail
 refine (NX.out _ _ (by omega) jI.out 6 (by omega)).mono ?_
 rintro e w3 ⟨r, hr, rfl, hs, hk⟩
 have gj := aa (jI.out.step hs hk)
 clear hs hk jI
 go_wp2_with fail
 refine (jr _ _).mono ?_
 rintro e w4 ⟨rfl, hb⟩
 have eH := aa (gj.out.calm hb)
 clear hb gj
 obtain ⟨f0, f1, f2, f3, ff⟩ := eH.out.cells
 go_wp2
 refine bodyPost_ret (eH.out.read Tryz.results85 rfl _ _ _ _) rfl ⟨ax 22 r ⟨#[]⟩, .slice none 0 0, rfl, ?_⟩
 first
 |clear k_0
  exact (eH.out.fin (P := fun T => T.eOk = true) (C := 2 * C + 100) (RW.leaf w _ 22 r ⟨#[]⟩) (aL (by omega) (by omega) (by decide)) (iJ (by omega)) (by rw [bG]; show 0 ≤ _; omega)).more (by omega)
 |clear k_1
  exact (eH.out.fin (P := fun T => T.eOk = true) (C := 100) (RW.leaf w _ 22 r ⟨#[]⟩) (aL (by omega) (by omega) (by decide)) (iJ (by omega)) (by rw [bG]; show 0 ≤ _; omega)).more (by omega)) : G := h
theorem bi9 (h : G := by
 have k_1 := kk
 exact Tv) : G := h
theorem Tw (h : G := by
 rintro e w5 ⟨T, uT, rfl, dT⟩
 obtain ⟨aT, cT, rfl⟩ := bc dT.row
 have dQ := aa (eH.out.step dT.src dT.kp)
 have RT := aa (RW.of_drawn eH.out dT)
 have FT := aa dT.fine
 have OT : Hid (T.eOk = true) := dT.ok
 have jC := dT.cost
 have me := Nd.fine_len dT.fine
 clear dT eH
 unfold Nd.val
 go_wp2_with fail
 first
 |clear k_0
  refine (JB.out _ _ (by omega) dQ.out).mono ?_
  exact bi3
 |clear k_1
  refine (EXB.out _ _ (by omega) dQ.out).mono ?_
  exact bi3) : G := h
theorem Tv (h : G := by
 rintro e w4 ⟨T, uT, rfl, dT⟩
 obtain ⟨aT, cT, rfl⟩ := bc dT.row
 have eH := aa (gj.out.step dT.src dT.kp)
 have RT := aa (RW.of_drawn gj.out dT)
 have FT := aa dT.fine
 have OT : Hid (T.eOk = true) := dT.ok
 have jC := dT.cost
 have me := Nd.fine_len dT.fine
 clear dT gj
 unfold Nd.val
 go_wp2_with fail
 first
 |clear k_0
  refine (JB.out _ _ (by omega) eH.out).mono ?_
  rintro e w5 ⟨U, uU, rfl, dU⟩
  obtain ⟨aU, cU, rfl⟩ := bc dU.row
  have dQ := aa (eH.out.step dU.src dU.kp)
  have RU := aa (RW.of_drawn eH.out dU)
  have FU := aa dU.fine
  have OU : Hid (U.eOk = true) := dU.ok
  have xn := dU.cost
  have Ef := Nd.fine_len dU.fine
  have vq := aa (RW.step RT.out eH.out dU.kp)
  clear RT
  have RT := vq
  clear vq
  clear dU eH
  unfold Nd.val
  go_wp2_with fail
  refine (lq _ _ _ _ _).mono ?_
  rintro e w6 ⟨rfl, hb⟩
  have eU := aa ((dQ.out.alloc (.cells #[.int .i64 T.kind, .int .i64 T.num, .string T.name, .slice aT T.len cT, .int .i64 U.kind, .int .i64 U.num, .string U.name, .slice aU U.len cU] 25)).calm hb)
  have RR := aa (RW.two dQ.out.size RT.out RU.out (hb.mono (by simp)) 25 0 ⟨#[97, 100, 100]⟩)
  clear hb dQ RT RU
  have bS : ByteArray.size ⟨#[97, 100, 100]⟩ = 3 := by decide
  obtain ⟨f0, f1, f2, f3, ff⟩ := eU.out.cells
  go_wp2
  refine bodyPost_ret (eU.out.read Tryz.results85 rfl _ _ _ _) rfl ⟨dZ 25 0 ⟨#[97, 100, 100]⟩ T U, .slice (some ⟨w5.heap.size, 0, none⟩) 2 2, rfl, ?_⟩
  exact (eU.out.fin (P := fun T => T.eOk = true) (C := 2 * C + 100) RR.out (e6 (by omega) (by omega) (by decide) FT.out FU.out) (nZ (by decide) OT.out OU.out) (by rw [e7]; omega)).more (by omega)
 |clear k_1
  refine (aJ _ _ _ _ _ _).mono ?_
  rintro e w5 ⟨rfl, hb⟩
  have dQ := aa ((eH.out.alloc (nO T (.slice aT T.len cT))).calm hb)
  first
  |clear k_0
   have RR := aa (RW.one eH.out.size RT.out (hb.mono (by simp)) 27 0 ⟨#[33]⟩)
   clear hb eH RT
   have bS : ByteArray.size ⟨#[33]⟩ ≤ 1 := by decide
   obtain ⟨f0, f1, f2, f3, ff⟩ := dQ.out.cells
   go_wp2
   refine bodyPost_ret (dQ.out.read Tryz.results85 rfl _ _ _ _) rfl ⟨b8 27 0 ⟨#[33]⟩ T, .slice (some ⟨w4.heap.size, 0, none⟩) 1 1, rfl, ?_⟩
   exact (dQ.out.fin (P := fun T => T.eOk = true) (C := 2 * C + 100) RR.out (bR (by omega) (by omega) (by decide) FT.out) (IG OT.out) (by rw [cy]; omega)).more (by omega)
  |clear k_1
   have RR := aa (RW.one eH.out.size RT.out (hb.mono (by simp)) 27 0 ⟨#[45]⟩)
   clear hb eH RT
   have bS : ByteArray.size ⟨#[45]⟩ ≤ 1 := by decide
   obtain ⟨f0, f1, f2, f3, ff⟩ := dQ.out.cells
   go_wp2
   refine bodyPost_ret (dQ.out.read Tryz.results85 rfl _ _ _ _) rfl ⟨b8 27 0 ⟨#[45]⟩ T, .slice (some ⟨w4.heap.size, 0, none⟩) 1 1, rfl, ?_⟩
   exact (dQ.out.fin (P := fun T => T.eOk = true) (C := 2 * C + 100) RR.out (bR (by omega) (by omega) (by decide) FT.out) (IH OT.out) (by rw [cy]; omega)).more (by omega)) : G := h
theorem Tu (h : G := by
 rintro e w1 ⟨s, ok, dc, rfl, az, iI⟩
 have mr := aa (HD.out.step az iI)
 have BT := aa dc
 clear az iI HD dc
 go_wp2_with fail
 refine (CH.out _ _ (by omega) mr.out 3 (by omega)).mono ?_
 rintro e w2 ⟨t, rfl, hs, hk⟩
 have jI := aa (mr.out.step hs hk)
 clear hs hk mr
 cases t
 first
 |clear k_0
  ·skip
   go_wp2_with fail
   refine (NX.out _ _ (by omega) jI.out 5 (by omega)).mono ?_
   rintro e w3 ⟨r, hr, rfl, hs, hk⟩
   have gj := aa (jI.out.step hs hk)
   clear hs hk jI
   rcases (by omega : r = 0 ∨ r = 1 ∨ 2 ≤ r) with rfl | rfl | hge
   ·skip
    go_wp2_with fail
    refine (EXB.out _ _ (by omega) gj.out).mono ?_
    have k_0 := kk
    exact bi9
   ·skip
    go_wp2_with fail
    refine (iR xV sb _ w3.heap.size 0 4 4 _ (by omega) (by omega) (by omega) (by have := gj.out.src.lt; omega) (gj.out.alloc _).src (iQ xV w3 [⟨#[38, 38]⟩, ⟨#[124, 124]⟩, ⟨#[61, 61]⟩, ⟨#[33, 61]⟩] 9 (by intro s hs; simp only [List.mem_cons, List.not_mem_nil, or_false] at hs; unfold xV; rcases hs with rfl | rfl | rfl | rfl <;> decide))).mono ?_
    rintro e w4 ⟨sg, js, rfl, hs, hk⟩
    have eH := aa ((gj.out.alloc _).step hs hk)
    have oX := aa js.1
    have bS := js.2
    clear hs hk gj js
    go_wp2_with fail
    refine (EXB.out _ _ (by omega) eH.out).mono ?_
    have k_1 := kk
    exact Tw
   ·have Ms : ¬ (r : Int) = 0 := by omega
    have uN : ¬ (r : Int) = 1 := by omega
    skip
    go_wp2_with fail
    refine (iR xV sb _ w3.heap.size 0 6 6 _ (by omega) (by omega) (by omega) (by have := gj.out.src.lt; omega) (gj.out.alloc _).src (iQ xV w3 [⟨#[60]⟩, ⟨#[60, 61]⟩, ⟨#[62]⟩, ⟨#[62, 61]⟩, ⟨#[61, 61]⟩, ⟨#[33, 61]⟩] 9 (by intro s hs; simp only [List.mem_cons, List.not_mem_nil, or_false] at hs; unfold xV; rcases hs with rfl | rfl | rfl | rfl | rfl | rfl <;> decide))).mono ?_
    exact bi0
  ·skip
   cases ok
   ·have k_0 := kk
    exact bi7
   ·have k_0 := kk
    exact Tp
 |clear k_1
  ·skip
   go_wp2_with fail
   refine (NX.out _ _ (by omega) jI.out 8 (by omega)).mono ?_
   rintro e w3 ⟨r, hr, rfl, hs, hk⟩
   have gj := aa (jI.out.step hs hk)
   clear hs hk jI
   rcases (by omega : r = 0 ∨ r = 1 ∨ r = 2 ∨ 3 ≤ r) with rfl | rfl | rfl | hge
   ·skip
    go_wp2_with fail
    refine (JB.out _ _ (by omega) gj.out).mono ?_
    have k_1 := kk
    exact bi9
   ·skip
    go_wp2_with fail
    refine (JB.out _ _ (by omega) gj.out).mono ?_
    have k_0 := kk
    exact Tv
   ·skip
    go_wp2_with fail
    refine (PV.out 3 _ _ (by omega) gj.out).mono ?_
    rintro e w4 ⟨s2, there, dc, rfl, hs, hk⟩
    have eH := aa (gj.out.step hs hk)
    have HNM3 := aa dc
    clear hs hk gj dc
    cases there
    ·skip
     go_wp2_with fail
     refine (iR xV sb _ w4.heap.size 0 7 7 _ (by omega) (by omega) (by omega) (by have := eH.out.src.lt; omega) (eH.out.alloc _).src (iQ xV w4 [⟨#[43]⟩, ⟨#[45]⟩, ⟨#[42]⟩, ⟨#[47]⟩, ⟨#[37]⟩, ⟨#[43]⟩, ⟨#[45]⟩] 9 (by intro s hs; simp only [List.mem_cons, List.not_mem_nil, or_false] at hs; unfold xV; rcases hs with rfl | rfl | rfl | rfl | rfl | rfl | rfl <;> decide))).mono ?_
     rintro e w5 ⟨sg, js, rfl, hs, hk⟩
     have dQ := aa ((eH.out.alloc _).step hs hk)
     have oX := aa js.1
     have bS := js.2
     clear hs hk eH js
     go_wp2_with fail
     refine (JB.out _ _ (by omega) dQ.out).mono ?_
     rintro e w6 ⟨T, uT, rfl, dT⟩
     obtain ⟨aT, cT, rfl⟩ := bc dT.row
     have eU := aa (dQ.out.step dT.src dT.kp)
     have RT := aa (RW.of_drawn dQ.out dT)
     have FT := aa dT.fine
     have OT : Hid (T.eOk = true) := dT.ok
     have jC := dT.cost
     have me := Nd.fine_len dT.fine
     clear dT dQ
     unfold Nd.val
     go_wp2_with fail
     refine (JB.out _ _ (by omega) eU.out).mono ?_
     rintro e w7 ⟨U, uU, rfl, dU⟩
     obtain ⟨aU, cU, rfl⟩ := bc dU.row
     have hZ := aa (eU.out.step dU.src dU.kp)
     have RU := aa (RW.of_drawn eU.out dU)
     have FU := aa dU.fine
     have OU : Hid (U.eOk = true) := dU.ok
     have xn := dU.cost
     have Ef := Nd.fine_len dU.fine
     have vq := aa (RW.step RT.out eU.out dU.kp)
     clear RT
     have RT := vq
     clear vq
     clear dU eU
     unfold Nd.val
     go_wp2_with fail
     refine (aJ _ _ _ _ _ _).mono ?_
     rintro e w8 ⟨rfl, hb⟩
     have ot := aa ((hZ.out.alloc (.cells #[.int .i64 T.kind, .int .i64 T.num, .string T.name, .slice aT T.len cT, .int .i64 U.kind, .int .i64 U.num, .string U.name, .slice aU U.len cU] 25)).calm hb)
     have RR := aa (RW.two hZ.out.size RT.out RU.out (hb.mono (by simp)) 28 0 sg)
     clear hb hZ RT RU
     obtain ⟨f0, f1, f2, f3, ff⟩ := ot.out.cells
     go_wp2
     refine bodyPost_ret (ot.out.read Tryz.results85 rfl _ _ _ _) rfl ⟨dZ 28 0 sg T U, .slice (some ⟨w7.heap.size, 0, none⟩) 2 2, rfl, ?_⟩
     exact (ot.out.fin (P := fun T => T.eOk = true) (C := 2 * C + 100) RR.out (e6 (by omega) (by omega) (by omega) FT.out FU.out) (nA oX.out OT.out OU.out) (by rw [e7]; omega)).more (by omega)
    ·skip
     go_wp2_with fail
     refine (CH.out _ _ (by omega) eH.out 2 (by omega)).mono ?_
     rintro e w5 ⟨t, rfl, hs, hk⟩
     have dQ := aa (eH.out.step hs hk)
     clear hs hk eH
     cases t
     ·skip
      go_wp2_with fail
      refine (iR xV sb _ w5.heap.size 0 7 7 _ (by omega) (by omega) (by omega) (by have := dQ.out.src.lt; omega) (dQ.out.alloc _).src (iQ xV w5 [⟨#[43]⟩, ⟨#[45]⟩, ⟨#[42]⟩, ⟨#[47]⟩, ⟨#[37]⟩, ⟨#[43]⟩, ⟨#[45]⟩] 9 (by intro s hs; simp only [List.mem_cons, List.not_mem_nil, or_false] at hs; unfold xV; rcases hs with rfl | rfl | rfl | rfl | rfl | rfl | rfl <;> decide))).mono ?_
      rintro e w6 ⟨sg, js, rfl, hs, hk⟩
      have eU := aa ((dQ.out.alloc _).step hs hk)
      have oX := aa js.1
      have bS := js.2
      clear hs hk dQ js
      go_wp2_with fail
      refine (JB.out _ _ (by omega) eU.out).mono ?_
      rintro e w7 ⟨T, uT, rfl, dT⟩
      obtain ⟨aT, cT, rfl⟩ := bc dT.row
      have hZ := aa (eU.out.step dT.src dT.kp)
      have RT := aa (RW.of_drawn eU.out dT)
      have FT := aa dT.fine
      have OT : Hid (T.eOk = true) := dT.ok
      have jC := dT.cost
      have me := Nd.fine_len dT.fine
      clear dT eU
      unfold Nd.val
      go_wp2_with fail
      refine (JB.out _ _ (by omega) hZ.out).mono ?_
      rintro e w8 ⟨U, uU, rfl, dU⟩
      obtain ⟨aU, cU, rfl⟩ := bc dU.row
      have ot := aa (hZ.out.step dU.src dU.kp)
      have RU := aa (RW.of_drawn hZ.out dU)
      have FU := aa dU.fine
      have OU : Hid (U.eOk = true) := dU.ok
      have xn := dU.cost
      have Ef := Nd.fine_len dU.fine
      have vq := aa (RW.step RT.out hZ.out dU.kp)
      clear RT
      have RT := vq
      clear vq
      clear dU hZ
      unfold Nd.val
      go_wp2_with fail
      refine (aJ _ _ _ _ _ _).mono ?_
      rintro e w9 ⟨rfl, hb⟩
      have yh := aa ((ot.out.alloc (.cells #[.int .i64 T.kind, .int .i64 T.num, .string T.name, .slice aT T.len cT, .int .i64 U.kind, .int .i64 U.num, .string U.name, .slice aU U.len cU] 25)).calm hb)
      have RR := aa (RW.two ot.out.size RT.out RU.out (hb.mono (by simp)) 28 0 sg)
      clear hb ot RT RU
      obtain ⟨f0, f1, f2, f3, ff⟩ := yh.out.cells
      go_wp2
      refine bodyPost_ret (yh.out.read Tryz.results85 rfl _ _ _ _) rfl ⟨dZ 28 0 sg T U, .slice (some ⟨w8.heap.size, 0, none⟩) 2 2, rfl, ?_⟩
      exact (yh.out.fin (P := fun T => T.eOk = true) (C := 2 * C + 100) RR.out (e6 (by omega) (by omega) (by omega) FT.out FU.out) (nA oX.out OT.out OU.out) (by rw [e7]; omega)).more (by omega)
     ·skip
      go_wp2_with fail
      refine (aJ _ _ _ _ _ _).mono ?_
      rintro e w6 ⟨rfl, hb⟩
      have eU := aa (dQ.out.calm hb)
      clear hb dQ
      go_wp2_with fail
      refine (aJ _ _ _ _ _ _).mono ?_
      rintro e w7 ⟨rfl, hb⟩
      have hZ := aa ((eU.out.alloc (.cells #[.int .i64 24, .int .i64 0, .string s2, .slice none 0 0] 25)).calm hb)
      have RR := aa (RW.one (A := ax 24 0 s2) eU.out.size (RW.leaf w _ 24 0 s2) (hb.mono (by simp)) 29 0 ⟨#[]⟩)
      have dc := HNM3.out (by trivial)
      have uL := ei dc
      have HNM4 := aa dc
      clear hb eU dc
      have bS : ByteArray.size ⟨#[]⟩ ≤ 1 := by decide
      obtain ⟨f0, f1, f2, f3, ff⟩ := hZ.out.cells
      go_wp2
      refine bodyPost_ret (hZ.out.read Tryz.results85 rfl _ _ _ _) rfl ⟨b8 29 0 ⟨#[]⟩ (ax 24 0 s2), .slice (some ⟨w6.heap.size, 0, none⟩) 1 1, rfl, ?_⟩
      exact (hZ.out.fin (P := fun T => T.eOk = true) (C := 2 * C + 100) RR.out (bR (by omega) (by omega) (by decide) (aL (by omega) (by omega) (by omega))) (vd (gz HNM4.out)) (by rw [cy, bG]; omega)).more (by omega)
   ·have Ms : ¬ (r : Int) = 0 := by omega
    have uN : ¬ (r : Int) = 1 := by omega
    have vD : ¬ (r : Int) = 2 := by omega
    skip
    go_wp2_with fail
    refine (iR xV sb _ w3.heap.size 0 7 7 _ (by omega) (by omega) (by omega) (by have := gj.out.src.lt; omega) (gj.out.alloc _).src (iQ xV w3 [⟨#[43]⟩, ⟨#[45]⟩, ⟨#[42]⟩, ⟨#[47]⟩, ⟨#[37]⟩, ⟨#[43]⟩, ⟨#[45]⟩] 9 (by intro s hs; simp only [List.mem_cons, List.not_mem_nil, or_false] at hs; unfold xV; rcases hs with rfl | rfl | rfl | rfl | rfl | rfl | rfl <;> decide))).mono ?_
    exact bi0
  ·skip
   cases ok
   ·have k_0 := kk
    exact bi8
   ·have k_1 := kk
    exact Tp) : G := h
theorem Tt (h : G := by
 have hle : ¬ deep ≤ 0 := by omega
 have DQ : IntKind.i64.wrap (deep - 1) = deep - 1 := fM (by omega) (by omega)
 unfold eF at *
 clear h hs iY
 go_enter Tryz.func85, Tryz.ntmps85
 go_wp2_with fail
 first
 |clear k_0
  refine (PV.out 2 _ _ (by omega) HD.out).mono ?_
  have k_0 := kk
  exact Tu
 |clear k_1
  refine (PV.out 1 _ _ (by omega) HD.out).mono ?_
  have k_1 := kk
  exact Tu) : G := h
theorem Tq (h : G := by
 skip
 go_wp2_with fail
 refine (CH.out _ _ (by omega) mr.out 3 (by omega)).mono ?_
 rintro e w2 ⟨t, rfl, hs, hk⟩
 have jI := aa (mr.out.step hs hk)
 clear hs hk mr
 cases t
 ·exact bi2
 first
 |clear k_0
  ·have k_1 := kk
   exact bi8
 |clear k_1
  ·have k_1 := kk
   exact bi7) : G := h
theorem Tp (h : G := by
 skip
 go_wp2_with fail
 refine (CH.out _ _ (by omega) jI.out 3 (by omega)).mono ?_
 rintro e w3 ⟨t, rfl, hs, hk⟩
 have gj := aa (jI.out.step hs hk)
 clear hs hk jI
 cases t
 ·exact bi1
 first
 |clear k_0
  ·skip
   go_wp2_with fail
   refine (NX.out _ _ (by omega) gj.out 2 (by omega)).mono ?_
   rintro e w4 ⟨r, hr, rfl, hs, hk⟩
   have eH := aa (gj.out.step hs hk)
   clear hs hk gj
   go_wp2_with fail
   refine (bZ _ _ _ _ _ _ _).mono ?_
   rintro e w5 ⟨rfl, hb⟩
   have dQ := aa (eH.out.calm hb)
   clear hb eH
   obtain ⟨f0, f1, f2, f3, ff⟩ := dQ.out.cells
   go_wp2
   refine bodyPost_ret (dQ.out.read Tryz.results85 rfl _ _ _ _) rfl ⟨ax 23 r ⟨#[]⟩, .slice none 0 0, rfl, ?_⟩
   exact (dQ.out.fin (P := fun T => T.eOk = true) (C := 2 * C + 100) (RW.leaf w _ 23 r ⟨#[]⟩) (aL (by omega) (by omega) (by decide)) (ny (by omega)) (by rw [bG]; show 0 ≤ _; omega)).more (by omega)
 |clear k_1
  ·skip
   go_wp2_with fail
   refine (NX.out _ _ (by omega) gj.out 6 (by omega)).mono ?_
   rintro e w4 ⟨r, hr, rfl, hs, hk⟩
   have eH := aa (gj.out.step hs hk)
   clear hs hk gj
   go_wp2_with fail
   refine (jr _ _).mono ?_
   rintro e w5 ⟨rfl, hb⟩
   have dQ := aa (eH.out.calm hb)
   clear hb eH
   obtain ⟨f0, f1, f2, f3, ff⟩ := dQ.out.cells
   go_wp2
   refine bodyPost_ret (dQ.out.read Tryz.results85 rfl _ _ _ _) rfl ⟨ax 22 r ⟨#[]⟩, .slice none 0 0, rfl, ?_⟩
   exact (dQ.out.fin (P := fun T => T.eOk = true) (C := 2 * C + 100) (RW.leaf w _ 22 r ⟨#[]⟩) (aL (by omega) (by omega) (by decide)) (iJ (by omega)) (by rw [bG]; show 0 ≤ _; omega)).more (by omega)) : G := h
theorem nw : EXC 1 0 100 100 := by
 have k_0 := kk
 exact bi5
theorem IB : EXC 2 0 100 100 := by
 have k_1 := kk
 exact bi5
theorem za (deep : Int) (C K : Nat) (h0 : 0 < deep) (h9 : deep ≤ 100) (hC : C ≤ 100000) (hK : K ≤ 100000) (IHI : EXC 1 (deep - 1) C K) (IHB : EXC 2 (deep - 1) C K) : EXC 2 deep (2 * C + 100) (2 * K + 100) := by
 have k_0 := kk
 exact bi4
theorem EF (deep : Int) (C K : Nat) (h0 : 0 < deep) (h9 : deep ≤ 100) (hC : C ≤ 100000) (hK : K ≤ 100000) (IHI : EXC 1 (deep - 1) C K) : EXC 1 deep (2 * C + 100) (2 * K + 100) := by
 have k_1 := kk
 exact bi4
end Go.Proofs.YteaocammohcgoaaGreatDoor
