import Derived.Test.YtkfbbdhidecefaaDoorUDB
set_option linter.unusedVariables false
set_option maxHeartbeats 16000000
set_option maxRecDepth 100000
namespace Go.Proofs.YtkfbbdhidecefaaDoor
open Go.RowKit
variable {G : Prop}
theorem bJ0 (h : G := by
 rintro e w4 ⟨sg, o7, rfl, hs, hk⟩
 have hH := aa ((lI.out.alloc _).step hs hk)
 have sU := aa o7.1
 have bP := o7.2
 clear hs hk lI o7
 go_wp2_with fail
 refine (LK.out _ _ (by omega) hH.out).mono ?_
 have k_J10_0 := kk
 exact VG) : G := h
theorem bJ1 (h : G := by
 skip
 go_wp2_with fail
 refine (ay _ _ _ _ _ _).mono ?_
 rintro e w4 ⟨rfl, hb⟩
 have hH := aa (lI.out.calm hb)
 clear hb lI
 have il := M8.out (by trivial)
 have Mq := gR il
 have Pz := aa il
 clear il
 obtain ⟨f0, f1, f2, f3, ff⟩ := hH.out.cells
 go_wp2
 refine bodyPost_ret (hH.out.read Tryd.results68 rfl _ _ _ _) rfl ⟨al 24 0 s, .slice none 0 0, rfl, ?_⟩
 exact (hH.out.fin (P := fun T => T.eOk = true) (C := 2 * C + 100) (RW.leaf w _ 24 0 s) (aC (by omega) (by omega) (by omega)) (lS Pz.out) (by rw [bw]; omega)).more (by omega)) : G := h
theorem bJ2 (h : G := by
 skip
 go_wp2_with fail
 refine (ay _ _ _ _ _ _).mono ?_
 rintro e w3 ⟨rfl, hb⟩
 have lI := aa (o6.out.calm hb)
 clear hb o6
 have il := M8.out (by trivial)
 have Mq := gR il
 have Pz := aa il
 clear il
 obtain ⟨f0, f1, f2, f3, ff⟩ := lI.out.cells
 go_wp2
 refine bodyPost_ret (lI.out.read Tryd.results68 rfl _ _ _ _) rfl ⟨al 24 0 s, .slice none 0 0, rfl, ?_⟩
 exact (lI.out.fin (P := fun T => T.eOk = true) (C := 100) (RW.leaf w _ 24 0 s) (aC (by omega) (by omega) (by omega)) (lS Pz.out) (by rw [bw]; omega)).more (by omega)) : G := h
theorem bJ3 (h : G := by
 rintro e w6 ⟨U, uU, rfl, dU⟩
 obtain ⟨aU, cU, rfl⟩ := aQ dU.row
 have ix := aa (gG.out.step dU.src dU.kp)
 have RU := aa (RW.of_drawn gG.out dU)
 have FU := aa dU.fine
 have OU : Hid (U.eOk = true) := dU.ok
 have Br := dU.cost
 have Hf := Nd.fine_len dU.fine
 have An := aa (RW.step RT.out gG.out dU.kp)
 clear RT
 have RT := An
 clear An
 clear dU gG
 unfold Nd.val
 go_wp2_with fail
 refine (ay _ _ _ _ _ _).mono ?_
 rintro e w7 ⟨rfl, hb⟩
 have mv := aa ((ix.out.alloc (.cells #[.int .i64 T.kind, .int .i64 T.num, .string T.name, .slice aT T.len cT, .int .i64 U.kind, .int .i64 U.num, .string U.name, .slice aU U.len cU] 27)).calm hb)
 have RR := aa (RW.two ix.out.size RT.out RU.out (hb.mono (by simp)) 28 0 sg)
 clear hb ix RT RU
 obtain ⟨f0, f1, f2, f3, ff⟩ := mv.out.cells
 go_wp2
 refine bodyPost_ret (mv.out.read Tryd.results68 rfl _ _ _ _) rfl ⟨gO 28 0 sg T U, .slice (some ⟨w6.heap.size, 0, none⟩) 2 2, rfl, ?_⟩
 exact (mv.out.fin (P := fun T => T.eOk = true) (C := 2 * C + 100) RR.out (iE (by omega) (by omega) (by omega) FT.out FU.out) (rT sU.out OT.out OU.out) (by rw [iF]; omega)).more (by omega)) : G := h
theorem bJ4 (h : G := by
 have k_J6_0 := kk
 exact bJ6) : G := h
theorem bJ5 (h : G := by
 have k_J6_1 := kk
 exact bJ6) : G := h
theorem bJ6 (h : G := by
 intro sb A n v w hA h hs
 have HD := aa (DW.start h)
 obtain ⟨va, vc, rfl, _⟩ := id hs
 have sL := bO w gZ
 have SC := aa (fun B W (hd : DW sb B w W) => (hs.keep (b7 sL _)).keep hd.kp)
 have PV := aa (fun (typ : Int) B W (hB : B + 3 ≤ 1099511627776) (hd : DW sb B w W) => pD sb B n typ (.slice va n vc) W hB hd.src (SC.out B W hd))
 have CH := aa (fun B W (hB : B + 3 ≤ 1099511627776) (hd : DW sb B w W) (k : Nat) (hk : k ≤ 100) => ri sb B k W hB (by omega) hd.src)
 have NX := aa (fun B W (hB : B + 3 ≤ 1099511627776) (hd : DW sb B w W) (k : Nat) (hk : k ≤ 100) => gv sb B k W hB (by omega) hd.src)
 first
 |clear k_J6_0
  have LK := aa (fun B W (hB : B + K ≤ 1099511627776) (hd : DW sb B w W) => IHI sb B n (.slice va n vc) W hB hd.src (SC.out B W hd))
  first
  |clear k_J4_0
   have EXB := aa (fun B W (hB : B + K ≤ 1099511627776) (hd : DW sb B w W) => IHB sb B n (.slice va n vc) W hB hd.src (SC.out B W hd))
   have k_J13_0 := kk
   exact VD
  |clear k_J4_1
   have k_J13_1 := kk
   exact VD
 |clear k_J6_1
  unfold gZ at *
  clear h hs sL
  go_enter Tryd.func68, Tryd.ntmps68
  go_wp2_with fail
  first
  |clear k_J5_0
   refine (PV.out 1 _ _ (by omega) HD.out).mono ?_
   rintro e w1 ⟨s, ok, il, rfl, aY, mP⟩
   have qD := aa (HD.out.step aY mP)
   have M8 := aa il
   clear aY mP HD il
   cases ok
   ·skip
    go_wp2_with fail
    refine (NX.out _ _ (by omega) qD.out 6 (by omega)).mono ?_
    rintro e w2 ⟨r, hr, rfl, hs, hk⟩
    have o6 := aa (qD.out.step hs hk)
    clear hs hk qD
    go_wp2_with fail
    refine (nQ _ _).mono ?_
    rintro e w3 ⟨rfl, hb⟩
    have lI := aa (o6.out.calm hb)
    clear hb o6
    obtain ⟨f0, f1, f2, f3, ff⟩ := lI.out.cells
    go_wp2
    refine bodyPost_ret (lI.out.read Tryd.results68 rfl _ _ _ _) rfl ⟨al 22 r ⟨#[]⟩, .slice none 0 0, rfl, ?_⟩
    exact (lI.out.fin (P := fun T => T.eOk = true) (C := 100) (RW.leaf w _ 22 r ⟨#[]⟩) (aC (by omega) (by omega) (by decide)) (mQ (by omega)) (by rw [bw]; show 0 ≤ _; omega)).more (by omega)
   ·have k_J14_0 := kk
    exact VC
  |clear k_J5_1
   refine (PV.out 2 _ _ (by omega) HD.out).mono ?_
   rintro e w1 ⟨s, ok, il, rfl, aY, mP⟩
   have qD := aa (HD.out.step aY mP)
   have M8 := aa il
   clear aY mP HD il
   cases ok
   ·skip
    go_wp2_with fail
    refine (NX.out _ _ (by omega) qD.out 2 (by omega)).mono ?_
    rintro e w2 ⟨r, hr, rfl, hs, hk⟩
    have o6 := aa (qD.out.step hs hk)
    clear hs hk qD
    go_wp2_with fail
    refine (bM _ _ _ _ _ _ _).mono ?_
    rintro e w3 ⟨rfl, hb⟩
    have lI := aa (o6.out.calm hb)
    clear hb o6
    obtain ⟨f0, f1, f2, f3, ff⟩ := lI.out.cells
    go_wp2
    refine bodyPost_ret (lI.out.read Tryd.results68 rfl _ _ _ _) rfl ⟨al 23 r ⟨#[]⟩, .slice none 0 0, rfl, ?_⟩
    exact (lI.out.fin (P := fun T => T.eOk = true) (C := 100) (RW.leaf w _ 23 r ⟨#[]⟩) (aC (by omega) (by omega) (by decide)) (rS (by omega)) (by rw [bw]; show 0 ≤ _; omega)).more (by omega)
   ·have k_J14_1 := kk
    exact VC) : G := h
theorem bJ7 (h : G := by
 skip
 go_wp2_with fail
 refine (NX.out _ _ (by omega) o6.out 2 (by omega)).mono ?_
 rintro e w3 ⟨r, hr, rfl, hs, hk⟩
 have lI := aa (o6.out.step hs hk)
 clear hs hk o6
 go_wp2_with fail
 refine (bM _ _ _ _ _ _ _).mono ?_
 rintro e w4 ⟨rfl, hb⟩
 have hH := aa (lI.out.calm hb)
 clear hb lI
 obtain ⟨f0, f1, f2, f3, ff⟩ := hH.out.cells
 go_wp2
 refine bodyPost_ret (hH.out.read Tryd.results68 rfl _ _ _ _) rfl ⟨al 23 r ⟨#[]⟩, .slice none 0 0, rfl, ?_⟩
 first
 |clear k_J7_0
  exact (hH.out.fin (P := fun T => T.eOk = true) (C := 2 * C + 100) (RW.leaf w _ 23 r ⟨#[]⟩) (aC (by omega) (by omega) (by decide)) (rS (by omega)) (by rw [bw]; show 0 ≤ _; omega)).more (by omega)
 |clear k_J7_1
  exact (hH.out.fin (P := fun T => T.eOk = true) (C := 100) (RW.leaf w _ 23 r ⟨#[]⟩) (aC (by omega) (by omega) (by decide)) (rS (by omega)) (by rw [bw]; show 0 ≤ _; omega)).more (by omega)) : G := h
theorem bJ8 (h : G := by
 skip
 go_wp2_with fail
 refine (NX.out _ _ (by omega) o6.out 6 (by omega)).mono ?_
 rintro e w3 ⟨r, hr, rfl, hs, hk⟩
 have lI := aa (o6.out.step hs hk)
 clear hs hk o6
 go_wp2_with fail
 refine (nQ _ _).mono ?_
 rintro e w4 ⟨rfl, hb⟩
 have hH := aa (lI.out.calm hb)
 clear hb lI
 obtain ⟨f0, f1, f2, f3, ff⟩ := hH.out.cells
 go_wp2
 refine bodyPost_ret (hH.out.read Tryd.results68 rfl _ _ _ _) rfl ⟨al 22 r ⟨#[]⟩, .slice none 0 0, rfl, ?_⟩
 first
 |clear k_J8_0
  exact (hH.out.fin (P := fun T => T.eOk = true) (C := 2 * C + 100) (RW.leaf w _ 22 r ⟨#[]⟩) (aC (by omega) (by omega) (by decide)) (mQ (by omega)) (by rw [bw]; show 0 ≤ _; omega)).more (by omega)
 |clear k_J8_1
  exact (hH.out.fin (P := fun T => T.eOk = true) (C := 100) (RW.leaf w _ 22 r ⟨#[]⟩) (aC (by omega) (by omega) (by decide)) (mQ (by omega)) (by rw [bw]; show 0 ≤ _; omega)).more (by omega)) : G := h
theorem bJ9 (h : G := by
 have k_J11_1 := kk
 exact VF) : G := h
theorem VG (h : G := by
 rintro e w5 ⟨T, uT, rfl, dT⟩
 obtain ⟨aT, cT, rfl⟩ := aQ dT.row
 have gG := aa (hH.out.step dT.src dT.kp)
 have RT := aa (RW.of_drawn hH.out dT)
 have FT := aa dT.fine
 have OT : Hid (T.eOk = true) := dT.ok
 have nX := dT.cost
 have qv := Nd.fine_len dT.fine
 clear dT hH
 unfold Nd.val
 go_wp2_with fail
 first
 |clear k_J10_0
  refine (LK.out _ _ (by omega) gG.out).mono ?_
  exact bJ3
 |clear k_J10_1
  refine (EXB.out _ _ (by omega) gG.out).mono ?_
  exact bJ3) : G := h
theorem VF (h : G := by
 rintro e w4 ⟨T, uT, rfl, dT⟩
 obtain ⟨aT, cT, rfl⟩ := aQ dT.row
 have hH := aa (lI.out.step dT.src dT.kp)
 have RT := aa (RW.of_drawn lI.out dT)
 have FT := aa dT.fine
 have OT : Hid (T.eOk = true) := dT.ok
 have nX := dT.cost
 have qv := Nd.fine_len dT.fine
 clear dT lI
 unfold Nd.val
 go_wp2_with fail
 first
 |clear k_J11_0
  refine (LK.out _ _ (by omega) hH.out).mono ?_
  rintro e w5 ⟨U, uU, rfl, dU⟩
  obtain ⟨aU, cU, rfl⟩ := aQ dU.row
  have gG := aa (hH.out.step dU.src dU.kp)
  have RU := aa (RW.of_drawn hH.out dU)
  have FU := aa dU.fine
  have OU : Hid (U.eOk = true) := dU.ok
  have Br := dU.cost
  have Hf := Nd.fine_len dU.fine
  have An := aa (RW.step RT.out hH.out dU.kp)
  clear RT
  have RT := An
  clear An
  clear dU hH
  unfold Nd.val
  go_wp2_with fail
  refine (pP _ _ _ _ _).mono ?_
  rintro e w6 ⟨rfl, hb⟩
  have ix := aa ((gG.out.alloc (.cells #[.int .i64 T.kind, .int .i64 T.num, .string T.name, .slice aT T.len cT, .int .i64 U.kind, .int .i64 U.num, .string U.name, .slice aU U.len cU] 27)).calm hb)
  have RR := aa (RW.two gG.out.size RT.out RU.out (hb.mono (by simp)) 25 0 ⟨#[97, 100, 100]⟩)
  clear hb gG RT RU
  have bP : ByteArray.size ⟨#[97, 100, 100]⟩ = 3 := by decide
  obtain ⟨f0, f1, f2, f3, ff⟩ := ix.out.cells
  go_wp2
  refine bodyPost_ret (ix.out.read Tryd.results68 rfl _ _ _ _) rfl ⟨gO 25 0 ⟨#[97, 100, 100]⟩ T U, .slice (some ⟨w5.heap.size, 0, none⟩) 2 2, rfl, ?_⟩
  exact (ix.out.fin (P := fun T => T.eOk = true) (C := 2 * C + 100) RR.out (iE (by omega) (by omega) (by decide) FT.out FU.out) (sP (by decide) OT.out OU.out) (by rw [iF]; omega)).more (by omega)
 |clear k_J11_1
  refine (ay _ _ _ _ _ _).mono ?_
  rintro e w5 ⟨rfl, hb⟩
  have gG := aa ((hH.out.alloc (nO T (.slice aT T.len cT))).calm hb)
  first
  |clear k_J9_0
   have RR := aa (RW.one hH.out.size RT.out (hb.mono (by simp)) 27 0 ⟨#[33]⟩)
   clear hb hH RT
   have bP : ByteArray.size ⟨#[33]⟩ ≤ 1 := by decide
   obtain ⟨f0, f1, f2, f3, ff⟩ := gG.out.cells
   go_wp2
   refine bodyPost_ret (gG.out.read Tryd.results68 rfl _ _ _ _) rfl ⟨cm 27 0 ⟨#[33]⟩ T, .slice (some ⟨w4.heap.size, 0, none⟩) 1 1, rfl, ?_⟩
   exact (gG.out.fin (P := fun T => T.eOk = true) (C := 2 * C + 100) RR.out (bF (by omega) (by omega) (by decide) FT.out) (La OT.out) (by rw [cH]; omega)).more (by omega)
  |clear k_J9_1
   have RR := aa (RW.one hH.out.size RT.out (hb.mono (by simp)) 27 0 ⟨#[45]⟩)
   clear hb hH RT
   have bP : ByteArray.size ⟨#[45]⟩ ≤ 1 := by decide
   obtain ⟨f0, f1, f2, f3, ff⟩ := gG.out.cells
   go_wp2
   refine bodyPost_ret (gG.out.read Tryd.results68 rfl _ _ _ _) rfl ⟨cm 27 0 ⟨#[45]⟩ T, .slice (some ⟨w4.heap.size, 0, none⟩) 1 1, rfl, ?_⟩
   exact (gG.out.fin (P := fun T => T.eOk = true) (C := 2 * C + 100) RR.out (bF (by omega) (by omega) (by decide) FT.out) (Lb OT.out) (by rw [cH]; omega)).more (by omega)) : G := h
theorem VE (h : G := by
 rintro e w1 ⟨s, ok, il, rfl, aY, mP⟩
 have qD := aa (HD.out.step aY mP)
 have M8 := aa il
 clear aY mP HD il
 go_wp2_with fail
 refine (CH.out _ _ (by omega) qD.out 3 (by omega)).mono ?_
 rintro e w2 ⟨t, rfl, hs, hk⟩
 have o6 := aa (qD.out.step hs hk)
 clear hs hk qD
 cases t
 first
 |clear k_J12_0
  ·skip
   go_wp2_with fail
   refine (NX.out _ _ (by omega) o6.out 5 (by omega)).mono ?_
   rintro e w3 ⟨r, hr, rfl, hs, hk⟩
   have lI := aa (o6.out.step hs hk)
   clear hs hk o6
   rcases (by omega : r = 0 ∨ r = 1 ∨ 2 ≤ r) with rfl | rfl | hge
   ·skip
    go_wp2_with fail
    refine (EXB.out _ _ (by omega) lI.out).mono ?_
    have k_J9_0 := kk
    exact bJ9
   ·skip
    go_wp2_with fail
    refine (np BU sb _ w3.heap.size 0 4 4 _ (by omega) (by omega) (by omega) (by have := lI.out.src.lt; omega) (lI.out.alloc _).src (nk BU w3 [⟨#[38, 38]⟩, ⟨#[124, 124]⟩, ⟨#[61, 61]⟩, ⟨#[33, 61]⟩] 9 (by intro s hs; simp only [List.mem_cons, List.not_mem_nil, or_false] at hs; unfold BU; rcases hs with rfl | rfl | rfl | rfl <;> decide))).mono ?_
    rintro e w4 ⟨sg, o7, rfl, hs, hk⟩
    have hH := aa ((lI.out.alloc _).step hs hk)
    have sU := aa o7.1
    have bP := o7.2
    clear hs hk lI o7
    go_wp2_with fail
    refine (EXB.out _ _ (by omega) hH.out).mono ?_
    have k_J10_1 := kk
    exact VG
   ·have Ku : ¬ (r : Int) = 0 := by omega
    have zI : ¬ (r : Int) = 1 := by omega
    skip
    go_wp2_with fail
    refine (np BU sb _ w3.heap.size 0 6 6 _ (by omega) (by omega) (by omega) (by have := lI.out.src.lt; omega) (lI.out.alloc _).src (nk BU w3 [⟨#[60]⟩, ⟨#[60, 61]⟩, ⟨#[62]⟩, ⟨#[62, 61]⟩, ⟨#[61, 61]⟩, ⟨#[33, 61]⟩] 9 (by intro s hs; simp only [List.mem_cons, List.not_mem_nil, or_false] at hs; unfold BU; rcases hs with rfl | rfl | rfl | rfl | rfl | rfl <;> decide))).mono ?_
    exact bJ0
  ·skip
   cases ok
   ·have k_J7_0 := kk
    exact bJ7
   ·have k_J15_0 := kk
    exact VB
 |clear k_J12_1
  ·skip
   go_wp2_with fail
   refine (NX.out _ _ (by omega) o6.out 8 (by omega)).mono ?_
   rintro e w3 ⟨r, hr, rfl, hs, hk⟩
   have lI := aa (o6.out.step hs hk)
   clear hs hk o6
   rcases (by omega : r = 0 ∨ r = 1 ∨ r = 2 ∨ 3 ≤ r) with rfl | rfl | rfl | hge
   ·skip
    go_wp2_with fail
    refine (LK.out _ _ (by omega) lI.out).mono ?_
    have k_J9_1 := kk
    exact bJ9
   ·skip
    go_wp2_with fail
    refine (LK.out _ _ (by omega) lI.out).mono ?_
    have k_J11_0 := kk
    exact VF
   ·skip
    go_wp2_with fail
    refine (PV.out 3 _ _ (by omega) lI.out).mono ?_
    rintro e w4 ⟨s2, there, il, rfl, hs, hk⟩
    have hH := aa (lI.out.step hs hk)
    have HNM3 := aa il
    clear hs hk lI il
    cases there
    ·skip
     go_wp2_with fail
     refine (np BU sb _ w4.heap.size 0 7 7 _ (by omega) (by omega) (by omega) (by have := hH.out.src.lt; omega) (hH.out.alloc _).src (nk BU w4 [⟨#[43]⟩, ⟨#[45]⟩, ⟨#[42]⟩, ⟨#[47]⟩, ⟨#[37]⟩, ⟨#[43]⟩, ⟨#[45]⟩] 9 (by intro s hs; simp only [List.mem_cons, List.not_mem_nil, or_false] at hs; unfold BU; rcases hs with rfl | rfl | rfl | rfl | rfl | rfl | rfl <;> decide))).mono ?_
     rintro e w5 ⟨sg, o7, rfl, hs, hk⟩
     have gG := aa ((hH.out.alloc _).step hs hk)
     have sU := aa o7.1
     have bP := o7.2
     clear hs hk hH o7
     go_wp2_with fail
     refine (LK.out _ _ (by omega) gG.out).mono ?_
     rintro e w6 ⟨T, uT, rfl, dT⟩
     obtain ⟨aT, cT, rfl⟩ := aQ dT.row
     have ix := aa (gG.out.step dT.src dT.kp)
     have RT := aa (RW.of_drawn gG.out dT)
     have FT := aa dT.fine
     have OT : Hid (T.eOk = true) := dT.ok
     have nX := dT.cost
     have qv := Nd.fine_len dT.fine
     clear dT gG
     unfold Nd.val
     go_wp2_with fail
     refine (LK.out _ _ (by omega) ix.out).mono ?_
     rintro e w7 ⟨U, uU, rfl, dU⟩
     obtain ⟨aU, cU, rfl⟩ := aQ dU.row
     have mv := aa (ix.out.step dU.src dU.kp)
     have RU := aa (RW.of_drawn ix.out dU)
     have FU := aa dU.fine
     have OU : Hid (U.eOk = true) := dU.ok
     have Br := dU.cost
     have Hf := Nd.fine_len dU.fine
     have An := aa (RW.step RT.out ix.out dU.kp)
     clear RT
     have RT := An
     clear An
     clear dU ix
     unfold Nd.val
     go_wp2_with fail
     refine (ay _ _ _ _ _ _).mono ?_
     rintro e w8 ⟨rfl, hb⟩
     have sW := aa ((mv.out.alloc (.cells #[.int .i64 T.kind, .int .i64 T.num, .string T.name, .slice aT T.len cT, .int .i64 U.kind, .int .i64 U.num, .string U.name, .slice aU U.len cU] 27)).calm hb)
     have RR := aa (RW.two mv.out.size RT.out RU.out (hb.mono (by simp)) 28 0 sg)
     clear hb mv RT RU
     obtain ⟨f0, f1, f2, f3, ff⟩ := sW.out.cells
     go_wp2
     refine bodyPost_ret (sW.out.read Tryd.results68 rfl _ _ _ _) rfl ⟨gO 28 0 sg T U, .slice (some ⟨w7.heap.size, 0, none⟩) 2 2, rfl, ?_⟩
     exact (sW.out.fin (P := fun T => T.eOk = true) (C := 2 * C + 100) RR.out (iE (by omega) (by omega) (by omega) FT.out FU.out) (rT sU.out OT.out OU.out) (by rw [iF]; omega)).more (by omega)
    ·skip
     go_wp2_with fail
     refine (CH.out _ _ (by omega) hH.out 2 (by omega)).mono ?_
     rintro e w5 ⟨t, rfl, hs, hk⟩
     have gG := aa (hH.out.step hs hk)
     clear hs hk hH
     cases t
     ·skip
      go_wp2_with fail
      refine (np BU sb _ w5.heap.size 0 7 7 _ (by omega) (by omega) (by omega) (by have := gG.out.src.lt; omega) (gG.out.alloc _).src (nk BU w5 [⟨#[43]⟩, ⟨#[45]⟩, ⟨#[42]⟩, ⟨#[47]⟩, ⟨#[37]⟩, ⟨#[43]⟩, ⟨#[45]⟩] 9 (by intro s hs; simp only [List.mem_cons, List.not_mem_nil, or_false] at hs; unfold BU; rcases hs with rfl | rfl | rfl | rfl | rfl | rfl | rfl <;> decide))).mono ?_
      rintro e w6 ⟨sg, o7, rfl, hs, hk⟩
      have ix := aa ((gG.out.alloc _).step hs hk)
      have sU := aa o7.1
      have bP := o7.2
      clear hs hk gG o7
      go_wp2_with fail
      refine (LK.out _ _ (by omega) ix.out).mono ?_
      rintro e w7 ⟨T, uT, rfl, dT⟩
      obtain ⟨aT, cT, rfl⟩ := aQ dT.row
      have mv := aa (ix.out.step dT.src dT.kp)
      have RT := aa (RW.of_drawn ix.out dT)
      have FT := aa dT.fine
      have OT : Hid (T.eOk = true) := dT.ok
      have nX := dT.cost
      have qv := Nd.fine_len dT.fine
      clear dT ix
      unfold Nd.val
      go_wp2_with fail
      refine (LK.out _ _ (by omega) mv.out).mono ?_
      rintro e w8 ⟨U, uU, rfl, dU⟩
      obtain ⟨aU, cU, rfl⟩ := aQ dU.row
      have sW := aa (mv.out.step dU.src dU.kp)
      have RU := aa (RW.of_drawn mv.out dU)
      have FU := aa dU.fine
      have OU : Hid (U.eOk = true) := dU.ok
      have Br := dU.cost
      have Hf := Nd.fine_len dU.fine
      have An := aa (RW.step RT.out mv.out dU.kp)
      clear RT
      have RT := An
      clear An
      clear dU mv
      unfold Nd.val
      go_wp2_with fail
      refine (ay _ _ _ _ _ _).mono ?_
      rintro e w9 ⟨rfl, hb⟩
      have BY := aa ((sW.out.alloc (.cells #[.int .i64 T.kind, .int .i64 T.num, .string T.name, .slice aT T.len cT, .int .i64 U.kind, .int .i64 U.num, .string U.name, .slice aU U.len cU] 27)).calm hb)
      have RR := aa (RW.two sW.out.size RT.out RU.out (hb.mono (by simp)) 28 0 sg)
      clear hb sW RT RU
      obtain ⟨f0, f1, f2, f3, ff⟩ := BY.out.cells
      go_wp2
      refine bodyPost_ret (BY.out.read Tryd.results68 rfl _ _ _ _) rfl ⟨gO 28 0 sg T U, .slice (some ⟨w8.heap.size, 0, none⟩) 2 2, rfl, ?_⟩
      exact (BY.out.fin (P := fun T => T.eOk = true) (C := 2 * C + 100) RR.out (iE (by omega) (by omega) (by omega) FT.out FU.out) (rT sU.out OT.out OU.out) (by rw [iF]; omega)).more (by omega)
     ·skip
      go_wp2_with fail
      refine (ay _ _ _ _ _ _).mono ?_
      rintro e w6 ⟨rfl, hb⟩
      have ix := aa (gG.out.calm hb)
      clear hb gG
      go_wp2_with fail
      refine (ay _ _ _ _ _ _).mono ?_
      rintro e w7 ⟨rfl, hb⟩
      have mv := aa ((ix.out.alloc (.cells #[.int .i64 24, .int .i64 0, .string s2, .slice none 0 0] 27)).calm hb)
      have RR := aa (RW.one (A := al 24 0 s2) ix.out.size (RW.leaf w _ 24 0 s2) (hb.mono (by simp)) 29 0 ⟨#[]⟩)
      have il := HNM3.out (by trivial)
      have Mq := gR il
      have HNM4 := aa il
      clear hb ix il
      have bP : ByteArray.size ⟨#[]⟩ ≤ 1 := by decide
      obtain ⟨f0, f1, f2, f3, ff⟩ := mv.out.cells
      go_wp2
      refine bodyPost_ret (mv.out.read Tryd.results68 rfl _ _ _ _) rfl ⟨cm 29 0 ⟨#[]⟩ (al 24 0 s2), .slice (some ⟨w6.heap.size, 0, none⟩) 1 1, rfl, ?_⟩
      exact (mv.out.fin (P := fun T => T.eOk = true) (C := 2 * C + 100) RR.out (bF (by omega) (by omega) (by decide) (aC (by omega) (by omega) (by omega))) (Ae (lS HNM4.out)) (by rw [cH, bw]; omega)).more (by omega)
   ·have Ku : ¬ (r : Int) = 0 := by omega
    have zI : ¬ (r : Int) = 1 := by omega
    have Ax : ¬ (r : Int) = 2 := by omega
    skip
    go_wp2_with fail
    refine (np BU sb _ w3.heap.size 0 7 7 _ (by omega) (by omega) (by omega) (by have := lI.out.src.lt; omega) (lI.out.alloc _).src (nk BU w3 [⟨#[43]⟩, ⟨#[45]⟩, ⟨#[42]⟩, ⟨#[47]⟩, ⟨#[37]⟩, ⟨#[43]⟩, ⟨#[45]⟩] 9 (by intro s hs; simp only [List.mem_cons, List.not_mem_nil, or_false] at hs; unfold BU; rcases hs with rfl | rfl | rfl | rfl | rfl | rfl | rfl <;> decide))).mono ?_
    exact bJ0
  ·skip
   cases ok
   ·have k_J8_0 := kk
    exact bJ8
   ·have k_J15_1 := kk
    exact VB) : G := h
theorem VD (h : G := by
 have hle : ¬ deep ≤ 0 := by omega
 have EP : IntKind.i64.wrap (deep - 1) = deep - 1 := lu (by omega) (by omega)
 unfold gZ at *
 clear h hs sL
 go_enter Tryd.func68, Tryd.ntmps68
 go_wp2_with fail
 first
 |clear k_J13_0
  refine (PV.out 2 _ _ (by omega) HD.out).mono ?_
  have k_J12_0 := kk
  exact VE
 |clear k_J13_1
  refine (PV.out 1 _ _ (by omega) HD.out).mono ?_
  have k_J12_1 := kk
  exact VE) : G := h
theorem VC (h : G := by
 skip
 go_wp2_with fail
 refine (CH.out _ _ (by omega) qD.out 3 (by omega)).mono ?_
 rintro e w2 ⟨t, rfl, hs, hk⟩
 have o6 := aa (qD.out.step hs hk)
 clear hs hk qD
 cases t
 ·exact bJ2
 first
 |clear k_J14_0
  ·have k_J8_1 := kk
   exact bJ8
 |clear k_J14_1
  ·have k_J7_1 := kk
   exact bJ7) : G := h
theorem VB (h : G := by
 skip
 go_wp2_with fail
 refine (CH.out _ _ (by omega) o6.out 3 (by omega)).mono ?_
 rintro e w3 ⟨t, rfl, hs, hk⟩
 have lI := aa (o6.out.step hs hk)
 clear hs hk o6
 cases t
 ·exact bJ1
 first
 |clear k_J15_0
  ·skip
   go_wp2_with fail
   refine (NX.out _ _ (by omega) lI.out 2 (by omega)).mono ?_
   rintro e w4 ⟨r, hr, rfl, hs, hk⟩
   have hH := aa (lI.out.step hs hk)
   clear hs hk lI
   go_wp2_with fail
   refine (bM _ _ _ _ _ _ _).mono ?_
   rintro e w5 ⟨rfl, hb⟩
   have gG := aa (hH.out.calm hb)
   clear hb hH
   obtain ⟨f0, f1, f2, f3, ff⟩ := gG.out.cells
   go_wp2
   refine bodyPost_ret (gG.out.read Tryd.results68 rfl _ _ _ _) rfl ⟨al 23 r ⟨#[]⟩, .slice none 0 0, rfl, ?_⟩
   exact (gG.out.fin (P := fun T => T.eOk = true) (C := 2 * C + 100) (RW.leaf w _ 23 r ⟨#[]⟩) (aC (by omega) (by omega) (by decide)) (rS (by omega)) (by rw [bw]; show 0 ≤ _; omega)).more (by omega)
 |clear k_J15_1
  ·skip
   go_wp2_with fail
   refine (NX.out _ _ (by omega) lI.out 6 (by omega)).mono ?_
   rintro e w4 ⟨r, hr, rfl, hs, hk⟩
   have hH := aa (lI.out.step hs hk)
   clear hs hk lI
   go_wp2_with fail
   refine (nQ _ _).mono ?_
   rintro e w5 ⟨rfl, hb⟩
   have gG := aa (hH.out.calm hb)
   clear hb hH
   obtain ⟨f0, f1, f2, f3, ff⟩ := gG.out.cells
   go_wp2
   refine bodyPost_ret (gG.out.read Tryd.results68 rfl _ _ _ _) rfl ⟨al 22 r ⟨#[]⟩, .slice none 0 0, rfl, ?_⟩
   exact (gG.out.fin (P := fun T => T.eOk = true) (C := 2 * C + 100) (RW.leaf w _ 22 r ⟨#[]⟩) (aC (by omega) (by omega) (by decide)) (mQ (by omega)) (by rw [bw]; show 0 ≤ _; omega)).more (by omega)) : G := h
theorem rP : EXC 1 0 100 100 := by
 have k_J5_0 := kk
 exact bJ5
theorem K4 : EXC 2 0 100 100 := by
 have k_J5_1 := kk
 exact bJ5
theorem CL (deep : Int) (C K : Nat) (h0 : 0 < deep) (h9 : deep ≤ 100) (hC : C ≤ 100000) (hK : K ≤ 100000) (IHI : EXC 1 (deep - 1) C K) (IHB : EXC 2 (deep - 1) C K) : EXC 2 deep (2 * C + 100) (2 * K + 100) := by
 have k_J4_0 := kk
 exact bJ4
theorem Hy (deep : Int) (C K : Nat) (h0 : 0 < deep) (h9 : deep ≤ 100) (hC : C ≤ 100000) (hK : K ≤ 100000) (IHI : EXC 1 (deep - 1) C K) : EXC 1 deep (2 * C + 100) (2 * K + 100) := by
 have k_J4_1 := kk
 exact bJ4
end Go.Proofs.YtkfbbdhidecefaaDoor
