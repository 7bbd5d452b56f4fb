import Derived.Test.YteaocammohcgoaaGreatDoorVDE
set_option linter.unusedVariables false
set_option maxHeartbeats 16000000
set_option maxRecDepth 100000
namespace Go.Proofs.YteaocammohcgoaaGreatDoor
open Go.RowKit
variable {G : Prop}
theorem bc0 (h : G := by
 skip
 cases isChan
 ·exact Ov
 ·have k_c33_1 := kk
  exact UR) : G := h
theorem bc1 (h : G := by
 skip
 go_wp2_with fail
 refine (ij vM sb _ w4.heap.size 0 3 3 _ (by omega) (by omega) (by omega) (by have := eW.out.src.lt; omega) (eW.out.alloc _).src (ie vM w4 [⟨#[97]⟩, ⟨#[98]⟩, ⟨#[120]⟩] 9 (by intro s hs; simp only [List.mem_cons, List.not_mem_nil, or_false] at hs; unfold vM; rcases hs with rfl | rfl | rfl <;> decide))).mono ?_
 rintro e w5 ⟨sg, ju, rfl, hs, hk⟩
 have Tj := (bG (bO w4 _) (fun k => k = sb)).trans hk (fun _ _ h => h)
 clear hk
 have hk := Tj
 clear Tj
 have oX := aa ju.1
 have hszS := ju.2
 clear ju
 have k_c55_0 := kk
 exact UC) : G := h
theorem bc2 (h : G := by
 exact Ov) : G := h
theorem JB (h : G := by
 skip
 go_wp2_with fail
 refine (NX.out _ _ (by omega) eN.out 2 (by omega)).mono ?_
 rintro e w6 ⟨q, hq, rfl, hs, hk⟩
 have k_c53_2 := kk
 exact Jy) : G := h
theorem bc4 (h : G := by
 skip
 go_wp2_with fail
 refine (NX.out _ _ (by omega) fm.out 2 (by omega)).mono ?_
 rintro e w7 ⟨q, hq, rfl, hs, hk⟩
 have fY := aa (fm.out.step hs hk)
 have CA := aa (cm Ca.out dE hk)
 clear hs hk fm Ca
 rcases (by omega : q = 0 ∨ q = 1) with rfl | rfl
 ·skip
  go_wp2_with fail
  refine (yG.out _ _ (by omega) fY.out).mono ?_
  exact U6
 ·skip
  go_wp2_with fail
  refine (B9.out _ _ (by omega) fY.out).mono ?_
  exact U6) : G := h
theorem bc5 (h : G := by
 have Uh := ab (show a.eval (.tmp 63) = .pointer (some ⟨sb, 0, none⟩) from ag bC bc 0 rfl)
 obtain ⟨g, hg, hx, hc⟩ : ∃ g, w.heap.size + 1 ≤ g ∧ a.eval (.tmp 64) = .slice (some ⟨g, 0, none⟩) 2 2 ∧ ∀ i, i < 2 → ∃ s, vM s ∧ v.cell? ⟨g, 0 + i, none⟩ = some (.string s) := ag bC bc 1 rfl
 have h64 := ab hx
 have HC := aa hc
 clear hx hc
 go_simp
 refine (ij vM sb _ g 0 2 2 v (by omega) (by omega) (by omega) (by omega) (iu.out.2 (cC cG)) HC.out).mono ?_
 rintro e v2 ⟨sg, ju, rfl, hs, hk⟩
 exact b6.out 2 (by omega) v2 (Wr.of_kp hk) (iu.out.pick (by omega) cG hs hk) _ ⟨sg, ju, rfl⟩) : G := h
theorem bc6 (h : G := by
 have h68 := ab hx
 have bl : ∀ i, i < 6 → listed.getD i false = true := fun i hi => bc.out _ rfl ⟨i, Ground.phase⟩ (by rcases (by omega : i = 0 ∨ i = 1 ∨ i = 2 ∨ i = 3 ∨ i = 4 ∨ i = 5) with rfl | rfl | rfl | rfl | rfl | rfl <;> simp) rfl
 obtain ⟨f0, f1, f2, f3, ff⟩ := (iu.out.1.last (by omega) cG bl).1.1.cells
 have mX := aa (iu.out.store (by omega) cG bl ju hg fU)
 clear hx fU bl
 go_simp
 exact po.out _ (Wr.of_put sb w.heap.size v 5 0 sg (.slice (some ⟨gx, 0, none⟩) 1 1)) rfl mX.out) : G := h
theorem bc7 (h : G := by
 have Th := (iu.out.1.low (show 3 < 6 by omega) cG).2.2
 obtain ⟨m0, m1, m2, m3⟩ := HM.out
 have n0 := pg m0 Th Bj
 have n1 := pg m1 Th Bj
 have n2 := pg m2 Th Bj
 have n3 := pg m3 Th Bj
 clear m0 m1 m2 m3 Th
 go_simp
 exact b6.out 3 (by omega) v (Wr.of_calm (Below.refl _ _)) (iu.out.calm (by omega) (by omega) cG (Below.refl _ _)) _ rfl) : G := h
theorem bc8 (h : G := by
 have h65 := ab hx
 have h67 := ab hy
 have gK := aa fU
 clear hx hy fU
 go_simp
 refine (aQ _ _ _ _ _ _).mono ?_
 rintro e v2 ⟨rfl, hb⟩
 exact b6.out 5 (by omega) v2 (Wr.of_calm hb) (iu.out.calm (by omega) (by omega) cG hb) _ ⟨sg, gx, ju, hg, rfl, bE gK.out hb⟩) : G := h
theorem bc9 (h : G := by
 have il := (iu.out.1.low (show 1 < 6 by omega) cG).2.1.size
 go_simp
 exact b6.out 1 (by omega) _ (Wr.of_calm (bA)) (iu.out.calm (by omega) (by omega) cG (bA)) _ ⟨v.heap.size, il, rfl, fun i hi => ie vM v [⟨#[99]⟩, ⟨#[100]⟩] 9 hNP i hi⟩) : G := h
theorem bc10 (h : G := by
 obtain ⟨dj, di⟩ := HS.out.pre bD
 obtain ⟨z0, z1, z2, z3, zf⟩ := ax (cm cP.out lp di)
 clear dj di
 exact lC) : G := h
theorem Ow (h : G := by
 rintro e v2 ⟨rfl, hb⟩
 exact b6.out v2 (je (Wn.of_calm hb) bD aM) (HS.out.calm (by omega) cG (by decide) (by decide) rfl bD aM hb) _ rfl (by decide)) : G := h
theorem U9 (h : G := by
 go_simp
 exact b6.out 4 (by omega) _ (Wr.of_calm (bA)) (iu.out.calm (by omega) (by omega) cG (bA)) _ ⟨v.heap.size, il, rfl, heap_alloc_new v _⟩) : G := h
theorem U8 (h : G := by
 go_simp
 exact b6.out 0 (by omega) v (Wr.of_calm (Below.refl _ _)) (iu.out.calm (by omega) (by omega) cG (Below.refl _ _)) _ rfl) : G := h
theorem U7 (h : G := by
 exact lC) : G := h
theorem Ov (h : G := by
 skip
 have k_c41_1 := kk
 exact UK) : G := h
theorem bc16 (h : G := by
 have k_c26_0 := kk
 exact UY) : G := h
theorem U6 (h : G := by
 rintro e w8 ⟨T, uT, rfl, dT⟩
 obtain ⟨aT, cT, rfl⟩ := be dT.row
 have hs := dT.src
 have hk := dT.kp
 have RT := aa (RW.of_drawn fY.out dT)
 have k_c52_3 := kk
 exact Oo) : G := h
theorem lC (h : G := by
 go_simp
 exact b6.out v (fun _ _ _ h => h) (HS.out.same (by omega) cG (by decide) (by decide) rfl) _ rfl (by decide)) : G := h
theorem U5 (h : G := by
 have k_c25_0 := kk
 exact UZ) : G := h
theorem U4 (h : G := by
 exact (qG.out.fin (P := fun T => T.sOk = true) (C := E) RR.out (bB (by omega) (by omega) (by decide) FT.out) (lP (by omega) OT.out) (by rw [b9]; omega)).more (by omega)) : G := h
theorem U3 (h : G := by
 exact (fY.out.fin (P := fun T => T.sOk = true) (C := E) RR.out (bB (by omega) (by omega) (by decide) FT.out) (lP (by omega) OT.out) (by rw [b9]; omega)).more (by omega)) : G := h
theorem U2 (h : G := by
 have bC := aa (fun (j : Nat) (hj : j < 7) (hl : listed.getD j false = true) => hI.vals j hj (nt hl))
 have bc := fG hr
 have s0 : a.tmps[0]?.getD undef = .pointer (some ⟨sb, 0, none⟩) := ab (hI.keep 0 (by intro i hi; show 0 ≠ (if i < 6 then 63 + i else 300 + i); split <;> omega))
 have s8 : a.tmps[8]?.getD undef = .pointer (some ⟨w.heap.size, 0, none⟩) := ab (hI.keep 8 (by intro i hi; show 8 ≠ (if i < 6 then 63 + i else 300 + i); split <;> omega))
 have s14 : a.tmps[14]?.getD undef = .pointer (some ⟨w5.heap.size, 0, none⟩) := ab (hI.keep 14 (by intro i hi; show 14 ≠ (if i < 6 then 63 + i else 300 + i); split <;> omega))
 have iu := aa hS
 clear hI hr hS
 rcases (by omega : i = 0 ∨ i = 1 ∨ i = 2 ∨ i = 3 ∨ i = 4 ∨ i = 5 ∨ i = 6) with rfl | rfl | rfl | rfl | rfl | rfl | rfl
 all_goals (refine cS rfl rfl ?_)
 ·exact U8
 ·exact bc9
 ·exact bc5
 ·exact bc7
 first
 |clear k_c22_0
  ·have il := (iu.out.1.low (show 4 < 6 by omega) cG).2.1.size
   have h66 := ab (show a.eval (.tmp 66) = .agg #[.int .i64 26, .int .i64 0, .string ⟨#[]⟩, .slice none 0 0] from ag bC bc 3 rfl)
   exact U9
  ·obtain ⟨sg, ju, hx⟩ : ∃ s, vM s ∧ a.eval (.tmp 65) = .string s := ag bC bc 2 rfl
   obtain ⟨gx, hg, hy, fU⟩ : ∃ gx, w.heap.size + 1 ≤ gx ∧ a.eval (.tmp 67) = .slice (some ⟨gx, 0, none⟩) 1 1 ∧ v.heap[gx]? = some (KG (aq 26 0 ⟨#[]⟩) (.slice none 0 0)) := ag bC bc 4 rfl
   exact bc8
  ·obtain ⟨sg, gx, ju, hg, hx, fU⟩ : ∃ s gx, vM s ∧ w.heap.size + 1 ≤ gx ∧ a.eval (.tmp 68) = .agg #[.int .i64 5, .int .i64 0, .string s, .slice (some ⟨gx, 0, none⟩) 1 1] ∧ v.heap[gx]? = some (KG (aq 26 0 ⟨#[]⟩) (.slice none 0 0)) := ag bC bc 5 rfl
   exact bc6
 |clear k_c22_1
  ·have il := (iu.out.1.low (show 4 < 6 by omega) cG).2.1.size
   have h66 := ab (show a.eval (.tmp 66) = .agg #[.int .i64 26, .int .i64 0, .string ⟨#[]⟩, .slice (some ⟨g, 0, none⟩) 1 cap] from ag bC bc 3 rfl)
   exact U9
  ·obtain ⟨sg, ju, hx⟩ : ∃ s, vM s ∧ a.eval (.tmp 65) = .string s := ag bC bc 2 rfl
   obtain ⟨gx, hg, hy, fU⟩ : ∃ gx, w.heap.size + 1 ≤ gx ∧ a.eval (.tmp 67) = .slice (some ⟨gx, 0, none⟩) 1 1 ∧ v.heap[gx]? = some (KG (bX 26 0 ⟨#[]⟩ (aq 22 q ⟨#[]⟩)) (.slice (some ⟨g, 0, none⟩) 1 cap)) := ag bC bc 4 rfl
   exact bc8
  ·obtain ⟨sg, gx, ju, hg, hx, fU⟩ : ∃ s gx, vM s ∧ w.heap.size + 1 ≤ gx ∧ a.eval (.tmp 68) = .agg #[.int .i64 5, .int .i64 0, .string s, .slice (some ⟨gx, 0, none⟩) 1 1] ∧ v.heap[gx]? = some (KG (bX 26 0 ⟨#[]⟩ (aq 22 q ⟨#[]⟩)) (.slice (some ⟨g, 0, none⟩) 1 cap)) := ag bC bc 5 rfl
   exact bc6) : G := h
theorem U1 (h : G := by
 skip
 go_wp2_with fail
 refine (tN.out _ _ (by omega) eN.out).mono ?_
 have k_c27_0 := kk
 exact UX) : G := h
theorem U0 (h : G := by
 skip
 go_wp2_with fail
 refine (tN.out _ _ (by omega) fm.out).mono ?_
 have k_c26_1 := kk
 exact UY) : G := h
theorem UZ (h : G := by
 have k_c27_1 := kk
 exact UX) : G := h
theorem UY (h : G := by
 rintro e w7 ⟨T, uT, rfl, dT⟩
 obtain ⟨aT, cT, rfl⟩ := be dT.row
 have hs := dT.src
 have hk := dT.kp
 have RT := aa (RW.of_drawn fm.out dT)
 have k_c52_2 := kk
 exact Oo) : G := h
theorem UX (h : G := by
 rintro e w6 ⟨T, uT, rfl, dT⟩
 obtain ⟨aT, cT, rfl⟩ := be dT.row
 have hs := dT.src
 have hk := dT.kp
 have RT := aa (RW.of_drawn eN.out dT)
 have k_c52_1 := kk
 exact Oo) : G := h
theorem UW (h : G := by
 rintro e w5 ⟨T, uT, rfl, dT⟩
 obtain ⟨aT, cT, rfl⟩ := be dT.row
 have hs := dT.src
 have hk := dT.kp
 have RT := aa (RW.of_drawn eW.out dT)
 have k_c52_0 := kk
 exact Oo) : G := h
theorem UV (h : G := by
 have k_c35_1 := kk
 exact UP) : G := h
theorem UU (h : G := by
 have k_c36_1 := kk
 exact UO) : G := h
theorem UT (h : G := by
 have oX := aa ju.1
 have hszS := ju.2
 rw [eJ (n := 7) b8 jv cz]
 generalize (fun i => a.eval (.tmp (if i < 6 then 63 + i else 300 + i))) = ff
 clear b8 jv cz ee hS bl hl Td dj di ju fU
 simp only [ig, Act.put, Nat.reduceLT, if_true, if_false, Nat.reduceAdd, List.setIfInBounds_toArray, List.set_cons_succ, List.set_cons_zero]
 go_wp2
 first
 |clear k_c31_0
  refine bodyPost_ret (yD.out.read Tryz.results62 rfl _ _ _ _) rfl ⟨bX 5 0 sg (aq 26 0 ⟨#[]⟩), _, rfl, ?_⟩
  exact (yD.out.fin (P := fun T => T.sOk = true) (C := E) RR.out (bB (by omega) (by omega) (by omega) (aJ (by omega) (by omega) (by decide))) (lO (.inl rfl) oX.out BJ) (by rw [b9, bm]; omega)).more (by omega)
 |clear k_c31_1
  refine bodyPost_ret (yD.out.read Tryz.results62 rfl _ _ _ _) rfl ⟨bX 5 0 sg (bX 26 0 ⟨#[]⟩ (aq 22 q ⟨#[]⟩)), _, rfl, ?_⟩
  exact (yD.out.fin (P := fun T => T.sOk = true) (C := E) RR.out (bB (by omega) (by omega) (by omega) (bB (by omega) (by omega) (by decide) (aJ (by omega) (by omega) (by decide)))) (lO (.inl rfl) oX.out (BH (iN (by omega)))) (by rw [b9, b9, bm]; omega)).more (by omega)) : G := h
theorem US (h : G := by
 skip
 go_wp2_with fail
 refine (bU _ _ _ _ _ _ _).mono ?_
 rintro e w7 ⟨rfl, hb⟩
 have fY := aa (fm.out.calm hb)
 have CA := aa (bE Ca.out hb)
 clear hb fm Ca
 have b8 : ByteArray.size ⟨#[]⟩ = 0 := by decide
 obtain ⟨f0, f1, f2, f3, ff⟩ := fY.out.cells
 go_wp2
 first
 |clear k_c32_0
  refine bodyPost_ret (fY.out.read Tryz.results62 rfl _ _ _ _) rfl ⟨aq 17 0 ⟨#[]⟩, .slice none 0 0, rfl, ?_⟩
  exact (fY.out.fin (P := fun T => T.sOk = true) (C := E) (RW.leaf w _ 17 0 ⟨#[]⟩) (aJ (by omega) (by omega) (by decide)) (yQ (by omega)) (by rw [bm]; omega)).more (by omega)
 |clear k_c32_1
  refine bodyPost_ret (fY.out.read Tryz.results62 rfl _ _ _ _) rfl ⟨aq 18 0 ⟨#[]⟩, .slice none 0 0, rfl, ?_⟩
  exact (fY.out.fin (P := fun T => T.sOk = true) (C := E) (RW.leaf w _ 18 0 ⟨#[]⟩) (aJ (by omega) (by omega) (by decide)) (yQ (by omega)) (by rw [bm]; omega)).more (by omega)) : G := h
theorem UR (h : G := by
 have k_c54_1 := kk
 exact UD) : G := h
theorem UQ (h : G := by
 have k_c39_0 := kk
 exact Ou) : G := h
theorem UP (h : G := by
 have eV := (bO w7 (.cells #[.int .i64 T.kind, .int .i64 T.num, .string T.name, .slice aT T.len cT] 25)).trans (hb.mono (by simp))
 clear hb
 have hb := eV
 clear eV
 have qG := aa (fY.out.calm hb)
 have Yv := aa (bE CA.out hb)
 clear hb fY CA
 first
 |clear k_c35_0
  go_wp2_with fail
  refine (aQ _ _ _ _ _ _).mono ?_
  rintro e w9 ⟨rfl, hb⟩
  have RR := aa (RW.one (A := bX 25 0 ⟨#[115, 104, 111, 119]⟩ T) qG.out.size R1.out (hb.mono (by simp)) 14 0 ⟨#[]⟩)
  have eV := (bO w8 (.cells #[.int .i64 25, .int .i64 0, .string ⟨#[115, 104, 111, 119]⟩, .slice (some ⟨w7.heap.size, 0, none⟩) 1 1] 25)).trans (hb.mono (by simp))
  have k_c49_2 := kk
  exact Ot
 |clear k_c35_1
  clear RT
  have b8 : ByteArray.size ⟨#[]⟩ = 0 := by decide
  obtain ⟨f0, f1, f2, f3, ff⟩ := qG.out.cells
  go_wp2
  first
  |clear k_c29_0
   refine bodyPost_ret (qG.out.read Tryz.results62 rfl _ _ _ _) rfl ⟨bX 20 0 ⟨#[]⟩ T, .slice (some ⟨w7.heap.size, 0, none⟩) 1 1, rfl, ?_⟩
   exact U4
  |clear k_c29_1
   refine bodyPost_ret (qG.out.read Tryz.results62 rfl _ _ _ _) rfl ⟨bX 21 0 ⟨#[]⟩ T, .slice (some ⟨w7.heap.size, 0, none⟩) 1 1, rfl, ?_⟩
   exact U4) : G := h
theorem UO (h : G := by
 have eV := (bO w6 (.cells #[.int .i64 T.kind, .int .i64 T.num, .string T.name, .slice aT T.len cT] 25)).trans (hb.mono (by simp))
 clear hb
 have hb := eV
 clear eV
 have fY := aa (fm.out.calm hb)
 have CA := aa (bE Ca.out hb)
 clear hb fm Ca
 first
 |clear k_c36_0
  go_wp2_with fail
  refine (aQ _ _ _ _ _ _).mono ?_
  rintro e w8 ⟨rfl, hb⟩
  have RR := aa (RW.one (A := bX 25 0 ⟨#[115, 104, 111, 119]⟩ T) fY.out.size R1.out (hb.mono (by simp)) 14 0 ⟨#[]⟩)
  have eV := (bO w7 (.cells #[.int .i64 25, .int .i64 0, .string ⟨#[115, 104, 111, 119]⟩, .slice (some ⟨w6.heap.size, 0, none⟩) 1 1] 25)).trans (hb.mono (by simp))
  clear hb
  have hb := eV
  clear eV
  have qG := aa (fY.out.calm hb)
  have Yv := aa (bE CA.out hb)
  clear hb fY CA
  clear R1 RT
  have b8 : ByteArray.size ⟨#[]⟩ = 0 := by decide
  have pT : ByteArray.size ⟨#[115, 104, 111, 119]⟩ ≤ 10 := by decide
  obtain ⟨f0, f1, f2, f3, ff⟩ := qG.out.cells
  go_wp2
  refine bodyPost_ret (qG.out.read Tryz.results62 rfl _ _ _ _) rfl ⟨bX 14 0 ⟨#[]⟩ (bX 25 0 ⟨#[115, 104, 111, 119]⟩ T), .slice (some ⟨w7.heap.size, 0, none⟩) 1 1, rfl, ?_⟩
  exact (qG.out.fin (P := fun T => T.sOk = true) (C := E) RR.out (bB (by omega) (by omega) (by decide) (bB (by omega) (by omega) (by decide) FT.out)) (sP (by omega) rfl (sx (by decide) OT.out)) (by rw [b9, b9]; omega)).more (by omega)
 |clear k_c36_1
  clear RT
  have b8 : ByteArray.size ⟨#[]⟩ = 0 := by decide
  obtain ⟨f0, f1, f2, f3, ff⟩ := fY.out.cells
  go_wp2
  first
  |clear k_c30_0
   refine bodyPost_ret (fY.out.read Tryz.results62 rfl _ _ _ _) rfl ⟨bX 21 0 ⟨#[]⟩ T, .slice (some ⟨w6.heap.size, 0, none⟩) 1 1, rfl, ?_⟩
   exact U3
  |clear k_c30_1
   refine bodyPost_ret (fY.out.read Tryz.results62 rfl _ _ _ _) rfl ⟨bX 20 0 ⟨#[]⟩ T, .slice (some ⟨w6.heap.size, 0, none⟩) 1 1, rfl, ?_⟩
   exact U3) : G := h
theorem UN (h : G := by
 intro a v b8 jv cz qc ee
 obtain ⟨l, hl, hS, bl⟩ := qc
 have Td : l.size = 7 := hl
 obtain ⟨v0, sg, gx, ⟨dj, di⟩, ju, hg, fU, rfl⟩ := hS.1.2.2 (getD_in (by omega) (bl 6 (by show 6 < 7; omega)))
 have yD := aa dj
 first
 |clear k_c37_0
  have RR := aa (yT (A := aq 26 0 ⟨#[]⟩) hg fU (RW.step HRM.out (fm.out) di) 5 0 sg)
  have k_c31_0 := kk
  exact UT
 |clear k_c37_1
  have RR := aa (yT (A := bX 26 0 ⟨#[]⟩ (aq 22 q ⟨#[]⟩)) hg fU (RW.step HRM.out (Cu.out) di) 5 0 sg)
  have k_c31_1 := kk
  exact UT) : G := h
theorem UM (h : G := by
 have k_c47_0 := kk
 exact UF) : G := h
theorem Ou (h : G := by
 have k_c47_2 := kk
 exact UF) : G := h
theorem UL (h : G := by
 skip
 have k_c46_1 := kk
 exact UG) : G := h
theorem UK (h : G := by
 go_wp2_with fail
 refine (NX.out _ _ (by omega) eW.out 2 (by omega)).mono ?_
 rintro e w5 ⟨q, hq, rfl, hs, hk⟩
 have k_c55_3 := kk
 exact UC) : G := h
theorem UJ (h : G := by
 have k_c47_1 := kk
 exact UF) : G := h
theorem JA (h : G := by
 have bD := dm (f := 40) (j := 11) jB.out (by kernel_rfl) cG
 have aM := dm (f := 40) (j := 13) jB.out (by kernel_rfl) cG
 obtain ⟨dj, di⟩ := HS.out.pre bD
 first
 |clear k_c43_0
  go_simp
  refine (cK sb _ 3 v (by omega) (by omega) dj.src).mono ?_
  rintro e v2 ⟨q2, iL, rfl, hs, hk⟩
  exact b6.out v2 (tL (Wn.of_kp hk KS) bD aM) (HS.out.ask (by omega) (by omega) cG (by decide) (by decide) bD aM hs hk) _ ⟨q2, by omega, rfl⟩ (by decide)
 |clear k_c43_1
  have htu : qJ (fun i => if i = 7 then 3 else if i = 9 then 2 * K + 10 else 0) l 14 + (2 * K + 10) ≤ 2 * K + 13 := by have := sJ (asks := fun i => if i = 7 then 3 else if i = 9 then 2 * K + 10 else 0) (n := 14) (i := 9) (cC cG) (by omega); rw [ji] at this; exact this
  have HSV := aa (SC.out _ v dj)
  have il := di.size
  clear hx
  go_simp
  refine (qt CC.out sb _ n q2 (.slice va n vc) loops v (by omega) (by omega) (by omega) dj.src HSV.out).mono ?_
  rintro e v2 ⟨T2, u2, rfl, d2⟩
  obtain ⟨a2, c2, rfl⟩ := be d2.row
  exact b6.out v2 (tL (Wn.of_kp d2.kp KS) bD aM) (HS.out.ask (by omega) (by omega) cG (by decide) (by decide) bD aM d2.src d2.kp) _ ⟨T2, a2, c2, ⟨d2.fine, d2.ok.1, d2.cost⟩, rfl, aO d2.row il lr⟩ (by decide)
 |clear k_c43_2
  have Qv := aa jk
  have il := di.size
  clear hx jk
  go_simp
  exact b6.out _ (tL (Wn.of_calm (bA)) bD aM) (HS.out.calm (by omega) cG (by decide) (by decide) rfl bD aM (bA)) _ ⟨bX 0 0 ⟨#[]⟩ T2, _, _, ⟨T2, Ex, rfl⟩, rfl, LV.one il Qv.out⟩ (by decide)) : G := h
theorem UI (h : G := by
 have k_c47_3 := kk
 exact UF) : G := h
theorem UH (h : G := by
 go_upto_region 12 with fail
 have hNP : ∀ s ∈ ([⟨#[99]⟩, ⟨#[100]⟩] : List ByteArray), vM s := by intro s hs; simp only [List.mem_cons, List.not_mem_nil, or_false] at hs; unfold vM; rcases hs with rfl | rfl <;> decide
 first
 |clear k_c45_0
  have Sy := fm.out.low
  have xF : Tryz.prog.follows Departure.mixedOrders = true := by kernel_rfl
  have HRM := aa (RW.leaf w w6 26 0 ⟨#[]⟩)
  have HM := aa (And.intro m0 (And.intro m1 (And.intro m2 m3)))
  clear m0 m1 m2 m3
  refine fL xF (by kernel_rfl) (fun i => (if i < 6 then 63 + i else 300 + i)) (Qs (w.heap.size + 1) sb (aq 26 0 ⟨#[]⟩) (.slice none 0 0)) (S12 sb _ w w6 (aq 26 0 ⟨#[]⟩) (.slice none 0 0)) (S12.start (aq 26 0 ⟨#[]⟩) (.slice none 0 0) (fm.out)) ?_ ?_
  ·intro listed a v i hI hr
   have zl : i < 7 := (bj hr).1
   have cG := (bj hr).2
   have hS := hI.s
   have th : listed.size = 7 := hI.lsize
   have b6 := aa (fun (i : Nat) (hi : i < 6) (v' : World) (hw : Wr sb w.heap.size v v') (iC : S12 sb _ w w6 (aq 26 0 ⟨#[]⟩) (.slice none 0 0) (listed.setIfInBounds i true) v') (x : Value) (hx : Qs (w.heap.size + 1) sb (aq 26 0 ⟨#[]⟩) (.slice none 0 0) i v' x) => hI.put1 (w' := v') (fun i j hi hj h => by have : i < 7 := hi; have : j < 7 := hj; have h' : (if i < 6 then 63 + i else 300 + i) = (if j < 6 then 63 + j else 300 + j) := h; split at h' <;> split at h' <;> omega) (i := i) (by show (if i < 6 then 63 + i else 300 + i) < 258; rw [if_pos hi]; omega) (ky hw (by omega) (by omega)) iC (show i < 7 by omega) hx)
   have po := aa (fun (v' : World) (hw : Wr sb w.heap.size v v') (h6 : i = 6) (iC : S12 sb _ w w6 (aq 26 0 ⟨#[]⟩) (.slice none 0 0) (listed.setIfInBounds i true) v') => hI.none (w' := v') (ky hw (by omega) (by omega)) iC zl (by intro x; subst h6; exact trivial))
   have k_c22_0 := kk
   exact U2
  ·have k_c37_0 := kk
   exact UN
 |clear k_c45_1
  have Sy := Cu.out.low
  have xF : Tryz.prog.follows Departure.mixedOrders = true := by kernel_rfl
  have HRM := aa (RX.out)
  have HM := aa (And.intro m0 (And.intro m1 (And.intro m2 m3)))
  clear m0 m1 m2 m3
  refine fL xF (by kernel_rfl) (fun i => (if i < 6 then 63 + i else 300 + i)) (Qs (w.heap.size + 1) sb (bX 26 0 ⟨#[]⟩ (aq 22 q ⟨#[]⟩)) (.slice (some ⟨g, 0, none⟩) 1 cap)) (S12 sb _ w wc (bX 26 0 ⟨#[]⟩ (aq 22 q ⟨#[]⟩)) (.slice (some ⟨g, 0, none⟩) 1 cap)) (S12.start (bX 26 0 ⟨#[]⟩ (aq 22 q ⟨#[]⟩)) (.slice (some ⟨g, 0, none⟩) 1 cap) (Cu.out)) ?_ ?_
  ·intro listed a v i hI hr
   have zl : i < 7 := (bj hr).1
   have cG := (bj hr).2
   have hS := hI.s
   have th : listed.size = 7 := hI.lsize
   have b6 := aa (fun (i : Nat) (hi : i < 6) (v' : World) (hw : Wr sb w.heap.size v v') (iC : S12 sb _ w wc (bX 26 0 ⟨#[]⟩ (aq 22 q ⟨#[]⟩)) (.slice (some ⟨g, 0, none⟩) 1 cap) (listed.setIfInBounds i true) v') (x : Value) (hx : Qs (w.heap.size + 1) sb (bX 26 0 ⟨#[]⟩ (aq 22 q ⟨#[]⟩)) (.slice (some ⟨g, 0, none⟩) 1 cap) i v' x) => hI.put1 (w' := v') (fun i j hi hj h => by have : i < 7 := hi; have : j < 7 := hj; have h' : (if i < 6 then 63 + i else 300 + i) = (if j < 6 then 63 + j else 300 + j) := h; split at h' <;> split at h' <;> omega) (i := i) (by show (if i < 6 then 63 + i else 300 + i) < 258; rw [if_pos hi]; omega) (ky hw (by omega) (by omega)) iC (show i < 7 by omega) hx)
   have po := aa (fun (v' : World) (hw : Wr sb w.heap.size v v') (h6 : i = 6) (iC : S12 sb _ w wc (bX 26 0 ⟨#[]⟩ (aq 22 q ⟨#[]⟩)) (.slice (some ⟨g, 0, none⟩) 1 cap) (listed.setIfInBounds i true) v') => hI.none (w' := v') (ky hw (by omega) (by omega)) iC zl (by intro x; subst h6; exact trivial))
   have k_c22_1 := kk
   exact U2
  ·have k_c37_1 := kk
   exact UN) : G := h
theorem UG (h : G := by
 go_wp2_with fail
 refine (CH.out _ _ (by omega) eW.out 3 (by omega)).mono ?_
 have k_c48_2 := kk
 exact UE) : G := h
theorem UF (h : G := by
 have bD := dm (f := 40) (j := 15) jB.out (by kernel_rfl) cG
 have aM := dm (f := 40) (j := 15) jB.out (by kernel_rfl) cG
 obtain ⟨dj, di⟩ := HS.out.pre bD
 first
 |clear k_c47_0
  go_simp
  refine (aQ _ _ _ _ _ _).mono ?_
  rintro e v2 ⟨rfl, hb⟩
  first
  |clear k_c38_0
   exact b6.out v2 (je (Wn.of_calm hb) bD aM) (HS.out.calm (by omega) cG (by decide) (by decide) rfl bD aM hb) _ (TV.node (P := fun _ => True) 5 0 ⟨#[105]⟩ rfl ((Wn.of_calm hb).row HR.out)) (by decide)
  |clear k_c38_1
   exact b6.out v2 (je (Wn.of_calm hb) bD aM) (HS.out.calm (by omega) cG (by decide) (by decide) rfl bD aM hb) _ (TV.node (P := fun _ => True) 28 0 ⟨#[60]⟩ ⟨q2, iL, rfl⟩ ((Wn.of_calm hb).row HR.out)) (by decide)
  |clear k_c38_2
   exact b6.out v2 (je (Wn.of_calm hb) bD aM) (HS.out.calm (by omega) cG (by decide) (by decide) rfl bD aM hb) _ (TV.node (P := fun _ => True) 11 0 ⟨#[]⟩ ⟨q2, iL, rfl⟩ ((Wn.of_calm hb).row HR.out)) (by decide)
  |clear k_c38_3
   exact b6.out v2 (je (Wn.of_calm hb) bD aM) (HS.out.calm (by omega) cG (by decide) (by decide) rfl bD aM hb) _ (TV.node (P := fun _ => True) 4 0 ⟨#[]⟩ ⟨q2, iL, rfl⟩ ((Wn.of_calm hb).row HR.out)) (by decide)
 |clear k_c47_1
  go_simp
  refine (fE _ _).mono ?_
  first
  |clear k_c42_0
   rintro e v2 ⟨rfl, hb⟩
   exact b6.out v2 (je (Wn.of_calm hb) bD aM) (HS.out.calm (by omega) cG (by decide) (by decide) rfl bD aM hb) _ ⟨q2, iL, rfl⟩ (by decide)
  |clear k_c42_1
   exact Ow
 |clear k_c47_2
  have il : w.heap.size + 1 ≤ v.heap.size := by have := di.size; omega
  first
  |clear k_c39_0
   go_simp
   first
   |clear k_c34_0
    exact b6.out _ (je (Wn.of_calm (bA)) bD aM) (HS.out.calm (by omega) cG (by decide) (by decide) rfl bD aM (bA)) _ ⟨bX 0 0 ⟨#[]⟩ (aq 22 0 ⟨#[]⟩), _, _, rfl, rfl, LV.one (A := aq 22 0 ⟨#[]⟩) il (cO _ _ _ _ _ _)⟩ (by decide)
   |clear k_c34_1
    exact b6.out _ (je (Wn.of_calm (bA)) bD aM) (HS.out.calm (by omega) cG (by decide) (by decide) rfl bD aM (bA)) _ ⟨dR 0 0 ⟨#[]⟩ (aq 24 0 ⟨#[105]⟩) (aq 22 (1 + (q2 : Int)) ⟨#[]⟩), _, _, ⟨q2, iL, rfl⟩, rfl, LV.two (A := aq 24 0 ⟨#[105]⟩) (B := aq 22 (1 + (q2 : Int)) ⟨#[]⟩) il (cO _ _ _ _ _ _) (cO _ _ _ _ _ _)⟩ (by decide)
   |clear k_c34_2
    exact b6.out _ (je (Wn.of_calm (bA)) bD aM) (HS.out.calm (by omega) cG (by decide) (by decide) rfl bD aM (bA)) _ ⟨dR 0 0 ⟨#[]⟩ q8 (vn q2 (ct cX TB)), _, _, ⟨q2, iL, rfl⟩, rfl, LV.two (A := q8) (B := vn q2 (ct cX TB)) il Qv.out HR.out⟩ (by decide)
  |clear k_c39_1
   have Gn := aa (aO (fJ RL.out (by omega) lr di) lr di.size)
   go_simp
   exact b6.out _ (je (Wn.of_calm (bA)) bD aM) (HS.out.calm (by omega) cG (by decide) (by decide) rfl bD aM (bA)) _ ⟨dR 0 0 ⟨#[]⟩ (mw q2) (ct cX TB), _, _, ⟨q2, iL, rfl⟩, rfl, LV.two (A := mw q2) (B := ct cX TB) il HR.out Gn.out⟩ (by decide)
 |clear k_c47_3
  first
  |clear k_c44_0
   go_simp
   refine (aQ _ _ _ _ _ _).mono ?_
   exact Ow
  |clear k_c44_1
   go_simp
   refine (cK sb _ 3 v (by omega) (by omega) dj.src).mono ?_
   rintro e v2 ⟨q2, iL, rfl, hs, hk⟩
   exact b6.out v2 (je (Wn.of_kp hk SF) bD aM) (HS.out.ask (by omega) (by omega) cG (by decide) (by decide) bD aM hs hk) _ ⟨q2, by omega, rfl⟩ (by decide)
  |clear k_c44_2
   obtain ⟨z0, z1, z2, z3, zf⟩ := ax (cm Cw.out lp di)
   clear dj di
   exact U7) : G := h
theorem UE (h : G := by
 rintro e w5 ⟨t, rfl, hs, hk⟩
 have k_c55_1 := kk
 exact UC) : G := h
theorem Ot (h : G := by
 clear hb
 have hb := eV
 clear eV
 have BZ := aa (qG.out.calm hb)
 have CB9 := aa (bE Yv.out hb)
 clear hb qG Yv
 first
 |clear k_c49_0
  go_wp2_with fail
  refine (aQ _ _ _ _ _ _).mono ?_
  rintro e w10 ⟨rfl, hb⟩
  have RR := aa (RW.one (A := dR 28 0 ⟨#[43]⟩ T (aq 22 q ⟨#[]⟩)) BZ.out.size R1.out (hb.mono (by simp)) 5 0 sg)
  have eV := (bO w9 (.cells #[.int .i64 28, .int .i64 0, .string ⟨#[43]⟩, .slice (some ⟨w8.heap.size, 0, none⟩) 2 2] 25)).trans (hb.mono (by simp))
  clear hb
  have hb := eV
  clear eV
  have PK := aa (BZ.out.calm hb)
  have CB10 := aa (bE CB9.out hb)
  clear hb BZ CB9
  clear RT R1
  have b8 : ByteArray.size ⟨#[]⟩ = 0 := by decide
  have pT : ByteArray.size ⟨#[43]⟩ = 1 := by decide
  obtain ⟨f0, f1, f2, f3, ff⟩ := PK.out.cells
  go_wp2
  refine bodyPost_ret (PK.out.read Tryz.results62 rfl _ _ _ _) rfl ⟨bX 5 0 sg (dR 28 0 ⟨#[43]⟩ T (aq 22 q ⟨#[]⟩)), .slice (some ⟨w9.heap.size, 0, none⟩) 1 1, rfl, ?_⟩
  exact (PK.out.fin (P := fun T => T.sOk = true) (C := E) RR.out (bB (by omega) (by omega) (by omega) (eY (by omega) (by omega) (by decide) FT.out (aJ (by omega) (by omega) (by decide)))) (lO (.inl rfl) oX.out (nA (by decide) OT.out (iN (by omega)))) (by rw [b9, eZ, bm]; omega)).more (by omega)
 |clear k_c49_1
  clear RT
  have b8 : ByteArray.size ⟨#[]⟩ = 0 := by decide
  obtain ⟨f0, f1, f2, f3, ff⟩ := BZ.out.cells
  go_wp2
  refine bodyPost_ret (BZ.out.read Tryz.results62 rfl _ _ _ _) rfl ⟨bX 20 0 ⟨#[]⟩ T, .slice (some ⟨w8.heap.size, 0, none⟩) 1 1, rfl, ?_⟩
  exact (BZ.out.fin (P := fun T => T.sOk = true) (C := E) RR.out (bB (by omega) (by omega) (by decide) FT.out) (lP (by omega) OT.out) (by rw [b9]; omega)).more (by omega)
 |clear k_c49_2
  clear R1 RT
  have b8 : ByteArray.size ⟨#[]⟩ = 0 := by decide
  have pT : ByteArray.size ⟨#[115, 104, 111, 119]⟩ ≤ 10 := by decide
  obtain ⟨f0, f1, f2, f3, ff⟩ := BZ.out.cells
  go_wp2
  refine bodyPost_ret (BZ.out.read Tryz.results62 rfl _ _ _ _) rfl ⟨bX 14 0 ⟨#[]⟩ (bX 25 0 ⟨#[115, 104, 111, 119]⟩ T), .slice (some ⟨w8.heap.size, 0, none⟩) 1 1, rfl, ?_⟩
  exact (BZ.out.fin (P := fun T => T.sOk = true) (C := E) RR.out (bB (by omega) (by omega) (by decide) (bB (by omega) (by omega) (by decide) FT.out)) (sP (by omega) rfl (sx (by decide) OT.out)) (by rw [b9, b9]; omega)).more (by omega)) : G := h
theorem Jz (h : G := by
 have bD := dm (f := 40) (j := 4) jB.out (by kernel_rfl) cG
 have aM := dm (f := 40) (j := 6) jB.out (by kernel_rfl) cG
 first
 |clear k_c50_0
  exact bc10
 |clear k_c50_1
  obtain ⟨dj, di⟩ := HS.out.pre bD
  go_simp
  refine (bU _ _ _ _ _ _ _).mono ?_
  rintro e v2 ⟨rfl, hb⟩
  exact b6.out v2 (yr (Wn.of_calm hb) bD aM) (HS.out.calm (by omega) cG (by decide) (by decide) rfl bD aM hb) _ rfl (by decide)
 |clear k_c50_2
  obtain ⟨dj, di⟩ := HS.out.pre bD
  have il := di.size
  go_simp
  exact b6.out _ (yr (Wn.of_calm (bA)) bD aM) (HS.out.calm (by omega) cG (by decide) (by decide) rfl bD aM (bA)) _ (GV.new (A := cX) rfl il (cO _ _ _ _ _ _)) (by decide)) : G := h
theorem Oq (h : G := by
 clear hb
 have hb := eV
 clear eV
 have fm := aa (eN.out.calm hb)
 have Ca := aa (bE vY.out hb)
 clear hb eN vY
 first
 |clear k_c51_0
  clear k0 k1 k2 k3 kf
  have b8 : ByteArray.size ⟨#[]⟩ = 0 := by decide
  obtain ⟨f0, f1, f2, f3, ff⟩ := fm.out.cells
  go_wp2
  refine bodyPost_ret (fm.out.read Tryz.results62 rfl _ _ _ _) rfl ⟨bX 19 0 ⟨#[]⟩ (aq 24 0 ch), .slice (some ⟨w5.heap.size, 0, none⟩) 1 1, rfl, ?_⟩
  exact (fm.out.fin (P := fun T => T.sOk = true) (C := E) RR.out (bB (by omega) (by omega) (by decide) (aJ (by omega) (by omega) (by omega))) (lP (by omega) (gG vS.out)) (by rw [b9, bm]; omega)).more (by omega)
 |clear k_c51_1
  clear R1
  have b8 : ByteArray.size ⟨#[]⟩ = 0 := by decide
  obtain ⟨f0, f1, f2, f3, ff⟩ := fm.out.cells
  go_wp2
  refine bodyPost_ret (fm.out.read Tryz.results62 rfl _ _ _ _) rfl ⟨bX 20 0 ⟨#[]⟩ (bX 29 0 ⟨#[]⟩ (aq 24 0 ch)), .slice (some ⟨w5.heap.size, 0, none⟩) 1 1, rfl, ?_⟩
  exact (fm.out.fin (P := fun T => T.sOk = true) (C := E) RR.out (bB (by omega) (by omega) (by decide) (bB (by omega) (by omega) (by decide) (aJ (by omega) (by omega) (by omega)))) (lP (by omega) (vz (gG vS.out))) (by rw [b9, b9, bm]; omega)).more (by omega)
 |clear k_c51_2
  clear RT
  obtain ⟨f0, f1, f2, f3, ff⟩ := fm.out.cells
  go_wp2
  refine bodyPost_ret (fm.out.read Tryz.results62 rfl _ _ _ _) rfl ⟨bX 6 0 num T, .slice (some ⟨w5.heap.size, 0, none⟩) 1 1, rfl, ?_⟩
  exact (fm.out.fin (P := fun T => T.sOk = true) (C := E) RR.out (bB (by omega) (by omega) (by omega) FT.out) (lO (.inr rfl) Px.out OT.out) (by rw [b9]; omega)).more (by omega)) : G := h
theorem Oo (h : G := by
 have FT := aa dT.fine
 have OT := aa dT.ok
 have tq := dT.cost
 have zj := Nd.fine_len dT.fine
 clear dT
 first
 |clear k_c52_0
  have k_c55_2 := kk
  exact UC
 |clear k_c52_1
  have fm := aa (eN.out.step hs hk)
  have Ca := aa (cm vY.out dE hk)
  clear hs hk eN vY
  unfold Nd.val
  go_wp2_with fail
  first
  |clear k_c27_0
   first
   |clear k_c23_0
    refine (aQ _ _ _ _ _ _).mono ?_
    rintro e w7 ⟨rfl, hb⟩
    have RR := aa (RW.one (A := T) fm.out.size RT.out (hb.mono (by simp)) 21 0 ⟨#[]⟩)
    have k_c30_0 := kk
    exact UU
   |clear k_c23_1
    refine (jd _ _ _ _ _).mono ?_
    rintro e w7 ⟨rfl, hb⟩
    have R1 := aa (RW.one (A := T) fm.out.size RT.out (hb.mono (by simp)) 25 0 ⟨#[115, 104, 111, 119]⟩)
    have k_c36_0 := kk
    exact UO
  |clear k_c27_1
   first
   |clear k_c25_0
    refine (aQ _ _ _ _ _ _).mono ?_
    rintro e w7 ⟨rfl, hb⟩
    have RR := aa (RW.one (A := T) fm.out.size RT.out (hb.mono (by simp)) 20 0 ⟨#[]⟩)
    have k_c30_1 := kk
    exact UU
   |clear k_c25_1
    refine (NX.out _ _ (by omega) fm.out 4 (by omega)).mono ?_
    rintro e w7 ⟨q, hq, rfl, hs, hk⟩
    have vL := aa (RW.step RT.out fm.out hk)
    clear RT
    have RT := vL
    clear vL
    have fY := aa (fm.out.step hs hk)
    have CA := aa (cm Ca.out dE hk)
    clear hs hk fm Ca
    go_wp2_with fail
    refine (fE _ _).mono ?_
    rintro e w8 ⟨rfl, hb⟩
    have vL := aa (RW.calm RT.out hb)
    clear RT
    have RT := vL
    clear vL
    have qG := aa (fY.out.calm hb)
    have Yv := aa (bE CA.out hb)
    clear hb fY CA
    go_wp2_with fail
    refine (aQ _ _ _ _ _ _).mono ?_
    rintro e w9 ⟨rfl, hb⟩
    have R1 := aa (RW.two (A := T) (B := aq 22 q ⟨#[]⟩) qG.out.size RT.out (RW.leaf w _ 22 q ⟨#[]⟩) (hb.mono (by simp)) 28 0 ⟨#[43]⟩)
    have eV := (bO w8 (.cells #[.int .i64 T.kind, .int .i64 T.num, .string T.name, .slice aT T.len cT, .int .i64 22, .int .i64 (q : Int), .string ⟨#[]⟩, .slice none 0 0] 25)).trans (hb.mono (by simp))
    have k_c49_0 := kk
    exact Ot
 |clear k_c52_2
  have fY := aa (fm.out.step hs hk)
  have CA := aa (cm Ca.out dE hk)
  clear hs hk fm Ca
  unfold Nd.val
  go_wp2_with fail
  first
  |clear k_c26_0
   refine (aQ _ _ _ _ _ _).mono ?_
   rintro e w8 ⟨rfl, hb⟩
   have RR := aa (RW.one (A := T) fY.out.size RT.out (hb.mono (by simp)) 20 0 ⟨#[]⟩)
   have k_c29_0 := kk
   exact UV
  |clear k_c26_1
   first
   |clear k_c24_0
    refine (aQ _ _ _ _ _ _).mono ?_
    rintro e w8 ⟨rfl, hb⟩
    have RR := aa (RW.one (A := T) fY.out.size RT.out (hb.mono (by simp)) 21 0 ⟨#[]⟩)
    have k_c29_1 := kk
    exact UV
   |clear k_c24_1
    refine (jd _ _ _ _ _).mono ?_
    rintro e w8 ⟨rfl, hb⟩
    have R1 := aa (RW.one (A := T) fY.out.size RT.out (hb.mono (by simp)) 25 0 ⟨#[115, 104, 111, 119]⟩)
    have k_c35_0 := kk
    exact UP
 |clear k_c52_3
  have qG := aa (fY.out.step hs hk)
  have Yv := aa (cm CA.out dE hk)
  clear hs hk fY CA
  unfold Nd.val
  go_wp2_with fail
  refine (aQ _ _ _ _ _ _).mono ?_
  rintro e w9 ⟨rfl, hb⟩
  have RR := aa (RW.one (A := T) qG.out.size RT.out (hb.mono (by simp)) 20 0 ⟨#[]⟩)
  have eV := (bO w8 (.cells #[.int .i64 T.kind, .int .i64 T.num, .string T.name, .slice aT T.len cT] 25)).trans (hb.mono (by simp))
  have k_c49_1 := kk
  exact Ot) : G := h
theorem Jy (h : G := by
 have fm := aa (eN.out.step hs hk)
 have Ca := aa (cm vY.out dE hk)
 clear hs hk eN vY
 first
 |clear k_c53_0
  cases t
  ·exact bc4
  ·have k_c24_1 := kk
   exact U0
 |clear k_c53_1
  cases t
  ·exact bc4
  ·have k_c24_0 := kk
   exact U0
 |clear k_c53_2
  rcases (by omega : q = 0 ∨ q = 1) with rfl | rfl
  ·skip
   go_wp2_with fail
   refine (yG.out _ _ (by omega) fm.out).mono ?_
   exact bc16
  ·skip
   go_wp2_with fail
   refine (B9.out _ _ (by omega) fm.out).mono ?_
   exact bc16
 |clear k_c53_3
  rcases (by omega : q = 0 ∨ q = 1) with rfl | rfl
  ·have k_c32_0 := kk
   exact US
  ·have k_c32_1 := kk
   exact US) : G := h
theorem UD (h : G := by
 have xE := Yf.out (by trivial)
 have hszC := fD xE
 have vS := aa xE
 clear xE Yf
 first
 |clear k_c54_0
  go_wp2_with fail
  obtain ⟨k0, k1, k2, k3, kf⟩ := ax CB.out
  have EXd := aa (Kl.out _ w4.drew (by omega) eW.out.drew)
  have b8 : ByteArray.size ⟨#[]⟩ = 0 := by decide
  have pT : ByteArray.size ⟨#[119, 111, 114, 107]⟩ ≤ 10 := by decide
  go_region_with (first
   |(go_at_call 85; refine EXd.out.mono ?_; rintro e w5 ⟨T, uT, rfl, dT⟩; obtain ⟨aT, cT, rfl⟩ := be dT.row; have eN := aa (eW.out.drew.step dT.src dT.kp); have vY := aa (cm (W := w4.drew) CB.out dE dT.kp); obtain ⟨j0, j1, j2, j3, jf⟩ := ax vY.out; have RT := aa (RW.of_drawn eW.out.drew dT); have FT := aa dT.fine; have OT := aa dT.ok; have tq := dT.cost; have zj := Nd.fine_len dT.fine; clear dT; unfold Nd.val)
   |(go_at_call 55; refine (jd _ _ _ _ _).mono ?_; rintro e w6 ⟨rfl, hb⟩; have eV := (bO w5 (.cells #[.int .i64 24, .int .i64 0, .string ch, .slice none 0 0, .int .i64 T.kind, .int .i64 T.num, .string T.name, .slice aT T.len cT] 25)).trans (hb.mono (by simp)); have R1 := aa (RW.two (A := aq 24 0 ch) (B := T) eN.out.size (RW.leaf w _ 24 0 ch) RT.out (hb.mono (by simp)) 25 0 ⟨#[119, 111, 114, 107]⟩); have fm := aa (eN.out.calm eV); clear hb eV)
   |(go_at_call 36; refine (aQ _ _ _ _ _ _).mono ?_; rintro e w7 ⟨rfl, hb⟩; have eV := (bO w6 (.cells #[.int .i64 25, .int .i64 0, .string ⟨#[119, 111, 114, 107]⟩, .slice (some ⟨w5.heap.size, 0, none⟩) 2 2] 25)).trans (hb.mono (by simp)); have RR := aa (RW.one (A := dR 25 0 ⟨#[119, 111, 114, 107]⟩ (aq 24 0 ch) T) fm.out.size R1.out (hb.mono (by simp)) 13 0 ⟨#[]⟩); have fY := aa (fm.out.calm eV); obtain ⟨f0, f1, f2, f3, ff⟩ := fY.out.cells; clear hb eV))
  all_goals
   go_wp2
   refine bodyPost_ret (fY.out.read Tryz.results62 rfl _ _ _ _) rfl ⟨bX 13 0 ⟨#[]⟩ (dR 25 0 ⟨#[119, 111, 114, 107]⟩ (aq 24 0 ch) T), .slice (some ⟨w6.heap.size, 0, none⟩) 1 1, rfl, ?_⟩
   exact (fY.out.fin (P := fun T => T.sOk = true) (C := E) RR.out (bB (by omega) (by omega) (by decide) (eY (by omega) (by omega) (by decide) (aJ (by omega) (by omega) (by omega)) FT.out)) (sP (by omega) rfl (oe (by decide) (gG vS.out) OT.out)) (by rw [b9, eZ, bm]; omega)).more (by omega)
 |clear k_c54_1
  go_wp2_with fail
  obtain ⟨k0, k1, k2, k3, kf⟩ := ax CB.out
  have EXd := aa (tN.out _ w4.drew (by omega) eW.out.drew)
  have b8 : ByteArray.size ⟨#[]⟩ = 0 := by decide
  first
  |clear k_c33_0
   have pT : ByteArray.size ⟨#[112, 117, 116]⟩ ≤ 10 := by decide
   go_region_with (first
    |(go_at_call 85; refine EXd.out.mono ?_; rintro e w5 ⟨T, uT, rfl, dT⟩; obtain ⟨aT, cT, rfl⟩ := be dT.row; have eN := aa (eW.out.drew.step dT.src dT.kp); have vY := aa (cm (W := w4.drew) CB.out dE dT.kp); obtain ⟨j0, j1, j2, j3, jf⟩ := ax vY.out; have RT := aa (RW.of_drawn eW.out.drew dT); have FT := aa dT.fine; have OT := aa dT.ok; have tq := dT.cost; have zj := Nd.fine_len dT.fine; clear dT; unfold Nd.val)
    |(go_at_call 55; refine (jd _ _ _ _ _).mono ?_; rintro e w6 ⟨rfl, hb⟩; have eV := (bO w5 (.cells #[.int .i64 24, .int .i64 0, .string ch, .slice none 0 0, .int .i64 T.kind, .int .i64 T.num, .string T.name, .slice aT T.len cT] 25)).trans (hb.mono (by simp)); have R1 := aa (RW.two (A := aq 24 0 ch) (B := T) eN.out.size (RW.leaf w _ 24 0 ch) RT.out (hb.mono (by simp)) 25 0 ⟨#[112, 117, 116]⟩); have fm := aa (eN.out.calm eV); clear hb eV)
    |(go_at_call 36; refine (aQ _ _ _ _ _ _).mono ?_; rintro e w7 ⟨rfl, hb⟩; have eV := (bO w6 (.cells #[.int .i64 25, .int .i64 0, .string ⟨#[112, 117, 116]⟩, .slice (some ⟨w5.heap.size, 0, none⟩) 2 2] 25)).trans (hb.mono (by simp)); have RR := aa (RW.one (A := dR 25 0 ⟨#[112, 117, 116]⟩ (aq 24 0 ch) T) fm.out.size R1.out (hb.mono (by simp)) 13 0 ⟨#[]⟩); have fY := aa (fm.out.calm eV); obtain ⟨f0, f1, f2, f3, ff⟩ := fY.out.cells; clear hb eV))
   all_goals
    go_wp2
    refine bodyPost_ret (fY.out.read Tryz.results62 rfl _ _ _ _) rfl ⟨bX 13 0 ⟨#[]⟩ (dR 25 0 ⟨#[112, 117, 116]⟩ (aq 24 0 ch) T), .slice (some ⟨w6.heap.size, 0, none⟩) 1 1, rfl, ?_⟩
    exact (fY.out.fin (P := fun T => T.sOk = true) (C := E) RR.out (bB (by omega) (by omega) (by decide) (eY (by omega) (by omega) (by decide) (aJ (by omega) (by omega) (by omega)) FT.out)) (sP (by omega) rfl (oe (by decide) (gG vS.out) OT.out)) (by rw [b9, eZ, bm]; omega)).more (by omega)
  |clear k_c33_1
   go_region_with (first
    |(go_at_call 85; refine EXd.out.mono ?_; rintro e w5 ⟨T, uT, rfl, dT⟩; obtain ⟨aT, cT, rfl⟩ := be dT.row; have eN := aa (eW.out.drew.step dT.src dT.kp); have vY := aa (cm (W := w4.drew) CB.out dE dT.kp); obtain ⟨j0, j1, j2, j3, jf⟩ := ax vY.out; have RT := aa (RW.of_drawn eW.out.drew dT); have FT := aa dT.fine; have OT := aa dT.ok; have tq := dT.cost; have zj := Nd.fine_len dT.fine; clear dT; unfold Nd.val)
    |(go_at_call 36; refine (aQ _ _ _ _ _ _).mono ?_; rintro e w6 ⟨rfl, hb⟩; have eV := (bO w5 (.cells #[.int .i64 24, .int .i64 0, .string ch, .slice none 0 0, .int .i64 T.kind, .int .i64 T.num, .string T.name, .slice aT T.len cT] 25)).trans (hb.mono (by simp)); have RR := aa (RW.two (A := aq 24 0 ch) (B := T) eN.out.size (RW.leaf w _ 24 0 ch) RT.out (hb.mono (by simp)) 8 0 ⟨#[]⟩); have fm := aa (eN.out.calm eV); obtain ⟨f0, f1, f2, f3, ff⟩ := fm.out.cells; clear hb eV))
   all_goals
    go_wp2
    refine bodyPost_ret (fm.out.read Tryz.results62 rfl _ _ _ _) rfl ⟨dR 8 0 ⟨#[]⟩ (aq 24 0 ch) T, .slice (some ⟨w5.heap.size, 0, none⟩) 2 2, rfl, ?_⟩
    exact (fm.out.fin (P := fun T => T.sOk = true) (C := E) RR.out (eY (by omega) (by omega) (by decide) (aJ (by omega) (by omega) (by omega)) FT.out) (Dw (gG vS.out) OT.out) (by rw [eZ, bm]; omega)).more (by omega)
 |clear k_c54_2
  obtain ⟨k0, k1, k2, k3, kf⟩ := ax CB.out
  go_wp2_with fail
  refine (aQ _ _ _ _ _ _).mono ?_
  rintro e w5 ⟨rfl, hb⟩
  have R1 := aa (RW.one (A := aq 24 0 ch) eW.out.size (RW.leaf w _ 24 0 ch) (hb.mono (by simp)) 29 0 ⟨#[]⟩)
  have eV := (bO w4 (.cells #[.int .i64 24, .int .i64 0, .string ch, .slice none 0 0] 25)).trans (hb.mono (by simp))
  clear hb
  have hb := eV
  clear eV
  have eN := aa (eW.out.calm hb)
  have vY := aa (bE CB.out hb)
  clear hb eW CB
  clear k0 k1 k2 k3 kf
  go_wp2_with fail
  refine (aQ _ _ _ _ _ _).mono ?_
  rintro e w6 ⟨rfl, hb⟩
  have RR := aa (RW.one (A := bX 29 0 ⟨#[]⟩ (aq 24 0 ch)) eN.out.size R1.out (hb.mono (by simp)) 20 0 ⟨#[]⟩)
  have eV := (bO w5 (.cells #[.int .i64 29, .int .i64 0, .string ⟨#[]⟩, .slice (some ⟨w4.heap.size, 0, none⟩) 1 1] 25)).trans (hb.mono (by simp))
  have k_c51_1 := kk
  exact Oq
 |clear k_c54_3
  have k_c46_0 := kk
  exact UG) : G := h
theorem UC (h : G := by
 have eN := aa (eW.out.step hs hk)
 have vY := aa (cm CB.out dE hk)
 clear hs hk eW CB
 first
 |clear k_c55_0
  go_wp2_with fail
  refine (tN.out _ _ (by omega) eN.out).mono ?_
  have k_c25_1 := kk
  exact UZ
 |clear k_c55_1
  cases t
  first
  |clear k_c48_0
   ·exact JB
   ·have k_c23_0 := kk
    exact U1
  |clear k_c48_1
   ·exact JB
   ·skip
    have CC := aa (BD Ny)
    have EG : Tryz.prog.follows Departure.mixedOrders = true := by kernel_rfl
    obtain ⟨iv, Ns, xx, xw, xu⟩ := info_parts sY
    obtain ⟨v3, w3, ei, pU, cZ⟩ := oj (B := w5.heap.size) (SC.out _ _ eN.out) lr
    obtain ⟨a3, c3, rfl⟩ := pU.shape
    obtain ⟨f3, uY, EA⟩ := id pU
    have nF := aa ei
    have Yp := aa (eN.out.calm cZ)
    have hszk := eN.out.size
    have hlowk := eN.out.low
    have hz3x := cZ.size
    have FL := aa uY
    have LA := aa pU
    clear ei pU cZ eN vY Kl tN yG B9 SL PV uY
    go_wp2_with (first
     |(at_builtin; refine dW _ rfl _ _ 49 rfl _ _ _ _ rfl rfl nF.out ?_; clear nF)
     |(at_builtin; refine bp _ rfl _ _ 49 rfl w5.heap.size 92 iv (.agg #[.string ⟨#[]⟩, .int .i64 0, .int .i64 0]) 3 32 Tryz.underlying49 Ns xx xw xu rfl (by decide) _ n _ rfl (FL.out.alloc _) ⟨w3.heap.size, 0, none⟩ 1 1 [.string ⟨#[105]⟩, .int .i64 1, .int .i64 0] rfl rfl (lK _ _ _ _ _) (nc _ _ _) (by unfold maxLen; omega) (by omega) (by simp; omega) ?_; intro v4 wI uX pX EH Er; obtain ⟨aI, cI, rR⟩ := Er.out; subst rR)
     |(go_at_call 34; fail))
    have XW := aa (sL (t := 1) EA (show aR ⟨#[105]⟩ = true by decide) uX.out)
    have HDI := aa ((Yp.out.alloc (.cells #[.string ⟨#[105]⟩, .int .i64 1, .int .i64 0] 92)).grown pX.out (fun g hg => by have := (LA.out.lt g hg).1; omega))
    have Sq := HDI.out.size
    clear uX pX EH Er Yp LA FL EA
    refine (NX.out _ _ (by omega) HDI.out 3 (by omega)).mono ?_
    rintro e wX ⟨q, hq, rfl, hs, hk⟩
    have Cu := aa (HDI.out.step hs hk)
    have XV := aa (XW.out.kp (sb := sb) (by omega) hk)
    clear hs hk HDI XW
    go_wp2_with fail
    refine (qt CC.out sb _ (n + 1) q (.slice aI (n + 1) cI) true wX (by omega) (by omega) (by omega) Cu.out.src (XV.out.scp (by omega) (by omega))).mono ?_
    rintro e wY ⟨TB, uB, rfl, dB⟩
    obtain ⟨aB, cB, rfl⟩ := be dB.row
    have PJ := aa (Cu.out.step dB.src dB.kp)
    have hsX := Cu.out.size
    have Sa := dB.kp.size
    have RB := aa (ah (bO wY (fS TB.kind TB.num TB.name aB TB.len cB)) lr dB.row)
    have PB : Hid (hQ (2 * C) TB) := ⟨dB.fine, dB.ok.1, dB.cost⟩
    have Qc := Nd.fine_len dB.fine
    have Tc : TB.len ≤ 2 := dB.ok.2
    clear dB Cu XV
    unfold Nd.val
    obtain ⟨wE, Be⟩ : ∃ W, wY.alloc (fS TB.kind TB.num TB.name aB TB.len cB) = W := ⟨_, rfl⟩
    have vU := aa (PJ.out.alloc (fS TB.kind TB.num TB.name aB TB.len cB))
    have cP := aa (heap_alloc_new wY (fS TB.kind TB.num TB.name aB TB.len cB))
    have hzE : wY.heap.size + 1 ≤ wE.heap.size := by rw [← Be]; simp
    rw [Be] at vU cP RB
    have LC := aa Be
    clear Be PJ
    have lp : wY.heap.size ≠ sb := by omega
    go_upto_region 55 with fail
    rw [show (wY.alloc (Obj.cells #[.int .i64 TB.kind, .int .i64 TB.num, .string TB.name, .slice aB TB.len cB] 25)) = wE from LC.out]
    clear LC
    have ji : ar (fun _ => 0) 7 = 0 := by simp [ar]
    refine cQ EG (by kernel_rfl) Gy (FI wY.heap.size wE.heap.size (w.heap.size + 1) aB TB cB) (GS sb (A + 3 + 3 + 3 + 3 + 3 + (2 * K + 10)) (fun _ => 0) 7 4 6 w wE (wY.heap.size) (F55 sb (A + 3 + 3 + 3 + 3 + 3 + (2 * K + 10)) (w.heap.size + 1) wY.heap.size cX TB w)) (GS.start _ vU.out) ?_ ?_
    ·intro l a v i hI hr
     have zl : i < 7 := (bj hr).1
     have cG := (bj hr).2
     have th : l.size = 7 := hI.lsize
     have HS := aa hI.s
     have jB := aa hI.shut
     have b6 := aa (fun (v' : World) (hw : ∀ jj x, l.getD jj false = true → FI wY.heap.size wE.heap.size (w.heap.size + 1) aB TB cB jj v x → FI wY.heap.size wE.heap.size (w.heap.size + 1) aB TB cB jj v' x) (iC : GS sb (A + 3 + 3 + 3 + 3 + 3 + (2 * K + 10)) (fun _ => 0) 7 4 6 w wE (wY.heap.size) (F55 sb (A + 3 + 3 + 3 + 3 + 3 + (2 * K + 10)) (w.heap.size + 1) wY.heap.size cX TB w) (l.setIfInBounds i true) v') (x : Value) (hx : FI wY.heap.size wE.heap.size (w.heap.size + 1) aB TB cB i v' x) (b8 : Gy i < 258) => hI.put Ks hr b8 hw iC hx)
     have po := aa (fun (v' : World) (hw : ∀ jj x, l.getD jj false = true → FI wY.heap.size wE.heap.size (w.heap.size + 1) aB TB cB jj v x → FI wY.heap.size wE.heap.size (w.heap.size + 1) aB TB cB jj v' x) (iC : GS sb (A + 3 + 3 + 3 + 3 + 3 + (2 * K + 10)) (fun _ => 0) 7 4 6 w wE (wY.heap.size) (F55 sb (A + 3 + 3 + 3 + 3 + 3 + (2 * K + 10)) (w.heap.size + 1) wY.heap.size cX TB w) (l.setIfInBounds i true) v') (hx : ∀ x, FI wY.heap.size wE.heap.size (w.heap.size + 1) aB TB cB i v' x) => hI.none hr hw iC hx)
     have bC := aa (fun (j : Nat) (hj : j < 7) (hl : l.getD j false = true) => hI.vals j hj hl)
     have bc := fG hr
     have s17 : a.tmps[17]?.getD undef = .pointer (some ⟨wY.heap.size, 0, none⟩) := ab (hI.keep 17 (by intro i hi; have h2 : i < 7 := hi; show 17 ≠ Gy i; have : ((List.range 7).all fun i => decide (Gy i ≠ 17)) = true := (by decide); have h3 := List.all_eq_true.1 this i (List.mem_range.2 h2); simp at h3; exact fun e => h3 e.symm))
     clear hI hr
     rcases (by omega : i = 0 ∨ i = 1 ∨ i = 2 ∨ i = 3 ∨ i = 4 ∨ i = 5 ∨ i = 6) with rfl | rfl | rfl | rfl | rfl | rfl | rfl
     all_goals (refine cS rfl rfl ?_)
     ·have k_c50_1 := kk
      exact Jz
     ·have h229 := ab (show a.eval (.tmp 229) = .agg #[.int .i64 7, .int .i64 1, .string ⟨#[105]⟩, .slice none 0 0] from ag bC bc 0 rfl)
      have k_c50_2 := kk
      exact Jz
     ·exact U7
     ·have h231 := ab (show a.eval (.tmp 231) = .pointer (some ⟨wY.heap.size, 3, none⟩) from ag bC bc 2 rfl)
      have k_c50_0 := kk
      exact Jz
     ·obtain ⟨A3, u3, g3, rfl, mq, hx, II⟩ : GV wE.heap.size (fun A => A = cX) v (a.eval (.tmp 230)) := ag bC bc 1 rfl
      have h232 : a.eval (.tmp 232) = .slice aB TB.len cB := ag bC bc 3 rfl
      have bD := cC cG
      have aM := dm (f := 40) (j := 6) jB.out (by kernel_rfl) cG
      obtain ⟨dj, di⟩ := HS.out.pre bD
      have il := di.size
      obtain ⟨aj, cj, v2, vs, ei, fz, aX, eF⟩ := gH (II.weak (show w.heap.size + 1 ≤ wE.heap.size by omega)) (fJ RB.out (by omega) (by omega) di) (by omega) (by omega) Sa (by omega) (fun g hg => .inr (by simp [Value.ownBlock] at hg; omega)) (by omega)
      have pZ := qw II (fJ RB.out (by omega) (by omega) di) (by omega) ei
      refine jC rfl hx h232 (ei _) ?_
      refine b6.out v2 (yr (Wn.of_calm pZ) bD aM) (HS.out.join (by omega) cG (by decide) aM (by omega) lp aX (fun k hk => by simp [Value.ownBlock] at hk; omega)) _ ⟨_, _, _, _, aj, cj, rfl, fz, rfl, ?_, fun i hi => ?_⟩ (by decide)
      ·rcases eF with e | ⟨k, e, hk⟩
       ·rw [e]; simp [Value.ownBlock]; omega
       ·rw [e]; intro h; have := Option.some.inj h; omega
      ·by_cases h3 : i < 1
       ·rw [bw _ _ h3, bw _ _ h3]; left; omega
       ·rw [bW _ _ (by omega), bW _ _ (by omega)]; right; omega
     ·exact U7
     ·have h234 := ab (show a.eval (.tmp 234) = .pointer (some ⟨wY.heap.size, 3, none⟩) from ag bC bc 5 rfl)
      obtain ⟨Ts, us, s2, e2, a2, c2, hx, fz, rfl, rU, rT⟩ : AV (w.heap.size + 1) wY.heap.size (1 + TB.len) (fun Ts => Ts = cJ (fun _ => cX) 1 TB.kids) v (a.eval (.tmp 233)) := ag bC bc 4 rfl
      have h233 := ab hx
      have Bm : l.getD 4 false = true := bc.out _ rfl ⟨4, Ground.data⟩ (by simp) rfl
      obtain ⟨dj, gE⟩ := HS.out.mid Bm (cC cG)
      rw [ji] at dj
      have kC := gE.trans cP.out
      obtain ⟨z0, z1, z2, z3, zf⟩ := ax kC
      have Kx := zf 3
      have HF55 : Hid (F55 sb (A + 3 + 3 + 3 + 3 + 3 + (2 * K + 10)) (w.heap.size + 1) wY.heap.size cX TB w (v.setCell ⟨wY.heap.size, 3, none⟩ (.slice a2 (1 + TB.len) c2))) := ⟨dj.put _ _ _ (by omega), us, s2, e2, a2, c2, (heap_setCell_same v wY.heap.size 3 _ 25 (.slice a2 (1 + TB.len) c2) kC).trans rfl, fz.put rU rT⟩
      clear hx dj gE kC fz zf
      go_simp
      exact po.out _ (fun j x _ hx => Pg (by omega) j x hx) (GS.store (by omega) (.inr Bm) HF55.out) (fun _ => trivial)
    ·intro a v b8 jv cz qc ee
     obtain ⟨l, hS, bl⟩ := qc
     have HF := aa (hS.fin (bl 6 (by decide)))
     rw [eJ (n := 7) b8 jv cz]
     generalize (fun i => a.eval (.tmp (Gy i))) = ff
     clear b8 jv cz ee hS bl
     simp only [ig, Act.put, Gy, List.getD_cons_zero, List.getD_cons_succ, List.setIfInBounds_toArray, List.set_cons_succ, List.set_cons_zero, List.set_nil]
     obtain ⟨dj, us, s2, e2, la, lc, fP, fz⟩ := HF.out
     have HDG := aa dj
     have RL : Hid (Row (w.heap.size + 1) v.heap.size v (ct cX TB) (.slice la (1 + TB.len) lc)) := fz.row lr TB.kind TB.num TB.name
     have Cw := aa fP
     have Sb := (Array.getElem?_eq_some_iff.1 fP).1
     obtain ⟨wG, KP⟩ : ∃ W, W = v := ⟨_, rfl⟩
     rw [← KP] at HDG RL Cw Sb ⊢
     clear dj fz HF fP cP vU RB KP
     have Su : ar (fun i => if i = 5 then 3 else 0) 16 = 3 := by simp [ar]
     have SF : sb < w.heap.size + 1 := by omega
     have Ir := HDG.out.size
     go_upto_region 56 with fail
     refine cQ EG (by kernel_rfl) zQ (FH sb (w.heap.size + 1) la (ct cX TB) lc) (GS sb (A + 3 + 3 + 3 + 3 + 3 + (2 * K + 10)) (fun i => if i = 5 then 3 else 0) 16 15 15 w wG (0) (F56 sb (A + 3 + 3 + 3 + 3 + 3 + (2 * K + 10) + 3) (ct cX TB) w)) (GS.start _ HDG.out) ?_ ?_
     ·intro l a v i hI hr
      have zl : i < 16 := (bj hr).1
      have cG := (bj hr).2
      have th : l.size = 16 := hI.lsize
      have HS := aa hI.s
      have mL := iS (fun i => if i = 5 then 3 else 0) l 16
      rw [Su] at mL
      have jB := aa hI.shut
      have b6 := aa (fun (v' : World) (hw : ∀ jj x, l.getD jj false = true → FH sb (w.heap.size + 1) la (ct cX TB) lc jj v x → FH sb (w.heap.size + 1) la (ct cX TB) lc jj v' x) (iC : GS sb (A + 3 + 3 + 3 + 3 + 3 + (2 * K + 10)) (fun i => if i = 5 then 3 else 0) 16 15 15 w wG (0) (F56 sb (A + 3 + 3 + 3 + 3 + 3 + (2 * K + 10) + 3) (ct cX TB) w) (l.setIfInBounds i true) v') (x : Value) (hx : FH sb (w.heap.size + 1) la (ct cX TB) lc i v' x) (b8 : zQ i < 258) => hI.put Kr hr b8 hw iC hx)
      have po := aa (fun (v' : World) (hw : ∀ jj x, l.getD jj false = true → FH sb (w.heap.size + 1) la (ct cX TB) lc jj v x → FH sb (w.heap.size + 1) la (ct cX TB) lc jj v' x) (iC : GS sb (A + 3 + 3 + 3 + 3 + 3 + (2 * K + 10)) (fun i => if i = 5 then 3 else 0) 16 15 15 w wG (0) (F56 sb (A + 3 + 3 + 3 + 3 + 3 + (2 * K + 10) + 3) (ct cX TB) w) (l.setIfInBounds i true) v') (hx : ∀ x, FH sb (w.heap.size + 1) la (ct cX TB) lc i v' x) => hI.none hr hw iC hx)
      have bC := aa (fun (j : Nat) (hj : j < 16) (hl : l.getD j false = true) => hI.vals j hj hl)
      have bc := fG hr
      have s0 : a.tmps[0]?.getD undef = .pointer (some ⟨sb, 0, none⟩) := ab (hI.keep 0 (by intro i hi; have h2 : i < 16 := hi; show 0 ≠ zQ i; have : ((List.range 16).all fun i => decide (zQ i ≠ 0)) = true := (by decide); have h3 := List.all_eq_true.1 this i (List.mem_range.2 h2); simp at h3; exact fun e => h3 e.symm))
      have s8 : a.tmps[8]?.getD undef = .pointer (some ⟨w.heap.size, 0, none⟩) := ab (hI.keep 8 (by intro i hi; have h2 : i < 16 := hi; show 8 ≠ zQ i; have : ((List.range 16).all fun i => decide (zQ i ≠ 8)) = true := (by decide); have h3 := List.all_eq_true.1 this i (List.mem_range.2 h2); simp at h3; exact fun e => h3 e.symm))
      have s17 : a.tmps[17]?.getD undef = .pointer (some ⟨wY.heap.size, 0, none⟩) := ab (hI.keep 17 (by intro i hi; have h2 : i < 16 := hi; show 17 ≠ zQ i; have : ((List.range 16).all fun i => decide (zQ i ≠ 17)) = true := (by decide); have h3 := List.all_eq_true.1 this i (List.mem_range.2 h2); simp at h3; exact fun e => h3 e.symm))
      clear hI hr
      rcases (by omega : i = 0 ∨ i = 1 ∨ i = 2 ∨ i = 3 ∨ i = 4 ∨ i = 5 ∨ i = 6 ∨ i = 7 ∨ i = 8 ∨ i = 9 ∨ i = 10 ∨ i = 11 ∨ i = 12 ∨ i = 13 ∨ i = 14 ∨ i = 15) with rfl | rfl | rfl | rfl | rfl | rfl | rfl | rfl | rfl | rfl | rfl | rfl | rfl | rfl | rfl | rfl
      all_goals (refine cS rfl rfl ?_)
      ·have k_c42_1 := kk
       exact UJ
      ·have h235 := ab (show a.eval (.tmp 235) = .agg #[.int .i64 22, .int .i64 0, .string ⟨#[]⟩, .slice none 0 0] from ag bC bc 0 rfl)
       have k_c34_0 := kk
       exact UQ
      ·obtain ⟨T1, a1, c1, zb, dH, fN⟩ : LV (w.heap.size + 1) (fun T => T = bX 0 0 ⟨#[]⟩ (aq 22 0 ⟨#[]⟩)) v (a.eval (.tmp 236)) := ag bC bc 1 rfl
       subst zb
       have h236 := ab dH
       have HR := aa fN
       clear dH fN
       have k_c38_0 := kk
       exact UM
      ·have k_c44_0 := kk
       exact UI
      ·exact U7
      ·have h239 := ab (show a.eval (.tmp 239) = .pointer (some ⟨sb, 0, none⟩) from ag bC bc 4 rfl)
       have k_c44_1 := kk
       exact UI
      ·obtain ⟨q2, iL, hx⟩ : ∃ q : Nat, q < 3 ∧ a.eval (.tmp 240) = .int .i64 (q : Int) := ag bC bc 5 rfl
       have h240 := ab hx
       have hwq : IntKind.i64.wrap (1 + (q2 : Int)) = 1 + (q2 : Int) := fq (by omega) (by omega)
       clear hx
       go_simp
       exact b6.out v (fun _ _ _ h => h) (HS.out.same (by omega) cG (by decide) (by decide) rfl) _ ⟨q2, iL, rfl⟩ (by decide)
      ·obtain ⟨q2, iL, hx⟩ : ∃ q : Nat, q < 3 ∧ a.eval (.tmp 241) = .int .i64 (1 + (q : Int)) := ag bC bc 6 rfl
       have h241 := ab hx
       clear hx
       have k_c42_0 := kk
       exact UJ
      ·have h238 := ab (show a.eval (.tmp 238) = .agg #[.int .i64 24, .int .i64 0, .string ⟨#[105]⟩, .slice none 0 0] from ag bC bc 3 rfl)
       obtain ⟨q2, iL, hx⟩ : ∃ q : Nat, q < 3 ∧ a.eval (.tmp 242) = .agg #[.int .i64 22, .int .i64 (1 + (q : Int)), .string ⟨#[]⟩, .slice none 0 0] := ag bC bc 7 rfl
       have h242 := ab hx
       clear hx
       have k_c34_1 := kk
       exact UQ
      ·obtain ⟨T8, a8, c8, hp8, hx8, hr8⟩ : LV (w.heap.size + 1) (fun T => ∃ q : Nat, q < 3 ∧ T = dR 0 0 ⟨#[]⟩ (aq 24 0 ⟨#[105]⟩) (aq 22 (1 + (q : Int)) ⟨#[]⟩)) v (a.eval (.tmp 243)) := ag bC bc 8 rfl
       obtain ⟨q2, iL, rfl⟩ := hp8
       have h243 := ab hx8
       have HR := aa hr8
       clear hx8 hr8
       have k_c38_1 := kk
       exact UM
      ·have k_c44_2 := kk
       exact UI
      ·obtain ⟨T9, a9, c9, hp9, Sg, M7⟩ : TV (w.heap.size + 1) (fun T => ∃ q : Nat, q < 3 ∧ T = mw q) v (a.eval (.tmp 244)) := ag bC bc 9 rfl
       obtain ⟨q2, iL, rfl⟩ := hp9
       have h244 := ab Sg
       have HR := aa M7
       have h245 := ab (show a.eval (.tmp 245) = .agg #[.int .i64 TB.kind, .int .i64 TB.num, .string TB.name, .slice la (1 + TB.len) lc] from ag bC bc 10 rfl)
       unfold Nd.val at h244
       clear Sg M7
       have k_c39_1 := kk
       exact Ou
      ·obtain ⟨T11, a11, gN, Nj, Eo, Ev⟩ : LV (w.heap.size + 1) (fun T => ∃ q : Nat, q < 3 ∧ T = dR 0 0 ⟨#[]⟩ (mw q) (ct cX TB)) v (a.eval (.tmp 246)) := ag bC bc 11 rfl
       obtain ⟨q2, iL, rfl⟩ := Nj
       have h246 := ab Eo
       have HR := aa Ev
       clear Eo Ev
       have k_c38_2 := kk
       exact UM
      ·obtain ⟨T2, a2, c2, Ex, ft, jk⟩ : TV (w.heap.size + 1) (fun T => T = q8) v (a.eval (.tmp 237)) := ag bC bc 2 rfl
       subst Ex
       have h237 := ab ft
       have Qv := aa jk
       obtain ⟨T12, a12, gR, hp12, Sj, SO⟩ : TV (w.heap.size + 1) (fun T => ∃ q : Nat, q < 3 ∧ T = vn q (ct cX TB)) v (a.eval (.tmp 247)) := ag bC bc 12 rfl
       obtain ⟨q2, iL, rfl⟩ := hp12
       have h247 := ab Sj
       have HR := aa SO
       unfold Nd.val at h237 h247
       clear ft jk Sj SO
       have k_c34_2 := kk
       exact UQ
      ·obtain ⟨T13, a13, gM, Ni, En, Eu⟩ : LV (w.heap.size + 1) (fun T => ∃ q : Nat, q < 3 ∧ T = dR 0 0 ⟨#[]⟩ q8 (vn q (ct cX TB))) v (a.eval (.tmp 248)) := ag bC bc 13 rfl
       obtain ⟨q2, iL, rfl⟩ := Ni
       have h248 := ab En
       have HR := aa Eu
       clear En Eu
       have k_c38_3 := kk
       exact UM
      ·obtain ⟨T14, a14, c14, Nh, Em, Et⟩ : TV (w.heap.size + 1) (fun T => ∃ q : Nat, q < 3 ∧ T = lh q (ct cX TB)) v (a.eval (.tmp 249)) := ag bC bc 14 rfl
       obtain ⟨q2, iL, rfl⟩ := Nh
       have h249 := ab Em
       unfold Nd.val at h249
       have bD := cC cG
       obtain ⟨dj, di⟩ := HS.out.pre bD
       obtain ⟨f0, f1, f2, f3, ff⟩ := dj.cells
       have HF56 : Hid (F56 sb (A + 3 + 3 + 3 + 3 + 3 + (2 * K + 10) + 3) (ct cX TB) w (fe v w.heap.size 4 0 ⟨#[]⟩ (.slice a14 2 c14))) := ⟨v, q2, a14, c14, ⟨dj.src.mono (by omega), dj.kp, dj.low⟩, iL, Et, rfl⟩
       clear Em Et dj di
       go_simp
       exact po.out _ (fun j x _ hx => Pf (Wn.of_put (by omega)) j x hx) (GS.store (by omega) (.inl rfl) HF56.out) (fun _ => trivial)
     ·intro a v b8 jv cz qc ee
      obtain ⟨l, hS, bl⟩ := qc
      have HF := aa (hS.fin (bl 15 (by decide)))
      rw [eJ (n := 16) b8 jv cz]
      generalize (fun i => a.eval (.tmp (zQ i))) = ff
      clear b8 jv cz ee hS bl
      simp only [ig, Act.put, zQ, List.getD_cons_zero, List.getD_cons_succ, List.setIfInBounds_toArray, List.set_cons_succ, List.set_cons_zero, List.set_nil]
      obtain ⟨v0, q2, a2, c2, dj, iL, dJ, rfl⟩ := HF.out
      have yD := aa dj
      have HRq := aa dJ
      have hcB := PB.out.2.2
      have hcL := oi cX TB
      have hsI : cX.cost ≤ 40 := by decide
      have Qi : Hid ((lh q2 (ct cX TB)).sOk = true ∧ (lh q2 (ct cX TB)).Fine ∧ (lh q2 (ct cX TB)).cost ≤ 2 * C + 200) := Ib iL (uk (.inl rfl) (by decide)) (by decide) PB.out.1 PB.out.2.1.1 PB.out.2.1.2 (by omega) (by omega)
      clear dj dJ HF Cw RL HDG
      go_wp2
      refine bodyPost_ret (yD.out.read Tryz.results62 rfl _ _ _ _) rfl ⟨lh q2 (ct cX TB), _, rfl, ?_⟩
      exact (yD.out.fin (P := fun T => T.sOk = true) (C := E) HRq.out Qi.out.2.1 Qi.out.1 (by have := Qi.out.2.2; omega)).more (by omega)
  |clear k_c48_2
   first
   |clear k_c46_0
    ·skip
     go_wp2_with fail
     refine (CH.out _ _ (by omega) eN.out 3 (by omega)).mono ?_
     rintro e w6 ⟨t, rfl, hs, hk⟩
     have k_c53_0 := kk
     exact Jy
    ·skip
     obtain ⟨k0, k1, k2, k3, kf⟩ := ax vY.out
     go_wp2_with fail
     refine (aQ _ _ _ _ _ _).mono ?_
     rintro e w6 ⟨rfl, hb⟩
     have RR := aa (RW.one (A := aq 24 0 ch) eN.out.size (RW.leaf w _ 24 0 ch) (hb.mono (by simp)) 19 0 ⟨#[]⟩)
     have eV := (bO w5 (.cells #[.int .i64 24, .int .i64 0, .string ch, .slice none 0 0] 25)).trans (hb.mono (by simp))
     have k_c51_0 := kk
     exact Oq
   |clear k_c46_1
    first
    |clear k_c40_0
     ·exact JB
     ·have k_c23_1 := kk
      exact U1
    |clear k_c40_1
     ·skip
      go_wp2_with fail
      refine (CH.out _ _ (by omega) eN.out 6 (by omega)).mono ?_
      rintro e w6 ⟨t, rfl, hs, hk⟩
      have k_c53_1 := kk
      exact Jy
     ·skip
      have hzB := eN.out.size
      go_wp2_with fail
      refine (NX.out _ _ (by omega) (eN.out.alloc _) 2 (by omega)).mono ?_
      rintro e w6 ⟨q, hq, rfl, hs, hk⟩
      have mM := eN.out.low
      have lu : w6.heap[w5.heap.size]? = some (.cells #[.int .i64 17, .int .i64 18] 3 (0, 0)) := (hk.block _ (by simp) (by omega)).trans (heap_alloc_new w5 _)
      have fs : w6.cell? ⟨w5.heap.size, 0, none⟩ = some (.int .i64 17) := by rw [cell_of_row _ _ _ _ _ (0, 0) lu]; rfl
      have eM : w6.cell? ⟨w5.heap.size, 1, none⟩ = some (.int .i64 18) := by rw [cell_of_row _ _ _ _ _ (0, 0) lu]; rfl
      have Tj := (bG (bO w5 _) (fun k => k = sb)).trans hk (fun _ _ h => h)
      clear hk lu
      have hk := Tj
      clear Tj
      have k_c53_3 := kk
      exact Jy
 |clear k_c55_2
  unfold Nd.val
  first
  |clear k_c28_0
   go_wp2_with fail
   refine (aQ _ _ _ _ _ _).mono ?_
   rintro e w6 ⟨rfl, hb⟩
   have RR := aa (RW.one (A := T) eN.out.size RT.out (hb.mono (by simp)) 6 0 num)
   have eV := (bO w5 (.cells #[.int .i64 T.kind, .int .i64 T.num, .string T.name, .slice aT T.len cT] 25)).trans (hb.mono (by simp))
   have k_c51_2 := kk
   exact Oq
  |clear k_c28_1
   obtain ⟨f0, f1, f2, f3, ff⟩ := eN.out.cells
   go_wp2
   refine bodyPost_ret (eN.out.read Tryz.results62 rfl _ _ _ _) rfl ⟨T, .slice aT T.len cT, rfl, ?_⟩
   exact (eN.out.fin (P := fun T => T.sOk = true) (C := E) RT.out FT.out OT.out (by omega)).more (by omega)
 |clear k_c55_3
  first
  |clear k_c41_0
   go_wp2_with fail
   refine (bU _ _ _ _ _ _ _).mono ?_
   rintro e w6 ⟨rfl, hb⟩
   have fm := aa (eN.out.calm hb)
   have Ca := aa (bE vY.out hb)
   clear hb eN vY
   obtain ⟨f0, f1, f2, f3, ff⟩ := fm.out.cells
   go_wp2
   refine bodyPost_ret (fm.out.read Tryz.results62 rfl _ _ _ _) rfl ⟨aq 7 (1 - 2 * (q : Int)) num, .slice none 0 0, rfl, ?_⟩
   exact (fm.out.fin (P := fun T => T.sOk = true) (C := E) (RW.leaf w _ 7 (1 - 2 * (q : Int)) num) (aJ (by omega) (by omega) (by omega)) (uk (by omega) Px.out) (by rw [bm]; omega)).more (by omega)
  |clear k_c41_1
   rcases (by omega : q = 0 ∨ q = 1) with rfl | rfl
   ·skip
    go_wp2_with fail
    refine (yG.out _ _ (by omega) eN.out).mono ?_
    exact U5
   ·skip
    go_wp2_with fail
    refine (B9.out _ _ (by omega) eN.out).mono ?_
    exact U5) : G := h
theorem Dg (deep : Int) (C K M C1 K1 M1 E : Nat) (hE : 4 * C + 1000 ≤ E) (hE1 : C1 ≤ E) (h0 : 0 ≤ deep) (h9 : deep ≤ 100) (hC : C ≤ 100000000) (hK : K ≤ 100000000) (hC1 : C1 ≤ 100000000) (hK1 : K1 ≤ 100000000) (E0 : EXC 1 0 100 100) (E1 : EXC 1 1 300 300) (E2 : EXC 1 2 700 700) (E2B : EXC 2 2 700 700)
  (BD : 0 < deep → Kv (deep - 1) C K M) (SL : 0 < deep → SLC deep C1 K1 M1) : XX deep E (4 * K + K1 + 2000) (M + M1 + 3) := by
 intro sb A n v loops w hA hnM h hs
 have HD := aa (DW.start h)
 obtain ⟨va, vc, rfl, _⟩ := id hs
 have ja := bO w dL
 have SC := aa (fun B W (hd : DW sb B w W) => (hs.keep (bG ja _)).keep hd.kp)
 have PV := aa (fun (typ : Int) B W (hB : B + 3 ≤ 1099511627776) (hd : DW sb B w W) => lg sb B n typ (.slice va n vc) W hB hd.src (SC.out B W hd))
 have CH := aa (fun B W (hB : B + 3 ≤ 1099511627776) (hd : DW sb B w W) (k : Nat) (hk : k ≤ 100) => ks sb B k W hB (by omega) hd.src)
 have NX := aa (fun B W (hB : B + 3 ≤ 1099511627776) (hd : DW sb B w W) (k : Nat) (hk : k ≤ 100) => cK sb B k W hB (by omega) hd.src)
 have Kl := aa (fun B W (hB : B + 100 ≤ 1099511627776) (hd : DW sb B w W) => E0 sb B n (.slice va n vc) W hB hd.src (SC.out B W hd))
 have tN := aa (fun B W (hB : B + 300 ≤ 1099511627776) (hd : DW sb B w W) => E1 sb B n (.slice va n vc) W hB hd.src (SC.out B W hd))
 have yG := aa (fun B W (hB : B + 700 ≤ 1099511627776) (hd : DW sb B w W) => E2 sb B n (.slice va n vc) W hB hd.src (SC.out B W hd))
 have B9 := aa (fun B W (hB : B + 700 ≤ 1099511627776) (hd : DW sb B w W) => E2B sb B n (.slice va n vc) W hB hd.src (SC.out B W hd))
 unfold dL at *
 clear h ja E0 E1 E2 E2B
 go_enter Tryz.func62, Tryz.ntmps62
 go_wp2_with fail
 refine (PV.out 3 _ _ (by omega) HD.out).mono ?_
 rintro e w1 ⟨ch, isChan, dn, rfl, aD, jE⟩
 have mZ := aa (HD.out.step aD jE)
 have Yf := aa dn
 clear aD jE HD dn
 go_wp2_with fail
 refine (PV.out 1 _ _ (by omega) mZ.out).mono ?_
 rintro e w2 ⟨num, isInt, dn, rfl, aD, jE⟩
 have jM := aa (mZ.out.step aD jE)
 have HNI := aa dn
 clear aD jE mZ dn
 go_wp2_with fail
 refine (aQ _ _ _ _ _ _).mono ?_
 rintro e w3 ⟨rfl, hb⟩
 have gu := aa (jM.out.calm hb)
 have hzC := gu.out.size
 have hlC := gu.out.low
 have dE : w3.heap.size ≠ sb := by omega
 clear hb jM
 go_wp2_with fail
 refine (NX.out _ _ (by omega) (gu.out.alloc _) 16 (by omega)).mono ?_
 rintro e w4 ⟨r, hr, rfl, aD, jE⟩
 have CB : Hid (w4.heap[w3.heap.size]? = some (fS 24 0 ch none 0 0)) := cm (heap_alloc_new w3 _) dE jE
 have eW := aa ((gu.out.alloc _).step aD jE)
 clear aD jE gu
 rcases (by omega : r = 0 ∨ r = 1 ∨ r = 2 ∨ r = 3 ∨ r = 4 ∨ r = 5 ∨ r = 6 ∨ r = 7 ∨ r = 8 ∨ r = 9 ∨ r = 10 ∨ r = 11 ∨ r = 12 ∨ r = 13 ∨ r = 14 ∨ r = 15) with rfl | rfl | rfl | rfl | rfl | rfl | rfl | rfl | rfl | rfl | rfl | rfl | rfl | rfl | rfl | rfl
 ·exact bc1
 ·exact bc1
 ·skip
  go_wp2_with fail
  refine (bU _ _ _ _ _ _ _).mono ?_
  rintro e w5 ⟨rfl, hb⟩
  have hzM := (eW.out.calm hb).size
  have wt := aa ((eW.out.calm hb).alloc (.cells #[.int .i64 26, .int .i64 0, .string ⟨#[]⟩, .slice none 0 0] 25))
  clear hb eW CB
  go_wp2_with fail
  refine (CH.out _ _ (by omega) wt.out 2 (by omega)).mono ?_
  rintro e w6 ⟨t, rfl, hs, hk⟩
  have fm := aa (wt.out.step hs hk)
  have hz : w5.heap.size + 1 ≤ w6.heap.size := by have := hk.size; simpa using this
  have mM := wt.out.low
  have Bj : ¬ w5.heap.size = sb := by omega
  have lu : w6.heap[w5.heap.size]? = some (fS 26 0 ⟨#[]⟩ none 0 0) := (hk.block _ (by simp) Bj).trans (heap_alloc_new w5 _)
  obtain ⟨m0, m1, m2, m3, mf⟩ := ax lu
  have hblN := lu
  clear hs hk wt lu Kl tN yG B9 BD SL
  have b8 : ByteArray.size ⟨#[]⟩ = 0 := by decide
  cases t
  ·skip
   have k_c45_0 := kk
   exact UH
  ·skip
   have NXd := aa (cK sb _ 3 w6.drew (by omega) (by omega) fm.out.drew.src)
   have mf3 := mf 3
   clear mf
   have bH := jK
   obtain ⟨i0, lq, oQ, eT, ed⟩ := info_parts uO
   go_upto_region 11 with fail
   go_cut [] from 55 (fun wx => ∃ (q cap g : Nat), q < 3 ∧ Ap sb (A + 3 + 3 + 3 + 3 + 3) w wx w5.heap.size 26 0 ⟨#[]⟩ (aq 22 q ⟨#[]⟩) (.slice (some ⟨g, 0, none⟩) 1 cap))
   case first =>
    refine fL bH (by kernel_rfl) (fun i => 55 + i) (V11 sb w5.heap.size) (JZ sb w5.heap.size (A + 3 + 3 + 3 + 3) w) ?_ ?_ ?_
    ·exact ⟨fm.out.drew, fun _ => hblN, fun h => by simp at h⟩
    ·intro listed a v i hI hr
     have hi : i < 9 := (bj hr).1
     have cG := (bj hr).2
     have hS := hI.s
     have th : listed.size = 9 := hI.lsize
     have DI : i < 8 → listed.getD 8 false = false := by
      intro h8
      cases e : listed.getD 8 false with
      |false => rfl
      |true => have := nt ((hS.2.2 e).1 i h8); rw [cG] at this; cases this
     have b6 := aa (fun (i : Nat) (hi : i < 9) (v' : World) (hw : Wr sb w5.heap.size v v') (x : Value) (hx : V11 sb w5.heap.size i v' x) (iC : JZ sb w5.heap.size (A + 3 + 3 + 3 + 3) w (listed.setIfInBounds i true) v') => hI.put (fun i j _ _ h => by omega) (fun i hi => by show 55 + i < 258; have : i < 9 := hi; omega) (qC hw (by omega)) iC hi hx)
     have po := aa (fun (v' : World) (hw : Wr sb w5.heap.size v v') (h8 : i = 8) (iC : JZ sb w5.heap.size (A + 3 + 3 + 3 + 3) w (listed.setIfInBounds i true) v') => hI.none (qC hw (by omega)) iC hi (by intro x; subst h8; exact trivial))
     have bC := aa (fun (j : Nat) (hj : j < 9) (hl : listed.getD j false = true) => hI.vals j hj (nt hl))
     have bc := fG hr
     have e14 := ab (hI.keep 14 (by intro i hi; have : i < 9 := hi; omega))
     have e0 := ab (hI.keep 0 (by intro i hi; have : i < 9 := hi; omega))
     clear hI hr
     rcases (by omega : i = 0 ∨ i = 1 ∨ i = 2 ∨ i = 3 ∨ i = 4 ∨ i = 5 ∨ i = 6 ∨ i = 7 ∨ i = 8) with rfl | rfl | rfl | rfl | rfl | rfl | rfl | rfl | rfl
     all_goals (refine cS rfl rfl ?_)
     ·go_simp
      exact b6.out 0 (by omega) v (Wr.of_calm (Below.refl _ _)) _ rfl (jg hS (by omega) (by omega) (DI (by omega)) (Below.refl _ _))
     ·have h55 := ab (show a.eval (.tmp 55) = .pointer (some ⟨w5.heap.size, 3, none⟩) from ag bC bc 0 rfl)
      obtain ⟨z0, z1, z2, z3, zf⟩ := ax (hS.2.1 (DI (by omega)))
      go_simp
      exact b6.out 1 (by omega) v (Wr.of_calm (Below.refl _ _)) _ rfl (jg hS (by omega) (by omega) (DI (by omega)) (Below.refl _ _))
     ·go_simp
      exact b6.out 2 (by omega) v (Wr.of_calm (Below.refl _ _)) _ rfl (jg hS (by omega) (by omega) (DI (by omega)) (Below.refl _ _))
     ·have h57 := ab (show a.eval (.tmp 57) = .pointer (some ⟨sb, 0, none⟩) from ag bC bc 2 rfl)
      have dj := hS.1
      rw [if_neg (by rw [cC cG]; simp)] at dj
      go_simp
      refine (cK sb _ 3 v (by omega) (by omega) dj.src).mono ?_
      rintro e v2 ⟨q, hq, rfl, hs, hk⟩
      exact b6.out 3 (by omega) v2 (Wr.of_kp hk) _ ⟨q, by omega, rfl⟩ (FK hS (by omega) (DI (by omega)) hs hk Bj)
     ·obtain ⟨q, hq, hx⟩ : ∃ q : Nat, q < 3 ∧ a.eval (.tmp 58) = .int .i64 (q : Int) := ag bC bc 3 rfl
      have h58 := ab hx
      go_simp
      refine (fE _ _).mono ?_
      rintro e v2 ⟨rfl, hb⟩
      exact b6.out 4 (by omega) v2 (Wr.of_calm hb) _ ⟨q, hq, rfl⟩ (jg hS (by omega) (by omega) (DI (by omega)) hb)
     ·obtain ⟨q, hq, hx⟩ : ∃ q : Nat, q < 3 ∧ a.eval (.tmp 59) = .agg #[.int .i64 22, .int .i64 (q : Int), .string ⟨#[]⟩, .slice none 0 0] := ag bC bc 4 rfl
      have h59 := ab hx
      have kC := (Array.getElem?_eq_some_iff.1 (hS.2.1 (DI (by omega)))).1
      go_simp
      exact b6.out 5 (by omega) _ (Wr.of_calm (bA)) _ ⟨v.heap.size, q, hq, kC, rfl, heap_alloc_new v _⟩ (jg hS (by omega) (by omega) (DI (by omega)) (bA))
     ·have h56 : a.eval (.tmp 56) = .slice none 0 0 := ag bC bc 1 rfl
      obtain ⟨g, q, hq, hbg, h60, fU⟩ : ∃ g q : Nat, q < 3 ∧ w5.heap.size < g ∧ a.eval (.tmp 60) = .slice (some ⟨g, 0, none⟩) 1 1 ∧ v.heap[g]? = some (fS 22 q ⟨#[]⟩ none 0 0) := ag bC bc 5 rfl
      have kC := (Array.getElem?_eq_some_iff.1 (hS.2.1 (DI (by omega)))).1
      have ei := run_append_nil (P := Tryz.prog) v 23 23 25 i0 _ Tryz.underlying23 lq oQ ⟨g, 0, none⟩ 1 1 [.int .i64 22, .int .i64 (q : Int), .string ⟨#[]⟩, .slice none 0 0] (by rw [eT]; rfl) (DK fU) (by omega) (by omega) (by rw [ed]; omega)
      refine jC rfl h56 h60 ei ?_
      have Qf : 1 ≤ grownCap v 1 0 25 ∧ grownCap v 1 0 25 ≤ 9223372036854775807 := N1 v
      rcases JT (b := w5.heap.size) (g := 0) (q := q) (v := v) (by omega) Qf with dJ | e
      ·exact b6.out 6 (by omega) _ (Wr.of_calm (((Below.refl _ _).drew).alloc lr _)) _ ⟨v.heap.size, _, q, hq, Qf, kC, rfl, dJ⟩ (jg hS (by omega) (by omega) (DI (by omega)) (((Below.refl _ _).drew).alloc lr _))
      ·omega
     ·go_simp
      exact b6.out 7 (by omega) v (Wr.of_calm (Below.refl _ _)) _ rfl (jg hS (by omega) (by omega) (DI (by omega)) (Below.refl _ _))
     ·have h62 := ab (show a.eval (.tmp 62) = .pointer (some ⟨w5.heap.size, 3, none⟩) from ag bC bc 7 rfl)
      obtain ⟨g, cap, q, hq, hc, hbg, hx, dJ⟩ : ∃ g cap q : Nat, q < 3 ∧ (1 ≤ cap ∧ cap ≤ 9223372036854775807) ∧ w5.heap.size < g ∧ a.eval (.tmp 61) = .slice (some ⟨g, 0, none⟩) 1 cap ∧ Row (w5.heap.size + 1) v.heap.size v (bX 26 0 ⟨#[]⟩ (aq 22 q ⟨#[]⟩)) (a.eval (.tmp 61)) := ag bC bc 6 rfl
      have h61 := ab hx
      rw [hx] at dJ
      have h8 := cC cG
      obtain ⟨z0, z1, z2, z3, zf⟩ := ax (hS.2.1 h8)
      have Kx := zf 3
      have bl : ∀ i, i < 8 → listed.getD i false = true := by
       intro i hi
       rcases (by omega : i = 0 ∨ i = 1 ∨ i = 2 ∨ i = 3 ∨ i = 4 ∨ i = 5 ∨ i = 6 ∨ i = 7) with rfl | rfl | rfl | rfl | rfl | rfl | rfl | rfl
       ·exact bc.out _ rfl ⟨0, Ground.phase⟩ (by simp) rfl
       ·exact bc.out _ rfl ⟨1, Ground.phase⟩ (by simp) rfl
       ·exact bc.out _ rfl ⟨2, Ground.phase⟩ (by simp) rfl
       ·exact bc.out _ rfl ⟨3, Ground.phase⟩ (by simp) rfl
       ·exact bc.out _ rfl ⟨4, Ground.phase⟩ (by simp) rfl
       ·exact bc.out _ rfl ⟨5, Ground.phase⟩ (by simp) rfl
       ·exact bc.out _ rfl ⟨6, Ground.data⟩ (by simp) rfl
       ·exact bc.out _ rfl ⟨7, Ground.data⟩ (by simp) rfl
      go_simp
      exact po.out _ (Wr.of_set _ _ _ _ _) rfl (BU hS (by omega) bl h8 (by omega) hq dJ)
    ·intro a v b8 jv cz qc ee
     obtain ⟨l, hl, hS, bl⟩ := qc
     have hl9 : l.size = 9 := hl
     obtain ⟨_, q, g, cap, hq, hAp⟩ := hS.2.2 (getD_in (by omega) (bl 8 (by show 8 < 9; omega)))
     have HAp := aa hAp
     have ha := eJ (d := fun i => 55 + i) (n := 9) b8 jv cz
     generalize (fun i => a.eval (.tmp ((fun i => 55 + i) i))) = f at ha
     clear b8 jv cz ee hS bl hAp hl hl9
     subst ha
     simp only [ig, Act.put, Nat.reduceAdd, List.setIfInBounds_toArray, List.set_cons_succ, List.set_cons_zero]
     go_wp2_with fail
     go_meet
     case rel => exact ⟨q, cap, g, hq, HAp.out⟩
   case rest =>
    obtain ⟨q, cap, g, hq, hX⟩ := hcut
    have HX := aa hX
    clear hX m0 m1 m2 m3 mf3 NXd fm lq oQ eT ed
    obtain ⟨m0, m1, m2, m3⟩ := And.intro HX.out.c0 (And.intro HX.out.c1 (And.intro HX.out.c2 HX.out.c3))
    have Cu := aa HX.out.dw
    have RX := aa HX.out.row
    clear HX
    have k_c45_1 := kk
    exact UH
 ·skip
  cases isInt
  ·exact bc2
  ·have xD := HNI.out (by trivial)
   have Sq := fD xD
   have Px := aa xD
   clear xD HNI
   go_wp2_with fail
   refine (yG.out _ _ (by omega) eW.out).mono ?_
   have k_c28_0 := kk
   exact UW
 ·skip
  cases isInt
  ·exact bc2
  ·have xD := HNI.out (by trivial)
   have Sq := fD xD
   have Px := aa xD
   clear xD HNI
   have k_c41_0 := kk
   exact UK
 ·exact bc0
 ·exact bc0
 ·skip
  cases isChan
  ·exact bc2
  ·have k_c33_0 := kk
   exact UR
 ·skip
  cases isChan
  ·exact bc2
  ·have k_c54_0 := kk
   exact UD
 ·skip
  cases isChan
  ·exact bc2
  ·have k_c54_2 := kk
   exact UD
 ·skip
  rcases (by omega : deep = 0 ∨ 0 < deep) with rfl | Ny
  ·exact bc2
  ·have Bd : IntKind.i64.wrap (deep - 1) = deep - 1 := fq (by omega) (by omega)
   have CC := aa (BD Ny)
   have No : Tryz.prog.follows Departure.mixedOrders = true := by kernel_rfl
   go_wp2_with fail
   refine (B9.out _ _ (by omega) eW.out).mono ?_
   rintro e wA ⟨TA, uA, rfl, dA⟩
   obtain ⟨aA, cA, rfl⟩ := be dA.row
   have wt := aa (eW.out.step dA.src dA.kp)
   have RA := aa dA.row
   have PA : Hid (TA.Fine ∧ TA.eOk = true ∧ TA.cost ≤ 700) := ⟨dA.fine, dA.ok, dA.cost⟩
   have ID := Nd.fine_len dA.fine
   have hsA := eW.out.size
   have hzA := dA.kp.size
   clear dA eW CB Kl tN yG SL PV
   unfold Nd.val
   go_wp2_with fail
   refine (NX.out _ _ (by omega) wt.out 3 (by omega)).mono ?_
   rintro e wB ⟨q, hq, rfl, hs, hk⟩
   have Yo := aa (wt.out.step hs hk)
   have RA2 := aa (fJ RA.out (by have := wt.out.low; omega) lr hk)
   have hzB := hk.size
   clear hs hk wt RA
   go_wp2_with fail
   refine (qt CC.out sb _ n q (.slice va n vc) loops wB (by omega) (by omega) (by omega) Yo.out.src (SC.out _ wB Yo.out)).mono ?_
   rintro e wC ⟨TB, uB, rfl, dB⟩
   obtain ⟨aB, cB, rfl⟩ := be dB.row
   have QI := aa (Yo.out.step dB.src dB.kp)
   have hsC := QI.out.size
   have hzC := dB.kp.size
   have RA3 := aa (fJ RA2.out (by have := Yo.out.low; omega) (by omega) dB.kp)
   have RB := aa dB.row
   have PB : Hid (hQ (2 * C) TB) := ⟨dB.fine, dB.ok.1, dB.cost⟩
   have Qc := Nd.fine_len dB.fine
   clear dB Yo RA2
   unfold Nd.val
   go_wp2_with fail
   refine (aQ _ _ _ _ _ _).mono ?_
   rintro e wD ⟨rfl, hb⟩
   have GW := aa (Gw.two (B := w.heap.size + 1) RA3.out RB.out ⟨by omega, by omega, by omega⟩ ⟨by omega, by omega, by omega⟩ (by omega) (hb.mono (by simp)))
   have eV := (bO wC (.cells #[.int .i64 TA.kind, .int .i64 TA.num, .string TA.name, .slice aA TA.len cA, .int .i64 TB.kind, .int .i64 TB.num, .string TB.name, .slice aB TB.len cB] 25)).trans (hb.mono (by simp))
   have HDD := aa (QI.out.calm eV)
   have hzD := hb.size
   simp only [World.size_alloc] at hzD
   have hIF : Hid (X2 2 (2 * C) (j4 (fun _ => TB) 0 TA)) := ⟨by rw [cD]; exact PA.out, fun i h1 h2 => by rw [cW _ _ (by omega)]; exact PB.out⟩
   have hlow10 := QI.out.low
   clear hb eV QI RA3 RB PA
   have vU := aa (HDD.out.alloc (fS 10 0 ⟨#[]⟩ (some ⟨wC.heap.size, 0, none⟩) 2 2))
   have GWE := aa (GW.out.calm (bO wD (fS 10 0 ⟨#[]⟩ (some ⟨wC.heap.size, 0, none⟩) 2 2)))
   go_wp2_with fail
   refine (CH.out _ _ (by omega) vU.out 2 (by omega)).mono ?_
   rintro e wF ⟨t, rfl, hs, hk⟩
   have Cv := aa (vU.out.step hs hk)
   have lp : wD.heap.size ≠ sb := by omega
   have cP : Hid (wF.heap[wD.heap.size]? = some (fS 10 0 ⟨#[]⟩ (some ⟨wC.heap.size, 0, none⟩) 2 2)) := cm (heap_alloc_new wD _) lp hk
   have GWF := aa (GWE.out.kp (sb := sb) (by omega) hk)
   have hzF : wD.heap.size + 1 ≤ wF.heap.size := by have := hk.size; simpa [fS] using this
   clear hs hk vU HDD GW GWE
   obtain ⟨o36, f36, c36⟩ := yP (k := 0) (s := ⟨#[]⟩) (.inl rfl) hIF.out
   have H36 := aa (And.intro o36 (And.intro f36 c36))
   clear o36 f36 c36
   cases t
   ·obtain ⟨m0, m1, m2, m3, mf⟩ := ax cP.out
    obtain ⟨f0, f1, f2, f3, ff⟩ := Cv.out.cells
    go_wp2
    refine bodyPost_ret (Cv.out.read Tryz.results62 rfl _ _ _ _) rfl ⟨.mk 10 0 ⟨#[]⟩ 2 (j4 (fun _ => TB) 0 TA), _, rfl, ?_⟩
    exact (Cv.out.fin (P := fun T => T.sOk = true) (C := E) (GWF.out.row lr 10 0 ⟨#[]⟩) H36.out.2.1 H36.out.1 (by have := H36.out.2.2; omega)).more (by omega)
   ·go_upto_region 36 with fail
    have ji : ar (fun i => if i = 7 then 3 else if i = 9 then 2 * K + 10 else 0) 14 = 2 * K + 13 := by simp [ar]; omega
    have KS : sb < wF.heap.size := by omega
    refine cQ No (by kernel_rfl) tW (FJ sb wD.heap.size wF.heap.size (w.heap.size + 1) (2 * C) n (some ⟨wC.heap.size, 0, none⟩) va 2 vc deep loops) (GS sb (A + 3 + 3 + 3 + 700 + 3 + (2 * K + 10) + 3) (fun i => if i = 7 then 3 else if i = 9 then 2 * K + 10 else 0) 14 11 13 w wF (wD.heap.size) (F36 sb (A + 3 + 3 + 3 + 700 + 3 + (2 * K + 10) + 3 + (2 * K + 13)) (w.heap.size + 1) wD.heap.size (2 * C) w)) (GS.start _ Cv.out) ?_ ?_
    ·intro l a v i hI hr
     have zl : i < 14 := (bj hr).1
     have cG := (bj hr).2
     have th : l.size = 14 := hI.lsize
     have HS := aa hI.s
     have mL := iS (fun i => if i = 7 then 3 else if i = 9 then 2 * K + 10 else 0) l 14
     rw [ji] at mL
     have jB := aa hI.shut
     have b6 := aa (fun (v' : World) (hw : ∀ jj x, l.getD jj false = true → FJ sb wD.heap.size wF.heap.size (w.heap.size + 1) (2 * C) n (some ⟨wC.heap.size, 0, none⟩) va 2 vc deep loops jj v x → FJ sb wD.heap.size wF.heap.size (w.heap.size + 1) (2 * C) n (some ⟨wC.heap.size, 0, none⟩) va 2 vc deep loops jj v' x) (iC : GS sb (A + 3 + 3 + 3 + 700 + 3 + (2 * K + 10) + 3) (fun i => if i = 7 then 3 else if i = 9 then 2 * K + 10 else 0) 14 11 13 w wF (wD.heap.size) (F36 sb (A + 3 + 3 + 3 + 700 + 3 + (2 * K + 10) + 3 + (2 * K + 13)) (w.heap.size + 1) wD.heap.size (2 * C) w) (l.setIfInBounds i true) v') (x : Value) (hx : FJ sb wD.heap.size wF.heap.size (w.heap.size + 1) (2 * C) n (some ⟨wC.heap.size, 0, none⟩) va 2 vc deep loops i v' x) (b8 : tW i < 258) => hI.put Kt hr b8 hw iC hx)
     have po := aa (fun (v' : World) (hw : ∀ jj x, l.getD jj false = true → FJ sb wD.heap.size wF.heap.size (w.heap.size + 1) (2 * C) n (some ⟨wC.heap.size, 0, none⟩) va 2 vc deep loops jj v x → FJ sb wD.heap.size wF.heap.size (w.heap.size + 1) (2 * C) n (some ⟨wC.heap.size, 0, none⟩) va 2 vc deep loops jj v' x) (iC : GS sb (A + 3 + 3 + 3 + 700 + 3 + (2 * K + 10) + 3) (fun i => if i = 7 then 3 else if i = 9 then 2 * K + 10 else 0) 14 11 13 w wF (wD.heap.size) (F36 sb (A + 3 + 3 + 3 + 700 + 3 + (2 * K + 10) + 3 + (2 * K + 13)) (w.heap.size + 1) wD.heap.size (2 * C) w) (l.setIfInBounds i true) v') (hx : ∀ x, FJ sb wD.heap.size wF.heap.size (w.heap.size + 1) (2 * C) n (some ⟨wC.heap.size, 0, none⟩) va 2 vc deep loops i v' x) => hI.none hr hw iC hx)
     have bC := aa (fun (j : Nat) (hj : j < 14) (hl : l.getD j false = true) => hI.vals j hj hl)
     have bc := fG hr
     have s0 : a.tmps[0]?.getD undef = .pointer (some ⟨sb, 0, none⟩) := ab (hI.keep 0 (by intro i hi; have h2 : i < 14 := hi; show 0 ≠ tW i; have : ((List.range 14).all fun i => decide (tW i ≠ 0)) = true := (by decide); have h3 := List.all_eq_true.1 this i (List.mem_range.2 h2); simp at h3; exact fun e => h3 e.symm))
     have s1 : a.tmps[1]?.getD undef = .slice va n vc := ab (hI.keep 1 (by intro i hi; have h2 : i < 14 := hi; show 1 ≠ tW i; have : ((List.range 14).all fun i => decide (tW i ≠ 1)) = true := (by decide); have h3 := List.all_eq_true.1 this i (List.mem_range.2 h2); simp at h3; exact fun e => h3 e.symm))
     have s2 : a.tmps[2]?.getD undef = .int .i64 deep := ab (hI.keep 2 (by intro i hi; have h2 : i < 14 := hi; show 2 ≠ tW i; have : ((List.range 14).all fun i => decide (tW i ≠ 2)) = true := (by decide); have h3 := List.all_eq_true.1 this i (List.mem_range.2 h2); simp at h3; exact fun e => h3 e.symm))
     have s3 : a.tmps[3]?.getD undef = .bool loops := ab (hI.keep 3 (by intro i hi; have h2 : i < 14 := hi; show 3 ≠ tW i; have : ((List.range 14).all fun i => decide (tW i ≠ 3)) = true := (by decide); have h3 := List.all_eq_true.1 this i (List.mem_range.2 h2); simp at h3; exact fun e => h3 e.symm))
     have s15 : a.tmps[15]?.getD undef = .pointer (some ⟨wD.heap.size, 0, none⟩) := ab (hI.keep 15 (by intro i hi; have h2 : i < 14 := hi; show 15 ≠ tW i; have : ((List.range 14).all fun i => decide (tW i ≠ 15)) = true := (by decide); have h3 := List.all_eq_true.1 this i (List.mem_range.2 h2); simp at h3; exact fun e => h3 e.symm))
     clear hI hr
     rcases (by omega : i = 0 ∨ i = 1 ∨ i = 2 ∨ i = 3 ∨ i = 4 ∨ i = 5 ∨ i = 6 ∨ i = 7 ∨ i = 8 ∨ i = 9 ∨ i = 10 ∨ i = 11 ∨ i = 12 ∨ i = 13) with rfl | rfl | rfl | rfl | rfl | rfl | rfl | rfl | rfl | rfl | rfl | rfl | rfl | rfl
     all_goals (refine cS rfl rfl ?_)
     ·exact U7
     ·have h146 := ab (show a.eval (.tmp 146) = .pointer (some ⟨wD.heap.size, 3, none⟩) from ag bC bc 0 rfl)
      have bD := dm (f := 40) (j := 11) jB.out (by kernel_rfl) cG
      have aM := dm (f := 40) (j := 13) jB.out (by kernel_rfl) cG
      exact bc10
     ·exact U7
     ·exact U7
     ·exact U7
     ·have h150 := ab (show a.eval (.tmp 150) = .int .i64 deep from ag bC bc 4 rfl)
      exact U7
     ·exact U7
     ·have h152 := ab (show a.eval (.tmp 152) = .pointer (some ⟨sb, 0, none⟩) from ag bC bc 6 rfl)
      have k_c43_0 := kk
      exact JA
     ·exact U7
     ·have h148 := ab (show a.eval (.tmp 148) = .pointer (some ⟨sb, 0, none⟩) from ag bC bc 2 rfl)
      have h149 := ab (show a.eval (.tmp 149) = .slice va n vc from ag bC bc 3 rfl)
      have h151 := ab (show a.eval (.tmp 151) = .int .i64 (deep - 1) from ag bC bc 5 rfl)
      obtain ⟨q2, iL, hx⟩ : ∃ q : Nat, q < 3 ∧ a.eval (.tmp 153) = .int .i64 (q : Int) := ag bC bc 7 rfl
      have h153 := ab hx
      have h154 := ab (show a.eval (.tmp 154) = .bool loops from ag bC bc 8 rfl)
      have k_c43_1 := kk
      exact JA
     ·obtain ⟨T2, a2, c2, Ex, hx, jk⟩ : TV wF.heap.size (hQ (2 * C)) v (a.eval (.tmp 155)) := ag bC bc 9 rfl
      have h155 := ab hx
      unfold Nd.val at h155
      have k_c43_2 := kk
      exact JA
     ·have h147 : a.eval (.tmp 147) = .slice (some ⟨wC.heap.size, 0, none⟩) 2 2 := ag bC bc 1 rfl
      obtain ⟨T3, a3, c3, ⟨A3, za, rfl⟩, hx, wa⟩ : LV wF.heap.size (fun T => ∃ A, hQ (2 * C) A ∧ T = bX 0 0 ⟨#[]⟩ A) v (a.eval (.tmp 156)) := ag bC bc 10 rfl
      have bD := cC cG
      have aM := dm (f := 40) (j := 13) jB.out (by kernel_rfl) cG
      obtain ⟨dj, di⟩ := HS.out.pre bD
      have il := di.size
      obtain ⟨aj, cj, v2, vs, ei, fz, aX, eF⟩ := gH (GWF.out.kp (sb := sb) (by omega) di) wa (by omega) (by omega) il lr (fun g hg => .inl (by simp [Value.ownBlock] at hg; omega)) (by show 2 + 1 ≤ _; omega)
      refine jC rfl h147 hx (ei _) ?_
      refine b6.out v2 (tL (Wn.of_grown aX (fun k hk => by simp [Value.ownBlock] at hk; omega)) bD aM) (HS.out.join (by omega) cG (by decide) aM (by omega) lp aX (fun k hk => by simp [Value.ownBlock] at hk; omega)) _ ⟨_, _, _, _, aj, cj, rfl, fz, ⟨?_, fun i h1 h2 => ?_⟩, ?_, fun i hi => ?_⟩ (by decide)
      ·rw [bw _ _ (by omega)]; exact hIF.out.1
      ·by_cases h3 : i < 2
       ·rw [bw _ _ h3]; exact hIF.out.2 i h1 h3
       ·rw [bW _ _ (by omega)]; exact za
      ·rcases eF with e | ⟨k, e, hk⟩
       ·have e3 : (Value.slice aj 3 cj).ownBlock = (Value.slice (some ⟨wC.heap.size, 0, none⟩) 2 2).ownBlock := e
        rw [e3]; simp [Value.ownBlock]; omega
       ·have e3 : (Value.slice aj 3 cj).ownBlock = some k := e
        rw [e3]; intro h; have := Option.some.inj h; omega
      ·by_cases h3 : i < 2
       ·rw [bw _ _ h3, bw _ _ h3]; right; have := (GWF.out.apart i h3 wC.heap.size rfl); rcases (by omega : i = 0 ∨ i = 1) with rfl | rfl
        ·rw [cD]; omega
        ·rw [cW _ _ (by omega)]; omega
       ·rw [bW _ _ (by omega), bW _ _ (by omega)]; left; omega
     ·exact U7
     ·have h158 := ab (show a.eval (.tmp 158) = .pointer (some ⟨wD.heap.size, 3, none⟩) from ag bC bc 12 rfl)
      obtain ⟨Ts, us, s2, e2, a2, c2, hx, fz, hP, rU, rT⟩ : AV (w.heap.size + 1) wD.heap.size 3 (X2 3 (2 * C)) v (a.eval (.tmp 157)) := ag bC bc 11 rfl
      have h157 := ab hx
      have Tg : l.getD 11 false = true := bc.out _ rfl ⟨11, Ground.data⟩ (by simp) rfl
      obtain ⟨dj, gE⟩ := HS.out.mid Tg (cC cG)
      rw [ji] at dj
      have kC := gE.trans cP.out
      obtain ⟨z0, z1, z2, z3, zf⟩ := ax kC
      have Kx := zf 3
      have HF36 : Hid (F36 sb (A + 3 + 3 + 3 + 700 + 3 + (2 * K + 10) + 3 + (2 * K + 13)) (w.heap.size + 1) wD.heap.size (2 * C) w (v.setCell ⟨wD.heap.size, 3, none⟩ (.slice a2 3 c2))) := ⟨dj.put _ _ _ (by omega), Ts, us, s2, e2, a2, c2, (heap_setCell_same v wD.heap.size 3 _ 25 (.slice a2 3 c2) kC).trans rfl, fz.put rU rT, hP⟩
      clear hx dj gE kC fz zf
      go_simp
      exact po.out _ (fun j x _ hx => Ph (by omega) j x hx) (GS.store (by omega) (.inr Tg) HF36.out) (fun _ => trivial)
    ·intro a v b8 jv cz qc ee
     obtain ⟨l, hS, bl⟩ := qc
     have HF := aa (hS.fin (bl 13 (by decide)))
     rw [eJ (n := 14) b8 jv cz]
     generalize (fun i => a.eval (.tmp (tW i))) = ff
     clear b8 jv cz ee hS bl
     simp only [ig, Act.put, tW, List.getD_cons_zero, List.getD_cons_succ, List.setIfInBounds_toArray, List.set_cons_succ, List.set_cons_zero, List.set_nil]
     obtain ⟨dj, Ts, us, s2, e2, a2, c2, fP, fz, hP⟩ := HF.out
     have yD := aa dj
     have HGq := aa fz
     obtain ⟨o3, f3', c3'⟩ := yP (k := 0) (s := ⟨#[]⟩) (.inr rfl) hP
     have H37 := aa (And.intro o3 (And.intro f3' c3'))
     obtain ⟨m0, m1, m2, m3, mf⟩ := ax fP
     obtain ⟨f0, f1, f2, f3, Qn⟩ := yD.out.cells
     clear dj fz HF fP hP o3 f3' c3' cP GWF Cv
     go_wp2
     refine bodyPost_ret (yD.out.read Tryz.results62 rfl _ _ _ _) rfl ⟨.mk 10 0 ⟨#[]⟩ 3 Ts, _, rfl, ?_⟩
     exact (yD.out.fin (P := fun T => T.sOk = true) (C := E) (HGq.out.row lr 10 0 ⟨#[]⟩) H37.out.2.1 H37.out.1 (by have := H37.out.2.2; omega)).more (by omega)
 ·skip
  rcases (by omega : deep = 0 ∨ 0 < deep) with rfl | Ny
  ·exact bc2
  ·have Bd : IntKind.i64.wrap (deep - 1) = deep - 1 := fq (by omega) (by omega)
   have SLX := aa (fun B W (hB : B + K1 ≤ 1099511627776) (hd : DW sb B w W) => SL Ny sb B n (.slice va n vc) loops W hB (by omega) hd.src (SC.out B W hd))
   go_wp2_with fail
   refine (SLX.out _ _ (by omega) eW.out).mono ?_
   have k_c28_1 := kk
   exact UW
 ·skip
  cases isChan
  ·have k_c40_0 := kk
   exact UL
  ·have k_c54_3 := kk
   exact UD
 ·skip
  cases loops
  ·skip
   go_wp2_with fail
   refine (CH.out _ _ (by omega) eW.out 6 (by omega)).mono ?_
   have k_c48_0 := kk
   exact UE
  ·have k_c40_1 := kk
   exact UL
 ·skip
  rcases (by omega : deep = 0 ∨ 0 < deep) with rfl | Ny
  ·exact bc2
  ·have Bd : IntKind.i64.wrap (deep - 1) = deep - 1 := fq (by omega) (by omega)
   go_wp2_with fail
   refine (CH.out _ _ (by omega) eW.out 2 (by omega)).mono ?_
   have k_c48_1 := kk
   exact UE
 ·exact bc2
end Go.Proofs.YteaocammohcgoaaGreatDoor
