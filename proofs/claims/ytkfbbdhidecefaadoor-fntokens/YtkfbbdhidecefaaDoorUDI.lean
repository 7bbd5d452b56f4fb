import Derived.Test.YtkfbbdhidecefaaDoorUDE
set_option linter.unusedVariables false
set_option maxHeartbeats 16000000
set_option maxRecDepth 100000
namespace Go.Proofs.YtkfbbdhidecefaaDoor
open Go.RowKit
variable {G : Prop}
theorem bO0 (h : G := by
 skip
 cases isChan
 ·exact Vt
 ·have k_O33_1 := kk
  exact U9) : G := h
theorem bO1 (h : G := by
 skip
 go_wp2_with fail
 refine (np Ao sb _ w4.heap.size 0 3 3 _ (by omega) (by omega) (by omega) (by have := hH.out.src.lt; omega) (hH.out.alloc _).src (nk Ao w4 [⟨#[97]⟩, ⟨#[98]⟩, ⟨#[120]⟩] 9 (by intro s hs; simp only [List.mem_cons, List.not_mem_nil, or_false] at hs; unfold Ao; rcases hs with rfl | rfl | rfl <;> decide))).mono ?_
 rintro e w5 ⟨sg, o7, rfl, hs, hk⟩
 have Ss := (b7 (bO w4 _) (fun k => k = sb)).trans hk (fun _ _ h => h)
 clear hk
 have hk := Ss
 clear Ss
 have sU := aa o7.1
 have hszS := o7.2
 clear o7
 have gG := aa (hH.out.step hs hk)
 have qE := aa (bG vS.out fE hk)
 clear hs hk hH vS
 go_wp2_with fail
 refine (yC.out _ _ (by omega) gG.out).mono ?_
 have k_O25_1 := kk
 exact Vi) : G := h
theorem Lm (h : G := by
 exact Vt) : G := h
theorem bO3 (h : G := by
 skip
 go_wp2_with fail
 refine (NX.out _ _ (by omega) gG.out 2 (by omega)).mono ?_
 rintro e w6 ⟨q, hq, rfl, hs, hk⟩
 have ix := aa (gG.out.step hs hk)
 have yQ := aa (bG qE.out fE hk)
 clear hs hk gG qE
 rcases (by omega : q = 0 ∨ q = 1) with rfl | rfl
 ·skip
  go_wp2_with fail
  refine (B0.out _ _ (by omega) ix.out).mono ?_
  exact Vs
 ·skip
  go_wp2_with fail
  refine (EM.out _ _ (by omega) ix.out).mono ?_
  exact Vs) : G := h
theorem bO4 (h : G := by
 skip
 go_wp2_with fail
 refine (NX.out _ _ (by omega) ix.out 2 (by omega)).mono ?_
 rintro e w7 ⟨q, hq, rfl, hs, hk⟩
 have mv := aa (ix.out.step hs hk)
 have E9 := aa (bG yQ.out fE hk)
 clear hs hk ix yQ
 rcases (by omega : q = 0 ∨ q = 1) with rfl | rfl
 ·skip
  go_wp2_with fail
  refine (B0.out _ _ (by omega) mv.out).mono ?_
  exact Vq
 ·skip
  go_wp2_with fail
  refine (EM.out _ _ (by omega) mv.out).mono ?_
  exact Vq) : G := h
theorem bO5 (h : G := by
 have KK := ab (show a.eval (.tmp 63) = .pointer (some ⟨sb, 0, none⟩) from bx.out 0 (by omega) (bg.out _ rfl ⟨0, Ground.data⟩ (by simp) rfl))
 obtain ⟨g, hg, hx, hc⟩ : ∃ g, w.heap.size + 1 ≤ g ∧ a.eval (.tmp 64) = .slice (some ⟨g, 0, none⟩) 2 2 ∧ ∀ i, i < 2 → ∃ s, Ao s ∧ v.cell? ⟨g, 0 + i, none⟩ = some (.string s) := bx.out 1 (by omega) (bg.out _ rfl ⟨1, Ground.data⟩ (by simp) rfl)
 have h64 := ab hx
 have HC := aa hc
 clear hx hc
 go_simp
 refine (np Ao sb _ g 0 2 2 v (by omega) (by omega) (by omega) (by omega) (po.out.2 (fF cJ)) HC.out).mono ?_
 rintro e v2 ⟨sg, o7, rfl, hs, hk⟩
 exact fG.out 2 (by omega) v2 (Wr.of_kp hk) (po.out.pick (by omega) cJ hs hk) _ ⟨sg, o7, rfl⟩) : G := h
theorem bO6 (h : G := by
 have h68 := ab hx
 have aN : ∀ i, i < 6 → listed.getD i false = true := fun i hi => bg.out _ rfl ⟨i, Ground.phase⟩ (by rcases (by omega : i = 0 ∨ i = 1 ∨ i = 2 ∨ i = 3 ∨ i = 4 ∨ i = 5) with rfl | rfl | rfl | rfl | rfl | rfl <;> simp) rfl
 obtain ⟨f0, f1, f2, f3, ff⟩ := (po.out.1.last (by omega) cJ aN).1.1.cells
 have Pr := aa (po.out.store (by omega) cJ aN o7 hg nY)
 clear hx nY aN
 go_simp
 exact vQ.out _ (Wr.of_put sb w.heap.size v 5 0 sg (.slice (some ⟨gx, 0, none⟩) 1 1)) rfl Pr.out) : G := h
theorem bO7 (h : G := by
 have So := (po.out.1.low (show 3 < 6 by omega) cJ).2.2
 obtain ⟨m0, m1, m2, m3⟩ := HM.out
 have n0 := tP m0 So Ei
 have n1 := tP m1 So Ei
 have n2 := tP m2 So Ei
 have n3 := tP m3 So Ei
 clear m0 m1 m2 m3 So
 go_simp
 exact fG.out 3 (by omega) v (Wr.of_calm (Below.refl _ _)) (po.out.calm (by omega) (by omega) cJ (Below.refl _ _)) _ rfl) : G := h
theorem bO8 (h : G := by
 have h65 := ab hx
 have h67 := ab hy
 have mK := aa nY
 clear hx hy nY
 go_simp
 refine (ay _ _ _ _ _ _).mono ?_
 rintro e v2 ⟨rfl, hb⟩
 exact fG.out 5 (by omega) v2 (Wr.of_calm hb) (po.out.calm (by omega) (by omega) cJ hb) _ ⟨sg, gx, o7, hg, rfl, aZ mK.out hb⟩) : G := h
theorem bO9 (h : G := by
 have mO := (po.out.1.low (show 1 < 6 by omega) cJ).2.1.size
 go_simp
 exact fG.out 1 (by omega) _ (Wr.of_calm (bA)) (po.out.calm (by omega) (by omega) cJ (bA)) _ ⟨v.heap.size, mO, rfl, fun i hi => nk Ao v [⟨#[99]⟩, ⟨#[100]⟩] 9 hNP i hi⟩) : G := h
theorem Vw (h : G := by
 obtain ⟨gC, gH⟩ := HS.out.pre bB
 obtain ⟨z0, z1, z2, z3, zf⟩ := aw (bG tT.out qU gH)
 clear gC gH
 exact Vp) : G := h
theorem Vv (h : G := by
 rintro e v2 ⟨rfl, hb⟩
 exact fG.out v2 (nF (Wn.of_calm hb) bB aF) (HS.out.calm (by omega) cJ (by decide) (by decide) rfl bB aF hb) _ rfl (by decide)) : G := h
theorem Vu (h : G := by
 go_simp
 exact fG.out 4 (by omega) _ (Wr.of_calm (bA)) (po.out.calm (by omega) (by omega) cJ (bA)) _ ⟨v.heap.size, mO, rfl, heap_alloc_new v _⟩) : G := h
theorem bO13 (h : G := by
 go_simp
 exact fG.out 0 (by omega) v (Wr.of_calm (Below.refl _ _)) (po.out.calm (by omega) (by omega) cJ (Below.refl _ _)) _ rfl) : G := h
theorem tA (h : G := by
 exact Vp) : G := h
theorem Vt (h : G := by
 skip
 have k_O41_1 := kk
 exact U2) : G := h
theorem Vs (h : G := by
 have k_O26_0 := kk
 exact Vh) : G := h
theorem Vq (h : G := by
 rintro e w8 ⟨T, uT, rfl, dT⟩
 obtain ⟨aT, cT, rfl⟩ := aQ dT.row
 have hs := dT.src
 have hk := dT.kp
 have RT := aa (RW.of_drawn mv.out dT)
 have FT := aa dT.fine
 have OT := aa dT.ok
 have nX := dT.cost
 have qv := Nd.fine_len dT.fine
 clear dT
 have sW := aa (mv.out.step hs hk)
 have LS := aa (bG E9.out fE hk)
 clear hs hk mv E9
 unfold Nd.val
 go_wp2_with fail
 refine (ay _ _ _ _ _ _).mono ?_
 rintro e w9 ⟨rfl, hb⟩
 have RR := aa (RW.one (A := T) sW.out.size RT.out (hb.mono (by simp)) 20 0 ⟨#[]⟩)
 have hG := (bO w8 (.cells #[.int .i64 T.kind, .int .i64 T.num, .string T.name, .slice aT T.len cT] 27)).trans (hb.mono (by simp))
 clear hb
 have hb := hG
 clear hG
 have BY := aa (sW.out.calm hb)
 have CB9 := aa (aZ LS.out hb)
 clear hb sW LS
 clear RT
 have bP : ByteArray.size ⟨#[]⟩ = 0 := by decide
 obtain ⟨f0, f1, f2, f3, ff⟩ := BY.out.cells
 go_wp2
 refine bodyPost_ret (BY.out.read Tryd.results47 rfl _ _ _ _) rfl ⟨cm 20 0 ⟨#[]⟩ T, .slice (some ⟨w8.heap.size, 0, none⟩) 1 1, rfl, ?_⟩
 exact (BY.out.fin (P := fun T => T.sOk = true) (C := E) RR.out (bF (by omega) (by omega) (by decide) FT.out) (qc (by omega) OT.out) (by rw [cH]; omega)).more (by omega)) : G := h
theorem Vp (h : G := by
 go_simp
 exact fG.out v (fun _ _ _ h => h) (HS.out.same (by omega) cJ (by decide) (by decide) rfl) _ rfl (by decide)) : G := h
theorem Vo (h : G := by
 have k_O25_0 := kk
 exact Vi) : G := h
theorem Vn (h : G := by
 exact (sW.out.fin (P := fun T => T.sOk = true) (C := E) RR.out (bF (by omega) (by omega) (by decide) FT.out) (qc (by omega) OT.out) (by rw [cH]; omega)).more (by omega)) : G := h
theorem Vm (h : G := by
 exact (mv.out.fin (P := fun T => T.sOk = true) (C := E) RR.out (bF (by omega) (by omega) (by decide) FT.out) (qc (by omega) OT.out) (by rw [cH]; omega)).more (by omega)) : G := h
theorem Vl (h : G := by
 have bx := aa (fun (j : Nat) (hj : j < 7) (hl : listed.getD j false = true) => hI.vals j hj (tN hl))
 have bg := aa (fun o (ho : _ = some o) => gE hr (o := o) ho)
 have s0 : a.tmps[0]?.getD undef = .pointer (some ⟨sb, 0, none⟩) := ab (hI.keep 0 (by intro i hi; show 0 ≠ (if i < 6 then 63 + i else 300 + i); split <;> omega))
 have s8 : a.tmps[8]?.getD undef = .pointer (some ⟨w.heap.size, 0, none⟩) := ab (hI.keep 8 (by intro i hi; show 8 ≠ (if i < 6 then 63 + i else 300 + i); split <;> omega))
 have s14 : a.tmps[14]?.getD undef = .pointer (some ⟨w5.heap.size, 0, none⟩) := ab (hI.keep 14 (by intro i hi; show 14 ≠ (if i < 6 then 63 + i else 300 + i); split <;> omega))
 have po := aa hS
 clear hI hr hS
 rcases (by omega : i = 0 ∨ i = 1 ∨ i = 2 ∨ i = 3 ∨ i = 4 ∨ i = 5 ∨ i = 6) with rfl | rfl | rfl | rfl | rfl | rfl | rfl
 all_goals (refine lx rfl rfl ?_)
 ·exact bO13
 ·exact bO9
 ·exact bO5
 ·exact bO7
 first
 |clear k_O22_0
  ·have mO := (po.out.1.low (show 4 < 6 by omega) cJ).2.1.size
   have h66 := ab (show a.eval (.tmp 66) = .agg #[.int .i64 26, .int .i64 0, .string ⟨#[]⟩, .slice none 0 0] from bx.out 3 (by omega) (bg.out _ rfl ⟨3, Ground.data⟩ (by simp) rfl))
   exact Vu
  ·obtain ⟨sg, o7, hx⟩ : ∃ s, Ao s ∧ a.eval (.tmp 65) = .string s := bx.out 2 (by omega) (bg.out _ rfl ⟨2, Ground.data⟩ (by simp) rfl)
   obtain ⟨gx, hg, hy, nY⟩ : ∃ gx, w.heap.size + 1 ≤ gx ∧ a.eval (.tmp 67) = .slice (some ⟨gx, 0, none⟩) 1 1 ∧ v.heap[gx]? = some (L6 (al 26 0 ⟨#[]⟩) (.slice none 0 0)) := bx.out 4 (by omega) (bg.out _ rfl ⟨4, Ground.data⟩ (by simp) rfl)
   exact bO8
  ·obtain ⟨sg, gx, o7, hg, hx, nY⟩ : ∃ s gx, Ao s ∧ w.heap.size + 1 ≤ gx ∧ a.eval (.tmp 68) = .agg #[.int .i64 5, .int .i64 0, .string s, .slice (some ⟨gx, 0, none⟩) 1 1] ∧ v.heap[gx]? = some (L6 (al 26 0 ⟨#[]⟩) (.slice none 0 0)) := bx.out 5 (by omega) (bg.out _ rfl ⟨5, Ground.data⟩ (by simp) rfl)
   exact bO6
 |clear k_O22_1
  ·have mO := (po.out.1.low (show 4 < 6 by omega) cJ).2.1.size
   have h66 := ab (show a.eval (.tmp 66) = .agg #[.int .i64 26, .int .i64 0, .string ⟨#[]⟩, .slice (some ⟨g, 0, none⟩) 1 cap] from bx.out 3 (by omega) (bg.out _ rfl ⟨3, Ground.data⟩ (by simp) rfl))
   exact Vu
  ·obtain ⟨sg, o7, hx⟩ : ∃ s, Ao s ∧ a.eval (.tmp 65) = .string s := bx.out 2 (by omega) (bg.out _ rfl ⟨2, Ground.data⟩ (by simp) rfl)
   obtain ⟨gx, hg, hy, nY⟩ : ∃ gx, w.heap.size + 1 ≤ gx ∧ a.eval (.tmp 67) = .slice (some ⟨gx, 0, none⟩) 1 1 ∧ v.heap[gx]? = some (L6 (cm 26 0 ⟨#[]⟩ (al 22 q ⟨#[]⟩)) (.slice (some ⟨g, 0, none⟩) 1 cap)) := bx.out 4 (by omega) (bg.out _ rfl ⟨4, Ground.data⟩ (by simp) rfl)
   exact bO8
  ·obtain ⟨sg, gx, o7, hg, hx, nY⟩ : ∃ s gx, Ao s ∧ w.heap.size + 1 ≤ gx ∧ a.eval (.tmp 68) = .agg #[.int .i64 5, .int .i64 0, .string s, .slice (some ⟨gx, 0, none⟩) 1 1] ∧ v.heap[gx]? = some (L6 (cm 26 0 ⟨#[]⟩ (al 22 q ⟨#[]⟩)) (.slice (some ⟨g, 0, none⟩) 1 cap)) := bx.out 5 (by omega) (bg.out _ rfl ⟨5, Ground.data⟩ (by simp) rfl)
   exact bO6) : G := h
theorem Vk (h : G := by
 skip
 go_wp2_with fail
 refine (yC.out _ _ (by omega) gG.out).mono ?_
 have k_O27_0 := kk
 exact Vg) : G := h
theorem Vj (h : G := by
 skip
 go_wp2_with fail
 refine (yC.out _ _ (by omega) ix.out).mono ?_
 have k_O26_1 := kk
 exact Vh) : G := h
theorem Vi (h : G := by
 have k_O27_1 := kk
 exact Vg) : G := h
theorem Vh (h : G := by
 rintro e w7 ⟨T, uT, rfl, dT⟩
 obtain ⟨aT, cT, rfl⟩ := aQ dT.row
 have hs := dT.src
 have hk := dT.kp
 have RT := aa (RW.of_drawn ix.out dT)
 have FT := aa dT.fine
 have OT := aa dT.ok
 have nX := dT.cost
 have qv := Nd.fine_len dT.fine
 clear dT
 have mv := aa (ix.out.step hs hk)
 have E9 := aa (bG yQ.out fE hk)
 clear hs hk ix yQ
 unfold Nd.val
 go_wp2_with fail
 first
 |clear k_O26_0
  refine (ay _ _ _ _ _ _).mono ?_
  rintro e w8 ⟨rfl, hb⟩
  have RR := aa (RW.one (A := T) mv.out.size RT.out (hb.mono (by simp)) 20 0 ⟨#[]⟩)
  have k_O29_0 := kk
  exact Vd
 |clear k_O26_1
  first
  |clear k_O24_0
   refine (ay _ _ _ _ _ _).mono ?_
   rintro e w8 ⟨rfl, hb⟩
   have RR := aa (RW.one (A := T) mv.out.size RT.out (hb.mono (by simp)) 21 0 ⟨#[]⟩)
   have k_O29_1 := kk
   exact Vd
  |clear k_O24_1
   refine (pP _ _ _ _ _).mono ?_
   rintro e w8 ⟨rfl, hb⟩
   have R1 := aa (RW.one (A := T) mv.out.size RT.out (hb.mono (by simp)) 25 0 ⟨#[115, 104, 111, 119]⟩)
   have k_O35_0 := kk
   exact U8) : G := h
theorem Vg (h : G := by
 rintro e w6 ⟨T, uT, rfl, dT⟩
 obtain ⟨aT, cT, rfl⟩ := aQ dT.row
 have hs := dT.src
 have hk := dT.kp
 have RT := aa (RW.of_drawn gG.out dT)
 have FT := aa dT.fine
 have OT := aa dT.ok
 have nX := dT.cost
 have qv := Nd.fine_len dT.fine
 clear dT
 have ix := aa (gG.out.step hs hk)
 have yQ := aa (bG qE.out fE hk)
 clear hs hk gG qE
 unfold Nd.val
 go_wp2_with fail
 first
 |clear k_O27_0
  first
  |clear k_O23_0
   refine (ay _ _ _ _ _ _).mono ?_
   rintro e w7 ⟨rfl, hb⟩
   have RR := aa (RW.one (A := T) ix.out.size RT.out (hb.mono (by simp)) 21 0 ⟨#[]⟩)
   have k_O30_0 := kk
   exact Vc
  |clear k_O23_1
   refine (pP _ _ _ _ _).mono ?_
   rintro e w7 ⟨rfl, hb⟩
   have R1 := aa (RW.one (A := T) ix.out.size RT.out (hb.mono (by simp)) 25 0 ⟨#[115, 104, 111, 119]⟩)
   have k_O36_0 := kk
   exact U7
 |clear k_O27_1
  first
  |clear k_O25_0
   refine (ay _ _ _ _ _ _).mono ?_
   rintro e w7 ⟨rfl, hb⟩
   have RR := aa (RW.one (A := T) ix.out.size RT.out (hb.mono (by simp)) 20 0 ⟨#[]⟩)
   have k_O30_1 := kk
   exact Vc
  |clear k_O25_1
   refine (NX.out _ _ (by omega) ix.out 4 (by omega)).mono ?_
   rintro e w7 ⟨q, hq, rfl, hs, hk⟩
   have An := aa (RW.step RT.out ix.out hk)
   clear RT
   have RT := An
   clear An
   have mv := aa (ix.out.step hs hk)
   have E9 := aa (bG yQ.out fE hk)
   clear hs hk ix yQ
   go_wp2_with fail
   refine (nQ _ _).mono ?_
   rintro e w8 ⟨rfl, hb⟩
   have An := aa (RW.calm RT.out hb)
   clear RT
   have RT := An
   clear An
   have sW := aa (mv.out.calm hb)
   have LS := aa (aZ E9.out hb)
   clear hb mv E9
   go_wp2_with fail
   refine (ay _ _ _ _ _ _).mono ?_
   rintro e w9 ⟨rfl, hb⟩
   have R1 := aa (RW.two (A := T) (B := al 22 q ⟨#[]⟩) sW.out.size RT.out (RW.leaf w _ 22 q ⟨#[]⟩) (hb.mono (by simp)) 28 0 ⟨#[43]⟩)
   have hG := (bO w8 (.cells #[.int .i64 T.kind, .int .i64 T.num, .string T.name, .slice aT T.len cT, .int .i64 22, .int .i64 (q : Int), .string ⟨#[]⟩, .slice none 0 0] 27)).trans (hb.mono (by simp))
   clear hb
   have hb := hG
   clear hG
   have BY := aa (sW.out.calm hb)
   have CB9 := aa (aZ LS.out hb)
   clear hb sW LS
   go_wp2_with fail
   refine (ay _ _ _ _ _ _).mono ?_
   rintro e w10 ⟨rfl, hb⟩
   have RR := aa (RW.one (A := gO 28 0 ⟨#[43]⟩ T (al 22 q ⟨#[]⟩)) BY.out.size R1.out (hb.mono (by simp)) 5 0 sg)
   have hG := (bO w9 (.cells #[.int .i64 28, .int .i64 0, .string ⟨#[43]⟩, .slice (some ⟨w8.heap.size, 0, none⟩) 2 2] 27)).trans (hb.mono (by simp))
   clear hb
   have hb := hG
   clear hG
   have PM := aa (BY.out.calm hb)
   have CB10 := aa (aZ CB9.out hb)
   clear hb BY CB9
   clear RT R1
   have bP : ByteArray.size ⟨#[]⟩ = 0 := by decide
   have vU : ByteArray.size ⟨#[43]⟩ = 1 := by decide
   obtain ⟨f0, f1, f2, f3, ff⟩ := PM.out.cells
   go_wp2
   refine bodyPost_ret (PM.out.read Tryd.results47 rfl _ _ _ _) rfl ⟨cm 5 0 sg (gO 28 0 ⟨#[43]⟩ T (al 22 q ⟨#[]⟩)), .slice (some ⟨w9.heap.size, 0, none⟩) 1 1, rfl, ?_⟩
   exact (PM.out.fin (P := fun T => T.sOk = true) (C := E) RR.out (bF (by omega) (by omega) (by omega) (iE (by omega) (by omega) (by decide) FT.out (aC (by omega) (by omega) (by decide)))) (qb (.inl rfl) sU.out (rT (by decide) OT.out (mQ (by omega)))) (by rw [cH, iF, bw]; omega)).more (by omega)) : G := h
theorem Ve (h : G := by
 rintro e w5 ⟨T, uT, rfl, dT⟩
 obtain ⟨aT, cT, rfl⟩ := aQ dT.row
 have hs := dT.src
 have hk := dT.kp
 have RT := aa (RW.of_drawn hH.out dT)
 have FT := aa dT.fine
 have OT := aa dT.ok
 have nX := dT.cost
 have qv := Nd.fine_len dT.fine
 clear dT
 have gG := aa (hH.out.step hs hk)
 have qE := aa (bG vS.out fE hk)
 clear hs hk hH vS
 unfold Nd.val
 first
 |clear k_O28_0
  go_wp2_with fail
  refine (ay _ _ _ _ _ _).mono ?_
  rintro e w6 ⟨rfl, hb⟩
  have RR := aa (RW.one (A := T) gG.out.size RT.out (hb.mono (by simp)) 6 0 num)
  have hG := (bO w5 (.cells #[.int .i64 T.kind, .int .i64 T.num, .string T.name, .slice aT T.len cT] 27)).trans (hb.mono (by simp))
  clear hb
  have hb := hG
  clear hG
  have ix := aa (gG.out.calm hb)
  have yQ := aa (aZ qE.out hb)
  clear hb gG qE
  clear RT
  obtain ⟨f0, f1, f2, f3, ff⟩ := ix.out.cells
  go_wp2
  refine bodyPost_ret (ix.out.read Tryd.results47 rfl _ _ _ _) rfl ⟨cm 6 0 num T, .slice (some ⟨w5.heap.size, 0, none⟩) 1 1, rfl, ?_⟩
  exact (ix.out.fin (P := fun T => T.sOk = true) (C := E) RR.out (bF (by omega) (by omega) (by omega) FT.out) (qb (.inr rfl) PC.out OT.out) (by rw [cH]; omega)).more (by omega)
 |clear k_O28_1
  obtain ⟨f0, f1, f2, f3, ff⟩ := gG.out.cells
  go_wp2
  refine bodyPost_ret (gG.out.read Tryd.results47 rfl _ _ _ _) rfl ⟨T, .slice aT T.len cT, rfl, ?_⟩
  exact (gG.out.fin (P := fun T => T.sOk = true) (C := E) RT.out FT.out OT.out (by omega)).more (by omega)) : G := h
theorem Vd (h : G := by
 have k_O35_1 := kk
 exact U8) : G := h
theorem Vc (h : G := by
 have k_O36_1 := kk
 exact U7) : G := h
theorem Vb (h : G := by
 have sU := aa o7.1
 have hszS := o7.2
 rw [iV (n := 7) bP o8 cL]
 generalize (fun i => a.eval (.tmp (if i < 6 then 63 + i else 300 + i))) = ff
 clear bP o8 cL iM hS aN hl hl7 gC gH o7 nY
 simp only [mM, Act.put, Nat.reduceLT, if_true, if_false, Nat.reduceAdd, List.setIfInBounds_toArray, List.set_cons_succ, List.set_cons_zero]
 go_wp2
 first
 |clear k_O31_0
  refine bodyPost_ret (IJ.out.read Tryd.results47 rfl _ _ _ _) rfl ⟨cm 5 0 sg (al 26 0 ⟨#[]⟩), _, rfl, ?_⟩
  exact (IJ.out.fin (P := fun T => T.sOk = true) (C := E) RR.out (bF (by omega) (by omega) (by omega) (aC (by omega) (by omega) (by decide))) (qb (.inl rfl) sU.out Ep) (by rw [cH, bw]; omega)).more (by omega)
 |clear k_O31_1
  refine bodyPost_ret (IJ.out.read Tryd.results47 rfl _ _ _ _) rfl ⟨cm 5 0 sg (cm 26 0 ⟨#[]⟩ (al 22 q ⟨#[]⟩)), _, rfl, ?_⟩
  exact (IJ.out.fin (P := fun T => T.sOk = true) (C := E) RR.out (bF (by omega) (by omega) (by omega) (bF (by omega) (by omega) (by decide) (aC (by omega) (by omega) (by decide)))) (qb (.inl rfl) sU.out (Eo (mQ (by omega)))) (by rw [cH, cH, bw]; omega)).more (by omega)) : G := h
theorem Va (h : G := by
 skip
 go_wp2_with fail
 refine (bM _ _ _ _ _ _ _).mono ?_
 rintro e w7 ⟨rfl, hb⟩
 have mv := aa (ix.out.calm hb)
 have E9 := aa (aZ yQ.out hb)
 clear hb ix yQ
 have bP : ByteArray.size ⟨#[]⟩ = 0 := by decide
 obtain ⟨f0, f1, f2, f3, ff⟩ := mv.out.cells
 go_wp2
 first
 |clear k_O32_0
  refine bodyPost_ret (mv.out.read Tryd.results47 rfl _ _ _ _) rfl ⟨al 17 0 ⟨#[]⟩, .slice none 0 0, rfl, ?_⟩
  exact (mv.out.fin (P := fun T => T.sOk = true) (C := E) (RW.leaf w _ 17 0 ⟨#[]⟩) (aC (by omega) (by omega) (by decide)) (Cj (by omega)) (by rw [bw]; omega)).more (by omega)
 |clear k_O32_1
  refine bodyPost_ret (mv.out.read Tryd.results47 rfl _ _ _ _) rfl ⟨al 18 0 ⟨#[]⟩, .slice none 0 0, rfl, ?_⟩
  exact (mv.out.fin (P := fun T => T.sOk = true) (C := E) (RW.leaf w _ 18 0 ⟨#[]⟩) (aC (by omega) (by omega) (by decide)) (Cj (by omega)) (by rw [bw]; omega)).more (by omega)) : G := h
theorem U9 (h : G := by
 have oS := IG.out (by trivial)
 have Kq := gR oS
 have vH := aa oS
 clear oS IG
 go_wp2_with fail
 obtain ⟨k0, k1, k2, k3, kf⟩ := aw vS.out
 have EXd := aa (yC.out _ w4.drew (by omega) hH.out.drew)
 have bP : ByteArray.size ⟨#[]⟩ = 0 := by decide
 first
 |clear k_O33_0
  have vU : ByteArray.size ⟨#[112, 117, 116]⟩ ≤ 10 := by decide
  go_region_with (first
   |(go_at_call 68; refine EXd.out.mono ?_; rintro e w5 ⟨T, uT, rfl, dT⟩; obtain ⟨aT, cT, rfl⟩ := aQ dT.row; have gG := aa (hH.out.drew.step dT.src dT.kp); have qE := aa (bG (W := w4.drew) vS.out fE dT.kp); obtain ⟨j0, j1, j2, j3, jf⟩ := aw qE.out; have RT := aa (RW.of_drawn hH.out.drew dT); have FT := aa dT.fine; have OT := aa dT.ok; have nX := dT.cost; have qv := Nd.fine_len dT.fine; clear dT; unfold Nd.val)
   |(go_at_call 70; refine (pP _ _ _ _ _).mono ?_; rintro e w6 ⟨rfl, hb⟩; have hG := (bO w5 (.cells #[.int .i64 24, .int .i64 0, .string ch, .slice none 0 0, .int .i64 T.kind, .int .i64 T.num, .string T.name, .slice aT T.len cT] 27)).trans (hb.mono (by simp)); have R1 := aa (RW.two (A := al 24 0 ch) (B := T) gG.out.size (RW.leaf w _ 24 0 ch) RT.out (hb.mono (by simp)) 25 0 ⟨#[112, 117, 116]⟩); have ix := aa (gG.out.calm hG); clear hb hG)
   |(go_at_call 30; refine (ay _ _ _ _ _ _).mono ?_; rintro e w7 ⟨rfl, hb⟩; have hG := (bO w6 (.cells #[.int .i64 25, .int .i64 0, .string ⟨#[112, 117, 116]⟩, .slice (some ⟨w5.heap.size, 0, none⟩) 2 2] 27)).trans (hb.mono (by simp)); have RR := aa (RW.one (A := gO 25 0 ⟨#[112, 117, 116]⟩ (al 24 0 ch) T) ix.out.size R1.out (hb.mono (by simp)) 13 0 ⟨#[]⟩); have mv := aa (ix.out.calm hG); obtain ⟨f0, f1, f2, f3, ff⟩ := mv.out.cells; clear hb hG))
  all_goals
   go_wp2
   refine bodyPost_ret (mv.out.read Tryd.results47 rfl _ _ _ _) rfl ⟨cm 13 0 ⟨#[]⟩ (gO 25 0 ⟨#[112, 117, 116]⟩ (al 24 0 ch) T), .slice (some ⟨w6.heap.size, 0, none⟩) 1 1, rfl, ?_⟩
   exact (mv.out.fin (P := fun T => T.sOk = true) (C := E) RR.out (bF (by omega) (by omega) (by decide) (iE (by omega) (by omega) (by decide) (aC (by omega) (by omega) (by omega)) FT.out)) (xV (by omega) rfl (sP (by decide) (lS vH.out) OT.out)) (by rw [cH, iF, bw]; omega)).more (by omega)
 |clear k_O33_1
  go_region_with (first
   |(go_at_call 68; refine EXd.out.mono ?_; rintro e w5 ⟨T, uT, rfl, dT⟩; obtain ⟨aT, cT, rfl⟩ := aQ dT.row; have gG := aa (hH.out.drew.step dT.src dT.kp); have qE := aa (bG (W := w4.drew) vS.out fE dT.kp); obtain ⟨j0, j1, j2, j3, jf⟩ := aw qE.out; have RT := aa (RW.of_drawn hH.out.drew dT); have FT := aa dT.fine; have OT := aa dT.ok; have nX := dT.cost; have qv := Nd.fine_len dT.fine; clear dT; unfold Nd.val)
   |(go_at_call 30; refine (ay _ _ _ _ _ _).mono ?_; rintro e w6 ⟨rfl, hb⟩; have hG := (bO w5 (.cells #[.int .i64 24, .int .i64 0, .string ch, .slice none 0 0, .int .i64 T.kind, .int .i64 T.num, .string T.name, .slice aT T.len cT] 27)).trans (hb.mono (by simp)); have RR := aa (RW.two (A := al 24 0 ch) (B := T) gG.out.size (RW.leaf w _ 24 0 ch) RT.out (hb.mono (by simp)) 8 0 ⟨#[]⟩); have ix := aa (gG.out.calm hG); obtain ⟨f0, f1, f2, f3, ff⟩ := ix.out.cells; clear hb hG))
  all_goals
   go_wp2
   refine bodyPost_ret (ix.out.read Tryd.results47 rfl _ _ _ _) rfl ⟨gO 8 0 ⟨#[]⟩ (al 24 0 ch) T, .slice (some ⟨w5.heap.size, 0, none⟩) 2 2, rfl, ?_⟩
   exact (ix.out.fin (P := fun T => T.sOk = true) (C := E) RR.out (iE (by omega) (by omega) (by decide) (aC (by omega) (by omega) (by omega)) FT.out) (F7 (lS vH.out) OT.out) (by rw [iF, bw]; omega)).more (by omega)) : G := h
theorem Pd (h : G := by
 have k_O39_0 := kk
 exact U5) : G := h
theorem U8 (h : G := by
 have hG := (bO w7 (.cells #[.int .i64 T.kind, .int .i64 T.num, .string T.name, .slice aT T.len cT] 27)).trans (hb.mono (by simp))
 clear hb
 have hb := hG
 clear hG
 have sW := aa (mv.out.calm hb)
 have LS := aa (aZ E9.out hb)
 clear hb mv E9
 first
 |clear k_O35_0
  go_wp2_with fail
  refine (ay _ _ _ _ _ _).mono ?_
  rintro e w9 ⟨rfl, hb⟩
  have RR := aa (RW.one (A := cm 25 0 ⟨#[115, 104, 111, 119]⟩ T) sW.out.size R1.out (hb.mono (by simp)) 14 0 ⟨#[]⟩)
  have hG := (bO w8 (.cells #[.int .i64 25, .int .i64 0, .string ⟨#[115, 104, 111, 119]⟩, .slice (some ⟨w7.heap.size, 0, none⟩) 1 1] 27)).trans (hb.mono (by simp))
  clear hb
  have hb := hG
  clear hG
  have BY := aa (sW.out.calm hb)
  have CB9 := aa (aZ LS.out hb)
  clear hb sW LS
  clear R1 RT
  have bP : ByteArray.size ⟨#[]⟩ = 0 := by decide
  have vU : ByteArray.size ⟨#[115, 104, 111, 119]⟩ ≤ 10 := by decide
  obtain ⟨f0, f1, f2, f3, ff⟩ := BY.out.cells
  go_wp2
  refine bodyPost_ret (BY.out.read Tryd.results47 rfl _ _ _ _) rfl ⟨cm 14 0 ⟨#[]⟩ (cm 25 0 ⟨#[115, 104, 111, 119]⟩ T), .slice (some ⟨w8.heap.size, 0, none⟩) 1 1, rfl, ?_⟩
  exact (BY.out.fin (P := fun T => T.sOk = true) (C := E) RR.out (bF (by omega) (by omega) (by decide) (bF (by omega) (by omega) (by decide) FT.out)) (xV (by omega) rfl (xw (by decide) OT.out)) (by rw [cH, cH]; omega)).more (by omega)
 |clear k_O35_1
  clear RT
  have bP : ByteArray.size ⟨#[]⟩ = 0 := by decide
  obtain ⟨f0, f1, f2, f3, ff⟩ := sW.out.cells
  go_wp2
  first
  |clear k_O29_0
   refine bodyPost_ret (sW.out.read Tryd.results47 rfl _ _ _ _) rfl ⟨cm 20 0 ⟨#[]⟩ T, .slice (some ⟨w7.heap.size, 0, none⟩) 1 1, rfl, ?_⟩
   exact Vn
  |clear k_O29_1
   refine bodyPost_ret (sW.out.read Tryd.results47 rfl _ _ _ _) rfl ⟨cm 21 0 ⟨#[]⟩ T, .slice (some ⟨w7.heap.size, 0, none⟩) 1 1, rfl, ?_⟩
   exact Vn) : G := h
theorem U7 (h : G := by
 have hG := (bO w6 (.cells #[.int .i64 T.kind, .int .i64 T.num, .string T.name, .slice aT T.len cT] 27)).trans (hb.mono (by simp))
 clear hb
 have hb := hG
 clear hG
 have mv := aa (ix.out.calm hb)
 have E9 := aa (aZ yQ.out hb)
 clear hb ix yQ
 first
 |clear k_O36_0
  go_wp2_with fail
  refine (ay _ _ _ _ _ _).mono ?_
  rintro e w8 ⟨rfl, hb⟩
  have RR := aa (RW.one (A := cm 25 0 ⟨#[115, 104, 111, 119]⟩ T) mv.out.size R1.out (hb.mono (by simp)) 14 0 ⟨#[]⟩)
  have hG := (bO w7 (.cells #[.int .i64 25, .int .i64 0, .string ⟨#[115, 104, 111, 119]⟩, .slice (some ⟨w6.heap.size, 0, none⟩) 1 1] 27)).trans (hb.mono (by simp))
  clear hb
  have hb := hG
  clear hG
  have sW := aa (mv.out.calm hb)
  have LS := aa (aZ E9.out hb)
  clear hb mv E9
  clear R1 RT
  have bP : ByteArray.size ⟨#[]⟩ = 0 := by decide
  have vU : ByteArray.size ⟨#[115, 104, 111, 119]⟩ ≤ 10 := by decide
  obtain ⟨f0, f1, f2, f3, ff⟩ := sW.out.cells
  go_wp2
  refine bodyPost_ret (sW.out.read Tryd.results47 rfl _ _ _ _) rfl ⟨cm 14 0 ⟨#[]⟩ (cm 25 0 ⟨#[115, 104, 111, 119]⟩ T), .slice (some ⟨w7.heap.size, 0, none⟩) 1 1, rfl, ?_⟩
  exact (sW.out.fin (P := fun T => T.sOk = true) (C := E) RR.out (bF (by omega) (by omega) (by decide) (bF (by omega) (by omega) (by decide) FT.out)) (xV (by omega) rfl (xw (by decide) OT.out)) (by rw [cH, cH]; omega)).more (by omega)
 |clear k_O36_1
  clear RT
  have bP : ByteArray.size ⟨#[]⟩ = 0 := by decide
  obtain ⟨f0, f1, f2, f3, ff⟩ := mv.out.cells
  go_wp2
  first
  |clear k_O30_0
   refine bodyPost_ret (mv.out.read Tryd.results47 rfl _ _ _ _) rfl ⟨cm 21 0 ⟨#[]⟩ T, .slice (some ⟨w6.heap.size, 0, none⟩) 1 1, rfl, ?_⟩
   exact Vm
  |clear k_O30_1
   refine bodyPost_ret (mv.out.read Tryd.results47 rfl _ _ _ _) rfl ⟨cm 20 0 ⟨#[]⟩ T, .slice (some ⟨w6.heap.size, 0, none⟩) 1 1, rfl, ?_⟩
   exact Vm) : G := h
theorem U6 (h : G := by
 intro a v bP o8 cL wa iM
 obtain ⟨l, hl, hS, aN⟩ := wa
 have hl7 : l.size = 7 := hl
 obtain ⟨v0, sg, gx, ⟨gC, gH⟩, o7, hg, nY, rfl⟩ := hS.1.2.2 (getD_in (by omega) (aN 6 (by show 6 < 7; omega)))
 have IJ := aa gC
 first
 |clear k_O37_0
  have RR := aa (Cl (A := al 26 0 ⟨#[]⟩) hg nY (RW.step HRM.out (ix.out) gH) 5 0 sg)
  have k_O31_0 := kk
  exact Vb
 |clear k_O37_1
  have RR := aa (Cl (A := cm 26 0 ⟨#[]⟩ (al 22 q ⟨#[]⟩)) hg nY (RW.step HRM.out (E5.out) gH) 5 0 sg)
  have k_O31_1 := kk
  exact Vb) : G := h
theorem Ll (h : G := by
 have k_O47_0 := kk
 exact Lk) : G := h
theorem U5 (h : G := by
 have k_O47_2 := kk
 exact Lk) : G := h
theorem U3 (h : G := by
 skip
 have k_O46_1 := kk
 exact UZ) : G := h
theorem U2 (h : G := by
 go_wp2_with fail
 refine (NX.out _ _ (by omega) hH.out 2 (by omega)).mono ?_
 rintro e w5 ⟨q, hq, rfl, hs, hk⟩
 have gG := aa (hH.out.step hs hk)
 have qE := aa (bG vS.out fE hk)
 clear hs hk hH vS
 first
 |clear k_O41_0
  go_wp2_with fail
  refine (bM _ _ _ _ _ _ _).mono ?_
  rintro e w6 ⟨rfl, hb⟩
  have ix := aa (gG.out.calm hb)
  have yQ := aa (aZ qE.out hb)
  clear hb gG qE
  obtain ⟨f0, f1, f2, f3, ff⟩ := ix.out.cells
  go_wp2
  refine bodyPost_ret (ix.out.read Tryd.results47 rfl _ _ _ _) rfl ⟨al 7 (1 - 2 * (q : Int)) num, .slice none 0 0, rfl, ?_⟩
  exact (ix.out.fin (P := fun T => T.sOk = true) (C := E) (RW.leaf w _ 7 (1 - 2 * (q : Int)) num) (aC (by omega) (by omega) (by omega)) (zb (by omega) PC.out) (by rw [bw]; omega)).more (by omega)
 |clear k_O41_1
  rcases (by omega : q = 0 ∨ q = 1) with rfl | rfl
  ·skip
   go_wp2_with fail
   refine (B0.out _ _ (by omega) gG.out).mono ?_
   exact Vo
  ·skip
   go_wp2_with fail
   refine (EM.out _ _ (by omega) gG.out).mono ?_
   exact Vo) : G := h
theorem U1 (h : G := by
 have k_O47_1 := kk
 exact Lk) : G := h
theorem Pc (h : G := by
 have bB := fN (f := 40) (j := 11) mZ.out (by kernel_rfl) cJ
 have aF := fN (f := 40) (j := 13) mZ.out (by kernel_rfl) cJ
 obtain ⟨gC, gH⟩ := HS.out.pre bB
 first
 |clear k_O43_0
  go_simp
  refine (gv sb _ 3 v (by omega) (by omega) gC.src).mono ?_
  rintro e v2 ⟨q2, mU, rfl, hs, hk⟩
  exact fG.out v2 (yx (Wn.of_kp hk Mj) bB aF) (HS.out.ask (by omega) (by omega) cJ (by decide) (by decide) bB aF hs hk) _ ⟨q2, by omega, rfl⟩ (by decide)
 |clear k_O43_1
  have htu : vK (fun i => if i = 7 then 3 else if i = 9 then 2 * K + 10 else 0) l 14 + (2 * K + 10) ≤ 2 * K + 13 := by have := xH (asks := fun i => if i = 7 then 3 else if i = 9 then 2 * K + 10 else 0) (n := 14) (i := 9) (fF cJ) (by omega); rw [oz] at this; exact this
  have HSV := aa (SC.out _ v gC)
  have mO := gH.size
  clear hx
  go_simp
  refine (vy Fa.out sb _ n q2 (.slice va n vc) loops v (by omega) (by omega) (by omega) gC.src HSV.out).mono ?_
  rintro e v2 ⟨T2, u2, rfl, d2⟩
  obtain ⟨a2, c2, rfl⟩ := aQ d2.row
  exact fG.out v2 (yx (Wn.of_kp d2.kp Mj) bB aF) (HS.out.ask (by omega) (by omega) cJ (by decide) (by decide) bB aF d2.src d2.kp) _ ⟨T2, a2, c2, ⟨d2.fine, d2.ok.1, d2.cost⟩, rfl, cD d2.row mO lr⟩ (by decide)
 |clear k_O43_2
  have Qp := aa vV
  have mO := gH.size
  clear hx vV
  go_simp
  exact fG.out _ (yx (Wn.of_calm (bA)) bB aF) (HS.out.calm (by omega) cJ (by decide) (by decide) rfl bB aF (bA)) _ ⟨cm 0 0 ⟨#[]⟩ T2, _, _, ⟨T2, IZ, rfl⟩, rfl, LV.one mO Qp.out⟩ (by decide)) : G := h
theorem Pb (h : G := by
 have k_O47_3 := kk
 exact Lk) : G := h
theorem U0 (h : G := by
 go_upto_region 12 with fail
 have hNP : ∀ s ∈ ([⟨#[99]⟩, ⟨#[100]⟩] : List ByteArray), Ao s := by intro s hs; simp only [List.mem_cons, List.not_mem_nil, or_false] at hs; unfold Ao; rcases hs with rfl | rfl <;> decide
 first
 |clear k_O45_0
  have RO := ix.out.low
  have Bp : Tryd.prog.follows Departure.mixedOrders = true := by kernel_rfl
  have HRM := aa (RW.leaf w w6 26 0 ⟨#[]⟩)
  have HM := aa (And.intro m0 (And.intro m1 (And.intro m2 m3)))
  clear m0 m1 m2 m3
  refine mq Bp (by kernel_rfl) (fun i => (if i < 6 then 63 + i else 300 + i)) (Ql (w.heap.size + 1) sb (al 26 0 ⟨#[]⟩) (.slice none 0 0)) (S12 sb _ w w6 (al 26 0 ⟨#[]⟩) (.slice none 0 0)) (S12.start (al 26 0 ⟨#[]⟩) (.slice none 0 0) (ix.out)) ?_ ?_
  ·intro listed a v i hI hr
   have EU : i < 7 := (bd hr).1
   have cJ := (bd hr).2
   have hS := hI.s
   have Hb : listed.size = 7 := hI.lsize
   have fG := aa (fun (i : Nat) (hi : i < 6) (v' : World) (hw : Wr sb w.heap.size v v') (nB : S12 sb _ w w6 (al 26 0 ⟨#[]⟩) (.slice none 0 0) (listed.setIfInBounds i true) v') (x : Value) (hx : Ql (w.heap.size + 1) sb (al 26 0 ⟨#[]⟩) (.slice none 0 0) i v' x) => hI.put1 (w' := v') (fun i j hi hj h => by have : i < 7 := hi; have : j < 7 := hj; have h' : (if i < 6 then 63 + i else 300 + i) = (if j < 6 then 63 + j else 300 + j) := h; split at h' <;> split at h' <;> omega) (i := i) (by show (if i < 6 then 63 + i else 300 + i) < 258; rw [if_pos hi]; omega) (o5 hw (by omega) (by omega)) nB (show i < 7 by omega) hx)
   have vQ := aa (fun (v' : World) (hw : Wr sb w.heap.size v v') (h6 : i = 6) (nB : S12 sb _ w w6 (al 26 0 ⟨#[]⟩) (.slice none 0 0) (listed.setIfInBounds i true) v') => hI.none (w' := v') (o5 hw (by omega) (by omega)) nB EU (by intro x; subst h6; exact trivial))
   have k_O22_0 := kk
   exact Vl
  ·have k_O37_0 := kk
   exact U6
 |clear k_O45_1
  have RO := E5.out.low
  have Bp : Tryd.prog.follows Departure.mixedOrders = true := by kernel_rfl
  have HRM := aa (RX.out)
  have HM := aa (And.intro m0 (And.intro m1 (And.intro m2 m3)))
  clear m0 m1 m2 m3
  refine mq Bp (by kernel_rfl) (fun i => (if i < 6 then 63 + i else 300 + i)) (Ql (w.heap.size + 1) sb (cm 26 0 ⟨#[]⟩ (al 22 q ⟨#[]⟩)) (.slice (some ⟨g, 0, none⟩) 1 cap)) (S12 sb _ w wc (cm 26 0 ⟨#[]⟩ (al 22 q ⟨#[]⟩)) (.slice (some ⟨g, 0, none⟩) 1 cap)) (S12.start (cm 26 0 ⟨#[]⟩ (al 22 q ⟨#[]⟩)) (.slice (some ⟨g, 0, none⟩) 1 cap) (E5.out)) ?_ ?_
  ·intro listed a v i hI hr
   have EU : i < 7 := (bd hr).1
   have cJ := (bd hr).2
   have hS := hI.s
   have Hb : listed.size = 7 := hI.lsize
   have fG := aa (fun (i : Nat) (hi : i < 6) (v' : World) (hw : Wr sb w.heap.size v v') (nB : S12 sb _ w wc (cm 26 0 ⟨#[]⟩ (al 22 q ⟨#[]⟩)) (.slice (some ⟨g, 0, none⟩) 1 cap) (listed.setIfInBounds i true) v') (x : Value) (hx : Ql (w.heap.size + 1) sb (cm 26 0 ⟨#[]⟩ (al 22 q ⟨#[]⟩)) (.slice (some ⟨g, 0, none⟩) 1 cap) i v' x) => hI.put1 (w' := v') (fun i j hi hj h => by have : i < 7 := hi; have : j < 7 := hj; have h' : (if i < 6 then 63 + i else 300 + i) = (if j < 6 then 63 + j else 300 + j) := h; split at h' <;> split at h' <;> omega) (i := i) (by show (if i < 6 then 63 + i else 300 + i) < 258; rw [if_pos hi]; omega) (o5 hw (by omega) (by omega)) nB (show i < 7 by omega) hx)
   have vQ := aa (fun (v' : World) (hw : Wr sb w.heap.size v v') (h6 : i = 6) (nB : S12 sb _ w wc (cm 26 0 ⟨#[]⟩ (al 22 q ⟨#[]⟩)) (.slice (some ⟨g, 0, none⟩) 1 cap) (listed.setIfInBounds i true) v') => hI.none (w' := v') (o5 hw (by omega) (by omega)) nB EU (by intro x; subst h6; exact trivial))
   have k_O22_1 := kk
   exact Vl
  ·have k_O37_1 := kk
   exact U6) : G := h
theorem UZ (h : G := by
 go_wp2_with fail
 refine (CH.out _ _ (by omega) hH.out 3 (by omega)).mono ?_
 rintro e w5 ⟨t, rfl, hs, hk⟩
 have gG := aa (hH.out.step hs hk)
 have qE := aa (bG vS.out fE hk)
 clear hs hk hH vS
 cases t
 first
 |clear k_O46_0
  ·skip
   go_wp2_with fail
   refine (CH.out _ _ (by omega) gG.out 3 (by omega)).mono ?_
   rintro e w6 ⟨t, rfl, hs, hk⟩
   have ix := aa (gG.out.step hs hk)
   have yQ := aa (bG qE.out fE hk)
   clear hs hk gG qE
   cases t
   ·exact bO4
   ·have k_O24_1 := kk
    exact Vj
  ·skip
   obtain ⟨k0, k1, k2, k3, kf⟩ := aw qE.out
   go_wp2_with fail
   refine (ay _ _ _ _ _ _).mono ?_
   rintro e w6 ⟨rfl, hb⟩
   have RR := aa (RW.one (A := al 24 0 ch) gG.out.size (RW.leaf w _ 24 0 ch) (hb.mono (by simp)) 19 0 ⟨#[]⟩)
   have hG := (bO w5 (.cells #[.int .i64 24, .int .i64 0, .string ch, .slice none 0 0] 27)).trans (hb.mono (by simp))
   clear hb
   have hb := hG
   clear hG
   have ix := aa (gG.out.calm hb)
   have yQ := aa (aZ qE.out hb)
   clear hb gG qE
   clear k0 k1 k2 k3 kf
   have bP : ByteArray.size ⟨#[]⟩ = 0 := by decide
   obtain ⟨f0, f1, f2, f3, ff⟩ := ix.out.cells
   go_wp2
   refine bodyPost_ret (ix.out.read Tryd.results47 rfl _ _ _ _) rfl ⟨cm 19 0 ⟨#[]⟩ (al 24 0 ch), .slice (some ⟨w5.heap.size, 0, none⟩) 1 1, rfl, ?_⟩
   exact (ix.out.fin (P := fun T => T.sOk = true) (C := E) RR.out (bF (by omega) (by omega) (by decide) (aC (by omega) (by omega) (by omega))) (qc (by omega) (lS vH.out)) (by rw [cH, bw]; omega)).more (by omega)
 |clear k_O46_1
  first
  |clear k_O40_0
   ·exact bO3
   ·have k_O23_1 := kk
    exact Vk
  |clear k_O40_1
   ·skip
    go_wp2_with fail
    refine (CH.out _ _ (by omega) gG.out 6 (by omega)).mono ?_
    rintro e w6 ⟨t, rfl, hs, hk⟩
    have ix := aa (gG.out.step hs hk)
    have yQ := aa (bG qE.out fE hk)
    clear hs hk gG qE
    cases t
    ·exact bO4
    ·have k_O24_0 := kk
     exact Vj
   ·skip
    have hzB := gG.out.size
    go_wp2_with fail
    refine (NX.out _ _ (by omega) (gG.out.alloc _) 2 (by omega)).mono ?_
    rintro e w6 ⟨q, hq, rfl, hs, hk⟩
    have sJ := gG.out.low
    have mG : w6.heap[w5.heap.size]? = some (.cells #[.int .i64 17, .int .i64 18] 3 (0, 0)) := (hk.block _ (by simp) (by omega)).trans (heap_alloc_new w5 _)
    have iW : w6.cell? ⟨w5.heap.size, 0, none⟩ = some (.int .i64 17) := by rw [cell_of_row _ _ _ _ _ (0, 0) mG]; rfl
    have iQ : w6.cell? ⟨w5.heap.size, 1, none⟩ = some (.int .i64 18) := by rw [cell_of_row _ _ _ _ _ (0, 0) mG]; rfl
    have Ss := (b7 (bO w5 _) (fun k => k = sb)).trans hk (fun _ _ h => h)
    clear hk mG
    have hk := Ss
    clear Ss
    have ix := aa (gG.out.step hs hk)
    have yQ := aa (bG qE.out fE hk)
    clear hs hk gG qE
    rcases (by omega : q = 0 ∨ q = 1) with rfl | rfl
    ·have k_O32_0 := kk
     exact Va
    ·have k_O32_1 := kk
     exact Va) : G := h
theorem Lk (h : G := by
 have bB := fN (f := 40) (j := 15) mZ.out (by kernel_rfl) cJ
 have aF := fN (f := 40) (j := 15) mZ.out (by kernel_rfl) cJ
 obtain ⟨gC, gH⟩ := HS.out.pre bB
 first
 |clear k_O47_0
  go_simp
  refine (ay _ _ _ _ _ _).mono ?_
  rintro e v2 ⟨rfl, hb⟩
  first
  |clear k_O38_0
   exact fG.out v2 (nF (Wn.of_calm hb) bB aF) (HS.out.calm (by omega) cJ (by decide) (by decide) rfl bB aF hb) _ (TV.node (P := fun _ => True) 5 0 ⟨#[105]⟩ rfl ((Wn.of_calm hb).row HR.out)) (by decide)
  |clear k_O38_1
   exact fG.out v2 (nF (Wn.of_calm hb) bB aF) (HS.out.calm (by omega) cJ (by decide) (by decide) rfl bB aF hb) _ (TV.node (P := fun _ => True) 28 0 ⟨#[60]⟩ ⟨q2, mU, rfl⟩ ((Wn.of_calm hb).row HR.out)) (by decide)
  |clear k_O38_2
   exact fG.out v2 (nF (Wn.of_calm hb) bB aF) (HS.out.calm (by omega) cJ (by decide) (by decide) rfl bB aF hb) _ (TV.node (P := fun _ => True) 11 0 ⟨#[]⟩ ⟨q2, mU, rfl⟩ ((Wn.of_calm hb).row HR.out)) (by decide)
  |clear k_O38_3
   exact fG.out v2 (nF (Wn.of_calm hb) bB aF) (HS.out.calm (by omega) cJ (by decide) (by decide) rfl bB aF hb) _ (TV.node (P := fun _ => True) 4 0 ⟨#[]⟩ ⟨q2, mU, rfl⟩ ((Wn.of_calm hb).row HR.out)) (by decide)
 |clear k_O47_1
  go_simp
  refine (nQ _ _).mono ?_
  first
  |clear k_O42_0
   rintro e v2 ⟨rfl, hb⟩
   exact fG.out v2 (nF (Wn.of_calm hb) bB aF) (HS.out.calm (by omega) cJ (by decide) (by decide) rfl bB aF hb) _ ⟨q2, mU, rfl⟩ (by decide)
  |clear k_O42_1
   exact Vv
 |clear k_O47_2
  have mO : w.heap.size + 1 ≤ v.heap.size := by have := gH.size; omega
  first
  |clear k_O39_0
   go_simp
   first
   |clear k_O34_0
    exact fG.out _ (nF (Wn.of_calm (bA)) bB aF) (HS.out.calm (by omega) cJ (by decide) (by decide) rfl bB aF (bA)) _ ⟨cm 0 0 ⟨#[]⟩ (al 22 0 ⟨#[]⟩), _, _, rfl, rfl, LV.one (A := al 22 0 ⟨#[]⟩) mO (gD _ _ _ _ _ _)⟩ (by decide)
   |clear k_O34_1
    exact fG.out _ (nF (Wn.of_calm (bA)) bB aF) (HS.out.calm (by omega) cJ (by decide) (by decide) rfl bB aF (bA)) _ ⟨gO 0 0 ⟨#[]⟩ (al 24 0 ⟨#[105]⟩) (al 22 (1 + (q2 : Int)) ⟨#[]⟩), _, _, ⟨q2, mU, rfl⟩, rfl, LV.two (A := al 24 0 ⟨#[105]⟩) (B := al 22 (1 + (q2 : Int)) ⟨#[]⟩) mO (gD _ _ _ _ _ _) (gD _ _ _ _ _ _)⟩ (by decide)
   |clear k_O34_2
    exact fG.out _ (nF (Wn.of_calm (bA)) bB aF) (HS.out.calm (by omega) cJ (by decide) (by decide) rfl bB aF (bA)) _ ⟨gO 0 0 ⟨#[]⟩ we (z6 q2 (ct fJ TB)), _, _, ⟨q2, mU, rfl⟩, rfl, LV.two (A := we) (B := z6 q2 (ct fJ TB)) mO Qp.out HR.out⟩ (by decide)
  |clear k_O39_1
   have EF := aa (cD (l8 RL.out (by omega) lr gH) lr gH.size)
   go_simp
   exact fG.out _ (nF (Wn.of_calm (bA)) bB aF) (HS.out.calm (by omega) cJ (by decide) (by decide) rfl bB aF (bA)) _ ⟨gO 0 0 ⟨#[]⟩ (qz q2) (ct fJ TB), _, _, ⟨q2, mU, rfl⟩, rfl, LV.two (A := qz q2) (B := ct fJ TB) mO HR.out EF.out⟩ (by decide)
 |clear k_O47_3
  first
  |clear k_O44_0
   go_simp
   refine (ay _ _ _ _ _ _).mono ?_
   exact Vv
  |clear k_O44_1
   go_simp
   refine (gv sb _ 3 v (by omega) (by omega) gC.src).mono ?_
   rintro e v2 ⟨q2, mU, rfl, hs, hk⟩
   exact fG.out v2 (nF (Wn.of_kp hk RQ) bB aF) (HS.out.ask (by omega) (by omega) cJ (by decide) (by decide) bB aF hs hk) _ ⟨q2, by omega, rfl⟩ (by decide)
  |clear k_O44_2
   obtain ⟨z0, z1, z2, z3, zf⟩ := aw (bG E7.out qU gH)
   clear gC gH
   exact tA) : G := h
theorem FQ (deep : Int) (C K M C1 K1 M1 E : Nat) (hE : 4 * C + 1000 ≤ E) (KJ : C1 ≤ E) (h0 : 0 ≤ deep) (h9 : deep ≤ 100) (hC : C ≤ 100000000) (hK : K ≤ 100000000) (hC1 : C1 ≤ 100000000) (hK1 : K1 ≤ 100000000) (E0 : EXC 1 0 100 100) (E1 : EXC 1 1 300 300) (E2 : EXC 1 2 700 700) (E2B : EXC 2 2 700 700)
  (BD : 0 < deep → LW (deep - 1) C K M) (SL : 0 < deep → SLC deep C1 K1 M1) : VJ deep E (4 * K + K1 + 2000) (M + M1 + 3) := by
 intro sb A n v loops w hA hnM h hs
 have HD := aa (DW.start h)
 obtain ⟨va, vc, rfl, _⟩ := id hs
 have sL := bO w gZ
 have SC := aa (fun B W (hd : DW sb B w W) => (hs.keep (b7 sL _)).keep hd.kp)
 have PV := aa (fun (typ : Int) B W (hB : B + 3 ≤ 1099511627776) (hd : DW sb B w W) => pD sb B n typ (.slice va n vc) W hB hd.src (SC.out B W hd))
 have CH := aa (fun B W (hB : B + 3 ≤ 1099511627776) (hd : DW sb B w W) (k : Nat) (hk : k ≤ 100) => ri sb B k W hB (by omega) hd.src)
 have NX := aa (fun B W (hB : B + 3 ≤ 1099511627776) (hd : DW sb B w W) (k : Nat) (hk : k ≤ 100) => gv sb B k W hB (by omega) hd.src)
 have LL := aa (fun B W (hB : B + 100 ≤ 1099511627776) (hd : DW sb B w W) => E0 sb B n (.slice va n vc) W hB hd.src (SC.out B W hd))
 have yC := aa (fun B W (hB : B + 300 ≤ 1099511627776) (hd : DW sb B w W) => E1 sb B n (.slice va n vc) W hB hd.src (SC.out B W hd))
 have B0 := aa (fun B W (hB : B + 700 ≤ 1099511627776) (hd : DW sb B w W) => E2 sb B n (.slice va n vc) W hB hd.src (SC.out B W hd))
 have EM := aa (fun B W (hB : B + 700 ≤ 1099511627776) (hd : DW sb B w W) => E2B sb B n (.slice va n vc) W hB hd.src (SC.out B W hd))
 unfold gZ at *
 clear h sL E0 E1 E2 E2B
 go_enter Tryd.func47, Tryd.ntmps47
 go_wp2_with fail
 refine (PV.out 3 _ _ (by omega) HD.out).mono ?_
 rintro e w1 ⟨ch, isChan, il, rfl, aY, mP⟩
 have qD := aa (HD.out.step aY mP)
 have IG := aa il
 clear aY mP HD il
 go_wp2_with fail
 refine (PV.out 1 _ _ (by omega) qD.out).mono ?_
 rintro e w2 ⟨num, isInt, il, rfl, aY, mP⟩
 have o6 := aa (qD.out.step aY mP)
 have HNI := aa il
 clear aY mP qD il
 go_wp2_with fail
 refine (ay _ _ _ _ _ _).mono ?_
 rintro e w3 ⟨rfl, hb⟩
 have lI := aa (o6.out.calm hb)
 have hzC := lI.out.size
 have hlC := lI.out.low
 have fE : w3.heap.size ≠ sb := by omega
 clear hb o6
 go_wp2_with fail
 refine (NX.out _ _ (by omega) (lI.out.alloc _) 16 (by omega)).mono ?_
 rintro e w4 ⟨r, hr, rfl, aY, mP⟩
 have vS : Hid (w4.heap[w3.heap.size]? = some (lV 24 0 ch none 0 0)) := bG (heap_alloc_new w3 _) fE mP
 have hH := aa ((lI.out.alloc _).step aY mP)
 clear aY mP lI
 rcases (by omega : r = 0 ∨ r = 1 ∨ r = 2 ∨ r = 3 ∨ r = 4 ∨ r = 5 ∨ r = 6 ∨ r = 7 ∨ r = 8 ∨ r = 9 ∨ r = 10 ∨ r = 11 ∨ r = 12 ∨ r = 13 ∨ r = 14 ∨ r = 15) with rfl | rfl | rfl | rfl | rfl | rfl | rfl | rfl | rfl | rfl | rfl | rfl | rfl | rfl | rfl | rfl
 ·exact bO1
 ·exact bO1
 ·skip
  go_wp2_with fail
  refine (bM _ _ _ _ _ _ _).mono ?_
  rintro e w5 ⟨rfl, hb⟩
  have hzM := (hH.out.calm hb).size
  have AF := aa ((hH.out.calm hb).alloc (.cells #[.int .i64 26, .int .i64 0, .string ⟨#[]⟩, .slice none 0 0] 27))
  clear hb hH vS
  go_wp2_with fail
  refine (CH.out _ _ (by omega) AF.out 2 (by omega)).mono ?_
  rintro e w6 ⟨t, rfl, hs, hk⟩
  have ix := aa (AF.out.step hs hk)
  have hz : w5.heap.size + 1 ≤ w6.heap.size := by have := hk.size; simpa using this
  have sJ := AF.out.low
  have Ei : ¬ w5.heap.size = sb := by omega
  have mG : w6.heap[w5.heap.size]? = some (lV 26 0 ⟨#[]⟩ none 0 0) := (hk.block _ (by simp) Ei).trans (heap_alloc_new w5 _)
  obtain ⟨m0, m1, m2, m3, mf⟩ := aw mG
  have hblN := mG
  clear hs hk AF mG LL yC B0 EM BD SL
  have bP : ByteArray.size ⟨#[]⟩ = 0 := by decide
  cases t
  ·skip
   have k_O45_0 := kk
   exact U0
  ·skip
   have NXd := aa (gv sb _ 3 w6.drew (by omega) (by omega) ix.out.drew.src)
   have mf3 := mf 3
   clear mf
   have fH := rJ
   obtain ⟨i0, qn, qm, hZ, hQ⟩ := info_parts zv
   go_upto_region 11 with fail
   go_cut [] from 55 (fun wx => ∃ (q cap g : Nat), q < 3 ∧ Ap sb (A + 3 + 3 + 3 + 3 + 3) w wx w5.heap.size 26 0 ⟨#[]⟩ (al 22 q ⟨#[]⟩) (.slice (some ⟨g, 0, none⟩) 1 cap))
   case first =>
    refine mq fH (by kernel_rfl) (fun i => 55 + i) (V11 sb w5.heap.size) (Lw sb w5.heap.size (A + 3 + 3 + 3 + 3) w) ?_ ?_ ?_
    ·exact ⟨ix.out.drew, fun _ => hblN, fun h => by simp at h⟩
    ·intro listed a v i hI hr
     have hi : i < 9 := (bd hr).1
     have cJ := (bd hr).2
     have hS := hI.s
     have Hb : listed.size = 9 := hI.lsize
     have Gj : i < 8 → listed.getD 8 false = false := by
      intro h8
      cases e : listed.getD 8 false with
      |false => rfl
      |true => have := tN ((hS.2.2 e).1 i h8); rw [cJ] at this; cases this
     have fG := aa (fun (i : Nat) (hi : i < 9) (v' : World) (hw : Wr sb w5.heap.size v v') (x : Value) (hx : V11 sb w5.heap.size i v' x) (nB : Lw sb w5.heap.size (A + 3 + 3 + 3 + 3) w (listed.setIfInBounds i true) v') => hI.put (fun i j _ _ h => by omega) (fun i hi => by show 55 + i < 258; have : i < 9 := hi; omega) (vF hw (by omega)) nB hi hx)
     have vQ := aa (fun (v' : World) (hw : Wr sb w5.heap.size v v') (h8 : i = 8) (nB : Lw sb w5.heap.size (A + 3 + 3 + 3 + 3) w (listed.setIfInBounds i true) v') => hI.none (vF hw (by omega)) nB hi (by intro x; subst h8; exact trivial))
     have bx := aa (fun (j : Nat) (hj : j < 9) (hl : listed.getD j false = true) => hI.vals j hj (tN hl))
     have bg := aa (fun o (ho : _ = some o) => gE hr (o := o) ho)
     have e14 := ab (hI.keep 14 (by intro i hi; have : i < 9 := hi; omega))
     have e0 := ab (hI.keep 0 (by intro i hi; have : i < 9 := hi; omega))
     clear hI hr
     rcases (by omega : i = 0 ∨ i = 1 ∨ i = 2 ∨ i = 3 ∨ i = 4 ∨ i = 5 ∨ i = 6 ∨ i = 7 ∨ i = 8) with rfl | rfl | rfl | rfl | rfl | rfl | rfl | rfl | rfl
     all_goals (refine lx rfl rfl ?_)
     ·go_simp
      exact fG.out 0 (by omega) v (Wr.of_calm (Below.refl _ _)) _ rfl (nH hS (by omega) (by omega) (Gj (by omega)) (Below.refl _ _))
     ·have h55 := ab (show a.eval (.tmp 55) = .pointer (some ⟨w5.heap.size, 3, none⟩) from bx.out 0 (by omega) (bg.out _ rfl ⟨0, Ground.data⟩ (by simp) rfl))
      obtain ⟨z0, z1, z2, z3, zf⟩ := aw (hS.2.1 (Gj (by omega)))
      go_simp
      exact fG.out 1 (by omega) v (Wr.of_calm (Below.refl _ _)) _ rfl (nH hS (by omega) (by omega) (Gj (by omega)) (Below.refl _ _))
     ·go_simp
      exact fG.out 2 (by omega) v (Wr.of_calm (Below.refl _ _)) _ rfl (nH hS (by omega) (by omega) (Gj (by omega)) (Below.refl _ _))
     ·have h57 := ab (show a.eval (.tmp 57) = .pointer (some ⟨sb, 0, none⟩) from bx.out 2 (by omega) (bg.out _ rfl ⟨2, Ground.data⟩ (by simp) rfl))
      have gC := hS.1
      rw [if_neg (by rw [fF cJ]; simp)] at gC
      go_simp
      refine (gv sb _ 3 v (by omega) (by omega) gC.src).mono ?_
      rintro e v2 ⟨q, hq, rfl, hs, hk⟩
      exact fG.out 3 (by omega) v2 (Wr.of_kp hk) _ ⟨q, by omega, rfl⟩ (ID hS (by omega) (Gj (by omega)) hs hk Ei)
     ·obtain ⟨q, hq, hx⟩ : ∃ q : Nat, q < 3 ∧ a.eval (.tmp 58) = .int .i64 (q : Int) := bx.out 3 (by omega) (bg.out _ rfl ⟨3, Ground.data⟩ (by simp) rfl)
      have h58 := ab hx
      go_simp
      refine (nQ _ _).mono ?_
      rintro e v2 ⟨rfl, hb⟩
      exact fG.out 4 (by omega) v2 (Wr.of_calm hb) _ ⟨q, hq, rfl⟩ (nH hS (by omega) (by omega) (Gj (by omega)) hb)
     ·obtain ⟨q, hq, hx⟩ : ∃ q : Nat, q < 3 ∧ a.eval (.tmp 59) = .agg #[.int .i64 22, .int .i64 (q : Int), .string ⟨#[]⟩, .slice none 0 0] := bx.out 4 (by omega) (bg.out _ rfl ⟨4, Ground.data⟩ (by simp) rfl)
      have qp := ab hx
      have qx := (Array.getElem?_eq_some_iff.1 (hS.2.1 (Gj (by omega)))).1
      go_simp
      exact fG.out 5 (by omega) _ (Wr.of_calm (bA)) _ ⟨v.heap.size, q, hq, qx, rfl, heap_alloc_new v _⟩ (nH hS (by omega) (by omega) (Gj (by omega)) (bA))
     ·have h56 : a.eval (.tmp 56) = .slice none 0 0 := bx.out 1 (by omega) (bg.out _ rfl ⟨1, Ground.data⟩ (by simp) rfl)
      obtain ⟨g, q, hq, hbg, h60, nY⟩ : ∃ g q : Nat, q < 3 ∧ w5.heap.size < g ∧ a.eval (.tmp 60) = .slice (some ⟨g, 0, none⟩) 1 1 ∧ v.heap[g]? = some (lV 22 q ⟨#[]⟩ none 0 0) := bx.out 5 (by omega) (bg.out _ rfl ⟨5, Ground.data⟩ (by simp) rfl)
      have qx := (Array.getElem?_eq_some_iff.1 (hS.2.1 (Gj (by omega)))).1
      have iS := run_append_nil (P := Tryd.prog) v 25 25 27 i0 _ Tryd.underlying25 qn qm ⟨g, 0, none⟩ 1 1 [.int .i64 22, .int .i64 (q : Int), .string ⟨#[]⟩, .slice none 0 0] (by rw [hZ]; rfl) (Gk nY) (by omega) (by omega) (by rw [hQ]; omega)
      refine oH rfl h56 h60 iS ?_
      have SQ : 1 ≤ grownCap v 1 0 27 ∧ grownCap v 1 0 27 ≤ 9223372036854775807 := OL v
      rcases Lp (b := w5.heap.size) (g := 0) (q := q) (v := v) (by omega) SQ with iT | e
      ·exact fG.out 6 (by omega) _ (Wr.of_calm (((Below.refl _ _).drew).alloc lr _)) _ ⟨v.heap.size, _, q, hq, SQ, qx, rfl, iT⟩ (nH hS (by omega) (by omega) (Gj (by omega)) (((Below.refl _ _).drew).alloc lr _))
      ·omega
     ·go_simp
      exact fG.out 7 (by omega) v (Wr.of_calm (Below.refl _ _)) _ rfl (nH hS (by omega) (by omega) (Gj (by omega)) (Below.refl _ _))
     ·have h62 := ab (show a.eval (.tmp 62) = .pointer (some ⟨w5.heap.size, 3, none⟩) from bx.out 7 (by omega) (bg.out _ rfl ⟨7, Ground.data⟩ (by simp) rfl))
      obtain ⟨g, cap, q, hq, hc, hbg, hx, iT⟩ : ∃ g cap q : Nat, q < 3 ∧ (1 ≤ cap ∧ cap ≤ 9223372036854775807) ∧ w5.heap.size < g ∧ a.eval (.tmp 61) = .slice (some ⟨g, 0, none⟩) 1 cap ∧ Row (w5.heap.size + 1) v.heap.size v (cm 26 0 ⟨#[]⟩ (al 22 q ⟨#[]⟩)) (a.eval (.tmp 61)) := bx.out 6 (by omega) (bg.out _ rfl ⟨6, Ground.data⟩ (by simp) rfl)
      have h61 := ab hx
      rw [hx] at iT
      have h8 := fF cJ
      obtain ⟨z0, z1, z2, z3, zf⟩ := aw (hS.2.1 h8)
      have Ng := zf 3
      have aN : ∀ i, i < 8 → listed.getD i false = true := by
       intro i hi
       rcases (by omega : i = 0 ∨ i = 1 ∨ i = 2 ∨ i = 3 ∨ i = 4 ∨ i = 5 ∨ i = 6 ∨ i = 7) with rfl | rfl | rfl | rfl | rfl | rfl | rfl | rfl
       ·exact bg.out _ rfl ⟨0, Ground.phase⟩ (by simp) rfl
       ·exact bg.out _ rfl ⟨1, Ground.phase⟩ (by simp) rfl
       ·exact bg.out _ rfl ⟨2, Ground.phase⟩ (by simp) rfl
       ·exact bg.out _ rfl ⟨3, Ground.phase⟩ (by simp) rfl
       ·exact bg.out _ rfl ⟨4, Ground.phase⟩ (by simp) rfl
       ·exact bg.out _ rfl ⟨5, Ground.phase⟩ (by simp) rfl
       ·exact bg.out _ rfl ⟨6, Ground.data⟩ (by simp) rfl
       ·exact bg.out _ rfl ⟨7, Ground.data⟩ (by simp) rfl
      go_simp
      exact vQ.out _ (Wr.of_set _ _ _ _ _) rfl (EC hS (by omega) aN h8 (by omega) hq iT)
    ·intro a v bP o8 cL wa iM
     obtain ⟨l, hl, hS, aN⟩ := wa
     have hl9 : l.size = 9 := hl
     obtain ⟨_, q, g, cap, hq, hAp⟩ := hS.2.2 (getD_in (by omega) (aN 8 (by show 8 < 9; omega)))
     have HAp := aa hAp
     have ha := iV (d := fun i => 55 + i) (n := 9) bP o8 cL
     generalize (fun i => a.eval (.tmp ((fun i => 55 + i) i))) = f at ha
     clear bP o8 cL iM hS aN hAp hl hl9
     subst ha
     simp only [mM, Act.put, Nat.reduceAdd, List.setIfInBounds_toArray, List.set_cons_succ, List.set_cons_zero]
     go_wp2_with fail
     go_meet
     case rel => exact ⟨q, cap, g, hq, HAp.out⟩
   case rest =>
    obtain ⟨q, cap, g, hq, hX⟩ := hcut
    have HX := aa hX
    clear hX m0 m1 m2 m3 mf3 NXd ix qn qm hZ hQ
    obtain ⟨m0, m1, m2, m3⟩ := And.intro HX.out.c0 (And.intro HX.out.c1 (And.intro HX.out.c2 HX.out.c3))
    have E5 := aa HX.out.dw
    have RX := aa HX.out.row
    clear HX
    have k_O45_1 := kk
    exact U0
 ·skip
  cases isInt
  ·exact Lm
  ·have Bo := HNI.out (by trivial)
   have RG := gR Bo
   have PC := aa Bo
   clear Bo HNI
   go_wp2_with fail
   refine (B0.out _ _ (by omega) hH.out).mono ?_
   have k_O28_0 := kk
   exact Ve
 ·skip
  cases isInt
  ·exact Lm
  ·have Bo := HNI.out (by trivial)
   have RG := gR Bo
   have PC := aa Bo
   clear Bo HNI
   have k_O41_0 := kk
   exact U2
 ·exact bO0
 ·exact bO0
 ·skip
  cases isChan
  ·exact Lm
  ·have k_O33_0 := kk
   exact U9
 ·skip
  cases isChan
  ·exact Lm
  ·have oS := IG.out (by trivial)
   have Kq := gR oS
   have vH := aa oS
   clear oS IG
   go_wp2_with fail
   obtain ⟨k0, k1, k2, k3, kf⟩ := aw vS.out
   have EXd := aa (LL.out _ w4.drew (by omega) hH.out.drew)
   have bP : ByteArray.size ⟨#[]⟩ = 0 := by decide
   have vU : ByteArray.size ⟨#[119, 111, 114, 107]⟩ ≤ 10 := by decide
   go_region_with (first
    |(go_at_call 68; refine EXd.out.mono ?_; rintro e w5 ⟨T, uT, rfl, dT⟩; obtain ⟨aT, cT, rfl⟩ := aQ dT.row; have gG := aa (hH.out.drew.step dT.src dT.kp); have qE := aa (bG (W := w4.drew) vS.out fE dT.kp); obtain ⟨j0, j1, j2, j3, jf⟩ := aw qE.out; have RT := aa (RW.of_drawn hH.out.drew dT); have FT := aa dT.fine; have OT := aa dT.ok; have nX := dT.cost; have qv := Nd.fine_len dT.fine; clear dT; unfold Nd.val)
    |(go_at_call 70; refine (pP _ _ _ _ _).mono ?_; rintro e w6 ⟨rfl, hb⟩; have hG := (bO w5 (.cells #[.int .i64 24, .int .i64 0, .string ch, .slice none 0 0, .int .i64 T.kind, .int .i64 T.num, .string T.name, .slice aT T.len cT] 27)).trans (hb.mono (by simp)); have R1 := aa (RW.two (A := al 24 0 ch) (B := T) gG.out.size (RW.leaf w _ 24 0 ch) RT.out (hb.mono (by simp)) 25 0 ⟨#[119, 111, 114, 107]⟩); have ix := aa (gG.out.calm hG); clear hb hG)
    |(go_at_call 30; refine (ay _ _ _ _ _ _).mono ?_; rintro e w7 ⟨rfl, hb⟩; have hG := (bO w6 (.cells #[.int .i64 25, .int .i64 0, .string ⟨#[119, 111, 114, 107]⟩, .slice (some ⟨w5.heap.size, 0, none⟩) 2 2] 27)).trans (hb.mono (by simp)); have RR := aa (RW.one (A := gO 25 0 ⟨#[119, 111, 114, 107]⟩ (al 24 0 ch) T) ix.out.size R1.out (hb.mono (by simp)) 13 0 ⟨#[]⟩); have mv := aa (ix.out.calm hG); obtain ⟨f0, f1, f2, f3, ff⟩ := mv.out.cells; clear hb hG))
   all_goals
    go_wp2
    refine bodyPost_ret (mv.out.read Tryd.results47 rfl _ _ _ _) rfl ⟨cm 13 0 ⟨#[]⟩ (gO 25 0 ⟨#[119, 111, 114, 107]⟩ (al 24 0 ch) T), .slice (some ⟨w6.heap.size, 0, none⟩) 1 1, rfl, ?_⟩
    exact (mv.out.fin (P := fun T => T.sOk = true) (C := E) RR.out (bF (by omega) (by omega) (by decide) (iE (by omega) (by omega) (by decide) (aC (by omega) (by omega) (by omega)) FT.out)) (xV (by omega) rfl (sP (by decide) (lS vH.out) OT.out)) (by rw [cH, iF, bw]; omega)).more (by omega)
 ·skip
  cases isChan
  ·exact Lm
  ·have oS := IG.out (by trivial)
   have Kq := gR oS
   have vH := aa oS
   clear oS IG
   obtain ⟨k0, k1, k2, k3, kf⟩ := aw vS.out
   go_wp2_with fail
   refine (ay _ _ _ _ _ _).mono ?_
   rintro e w5 ⟨rfl, hb⟩
   have R1 := aa (RW.one (A := al 24 0 ch) hH.out.size (RW.leaf w _ 24 0 ch) (hb.mono (by simp)) 29 0 ⟨#[]⟩)
   have hG := (bO w4 (.cells #[.int .i64 24, .int .i64 0, .string ch, .slice none 0 0] 27)).trans (hb.mono (by simp))
   clear hb
   have hb := hG
   clear hG
   have gG := aa (hH.out.calm hb)
   have qE := aa (aZ vS.out hb)
   clear hb hH vS
   clear k0 k1 k2 k3 kf
   go_wp2_with fail
   refine (ay _ _ _ _ _ _).mono ?_
   rintro e w6 ⟨rfl, hb⟩
   have RR := aa (RW.one (A := cm 29 0 ⟨#[]⟩ (al 24 0 ch)) gG.out.size R1.out (hb.mono (by simp)) 20 0 ⟨#[]⟩)
   have hG := (bO w5 (.cells #[.int .i64 29, .int .i64 0, .string ⟨#[]⟩, .slice (some ⟨w4.heap.size, 0, none⟩) 1 1] 27)).trans (hb.mono (by simp))
   clear hb
   have hb := hG
   clear hG
   have ix := aa (gG.out.calm hb)
   have yQ := aa (aZ qE.out hb)
   clear hb gG qE
   clear R1
   have bP : ByteArray.size ⟨#[]⟩ = 0 := by decide
   obtain ⟨f0, f1, f2, f3, ff⟩ := ix.out.cells
   go_wp2
   refine bodyPost_ret (ix.out.read Tryd.results47 rfl _ _ _ _) rfl ⟨cm 20 0 ⟨#[]⟩ (cm 29 0 ⟨#[]⟩ (al 24 0 ch)), .slice (some ⟨w5.heap.size, 0, none⟩) 1 1, rfl, ?_⟩
   exact (ix.out.fin (P := fun T => T.sOk = true) (C := E) RR.out (bF (by omega) (by omega) (by decide) (bF (by omega) (by omega) (by decide) (aC (by omega) (by omega) (by omega)))) (qc (by omega) (Ae (lS vH.out))) (by rw [cH, cH, bw]; omega)).more (by omega)
 ·skip
  rcases (by omega : deep = 0 ∨ 0 < deep) with rfl | Oq
  ·exact Lm
  ·have EP : IntKind.i64.wrap (deep - 1) = deep - 1 := lu (by omega) (by omega)
   have Fa := aa (BD Oq)
   have Oh : Tryd.prog.follows Departure.mixedOrders = true := by kernel_rfl
   go_wp2_with fail
   refine (EM.out _ _ (by omega) hH.out).mono ?_
   rintro e wA ⟨TA, uA, rfl, dA⟩
   obtain ⟨aA, cA, rfl⟩ := aQ dA.row
   have AF := aa (hH.out.step dA.src dA.kp)
   have RA := aa dA.row
   have PA : Hid (TA.Fine ∧ TA.eOk = true ∧ TA.cost ≤ 700) := ⟨dA.fine, dA.ok, dA.cost⟩
   have Kx := Nd.fine_len dA.fine
   have hsA := hH.out.size
   have hzA := dA.kp.size
   clear dA hH vS LL yC B0 SL PV
   unfold Nd.val
   go_wp2_with fail
   refine (NX.out _ _ (by omega) AF.out 3 (by omega)).mono ?_
   rintro e wB ⟨q, hq, rfl, hs, hk⟩
   have V9 := aa (AF.out.step hs hk)
   have RA2 := aa (l8 RA.out (by have := AF.out.low; omega) lr hk)
   have hzB := hk.size
   clear hs hk AF RA
   go_wp2_with fail
   refine (vy Fa.out sb _ n q (.slice va n vc) loops wB (by omega) (by omega) (by omega) V9.out.src (SC.out _ wB V9.out)).mono ?_
   rintro e wC ⟨TB, uB, rfl, dB⟩
   obtain ⟨aB, cB, rfl⟩ := aQ dB.row
   have Qy := aa (V9.out.step dB.src dB.kp)
   have hsC := Qy.out.size
   have hzC := dB.kp.size
   have RA3 := aa (l8 RA2.out (by have := V9.out.low; omega) (by omega) dB.kp)
   have RB := aa dB.row
   have PB : Hid (mo (2 * C) TB) := ⟨dB.fine, dB.ok.1, dB.cost⟩
   have P5 := Nd.fine_len dB.fine
   clear dB V9 RA2
   unfold Nd.val
   go_wp2_with fail
   refine (ay _ _ _ _ _ _).mono ?_
   rintro e wD ⟨rfl, hb⟩
   have GW := aa (Gw.two (B := w.heap.size + 1) RA3.out RB.out ⟨by omega, by omega, by omega⟩ ⟨by omega, by omega, by omega⟩ (by omega) (hb.mono (by simp)))
   have hG := (bO wC (.cells #[.int .i64 TA.kind, .int .i64 TA.num, .string TA.name, .slice aA TA.len cA, .int .i64 TB.kind, .int .i64 TB.num, .string TB.name, .slice aB TB.len cB] 27)).trans (hb.mono (by simp))
   have HDD := aa (Qy.out.calm hG)
   have hzD := hb.size
   simp only [World.size_alloc] at hzD
   have hIF : Hid (VL 2 (2 * C) (qq (fun _ => TB) 0 TA)) := ⟨by rw [fP]; exact PA.out, fun i h1 h2 => by rw [gy _ _ (by omega)]; exact PB.out⟩
   have hlow10 := Qy.out.low
   clear hb hG Qy RA3 RB PA
   have yN := aa (HDD.out.alloc (lV 10 0 ⟨#[]⟩ (some ⟨wC.heap.size, 0, none⟩) 2 2))
   have GWE := aa (GW.out.calm (bO wD (lV 10 0 ⟨#[]⟩ (some ⟨wC.heap.size, 0, none⟩) 2 2)))
   go_wp2_with fail
   refine (CH.out _ _ (by omega) yN.out 2 (by omega)).mono ?_
   rintro e wF ⟨t, rfl, hs, hk⟩
   have V8 := aa (yN.out.step hs hk)
   have qU : wD.heap.size ≠ sb := by omega
   have tT : Hid (wF.heap[wD.heap.size]? = some (lV 10 0 ⟨#[]⟩ (some ⟨wC.heap.size, 0, none⟩) 2 2)) := bG (heap_alloc_new wD _) qU hk
   have GWF := aa (GWE.out.kp (sb := sb) (by omega) hk)
   have hzF : wD.heap.size + 1 ≤ wF.heap.size := by have := hk.size; simpa [lV] using this
   clear hs hk yN HDD GW GWE
   obtain ⟨o36, f36, c36⟩ := Ci (k := 0) (s := ⟨#[]⟩) (.inl rfl) hIF.out
   have H36 := aa (And.intro o36 (And.intro f36 c36))
   clear o36 f36 c36
   cases t
   ·obtain ⟨m0, m1, m2, m3, mf⟩ := aw tT.out
    obtain ⟨f0, f1, f2, f3, ff⟩ := V8.out.cells
    go_wp2
    refine bodyPost_ret (V8.out.read Tryd.results47 rfl _ _ _ _) rfl ⟨.mk 10 0 ⟨#[]⟩ 2 (qq (fun _ => TB) 0 TA), _, rfl, ?_⟩
    exact (V8.out.fin (P := fun T => T.sOk = true) (C := E) (GWF.out.row lr 10 0 ⟨#[]⟩) H36.out.2.1 H36.out.1 (by have := H36.out.2.2; omega)).more (by omega)
   ·go_upto_region 36 with fail
    have oz : ag (fun i => if i = 7 then 3 else if i = 9 then 2 * K + 10 else 0) 14 = 2 * K + 13 := by simp [ag]; omega
    have Mj : sb < wF.heap.size := by omega
    refine fO Oh (by kernel_rfl) yP (IC sb wD.heap.size wF.heap.size (w.heap.size + 1) (2 * C) n (some ⟨wC.heap.size, 0, none⟩) va 2 vc deep loops) (GS sb (A + 3 + 3 + 3 + 700 + 3 + (2 * K + 10) + 3) (fun i => if i = 7 then 3 else if i = 9 then 2 * K + 10 else 0) 14 11 13 w wF (wD.heap.size) (F36 sb (A + 3 + 3 + 3 + 700 + 3 + (2 * K + 10) + 3 + (2 * K + 13)) (w.heap.size + 1) wD.heap.size (2 * C) w)) (GS.start _ V8.out) ?_ ?_
    ·intro l a v i hI hr
     have EU : i < 14 := (bd hr).1
     have cJ := (bd hr).2
     have Hb : l.size = 14 := hI.lsize
     have HS := aa hI.s
     have qS := ng (fun i => if i = 7 then 3 else if i = 9 then 2 * K + 10 else 0) l 14
     rw [oz] at qS
     have mZ := aa hI.shut
     have fG := aa (fun (v' : World) (hw : ∀ jj x, l.getD jj false = true → IC sb wD.heap.size wF.heap.size (w.heap.size + 1) (2 * C) n (some ⟨wC.heap.size, 0, none⟩) va 2 vc deep loops jj v x → IC sb wD.heap.size wF.heap.size (w.heap.size + 1) (2 * C) n (some ⟨wC.heap.size, 0, none⟩) va 2 vc deep loops jj v' x) (nB : GS sb (A + 3 + 3 + 3 + 700 + 3 + (2 * K + 10) + 3) (fun i => if i = 7 then 3 else if i = 9 then 2 * K + 10 else 0) 14 11 13 w wF (wD.heap.size) (F36 sb (A + 3 + 3 + 3 + 700 + 3 + (2 * K + 10) + 3 + (2 * K + 13)) (w.heap.size + 1) wD.heap.size (2 * C) w) (l.setIfInBounds i true) v') (x : Value) (hx : IC sb wD.heap.size wF.heap.size (w.heap.size + 1) (2 * C) n (some ⟨wC.heap.size, 0, none⟩) va 2 vc deep loops i v' x) (bP : yP i < 258) => hI.put LR hr bP hw nB hx)
     have vQ := aa (fun (v' : World) (hw : ∀ jj x, l.getD jj false = true → IC sb wD.heap.size wF.heap.size (w.heap.size + 1) (2 * C) n (some ⟨wC.heap.size, 0, none⟩) va 2 vc deep loops jj v x → IC sb wD.heap.size wF.heap.size (w.heap.size + 1) (2 * C) n (some ⟨wC.heap.size, 0, none⟩) va 2 vc deep loops jj v' x) (nB : GS sb (A + 3 + 3 + 3 + 700 + 3 + (2 * K + 10) + 3) (fun i => if i = 7 then 3 else if i = 9 then 2 * K + 10 else 0) 14 11 13 w wF (wD.heap.size) (F36 sb (A + 3 + 3 + 3 + 700 + 3 + (2 * K + 10) + 3 + (2 * K + 13)) (w.heap.size + 1) wD.heap.size (2 * C) w) (l.setIfInBounds i true) v') (hx : ∀ x, IC sb wD.heap.size wF.heap.size (w.heap.size + 1) (2 * C) n (some ⟨wC.heap.size, 0, none⟩) va 2 vc deep loops i v' x) => hI.none hr hw nB hx)
     have bx := aa (fun (j : Nat) (hj : j < 14) (hl : l.getD j false = true) => hI.vals j hj hl)
     have bg := aa (fun o (ho : _ = some o) => gE hr (o := o) ho)
     have s0 : a.tmps[0]?.getD undef = .pointer (some ⟨sb, 0, none⟩) := ab (hI.keep 0 (by intro i hi; have h2 : i < 14 := hi; show 0 ≠ yP i; have : ((List.range 14).all fun i => decide (yP i ≠ 0)) = true := (by decide); have h3 := List.all_eq_true.1 this i (List.mem_range.2 h2); simp at h3; exact fun e => h3 e.symm))
     have s1 : a.tmps[1]?.getD undef = .slice va n vc := ab (hI.keep 1 (by intro i hi; have h2 : i < 14 := hi; show 1 ≠ yP i; have : ((List.range 14).all fun i => decide (yP i ≠ 1)) = true := (by decide); have h3 := List.all_eq_true.1 this i (List.mem_range.2 h2); simp at h3; exact fun e => h3 e.symm))
     have s2 : a.tmps[2]?.getD undef = .int .i64 deep := ab (hI.keep 2 (by intro i hi; have h2 : i < 14 := hi; show 2 ≠ yP i; have : ((List.range 14).all fun i => decide (yP i ≠ 2)) = true := (by decide); have h3 := List.all_eq_true.1 this i (List.mem_range.2 h2); simp at h3; exact fun e => h3 e.symm))
     have s3 : a.tmps[3]?.getD undef = .bool loops := ab (hI.keep 3 (by intro i hi; have h2 : i < 14 := hi; show 3 ≠ yP i; have : ((List.range 14).all fun i => decide (yP i ≠ 3)) = true := (by decide); have h3 := List.all_eq_true.1 this i (List.mem_range.2 h2); simp at h3; exact fun e => h3 e.symm))
     have s15 : a.tmps[15]?.getD undef = .pointer (some ⟨wD.heap.size, 0, none⟩) := ab (hI.keep 15 (by intro i hi; have h2 : i < 14 := hi; show 15 ≠ yP i; have : ((List.range 14).all fun i => decide (yP i ≠ 15)) = true := (by decide); have h3 := List.all_eq_true.1 this i (List.mem_range.2 h2); simp at h3; exact fun e => h3 e.symm))
     clear hI hr
     rcases (by omega : i = 0 ∨ i = 1 ∨ i = 2 ∨ i = 3 ∨ i = 4 ∨ i = 5 ∨ i = 6 ∨ i = 7 ∨ i = 8 ∨ i = 9 ∨ i = 10 ∨ i = 11 ∨ i = 12 ∨ i = 13) with rfl | rfl | rfl | rfl | rfl | rfl | rfl | rfl | rfl | rfl | rfl | rfl | rfl | rfl
     all_goals (refine lx rfl rfl ?_)
     ·exact tA
     ·have h146 := ab (show a.eval (.tmp 146) = .pointer (some ⟨wD.heap.size, 3, none⟩) from bx.out 0 (by omega) (bg.out _ rfl ⟨0, Ground.data⟩ (by simp) rfl))
      have bB := fN (f := 40) (j := 11) mZ.out (by kernel_rfl) cJ
      have aF := fN (f := 40) (j := 13) mZ.out (by kernel_rfl) cJ
      exact Vw
     ·exact tA
     ·exact tA
     ·exact tA
     ·have h150 := ab (show a.eval (.tmp 150) = .int .i64 deep from bx.out 4 (by omega) (bg.out _ rfl ⟨4, Ground.data⟩ (by simp) rfl))
      exact tA
     ·exact tA
     ·have h152 := ab (show a.eval (.tmp 152) = .pointer (some ⟨sb, 0, none⟩) from bx.out 6 (by omega) (bg.out _ rfl ⟨6, Ground.data⟩ (by simp) rfl))
      have k_O43_0 := kk
      exact Pc
     ·exact tA
     ·have h148 := ab (show a.eval (.tmp 148) = .pointer (some ⟨sb, 0, none⟩) from bx.out 2 (by omega) (bg.out _ rfl ⟨2, Ground.data⟩ (by simp) rfl))
      have h149 := ab (show a.eval (.tmp 149) = .slice va n vc from bx.out 3 (by omega) (bg.out _ rfl ⟨3, Ground.data⟩ (by simp) rfl))
      have h151 := ab (show a.eval (.tmp 151) = .int .i64 (deep - 1) from bx.out 5 (by omega) (bg.out _ rfl ⟨5, Ground.data⟩ (by simp) rfl))
      obtain ⟨q2, mU, hx⟩ : ∃ q : Nat, q < 3 ∧ a.eval (.tmp 153) = .int .i64 (q : Int) := bx.out 7 (by omega) (bg.out _ rfl ⟨7, Ground.data⟩ (by simp) rfl)
      have h153 := ab hx
      have h154 := ab (show a.eval (.tmp 154) = .bool loops from bx.out 8 (by omega) (bg.out _ rfl ⟨8, Ground.data⟩ (by simp) rfl))
      have k_O43_1 := kk
      exact Pc
     ·obtain ⟨T2, a2, c2, IZ, hx, vV⟩ : TV wF.heap.size (mo (2 * C)) v (a.eval (.tmp 155)) := bx.out 9 (by omega) (bg.out _ rfl ⟨9, Ground.data⟩ (by simp) rfl)
      have h155 := ab hx
      unfold Nd.val at h155
      have k_O43_2 := kk
      exact Pc
     ·have h147 : a.eval (.tmp 147) = .slice (some ⟨wC.heap.size, 0, none⟩) 2 2 := bx.out 1 (by omega) (bg.out _ rfl ⟨1, Ground.data⟩ (by simp) rfl)
      obtain ⟨T3, a3, c3, ⟨A3, GU, rfl⟩, hx, GM⟩ : LV wF.heap.size (fun T => ∃ A, mo (2 * C) A ∧ T = cm 0 0 ⟨#[]⟩ A) v (a.eval (.tmp 156)) := bx.out 10 (by omega) (bg.out _ rfl ⟨10, Ground.data⟩ (by simp) rfl)
      have bB := fF cJ
      have aF := fN (f := 40) (j := 13) mZ.out (by kernel_rfl) cJ
      obtain ⟨gC, gH⟩ := HS.out.pre bB
      have mO := gH.size
      obtain ⟨aj, cj, v2, vs, iS, mV, aD, iU⟩ := nE (GWF.out.kp (sb := sb) (by omega) gH) GM (by omega) (by omega) mO lr (fun g hg => .inl (by simp [Value.ownBlock] at hg; omega)) (by show 2 + 1 ≤ _; omega)
      refine oH rfl h147 hx (iS _) ?_
      refine fG.out v2 (yx (Wn.of_grown aD (fun k hk => by simp [Value.ownBlock] at hk; omega)) bB aF) (HS.out.join (by omega) cJ (by decide) aF (by omega) qU aD (fun k hk => by simp [Value.ownBlock] at hk; omega)) _ ⟨_, _, _, _, aj, cj, rfl, mV, ⟨?_, fun i h1 h2 => ?_⟩, ?_, fun i hi => ?_⟩ (by decide)
      ·rw [bh _ _ (by omega)]; exact hIF.out.1
      ·by_cases h3 : i < 2
       ·rw [bh _ _ h3]; exact hIF.out.2 i h1 h3
       ·rw [bN _ _ (by omega)]; exact GU
      ·rcases iU with e | ⟨k, e, hk⟩
       ·have e3 : (Value.slice aj 3 cj).ownBlock = (Value.slice (some ⟨wC.heap.size, 0, none⟩) 2 2).ownBlock := e
        rw [e3]; simp [Value.ownBlock]; omega
       ·have e3 : (Value.slice aj 3 cj).ownBlock = some k := e
        rw [e3]; intro h; have := Option.some.inj h; omega
      ·by_cases h3 : i < 2
       ·rw [bh _ _ h3, bh _ _ h3]; right; have := (GWF.out.apart i h3 wC.heap.size rfl); rcases (by omega : i = 0 ∨ i = 1) with rfl | rfl
        ·rw [fP]; omega
        ·rw [gy _ _ (by omega)]; omega
       ·rw [bN _ _ (by omega), bN _ _ (by omega)]; left; omega
     ·exact tA
     ·have h158 := ab (show a.eval (.tmp 158) = .pointer (some ⟨wD.heap.size, 3, none⟩) from bx.out 12 (by omega) (bg.out _ rfl ⟨12, Ground.data⟩ (by simp) rfl))
      obtain ⟨Ts, us, s2, e2, a2, c2, hx, mV, hP, zI, Ax⟩ : AV (w.heap.size + 1) wD.heap.size 3 (VL 3 (2 * C)) v (a.eval (.tmp 157)) := bx.out 11 (by omega) (bg.out _ rfl ⟨11, Ground.data⟩ (by simp) rfl)
      have h157 := ab hx
      have Sl : l.getD 11 false = true := bg.out _ rfl ⟨11, Ground.data⟩ (by simp) rfl
      obtain ⟨gC, o9⟩ := HS.out.mid Sl (fF cJ)
      rw [oz] at gC
      have qx := o9.trans tT.out
      obtain ⟨z0, z1, z2, z3, zf⟩ := aw qx
      have Ng := zf 3
      have HF36 : Hid (F36 sb (A + 3 + 3 + 3 + 700 + 3 + (2 * K + 10) + 3 + (2 * K + 13)) (w.heap.size + 1) wD.heap.size (2 * C) w (v.setCell ⟨wD.heap.size, 3, none⟩ (.slice a2 3 c2))) := ⟨gC.put _ _ _ (by omega), Ts, us, s2, e2, a2, c2, (heap_setCell_same v wD.heap.size 3 _ 27 (.slice a2 3 c2) qx).trans rfl, mV.put zI Ax, hP⟩
      clear hx gC o9 qx mV zf
      go_simp
      exact vQ.out _ (fun j x _ hx => Pn (by omega) j x hx) (GS.store (by omega) (.inr Sl) HF36.out) (fun _ => trivial)
    ·intro a v bP o8 cL wa iM
     obtain ⟨l, hS, aN⟩ := wa
     have HF := aa (hS.fin (aN 13 (by decide)))
     rw [iV (n := 14) bP o8 cL]
     generalize (fun i => a.eval (.tmp (yP i))) = ff
     clear bP o8 cL iM hS aN
     simp only [mM, Act.put, yP, List.getD_cons_zero, List.getD_cons_succ, List.setIfInBounds_toArray, List.set_cons_succ, List.set_cons_zero, List.set_nil]
     obtain ⟨gC, Ts, us, s2, e2, a2, c2, qi, mV, hP⟩ := HF.out
     have IJ := aa gC
     have HGq := aa mV
     obtain ⟨o3, f3', c3'⟩ := Ci (k := 0) (s := ⟨#[]⟩) (.inr rfl) hP
     have H37 := aa (And.intro o3 (And.intro f3' c3'))
     obtain ⟨m0, m1, m2, m3, mf⟩ := aw qi
     obtain ⟨f0, f1, f2, f3, ff'⟩ := IJ.out.cells
     clear gC mV HF qi hP o3 f3' c3' tT GWF V8
     go_wp2
     refine bodyPost_ret (IJ.out.read Tryd.results47 rfl _ _ _ _) rfl ⟨.mk 10 0 ⟨#[]⟩ 3 Ts, _, rfl, ?_⟩
     exact (IJ.out.fin (P := fun T => T.sOk = true) (C := E) (HGq.out.row lr 10 0 ⟨#[]⟩) H37.out.2.1 H37.out.1 (by have := H37.out.2.2; omega)).more (by omega)
 ·skip
  rcases (by omega : deep = 0 ∨ 0 < deep) with rfl | Oq
  ·exact Lm
  ·have EP : IntKind.i64.wrap (deep - 1) = deep - 1 := lu (by omega) (by omega)
   have SLX := aa (fun B W (hB : B + K1 ≤ 1099511627776) (hd : DW sb B w W) => SL Oq sb B n (.slice va n vc) loops W hB (by omega) hd.src (SC.out B W hd))
   go_wp2_with fail
   refine (SLX.out _ _ (by omega) hH.out).mono ?_
   have k_O28_1 := kk
   exact Ve
 ·skip
  cases isChan
  ·have k_O40_0 := kk
   exact U3
  ·have oS := IG.out (by trivial)
   have Kq := gR oS
   have vH := aa oS
   clear oS IG
   have k_O46_0 := kk
   exact UZ
 ·skip
  cases loops
  ·skip
   go_wp2_with fail
   refine (CH.out _ _ (by omega) hH.out 6 (by omega)).mono ?_
   rintro e w5 ⟨t, rfl, hs, hk⟩
   have gG := aa (hH.out.step hs hk)
   have qE := aa (bG vS.out fE hk)
   clear hs hk hH vS
   cases t
   ·exact bO3
   ·have k_O23_0 := kk
    exact Vk
  ·have k_O40_1 := kk
   exact U3
 ·skip
  rcases (by omega : deep = 0 ∨ 0 < deep) with rfl | Oq
  ·exact Lm
  ·have EP : IntKind.i64.wrap (deep - 1) = deep - 1 := lu (by omega) (by omega)
   go_wp2_with fail
   refine (CH.out _ _ (by omega) hH.out 2 (by omega)).mono ?_
   rintro e w5 ⟨t, rfl, hs, hk⟩
   have gG := aa (hH.out.step hs hk)
   have qE := aa (bG vS.out fE hk)
   clear hs hk hH vS
   cases t
   ·exact bO3
   ·skip
    have Fa := aa (BD Oq)
    have Ha : Tryd.prog.follows Departure.mixedOrders = true := by kernel_rfl
    obtain ⟨iv, Oj, Bh, Bg, Bf⟩ := info_parts ye
    obtain ⟨v3, w3, iS, Au, hb3⟩ := sS (B := w5.heap.size) (SC.out _ _ gG.out) lr
    obtain ⟨a3, c3, rfl⟩ := Au.shape
    obtain ⟨f3, rI, G0⟩ := id Au
    have vG := aa iS
    have Wa := aa (gG.out.calm hb3)
    have hszk := gG.out.size
    have hlowk := gG.out.low
    have hz3x := hb3.size
    have IE := aa rI
    have MZ := aa Au
    clear iS Au hb3 gG qE LL yC B0 EM SL PV rI
    go_wp2_with (first
     |(at_builtin; refine iL _ rfl _ _ 68 rfl _ _ _ _ rfl rfl vG.out ?_; clear vG)
     |(at_builtin; refine bE _ rfl _ _ 68 rfl w5.heap.size 83 iv (.agg #[.string ⟨#[]⟩, .int .i64 0, .int .i64 0]) 3 32 Tryd.underlying68 Oj Bh Bg Bf rfl (by decide) _ n _ rfl (IE.out.alloc _) ⟨w3.heap.size, 0, none⟩ 1 1 [.string ⟨#[105]⟩, .int .i64 1, .int .i64 0] rfl rfl (p6 _ _ _ _ _) (rp _ _ _) (by unfold maxLen; omega) (by omega) (by simp; omega) ?_; intro v4 wI zG uV Hc GI; obtain ⟨aI, cI, xg⟩ := GI.out; subst xg)
     |(go_at_call 28; fail))
    have VI := aa (xL (t := 1) G0 (show ck ⟨#[105]⟩ = true by decide) zG.out)
    have HDI := aa ((Wa.out.alloc (.cells #[.string ⟨#[105]⟩, .int .i64 1, .int .i64 0] 83)).grown uV.out (fun g hg => by have := (MZ.out.lt g hg).1; omega))
    have RG := HDI.out.size
    clear zG uV Hc GI Wa MZ IE G0
    refine (NX.out _ _ (by omega) HDI.out 3 (by omega)).mono ?_
    rintro e wX ⟨q, hq, rfl, hs, hk⟩
    have E5 := aa (HDI.out.step hs hk)
    have VH := aa (VI.out.kp (sb := sb) (by omega) hk)
    clear hs hk HDI VI
    go_wp2_with fail
    refine (vy Fa.out sb _ (n + 1) q (.slice aI (n + 1) cI) true wX (by omega) (by omega) (by omega) E5.out.src (VH.out.scp (by omega) (by omega))).mono ?_
    rintro e wY ⟨TB, uB, rfl, dB⟩
    obtain ⟨aB, cB, rfl⟩ := aQ dB.row
    have Na := aa (E5.out.step dB.src dB.kp)
    have hsX := E5.out.size
    have Rm := dB.kp.size
    have RB := aa (ae (bO wY (lV TB.kind TB.num TB.name aB TB.len cB)) lr dB.row)
    have PB : Hid (mo (2 * C) TB) := ⟨dB.fine, dB.ok.1, dB.cost⟩
    have P5 := Nd.fine_len dB.fine
    have Sk : TB.len ≤ 2 := dB.ok.2
    clear dB E5 VH
    unfold Nd.val
    obtain ⟨wE, Cu⟩ : ∃ W, wY.alloc (lV TB.kind TB.num TB.name aB TB.len cB) = W := ⟨_, rfl⟩
    have yN := aa (Na.out.alloc (lV TB.kind TB.num TB.name aB TB.len cB))
    have tT := aa (heap_alloc_new wY (lV TB.kind TB.num TB.name aB TB.len cB))
    have hzE : wY.heap.size + 1 ≤ wE.heap.size := by rw [← Cu]; simp
    rw [Cu] at yN tT RB
    have M5 := aa Cu
    clear Cu Na
    have qU : wY.heap.size ≠ sb := by omega
    go_upto_region 55 with fail
    rw [show (wY.alloc (Obj.cells #[.int .i64 TB.kind, .int .i64 TB.num, .string TB.name, .slice aB TB.len cB] 27)) = wE from M5.out]
    clear M5
    have oz : ag (fun _ => 0) 7 = 0 := by simp [ag]
    refine fO Ha (by kernel_rfl) Jb (IB wY.heap.size wE.heap.size (w.heap.size + 1) aB TB cB) (GS sb (A + 3 + 3 + 3 + 3 + 3 + (2 * K + 10)) (fun _ => 0) 7 4 6 w wE (wY.heap.size) (F55 sb (A + 3 + 3 + 3 + 3 + 3 + (2 * K + 10)) (w.heap.size + 1) wY.heap.size fJ TB w)) (GS.start _ yN.out) ?_ ?_
    ·intro l a v i hI hr
     have EU : i < 7 := (bd hr).1
     have cJ := (bd hr).2
     have Hb : l.size = 7 := hI.lsize
     have HS := aa hI.s
     have mZ := aa hI.shut
     have fG := aa (fun (v' : World) (hw : ∀ jj x, l.getD jj false = true → IB wY.heap.size wE.heap.size (w.heap.size + 1) aB TB cB jj v x → IB wY.heap.size wE.heap.size (w.heap.size + 1) aB TB cB jj v' x) (nB : GS sb (A + 3 + 3 + 3 + 3 + 3 + (2 * K + 10)) (fun _ => 0) 7 4 6 w wE (wY.heap.size) (F55 sb (A + 3 + 3 + 3 + 3 + 3 + (2 * K + 10)) (w.heap.size + 1) wY.heap.size fJ TB w) (l.setIfInBounds i true) v') (x : Value) (hx : IB wY.heap.size wE.heap.size (w.heap.size + 1) aB TB cB i v' x) (bP : Jb i < 258) => hI.put LQ hr bP hw nB hx)
     have vQ := aa (fun (v' : World) (hw : ∀ jj x, l.getD jj false = true → IB wY.heap.size wE.heap.size (w.heap.size + 1) aB TB cB jj v x → IB wY.heap.size wE.heap.size (w.heap.size + 1) aB TB cB jj v' x) (nB : GS sb (A + 3 + 3 + 3 + 3 + 3 + (2 * K + 10)) (fun _ => 0) 7 4 6 w wE (wY.heap.size) (F55 sb (A + 3 + 3 + 3 + 3 + 3 + (2 * K + 10)) (w.heap.size + 1) wY.heap.size fJ TB w) (l.setIfInBounds i true) v') (hx : ∀ x, IB wY.heap.size wE.heap.size (w.heap.size + 1) aB TB cB i v' x) => hI.none hr hw nB hx)
     have bx := aa (fun (j : Nat) (hj : j < 7) (hl : l.getD j false = true) => hI.vals j hj hl)
     have bg := aa (fun o (ho : _ = some o) => gE hr (o := o) ho)
     have s17 : a.tmps[17]?.getD undef = .pointer (some ⟨wY.heap.size, 0, none⟩) := ab (hI.keep 17 (by intro i hi; have h2 : i < 7 := hi; show 17 ≠ Jb i; have : ((List.range 7).all fun i => decide (Jb i ≠ 17)) = true := (by decide); have h3 := List.all_eq_true.1 this i (List.mem_range.2 h2); simp at h3; exact fun e => h3 e.symm))
     clear hI hr
     rcases (by omega : i = 0 ∨ i = 1 ∨ i = 2 ∨ i = 3 ∨ i = 4 ∨ i = 5 ∨ i = 6) with rfl | rfl | rfl | rfl | rfl | rfl | rfl
     all_goals (refine lx rfl rfl ?_)
     ·have bB := fN (f := 40) (j := 4) mZ.out (by kernel_rfl) cJ
      have aF := fN (f := 40) (j := 6) mZ.out (by kernel_rfl) cJ
      obtain ⟨gC, gH⟩ := HS.out.pre bB
      go_simp
      refine (bM _ _ _ _ _ _ _).mono ?_
      rintro e v2 ⟨rfl, hb⟩
      exact fG.out v2 (BT (Wn.of_calm hb) bB aF) (HS.out.calm (by omega) cJ (by decide) (by decide) rfl bB aF hb) _ rfl (by decide)
     ·have h229 := ab (show a.eval (.tmp 229) = .agg #[.int .i64 7, .int .i64 1, .string ⟨#[105]⟩, .slice none 0 0] from bx.out 0 (by omega) (bg.out _ rfl ⟨0, Ground.data⟩ (by simp) rfl))
      have bB := fN (f := 40) (j := 4) mZ.out (by kernel_rfl) cJ
      have aF := fN (f := 40) (j := 6) mZ.out (by kernel_rfl) cJ
      obtain ⟨gC, gH⟩ := HS.out.pre bB
      have mO := gH.size
      go_simp
      exact fG.out _ (BT (Wn.of_calm (bA)) bB aF) (HS.out.calm (by omega) cJ (by decide) (by decide) rfl bB aF (bA)) _ (GV.new (A := fJ) rfl mO (gD _ _ _ _ _ _)) (by decide)
     ·exact tA
     ·have h231 := ab (show a.eval (.tmp 231) = .pointer (some ⟨wY.heap.size, 3, none⟩) from bx.out 2 (by omega) (bg.out _ rfl ⟨2, Ground.data⟩ (by simp) rfl))
      have bB := fN (f := 40) (j := 4) mZ.out (by kernel_rfl) cJ
      have aF := fN (f := 40) (j := 6) mZ.out (by kernel_rfl) cJ
      exact Vw
     ·obtain ⟨A3, u3, g3, rfl, rK, hx, Mz⟩ : GV wE.heap.size (fun A => A = fJ) v (a.eval (.tmp 230)) := bx.out 1 (by omega) (bg.out _ rfl ⟨1, Ground.data⟩ (by simp) rfl)
      have h232 : a.eval (.tmp 232) = .slice aB TB.len cB := bx.out 3 (by omega) (bg.out _ rfl ⟨3, Ground.data⟩ (by simp) rfl)
      have bB := fF cJ
      have aF := fN (f := 40) (j := 6) mZ.out (by kernel_rfl) cJ
      obtain ⟨gC, gH⟩ := HS.out.pre bB
      have mO := gH.size
      obtain ⟨aj, cj, v2, vs, iS, mV, aD, iU⟩ := nE (Mz.weak (show w.heap.size + 1 ≤ wE.heap.size by omega)) (l8 RB.out (by omega) (by omega) gH) (by omega) (by omega) Rm (by omega) (fun g hg => .inr (by simp [Value.ownBlock] at hg; omega)) (by omega)
      have uX := vA Mz (l8 RB.out (by omega) (by omega) gH) (by omega) iS
      refine oH rfl hx h232 (iS _) ?_
      refine fG.out v2 (BT (Wn.of_calm uX) bB aF) (HS.out.join (by omega) cJ (by decide) aF (by omega) qU aD (fun k hk => by simp [Value.ownBlock] at hk; omega)) _ ⟨_, _, _, _, aj, cj, rfl, mV, rfl, ?_, fun i hi => ?_⟩ (by decide)
      ·rcases iU with e | ⟨k, e, hk⟩
       ·rw [e]; simp [Value.ownBlock]; omega
       ·rw [e]; intro h; have := Option.some.inj h; omega
      ·by_cases h3 : i < 1
       ·rw [bh _ _ h3, bh _ _ h3]; left; omega
       ·rw [bN _ _ (by omega), bN _ _ (by omega)]; right; omega
     ·exact tA
     ·have h234 := ab (show a.eval (.tmp 234) = .pointer (some ⟨wY.heap.size, 3, none⟩) from bx.out 5 (by omega) (bg.out _ rfl ⟨5, Ground.data⟩ (by simp) rfl))
      obtain ⟨Ts, us, s2, e2, a2, c2, hx, mV, rfl, zI, Ax⟩ : AV (w.heap.size + 1) wY.heap.size (1 + TB.len) (fun Ts => Ts = fW (fun _ => fJ) 1 TB.kids) v (a.eval (.tmp 233)) := bx.out 4 (by omega) (bg.out _ rfl ⟨4, Ground.data⟩ (by simp) rfl)
      have h233 := ab hx
      have I1 : l.getD 4 false = true := bg.out _ rfl ⟨4, Ground.data⟩ (by simp) rfl
      obtain ⟨gC, o9⟩ := HS.out.mid I1 (fF cJ)
      rw [oz] at gC
      have qx := o9.trans tT.out
      obtain ⟨z0, z1, z2, z3, zf⟩ := aw qx
      have Ng := zf 3
      have HF55 : Hid (F55 sb (A + 3 + 3 + 3 + 3 + 3 + (2 * K + 10)) (w.heap.size + 1) wY.heap.size fJ TB w (v.setCell ⟨wY.heap.size, 3, none⟩ (.slice a2 (1 + TB.len) c2))) := ⟨gC.put _ _ _ (by omega), us, s2, e2, a2, c2, (heap_setCell_same v wY.heap.size 3 _ 27 (.slice a2 (1 + TB.len) c2) qx).trans rfl, mV.put zI Ax⟩
      clear hx gC o9 qx mV zf
      go_simp
      exact vQ.out _ (fun j x _ hx => Pm (by omega) j x hx) (GS.store (by omega) (.inr I1) HF55.out) (fun _ => trivial)
    ·intro a v bP o8 cL wa iM
     obtain ⟨l, hS, aN⟩ := wa
     have HF := aa (hS.fin (aN 6 (by decide)))
     rw [iV (n := 7) bP o8 cL]
     generalize (fun i => a.eval (.tmp (Jb i))) = ff
     clear bP o8 cL iM hS aN
     simp only [mM, Act.put, Jb, List.getD_cons_zero, List.getD_cons_succ, List.setIfInBounds_toArray, List.set_cons_succ, List.set_cons_zero, List.set_nil]
     obtain ⟨gC, us, s2, e2, la, lc, qi, mV⟩ := HF.out
     have HDG := aa gC
     have RL : Hid (Row (w.heap.size + 1) v.heap.size v (ct fJ TB) (.slice la (1 + TB.len) lc)) := mV.row lr TB.kind TB.num TB.name
     have E7 := aa qi
     have Rn := (Array.getElem?_eq_some_iff.1 qi).1
     obtain ⟨wG, Mg⟩ : ∃ W, W = v := ⟨_, rfl⟩
     rw [← Mg] at HDG RL E7 Rn ⊢
     clear gC mV HF qi tT yN RB Mg
     have RK : ag (fun i => if i = 5 then 3 else 0) 16 = 3 := by simp [ag]
     have RQ : sb < w.heap.size + 1 := by omega
     have Ko := HDG.out.size
     go_upto_region 56 with fail
     refine fO Ha (by kernel_rfl) Da (IA sb (w.heap.size + 1) la (ct fJ TB) lc) (GS sb (A + 3 + 3 + 3 + 3 + 3 + (2 * K + 10)) (fun i => if i = 5 then 3 else 0) 16 15 15 w wG (0) (F56 sb (A + 3 + 3 + 3 + 3 + 3 + (2 * K + 10) + 3) (ct fJ TB) w)) (GS.start _ HDG.out) ?_ ?_
     ·intro l a v i hI hr
      have EU : i < 16 := (bd hr).1
      have cJ := (bd hr).2
      have Hb : l.size = 16 := hI.lsize
      have HS := aa hI.s
      have qS := ng (fun i => if i = 5 then 3 else 0) l 16
      rw [RK] at qS
      have mZ := aa hI.shut
      have fG := aa (fun (v' : World) (hw : ∀ jj x, l.getD jj false = true → IA sb (w.heap.size + 1) la (ct fJ TB) lc jj v x → IA sb (w.heap.size + 1) la (ct fJ TB) lc jj v' x) (nB : GS sb (A + 3 + 3 + 3 + 3 + 3 + (2 * K + 10)) (fun i => if i = 5 then 3 else 0) 16 15 15 w wG (0) (F56 sb (A + 3 + 3 + 3 + 3 + 3 + (2 * K + 10) + 3) (ct fJ TB) w) (l.setIfInBounds i true) v') (x : Value) (hx : IA sb (w.heap.size + 1) la (ct fJ TB) lc i v' x) (bP : Da i < 258) => hI.put LP hr bP hw nB hx)
      have vQ := aa (fun (v' : World) (hw : ∀ jj x, l.getD jj false = true → IA sb (w.heap.size + 1) la (ct fJ TB) lc jj v x → IA sb (w.heap.size + 1) la (ct fJ TB) lc jj v' x) (nB : GS sb (A + 3 + 3 + 3 + 3 + 3 + (2 * K + 10)) (fun i => if i = 5 then 3 else 0) 16 15 15 w wG (0) (F56 sb (A + 3 + 3 + 3 + 3 + 3 + (2 * K + 10) + 3) (ct fJ TB) w) (l.setIfInBounds i true) v') (hx : ∀ x, IA sb (w.heap.size + 1) la (ct fJ TB) lc i v' x) => hI.none hr hw nB hx)
      have bx := aa (fun (j : Nat) (hj : j < 16) (hl : l.getD j false = true) => hI.vals j hj hl)
      have bg := aa (fun o (ho : _ = some o) => gE hr (o := o) ho)
      have s0 : a.tmps[0]?.getD undef = .pointer (some ⟨sb, 0, none⟩) := ab (hI.keep 0 (by intro i hi; have h2 : i < 16 := hi; show 0 ≠ Da i; have : ((List.range 16).all fun i => decide (Da i ≠ 0)) = true := (by decide); have h3 := List.all_eq_true.1 this i (List.mem_range.2 h2); simp at h3; exact fun e => h3 e.symm))
      have s8 : a.tmps[8]?.getD undef = .pointer (some ⟨w.heap.size, 0, none⟩) := ab (hI.keep 8 (by intro i hi; have h2 : i < 16 := hi; show 8 ≠ Da i; have : ((List.range 16).all fun i => decide (Da i ≠ 8)) = true := (by decide); have h3 := List.all_eq_true.1 this i (List.mem_range.2 h2); simp at h3; exact fun e => h3 e.symm))
      have s17 : a.tmps[17]?.getD undef = .pointer (some ⟨wY.heap.size, 0, none⟩) := ab (hI.keep 17 (by intro i hi; have h2 : i < 16 := hi; show 17 ≠ Da i; have : ((List.range 16).all fun i => decide (Da i ≠ 17)) = true := (by decide); have h3 := List.all_eq_true.1 this i (List.mem_range.2 h2); simp at h3; exact fun e => h3 e.symm))
      clear hI hr
      rcases (by omega : i = 0 ∨ i = 1 ∨ i = 2 ∨ i = 3 ∨ i = 4 ∨ i = 5 ∨ i = 6 ∨ i = 7 ∨ i = 8 ∨ i = 9 ∨ i = 10 ∨ i = 11 ∨ i = 12 ∨ i = 13 ∨ i = 14 ∨ i = 15) with rfl | rfl | rfl | rfl | rfl | rfl | rfl | rfl | rfl | rfl | rfl | rfl | rfl | rfl | rfl | rfl
      all_goals (refine lx rfl rfl ?_)
      ·have k_O42_1 := kk
       exact U1
      ·have h235 := ab (show a.eval (.tmp 235) = .agg #[.int .i64 22, .int .i64 0, .string ⟨#[]⟩, .slice none 0 0] from bx.out 0 (by omega) (bg.out _ rfl ⟨0, Ground.data⟩ (by simp) rfl))
       have k_O34_0 := kk
       exact Pd
      ·obtain ⟨T1, a1, c1, xi, Ct, mi⟩ : LV (w.heap.size + 1) (fun T => T = cm 0 0 ⟨#[]⟩ (al 22 0 ⟨#[]⟩)) v (a.eval (.tmp 236)) := bx.out 1 (by omega) (bg.out _ rfl ⟨1, Ground.data⟩ (by simp) rfl)
       subst xi
       have h236 := ab Ct
       have HR := aa mi
       clear Ct mi
       have k_O38_0 := kk
       exact Ll
      ·have k_O44_0 := kk
       exact Pb
      ·exact tA
      ·have h239 := ab (show a.eval (.tmp 239) = .pointer (some ⟨sb, 0, none⟩) from bx.out 4 (by omega) (bg.out _ rfl ⟨4, Ground.data⟩ (by simp) rfl))
       have k_O44_1 := kk
       exact Pb
      ·obtain ⟨q2, mU, hx⟩ : ∃ q : Nat, q < 3 ∧ a.eval (.tmp 240) = .int .i64 (q : Int) := bx.out 5 (by omega) (bg.out _ rfl ⟨5, Ground.data⟩ (by simp) rfl)
       have h240 := ab hx
       have hwq : IntKind.i64.wrap (1 + (q2 : Int)) = 1 + (q2 : Int) := lu (by omega) (by omega)
       clear hx
       go_simp
       exact fG.out v (fun _ _ _ h => h) (HS.out.same (by omega) cJ (by decide) (by decide) rfl) _ ⟨q2, mU, rfl⟩ (by decide)
      ·obtain ⟨q2, mU, hx⟩ : ∃ q : Nat, q < 3 ∧ a.eval (.tmp 241) = .int .i64 (1 + (q : Int)) := bx.out 6 (by omega) (bg.out _ rfl ⟨6, Ground.data⟩ (by simp) rfl)
       have h241 := ab hx
       clear hx
       have k_O42_0 := kk
       exact U1
      ·have h238 := ab (show a.eval (.tmp 238) = .agg #[.int .i64 24, .int .i64 0, .string ⟨#[105]⟩, .slice none 0 0] from bx.out 3 (by omega) (bg.out _ rfl ⟨3, Ground.data⟩ (by simp) rfl))
       obtain ⟨q2, mU, hx⟩ : ∃ q : Nat, q < 3 ∧ a.eval (.tmp 242) = .agg #[.int .i64 22, .int .i64 (1 + (q : Int)), .string ⟨#[]⟩, .slice none 0 0] := bx.out 7 (by omega) (bg.out _ rfl ⟨7, Ground.data⟩ (by simp) rfl)
       have h242 := ab hx
       clear hx
       have k_O34_1 := kk
       exact Pd
      ·obtain ⟨T8, a8, c8, hp8, hx8, hr8⟩ : LV (w.heap.size + 1) (fun T => ∃ q : Nat, q < 3 ∧ T = gO 0 0 ⟨#[]⟩ (al 24 0 ⟨#[105]⟩) (al 22 (1 + (q : Int)) ⟨#[]⟩)) v (a.eval (.tmp 243)) := bx.out 8 (by omega) (bg.out _ rfl ⟨8, Ground.data⟩ (by simp) rfl)
       obtain ⟨q2, mU, rfl⟩ := hp8
       have h243 := ab hx8
       have HR := aa hr8
       clear hx8 hr8
       have k_O38_1 := kk
       exact Ll
      ·have k_O44_2 := kk
       exact Pb
      ·obtain ⟨T9, a9, c9, hp9, Rr, N8⟩ : TV (w.heap.size + 1) (fun T => ∃ q : Nat, q < 3 ∧ T = qz q) v (a.eval (.tmp 244)) := bx.out 9 (by omega) (bg.out _ rfl ⟨9, Ground.data⟩ (by simp) rfl)
       obtain ⟨q2, mU, rfl⟩ := hp9
       have h244 := ab Rr
       have HR := aa N8
       have h245 := ab (show a.eval (.tmp 245) = .agg #[.int .i64 TB.kind, .int .i64 TB.num, .string TB.name, .slice la (1 + TB.len) lc] from bx.out 10 (by omega) (bg.out _ rfl ⟨10, Ground.data⟩ (by simp) rfl))
       unfold Nd.val at h244
       clear Rr N8
       have k_O39_1 := kk
       exact U5
      ·obtain ⟨T11, a11, oe, Od, GD, GP⟩ : LV (w.heap.size + 1) (fun T => ∃ q : Nat, q < 3 ∧ T = gO 0 0 ⟨#[]⟩ (qz q) (ct fJ TB)) v (a.eval (.tmp 246)) := bx.out 11 (by omega) (bg.out _ rfl ⟨11, Ground.data⟩ (by simp) rfl)
       obtain ⟨q2, mU, rfl⟩ := Od
       have h246 := ab GD
       have HR := aa GP
       clear GD GP
       have k_O38_2 := kk
       exact Ll
      ·obtain ⟨T2, a2, c2, IZ, Bi, vV⟩ : TV (w.heap.size + 1) (fun T => T = we) v (a.eval (.tmp 237)) := bx.out 2 (by omega) (bg.out _ rfl ⟨2, Ground.data⟩ (by simp) rfl)
       subst IZ
       have h237 := ab Bi
       have Qp := aa vV
       obtain ⟨T12, a12, oj, hp12, Rw, R0⟩ : TV (w.heap.size + 1) (fun T => ∃ q : Nat, q < 3 ∧ T = z6 q (ct fJ TB)) v (a.eval (.tmp 247)) := bx.out 12 (by omega) (bg.out _ rfl ⟨12, Ground.data⟩ (by simp) rfl)
       obtain ⟨q2, mU, rfl⟩ := hp12
       have h247 := ab Rw
       have HR := aa R0
       unfold Nd.val at h237 h247
       clear Bi vV Rw R0
       have k_O34_2 := kk
       exact Pd
      ·obtain ⟨T13, a13, oc, Oc, GC, GO⟩ : LV (w.heap.size + 1) (fun T => ∃ q : Nat, q < 3 ∧ T = gO 0 0 ⟨#[]⟩ we (z6 q (ct fJ TB))) v (a.eval (.tmp 248)) := bx.out 13 (by omega) (bg.out _ rfl ⟨13, Ground.data⟩ (by simp) rfl)
       obtain ⟨q2, mU, rfl⟩ := Oc
       have h248 := ab GC
       have HR := aa GO
       clear GC GO
       have k_O38_3 := kk
       exact Ll
      ·obtain ⟨T14, a14, c14, Ob, GB, GN⟩ : TV (w.heap.size + 1) (fun T => ∃ q : Nat, q < 3 ∧ T = pF q (ct fJ TB)) v (a.eval (.tmp 249)) := bx.out 14 (by omega) (bg.out _ rfl ⟨14, Ground.data⟩ (by simp) rfl)
       obtain ⟨q2, mU, rfl⟩ := Ob
       have h249 := ab GB
       unfold Nd.val at h249
       have bB := fF cJ
       obtain ⟨gC, gH⟩ := HS.out.pre bB
       obtain ⟨f0, f1, f2, f3, ff⟩ := gC.cells
       have HF56 : Hid (F56 sb (A + 3 + 3 + 3 + 3 + 3 + (2 * K + 10) + 3) (ct fJ TB) w (iN v w.heap.size 4 0 ⟨#[]⟩ (.slice a14 2 c14))) := ⟨v, q2, a14, c14, ⟨gC.src.mono (by omega), gC.kp, gC.low⟩, mU, GN, rfl⟩
       clear GB GN gC gH
       go_simp
       exact vQ.out _ (fun j x _ hx => Pl (Wn.of_put (by omega)) j x hx) (GS.store (by omega) (.inl rfl) HF56.out) (fun _ => trivial)
     ·intro a v bP o8 cL wa iM
      obtain ⟨l, hS, aN⟩ := wa
      have HF := aa (hS.fin (aN 15 (by decide)))
      rw [iV (n := 16) bP o8 cL]
      generalize (fun i => a.eval (.tmp (Da i))) = ff
      clear bP o8 cL iM hS aN
      simp only [mM, Act.put, Da, List.getD_cons_zero, List.getD_cons_succ, List.setIfInBounds_toArray, List.set_cons_succ, List.set_cons_zero, List.set_nil]
      obtain ⟨v0, q2, a2, c2, gC, mU, iT, rfl⟩ := HF.out
      have IJ := aa gC
      have HRq := aa iT
      have hcB := PB.out.2.2
      have hcL := sR fJ TB
      have hsI : fJ.cost ≤ 40 := by decide
      have Qf : Hid ((pF q2 (ct fJ TB)).sOk = true ∧ (pF q2 (ct fJ TB)).Fine ∧ (pF q2 (ct fJ TB)).cost ≤ 2 * C + 200) := Kl mU (zb (.inl rfl) (by decide)) (by decide) PB.out.1 PB.out.2.1.1 PB.out.2.1.2 (by omega) (by omega)
      clear gC iT HF E7 RL HDG
      go_wp2
      refine bodyPost_ret (IJ.out.read Tryd.results47 rfl _ _ _ _) rfl ⟨pF q2 (ct fJ TB), _, rfl, ?_⟩
      exact (IJ.out.fin (P := fun T => T.sOk = true) (C := E) HRq.out Qf.out.2.1 Qf.out.1 (by have := Qf.out.2.2; omega)).more (by omega)
 ·exact Lm
end Go.Proofs.YtkfbbdhidecefaaDoor
