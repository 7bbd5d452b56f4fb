import Derived.Test.YteaocammohcgoaaGreatDoorQDE
set_option linter.unusedVariables false
set_option maxHeartbeats 16000000
set_option maxRecDepth 100000
namespace Go.Proofs.YteaocammohcgoaaGreatDoor
open Go.RowKit
variable {G : Prop}
theorem bm0 (h : G := by
 skip
 cases isChan
 ·exact Th
 ·have k_m33_1 := kk
  exact SW) : G := h
theorem bm1 (h : G := by
 skip
 go_wp2_with fail
 refine (iR vr sb _ w4.heap.size 0 3 3 _ (by omega) (by omega) (by omega) (by have := eH.out.src.lt; omega) (eH.out.alloc _).src (iQ vr w4 [⟨#[97]⟩, ⟨#[98]⟩, ⟨#[120]⟩] 9 (by intro s hs; simp only [List.mem_cons, List.not_mem_nil, or_false] at hs; unfold vr; rcases hs with rfl | rfl | rfl <;> decide))).mono ?_
 rintro e w5 ⟨sg, js, rfl, hs, hk⟩
 have Rn := (bQ (bO w4 _) (fun k => k = sb)).trans hk (fun _ _ h => h)
 clear hk
 have hk := Rn
 clear Rn
 have oX := aa js.1
 have hszS := js.2
 clear js
 have dQ := aa (eH.out.step hs hk)
 have mw := aa (bU qR.out dr hk)
 clear hs hk eH qR
 go_wp2_with fail
 refine (tx.out _ _ (by omega) dQ.out).mono ?_
 have k_m25_1 := kk
 exact S6) : G := h
theorem IW (h : G := by
 exact Th) : G := h
theorem bm3 (h : G := by
 skip
 go_wp2_with fail
 refine (NX.out _ _ (by omega) dQ.out 2 (by omega)).mono ?_
 rintro e w6 ⟨q, hq, rfl, hs, hk⟩
 have eU := aa (dQ.out.step hs hk)
 have tF := aa (bU mw.out dr hk)
 clear hs hk dQ mw
 rcases (by omega : q = 0 ∨ q = 1) with rfl | rfl
 ·skip
  go_wp2_with fail
  refine (ym.out _ _ (by omega) eU.out).mono ?_
  exact Tg
 ·skip
  go_wp2_with fail
  refine (BC.out _ _ (by omega) eU.out).mono ?_
  exact Tg) : G := h
theorem bm4 (h : G := by
 skip
 go_wp2_with fail
 refine (NX.out _ _ (by omega) eU.out 2 (by omega)).mono ?_
 rintro e w7 ⟨q, hq, rfl, hs, hk⟩
 have hZ := aa (eU.out.step hs hk)
 have Cc := aa (bU tF.out dr hk)
 clear hs hk eU tF
 rcases (by omega : q = 0 ∨ q = 1) with rfl | rfl
 ·skip
  go_wp2_with fail
  refine (ym.out _ _ (by omega) hZ.out).mono ?_
  exact Tf
 ·skip
  go_wp2_with fail
  refine (BC.out _ _ (by omega) hZ.out).mono ?_
  exact Tf) : G := h
theorem bm5 (h : G := by
 have Sk := ae (show a.eval (.tmp 63) = .pointer (some ⟨sb, 0, none⟩) from bJ.out 0 (by omega) (bq.out _ rfl ⟨0, Ground.data⟩ (by simp) rfl))
 obtain ⟨g, hg, hx, hc⟩ : ∃ g, w.heap.size + 1 ≤ g ∧ a.eval (.tmp 64) = .slice (some ⟨g, 0, none⟩) 2 2 ∧ ∀ i, i < 2 → ∃ s, vr s ∧ v.cell? ⟨g, 0 + i, none⟩ = some (.string s) := bJ.out 1 (by omega) (bq.out _ rfl ⟨1, Ground.data⟩ (by simp) rfl)
 have h64 := ae hx
 have HC := aa hc
 clear hx hc
 go_simp
 refine (iR vr sb _ g 0 2 2 v (by omega) (by omega) (by omega) (by omega) (iK.out.2 (cG cz)) HC.out).mono ?_
 rintro e v2 ⟨sg, js, rfl, hs, hk⟩
 exact cH.out 2 (by omega) v2 (Wr.of_kp hk) (iK.out.pick (by omega) cz hs hk) _ ⟨sg, js, rfl⟩) : G := h
theorem bm6 (h : G := by
 have h68 := ae hx
 have bj : ∀ i, i < 6 → listed.getD i false = true := fun i hi => bq.out _ rfl ⟨i, Ground.phase⟩ (by rcases (by omega : i = 0 ∨ i = 1 ∨ i = 2 ∨ i = 3 ∨ i = 4 ∨ i = 5) with rfl | rfl | rfl | rfl | rfl | rfl <;> simp) rfl
 obtain ⟨f0, f1, f2, f3, ff⟩ := (iK.out.1.last (by omega) cz bj).1.1.cells
 have mT := aa (iK.out.store (by omega) cz bj js hg gK)
 clear hx gK bj
 go_simp
 exact qO.out _ (Wr.of_put sb w.heap.size v 5 0 sg (.slice (some ⟨gx, 0, none⟩) 1 1)) rfl mT.out) : G := h
theorem bm7 (h : G := by
 have Rl := (iK.out.1.low (show 3 < 6 by omega) cz).2.2
 obtain ⟨m0, m1, m2, m3⟩ := HM.out
 have n0 := pg m0 Rl AX
 have n1 := pg m1 Rl AX
 have n2 := pg m2 Rl AX
 have n3 := pg m3 Rl AX
 clear m0 m1 m2 m3 Rl
 go_simp
 exact cH.out 3 (by omega) v (Wr.of_calm (Below.refl _ _)) (iK.out.calm (by omega) (by omega) cz (Below.refl _ _)) _ rfl) : G := h
theorem bm8 (h : G := by
 have h65 := ae hx
 have h67 := ae hy
 have gL := aa gK
 clear hx hy gK
 go_simp
 refine (aJ _ _ _ _ _ _).mono ?_
 rintro e v2 ⟨rfl, hb⟩
 exact cH.out 5 (by omega) v2 (Wr.of_calm hb) (iK.out.calm (by omega) (by omega) cz hb) _ ⟨sg, gx, js, hg, rfl, bm gL.out hb⟩) : G := h
theorem bm9 (h : G := by
 have iG := (iK.out.1.low (show 1 < 6 by omega) cz).2.1.size
 go_simp
 exact cH.out 1 (by omega) _ (Wr.of_calm (bA)) (iK.out.calm (by omega) (by omega) cz (bA)) _ ⟨v.heap.size, iG, rfl, fun i hi => iQ vr v [⟨#[99]⟩, ⟨#[100]⟩] 9 hNP i hi⟩) : G := h
theorem Tk (h : G := by
 obtain ⟨dK, dD⟩ := HS.out.pre bK
 obtain ⟨z0, z1, z2, z3, zf⟩ := aG (bU cJ.out mH dD)
 clear dK dD
 exact Te) : G := h
theorem Tj (h : G := by
 rintro e v2 ⟨rfl, hb⟩
 exact cH.out v2 (je (Wn.of_calm hb) bK aM) (HS.out.calm (by omega) cz (by decide) (by decide) rfl bK aM hb) _ rfl (by decide)) : G := h
theorem Ti (h : G := by
 go_simp
 exact cH.out 4 (by omega) _ (Wr.of_calm (bA)) (iK.out.calm (by omega) (by omega) cz (bA)) _ ⟨v.heap.size, iG, rfl, heap_alloc_new v _⟩) : G := h
theorem bm13 (h : G := by
 go_simp
 exact cH.out 0 (by omega) v (Wr.of_calm (Below.refl _ _)) (iK.out.calm (by omega) (by omega) cz (Below.refl _ _)) _ rfl) : G := h
theorem oV (h : G := by
 exact Te) : G := h
theorem Th (h : G := by
 skip
 have k_m41_1 := kk
 exact SM) : G := h
theorem Tg (h : G := by
 have k_m26_0 := kk
 exact S5) : G := h
theorem Tf (h : G := by
 rintro e w8 ⟨T, uT, rfl, dT⟩
 obtain ⟨aT, cT, rfl⟩ := bc dT.row
 have hs := dT.src
 have hk := dT.kp
 have RT := aa (RW.of_drawn hZ.out dT)
 have FT := aa dT.fine
 have OT := aa dT.ok
 have jC := dT.cost
 have me := Nd.fine_len dT.fine
 clear dT
 have ot := aa (hZ.out.step hs hk)
 have JJ := aa (bU Cc.out dr hk)
 clear hs hk hZ Cc
 unfold Nd.val
 go_wp2_with fail
 refine (aJ _ _ _ _ _ _).mono ?_
 rintro e w9 ⟨rfl, hb⟩
 have RR := aa (RW.one (A := T) ot.out.size RT.out (hb.mono (by simp)) 20 0 ⟨#[]⟩)
 have ey := (bO w8 (.cells #[.int .i64 T.kind, .int .i64 T.num, .string T.name, .slice aT T.len cT] 25)).trans (hb.mono (by simp))
 clear hb
 have hb := ey
 clear ey
 have yh := aa (ot.out.calm hb)
 have CB9 := aa (bm JJ.out hb)
 clear hb ot JJ
 clear RT
 have bS : ByteArray.size ⟨#[]⟩ = 0 := by decide
 obtain ⟨f0, f1, f2, f3, ff⟩ := yh.out.cells
 go_wp2
 refine bodyPost_ret (yh.out.read Tryz.results62 rfl _ _ _ _) rfl ⟨b8 20 0 ⟨#[]⟩ T, .slice (some ⟨w8.heap.size, 0, none⟩) 1 1, rfl, ?_⟩
 exact (yh.out.fin (P := fun T => T.sOk = true) (C := E) RR.out (bR (by omega) (by omega) (by decide) FT.out) (lI (by omega) OT.out) (by rw [cy]; omega)).more (by omega)) : G := h
theorem Te (h : G := by
 go_simp
 exact cH.out v (fun _ _ _ h => h) (HS.out.same (by omega) cz (by decide) (by decide) rfl) _ rfl (by decide)) : G := h
theorem Td (h : G := by
 have k_m25_0 := kk
 exact S6) : G := h
theorem Tc (h : G := by
 exact (ot.out.fin (P := fun T => T.sOk = true) (C := E) RR.out (bR (by omega) (by omega) (by decide) FT.out) (lI (by omega) OT.out) (by rw [cy]; omega)).more (by omega)) : G := h
theorem Ta (h : G := by
 exact (hZ.out.fin (P := fun T => T.sOk = true) (C := E) RR.out (bR (by omega) (by omega) (by decide) FT.out) (lI (by omega) OT.out) (by rw [cy]; omega)).more (by omega)) : G := h
theorem S9 (h : G := by
 have bJ := aa (fun (j : Nat) (hj : j < 7) (hl : listed.getD j false = true) => hI.vals j hj (pa hl))
 have bq := aa (fun o (ho : _ = some o) => dM hr (o := o) ho)
 have s0 : a.tmps[0]?.getD undef = .pointer (some ⟨sb, 0, none⟩) := ae (hI.keep 0 (by intro i hi; show 0 ≠ (if i < 6 then 63 + i else 300 + i); split <;> omega))
 have s8 : a.tmps[8]?.getD undef = .pointer (some ⟨w.heap.size, 0, none⟩) := ae (hI.keep 8 (by intro i hi; show 8 ≠ (if i < 6 then 63 + i else 300 + i); split <;> omega))
 have s14 : a.tmps[14]?.getD undef = .pointer (some ⟨w5.heap.size, 0, none⟩) := ae (hI.keep 14 (by intro i hi; show 14 ≠ (if i < 6 then 63 + i else 300 + i); split <;> omega))
 have iK := aa hS
 clear hI hr hS
 rcases (by omega : i = 0 ∨ i = 1 ∨ i = 2 ∨ i = 3 ∨ i = 4 ∨ i = 5 ∨ i = 6) with rfl | rfl | rfl | rfl | rfl | rfl | rfl
 all_goals (refine fN rfl rfl ?_)
 ·exact bm13
 ·exact bm9
 ·exact bm5
 ·exact bm7
 first
 |clear k_m22_0
  ·have iG := (iK.out.1.low (show 4 < 6 by omega) cz).2.1.size
   have h66 := ae (show a.eval (.tmp 66) = .agg #[.int .i64 26, .int .i64 0, .string ⟨#[]⟩, .slice none 0 0] from bJ.out 3 (by omega) (bq.out _ rfl ⟨3, Ground.data⟩ (by simp) rfl))
   exact Ti
  ·obtain ⟨sg, js, hx⟩ : ∃ s, vr s ∧ a.eval (.tmp 65) = .string s := bJ.out 2 (by omega) (bq.out _ rfl ⟨2, Ground.data⟩ (by simp) rfl)
   obtain ⟨gx, hg, hy, gK⟩ : ∃ gx, w.heap.size + 1 ≤ gx ∧ a.eval (.tmp 67) = .slice (some ⟨gx, 0, none⟩) 1 1 ∧ v.heap[gx]? = some (JT (ax 26 0 ⟨#[]⟩) (.slice none 0 0)) := bJ.out 4 (by omega) (bq.out _ rfl ⟨4, Ground.data⟩ (by simp) rfl)
   exact bm8
  ·obtain ⟨sg, gx, js, hg, hx, gK⟩ : ∃ s gx, vr s ∧ w.heap.size + 1 ≤ gx ∧ a.eval (.tmp 68) = .agg #[.int .i64 5, .int .i64 0, .string s, .slice (some ⟨gx, 0, none⟩) 1 1] ∧ v.heap[gx]? = some (JT (ax 26 0 ⟨#[]⟩) (.slice none 0 0)) := bJ.out 5 (by omega) (bq.out _ rfl ⟨5, Ground.data⟩ (by simp) rfl)
   exact bm6
 |clear k_m22_1
  ·have iG := (iK.out.1.low (show 4 < 6 by omega) cz).2.1.size
   have h66 := ae (show a.eval (.tmp 66) = .agg #[.int .i64 26, .int .i64 0, .string ⟨#[]⟩, .slice (some ⟨g, 0, none⟩) 1 cap] from bJ.out 3 (by omega) (bq.out _ rfl ⟨3, Ground.data⟩ (by simp) rfl))
   exact Ti
  ·obtain ⟨sg, js, hx⟩ : ∃ s, vr s ∧ a.eval (.tmp 65) = .string s := bJ.out 2 (by omega) (bq.out _ rfl ⟨2, Ground.data⟩ (by simp) rfl)
   obtain ⟨gx, hg, hy, gK⟩ : ∃ gx, w.heap.size + 1 ≤ gx ∧ a.eval (.tmp 67) = .slice (some ⟨gx, 0, none⟩) 1 1 ∧ v.heap[gx]? = some (JT (b8 26 0 ⟨#[]⟩ (ax 22 q ⟨#[]⟩)) (.slice (some ⟨g, 0, none⟩) 1 cap)) := bJ.out 4 (by omega) (bq.out _ rfl ⟨4, Ground.data⟩ (by simp) rfl)
   exact bm8
  ·obtain ⟨sg, gx, js, hg, hx, gK⟩ : ∃ s gx, vr s ∧ w.heap.size + 1 ≤ gx ∧ a.eval (.tmp 68) = .agg #[.int .i64 5, .int .i64 0, .string s, .slice (some ⟨gx, 0, none⟩) 1 1] ∧ v.heap[gx]? = some (JT (b8 26 0 ⟨#[]⟩ (ax 22 q ⟨#[]⟩)) (.slice (some ⟨g, 0, none⟩) 1 cap)) := bJ.out 5 (by omega) (bq.out _ rfl ⟨5, Ground.data⟩ (by simp) rfl)
   exact bm6) : G := h
theorem S8 (h : G := by
 skip
 go_wp2_with fail
 refine (tx.out _ _ (by omega) dQ.out).mono ?_
 have k_m27_0 := kk
 exact S4) : G := h
theorem S7 (h : G := by
 skip
 go_wp2_with fail
 refine (tx.out _ _ (by omega) eU.out).mono ?_
 have k_m26_1 := kk
 exact S5) : G := h
theorem S6 (h : G := by
 have k_m27_1 := kk
 exact S4) : G := h
theorem S5 (h : G := by
 rintro e w7 ⟨T, uT, rfl, dT⟩
 obtain ⟨aT, cT, rfl⟩ := bc dT.row
 have hs := dT.src
 have hk := dT.kp
 have RT := aa (RW.of_drawn eU.out dT)
 have FT := aa dT.fine
 have OT := aa dT.ok
 have jC := dT.cost
 have me := Nd.fine_len dT.fine
 clear dT
 have hZ := aa (eU.out.step hs hk)
 have Cc := aa (bU tF.out dr hk)
 clear hs hk eU tF
 unfold Nd.val
 go_wp2_with fail
 first
 |clear k_m26_0
  refine (aJ _ _ _ _ _ _).mono ?_
  rintro e w8 ⟨rfl, hb⟩
  have RR := aa (RW.one (A := T) hZ.out.size RT.out (hb.mono (by simp)) 20 0 ⟨#[]⟩)
  have k_m29_0 := kk
  exact S0
 |clear k_m26_1
  first
  |clear k_m24_0
   refine (aJ _ _ _ _ _ _).mono ?_
   rintro e w8 ⟨rfl, hb⟩
   have RR := aa (RW.one (A := T) hZ.out.size RT.out (hb.mono (by simp)) 21 0 ⟨#[]⟩)
   have k_m29_1 := kk
   exact S0
  |clear k_m24_1
   refine (lq _ _ _ _ _).mono ?_
   rintro e w8 ⟨rfl, hb⟩
   have R1 := aa (RW.one (A := T) hZ.out.size RT.out (hb.mono (by simp)) 25 0 ⟨#[115, 104, 111, 119]⟩)
   have k_m35_0 := kk
   exact SV) : G := h
theorem S4 (h : G := by
 rintro e w6 ⟨T, uT, rfl, dT⟩
 obtain ⟨aT, cT, rfl⟩ := bc dT.row
 have hs := dT.src
 have hk := dT.kp
 have RT := aa (RW.of_drawn dQ.out dT)
 have FT := aa dT.fine
 have OT := aa dT.ok
 have jC := dT.cost
 have me := Nd.fine_len dT.fine
 clear dT
 have eU := aa (dQ.out.step hs hk)
 have tF := aa (bU mw.out dr hk)
 clear hs hk dQ mw
 unfold Nd.val
 go_wp2_with fail
 first
 |clear k_m27_0
  first
  |clear k_m23_0
   refine (aJ _ _ _ _ _ _).mono ?_
   rintro e w7 ⟨rfl, hb⟩
   have RR := aa (RW.one (A := T) eU.out.size RT.out (hb.mono (by simp)) 21 0 ⟨#[]⟩)
   have k_m30_0 := kk
   exact SZ
  |clear k_m23_1
   refine (lq _ _ _ _ _).mono ?_
   rintro e w7 ⟨rfl, hb⟩
   have R1 := aa (RW.one (A := T) eU.out.size RT.out (hb.mono (by simp)) 25 0 ⟨#[115, 104, 111, 119]⟩)
   have k_m36_0 := kk
   exact IV
 |clear k_m27_1
  first
  |clear k_m25_0
   refine (aJ _ _ _ _ _ _).mono ?_
   rintro e w7 ⟨rfl, hb⟩
   have RR := aa (RW.one (A := T) eU.out.size RT.out (hb.mono (by simp)) 20 0 ⟨#[]⟩)
   have k_m30_1 := kk
   exact SZ
  |clear k_m25_1
   refine (NX.out _ _ (by omega) eU.out 4 (by omega)).mono ?_
   rintro e w7 ⟨q, hq, rfl, hs, hk⟩
   have vq := aa (RW.step RT.out eU.out hk)
   clear RT
   have RT := vq
   clear vq
   have hZ := aa (eU.out.step hs hk)
   have Cc := aa (bU tF.out dr hk)
   clear hs hk eU tF
   go_wp2_with fail
   refine (jr _ _).mono ?_
   rintro e w8 ⟨rfl, hb⟩
   have vq := aa (RW.calm RT.out hb)
   clear RT
   have RT := vq
   clear vq
   have ot := aa (hZ.out.calm hb)
   have JJ := aa (bm Cc.out hb)
   clear hb hZ Cc
   go_wp2_with fail
   refine (aJ _ _ _ _ _ _).mono ?_
   rintro e w9 ⟨rfl, hb⟩
   have R1 := aa (RW.two (A := T) (B := ax 22 q ⟨#[]⟩) ot.out.size RT.out (RW.leaf w _ 22 q ⟨#[]⟩) (hb.mono (by simp)) 28 0 ⟨#[43]⟩)
   have ey := (bO w8 (.cells #[.int .i64 T.kind, .int .i64 T.num, .string T.name, .slice aT T.len cT, .int .i64 22, .int .i64 (q : Int), .string ⟨#[]⟩, .slice none 0 0] 25)).trans (hb.mono (by simp))
   clear hb
   have hb := ey
   clear ey
   have yh := aa (ot.out.calm hb)
   have CB9 := aa (bm JJ.out hb)
   clear hb ot JJ
   go_wp2_with fail
   refine (aJ _ _ _ _ _ _).mono ?_
   rintro e w10 ⟨rfl, hb⟩
   have RR := aa (RW.one (A := dZ 28 0 ⟨#[43]⟩ T (ax 22 q ⟨#[]⟩)) yh.out.size R1.out (hb.mono (by simp)) 5 0 sg)
   have ey := (bO w9 (.cells #[.int .i64 28, .int .i64 0, .string ⟨#[43]⟩, .slice (some ⟨w8.heap.size, 0, none⟩) 2 2] 25)).trans (hb.mono (by simp))
   clear hb
   have hb := ey
   clear ey
   have Oc := aa (yh.out.calm hb)
   have CB10 := aa (bm CB9.out hb)
   clear hb yh CB9
   clear RT R1
   have bS : ByteArray.size ⟨#[]⟩ = 0 := by decide
   have pP : ByteArray.size ⟨#[43]⟩ = 1 := by decide
   obtain ⟨f0, f1, f2, f3, ff⟩ := Oc.out.cells
   go_wp2
   refine bodyPost_ret (Oc.out.read Tryz.results62 rfl _ _ _ _) rfl ⟨b8 5 0 sg (dZ 28 0 ⟨#[43]⟩ T (ax 22 q ⟨#[]⟩)), .slice (some ⟨w9.heap.size, 0, none⟩) 1 1, rfl, ?_⟩
   exact (Oc.out.fin (P := fun T => T.sOk = true) (C := E) RR.out (bR (by omega) (by omega) (by omega) (e6 (by omega) (by omega) (by decide) FT.out (aL (by omega) (by omega) (by decide)))) (lH (.inl rfl) oX.out (nA (by decide) OT.out (iJ (by omega)))) (by rw [cy, e7, bG]; omega)).more (by omega)) : G := h
theorem S3 (h : G := by
 rintro e w5 ⟨T, uT, rfl, dT⟩
 obtain ⟨aT, cT, rfl⟩ := bc dT.row
 have hs := dT.src
 have hk := dT.kp
 have RT := aa (RW.of_drawn eH.out dT)
 have FT := aa dT.fine
 have OT := aa dT.ok
 have jC := dT.cost
 have me := Nd.fine_len dT.fine
 clear dT
 have dQ := aa (eH.out.step hs hk)
 have mw := aa (bU qR.out dr hk)
 clear hs hk eH qR
 unfold Nd.val
 first
 |clear k_m28_0
  go_wp2_with fail
  refine (aJ _ _ _ _ _ _).mono ?_
  rintro e w6 ⟨rfl, hb⟩
  have RR := aa (RW.one (A := T) dQ.out.size RT.out (hb.mono (by simp)) 6 0 num)
  have ey := (bO w5 (.cells #[.int .i64 T.kind, .int .i64 T.num, .string T.name, .slice aT T.len cT] 25)).trans (hb.mono (by simp))
  clear hb
  have hb := ey
  clear ey
  have eU := aa (dQ.out.calm hb)
  have tF := aa (bm mw.out hb)
  clear hb dQ mw
  clear RT
  obtain ⟨f0, f1, f2, f3, ff⟩ := eU.out.cells
  go_wp2
  refine bodyPost_ret (eU.out.read Tryz.results62 rfl _ _ _ _) rfl ⟨b8 6 0 num T, .slice (some ⟨w5.heap.size, 0, none⟩) 1 1, rfl, ?_⟩
  exact (eU.out.fin (P := fun T => T.sOk = true) (C := E) RR.out (bR (by omega) (by omega) (by omega) FT.out) (lH (.inr rfl) N1.out OT.out) (by rw [cy]; omega)).more (by omega)
 |clear k_m28_1
  obtain ⟨f0, f1, f2, f3, ff⟩ := dQ.out.cells
  go_wp2
  refine bodyPost_ret (dQ.out.read Tryz.results62 rfl _ _ _ _) rfl ⟨T, .slice aT T.len cT, rfl, ?_⟩
  exact (dQ.out.fin (P := fun T => T.sOk = true) (C := E) RT.out FT.out OT.out (by omega)).more (by omega)) : G := h
theorem S0 (h : G := by
 have k_m35_1 := kk
 exact SV) : G := h
theorem SZ (h : G := by
 have k_m36_1 := kk
 exact IV) : G := h
theorem SY (h : G := by
 have oX := aa js.1
 have hszS := js.2
 rw [fB (n := 7) bS ku cM]
 generalize (fun i => a.eval (.tmp (if i < 6 then 63 + i else 300 + i))) = ff
 clear bS ku cM fr hS bj hl hl7 dK dD js gK
 simp only [iE, Act.put, Nat.reduceLT, if_true, if_false, Nat.reduceAdd, List.setIfInBounds_toArray, List.set_cons_succ, List.set_cons_zero]
 go_wp2
 first
 |clear k_m31_0
  refine bodyPost_ret (Fs.out.read Tryz.results62 rfl _ _ _ _) rfl ⟨b8 5 0 sg (ax 26 0 ⟨#[]⟩), _, rfl, ?_⟩
  exact (Fs.out.fin (P := fun T => T.sOk = true) (C := E) RR.out (bR (by omega) (by omega) (by omega) (aL (by omega) (by omega) (by decide))) (lH (.inl rfl) oX.out Bl) (by rw [cy, bG]; omega)).more (by omega)
 |clear k_m31_1
  refine bodyPost_ret (Fs.out.read Tryz.results62 rfl _ _ _ _) rfl ⟨b8 5 0 sg (b8 26 0 ⟨#[]⟩ (ax 22 q ⟨#[]⟩)), _, rfl, ?_⟩
  exact (Fs.out.fin (P := fun T => T.sOk = true) (C := E) RR.out (bR (by omega) (by omega) (by omega) (bR (by omega) (by omega) (by decide) (aL (by omega) (by omega) (by decide)))) (lH (.inl rfl) oX.out (Bk (iJ (by omega)))) (by rw [cy, cy, bG]; omega)).more (by omega)) : G := h
theorem SX (h : G := by
 skip
 go_wp2_with fail
 refine (bZ _ _ _ _ _ _ _).mono ?_
 rintro e w7 ⟨rfl, hb⟩
 have hZ := aa (eU.out.calm hb)
 have Cc := aa (bm tF.out hb)
 clear hb eU tF
 have bS : ByteArray.size ⟨#[]⟩ = 0 := by decide
 obtain ⟨f0, f1, f2, f3, ff⟩ := hZ.out.cells
 go_wp2
 first
 |clear k_m32_0
  refine bodyPost_ret (hZ.out.read Tryz.results62 rfl _ _ _ _) rfl ⟨ax 17 0 ⟨#[]⟩, .slice none 0 0, rfl, ?_⟩
  exact (hZ.out.fin (P := fun T => T.sOk = true) (C := E) (RW.leaf w _ 17 0 ⟨#[]⟩) (aL (by omega) (by omega) (by decide)) (yw (by omega)) (by rw [bG]; omega)).more (by omega)
 |clear k_m32_1
  refine bodyPost_ret (hZ.out.read Tryz.results62 rfl _ _ _ _) rfl ⟨ax 18 0 ⟨#[]⟩, .slice none 0 0, rfl, ?_⟩
  exact (hZ.out.fin (P := fun T => T.sOk = true) (C := E) (RW.leaf w _ 18 0 ⟨#[]⟩) (aL (by omega) (by omega) (by decide)) (yw (by omega)) (by rw [bG]; omega)).more (by omega)) : G := h
theorem SW (h : G := by
 have kb := Fm.out (by trivial)
 have Hw := ei kb
 have qB := aa kb
 clear kb Fm
 go_wp2_with fail
 obtain ⟨k0, k1, k2, k3, kf⟩ := aG qR.out
 have EXd := aa (tx.out _ w4.drew (by omega) eH.out.drew)
 have bS : ByteArray.size ⟨#[]⟩ = 0 := by decide
 first
 |clear k_m33_0
  have pP : ByteArray.size ⟨#[112, 117, 116]⟩ ≤ 10 := by decide
  go_region_with (first
   |(go_at_call 85; refine EXd.out.mono ?_; rintro e w5 ⟨T, uT, rfl, dT⟩; obtain ⟨aT, cT, rfl⟩ := bc dT.row; have dQ := aa (eH.out.drew.step dT.src dT.kp); have mw := aa (bU (W := w4.drew) qR.out dr dT.kp); obtain ⟨j0, j1, j2, j3, jf⟩ := aG mw.out; have RT := aa (RW.of_drawn eH.out.drew dT); have FT := aa dT.fine; have OT := aa dT.ok; have jC := dT.cost; have me := Nd.fine_len dT.fine; clear dT; unfold Nd.val)
   |(go_at_call 55; refine (lq _ _ _ _ _).mono ?_; rintro e w6 ⟨rfl, hb⟩; have ey := (bO w5 (.cells #[.int .i64 24, .int .i64 0, .string ch, .slice none 0 0, .int .i64 T.kind, .int .i64 T.num, .string T.name, .slice aT T.len cT] 25)).trans (hb.mono (by simp)); have R1 := aa (RW.two (A := ax 24 0 ch) (B := T) dQ.out.size (RW.leaf w _ 24 0 ch) RT.out (hb.mono (by simp)) 25 0 ⟨#[112, 117, 116]⟩); have eU := aa (dQ.out.calm ey); clear hb ey)
   |(go_at_call 36; refine (aJ _ _ _ _ _ _).mono ?_; rintro e w7 ⟨rfl, hb⟩; have ey := (bO w6 (.cells #[.int .i64 25, .int .i64 0, .string ⟨#[112, 117, 116]⟩, .slice (some ⟨w5.heap.size, 0, none⟩) 2 2] 25)).trans (hb.mono (by simp)); have RR := aa (RW.one (A := dZ 25 0 ⟨#[112, 117, 116]⟩ (ax 24 0 ch) T) eU.out.size R1.out (hb.mono (by simp)) 13 0 ⟨#[]⟩); have hZ := aa (eU.out.calm ey); obtain ⟨f0, f1, f2, f3, ff⟩ := hZ.out.cells; clear hb ey))
  all_goals
   go_wp2
   refine bodyPost_ret (hZ.out.read Tryz.results62 rfl _ _ _ _) rfl ⟨b8 13 0 ⟨#[]⟩ (dZ 25 0 ⟨#[112, 117, 116]⟩ (ax 24 0 ch) T), .slice (some ⟨w6.heap.size, 0, none⟩) 1 1, rfl, ?_⟩
   exact (hZ.out.fin (P := fun T => T.sOk = true) (C := E) RR.out (bR (by omega) (by omega) (by decide) (e6 (by omega) (by omega) (by decide) (aL (by omega) (by omega) (by omega)) FT.out)) (sG (by omega) rfl (nZ (by decide) (gz qB.out) OT.out)) (by rw [cy, e7, bG]; omega)).more (by omega)
 |clear k_m33_1
  go_region_with (first
   |(go_at_call 85; refine EXd.out.mono ?_; rintro e w5 ⟨T, uT, rfl, dT⟩; obtain ⟨aT, cT, rfl⟩ := bc dT.row; have dQ := aa (eH.out.drew.step dT.src dT.kp); have mw := aa (bU (W := w4.drew) qR.out dr dT.kp); obtain ⟨j0, j1, j2, j3, jf⟩ := aG mw.out; have RT := aa (RW.of_drawn eH.out.drew dT); have FT := aa dT.fine; have OT := aa dT.ok; have jC := dT.cost; have me := Nd.fine_len dT.fine; clear dT; unfold Nd.val)
   |(go_at_call 36; refine (aJ _ _ _ _ _ _).mono ?_; rintro e w6 ⟨rfl, hb⟩; have ey := (bO w5 (.cells #[.int .i64 24, .int .i64 0, .string ch, .slice none 0 0, .int .i64 T.kind, .int .i64 T.num, .string T.name, .slice aT T.len cT] 25)).trans (hb.mono (by simp)); have RR := aa (RW.two (A := ax 24 0 ch) (B := T) dQ.out.size (RW.leaf w _ 24 0 ch) RT.out (hb.mono (by simp)) 8 0 ⟨#[]⟩); have eU := aa (dQ.out.calm ey); obtain ⟨f0, f1, f2, f3, ff⟩ := eU.out.cells; clear hb ey))
  all_goals
   go_wp2
   refine bodyPost_ret (eU.out.read Tryz.results62 rfl _ _ _ _) rfl ⟨dZ 8 0 ⟨#[]⟩ (ax 24 0 ch) T, .slice (some ⟨w5.heap.size, 0, none⟩) 2 2, rfl, ?_⟩
   exact (eU.out.fin (P := fun T => T.sOk = true) (C := E) RR.out (e6 (by omega) (by omega) (by decide) (aL (by omega) (by omega) (by omega)) FT.out) (C8 (gz qB.out) OT.out) (by rw [e7, bG]; omega)).more (by omega)) : G := h
theorem Nb (h : G := by
 have k_m39_0 := kk
 exact SQ) : G := h
theorem SV (h : G := by
 have ey := (bO w7 (.cells #[.int .i64 T.kind, .int .i64 T.num, .string T.name, .slice aT T.len cT] 25)).trans (hb.mono (by simp))
 clear hb
 have hb := ey
 clear ey
 have ot := aa (hZ.out.calm hb)
 have JJ := aa (bm Cc.out hb)
 clear hb hZ Cc
 first
 |clear k_m35_0
  go_wp2_with fail
  refine (aJ _ _ _ _ _ _).mono ?_
  rintro e w9 ⟨rfl, hb⟩
  have RR := aa (RW.one (A := b8 25 0 ⟨#[115, 104, 111, 119]⟩ T) ot.out.size R1.out (hb.mono (by simp)) 14 0 ⟨#[]⟩)
  have ey := (bO w8 (.cells #[.int .i64 25, .int .i64 0, .string ⟨#[115, 104, 111, 119]⟩, .slice (some ⟨w7.heap.size, 0, none⟩) 1 1] 25)).trans (hb.mono (by simp))
  clear hb
  have hb := ey
  clear ey
  have yh := aa (ot.out.calm hb)
  have CB9 := aa (bm JJ.out hb)
  clear hb ot JJ
  clear R1 RT
  have bS : ByteArray.size ⟨#[]⟩ = 0 := by decide
  have pP : ByteArray.size ⟨#[115, 104, 111, 119]⟩ ≤ 10 := by decide
  obtain ⟨f0, f1, f2, f3, ff⟩ := yh.out.cells
  go_wp2
  refine bodyPost_ret (yh.out.read Tryz.results62 rfl _ _ _ _) rfl ⟨b8 14 0 ⟨#[]⟩ (b8 25 0 ⟨#[115, 104, 111, 119]⟩ T), .slice (some ⟨w8.heap.size, 0, none⟩) 1 1, rfl, ?_⟩
  exact (yh.out.fin (P := fun T => T.sOk = true) (C := E) RR.out (bR (by omega) (by omega) (by decide) (bR (by omega) (by omega) (by decide) FT.out)) (sG (by omega) rfl (sh (by decide) OT.out)) (by rw [cy, cy]; omega)).more (by omega)
 |clear k_m35_1
  clear RT
  have bS : ByteArray.size ⟨#[]⟩ = 0 := by decide
  obtain ⟨f0, f1, f2, f3, ff⟩ := ot.out.cells
  go_wp2
  first
  |clear k_m29_0
   refine bodyPost_ret (ot.out.read Tryz.results62 rfl _ _ _ _) rfl ⟨b8 20 0 ⟨#[]⟩ T, .slice (some ⟨w7.heap.size, 0, none⟩) 1 1, rfl, ?_⟩
   exact Tc
  |clear k_m29_1
   refine bodyPost_ret (ot.out.read Tryz.results62 rfl _ _ _ _) rfl ⟨b8 21 0 ⟨#[]⟩ T, .slice (some ⟨w7.heap.size, 0, none⟩) 1 1, rfl, ?_⟩
   exact Tc) : G := h
theorem IV (h : G := by
 have ey := (bO w6 (.cells #[.int .i64 T.kind, .int .i64 T.num, .string T.name, .slice aT T.len cT] 25)).trans (hb.mono (by simp))
 clear hb
 have hb := ey
 clear ey
 have hZ := aa (eU.out.calm hb)
 have Cc := aa (bm tF.out hb)
 clear hb eU tF
 first
 |clear k_m36_0
  go_wp2_with fail
  refine (aJ _ _ _ _ _ _).mono ?_
  rintro e w8 ⟨rfl, hb⟩
  have RR := aa (RW.one (A := b8 25 0 ⟨#[115, 104, 111, 119]⟩ T) hZ.out.size R1.out (hb.mono (by simp)) 14 0 ⟨#[]⟩)
  have ey := (bO w7 (.cells #[.int .i64 25, .int .i64 0, .string ⟨#[115, 104, 111, 119]⟩, .slice (some ⟨w6.heap.size, 0, none⟩) 1 1] 25)).trans (hb.mono (by simp))
  clear hb
  have hb := ey
  clear ey
  have ot := aa (hZ.out.calm hb)
  have JJ := aa (bm Cc.out hb)
  clear hb hZ Cc
  clear R1 RT
  have bS : ByteArray.size ⟨#[]⟩ = 0 := by decide
  have pP : ByteArray.size ⟨#[115, 104, 111, 119]⟩ ≤ 10 := by decide
  obtain ⟨f0, f1, f2, f3, ff⟩ := ot.out.cells
  go_wp2
  refine bodyPost_ret (ot.out.read Tryz.results62 rfl _ _ _ _) rfl ⟨b8 14 0 ⟨#[]⟩ (b8 25 0 ⟨#[115, 104, 111, 119]⟩ T), .slice (some ⟨w7.heap.size, 0, none⟩) 1 1, rfl, ?_⟩
  exact (ot.out.fin (P := fun T => T.sOk = true) (C := E) RR.out (bR (by omega) (by omega) (by decide) (bR (by omega) (by omega) (by decide) FT.out)) (sG (by omega) rfl (sh (by decide) OT.out)) (by rw [cy, cy]; omega)).more (by omega)
 |clear k_m36_1
  clear RT
  have bS : ByteArray.size ⟨#[]⟩ = 0 := by decide
  obtain ⟨f0, f1, f2, f3, ff⟩ := hZ.out.cells
  go_wp2
  first
  |clear k_m30_0
   refine bodyPost_ret (hZ.out.read Tryz.results62 rfl _ _ _ _) rfl ⟨b8 21 0 ⟨#[]⟩ T, .slice (some ⟨w6.heap.size, 0, none⟩) 1 1, rfl, ?_⟩
   exact Ta
  |clear k_m30_1
   refine bodyPost_ret (hZ.out.read Tryz.results62 rfl _ _ _ _) rfl ⟨b8 20 0 ⟨#[]⟩ T, .slice (some ⟨w6.heap.size, 0, none⟩) 1 1, rfl, ?_⟩
   exact Ta) : G := h
theorem SU (h : G := by
 intro a v bS ku cM q6 fr
 obtain ⟨l, hl, hS, bj⟩ := q6
 have hl7 : l.size = 7 := hl
 obtain ⟨v0, sg, gx, ⟨dK, dD⟩, js, hg, gK, rfl⟩ := hS.1.2.2 (getD_in (by omega) (bj 6 (by show 6 < 7; omega)))
 have Fs := aa dK
 first
 |clear k_m37_0
  have RR := aa (yz (A := ax 26 0 ⟨#[]⟩) hg gK (RW.step HRM.out (eU.out) dD) 5 0 sg)
  have k_m31_0 := kk
  exact SY
 |clear k_m37_1
  have RR := aa (yz (A := b8 26 0 ⟨#[]⟩ (ax 22 q ⟨#[]⟩)) hg gK (RW.step HRM.out (BY.out) dD) 5 0 sg)
  have k_m31_1 := kk
  exact SY) : G := h
theorem SR (h : G := by
 have k_m47_0 := kk
 exact IU) : G := h
theorem SQ (h : G := by
 have k_m47_2 := kk
 exact IU) : G := h
theorem SO (h : G := by
 skip
 have k_m46_1 := kk
 exact SG) : G := h
theorem SM (h : G := by
 go_wp2_with fail
 refine (NX.out _ _ (by omega) eH.out 2 (by omega)).mono ?_
 rintro e w5 ⟨q, hq, rfl, hs, hk⟩
 have dQ := aa (eH.out.step hs hk)
 have mw := aa (bU qR.out dr hk)
 clear hs hk eH qR
 first
 |clear k_m41_0
  go_wp2_with fail
  refine (bZ _ _ _ _ _ _ _).mono ?_
  rintro e w6 ⟨rfl, hb⟩
  have eU := aa (dQ.out.calm hb)
  have tF := aa (bm mw.out hb)
  clear hb dQ mw
  obtain ⟨f0, f1, f2, f3, ff⟩ := eU.out.cells
  go_wp2
  refine bodyPost_ret (eU.out.read Tryz.results62 rfl _ _ _ _) rfl ⟨ax 7 (1 - 2 * (q : Int)) num, .slice none 0 0, rfl, ?_⟩
  exact (eU.out.fin (P := fun T => T.sOk = true) (C := E) (RW.leaf w _ 7 (1 - 2 * (q : Int)) num) (aL (by omega) (by omega) (by omega)) (tN (by omega) N1.out) (by rw [bG]; omega)).more (by omega)
 |clear k_m41_1
  rcases (by omega : q = 0 ∨ q = 1) with rfl | rfl
  ·skip
   go_wp2_with fail
   refine (ym.out _ _ (by omega) dQ.out).mono ?_
   exact Td
  ·skip
   go_wp2_with fail
   refine (BC.out _ _ (by omega) dQ.out).mono ?_
   exact Td) : G := h
theorem SJ (h : G := by
 have k_m47_1 := kk
 exact IU) : G := h
theorem Na (h : G := by
 have bK := cR (f := 40) (j := 11) iO.out (by kernel_rfl) cz
 have aM := cR (f := 40) (j := 13) iO.out (by kernel_rfl) cz
 obtain ⟨dK, dD⟩ := HS.out.pre bK
 first
 |clear k_m43_0
  go_simp
  refine (dv sb _ 3 v (by omega) (by omega) dK.src).mono ?_
  rintro e v2 ⟨q2, iH, rfl, hs, hk⟩
  exact cH.out v2 (tt (Wn.of_kp hk J8) bK aM) (HS.out.ask (by omega) (by omega) cz (by decide) (by decide) bK aM hs hk) _ ⟨q2, by omega, rfl⟩ (by decide)
 |clear k_m43_1
  have htu : qF (fun i => if i = 7 then 3 else if i = 9 then 2 * K + 10 else 0) l 14 + (2 * K + 10) ≤ 2 * K + 13 := by have := sA (asks := fun i => if i = 7 then 3 else if i = 9 then 2 * K + 10 else 0) (n := 14) (i := 9) (cG cz) (by omega); rw [jQ] at this; exact this
  have HSV := aa (SC.out _ v dK)
  have iG := dD.size
  clear hx
  go_simp
  refine (qp Cd.out sb _ n q2 (.slice va n vc) loops v (by omega) (by omega) (by omega) dK.src HSV.out).mono ?_
  rintro e v2 ⟨T2, u2, rfl, d2⟩
  obtain ⟨a2, c2, rfl⟩ := bc d2.row
  exact cH.out v2 (tt (Wn.of_kp d2.kp J8) bK aM) (HS.out.ask (by omega) (by omega) cz (by decide) (by decide) bK aM d2.src d2.kp) _ ⟨T2, a2, c2, ⟨d2.fine, d2.ok.1, d2.cost⟩, rfl, bl d2.row iG lr⟩ (by decide)
 |clear k_m43_2
  have OY := aa jH
  have iG := dD.size
  clear hx jH
  go_simp
  exact cH.out _ (tt (Wn.of_calm (bA)) bK aM) (HS.out.calm (by omega) cz (by decide) (by decide) rfl bK aM (bA)) _ ⟨b8 0 0 ⟨#[]⟩ T2, _, _, ⟨T2, D4, rfl⟩, rfl, LV.one iG OY.out⟩ (by decide)) : G := h
theorem M9 (h : G := by
 have k_m47_3 := kk
 exact IU) : G := h
theorem SH (h : G := by
 go_upto_region 12 with fail
 have hNP : ∀ s ∈ ([⟨#[99]⟩, ⟨#[100]⟩] : List ByteArray), vr s := by intro s hs; simp only [List.mem_cons, List.not_mem_nil, or_false] at hs; unfold vr; rcases hs with rfl | rfl <;> decide
 first
 |clear k_m45_0
  have QT := eU.out.low
  have xg : Tryz.prog.follows Departure.mixedOrders = true := by kernel_rfl
  have HRM := aa (RW.leaf w w6 26 0 ⟨#[]⟩)
  have HM := aa (And.intro m0 (And.intro m1 (And.intro m2 m3)))
  clear m0 m1 m2 m3
  refine hH xg (by kernel_rfl) (fun i => (if i < 6 then 63 + i else 300 + i)) (OW (w.heap.size + 1) sb (ax 26 0 ⟨#[]⟩) (.slice none 0 0)) (S12 sb _ w w6 (ax 26 0 ⟨#[]⟩) (.slice none 0 0)) (S12.start (ax 26 0 ⟨#[]⟩) (.slice none 0 0) (eU.out)) ?_ ?_
  ·intro listed a v i hI hr
   have BN : i < 7 := (bo hr).1
   have cz := (bo hr).2
   have hS := hI.s
   have xk : listed.size = 7 := hI.lsize
   have cH := aa (fun (i : Nat) (hi : i < 6) (v' : World) (hw : Wr sb w.heap.size v v') (iZ : S12 sb _ w w6 (ax 26 0 ⟨#[]⟩) (.slice none 0 0) (listed.setIfInBounds i true) v') (x : Value) (hx : OW (w.heap.size + 1) sb (ax 26 0 ⟨#[]⟩) (.slice none 0 0) i v' x) => hI.put1 (w' := v') (fun i j hi hj h => by have : i < 7 := hi; have : j < 7 := hj; have h' : (if i < 6 then 63 + i else 300 + i) = (if j < 6 then 63 + j else 300 + j) := h; split at h' <;> split at h' <;> omega) (i := i) (by show (if i < 6 then 63 + i else 300 + i) < 258; rw [if_pos hi]; omega) (ks hw (by omega) (by omega)) iZ (show i < 7 by omega) hx)
   have qO := aa (fun (v' : World) (hw : Wr sb w.heap.size v v') (h6 : i = 6) (iZ : S12 sb _ w w6 (ax 26 0 ⟨#[]⟩) (.slice none 0 0) (listed.setIfInBounds i true) v') => hI.none (w' := v') (ks hw (by omega) (by omega)) iZ BN (by intro x; subst h6; exact trivial))
   have k_m22_0 := kk
   exact S9
  ·have k_m37_0 := kk
   exact SU
 |clear k_m45_1
  have QT := BY.out.low
  have xg : Tryz.prog.follows Departure.mixedOrders = true := by kernel_rfl
  have HRM := aa (RX.out)
  have HM := aa (And.intro m0 (And.intro m1 (And.intro m2 m3)))
  clear m0 m1 m2 m3
  refine hH xg (by kernel_rfl) (fun i => (if i < 6 then 63 + i else 300 + i)) (OW (w.heap.size + 1) sb (b8 26 0 ⟨#[]⟩ (ax 22 q ⟨#[]⟩)) (.slice (some ⟨g, 0, none⟩) 1 cap)) (S12 sb _ w wc (b8 26 0 ⟨#[]⟩ (ax 22 q ⟨#[]⟩)) (.slice (some ⟨g, 0, none⟩) 1 cap)) (S12.start (b8 26 0 ⟨#[]⟩ (ax 22 q ⟨#[]⟩)) (.slice (some ⟨g, 0, none⟩) 1 cap) (BY.out)) ?_ ?_
  ·intro listed a v i hI hr
   have BN : i < 7 := (bo hr).1
   have cz := (bo hr).2
   have hS := hI.s
   have xk : listed.size = 7 := hI.lsize
   have cH := aa (fun (i : Nat) (hi : i < 6) (v' : World) (hw : Wr sb w.heap.size v v') (iZ : S12 sb _ w wc (b8 26 0 ⟨#[]⟩ (ax 22 q ⟨#[]⟩)) (.slice (some ⟨g, 0, none⟩) 1 cap) (listed.setIfInBounds i true) v') (x : Value) (hx : OW (w.heap.size + 1) sb (b8 26 0 ⟨#[]⟩ (ax 22 q ⟨#[]⟩)) (.slice (some ⟨g, 0, none⟩) 1 cap) i v' x) => hI.put1 (w' := v') (fun i j hi hj h => by have : i < 7 := hi; have : j < 7 := hj; have h' : (if i < 6 then 63 + i else 300 + i) = (if j < 6 then 63 + j else 300 + j) := h; split at h' <;> split at h' <;> omega) (i := i) (by show (if i < 6 then 63 + i else 300 + i) < 258; rw [if_pos hi]; omega) (ks hw (by omega) (by omega)) iZ (show i < 7 by omega) hx)
   have qO := aa (fun (v' : World) (hw : Wr sb w.heap.size v v') (h6 : i = 6) (iZ : S12 sb _ w wc (b8 26 0 ⟨#[]⟩ (ax 22 q ⟨#[]⟩)) (.slice (some ⟨g, 0, none⟩) 1 cap) (listed.setIfInBounds i true) v') => hI.none (w' := v') (ks hw (by omega) (by omega)) iZ BN (by intro x; subst h6; exact trivial))
   have k_m22_1 := kk
   exact S9
  ·have k_m37_1 := kk
   exact SU) : G := h
theorem SG (h : G := by
 go_wp2_with fail
 refine (CH.out _ _ (by omega) eH.out 3 (by omega)).mono ?_
 rintro e w5 ⟨t, rfl, hs, hk⟩
 have dQ := aa (eH.out.step hs hk)
 have mw := aa (bU qR.out dr hk)
 clear hs hk eH qR
 cases t
 first
 |clear k_m46_0
  ·skip
   go_wp2_with fail
   refine (CH.out _ _ (by omega) dQ.out 3 (by omega)).mono ?_
   rintro e w6 ⟨t, rfl, hs, hk⟩
   have eU := aa (dQ.out.step hs hk)
   have tF := aa (bU mw.out dr hk)
   clear hs hk dQ mw
   cases t
   ·exact bm4
   ·have k_m24_1 := kk
    exact S7
  ·skip
   obtain ⟨k0, k1, k2, k3, kf⟩ := aG mw.out
   go_wp2_with fail
   refine (aJ _ _ _ _ _ _).mono ?_
   rintro e w6 ⟨rfl, hb⟩
   have RR := aa (RW.one (A := ax 24 0 ch) dQ.out.size (RW.leaf w _ 24 0 ch) (hb.mono (by simp)) 19 0 ⟨#[]⟩)
   have ey := (bO w5 (.cells #[.int .i64 24, .int .i64 0, .string ch, .slice none 0 0] 25)).trans (hb.mono (by simp))
   clear hb
   have hb := ey
   clear ey
   have eU := aa (dQ.out.calm hb)
   have tF := aa (bm mw.out hb)
   clear hb dQ mw
   clear k0 k1 k2 k3 kf
   have bS : ByteArray.size ⟨#[]⟩ = 0 := by decide
   obtain ⟨f0, f1, f2, f3, ff⟩ := eU.out.cells
   go_wp2
   refine bodyPost_ret (eU.out.read Tryz.results62 rfl _ _ _ _) rfl ⟨b8 19 0 ⟨#[]⟩ (ax 24 0 ch), .slice (some ⟨w5.heap.size, 0, none⟩) 1 1, rfl, ?_⟩
   exact (eU.out.fin (P := fun T => T.sOk = true) (C := E) RR.out (bR (by omega) (by omega) (by decide) (aL (by omega) (by omega) (by omega))) (lI (by omega) (gz qB.out)) (by rw [cy, bG]; omega)).more (by omega)
 |clear k_m46_1
  first
  |clear k_m40_0
   ·exact bm3
   ·have k_m23_1 := kk
    exact S8
  |clear k_m40_1
   ·skip
    go_wp2_with fail
    refine (CH.out _ _ (by omega) dQ.out 6 (by omega)).mono ?_
    rintro e w6 ⟨t, rfl, hs, hk⟩
    have eU := aa (dQ.out.step hs hk)
    have tF := aa (bU mw.out dr hk)
    clear hs hk dQ mw
    cases t
    ·exact bm4
    ·have k_m24_0 := kk
     exact S7
   ·skip
    have hzB := dQ.out.size
    go_wp2_with fail
    refine (NX.out _ _ (by omega) (dQ.out.alloc _) 2 (by omega)).mono ?_
    rintro e w6 ⟨q, hq, rfl, hs, hk⟩
    have nW := dQ.out.low
    have mi : w6.heap[w5.heap.size]? = some (.cells #[.int .i64 17, .int .i64 18] 3 (0, 0)) := (hk.block _ (by simp) (by omega)).trans (heap_alloc_new w5 _)
    have eT : w6.cell? ⟨w5.heap.size, 0, none⟩ = some (.int .i64 17) := by rw [cell_of_row _ _ _ _ _ (0, 0) mi]; rfl
    have ed : w6.cell? ⟨w5.heap.size, 1, none⟩ = some (.int .i64 18) := by rw [cell_of_row _ _ _ _ _ (0, 0) mi]; rfl
    have Rn := (bQ (bO w5 _) (fun k => k = sb)).trans hk (fun _ _ h => h)
    clear hk mi
    have hk := Rn
    clear Rn
    have eU := aa (dQ.out.step hs hk)
    have tF := aa (bU mw.out dr hk)
    clear hs hk dQ mw
    rcases (by omega : q = 0 ∨ q = 1) with rfl | rfl
    ·have k_m32_0 := kk
     exact SX
    ·have k_m32_1 := kk
     exact SX) : G := h
theorem IU (h : G := by
 have bK := cR (f := 40) (j := 15) iO.out (by kernel_rfl) cz
 have aM := cR (f := 40) (j := 15) iO.out (by kernel_rfl) cz
 obtain ⟨dK, dD⟩ := HS.out.pre bK
 first
 |clear k_m47_0
  go_simp
  refine (aJ _ _ _ _ _ _).mono ?_
  rintro e v2 ⟨rfl, hb⟩
  first
  |clear k_m38_0
   exact cH.out v2 (je (Wn.of_calm hb) bK aM) (HS.out.calm (by omega) cz (by decide) (by decide) rfl bK aM hb) _ (TV.node (P := fun _ => True) 5 0 ⟨#[105]⟩ rfl ((Wn.of_calm hb).row HR.out)) (by decide)
  |clear k_m38_1
   exact cH.out v2 (je (Wn.of_calm hb) bK aM) (HS.out.calm (by omega) cz (by decide) (by decide) rfl bK aM hb) _ (TV.node (P := fun _ => True) 28 0 ⟨#[60]⟩ ⟨q2, iH, rfl⟩ ((Wn.of_calm hb).row HR.out)) (by decide)
  |clear k_m38_2
   exact cH.out v2 (je (Wn.of_calm hb) bK aM) (HS.out.calm (by omega) cz (by decide) (by decide) rfl bK aM hb) _ (TV.node (P := fun _ => True) 11 0 ⟨#[]⟩ ⟨q2, iH, rfl⟩ ((Wn.of_calm hb).row HR.out)) (by decide)
  |clear k_m38_3
   exact cH.out v2 (je (Wn.of_calm hb) bK aM) (HS.out.calm (by omega) cz (by decide) (by decide) rfl bK aM hb) _ (TV.node (P := fun _ => True) 4 0 ⟨#[]⟩ ⟨q2, iH, rfl⟩ ((Wn.of_calm hb).row HR.out)) (by decide)
 |clear k_m47_1
  go_simp
  refine (jr _ _).mono ?_
  first
  |clear k_m42_0
   rintro e v2 ⟨rfl, hb⟩
   exact cH.out v2 (je (Wn.of_calm hb) bK aM) (HS.out.calm (by omega) cz (by decide) (by decide) rfl bK aM hb) _ ⟨q2, iH, rfl⟩ (by decide)
  |clear k_m42_1
   exact Tj
 |clear k_m47_2
  have iG : w.heap.size + 1 ≤ v.heap.size := by have := dD.size; omega
  first
  |clear k_m39_0
   go_simp
   first
   |clear k_m34_0
    exact cH.out _ (je (Wn.of_calm (bA)) bK aM) (HS.out.calm (by omega) cz (by decide) (by decide) rfl bK aM (bA)) _ ⟨b8 0 0 ⟨#[]⟩ (ax 22 0 ⟨#[]⟩), _, _, rfl, rfl, LV.one (A := ax 22 0 ⟨#[]⟩) iG (dL _ _ _ _ _ _)⟩ (by decide)
   |clear k_m34_1
    exact cH.out _ (je (Wn.of_calm (bA)) bK aM) (HS.out.calm (by omega) cz (by decide) (by decide) rfl bK aM (bA)) _ ⟨dZ 0 0 ⟨#[]⟩ (ax 24 0 ⟨#[105]⟩) (ax 22 (1 + (q2 : Int)) ⟨#[]⟩), _, _, ⟨q2, iH, rfl⟩, rfl, LV.two (A := ax 24 0 ⟨#[105]⟩) (B := ax 22 (1 + (q2 : Int)) ⟨#[]⟩) iG (dL _ _ _ _ _ _) (dL _ _ _ _ _ _)⟩ (by decide)
   |clear k_m34_2
    exact cH.out _ (je (Wn.of_calm (bA)) bK aM) (HS.out.calm (by omega) cz (by decide) (by decide) rfl bK aM (bA)) _ ⟨dZ 0 0 ⟨#[]⟩ ra (uY q2 (cm cO TB)), _, _, ⟨q2, iH, rfl⟩, rfl, LV.two (A := ra) (B := uY q2 (cm cO TB)) iG OY.out HR.out⟩ (by decide)
  |clear k_m39_1
   have FO := aa (bl (gU RL.out (by omega) lr dD) lr dD.size)
   go_simp
   exact cH.out _ (je (Wn.of_calm (bA)) bK aM) (HS.out.calm (by omega) cz (by decide) (by decide) rfl bK aM (bA)) _ ⟨dZ 0 0 ⟨#[]⟩ (mm q2) (cm cO TB), _, _, ⟨q2, iH, rfl⟩, rfl, LV.two (A := mm q2) (B := cm cO TB) iG HR.out FO.out⟩ (by decide)
 |clear k_m47_3
  first
  |clear k_m44_0
   go_simp
   refine (aJ _ _ _ _ _ _).mono ?_
   exact Tj
  |clear k_m44_1
   go_simp
   refine (dv sb _ 3 v (by omega) (by omega) dK.src).mono ?_
   rintro e v2 ⟨q2, iH, rfl, hs, hk⟩
   exact cH.out v2 (je (Wn.of_kp hk QX) bK aM) (HS.out.ask (by omega) (by omega) cz (by decide) (by decide) bK aM hs hk) _ ⟨q2, by omega, rfl⟩ (by decide)
  |clear k_m44_2
   obtain ⟨z0, z1, z2, z3, zf⟩ := aG (bU Ca.out mH dD)
   clear dK dD
   exact oV) : G := h
theorem CO (deep : Int) (C K M C1 K1 M1 E : Nat) (hE : 4 * C + 1000 ≤ E) (hE1 : C1 ≤ E) (h0 : 0 ≤ deep) (h9 : deep ≤ 100) (hC : C ≤ 100000000) (hK : K ≤ 100000000) (hC1 : C1 ≤ 100000000) (hK1 : K1 ≤ 100000000) (E0 : EXC 1 0 100 100) (E1 : EXC 1 1 300 300) (E2 : EXC 1 2 700 700) (E2B : EXC 2 2 700 700)
  (BD : 0 < deep → JL (deep - 1) C K M) (SL : 0 < deep → SLC deep C1 K1 M1) : VG deep E (4 * K + K1 + 2000) (M + M1 + 3) := by
 intro sb A n v loops w hA hnM h hs
 have HD := aa (DW.start h)
 obtain ⟨va, vc, rfl, _⟩ := id hs
 have iY := bO w eF
 have SC := aa (fun B W (hd : DW sb B w W) => (hs.keep (bQ iY _)).keep hd.kp)
 have PV := aa (fun (typ : Int) B W (hB : B + 3 ≤ 1099511627776) (hd : DW sb B w W) => kU sb B n typ (.slice va n vc) W hB hd.src (SC.out B W hd))
 have CH := aa (fun B W (hB : B + 3 ≤ 1099511627776) (hd : DW sb B w W) (k : Nat) (hk : k ≤ 100) => mN sb B k W hB (by omega) hd.src)
 have NX := aa (fun B W (hB : B + 3 ≤ 1099511627776) (hd : DW sb B w W) (k : Nat) (hk : k ≤ 100) => dv sb B k W hB (by omega) hd.src)
 have JC := aa (fun B W (hB : B + 100 ≤ 1099511627776) (hd : DW sb B w W) => E0 sb B n (.slice va n vc) W hB hd.src (SC.out B W hd))
 have tx := aa (fun B W (hB : B + 300 ≤ 1099511627776) (hd : DW sb B w W) => E1 sb B n (.slice va n vc) W hB hd.src (SC.out B W hd))
 have ym := aa (fun B W (hB : B + 700 ≤ 1099511627776) (hd : DW sb B w W) => E2 sb B n (.slice va n vc) W hB hd.src (SC.out B W hd))
 have BC := aa (fun B W (hB : B + 700 ≤ 1099511627776) (hd : DW sb B w W) => E2B sb B n (.slice va n vc) W hB hd.src (SC.out B W hd))
 unfold eF at *
 clear h iY E0 E1 E2 E2B
 go_enter Tryz.func62, Tryz.ntmps62
 go_wp2_with fail
 refine (PV.out 3 _ _ (by omega) HD.out).mono ?_
 rintro e w1 ⟨ch, isChan, dc, rfl, az, iI⟩
 have mr := aa (HD.out.step az iI)
 have Fm := aa dc
 clear az iI HD dc
 go_wp2_with fail
 refine (PV.out 1 _ _ (by omega) mr.out).mono ?_
 rintro e w2 ⟨num, isInt, dc, rfl, az, iI⟩
 have jI := aa (mr.out.step az iI)
 have HNI := aa dc
 clear az iI mr dc
 go_wp2_with fail
 refine (aJ _ _ _ _ _ _).mono ?_
 rintro e w3 ⟨rfl, hb⟩
 have gj := aa (jI.out.calm hb)
 have hzC := gj.out.size
 have hlC := gj.out.low
 have dr : w3.heap.size ≠ sb := by omega
 clear hb jI
 go_wp2_with fail
 refine (NX.out _ _ (by omega) (gj.out.alloc _) 16 (by omega)).mono ?_
 rintro e w4 ⟨r, hr, rfl, az, iI⟩
 have qR : Hid (w4.heap[w3.heap.size]? = some (gH 24 0 ch none 0 0)) := bU (heap_alloc_new w3 _) dr iI
 have eH := aa ((gj.out.alloc _).step az iI)
 clear az iI gj
 rcases (by omega : r = 0 ∨ r = 1 ∨ r = 2 ∨ r = 3 ∨ r = 4 ∨ r = 5 ∨ r = 6 ∨ r = 7 ∨ r = 8 ∨ r = 9 ∨ r = 10 ∨ r = 11 ∨ r = 12 ∨ r = 13 ∨ r = 14 ∨ r = 15) with rfl | rfl | rfl | rfl | rfl | rfl | rfl | rfl | rfl | rfl | rfl | rfl | rfl | rfl | rfl | rfl
 ·exact bm1
 ·exact bm1
 ·skip
  go_wp2_with fail
  refine (bZ _ _ _ _ _ _ _).mono ?_
  rintro e w5 ⟨rfl, hb⟩
  have hzM := (eH.out.calm hb).size
  have vM := aa ((eH.out.calm hb).alloc (.cells #[.int .i64 26, .int .i64 0, .string ⟨#[]⟩, .slice none 0 0] 25))
  clear hb eH qR
  go_wp2_with fail
  refine (CH.out _ _ (by omega) vM.out 2 (by omega)).mono ?_
  rintro e w6 ⟨t, rfl, hs, hk⟩
  have eU := aa (vM.out.step hs hk)
  have hz : w5.heap.size + 1 ≤ w6.heap.size := by have := hk.size; simpa using this
  have nW := vM.out.low
  have AX : ¬ w5.heap.size = sb := by omega
  have mi : w6.heap[w5.heap.size]? = some (gH 26 0 ⟨#[]⟩ none 0 0) := (hk.block _ (by simp) AX).trans (heap_alloc_new w5 _)
  obtain ⟨m0, m1, m2, m3, mf⟩ := aG mi
  have hblN := mi
  clear hs hk vM mi JC tx ym BC BD SL
  have bS : ByteArray.size ⟨#[]⟩ = 0 := by decide
  cases t
  ·skip
   have k_m45_0 := kk
   exact SH
  ·skip
   have NXd := aa (dv sb _ 3 w6.drew (by omega) (by omega) eU.out.drew.src)
   have mf3 := mf 3
   clear mf
   have bI := jz
   obtain ⟨i0, ke, nn, eZ, ec⟩ := info_parts uy
   go_upto_region 11 with fail
   go_cut [] from 55 (fun wx => ∃ (q cap g : Nat), q < 3 ∧ Ap sb (A + 3 + 3 + 3 + 3 + 3) w wx w5.heap.size 26 0 ⟨#[]⟩ (ax 22 q ⟨#[]⟩) (.slice (some ⟨g, 0, none⟩) 1 cap))
   case first =>
    refine hH bI (by kernel_rfl) (fun i => 55 + i) (V11 sb w5.heap.size) (Jf sb w5.heap.size (A + 3 + 3 + 3 + 3) w) ?_ ?_ ?_
    ·exact ⟨eU.out.drew, fun _ => hblN, fun h => by simp at h⟩
    ·intro listed a v i hI hr
     have hi : i < 9 := (bo hr).1
     have cz := (bo hr).2
     have hS := hI.s
     have xk : listed.size = 9 := hI.lsize
     have Dk : i < 8 → listed.getD 8 false = false := by
      intro h8
      cases e : listed.getD 8 false with
      |false => rfl
      |true => have := pa ((hS.2.2 e).1 i h8); rw [cz] at this; cases this
     have cH := aa (fun (i : Nat) (hi : i < 9) (v' : World) (hw : Wr sb w5.heap.size v v') (x : Value) (hx : V11 sb w5.heap.size i v' x) (iZ : Jf sb w5.heap.size (A + 3 + 3 + 3 + 3) w (listed.setIfInBounds i true) v') => hI.put (fun i j _ _ h => by omega) (fun i hi => by show 55 + i < 258; have : i < 9 := hi; omega) (qy hw (by omega)) iZ hi hx)
     have qO := aa (fun (v' : World) (hw : Wr sb w5.heap.size v v') (h8 : i = 8) (iZ : Jf sb w5.heap.size (A + 3 + 3 + 3 + 3) w (listed.setIfInBounds i true) v') => hI.none (qy hw (by omega)) iZ hi (by intro x; subst h8; exact trivial))
     have bJ := aa (fun (j : Nat) (hj : j < 9) (hl : listed.getD j false = true) => hI.vals j hj (pa hl))
     have bq := aa (fun o (ho : _ = some o) => dM hr (o := o) ho)
     have e14 := ae (hI.keep 14 (by intro i hi; have : i < 9 := hi; omega))
     have e0 := ae (hI.keep 0 (by intro i hi; have : i < 9 := hi; omega))
     clear hI hr
     rcases (by omega : i = 0 ∨ i = 1 ∨ i = 2 ∨ i = 3 ∨ i = 4 ∨ i = 5 ∨ i = 6 ∨ i = 7 ∨ i = 8) with rfl | rfl | rfl | rfl | rfl | rfl | rfl | rfl | rfl
     all_goals (refine fN rfl rfl ?_)
     ·go_simp
      exact cH.out 0 (by omega) v (Wr.of_calm (Below.refl _ _)) _ rfl (jg hS (by omega) (by omega) (Dk (by omega)) (Below.refl _ _))
     ·have h55 := ae (show a.eval (.tmp 55) = .pointer (some ⟨w5.heap.size, 3, none⟩) from bJ.out 0 (by omega) (bq.out _ rfl ⟨0, Ground.data⟩ (by simp) rfl))
      obtain ⟨z0, z1, z2, z3, zf⟩ := aG (hS.2.1 (Dk (by omega)))
      go_simp
      exact cH.out 1 (by omega) v (Wr.of_calm (Below.refl _ _)) _ rfl (jg hS (by omega) (by omega) (Dk (by omega)) (Below.refl _ _))
     ·go_simp
      exact cH.out 2 (by omega) v (Wr.of_calm (Below.refl _ _)) _ rfl (jg hS (by omega) (by omega) (Dk (by omega)) (Below.refl _ _))
     ·have h57 := ae (show a.eval (.tmp 57) = .pointer (some ⟨sb, 0, none⟩) from bJ.out 2 (by omega) (bq.out _ rfl ⟨2, Ground.data⟩ (by simp) rfl))
      have dK := hS.1
      rw [if_neg (by rw [cG cz]; simp)] at dK
      go_simp
      refine (dv sb _ 3 v (by omega) (by omega) dK.src).mono ?_
      rintro e v2 ⟨q, hq, rfl, hs, hk⟩
      exact cH.out 3 (by omega) v2 (Wr.of_kp hk) _ ⟨q, by omega, rfl⟩ (Ff hS (by omega) (Dk (by omega)) hs hk AX)
     ·obtain ⟨q, hq, hx⟩ : ∃ q : Nat, q < 3 ∧ a.eval (.tmp 58) = .int .i64 (q : Int) := bJ.out 3 (by omega) (bq.out _ rfl ⟨3, Ground.data⟩ (by simp) rfl)
      have h58 := ae hx
      go_simp
      refine (jr _ _).mono ?_
      rintro e v2 ⟨rfl, hb⟩
      exact cH.out 4 (by omega) v2 (Wr.of_calm hb) _ ⟨q, hq, rfl⟩ (jg hS (by omega) (by omega) (Dk (by omega)) hb)
     ·obtain ⟨q, hq, hx⟩ : ∃ q : Nat, q < 3 ∧ a.eval (.tmp 59) = .agg #[.int .i64 22, .int .i64 (q : Int), .string ⟨#[]⟩, .slice none 0 0] := bJ.out 4 (by omega) (bq.out _ rfl ⟨4, Ground.data⟩ (by simp) rfl)
      have h59 := ae hx
      have mh := (Array.getElem?_eq_some_iff.1 (hS.2.1 (Dk (by omega)))).1
      go_simp
      exact cH.out 5 (by omega) _ (Wr.of_calm (bA)) _ ⟨v.heap.size, q, hq, mh, rfl, heap_alloc_new v _⟩ (jg hS (by omega) (by omega) (Dk (by omega)) (bA))
     ·have h56 : a.eval (.tmp 56) = .slice none 0 0 := bJ.out 1 (by omega) (bq.out _ rfl ⟨1, Ground.data⟩ (by simp) rfl)
      obtain ⟨g, q, hq, hbg, h60, gK⟩ : ∃ g q : Nat, q < 3 ∧ w5.heap.size < g ∧ a.eval (.tmp 60) = .slice (some ⟨g, 0, none⟩) 1 1 ∧ v.heap[g]? = some (gH 22 q ⟨#[]⟩ none 0 0) := bJ.out 5 (by omega) (bq.out _ rfl ⟨5, Ground.data⟩ (by simp) rfl)
      have mh := (Array.getElem?_eq_some_iff.1 (hS.2.1 (Dk (by omega)))).1
      have fk := run_append_nil (P := Tryz.prog) v 23 23 25 i0 _ Tryz.underlying23 ke nn ⟨g, 0, none⟩ 1 1 [.int .i64 22, .int .i64 (q : Int), .string ⟨#[]⟩, .slice none 0 0] (by rw [eZ]; rfl) (Dm gK) (by omega) (by omega) (by rw [ec]; omega)
      refine jW rfl h56 h60 fk ?_
      have MD : 1 ≤ grownCap v 1 0 25 ∧ grownCap v 1 0 25 ≤ 9223372036854775807 := MU v
      rcases Ja (b := w5.heap.size) (g := 0) (q := q) (v := v) (by omega) MD with dO | e
      ·exact cH.out 6 (by omega) _ (Wr.of_calm (((Below.refl _ _).drew).alloc lr _)) _ ⟨v.heap.size, _, q, hq, MD, mh, rfl, dO⟩ (jg hS (by omega) (by omega) (Dk (by omega)) (((Below.refl _ _).drew).alloc lr _))
      ·omega
     ·go_simp
      exact cH.out 7 (by omega) v (Wr.of_calm (Below.refl _ _)) _ rfl (jg hS (by omega) (by omega) (Dk (by omega)) (Below.refl _ _))
     ·have h62 := ae (show a.eval (.tmp 62) = .pointer (some ⟨w5.heap.size, 3, none⟩) from bJ.out 7 (by omega) (bq.out _ rfl ⟨7, Ground.data⟩ (by simp) rfl))
      obtain ⟨g, cap, q, hq, hc, hbg, hx, dO⟩ : ∃ g cap q : Nat, q < 3 ∧ (1 ≤ cap ∧ cap ≤ 9223372036854775807) ∧ w5.heap.size < g ∧ a.eval (.tmp 61) = .slice (some ⟨g, 0, none⟩) 1 cap ∧ Row (w5.heap.size + 1) v.heap.size v (b8 26 0 ⟨#[]⟩ (ax 22 q ⟨#[]⟩)) (a.eval (.tmp 61)) := bJ.out 6 (by omega) (bq.out _ rfl ⟨6, Ground.data⟩ (by simp) rfl)
      have h61 := ae hx
      rw [hx] at dO
      have h8 := cG cz
      obtain ⟨z0, z1, z2, z3, zf⟩ := aG (hS.2.1 h8)
      have KV := zf 3
      have bj : ∀ i, i < 8 → listed.getD i false = true := by
       intro i hi
       rcases (by omega : i = 0 ∨ i = 1 ∨ i = 2 ∨ i = 3 ∨ i = 4 ∨ i = 5 ∨ i = 6 ∨ i = 7) with rfl | rfl | rfl | rfl | rfl | rfl | rfl | rfl
       ·exact bq.out _ rfl ⟨0, Ground.phase⟩ (by simp) rfl
       ·exact bq.out _ rfl ⟨1, Ground.phase⟩ (by simp) rfl
       ·exact bq.out _ rfl ⟨2, Ground.phase⟩ (by simp) rfl
       ·exact bq.out _ rfl ⟨3, Ground.phase⟩ (by simp) rfl
       ·exact bq.out _ rfl ⟨4, Ground.phase⟩ (by simp) rfl
       ·exact bq.out _ rfl ⟨5, Ground.phase⟩ (by simp) rfl
       ·exact bq.out _ rfl ⟨6, Ground.data⟩ (by simp) rfl
       ·exact bq.out _ rfl ⟨7, Ground.data⟩ (by simp) rfl
      go_simp
      exact qO.out _ (Wr.of_set _ _ _ _ _) rfl (Bw hS (by omega) bj h8 (by omega) hq dO)
    ·intro a v bS ku cM q6 fr
     obtain ⟨l, hl, hS, bj⟩ := q6
     have hl9 : l.size = 9 := hl
     obtain ⟨_, q, g, cap, hq, hAp⟩ := hS.2.2 (getD_in (by omega) (bj 8 (by show 8 < 9; omega)))
     have HAp := aa hAp
     have ha := fB (d := fun i => 55 + i) (n := 9) bS ku cM
     generalize (fun i => a.eval (.tmp ((fun i => 55 + i) i))) = f at ha
     clear bS ku cM fr hS bj hAp hl hl9
     subst ha
     simp only [iE, Act.put, Nat.reduceAdd, List.setIfInBounds_toArray, List.set_cons_succ, List.set_cons_zero]
     go_wp2_with fail
     go_meet
     case rel => exact ⟨q, cap, g, hq, HAp.out⟩
   case rest =>
    obtain ⟨q, cap, g, hq, hX⟩ := hcut
    have HX := aa hX
    clear hX m0 m1 m2 m3 mf3 NXd eU ke nn eZ ec
    obtain ⟨m0, m1, m2, m3⟩ := And.intro HX.out.c0 (And.intro HX.out.c1 (And.intro HX.out.c2 HX.out.c3))
    have BY := aa HX.out.dw
    have RX := aa HX.out.row
    clear HX
    have k_m45_1 := kk
    exact SH
 ·skip
  cases isInt
  ·exact IW
  ·have xe := HNI.out (by trivial)
   have QN := ei xe
   have N1 := aa xe
   clear xe HNI
   go_wp2_with fail
   refine (ym.out _ _ (by omega) eH.out).mono ?_
   have k_m28_0 := kk
   exact S3
 ·skip
  cases isInt
  ·exact IW
  ·have xe := HNI.out (by trivial)
   have QN := ei xe
   have N1 := aa xe
   clear xe HNI
   have k_m41_0 := kk
   exact SM
 ·exact bm0
 ·exact bm0
 ·skip
  cases isChan
  ·exact IW
  ·have k_m33_0 := kk
   exact SW
 ·skip
  cases isChan
  ·exact IW
  ·have kb := Fm.out (by trivial)
   have Hw := ei kb
   have qB := aa kb
   clear kb Fm
   go_wp2_with fail
   obtain ⟨k0, k1, k2, k3, kf⟩ := aG qR.out
   have EXd := aa (JC.out _ w4.drew (by omega) eH.out.drew)
   have bS : ByteArray.size ⟨#[]⟩ = 0 := by decide
   have pP : ByteArray.size ⟨#[119, 111, 114, 107]⟩ ≤ 10 := by decide
   go_region_with (first
    |(go_at_call 85; refine EXd.out.mono ?_; rintro e w5 ⟨T, uT, rfl, dT⟩; obtain ⟨aT, cT, rfl⟩ := bc dT.row; have dQ := aa (eH.out.drew.step dT.src dT.kp); have mw := aa (bU (W := w4.drew) qR.out dr dT.kp); obtain ⟨j0, j1, j2, j3, jf⟩ := aG mw.out; have RT := aa (RW.of_drawn eH.out.drew dT); have FT := aa dT.fine; have OT := aa dT.ok; have jC := dT.cost; have me := Nd.fine_len dT.fine; clear dT; unfold Nd.val)
    |(go_at_call 55; refine (lq _ _ _ _ _).mono ?_; rintro e w6 ⟨rfl, hb⟩; have ey := (bO w5 (.cells #[.int .i64 24, .int .i64 0, .string ch, .slice none 0 0, .int .i64 T.kind, .int .i64 T.num, .string T.name, .slice aT T.len cT] 25)).trans (hb.mono (by simp)); have R1 := aa (RW.two (A := ax 24 0 ch) (B := T) dQ.out.size (RW.leaf w _ 24 0 ch) RT.out (hb.mono (by simp)) 25 0 ⟨#[119, 111, 114, 107]⟩); have eU := aa (dQ.out.calm ey); clear hb ey)
    |(go_at_call 36; refine (aJ _ _ _ _ _ _).mono ?_; rintro e w7 ⟨rfl, hb⟩; have ey := (bO w6 (.cells #[.int .i64 25, .int .i64 0, .string ⟨#[119, 111, 114, 107]⟩, .slice (some ⟨w5.heap.size, 0, none⟩) 2 2] 25)).trans (hb.mono (by simp)); have RR := aa (RW.one (A := dZ 25 0 ⟨#[119, 111, 114, 107]⟩ (ax 24 0 ch) T) eU.out.size R1.out (hb.mono (by simp)) 13 0 ⟨#[]⟩); have hZ := aa (eU.out.calm ey); obtain ⟨f0, f1, f2, f3, ff⟩ := hZ.out.cells; clear hb ey))
   all_goals
    go_wp2
    refine bodyPost_ret (hZ.out.read Tryz.results62 rfl _ _ _ _) rfl ⟨b8 13 0 ⟨#[]⟩ (dZ 25 0 ⟨#[119, 111, 114, 107]⟩ (ax 24 0 ch) T), .slice (some ⟨w6.heap.size, 0, none⟩) 1 1, rfl, ?_⟩
    exact (hZ.out.fin (P := fun T => T.sOk = true) (C := E) RR.out (bR (by omega) (by omega) (by decide) (e6 (by omega) (by omega) (by decide) (aL (by omega) (by omega) (by omega)) FT.out)) (sG (by omega) rfl (nZ (by decide) (gz qB.out) OT.out)) (by rw [cy, e7, bG]; omega)).more (by omega)
 ·skip
  cases isChan
  ·exact IW
  ·have kb := Fm.out (by trivial)
   have Hw := ei kb
   have qB := aa kb
   clear kb Fm
   obtain ⟨k0, k1, k2, k3, kf⟩ := aG qR.out
   go_wp2_with fail
   refine (aJ _ _ _ _ _ _).mono ?_
   rintro e w5 ⟨rfl, hb⟩
   have R1 := aa (RW.one (A := ax 24 0 ch) eH.out.size (RW.leaf w _ 24 0 ch) (hb.mono (by simp)) 29 0 ⟨#[]⟩)
   have ey := (bO w4 (.cells #[.int .i64 24, .int .i64 0, .string ch, .slice none 0 0] 25)).trans (hb.mono (by simp))
   clear hb
   have hb := ey
   clear ey
   have dQ := aa (eH.out.calm hb)
   have mw := aa (bm qR.out hb)
   clear hb eH qR
   clear k0 k1 k2 k3 kf
   go_wp2_with fail
   refine (aJ _ _ _ _ _ _).mono ?_
   rintro e w6 ⟨rfl, hb⟩
   have RR := aa (RW.one (A := b8 29 0 ⟨#[]⟩ (ax 24 0 ch)) dQ.out.size R1.out (hb.mono (by simp)) 20 0 ⟨#[]⟩)
   have ey := (bO w5 (.cells #[.int .i64 29, .int .i64 0, .string ⟨#[]⟩, .slice (some ⟨w4.heap.size, 0, none⟩) 1 1] 25)).trans (hb.mono (by simp))
   clear hb
   have hb := ey
   clear ey
   have eU := aa (dQ.out.calm hb)
   have tF := aa (bm mw.out hb)
   clear hb dQ mw
   clear R1
   have bS : ByteArray.size ⟨#[]⟩ = 0 := by decide
   obtain ⟨f0, f1, f2, f3, ff⟩ := eU.out.cells
   go_wp2
   refine bodyPost_ret (eU.out.read Tryz.results62 rfl _ _ _ _) rfl ⟨b8 20 0 ⟨#[]⟩ (b8 29 0 ⟨#[]⟩ (ax 24 0 ch)), .slice (some ⟨w5.heap.size, 0, none⟩) 1 1, rfl, ?_⟩
   exact (eU.out.fin (P := fun T => T.sOk = true) (C := E) RR.out (bR (by omega) (by omega) (by decide) (bR (by omega) (by omega) (by decide) (aL (by omega) (by omega) (by omega)))) (lI (by omega) (vd (gz qB.out))) (by rw [cy, cy, bG]; omega)).more (by omega)
 ·skip
  rcases (by omega : deep = 0 ∨ 0 < deep) with rfl | MC
  ·exact IW
  ·have DQ : IntKind.i64.wrap (deep - 1) = deep - 1 := fM (by omega) (by omega)
   have Cd := aa (BD MC)
   have Mt : Tryz.prog.follows Departure.mixedOrders = true := by kernel_rfl
   go_wp2_with fail
   refine (BC.out _ _ (by omega) eH.out).mono ?_
   rintro e wA ⟨TA, uA, rfl, dA⟩
   obtain ⟨aA, cA, rfl⟩ := bc dA.row
   have vM := aa (eH.out.step dA.src dA.kp)
   have RA := aa dA.row
   have PA : Hid (TA.Fine ∧ TA.eOk = true ∧ TA.cost ≤ 700) := ⟨dA.fine, dA.ok, dA.cost⟩
   have H7 := Nd.fine_len dA.fine
   have hsA := eH.out.size
   have hzA := dA.kp.size
   clear dA eH qR JC tx ym SL PV
   unfold Nd.val
   go_wp2_with fail
   refine (NX.out _ _ (by omega) vM.out 3 (by omega)).mono ?_
   rintro e wB ⟨q, hq, rfl, hs, hk⟩
   have V1 := aa (vM.out.step hs hk)
   have RA2 := aa (gU RA.out (by have := vM.out.low; omega) lr hk)
   have hzB := hk.size
   clear hs hk vM RA
   go_wp2_with fail
   refine (qp Cd.out sb _ n q (.slice va n vc) loops wB (by omega) (by omega) (by omega) V1.out.src (SC.out _ wB V1.out)).mono ?_
   rintro e wC ⟨TB, uB, rfl, dB⟩
   obtain ⟨aB, cB, rfl⟩ := bc dB.row
   have Pf := aa (V1.out.step dB.src dB.kp)
   have hsC := Pf.out.size
   have hzC := dB.kp.size
   have RA3 := aa (gU RA2.out (by have := V1.out.low; omega) (by omega) dB.kp)
   have RB := aa dB.row
   have PB : Hid (hG (2 * C) TB) := ⟨dB.fine, dB.ok.1, dB.cost⟩
   have OE := Nd.fine_len dB.fine
   clear dB V1 RA2
   unfold Nd.val
   go_wp2_with fail
   refine (aJ _ _ _ _ _ _).mono ?_
   rintro e wD ⟨rfl, hb⟩
   have GW := aa (Gw.two (B := w.heap.size + 1) RA3.out RB.out ⟨by omega, by omega, by omega⟩ ⟨by omega, by omega, by omega⟩ (by omega) (hb.mono (by simp)))
   have ey := (bO wC (.cells #[.int .i64 TA.kind, .int .i64 TA.num, .string TA.name, .slice aA TA.len cA, .int .i64 TB.kind, .int .i64 TB.num, .string TB.name, .slice aB TB.len cB] 25)).trans (hb.mono (by simp))
   have HDD := aa (Pf.out.calm ey)
   have hzD := hb.size
   simp only [World.size_alloc] at hzD
   have hIF : Hid (VI 2 (2 * C) (l8 (fun _ => TB) 0 TA)) := ⟨by rw [cV]; exact PA.out, fun i h1 h2 => by rw [dz _ _ (by omega)]; exact PB.out⟩
   have hlow10 := Pf.out.low
   clear hb ey Pf RA3 RB PA
   have tD := aa (HDD.out.alloc (gH 10 0 ⟨#[]⟩ (some ⟨wC.heap.size, 0, none⟩) 2 2))
   have GWE := aa (GW.out.calm (bO wD (gH 10 0 ⟨#[]⟩ (some ⟨wC.heap.size, 0, none⟩) 2 2)))
   go_wp2_with fail
   refine (CH.out _ _ (by omega) tD.out 2 (by omega)).mono ?_
   rintro e wF ⟨t, rfl, hs, hk⟩
   have BZ := aa (tD.out.step hs hk)
   have mH : wD.heap.size ≠ sb := by omega
   have cJ : Hid (wF.heap[wD.heap.size]? = some (gH 10 0 ⟨#[]⟩ (some ⟨wC.heap.size, 0, none⟩) 2 2)) := bU (heap_alloc_new wD _) mH hk
   have GWF := aa (GWE.out.kp (sb := sb) (by omega) hk)
   have hzF : wD.heap.size + 1 ≤ wF.heap.size := by have := hk.size; simpa [gH] using this
   clear hs hk tD HDD GW GWE
   obtain ⟨o36, f36, c36⟩ := yv (k := 0) (s := ⟨#[]⟩) (.inl rfl) hIF.out
   have H36 := aa (And.intro o36 (And.intro f36 c36))
   clear o36 f36 c36
   cases t
   ·obtain ⟨m0, m1, m2, m3, mf⟩ := aG cJ.out
    obtain ⟨f0, f1, f2, f3, ff⟩ := BZ.out.cells
    go_wp2
    refine bodyPost_ret (BZ.out.read Tryz.results62 rfl _ _ _ _) rfl ⟨.mk 10 0 ⟨#[]⟩ 2 (l8 (fun _ => TB) 0 TA), _, rfl, ?_⟩
    exact (BZ.out.fin (P := fun T => T.sOk = true) (C := E) (GWF.out.row lr 10 0 ⟨#[]⟩) H36.out.2.1 H36.out.1 (by have := H36.out.2.2; omega)).more (by omega)
   ·go_upto_region 36 with fail
    have jQ : aw (fun i => if i = 7 then 3 else if i = 9 then 2 * K + 10 else 0) 14 = 2 * K + 13 := by simp [aw]; omega
    have J8 : sb < wF.heap.size := by omega
    refine cS Mt (by kernel_rfl) tE (Fe sb wD.heap.size wF.heap.size (w.heap.size + 1) (2 * C) n (some ⟨wC.heap.size, 0, none⟩) va 2 vc deep loops) (GS sb (A + 3 + 3 + 3 + 700 + 3 + (2 * K + 10) + 3) (fun i => if i = 7 then 3 else if i = 9 then 2 * K + 10 else 0) 14 11 13 w wF (wD.heap.size) (F36 sb (A + 3 + 3 + 3 + 700 + 3 + (2 * K + 10) + 3 + (2 * K + 13)) (w.heap.size + 1) wD.heap.size (2 * C) w)) (GS.start _ BZ.out) ?_ ?_
    ·intro l a v i hI hr
     have BN : i < 14 := (bo hr).1
     have cz := (bo hr).2
     have xk : l.size = 14 := hI.lsize
     have HS := aa hI.s
     have mG := iP (fun i => if i = 7 then 3 else if i = 9 then 2 * K + 10 else 0) l 14
     rw [jQ] at mG
     have iO := aa hI.shut
     have cH := aa (fun (v' : World) (hw : ∀ jj x, l.getD jj false = true → Fe sb wD.heap.size wF.heap.size (w.heap.size + 1) (2 * C) n (some ⟨wC.heap.size, 0, none⟩) va 2 vc deep loops jj v x → Fe sb wD.heap.size wF.heap.size (w.heap.size + 1) (2 * C) n (some ⟨wC.heap.size, 0, none⟩) va 2 vc deep loops jj v' x) (iZ : GS sb (A + 3 + 3 + 3 + 700 + 3 + (2 * K + 10) + 3) (fun i => if i = 7 then 3 else if i = 9 then 2 * K + 10 else 0) 14 11 13 w wF (wD.heap.size) (F36 sb (A + 3 + 3 + 3 + 700 + 3 + (2 * K + 10) + 3 + (2 * K + 13)) (w.heap.size + 1) wD.heap.size (2 * C) w) (l.setIfInBounds i true) v') (x : Value) (hx : Fe sb wD.heap.size wF.heap.size (w.heap.size + 1) (2 * C) n (some ⟨wC.heap.size, 0, none⟩) va 2 vc deep loops i v' x) (bS : tE i < 258) => hI.put JI hr bS hw iZ hx)
     have qO := aa (fun (v' : World) (hw : ∀ jj x, l.getD jj false = true → Fe sb wD.heap.size wF.heap.size (w.heap.size + 1) (2 * C) n (some ⟨wC.heap.size, 0, none⟩) va 2 vc deep loops jj v x → Fe sb wD.heap.size wF.heap.size (w.heap.size + 1) (2 * C) n (some ⟨wC.heap.size, 0, none⟩) va 2 vc deep loops jj v' x) (iZ : GS sb (A + 3 + 3 + 3 + 700 + 3 + (2 * K + 10) + 3) (fun i => if i = 7 then 3 else if i = 9 then 2 * K + 10 else 0) 14 11 13 w wF (wD.heap.size) (F36 sb (A + 3 + 3 + 3 + 700 + 3 + (2 * K + 10) + 3 + (2 * K + 13)) (w.heap.size + 1) wD.heap.size (2 * C) w) (l.setIfInBounds i true) v') (hx : ∀ x, Fe sb wD.heap.size wF.heap.size (w.heap.size + 1) (2 * C) n (some ⟨wC.heap.size, 0, none⟩) va 2 vc deep loops i v' x) => hI.none hr hw iZ hx)
     have bJ := aa (fun (j : Nat) (hj : j < 14) (hl : l.getD j false = true) => hI.vals j hj hl)
     have bq := aa (fun o (ho : _ = some o) => dM hr (o := o) ho)
     have s0 : a.tmps[0]?.getD undef = .pointer (some ⟨sb, 0, none⟩) := ae (hI.keep 0 (by intro i hi; have h2 : i < 14 := hi; show 0 ≠ tE i; have : ((List.range 14).all fun i => decide (tE i ≠ 0)) = true := (by decide); have h3 := List.all_eq_true.1 this i (List.mem_range.2 h2); simp at h3; exact fun e => h3 e.symm))
     have s1 : a.tmps[1]?.getD undef = .slice va n vc := ae (hI.keep 1 (by intro i hi; have h2 : i < 14 := hi; show 1 ≠ tE i; have : ((List.range 14).all fun i => decide (tE i ≠ 1)) = true := (by decide); have h3 := List.all_eq_true.1 this i (List.mem_range.2 h2); simp at h3; exact fun e => h3 e.symm))
     have s2 : a.tmps[2]?.getD undef = .int .i64 deep := ae (hI.keep 2 (by intro i hi; have h2 : i < 14 := hi; show 2 ≠ tE i; have : ((List.range 14).all fun i => decide (tE i ≠ 2)) = true := (by decide); have h3 := List.all_eq_true.1 this i (List.mem_range.2 h2); simp at h3; exact fun e => h3 e.symm))
     have s3 : a.tmps[3]?.getD undef = .bool loops := ae (hI.keep 3 (by intro i hi; have h2 : i < 14 := hi; show 3 ≠ tE i; have : ((List.range 14).all fun i => decide (tE i ≠ 3)) = true := (by decide); have h3 := List.all_eq_true.1 this i (List.mem_range.2 h2); simp at h3; exact fun e => h3 e.symm))
     have s15 : a.tmps[15]?.getD undef = .pointer (some ⟨wD.heap.size, 0, none⟩) := ae (hI.keep 15 (by intro i hi; have h2 : i < 14 := hi; show 15 ≠ tE i; have : ((List.range 14).all fun i => decide (tE i ≠ 15)) = true := (by decide); have h3 := List.all_eq_true.1 this i (List.mem_range.2 h2); simp at h3; exact fun e => h3 e.symm))
     clear hI hr
     rcases (by omega : i = 0 ∨ i = 1 ∨ i = 2 ∨ i = 3 ∨ i = 4 ∨ i = 5 ∨ i = 6 ∨ i = 7 ∨ i = 8 ∨ i = 9 ∨ i = 10 ∨ i = 11 ∨ i = 12 ∨ i = 13) with rfl | rfl | rfl | rfl | rfl | rfl | rfl | rfl | rfl | rfl | rfl | rfl | rfl | rfl
     all_goals (refine fN rfl rfl ?_)
     ·exact oV
     ·have h146 := ae (show a.eval (.tmp 146) = .pointer (some ⟨wD.heap.size, 3, none⟩) from bJ.out 0 (by omega) (bq.out _ rfl ⟨0, Ground.data⟩ (by simp) rfl))
      have bK := cR (f := 40) (j := 11) iO.out (by kernel_rfl) cz
      have aM := cR (f := 40) (j := 13) iO.out (by kernel_rfl) cz
      exact Tk
     ·exact oV
     ·exact oV
     ·exact oV
     ·have h150 := ae (show a.eval (.tmp 150) = .int .i64 deep from bJ.out 4 (by omega) (bq.out _ rfl ⟨4, Ground.data⟩ (by simp) rfl))
      exact oV
     ·exact oV
     ·have h152 := ae (show a.eval (.tmp 152) = .pointer (some ⟨sb, 0, none⟩) from bJ.out 6 (by omega) (bq.out _ rfl ⟨6, Ground.data⟩ (by simp) rfl))
      have k_m43_0 := kk
      exact Na
     ·exact oV
     ·have h148 := ae (show a.eval (.tmp 148) = .pointer (some ⟨sb, 0, none⟩) from bJ.out 2 (by omega) (bq.out _ rfl ⟨2, Ground.data⟩ (by simp) rfl))
      have h149 := ae (show a.eval (.tmp 149) = .slice va n vc from bJ.out 3 (by omega) (bq.out _ rfl ⟨3, Ground.data⟩ (by simp) rfl))
      have h151 := ae (show a.eval (.tmp 151) = .int .i64 (deep - 1) from bJ.out 5 (by omega) (bq.out _ rfl ⟨5, Ground.data⟩ (by simp) rfl))
      obtain ⟨q2, iH, hx⟩ : ∃ q : Nat, q < 3 ∧ a.eval (.tmp 153) = .int .i64 (q : Int) := bJ.out 7 (by omega) (bq.out _ rfl ⟨7, Ground.data⟩ (by simp) rfl)
      have h153 := ae hx
      have h154 := ae (show a.eval (.tmp 154) = .bool loops from bJ.out 8 (by omega) (bq.out _ rfl ⟨8, Ground.data⟩ (by simp) rfl))
      have k_m43_1 := kk
      exact Na
     ·obtain ⟨T2, a2, c2, D4, hx, jH⟩ : TV wF.heap.size (hG (2 * C)) v (a.eval (.tmp 155)) := bJ.out 9 (by omega) (bq.out _ rfl ⟨9, Ground.data⟩ (by simp) rfl)
      have h155 := ae hx
      unfold Nd.val at h155
      have k_m43_2 := kk
      exact Na
     ·have h147 : a.eval (.tmp 147) = .slice (some ⟨wC.heap.size, 0, none⟩) 2 2 := bJ.out 1 (by omega) (bq.out _ rfl ⟨1, Ground.data⟩ (by simp) rfl)
      obtain ⟨T3, a3, c3, ⟨A3, yK, rfl⟩, hx, DU⟩ : LV wF.heap.size (fun T => ∃ A, hG (2 * C) A ∧ T = b8 0 0 ⟨#[]⟩ A) v (a.eval (.tmp 156)) := bJ.out 10 (by omega) (bq.out _ rfl ⟨10, Ground.data⟩ (by simp) rfl)
      have bK := cG cz
      have aM := cR (f := 40) (j := 13) iO.out (by kernel_rfl) cz
      obtain ⟨dK, dD⟩ := HS.out.pre bK
      have iG := dD.size
      obtain ⟨aj, cj, v2, vs, fk, fO, aX, fy⟩ := jc (GWF.out.kp (sb := sb) (by omega) dD) DU (by omega) (by omega) iG lr (fun g hg => .inl (by simp [Value.ownBlock] at hg; omega)) (by show 2 + 1 ≤ _; omega)
      refine jW rfl h147 hx (fk _) ?_
      refine cH.out v2 (tt (Wn.of_grown aX (fun k hk => by simp [Value.ownBlock] at hk; omega)) bK aM) (HS.out.join (by omega) cz (by decide) aM (by omega) mH aX (fun k hk => by simp [Value.ownBlock] at hk; omega)) _ ⟨_, _, _, _, aj, cj, rfl, fO, ⟨?_, fun i h1 h2 => ?_⟩, ?_, fun i hi => ?_⟩ (by decide)
      ·rw [bw _ _ (by omega)]; exact hIF.out.1
      ·by_cases h3 : i < 2
       ·rw [bw _ _ h3]; exact hIF.out.2 i h1 h3
       ·rw [b5 _ _ (by omega)]; exact yK
      ·rcases fy with e | ⟨k, e, hk⟩
       ·have e3 : (Value.slice aj 3 cj).ownBlock = (Value.slice (some ⟨wC.heap.size, 0, none⟩) 2 2).ownBlock := e
        rw [e3]; simp [Value.ownBlock]; omega
       ·have e3 : (Value.slice aj 3 cj).ownBlock = some k := e
        rw [e3]; intro h; have := Option.some.inj h; omega
      ·by_cases h3 : i < 2
       ·rw [bw _ _ h3, bw _ _ h3]; right; have := (GWF.out.apart i h3 wC.heap.size rfl); rcases (by omega : i = 0 ∨ i = 1) with rfl | rfl
        ·rw [cV]; omega
        ·rw [dz _ _ (by omega)]; omega
       ·rw [b5 _ _ (by omega), b5 _ _ (by omega)]; left; omega
     ·exact oV
     ·have h158 := ae (show a.eval (.tmp 158) = .pointer (some ⟨wD.heap.size, 3, none⟩) from bJ.out 12 (by omega) (bq.out _ rfl ⟨12, Ground.data⟩ (by simp) rfl))
      obtain ⟨Ts, us, s2, e2, a2, c2, hx, fO, hP, uN, vD⟩ : AV (w.heap.size + 1) wD.heap.size 3 (VI 3 (2 * C)) v (a.eval (.tmp 157)) := bJ.out 11 (by omega) (bq.out _ rfl ⟨11, Ground.data⟩ (by simp) rfl)
      have h157 := ae hx
      have Rk : l.getD 11 false = true := bq.out _ rfl ⟨11, Ground.data⟩ (by simp) rfl
      obtain ⟨dK, gP⟩ := HS.out.mid Rk (cG cz)
      rw [jQ] at dK
      have mh := gP.trans cJ.out
      obtain ⟨z0, z1, z2, z3, zf⟩ := aG mh
      have KV := zf 3
      have HF36 : Hid (F36 sb (A + 3 + 3 + 3 + 700 + 3 + (2 * K + 10) + 3 + (2 * K + 13)) (w.heap.size + 1) wD.heap.size (2 * C) w (v.setCell ⟨wD.heap.size, 3, none⟩ (.slice a2 3 c2))) := ⟨dK.put _ _ _ (by omega), Ts, us, s2, e2, a2, c2, (heap_setCell_same v wD.heap.size 3 _ 25 (.slice a2 3 c2) mh).trans rfl, fO.put uN vD, hP⟩
      clear hx dK gP mh fO zf
      go_simp
      exact qO.out _ (fun j x _ hx => NL (by omega) j x hx) (GS.store (by omega) (.inr Rk) HF36.out) (fun _ => trivial)
    ·intro a v bS ku cM q6 fr
     obtain ⟨l, hS, bj⟩ := q6
     have HF := aa (hS.fin (bj 13 (by decide)))
     rw [fB (n := 14) bS ku cM]
     generalize (fun i => a.eval (.tmp (tE i))) = ff
     clear bS ku cM fr hS bj
     simp only [iE, Act.put, tE, List.getD_cons_zero, List.getD_cons_succ, List.setIfInBounds_toArray, List.set_cons_succ, List.set_cons_zero, List.set_nil]
     obtain ⟨dK, Ts, us, s2, e2, a2, c2, fC, fO, hP⟩ := HF.out
     have Fs := aa dK
     have HGq := aa fO
     obtain ⟨o3, f3', c3'⟩ := yv (k := 0) (s := ⟨#[]⟩) (.inr rfl) hP
     have H37 := aa (And.intro o3 (And.intro f3' c3'))
     obtain ⟨m0, m1, m2, m3, mf⟩ := aG fC
     obtain ⟨f0, f1, f2, f3, ff'⟩ := Fs.out.cells
     clear dK fO HF fC hP o3 f3' c3' cJ GWF BZ
     go_wp2
     refine bodyPost_ret (Fs.out.read Tryz.results62 rfl _ _ _ _) rfl ⟨.mk 10 0 ⟨#[]⟩ 3 Ts, _, rfl, ?_⟩
     exact (Fs.out.fin (P := fun T => T.sOk = true) (C := E) (HGq.out.row lr 10 0 ⟨#[]⟩) H37.out.2.1 H37.out.1 (by have := H37.out.2.2; omega)).more (by omega)
 ·skip
  rcases (by omega : deep = 0 ∨ 0 < deep) with rfl | MC
  ·exact IW
  ·have DQ : IntKind.i64.wrap (deep - 1) = deep - 1 := fM (by omega) (by omega)
   have SLX := aa (fun B W (hB : B + K1 ≤ 1099511627776) (hd : DW sb B w W) => SL MC sb B n (.slice va n vc) loops W hB (by omega) hd.src (SC.out B W hd))
   go_wp2_with fail
   refine (SLX.out _ _ (by omega) eH.out).mono ?_
   have k_m28_1 := kk
   exact S3
 ·skip
  cases isChan
  ·have k_m40_0 := kk
   exact SO
  ·have kb := Fm.out (by trivial)
   have Hw := ei kb
   have qB := aa kb
   clear kb Fm
   have k_m46_0 := kk
   exact SG
 ·skip
  cases loops
  ·skip
   go_wp2_with fail
   refine (CH.out _ _ (by omega) eH.out 6 (by omega)).mono ?_
   rintro e w5 ⟨t, rfl, hs, hk⟩
   have dQ := aa (eH.out.step hs hk)
   have mw := aa (bU qR.out dr hk)
   clear hs hk eH qR
   cases t
   ·exact bm3
   ·have k_m23_0 := kk
    exact S8
  ·have k_m40_1 := kk
   exact SO
 ·skip
  rcases (by omega : deep = 0 ∨ 0 < deep) with rfl | MC
  ·exact IW
  ·have DQ : IntKind.i64.wrap (deep - 1) = deep - 1 := fM (by omega) (by omega)
   go_wp2_with fail
   refine (CH.out _ _ (by omega) eH.out 2 (by omega)).mono ?_
   rintro e w5 ⟨t, rfl, hs, hk⟩
   have dQ := aa (eH.out.step hs hk)
   have mw := aa (bU qR.out dr hk)
   clear hs hk eH qR
   cases t
   ·exact bm3
   ·skip
    have Cd := aa (BD MC)
    have Ed : Tryz.prog.follows Departure.mixedOrders = true := by kernel_rfl
    obtain ⟨iv, Mx, wU, wT, wS⟩ := info_parts sQ
    obtain ⟨v3, w3, fk, pQ, hb3⟩ := oj (B := w5.heap.size) (SC.out _ _ dQ.out) lr
    obtain ⟨a3, c3, rfl⟩ := pQ.shape
    obtain ⟨f3, uK, D7⟩ := id pQ
    have qz := aa fk
    have V2 := aa (dQ.out.calm hb3)
    have hszk := dQ.out.size
    have hlowk := dQ.out.low
    have hz3x := hb3.size
    have Fg := aa uK
    have KK := aa pQ
    clear fk pQ hb3 dQ mw JC tx ym BC SL PV uK
    go_wp2_with (first
     |(at_builtin; refine fq _ rfl _ _ 49 rfl _ _ _ _ rfl rfl qz.out ?_; clear qz)
     |(at_builtin; refine bd _ rfl _ _ 49 rfl w5.heap.size 92 iv (.agg #[.string ⟨#[]⟩, .int .i64 0, .int .i64 0]) 3 32 Tryz.underlying49 Mx wU wT wS rfl (by decide) _ n _ rfl (Fg.out.alloc _) ⟨w3.heap.size, 0, none⟩ 1 1 [.string ⟨#[105]⟩, .int .i64 1, .int .i64 0] rfl rfl (lD _ _ _ _ _) (mW _ _ _) (by unfold maxLen; omega) (by omega) (by simp; omega) ?_; intro v4 wI uJ pU Ee DS; obtain ⟨aI, cI, rL⟩ := DS.out; subst rL)
     |(go_at_call 34; fail))
    have VF := aa (sC (t := 1) D7 (show aR ⟨#[105]⟩ = true by decide) uJ.out)
    have HDI := aa ((V2.out.alloc (.cells #[.string ⟨#[105]⟩, .int .i64 1, .int .i64 0] 92)).grown pU.out (fun g hg => by have := (KK.out.lt g hg).1; omega))
    have QN := HDI.out.size
    clear uJ pU Ee DS V2 KK Fg D7
    refine (NX.out _ _ (by omega) HDI.out 3 (by omega)).mono ?_
    rintro e wX ⟨q, hq, rfl, hs, hk⟩
    have BY := aa (HDI.out.step hs hk)
    have VE := aa (VF.out.kp (sb := sb) (by omega) hk)
    clear hs hk HDI VF
    go_wp2_with fail
    refine (qp Cd.out sb _ (n + 1) q (.slice aI (n + 1) cI) true wX (by omega) (by omega) (by omega) BY.out.src (VE.out.scp (by omega) (by omega))).mono ?_
    rintro e wY ⟨TB, uB, rfl, dB⟩
    obtain ⟨aB, cB, rfl⟩ := bc dB.row
    have KR := aa (BY.out.step dB.src dB.kp)
    have hsX := BY.out.size
    have QC := dB.kp.size
    have RB := aa (ah (bO wY (gH TB.kind TB.num TB.name aB TB.len cB)) lr dB.row)
    have PB : Hid (hG (2 * C) TB) := ⟨dB.fine, dB.ok.1, dB.cost⟩
    have OE := Nd.fine_len dB.fine
    have Rh : TB.len ≤ 2 := dB.ok.2
    clear dB BY VE
    unfold Nd.val
    obtain ⟨wE, yG⟩ : ∃ W, wY.alloc (gH TB.kind TB.num TB.name aB TB.len cB) = W := ⟨_, rfl⟩
    have tD := aa (KR.out.alloc (gH TB.kind TB.num TB.name aB TB.len cB))
    have cJ := aa (heap_alloc_new wY (gH TB.kind TB.num TB.name aB TB.len cB))
    have hzE : wY.heap.size + 1 ≤ wE.heap.size := by rw [← yG]; simp
    rw [yG] at tD cJ RB
    have KM := aa yG
    clear yG KR
    have mH : wY.heap.size ≠ sb := by omega
    go_upto_region 55 with fail
    rw [show (wY.alloc (Obj.cells #[.int .i64 TB.kind, .int .i64 TB.num, .string TB.name, .slice aB TB.len cB] 25)) = wE from KM.out]
    clear KM
    have jQ : aw (fun _ => 0) 7 = 0 := by simp [aw]
    refine cS Ed (by kernel_rfl) FY (Fc wY.heap.size wE.heap.size (w.heap.size + 1) aB TB cB) (GS sb (A + 3 + 3 + 3 + 3 + 3 + (2 * K + 10)) (fun _ => 0) 7 4 6 w wE (wY.heap.size) (F55 sb (A + 3 + 3 + 3 + 3 + 3 + (2 * K + 10)) (w.heap.size + 1) wY.heap.size cO TB w)) (GS.start _ tD.out) ?_ ?_
    ·intro l a v i hI hr
     have BN : i < 7 := (bo hr).1
     have cz := (bo hr).2
     have xk : l.size = 7 := hI.lsize
     have HS := aa hI.s
     have iO := aa hI.shut
     have cH := aa (fun (v' : World) (hw : ∀ jj x, l.getD jj false = true → Fc wY.heap.size wE.heap.size (w.heap.size + 1) aB TB cB jj v x → Fc wY.heap.size wE.heap.size (w.heap.size + 1) aB TB cB jj v' x) (iZ : GS sb (A + 3 + 3 + 3 + 3 + 3 + (2 * K + 10)) (fun _ => 0) 7 4 6 w wE (wY.heap.size) (F55 sb (A + 3 + 3 + 3 + 3 + 3 + (2 * K + 10)) (w.heap.size + 1) wY.heap.size cO TB w) (l.setIfInBounds i true) v') (x : Value) (hx : Fc wY.heap.size wE.heap.size (w.heap.size + 1) aB TB cB i v' x) (bS : FY i < 258) => hI.put JH hr bS hw iZ hx)
     have qO := aa (fun (v' : World) (hw : ∀ jj x, l.getD jj false = true → Fc wY.heap.size wE.heap.size (w.heap.size + 1) aB TB cB jj v x → Fc wY.heap.size wE.heap.size (w.heap.size + 1) aB TB cB jj v' x) (iZ : GS sb (A + 3 + 3 + 3 + 3 + 3 + (2 * K + 10)) (fun _ => 0) 7 4 6 w wE (wY.heap.size) (F55 sb (A + 3 + 3 + 3 + 3 + 3 + (2 * K + 10)) (w.heap.size + 1) wY.heap.size cO TB w) (l.setIfInBounds i true) v') (hx : ∀ x, Fc wY.heap.size wE.heap.size (w.heap.size + 1) aB TB cB i v' x) => hI.none hr hw iZ hx)
     have bJ := aa (fun (j : Nat) (hj : j < 7) (hl : l.getD j false = true) => hI.vals j hj hl)
     have bq := aa (fun o (ho : _ = some o) => dM hr (o := o) ho)
     have s17 : a.tmps[17]?.getD undef = .pointer (some ⟨wY.heap.size, 0, none⟩) := ae (hI.keep 17 (by intro i hi; have h2 : i < 7 := hi; show 17 ≠ FY i; have : ((List.range 7).all fun i => decide (FY i ≠ 17)) = true := (by decide); have h3 := List.all_eq_true.1 this i (List.mem_range.2 h2); simp at h3; exact fun e => h3 e.symm))
     clear hI hr
     rcases (by omega : i = 0 ∨ i = 1 ∨ i = 2 ∨ i = 3 ∨ i = 4 ∨ i = 5 ∨ i = 6) with rfl | rfl | rfl | rfl | rfl | rfl | rfl
     all_goals (refine fN rfl rfl ?_)
     ·have bK := cR (f := 40) (j := 4) iO.out (by kernel_rfl) cz
      have aM := cR (f := 40) (j := 6) iO.out (by kernel_rfl) cz
      obtain ⟨dK, dD⟩ := HS.out.pre bK
      go_simp
      refine (bZ _ _ _ _ _ _ _).mono ?_
      rintro e v2 ⟨rfl, hb⟩
      exact cH.out v2 (xU (Wn.of_calm hb) bK aM) (HS.out.calm (by omega) cz (by decide) (by decide) rfl bK aM hb) _ rfl (by decide)
     ·have h229 := ae (show a.eval (.tmp 229) = .agg #[.int .i64 7, .int .i64 1, .string ⟨#[105]⟩, .slice none 0 0] from bJ.out 0 (by omega) (bq.out _ rfl ⟨0, Ground.data⟩ (by simp) rfl))
      have bK := cR (f := 40) (j := 4) iO.out (by kernel_rfl) cz
      have aM := cR (f := 40) (j := 6) iO.out (by kernel_rfl) cz
      obtain ⟨dK, dD⟩ := HS.out.pre bK
      have iG := dD.size
      go_simp
      exact cH.out _ (xU (Wn.of_calm (bA)) bK aM) (HS.out.calm (by omega) cz (by decide) (by decide) rfl bK aM (bA)) _ (GV.new (A := cO) rfl iG (dL _ _ _ _ _ _)) (by decide)
     ·exact oV
     ·have h231 := ae (show a.eval (.tmp 231) = .pointer (some ⟨wY.heap.size, 3, none⟩) from bJ.out 2 (by omega) (bq.out _ rfl ⟨2, Ground.data⟩ (by simp) rfl))
      have bK := cR (f := 40) (j := 4) iO.out (by kernel_rfl) cz
      have aM := cR (f := 40) (j := 6) iO.out (by kernel_rfl) cz
      exact Tk
     ·obtain ⟨A3, u3, g3, rfl, mg, hx, Ic⟩ : GV wE.heap.size (fun A => A = cO) v (a.eval (.tmp 230)) := bJ.out 1 (by omega) (bq.out _ rfl ⟨1, Ground.data⟩ (by simp) rfl)
      have h232 : a.eval (.tmp 232) = .slice aB TB.len cB := bJ.out 3 (by omega) (bq.out _ rfl ⟨3, Ground.data⟩ (by simp) rfl)
      have bK := cG cz
      have aM := cR (f := 40) (j := 6) iO.out (by kernel_rfl) cz
      obtain ⟨dK, dD⟩ := HS.out.pre bK
      have iG := dD.size
      obtain ⟨aj, cj, v2, vs, fk, fO, aX, fy⟩ := jc (Ic.weak (show w.heap.size + 1 ≤ wE.heap.size by omega)) (gU RB.out (by omega) (by omega) dD) (by omega) (by omega) QC (by omega) (fun g hg => .inr (by simp [Value.ownBlock] at hg; omega)) (by omega)
      have pW := qs Ic (gU RB.out (by omega) (by omega) dD) (by omega) fk
      refine jW rfl hx h232 (fk _) ?_
      refine cH.out v2 (xU (Wn.of_calm pW) bK aM) (HS.out.join (by omega) cz (by decide) aM (by omega) mH aX (fun k hk => by simp [Value.ownBlock] at hk; omega)) _ ⟨_, _, _, _, aj, cj, rfl, fO, rfl, ?_, fun i hi => ?_⟩ (by decide)
      ·rcases fy with e | ⟨k, e, hk⟩
       ·rw [e]; simp [Value.ownBlock]; omega
       ·rw [e]; intro h; have := Option.some.inj h; omega
      ·by_cases h3 : i < 1
       ·rw [bw _ _ h3, bw _ _ h3]; left; omega
       ·rw [b5 _ _ (by omega), b5 _ _ (by omega)]; right; omega
     ·exact oV
     ·have h234 := ae (show a.eval (.tmp 234) = .pointer (some ⟨wY.heap.size, 3, none⟩) from bJ.out 5 (by omega) (bq.out _ rfl ⟨5, Ground.data⟩ (by simp) rfl))
      obtain ⟨Ts, us, s2, e2, a2, c2, hx, fO, rfl, uN, vD⟩ : AV (w.heap.size + 1) wY.heap.size (1 + TB.len) (fun Ts => Ts = dg (fun _ => cO) 1 TB.kids) v (a.eval (.tmp 233)) := bJ.out 4 (by omega) (bq.out _ rfl ⟨4, Ground.data⟩ (by simp) rfl)
      have h233 := ae hx
      have FF : l.getD 4 false = true := bq.out _ rfl ⟨4, Ground.data⟩ (by simp) rfl
      obtain ⟨dK, gP⟩ := HS.out.mid FF (cG cz)
      rw [jQ] at dK
      have mh := gP.trans cJ.out
      obtain ⟨z0, z1, z2, z3, zf⟩ := aG mh
      have KV := zf 3
      have HF55 : Hid (F55 sb (A + 3 + 3 + 3 + 3 + 3 + (2 * K + 10)) (w.heap.size + 1) wY.heap.size cO TB w (v.setCell ⟨wY.heap.size, 3, none⟩ (.slice a2 (1 + TB.len) c2))) := ⟨dK.put _ _ _ (by omega), us, s2, e2, a2, c2, (heap_setCell_same v wY.heap.size 3 _ 25 (.slice a2 (1 + TB.len) c2) mh).trans rfl, fO.put uN vD⟩
      clear hx dK gP mh fO zf
      go_simp
      exact qO.out _ (fun j x _ hx => NK (by omega) j x hx) (GS.store (by omega) (.inr FF) HF55.out) (fun _ => trivial)
    ·intro a v bS ku cM q6 fr
     obtain ⟨l, hS, bj⟩ := q6
     have HF := aa (hS.fin (bj 6 (by decide)))
     rw [fB (n := 7) bS ku cM]
     generalize (fun i => a.eval (.tmp (FY i))) = ff
     clear bS ku cM fr hS bj
     simp only [iE, Act.put, FY, List.getD_cons_zero, List.getD_cons_succ, List.setIfInBounds_toArray, List.set_cons_succ, List.set_cons_zero, List.set_nil]
     obtain ⟨dK, us, s2, e2, la, lc, fC, fO⟩ := HF.out
     have HDG := aa dK
     have RL : Hid (Row (w.heap.size + 1) v.heap.size v (cm cO TB) (.slice la (1 + TB.len) lc)) := fO.row lr TB.kind TB.num TB.name
     have Ca := aa fC
     have QD := (Array.getElem?_eq_some_iff.1 fC).1
     obtain ⟨wG, J3⟩ : ∃ W, W = v := ⟨_, rfl⟩
     rw [← J3] at HDG RL Ca QD ⊢
     clear dK fO HF fC cJ tD RB J3
     have QR : aw (fun i => if i = 5 then 3 else 0) 16 = 3 := by simp [aw]
     have QX : sb < w.heap.size + 1 := by omega
     have Hv := HDG.out.size
     go_upto_region 56 with fail
     refine cS Ed (by kernel_rfl) zA (Fb sb (w.heap.size + 1) la (cm cO TB) lc) (GS sb (A + 3 + 3 + 3 + 3 + 3 + (2 * K + 10)) (fun i => if i = 5 then 3 else 0) 16 15 15 w wG (0) (F56 sb (A + 3 + 3 + 3 + 3 + 3 + (2 * K + 10) + 3) (cm cO TB) w)) (GS.start _ HDG.out) ?_ ?_
     ·intro l a v i hI hr
      have BN : i < 16 := (bo hr).1
      have cz := (bo hr).2
      have xk : l.size = 16 := hI.lsize
      have HS := aa hI.s
      have mG := iP (fun i => if i = 5 then 3 else 0) l 16
      rw [QR] at mG
      have iO := aa hI.shut
      have cH := aa (fun (v' : World) (hw : ∀ jj x, l.getD jj false = true → Fb sb (w.heap.size + 1) la (cm cO TB) lc jj v x → Fb sb (w.heap.size + 1) la (cm cO TB) lc jj v' x) (iZ : GS sb (A + 3 + 3 + 3 + 3 + 3 + (2 * K + 10)) (fun i => if i = 5 then 3 else 0) 16 15 15 w wG (0) (F56 sb (A + 3 + 3 + 3 + 3 + 3 + (2 * K + 10) + 3) (cm cO TB) w) (l.setIfInBounds i true) v') (x : Value) (hx : Fb sb (w.heap.size + 1) la (cm cO TB) lc i v' x) (bS : zA i < 258) => hI.put JG hr bS hw iZ hx)
      have qO := aa (fun (v' : World) (hw : ∀ jj x, l.getD jj false = true → Fb sb (w.heap.size + 1) la (cm cO TB) lc jj v x → Fb sb (w.heap.size + 1) la (cm cO TB) lc jj v' x) (iZ : GS sb (A + 3 + 3 + 3 + 3 + 3 + (2 * K + 10)) (fun i => if i = 5 then 3 else 0) 16 15 15 w wG (0) (F56 sb (A + 3 + 3 + 3 + 3 + 3 + (2 * K + 10) + 3) (cm cO TB) w) (l.setIfInBounds i true) v') (hx : ∀ x, Fb sb (w.heap.size + 1) la (cm cO TB) lc i v' x) => hI.none hr hw iZ hx)
      have bJ := aa (fun (j : Nat) (hj : j < 16) (hl : l.getD j false = true) => hI.vals j hj hl)
      have bq := aa (fun o (ho : _ = some o) => dM hr (o := o) ho)
      have s0 : a.tmps[0]?.getD undef = .pointer (some ⟨sb, 0, none⟩) := ae (hI.keep 0 (by intro i hi; have h2 : i < 16 := hi; show 0 ≠ zA i; have : ((List.range 16).all fun i => decide (zA i ≠ 0)) = true := (by decide); have h3 := List.all_eq_true.1 this i (List.mem_range.2 h2); simp at h3; exact fun e => h3 e.symm))
      have s8 : a.tmps[8]?.getD undef = .pointer (some ⟨w.heap.size, 0, none⟩) := ae (hI.keep 8 (by intro i hi; have h2 : i < 16 := hi; show 8 ≠ zA i; have : ((List.range 16).all fun i => decide (zA i ≠ 8)) = true := (by decide); have h3 := List.all_eq_true.1 this i (List.mem_range.2 h2); simp at h3; exact fun e => h3 e.symm))
      have s17 : a.tmps[17]?.getD undef = .pointer (some ⟨wY.heap.size, 0, none⟩) := ae (hI.keep 17 (by intro i hi; have h2 : i < 16 := hi; show 17 ≠ zA i; have : ((List.range 16).all fun i => decide (zA i ≠ 17)) = true := (by decide); have h3 := List.all_eq_true.1 this i (List.mem_range.2 h2); simp at h3; exact fun e => h3 e.symm))
      clear hI hr
      rcases (by omega : i = 0 ∨ i = 1 ∨ i = 2 ∨ i = 3 ∨ i = 4 ∨ i = 5 ∨ i = 6 ∨ i = 7 ∨ i = 8 ∨ i = 9 ∨ i = 10 ∨ i = 11 ∨ i = 12 ∨ i = 13 ∨ i = 14 ∨ i = 15) with rfl | rfl | rfl | rfl | rfl | rfl | rfl | rfl | rfl | rfl | rfl | rfl | rfl | rfl | rfl | rfl
      all_goals (refine fN rfl rfl ?_)
      ·have k_m42_1 := kk
       exact SJ
      ·have h235 := ae (show a.eval (.tmp 235) = .agg #[.int .i64 22, .int .i64 0, .string ⟨#[]⟩, .slice none 0 0] from bJ.out 0 (by omega) (bq.out _ rfl ⟨0, Ground.data⟩ (by simp) rfl))
       have k_m34_0 := kk
       exact Nb
      ·obtain ⟨T1, a1, c1, yL, dJ, fG⟩ : LV (w.heap.size + 1) (fun T => T = b8 0 0 ⟨#[]⟩ (ax 22 0 ⟨#[]⟩)) v (a.eval (.tmp 236)) := bJ.out 1 (by omega) (bq.out _ rfl ⟨1, Ground.data⟩ (by simp) rfl)
       subst yL
       have h236 := ae dJ
       have HR := aa fG
       clear dJ fG
       have k_m38_0 := kk
       exact SR
      ·have k_m44_0 := kk
       exact M9
      ·exact oV
      ·have h239 := ae (show a.eval (.tmp 239) = .pointer (some ⟨sb, 0, none⟩) from bJ.out 4 (by omega) (bq.out _ rfl ⟨4, Ground.data⟩ (by simp) rfl))
       have k_m44_1 := kk
       exact M9
      ·obtain ⟨q2, iH, hx⟩ : ∃ q : Nat, q < 3 ∧ a.eval (.tmp 240) = .int .i64 (q : Int) := bJ.out 5 (by omega) (bq.out _ rfl ⟨5, Ground.data⟩ (by simp) rfl)
       have h240 := ae hx
       have hwq : IntKind.i64.wrap (1 + (q2 : Int)) = 1 + (q2 : Int) := fM (by omega) (by omega)
       clear hx
       go_simp
       exact cH.out v (fun _ _ _ h => h) (HS.out.same (by omega) cz (by decide) (by decide) rfl) _ ⟨q2, iH, rfl⟩ (by decide)
      ·obtain ⟨q2, iH, hx⟩ : ∃ q : Nat, q < 3 ∧ a.eval (.tmp 241) = .int .i64 (1 + (q : Int)) := bJ.out 6 (by omega) (bq.out _ rfl ⟨6, Ground.data⟩ (by simp) rfl)
       have h241 := ae hx
       clear hx
       have k_m42_0 := kk
       exact SJ
      ·have h238 := ae (show a.eval (.tmp 238) = .agg #[.int .i64 24, .int .i64 0, .string ⟨#[105]⟩, .slice none 0 0] from bJ.out 3 (by omega) (bq.out _ rfl ⟨3, Ground.data⟩ (by simp) rfl))
       obtain ⟨q2, iH, hx⟩ : ∃ q : Nat, q < 3 ∧ a.eval (.tmp 242) = .agg #[.int .i64 22, .int .i64 (1 + (q : Int)), .string ⟨#[]⟩, .slice none 0 0] := bJ.out 7 (by omega) (bq.out _ rfl ⟨7, Ground.data⟩ (by simp) rfl)
       have h242 := ae hx
       clear hx
       have k_m34_1 := kk
       exact Nb
      ·obtain ⟨T8, a8, c8, hp8, hx8, hr8⟩ : LV (w.heap.size + 1) (fun T => ∃ q : Nat, q < 3 ∧ T = dZ 0 0 ⟨#[]⟩ (ax 24 0 ⟨#[105]⟩) (ax 22 (1 + (q : Int)) ⟨#[]⟩)) v (a.eval (.tmp 243)) := bJ.out 8 (by omega) (bq.out _ rfl ⟨8, Ground.data⟩ (by simp) rfl)
       obtain ⟨q2, iH, rfl⟩ := hp8
       have h243 := ae hx8
       have HR := aa hr8
       clear hx8 hr8
       have k_m38_1 := kk
       exact SR
      ·have k_m44_2 := kk
       exact M9
      ·obtain ⟨T9, a9, c9, hp9, QF, Mg⟩ : TV (w.heap.size + 1) (fun T => ∃ q : Nat, q < 3 ∧ T = mm q) v (a.eval (.tmp 244)) := bJ.out 9 (by omega) (bq.out _ rfl ⟨9, Ground.data⟩ (by simp) rfl)
       obtain ⟨q2, iH, rfl⟩ := hp9
       have h244 := ae QF
       have HR := aa Mg
       have h245 := ae (show a.eval (.tmp 245) = .agg #[.int .i64 TB.kind, .int .i64 TB.num, .string TB.name, .slice la (1 + TB.len) lc] from bJ.out 10 (by omega) (bq.out _ rfl ⟨10, Ground.data⟩ (by simp) rfl))
       unfold Nd.val at h244
       clear QF Mg
       have k_m39_1 := kk
       exact SQ
      ·obtain ⟨T11, a11, gB, Mo, DP, DY⟩ : LV (w.heap.size + 1) (fun T => ∃ q : Nat, q < 3 ∧ T = dZ 0 0 ⟨#[]⟩ (mm q) (cm cO TB)) v (a.eval (.tmp 246)) := bJ.out 11 (by omega) (bq.out _ rfl ⟨11, Ground.data⟩ (by simp) rfl)
       obtain ⟨q2, iH, rfl⟩ := Mo
       have h246 := ae DP
       have HR := aa DY
       clear DP DY
       have k_m38_2 := kk
       exact SR
      ·obtain ⟨T2, a2, c2, D4, ft, jH⟩ : TV (w.heap.size + 1) (fun T => T = ra) v (a.eval (.tmp 237)) := bJ.out 2 (by omega) (bq.out _ rfl ⟨2, Ground.data⟩ (by simp) rfl)
       subst D4
       have h237 := ae ft
       have OY := aa jH
       obtain ⟨T12, a12, gE, hp12, QI, Q2⟩ : TV (w.heap.size + 1) (fun T => ∃ q : Nat, q < 3 ∧ T = uY q (cm cO TB)) v (a.eval (.tmp 247)) := bJ.out 12 (by omega) (bq.out _ rfl ⟨12, Ground.data⟩ (by simp) rfl)
       obtain ⟨q2, iH, rfl⟩ := hp12
       have h247 := ae QI
       have HR := aa Q2
       unfold Nd.val at h237 h247
       clear ft jH QI Q2
       have k_m34_2 := kk
       exact Nb
      ·obtain ⟨T13, a13, gA, Mm, DO, DX⟩ : LV (w.heap.size + 1) (fun T => ∃ q : Nat, q < 3 ∧ T = dZ 0 0 ⟨#[]⟩ ra (uY q (cm cO TB))) v (a.eval (.tmp 248)) := bJ.out 13 (by omega) (bq.out _ rfl ⟨13, Ground.data⟩ (by simp) rfl)
       obtain ⟨q2, iH, rfl⟩ := Mm
       have h248 := ae DO
       have HR := aa DX
       clear DO DX
       have k_m38_3 := kk
       exact SR
      ·obtain ⟨T14, a14, c14, Ml, DN, DV⟩ : TV (w.heap.size + 1) (fun T => ∃ q : Nat, q < 3 ∧ T = kY q (cm cO TB)) v (a.eval (.tmp 249)) := bJ.out 14 (by omega) (bq.out _ rfl ⟨14, Ground.data⟩ (by simp) rfl)
       obtain ⟨q2, iH, rfl⟩ := Ml
       have h249 := ae DN
       unfold Nd.val at h249
       have bK := cG cz
       obtain ⟨dK, dD⟩ := HS.out.pre bK
       obtain ⟨f0, f1, f2, f3, ff⟩ := dK.cells
       have HF56 : Hid (F56 sb (A + 3 + 3 + 3 + 3 + 3 + (2 * K + 10) + 3) (cm cO TB) w (fs v w.heap.size 4 0 ⟨#[]⟩ (.slice a14 2 c14))) := ⟨v, q2, a14, c14, ⟨dK.src.mono (by omega), dK.kp, dK.low⟩, iH, DV, rfl⟩
       clear DN DV dK dD
       go_simp
       exact qO.out _ (fun j x _ hx => NJ (Wn.of_put (by omega)) j x hx) (GS.store (by omega) (.inl rfl) HF56.out) (fun _ => trivial)
     ·intro a v bS ku cM q6 fr
      obtain ⟨l, hS, bj⟩ := q6
      have HF := aa (hS.fin (bj 15 (by decide)))
      rw [fB (n := 16) bS ku cM]
      generalize (fun i => a.eval (.tmp (zA i))) = ff
      clear bS ku cM fr hS bj
      simp only [iE, Act.put, zA, List.getD_cons_zero, List.getD_cons_succ, List.setIfInBounds_toArray, List.set_cons_succ, List.set_cons_zero, List.set_nil]
      obtain ⟨v0, q2, a2, c2, dK, iH, dO, rfl⟩ := HF.out
      have Fs := aa dK
      have HRq := aa dO
      have hcB := PB.out.2.2
      have hcL := og cO TB
      have hsI : cO.cost ≤ 40 := by decide
      have OL : Hid ((kY q2 (cm cO TB)).sOk = true ∧ (kY q2 (cm cO TB)).Fine ∧ (kY q2 (cm cO TB)).cost ≤ 2 * C + 200) := Hh iH (tN (.inl rfl) (by decide)) (by decide) PB.out.1 PB.out.2.1.1 PB.out.2.1.2 (by omega) (by omega)
      clear dK dO HF Ca RL HDG
      go_wp2
      refine bodyPost_ret (Fs.out.read Tryz.results62 rfl _ _ _ _) rfl ⟨kY q2 (cm cO TB), _, rfl, ?_⟩
      exact (Fs.out.fin (P := fun T => T.sOk = true) (C := E) HRq.out OL.out.2.1 OL.out.1 (by have := OL.out.2.2; omega)).more (by omega)
 ·exact IW
end Go.Proofs.YteaocammohcgoaaGreatDoor
