import Derived.Test.YteaocammohcgoaaGreatDoorVKdB
import Derived.StillTailTactics
import Derived.Deep.LoopGhost
set_option linter.unusedVariables false
set_option maxHeartbeats 16000000
set_option maxRecDepth 100000
namespace Go.Proofs.YteaocammohcgoaaGreatDoor
open Go.RowKit
variable {G : Prop}
theorem bI0 (h : G := by
 have k_I25_2 := kk
 exact JO) : G := h
theorem bI1 (h : G := by
 have k_I25_3 := kk
 exact JO) : G := h
theorem bI2 (h : G := by
 have k_I24_0 := kk
 exact OP) : G := h
theorem bI3 (h : G := by
 unfold bI
 rw [if_neg (by omega), if_neg (by omega), if_neg (by omega), if_neg (by omega), if_neg (by omega), if_pos hk, ju]; rfl) : G := h
theorem bI4 (h : G := by
 unfold bI
 rw [if_neg (by omega), if_neg (by omega), if_neg (by omega), if_neg (by omega), if_pos hk, hl]; rfl) : G := h
theorem bI5 (h : G := by
 have k_I13_0 := kk
 exact Xc) : G := h
theorem bI6 (h : G := by
 unfold bI
 iterate 7 rw [if_neg (by omega)]
 rw [if_neg (by rw [dE]; simp)]
 rw [zg]
 exact Fv) : G := h
theorem bI7 (h : G := by
 have k_I11_0 := kk
 exact Xe) : G := h
theorem bI8 (h : G := by
 have k_I11_1 := kk
 exact Xe) : G := h
theorem bI9 (h : G := by
 have k_I12_0 := kk
 exact Xd) : G := h
theorem Xf (h : G := by
 rw [iA]
 have k_I12_1 := kk
 exact Xd) : G := h
theorem Xe (h : G := by
 rw [iA]
 have k_I21_0 := kk
 exact WW) : G := h
theorem Xd (h : G := by
 have k_I21_1 := kk
 exact WW) : G := h
theorem Xc (h : G := by
 have k_I23_0 := kk
 exact WU) : G := h
theorem Xb (h : G := by
 have cM := aa (fun o => ib T (w.alloc o) _ K.lo s.2.length hN.fine (by simp; omega) (ah (hS.box o) lr hN.row) hN.cost (by omega))
 have iw := aa (fun (w1 : World) (u : Value) (t : TypeId) hb ha => kZ (w1 := w1) (T := T) (v := .slice (some ⟨g, off, none⟩) T.len cap) (p := s.2.length) (u := u) (t := t) hS hb ha)
 have jn := aa (fun (w1 : World) (own1 : Option Nat) (b : Nat) (u : Value) (hg : SGo K w w1 own1 b T (.slice (some ⟨g, off, none⟩) T.len cap) u s.2.length) (W : World) (σ : CR CS) (r l o : Int) (q : Nat) (ty : Int) (hW : SS K w1 own1 σ r l o W) (ha : SAt K (T.kids 0) σ q) => lJ (ih 0 (by omega)) K w1 own1 σ r l o W u0 q ty hW (hg.env hE hW) ((hN.kid (by omega) dI).later (hg.below _ _ _ _ _ hW)) ha dh)
 have J2 := aa (fun (w1 : World) (own1 : Option Nat) (b : Nat) (u : Value) (hg : SGo K w w1 own1 b T (.slice (some ⟨g, off, none⟩) T.len cap) u s.2.length) (W : World) (σ : CR CS) (r l o : Int) (q : Nat) (hW : SS K w1 own1 σ r l o W) (ha : SAt K (T.kids 0) σ q) => kU (ih 0 (by omega)) K w1 own1 σ r l o W u0 q hW (hg.env hE hW) ((hN.kid (by omega) dI).later (hg.below _ _ _ _ _ hW)) ha dh)
 first
 |clear k_I14_0
  have sB := aa (fun (w1 : World) (own1 : Option Nat) (b : Nat) (u : Value) (hg : SGo K w w1 own1 b T (.slice (some ⟨g, off, none⟩) T.len cap) u s.2.length) (W : World) (σ : CR CS) (r l o : Int) (q : Nat) (ty : Int) (hW : SS K w1 own1 σ r l o W) (ha : SAt K (T.kids 1) σ q) => lJ (ih 1 (by omega)) K w1 own1 σ r l o W u1 q ty hW (hg.env hE hW) ((hN.kid (by omega) fN).later (hg.below _ _ _ _ _ hW)) ha j5)
  have HV1 := aa (fun (w1 : World) (own1 : Option Nat) (b : Nat) (u : Value) (hg : SGo K w w1 own1 b T (.slice (some ⟨g, off, none⟩) T.len cap) u s.2.length) (W : World) (σ : CR CS) (r l o : Int) (q : Nat) (hW : SS K w1 own1 σ r l o W) (ha : SAt K (T.kids 1) σ q) => kU (ih 1 (by omega)) K w1 own1 σ r l o W u1 q hW (hg.env hE hW) ((hN.kid (by omega) fN).later (hg.below _ _ _ _ _ hW)) ha j5)
  have ot := aa (SAt.kid0 ay dK (by omega))
  first
  |clear k_I11_0
   have Gu := aa (SAt.next (τ := cL K (T.kids 0) 1 (.ok (ae s))) ot.out (by omega) ay dK (gU dh))
   first
   |clear k_I7_0
    have k_I13_1 := kk
    exact Xc
   |clear k_I7_1
    exact bI5
  |clear k_I11_1
   first
   |clear k_I8_0
    have Gu := aa (SAt.next (τ := j7 K (T.kids 0) (.ok (ae s))) ot.out (by omega) ay dK (CI dh))
    have QG := aa (fun t (h : F4 K (T.kids 0) (.ok (ae s)) t) => Je (K := K) (A := T.kids 0) (B := T.kids 1) (s := ae s) h)
    have k_I23_1 := kk
    exact WU
   |clear k_I8_1
    have Gu := aa (SAt.next (τ := cL K (T.kids 0) 2 (.ok (ae s))) ot.out (by omega) ay dK (gU dh))
    exact bI5
 |clear k_I14_1
  have ot := aa (SAt.kid0 ay dK (by omega))
  unfold Nd.val at *
  rw [hk] at cM iw ⊢
  have gr := aa hk
  have iB : 0 < T.len := by omega
  first
  |clear k_I12_0
   clear iA hS hE hN hk aS ih fs aV dh dI hl ju
   have k_I16_0 := kk
   exact WZ
  |clear k_I12_1
   clear iA hS hE hN hk aS ih fs aV dh dI hl
   have k_I16_1 := kk
   exact WZ) : G := h
theorem Xa (h : G := by
 have k_I17_1 := kk
 exact WY) : G := h
theorem WZ (h : G := by
 generalize hq : s.2.length = q at *
 have bH := jK
 go_enter Tryz.func130, Tryz.ntmps130
 go_wp2_with (first
  |(go_at_call 44; refine (cM.out _).mono ?_; rintro e w1 ⟨u, rfl, bz, hb1⟩; obtain ⟨own1, aD, bb, dG⟩ := iw.out w1 u _ hb1 bz; obtain ⟨ga, oa, ca, rfl, nL, fc⟩ := dG.ats (by omega); have HG := aa dG; have gO := aa fc; have gK := aa bb; obtain ⟨b0, b1, b2, b3⟩ := HG.out.box _ _ _ _ _ aD; rw [gr.out] at b0; have a0 := gO.out _ _ _ _ _ aD 0 (by omega); rw [Nat.add_zero] at a0; obtain ⟨eA, ez, ey, ew⟩ := dP.out _ (HG.out.below _ _ _ _ _ aD); have bh := aa aD; clear aD bb dG fc bz hb1))
 first
 |clear k_I16_0
  go_outline
  go_still_tail 9, bH
  first
  |clear k_I9_0
   exact bI2
  |clear k_I9_1
   have k_I24_1 := kk
   exact OP
 |clear k_I16_1
  first
  |clear k_I10_0
   go_still_tail 8, bH
   exact bI2
  |clear k_I10_1
   go_outline
   go_still_tail 8, bH
   have k_I24_2 := kk
   exact OP) : G := h
theorem WY (h : G := by
 have dK := hS.ok.few
 have bN := hS.lt
 have zr := hS.ok.cl
 have cM := aa (fun o => ib T (w.alloc o) v K.lo s.2.length hN.fine (by have := hS.ok.cl; simp; omega) (ah (hS.box o) lr hN.row) hN.cost (by omega))
 have iw := aa (fun (w1 : World) (u : Value) (t : TypeId) hb ha => kZ (w1 := w1) (T := T) (v := v) (p := s.2.length) (u := u) (t := t) hS hb ha)
 have HF := aa (fun W (hb : Below K.lo w W) (hz : K.lo ≤ W.heap.size) => vr K.F W K.fv K.lo T.name hE.fine hz (ah hb lr hE.row))
 first
 |clear k_I17_0
  have LF : Hid (kE K.F T.name = -1) := by unfold Hid kE; rw [pV]
  have gr := aa hk
  unfold Nd.val at *
  rw [hk] at cM iw ⊢
  clear hS hE hN hk pV
  have k_I18_0 := kk
  exact OR
 |clear k_I17_1
  have tT := (iq hj).1
  obtain ⟨gF, oF, cF, Tu, hgF, hcF, hkF⟩ := dq hE.row (by omega)
  obtain ⟨uf, TM, Iv⟩ := hkF j tT
  have Nx := zv (kV hE.ok tT)
  have EM := Nd.fine_len (Nd.fine_kid hE.fine tT)
  obtain ⟨af, cf, P3, TJ, Nb⟩ := aH.1 Iv
  have HQF := aa Nb
  clear Nb
  subst P3
  have HCF := aa TM
  have LF : Hid (kE K.F T.name = j) := by unfold Hid kE; rw [show findF K.F T.name = some j from hj]
  have gr := aa hk
  have mB := aa Tu
  have hTl := T.fine_len hN.fine
  obtain ⟨a, cap, hv, cr, Nc⟩ := aH.1 hN.row
  have Qw := aa Nc
  clear Nc
  subst hv
  first
  |clear k_I15_0
   have zq : ((T.len : Int) == ((K.F.kids j).len : Int) - 1) = false := bn (by omega)
   have hjF : (j : Int) < (K.F.len : Int) := by omega
   unfold Nd.val at *
   rw [hk] at cM iw ⊢
   clear hS hE hN hk hj TM hkF Iv Tu
   have k_I18_1 := kk
   exact OR
  |clear k_I15_1
   have zq : ((T.len : Int) == ((K.F.kids j).len : Int) - 1) = true := beq_iff_eq.2 (by omega)
   have TK : ((T.len : Int) != ((K.F.kids j).len : Int) - 1) = false := by simp only [bne, zq, Bool.not_true]
   have hcl' : T.len < (K.F.kids j).len := by omega
   have hjF : (j : Int) < (K.F.len : Int) := by omega
   have hj0 : decide ((j : Int) < 0) = false := by simp
   unfold Nd.val at *
   rw [hk] at cM iw ⊢
   have HCN := aa xJ
   have HEE := aa (Fh gr.out aS)
   have J9 := aa ih
   have kM := aa (fun (h0 : T.len ≠ 0) => dq hN.row h0)
   have LI := aa (fun n (hn : n < T.len) => FC (K := K) (f := K.F.kids j) HEE.out hn ay dK)
   have Ct := aa hE
   have LG := aa hN
   clear hS hE hN hk hj TM hkF Iv Tu xJ ih
   have k_I18_2 := kk
   exact OR) : G := h
theorem OR (h : G := by
 generalize hq : s.2.length = q at *
 have bH := jK
 go_enter Tryz.func130, Tryz.ntmps130
 go_wp2_with (go_at_call 44; refine (cM.out _).mono ?_; rintro e w1 ⟨u, rfl, bz, hb1⟩; obtain ⟨own1, aD, bb, dG⟩ := iw.out w1 u _ hb1 bz; obtain ⟨b0, b1, b2, b3⟩ := dG.box _ _ _ _ _ aD; rw [gr.out] at b0; obtain ⟨x0, x1, x2, x3⟩ := aD.file; obtain ⟨y0, y1⟩ := aD.lt; have HG := aa dG; have bh := aa aD; have gK := aa bb; clear hb1 bz aD dG bb)
 go_still_tail 6, bH
 first
 |clear k_I18_0
  go_wp2_with (first
   |(go_at_call 45; refine (HF.out _ (HG.out.below _ _ _ _ _ bh.out.drew) (by have : K.cb < w1.heap.size := y0; show K.lo ≤ w1.heap.size; omega)).mono ?_; rw [LF.out]; rintro e w2 ⟨rfl, ba⟩; have aC := bh.out.drew.calm ba; obtain ⟨b0, b1, b2, b3⟩ := HG.out.box _ _ _ _ _ aC; rw [gr.out] at b0; obtain ⟨x0, x1, x2, x3⟩ := aC.file; obtain ⟨z0, z1⟩ := aC.lt; have z3 := World.block_lt_of_cell? w2 ⟨w.heap.size, 3, none⟩ b3; dsimp only at z3; have bR := aa aC; clear ba aC)
   |(go_at_call 46; refine (dO bR.out 5 (by decide) q).mono ?_; rintro e w3 ⟨rfl, bY⟩; have e7 := aa (gK.out _ _ _ _ _ bY); clear bY))
  go_ret
  exact ⟨rfl, e7.out⟩
 |clear k_I18_1
  go_wp2_with (first
   |(go_at_call 45; refine (HF.out _ (HG.out.below _ _ _ _ _ bh.out.drew) (by have : K.cb < w1.heap.size := y0; show K.lo ≤ w1.heap.size; omega)).mono ?_; rw [LF.out]; rintro e w2 ⟨rfl, ba⟩; have aC := bh.out.drew.calm ba; obtain ⟨b0, b1, b2, b3⟩ := HG.out.box _ _ _ _ _ aC; rw [gr.out] at b0; obtain ⟨x0, x1, x2, x3⟩ := aC.file; obtain ⟨z0, z1⟩ := aC.lt; have z3 := World.block_lt_of_cell? w2 ⟨w.heap.size, 3, none⟩ b3; dsimp only at z3; rw [mB.out] at x3; obtain ⟨f0, f1, f2, f3⟩ := HCF.out _ (HG.out.below _ _ _ _ _ aC); have bR := aa aC; clear ba aC)
   |(go_at_call 46; refine (dO (bR.out.alloc _) 8 (by decide) q).mono ?_; rintro e w3 ⟨rfl, bY⟩; have e7 := aa (gK.out _ _ _ _ _ bY); clear bY))
  go_ret
  exact ⟨rfl, e7.out⟩
 |clear k_I18_2
  go_wp2_with (first
   |(go_at_call 45; refine (HF.out _ (HG.out.below _ _ _ _ _ bh.out.drew) (by have : K.cb < w1.heap.size := y0; show K.lo ≤ w1.heap.size; omega)).mono ?_; rw [LF.out]; rintro e w2 ⟨rfl, ba⟩; have aC := bh.out.drew.calm ba; obtain ⟨b0, b1, b2, b3⟩ := HG.out.box _ _ _ _ _ aC; rw [gr.out] at b0; obtain ⟨x0, x1, x2, x3⟩ := aC.file; obtain ⟨z0, z1⟩ := aC.lt; have z3 := World.block_lt_of_cell? w2 ⟨w.heap.size, 3, none⟩ b3; dsimp only at z3; rw [mB.out] at x3; obtain ⟨f0, f1, f2, f3⟩ := HCF.out _ (HG.out.below _ _ _ _ _ aC); have bR := aa aC; clear ba aC))
  obtain ⟨qS, bY, dS, xL⟩ := bR.out.boxed (.cells #[.int .i64 (K.F.kids j).kind, .int .i64 (K.F.kids j).num, .string (K.F.kids j).name, .slice af (K.F.kids j).len cf] 25)
  have e7 := aa bY
  have jZ := aa dS
  have cP := aa xL
  clear bY dS xL
  go_loopg [11] T.len (fun gk i wr => ∃ n : Nat, gk = T.len - n ∧ n ≤ T.len ∧ i = .int .i64 n ∧ SS K (w2.alloc (.cells #[.int .i64 (K.F.kids j).kind, .int .i64 (K.F.kids j).num, .string (K.F.kids j).name, .slice af (K.F.kids j).len cf] 25)) qS (sA K.F T (K.F.kids j) n (ae s)) ret loops outs wr)
  case atStart => exact ⟨0, by omega, Nat.zero_le _, rfl, e7.out⟩
  case round =>
   obtain ⟨n, rX, hn, rfl, cy⟩ := hrel
   have zN := aa rX
   clear rX
   have gE := jZ.out _ _ _ _ _ cy
   obtain ⟨d0, d1, d2, d3⟩ := HG.out.box _ _ _ _ _ gE
   have Cj := cP.out _ _ _ _ _ cy
   have e0 : wr.cell? ⟨w2.heap.size, 0, none⟩ = some (.int .i64 (K.F.kids j).kind) := by simp [World.cell?, Cj]
   have e1 : wr.cell? ⟨w2.heap.size, 1, none⟩ = some (.int .i64 (K.F.kids j).num) := by simp [World.cell?, Cj]
   have e3 : wr.cell? ⟨w2.heap.size, 3, none⟩ = some (.slice af (K.F.kids j).len cf) := by simp [World.cell?, Cj]
   have fy := HG.out.below _ _ _ _ _ gE
   have iu := aa cy
   have Kf := aa gE
   have HLO := aa fy
   clear Cj cy gE fy
   by_cases bN : n < T.len
   ·obtain ⟨g, off, mQ, mh, iM, rZ, aV⟩ := kM.out (by omega)
    injection mh with vw Lq vu
    subst vw
    subst vu
    obtain ⟨ga, oa, ca, So, nL, fc⟩ := HG.out.ats (by omega)
    subst So
    obtain ⟨un, kK, jJ⟩ := aV n bN
    obtain ⟨c0, c1, c2, c3⟩ := kK _ HLO.out
    have an := fc _ _ _ _ _ Kf.out n bN
    have Nb := HQF.out
    rcases Nb with h0 | ⟨gf, of, haf, _, hgf, hpf⟩
    ·omega
    subst haf
    obtain ⟨up, p0, p1, p2, p3, _⟩ := hpf n (by omega)
    have p1' := (HLO.out.cell (p := ⟨gf, of + n * 4 + 1, none⟩) hgf).trans p1
    have J1 := aa (lJ (J9.out n bN) K _ qS _ ret loops outs wr.drew un (aW T q n) ((K.F.kids j).kids n).num iu.out.drew (Ct.out.later HLO.out.drew) ((LG.out.kid bN jJ).later HLO.out.drew) (LI.out n bN) (HEE.out n bN))
    unfold Nd.val at J1
    have hni : (n : Int) < (T.len : Int) := by omega
    have Qa : (n : Int) < ((K.F.kids j).len : Int) := by omega
    clear kK jJ fc hpf p0 p1 p2 p3 aV
    go_wp2
    go_still_tail 16, bH
    go_wp2_with (go_at_call 109; refine J1.out.mono ?_; rintro e w5 ⟨rfl, jh⟩; have mY := aa jh; clear jh)
    go_roundg (T.len - (n + 1))
    case rel =>
     refine ⟨n + 1, rfl, by omega, by go_num, ?_⟩
     rw [← yq K.F T (K.F.kids j) K rfl n (ae s)]
     exact mY.out
    case measure => have := zN.out; omega
   ·go_wp2
    go_ret
    obtain rfl : n = T.len := by omega
    exact ⟨rfl, gK.out _ _ _ _ _ Kf.out⟩) : G := h
theorem WX (h : G := by
 have k_I22_0 := kk
 exact WV) : G := h
theorem OQ (h : G := by
 have k_I22_1 := kk
 exact WV) : G := h
theorem WW (h : G := by
 have dK := hS.ok.few
 have bN := hS.lt
 have zr := hS.ok.cl
 obtain ⟨g, off, cap, hv, iM, cr, aV⟩ := dq hN.row (by omega)
 subst hv
 obtain ⟨u0, fs, dI⟩ := aV 0 (by omega)
 simp only [Nat.zero_mul, Nat.add_zero] at fs
 have dP := aa fs
 first
 |clear k_I21_0
  obtain ⟨u1, eM, fN⟩ := aV 1 (by omega)
  simp only [Nat.one_mul] at eM
  have fT := aa eM
  have k_I14_0 := kk
  exact Xb
 |clear k_I21_1
  have k_I14_1 := kk
  exact Xb) : G := h
theorem WV (h : G := by
 rw [iA]
 have dK := hS.ok.few
 have bN := hS.lt
 have cM := aa (fun o => ib T (w.alloc o) v K.lo s.2.length hN.fine (by have := hS.ok.cl; simp; omega) (ah (hS.box o) lr hN.row) hN.cost (by omega))
 have HS := aa (fun o => hS.alloc o)
 unfold Nd.val at *
 rw [hk] at cM ⊢
 first
 |clear k_I22_0
  clear iA hS hE hN hk
  generalize hq : s.2.length = q at *
  first
  |clear k_I19_0
   generalize T.num = tn at *
   generalize T.name = ts at *
   go_enter Tryz.func130, Tryz.ntmps130
   go_wp2_with (go_at_call 44; refine (cM.out _).mono ?_; rintro e w1 ⟨u, rfl, bz, hb1⟩; have eB := aa hb1; have Gu := aa bz; have k0 : w1.cell? ⟨w.heap.size, 0, none⟩ = some (.int .i64 22) := (hb1.cell (p := ⟨w.heap.size, 0, none⟩) (by simp)).trans (by simp); clear hb1 bz)
   go_ret
   exact ⟨1, rfl, fun r h => (by injection h with h; subst h; rfl), (HS.out _).calm eB.out⟩
  |clear k_I19_1
   go_enter Tryz.func130, Tryz.ntmps130
   go_wp2_with (go_at_call 44; refine (cM.out _).mono ?_; rintro e w1 ⟨u, rfl, bz, hb1⟩; have bh := aa ((HS.out _).calm hb1); have k0 : w1.cell? ⟨w.heap.size, 0, none⟩ = some (.int .i64 23) := (hb1.cell (p := ⟨w.heap.size, 0, none⟩) (by simp)).trans (by simp); have k2 : w1.cell? ⟨w.heap.size, 2, none⟩ = some (.string T.name) := (hb1.cell (p := ⟨w.heap.size, 2, none⟩) (by simp)).trans (by simp); have k3 : w1.cell? ⟨w.heap.size, 3, none⟩ = some v := (hb1.cell (p := ⟨w.heap.size, 3, none⟩) (by simp)).trans (by simp); clear hb1 bz)
   go_ret
   exact ⟨2, rfl, fun r h => (by injection h with h; subst h; rfl), bh.out⟩
 |clear k_I22_1
  first
  |clear k_I20_0
   have H0 := aa (lW.trans h0)
   clear iA hS hE hN hk lW h0
   generalize hq : s.2.length = q at *
   go_enter Tryz.func130, Tryz.ntmps130
   go_wp2_with (first
    |(go_at_call 44; refine (cM.out _).mono ?_; rintro e w1 ⟨u, rfl, bz, hb1⟩; have bh := aa ((HS.out _).calm hb1); have k0 : w1.cell? ⟨w.heap.size, 0, none⟩ = some (.int .i64 24) := (hb1.cell (p := ⟨w.heap.size, 0, none⟩) (by simp)).trans (by simp); have k2 : w1.cell? ⟨w.heap.size, 2, none⟩ = some (.string T.name) := (hb1.cell (p := ⟨w.heap.size, 2, none⟩) (by simp)).trans (by simp); have k3 : w1.cell? ⟨w.heap.size, 3, none⟩ = some v := (hb1.cell (p := ⟨w.heap.size, 3, none⟩) (by simp)).trans (by simp); clear hb1 bz)
    |(go_at_call 108; refine (iW bh.out _).mono ?_; rw [H0.out]; rintro e w2 ⟨rfl, aC⟩; have bR := aa aC; clear aC)
    |(go_at_call 46; refine (dO bR.out 5 (by decide) q).mono ?_; rintro e w3 ⟨rfl, bY⟩; have e7 := aa bY; clear bY))
   go_ret
   exact ⟨0, rfl, fun r h => (by cases h), e7.out⟩
  |clear k_I20_1
   have H0 : Hid (look (ae s).1 T.name = look s.1 T.name) := lW
   have qd : (look s.1 T.name == 0) = false := bn h0
   clear iA hS hE hN hk lW h0
   generalize look s.1 T.name = lk at *
   generalize hq : s.2.length = q at *
   go_enter Tryz.func130, Tryz.ntmps130
   go_wp2_with (first
    |(go_at_call 44; refine (cM.out _).mono ?_; rintro e w1 ⟨u, rfl, bz, hb1⟩; have bh := aa ((HS.out _).calm hb1); have k0 : w1.cell? ⟨w.heap.size, 0, none⟩ = some (.int .i64 24) := (hb1.cell (p := ⟨w.heap.size, 0, none⟩) (by simp)).trans (by simp); have k2 : w1.cell? ⟨w.heap.size, 2, none⟩ = some (.string T.name) := (hb1.cell (p := ⟨w.heap.size, 2, none⟩) (by simp)).trans (by simp); have k3 : w1.cell? ⟨w.heap.size, 3, none⟩ = some v := (hb1.cell (p := ⟨w.heap.size, 3, none⟩) (by simp)).trans (by simp); clear hb1 bz)
    |(go_at_call 108; refine (iW bh.out _).mono ?_; rw [H0.out]; rintro e w2 ⟨rfl, aC⟩; have bR := aa aC; clear aC))
   go_ret
   exact ⟨lk, rfl, fun r h => (by injection h with h; subst h; rfl), bR.out⟩
  |clear k_I20_2
   obtain ⟨a, cap, rfl, _⟩ := aH.1 hN.row
   rw [hl] at *
   clear iA hS hE hN hk hl
   generalize hq : s.2.length = q at *
   go_enter Tryz.func130, Tryz.ntmps130
   go_wp2_with (go_at_call 44; refine (cM.out _).mono ?_; rintro e w1 ⟨u, rfl, bz, hb1⟩; have bh := aa ((HS.out _).calm hb1); have k0 : w1.cell? ⟨w.heap.size, 0, none⟩ = some (.int .i64 26) := (hb1.cell (p := ⟨w.heap.size, 0, none⟩) (by simp)).trans (by simp); have k2 : w1.cell? ⟨w.heap.size, 2, none⟩ = some (.string T.name) := (hb1.cell (p := ⟨w.heap.size, 2, none⟩) (by simp)).trans (by simp); have k3 : w1.cell? ⟨w.heap.size, 3, none⟩ = some (.slice a 0 cap) := (hb1.cell (p := ⟨w.heap.size, 3, none⟩) (by simp)).trans (by simp); clear hb1 bz)
   go_ret
   exact ⟨3, rfl, fun r h => (by injection h with h; subst h; rfl), bh.out⟩) : G := h
theorem WU (h : G := by
 unfold Nd.val at *
 rw [hk] at cM iw ⊢
 have gr := aa hk
 have yy := aa zg
 have iB : 0 < T.len := by omega
 have rS : (1 : Int) < (T.len : Int) := by omega
 have nY : 1 < T.len := by omega
 first
 |clear k_I23_0
  clear iA hS hE hN hk aS ih fs eM aV dh j5 dI fN hl zg dE
  generalize hq : s.2.length = q at *
  have bH := jK
  go_enter Tryz.func130, Tryz.ntmps130
  go_wp2_with (first
   |(go_at_call 44; refine (cM.out _).mono ?_; rintro e w1 ⟨u, rfl, bz, hb1⟩; obtain ⟨own1, aD, bb, dG⟩ := iw.out w1 u _ hb1 bz; obtain ⟨ga, oa, ca, rfl, nL, fc⟩ := dG.ats (by omega); have HG := aa dG; have gO := aa fc; have gK := aa bb; obtain ⟨b0, b1, b2, b3⟩ := HG.out.box _ _ _ _ _ aD; rw [gr.out] at b0; have a0 := gO.out _ _ _ _ _ aD 0 (by omega); rw [Nat.add_zero] at a0; obtain ⟨eA, ez, ey, ew⟩ := dP.out _ (HG.out.below _ _ _ _ _ aD); have a1 := gO.out _ _ _ _ _ aD 1 (by omega); obtain ⟨gS, gN, gR, gM⟩ := fT.out _ (HG.out.below _ _ _ _ _ aD); have bh := aa aD; clear aD bb dG fc bz hb1)
   |(go_at_call 114; refine (sV _ _).mono ?_; rw [yy.out]; rintro e w2 ⟨rfl, ba⟩; have aC := bh.out.calm ba; clear ba; obtain ⟨b0, b1, b2, b3⟩ := HG.out.box _ _ _ _ _ aC; rw [gr.out] at b0; have a0 := gO.out _ _ _ _ _ aC 0 (by omega); rw [Nat.add_zero] at a0; obtain ⟨eA, ez, ey, ew⟩ := dP.out _ (HG.out.below _ _ _ _ _ aC); have a1 := gO.out _ _ _ _ _ aC 1 (by omega); obtain ⟨gS, gN, gR, gM⟩ := fT.out _ (HG.out.below _ _ _ _ _ aC); have bR := aa aC; clear aC))
  go_still_tail 8, bH
  go_wp2_with (go_at_call 109; refine (jn.out _ _ _ _ HG.out _ _ _ _ _ _ _ bR.out.drew ot.out).mono ?_; rintro e w3 ⟨rfl, bY⟩; obtain ⟨b0, b1, b2, b3⟩ := HG.out.box _ _ _ _ _ bY; rw [gr.out] at b0; have a0 := gO.out _ _ _ _ _ bY 0 (by omega); rw [Nat.add_zero] at a0; obtain ⟨eA, ez, ey, ew⟩ := dP.out _ (HG.out.below _ _ _ _ _ bY); have a1 := gO.out _ _ _ _ _ bY 1 (by omega); obtain ⟨gS, gN, gR, gM⟩ := fT.out _ (HG.out.below _ _ _ _ _ bY); have e7 := aa bY; clear bY)
  go_still_tail 8, bH
  go_wp2_with (go_at_call 109; refine (sB.out _ _ _ _ HG.out _ _ _ _ _ _ _ e7.out.drew Gu.out).mono ?_; rintro e w4 ⟨rfl, gh⟩; have mb := aa (gK.out _ _ _ _ _ gh); clear gh)
  go_ret
  first
  |clear k_I13_0
   exact ⟨2, rfl, gy.1, by rw [gy.2]; exact mb.out⟩
  |clear k_I13_1
   exact ⟨1, rfl, gy.1, by rw [gy.2]; exact mb.out⟩
 |clear k_I23_1
  have dn := Jg heq
  clear iA hS hE hN hk aS ih fs eM aV dh j5 dI fN hl zg heq
  generalize hq : s.2.length = q at *
  have bH := jK
  rcases dn with ⟨rU, rT⟩ | ⟨rU, rT⟩
  all_goals go_enter Tryz.func130, Tryz.ntmps130
  all_goals go_wp2_with (first
   |(go_at_call 44; refine (cM.out _).mono ?_; rintro e w1 ⟨u, rfl, bz, hb1⟩; obtain ⟨own1, aD, bb, dG⟩ := iw.out w1 u _ hb1 bz; obtain ⟨ga, oa, ca, rfl, nL, fc⟩ := dG.ats (by omega); have HG := aa dG; have gO := aa fc; have gK := aa bb; obtain ⟨b0, b1, b2, b3⟩ := HG.out.box _ _ _ _ _ aD; rw [gr.out] at b0; have a0 := gO.out _ _ _ _ _ aD 0 (by omega); rw [Nat.add_zero] at a0; obtain ⟨eA, ez, ey, ew⟩ := dP.out _ (HG.out.below _ _ _ _ _ aD); have a1 := gO.out _ _ _ _ _ aD 1 (by omega); obtain ⟨gS, gN, gR, gM⟩ := fT.out _ (HG.out.below _ _ _ _ _ aD); have bh := aa aD; clear aD bb dG fc bz hb1)
   |(go_at_call 114; refine (sV _ _).mono ?_; rw [yy.out]; rintro e w2 ⟨rfl, ba⟩; have aC := bh.out.calm ba; clear ba; obtain ⟨b0, b1, b2, b3⟩ := HG.out.box _ _ _ _ _ aC; rw [gr.out] at b0; have a0 := gO.out _ _ _ _ _ aC 0 (by omega); rw [Nat.add_zero] at a0; obtain ⟨eA, ez, ey, ew⟩ := dP.out _ (HG.out.below _ _ _ _ _ aC); have a1 := gO.out _ _ _ _ _ aC 1 (by omega); obtain ⟨gS, gN, gR, gM⟩ := fT.out _ (HG.out.below _ _ _ _ _ aC); have bR := aa aC; clear aC))
  all_goals go_still_tail 8, bH
  all_goals go_wp2_with (go_at_call 107; refine (J2.out _ _ _ _ HG.out _ _ _ _ _ _ bR.out.drew ot.out).mono ?_; rintro e w3 ⟨t, rfl, hR, bY⟩; obtain ⟨b0, b1, b2, b3⟩ := HG.out.box _ _ _ _ _ bY; rw [gr.out] at b0; have a0 := gO.out _ _ _ _ _ bY 0 (by omega); rw [Nat.add_zero] at a0; obtain ⟨eA, ez, ey, ew⟩ := dP.out _ (HG.out.below _ _ _ _ _ bY); have a1 := gO.out _ _ _ _ _ bY 1 (by omega); obtain ⟨gS, gN, gR, gM⟩ := fT.out _ (HG.out.below _ _ _ _ _ bY); have e7 := aa bY; have HR := aa hR; clear bY hR)
  all_goals go_still_tail 9, bH
  all_goals go_wp2_with (go_at_call 109; refine (sB.out _ _ _ _ HG.out _ _ _ _ _ _ _ e7.out.drew Gu.out).mono ?_; rintro e w4 ⟨rfl, gh⟩; have mb := aa (gK.out _ _ _ _ _ gh); clear gh)
  all_goals go_ret
  all_goals exact ⟨2, rfl, gy.1, by rw [gy.2, ← QG.out _ HR.out]; exact mb.out⟩) : G := h
theorem OP (h : G := by
 go_wp2_with (go_at_call 109; refine (jn.out _ _ _ _ HG.out _ _ _ _ _ _ _ bh.out.drew ot.out).mono ?_; rintro e w2 ⟨rfl, aC⟩; have bR := aa (gK.out _ _ _ _ _ aC); clear aC)
 go_ret
 first
 |clear k_I24_0
  exact ⟨1, rfl, gy.1, by rw [gy.2]; exact bR.out⟩
 |clear k_I24_1
  exact ⟨2, rfl, gy.1, by rw [gy.2]; exact bR.out⟩
 |clear k_I24_2
  exact ⟨3, rfl, gy.1, by rw [gy.2]; exact bR.out⟩) : G := h
theorem JO (h : G := by
 intro K w0 az s ret loops outs w v hS hE hN ay aS
 obtain ⟨_, hl, dh, j5⟩ := vx hk aS
 first
 |clear k_I25_0
  have Bh := (Ff dE).1
  have iL := (Ff dE).2
  have iA : bI K.F T.kind T.name T.len (fun i => bP K.F (T.kids i)) (ae s) s.2.length = CR.bind (cL K (T.kids 1) 1 (cL K (T.kids 0) 1 (.ok (ae s)))) fun s1 => .ok (2, s1) := by
   exact bI6
  have k_I7_1 := kk
  exact bI7
 |clear k_I25_1
  have zg := Ls heq
  have iA : bI K.F T.kind T.name T.len (fun i => bP K.F (T.kids i)) (ae s) s.2.length = CR.bind (Um K (T.kids 0) (T.kids 1) (ae s)) fun s1 => .ok (2, s1) := by
   unfold bI
   iterate 7 rw [if_neg (by omega)]
   rw [if_pos heq]
   exact Jf
  have k_I8_0 := kk
  exact bI8
 |clear k_I25_2
  have dE : yc T.name = false := zB (by omega)
  have iA : bI K.F T.kind T.name T.len (fun i => bP K.F (T.kids i)) (ae s) s.2.length = CR.bind (cL K (T.kids 1) 1 (cL K (T.kids 0) 1 (.ok (ae s)))) fun s1 => .ok (1, s1) := by
   exact bI6
  have k_I7_0 := kk
  exact bI7
 |clear k_I25_3
  have dE : yc T.name = false := zB (by omega)
  have iA : bI K.F T.kind T.name T.len (fun i => bP K.F (T.kids i)) (ae s) s.2.length = CR.bind (cL K (T.kids 1) 2 (cL K (T.kids 0) 2 (.ok (ae s)))) fun s1 => .ok (2, s1) := by
   exact bI6
  have k_I8_1 := kk
  exact bI8) : G := h
theorem QR {T : Nd} (hk : T.kind = 22) : vJ T := by
 intro K w0 az s ret loops outs w v hS hE hN ay aS
 have iA : bI K.F T.kind T.name T.len (fun i => bP K.F (T.kids i)) (ae s) s.2.length = .ok (1, ae s) := by unfold bI; rw [if_pos hk]
 have k_I19_0 := kk
 exact WX
theorem gy {X : CR CS} {t : Int} : (∀ r, CR.bind X (fun s1 => .ok (t, s1)) = .ok r → t = r.1) ∧ (CR.bind (CR.bind X fun s1 => .ok (t, s1)) fun r => .ok r.2) = X := by
 refine ⟨fun r h => ?_, ?_⟩
 ·obtain ⟨a, _, h2⟩ := bt h
  injection h2 with h2; subst h2; rfl
 ·cases X <;> rfl
theorem QN {T : Nd} (hk : T.kind = 29) (ih : ∀ i, i < T.len → vX (T.kids i)) : vJ T := by
 intro K w0 az s ret loops outs w v hS hE hN ay aS
 obtain ⟨hl, dh⟩ := Fg hk aS
 have iA : bI K.F T.kind T.name T.len (fun i => bP K.F (T.kids i)) (ae s) s.2.length = CR.bind (cL K (T.kids 0) 3 (.ok (ae s))) fun s1 => .ok (1, s1) := by
  unfold bI
  rw [if_neg (by omega), if_neg (by omega), if_neg (by omega), if_neg (by omega), if_neg (by omega), if_neg (by omega), if_pos hk]; rfl
 have k_I10_0 := kk
 exact Xf
theorem QQ {T : Nd} (hk : T.kind = 23) : vJ T := by
 intro K w0 az s ret loops outs w v hS hE hN ay aS
 have iA : bI K.F T.kind T.name T.len (fun i => bP K.F (T.kids i)) (ae s) s.2.length = .ok (2, ae s) := by
  unfold bI
  rw [if_neg (by omega), if_pos hk]; done
 have k_I19_1 := kk
 exact WX
theorem QP {T : Nd} (hk : T.kind = 24) : vJ T := by
 intro K w0 az s ret loops outs w v hS hE hN ay aS
 have lW : look (ae s).1 T.name = look s.1 T.name := rfl
 by_cases h0 : look s.1 T.name = 0
 ·have iA : bI K.F T.kind T.name T.len (fun i => bP K.F (T.kids i)) (ae s) s.2.length = .error (5, s.2.length) := by
   unfold bI
   rw [if_neg (by omega), if_neg (by omega), if_pos hk, if_pos (lW.trans h0)]
  have k_I20_0 := kk
  exact OQ
 ·have iA : bI K.F T.kind T.name T.len (fun i => bP K.F (T.kids i)) (ae s) s.2.length = .ok (look s.1 T.name, ae s) := by
   unfold bI
   rw [if_neg (by omega), if_neg (by omega), if_pos hk, if_neg (fun e => h0 (lW.symm.trans e))]; rfl
  have k_I20_1 := kk
  exact OQ
theorem sS (s : ByteArray) : qU s = (s.toList == [33]) := by
 have h : (s.toList == (⟨#[33]⟩ : ByteArray).toList) = decide (s = ⟨#[33]⟩) := l6 s ⟨#[33]⟩
 have e : (⟨#[33]⟩ : ByteArray).toList = [33] := by rw [ByteArray.toList_eq]
 rw [e] at h
 rw [h]
 unfold qU hasB
 simp [eq_comm]
theorem LP {T : Nd} (hk : T.kind = 27) (ju : qU T.name = true) (ih : ∀ i, i < T.len → vX (T.kids i)) : vJ T := by
 intro K w0 az s ret loops outs w v hS hE hN ay aS
 obtain ⟨hl, dh⟩ := zC hk aS
 have iA : bI K.F T.kind T.name T.len (fun i => bP K.F (T.kids i)) (ae s) s.2.length = CR.bind (cL K (T.kids 0) 2 (.ok (ae s))) fun s1 => .ok (2, s1) := by
  exact bI3
 rw [iA]
 have M5 : (T.name.toList == [33]) = true := by rw [← sS]; exact ju
 have k_I9_1 := kk
 exact bI9
theorem LQ {T : Nd} (hk : T.kind = 27) (ju : qU T.name = false) (ih : ∀ i, i < T.len → vX (T.kids i)) : vJ T := by
 intro K w0 az s ret loops outs w v hS hE hN ay aS
 obtain ⟨hl, dh⟩ := zC hk aS
 have iA : bI K.F T.kind T.name T.len (fun i => bP K.F (T.kids i)) (ae s) s.2.length = CR.bind (cL K (T.kids 0) 1 (.ok (ae s))) fun s1 => .ok (1, s1) := by
  exact bI3
 rw [iA]
 have M5 : (T.name.toList == [33]) = false := by rw [← sS]; exact ju
 have k_I9_0 := kk
 exact bI9
theorem LS {T : Nd} (hk : T.kind = 26) (hl : T.len = 0) : vJ T := by
 intro K w0 az s ret loops outs w v hS hE hN ay aS
 have iA : bI K.F T.kind T.name T.len (fun i => bP K.F (T.kids i)) (ae s) s.2.length = .ok (3, ae s) := by
  exact bI4
 have k_I20_2 := kk
 exact OQ
theorem LR {T : Nd} (hk : T.kind = 26) (hl : T.len = 1) (ih : ∀ i, i < T.len → vX (T.kids i)) : vJ T := by
 intro K w0 az s ret loops outs w v hS hE hN ay aS
 have dh := (zD hk aS).2 0 (by omega)
 have iA : bI K.F T.kind T.name T.len (fun i => bP K.F (T.kids i)) (ae s) s.2.length = CR.bind (cL K (T.kids 0) 1 (.ok (ae s))) fun s1 => .ok (3, s1) := by
  exact bI4
 have k_I10_1 := kk
 exact Xf
theorem Fv {K : SK} {A B : Nd} {t t' x : Int} {s : CS} : (CR.bind (aE (bP K.F A) t s) fun s1 => CR.bind (aE (bP K.F B) t' s1) fun s2 => .ok (x, s2)) = CR.bind (cL K B t' (cL K A t (.ok s))) fun s1 => .ok (x, s1) := by
 unfold cL
 simp only [CR.bind_ok]
 cases aE (bP K.F A) t s <;> rfl
def Um (K : SK) (A B : Nd) (s : CS) : CR CS := CR.bind (cN (bP K.F A) s) fun r => aE (bP K.F B) r.1 r.2
theorem Jf {K : SK} {A B : Nd} {x : Int} {s : CS} : (CR.bind (cN (bP K.F A) s) fun r => CR.bind (aE (bP K.F B) r.1 r.2) fun s2 => .ok (x, s2)) = CR.bind (Um K A B s) fun s1 => .ok (x, s1) := by
 unfold Um
 cases cN (bP K.F A) s <;> rfl
theorem Je {K : SK} {A B : Nd} {s : CS} {t : Int} (h : F4 K A (.ok s) t) : cL K B t (j7 K A (.ok s)) = Um K A B s := by
 unfold Um cL j7
 simp only [CR.bind_ok]
 cases hv : cN (bP K.F A) s with
 |error e => rfl
 |ok r => rw [h s r rfl (gV hv).1]; rfl
theorem zA {s : ByteArray} (h : yc s = true) : s = ⟨#[61, 61]⟩ ∨ s = ⟨#[33, 61]⟩ := by
 have := (jU _ _).1 h
 simpa using this
theorem Ls {s : ByteArray} (h : yc s = true) : iU s = 3 := by
 rcases zA h with rfl | rfl <;> decide
theorem zB {s : ByteArray} (h : iU s ≠ 3) : yc s = false := by
 cases he : yc s with
 |false => rfl
 |true => exact absurd (Ls he) h
theorem Ff {s : ByteArray} (h : yc s = false) : (s.toList == [61, 61]) = false ∧ (s.toList == [33, 61]) = false := by
 have e1 : (⟨#[61, 61]⟩ : ByteArray).toList = [61, 61] := by rw [ByteArray.toList_eq]
 have e2 : (⟨#[33, 61]⟩ : ByteArray).toList = [33, 61] := by rw [ByteArray.toList_eq]
 have h' : ¬ (s = ⟨#[61, 61]⟩ ∨ s = ⟨#[33, 61]⟩) := by
  intro e
  have : yc s = true := (jU _ _).2 (by simpa using e)
  rw [h] at this; cases this
 exact ⟨by rw [← e1]; exact nP fun e => h' (.inl e), by rw [← e2]; exact nP fun e => h' (.inr e)⟩
theorem Jg {s : ByteArray} (h : yc s = true) : ((s.toList == [61, 61]) = true ∧ True) ∨ ((s.toList == [61, 61]) = false ∧ (s.toList == [33, 61]) = true) := by
 rcases zA h with rfl | rfl
 ·exact .inl ⟨by rw [ByteArray.toList_eq]; rfl, trivial⟩
 ·exact .inr ⟨by rw [ByteArray.toList_eq]; rfl, by rw [ByteArray.toList_eq]; rfl⟩
theorem GI {T : Nd} (hk : T.kind = 28) (zg : iU T.name = 1) (ih : ∀ i, i < T.len → vX (T.kids i)) : vJ T := by
 exact bI1
theorem GH {T : Nd} (hk : T.kind = 28) (zg : iU T.name = 2) (ih : ∀ i, i < T.len → vX (T.kids i)) : vJ T := by
 exact bI1
theorem GG {T : Nd} (hk : T.kind = 28) (zg : iU T.name = 3) (dE : yc T.name = false) (ih : ∀ i, i < T.len → vX (T.kids i)) : vJ T := by
 have k_I25_0 := kk
 exact JO
theorem GF {T : Nd} (hk : T.kind = 28) (zg : iU T.name = 4) (ih : ∀ i, i < T.len → vX (T.kids i)) : vJ T := by
 exact bI0
theorem GD {T : Nd} (hk : T.kind = 28) (zg : iU T.name = 5) (ih : ∀ i, i < T.len → vX (T.kids i)) : vJ T := by
 exact bI0
theorem LO {T : Nd} (hk : T.kind = 28) (heq : yc T.name = true) (ih : ∀ i, i < T.len → vX (T.kids i)) : vJ T := by
 have k_I25_1 := kk
 exact JO
theorem kV {F : Nd} (h : dv F = true) {j : Nat} (hj : j < F.len) : dd (F.kids j) = true := by
 unfold dv at h
 simp only [Bool.and_eq_true] at h
 exact dy.1 h.2 j hj
theorem zv {T : Nd} (h : dd T = true) : 1 ≤ T.len := by
 unfold dd at h
 simp only [Bool.and_eq_true, decide_eq_true_eq] at h
 exact h.1.2
theorem SS.file {K : SK} {w0 : World} {az : Option Nat} {σ : CR CS} {ret loops outs : Int} {w : World} (h : SS K w0 az σ ret loops outs w) : w.cell? ⟨K.cb, 0, none⟩ = some (.int .i64 K.F.kind) ∧ w.cell? ⟨K.cb, 1, none⟩ = some (.int .i64 K.F.num) ∧ w.cell? ⟨K.cb, 2, none⟩ = some (.string K.F.name) ∧ w.cell? ⟨K.cb, 3, none⟩ = some K.fv := by
 obtain ⟨vv, code, place, deep, zs, vs, h1, _⟩ := h.is
 exact ⟨h1.cells.1, h1.cells.2.1, h1.cells.2.2.1, h1.cells.2.2.2.1⟩
def sA (F T f : Nd) (n : Nat) (s : CS) : CR CS := forN (fun i => aE (bP F (T.kids i)) (f.kids i).num) n s
theorem yq (F T f : Nd) (K : SK) (hF : K.F = F) (n : Nat) (s : CS) : cL K (T.kids n) (f.kids n).num (sA F T f n s) = sA F T f (n + 1) s := by subst hF; rfl
theorem FC {K : SK} {T f : Nd} {s : CS} {n : Nat} (hE : ∀ i, i < T.len → (T.kids i).eOk = true) (hn : n < T.len) (ay : s.2.length + T.size ≤ K.N) (hN : K.N ≤ 1048576) : SAt K (T.kids n) (sA K.F T f n (ae s)) (aW T s.2.length n) := by
 have h1 := bV T s.2.length hn
 refine ⟨by omega, fun s' e => ?_⟩
 have := nu (g := fun i => (T.kids i).size) (fun i hi => (ej K.F _ (hE i hi)).want _) (Nat.le_of_lt hn) _ _ e
 rw [aP] at this
 exact ⟨by unfold aW; omega, by omega⟩
theorem SS.boxed {K : SK} {w0 : World} {az : Option Nat} {σ : CR CS} {ret loops outs : Int} {w : World} (h : SS K w0 az σ ret loops outs w) (o : Obj) : ∃ own, SS K (w.alloc o) own σ ret loops outs (w.alloc o) ∧ (∀ σ' r' l' o' W, SS K (w.alloc o) own σ' r' l' o' W → SS K w0 az σ' r' l' o' W) ∧
  ∀ σ' r' l' o' W, SS K (w.alloc o) own σ' r' l' o' W → W.heap[w.heap.size]? = some o := by
 obtain ⟨vv, code, place, deep, zs, vs, h1, h2, h3⟩ := h.is
 have hb : Below w.heap.size w (w.alloc o) := bA
 have bN := h1.lt
 obtain ⟨own, g1, g2, g3, g4⟩ := (h.alloc o).restart
 refine ⟨own, g1, g4, fun σ' r' l' o' W hW => ?_⟩
 have cY : ∀ k, own = some k → k < w.heap.size := by
  intro k hk
  obtain ⟨LK, c', p', d', z', s', q1, q2, q3⟩ := g1.is
  rcases q3 with q3 | ⟨i, q3, q4⟩
  ·have e1 := q1.blk
   rw [Below.heap_alloc w o K.cb bN.1, h1.blk] at e1
   have e3 : LK = vv := by
    injection e1 with e1
    injection e1 with e1
    have := congrArg (fun a : Array Value => a[7]?) e1
    simpa [SK.cells] using this.symm
   rw [e3, hk] at q3
   exact (h1.var.lt k q3).2
  ·have := (q1.var.lt i q3).2; omega
 rw [hW.keep (k := w.heap.size) (by simp) (by omega) (by omega) (fun e => by have := cY _ e.symm; omega)]
 exact heap_alloc_new w o
theorem LX {T : Nd} (hk : T.kind = 25) (K : SK) (w0 : World) (az : Option Nat) (s : CS) (ret loops outs : Int) (w : World) (v : Value) (hS : SS K w0 az (.ok (ae s)) ret loops outs w) (hE : SEnv K w) (hN : SNd K w T v) (ay : s.2.length + T.size ≤ K.N) (aS : T.eOk = true) (pV : findF K.F T.name = none) :
  Calls Tryz.prog 130 #[.pointer (some ⟨K.cb, 0, none⟩), T.val v, .int .i64 s.2.length] w fun e w' => e = .returned (.int .i64 0) ∧ SS K w0 az (.error (5, s.2.length)) ret loops outs w' := by
 have k_I17_0 := kk
 exact WY
theorem LW {T : Nd} (hk : T.kind = 25) (K : SK) (w0 : World) (az : Option Nat) (s : CS) (ret loops outs : Int) (w : World) (v : Value) (hS : SS K w0 az (.ok (ae s)) ret loops outs w) (hE : SEnv K w) (hN : SNd K w T v) (ay : s.2.length + T.size ≤ K.N) (aS : T.eOk = true) (j : Nat) (hj : findF K.F T.name = some j) (xJ : T.len + 1 ≠ (K.F.kids j).len) :
  Calls Tryz.prog 130 #[.pointer (some ⟨K.cb, 0, none⟩), T.val v, .int .i64 s.2.length] w fun e w' => e = .returned (.int .i64 0) ∧ SS K w0 az (.error (8, s.2.length)) ret loops outs w' := by
 have k_I15_0 := kk
 exact Xa
theorem LU {T : Nd} (hk : T.kind = 25) (K : SK) (w0 : World) (az : Option Nat) (s : CS) (ret loops outs : Int) (w : World) (v : Value) (hS : SS K w0 az (.ok (ae s)) ret loops outs w) (hE : SEnv K w) (hN : SNd K w T v) (ay : s.2.length + T.size ≤ K.N) (aS : T.eOk = true) (j : Nat) (hj : findF K.F T.name = some j) (xJ : T.len + 1 = (K.F.kids j).len) (ih : ∀ i, i < T.len → vX (T.kids i)) :
  Calls Tryz.prog 130 #[.pointer (some ⟨K.cb, 0, none⟩), T.val v, .int .i64 s.2.length] w fun e w' => e = .returned (.int .i64 (K.F.kids j).num) ∧ SS K w0 az (sA K.F T (K.F.kids j) T.len (ae s)) ret loops outs w' := by
 have k_I15_1 := kk
 exact Xa
theorem QO {T : Nd} (hk : T.kind = 25) (ih : ∀ i, i < T.len → vX (T.kids i)) : vJ T := by
  intro K w0 az s ret loops outs w v hS hE hN ay aS
  have iA : bI K.F T.kind T.name T.len (fun i => bP K.F (T.kids i)) (ae s) s.2.length = (match findF K.F T.name with
    | none => .error (5, s.2.length)
    | some j => if T.len + 1 = (K.F.kids j).len then CR.bind (sA K.F T (K.F.kids j) T.len (ae s)) fun s1 => .ok ((K.F.kids j).num, s1) else .error (8, s.2.length)) := by
    unfold bI
    rw [if_neg (by omega), if_neg (by omega), if_neg (by omega), if_pos hk]; rfl
  rw [iA]
  cases hj : findF K.F T.name with
  | none =>
    refine (LX hk K w0 az s ret loops outs w v hS hE hN ay aS hj).mono ?_
    rintro e w' ⟨rfl, h⟩
    exact ⟨0, rfl, fun r h => (by cases h), h⟩
  | some j =>
    dsimp only
    by_cases hc : T.len + 1 = (K.F.kids j).len
    · rw [if_pos hc]
      refine (LU hk K w0 az s ret loops outs w v hS hE hN ay aS j hj hc ih).mono ?_
      rintro e w' ⟨rfl, h⟩
      exact ⟨_, rfl, gy.1, by rw [gy.2]; exact h⟩
    · rw [if_neg hc]
      refine (LW hk K w0 az s ret loops outs w v hS hE hN ay aS j hj hc).mono ?_
      rintro e w' ⟨rfl, h⟩
      exact ⟨0, rfl, fun r h => (by cases h), h⟩
end Go.Proofs.YteaocammohcgoaaGreatDoor
