import Derived.Test.YteaocammohcgoaaGreatDoorQKdB
import Derived.StillTailTactics
import Derived.Deep.LoopGhost
set_option linter.unusedVariables false
set_option maxHeartbeats 16000000
set_option maxRecDepth 100000
namespace Go.Proofs.YteaocammohcgoaaGreatDoor
open Go.RowKit
variable {G : Prop}
theorem bL0 (h : G := by
 intro K w0 ay s ret loops outs w v hS hE hN aq aN
 obtain ⟨_, hl, cX, jB⟩ := oK hk aN
 have dr : xI T.name = false := zc (by omega)
 have ir : bC K.F T.kind T.name T.len (fun i => bL K.F (T.kids i)) (ab s) s.2.length = CR.bind (cD K (T.kids 1) 1 (cD K (T.kids 0) 1 (.ok (ab s)))) fun s1 => .ok (1, s1) := by
  exact bL6
 have k_0 := kk
 exact bL7) : G := h
theorem bL1 (h : G := by
 intro K w0 ay s ret loops outs w v hS hE hN aq aN
 obtain ⟨_, hl, cX, jB⟩ := oK hk aN
 have dr : xI T.name = false := zc (by omega)
 have ir : bC K.F T.kind T.name T.len (fun i => bL K.F (T.kids i)) (ab s) s.2.length = CR.bind (cD K (T.kids 1) 2 (cD K (T.kids 0) 2 (.ok (ab s)))) fun s1 => .ok (2, s1) := by
  exact bL6
 have k_1 := kk
 exact bL8) : G := h
theorem bL2 (h : G := by
 have k_0 := kk
 exact Nu) : G := h
theorem bL3 (h : G := by
 unfold bC
 rw [if_neg (by omega), if_neg (by omega), if_neg (by omega), if_neg (by omega), if_neg (by omega), if_pos hk, js]; rfl) : G := h
theorem bL4 (h : G := by
 unfold bC
 rw [if_neg (by omega), if_neg (by omega), if_neg (by omega), if_neg (by omega), if_pos hk, hl]; rfl) : G := h
theorem bL5 (h : G := by
 have k_0 := kk
 exact Vd) : G := h
theorem bL6 (h : G := by
 unfold bC
 iterate 7 rw [if_neg (by omega)]
 rw [if_neg (by rw [dr]; simp)]
 rw [yP]
 exact EZ) : G := h
theorem bL7 (h : G := by
 have k_0 := kk
 exact Vg) : G := h
theorem bL8 (h : G := by
 have k_1 := kk
 exact Vg) : G := h
theorem bL9 (h : G := by
 have k_0 := kk
 exact Ve) : G := h
theorem Vh (h : G := by
 rw [ir]
 have k_1 := kk
 exact Ve) : G := h
theorem Vg (h : G := by
 rw [ir]
 have k_1 := kk
 exact U7) : G := h
theorem Ve (h : G := by
 have k_0 := kk
 exact U7) : G := h
theorem Vd (h : G := by
 have k_0 := kk
 exact U5) : G := h
theorem Vc (h : G := by
 have cC := aa (fun o => fP T (w.alloc o) _ K.lo s.2.length hN.fine (by simp; omega) (ah (hS.box o) lr hN.row) hN.cost (by omega))
 have ik := aa (fun (w1 : World) (u : Value) (t : TypeId) hb ha => kT (w1 := w1) (T := T) (v := .slice (some ⟨g, off, none⟩) T.len cap) (p := s.2.length) (u := u) (t := t) hS hb ha)
 have ji := aa (fun (w1 : World) (own1 : Option Nat) (b : Nat) (u : Value) (hg : SGo K w w1 own1 b T (.slice (some ⟨g, off, none⟩) T.len cap) u s.2.length) (W : World) (σ : CR CS) (r l o : Int) (q : Nat) (ty : Int) (hW : SS K w1 own1 σ r l o W) (ha : SAt K (T.kids 0) σ q) => lC (ih 0 (by omega)) K w1 own1 σ r l o W u0 q ty hW (hg.env hE hW) ((hN.kid (by omega) dE).later (hg.below _ _ _ _ _ hW)) ha cX)
 have Ji := aa (fun (w1 : World) (own1 : Option Nat) (b : Nat) (u : Value) (hg : SGo K w w1 own1 b T (.slice (some ⟨g, off, none⟩) T.len cap) u s.2.length) (W : World) (σ : CR CS) (r l o : Int) (q : Nat) (hW : SS K w1 own1 σ r l o W) (ha : SAt K (T.kids 0) σ q) => kO (ih 0 (by omega)) K w1 own1 σ r l o W u0 q hW (hg.env hE hW) ((hN.kid (by omega) dE).later (hg.below _ _ _ _ _ hW)) ha cX)
 first
 |clear k_0
  have vt := aa (fun (w1 : World) (own1 : Option Nat) (b : Nat) (u : Value) (hg : SGo K w w1 own1 b T (.slice (some ⟨g, off, none⟩) T.len cap) u s.2.length) (W : World) (σ : CR CS) (r l o : Int) (q : Nat) (ty : Int) (hW : SS K w1 own1 σ r l o W) (ha : SAt K (T.kids 1) σ q) => lC (ih 1 (by omega)) K w1 own1 σ r l o W u1 q ty hW (hg.env hE hW) ((hN.kid (by omega) fG).later (hg.below _ _ _ _ _ hW)) ha jB)
  have HV1 := aa (fun (w1 : World) (own1 : Option Nat) (b : Nat) (u : Value) (hg : SGo K w w1 own1 b T (.slice (some ⟨g, off, none⟩) T.len cap) u s.2.length) (W : World) (σ : CR CS) (r l o : Int) (q : Nat) (hW : SS K w1 own1 σ r l o W) (ha : SAt K (T.kids 1) σ q) => kO (ih 1 (by omega)) K w1 own1 σ r l o W u1 q hW (hg.env hE hW) ((hN.kid (by omega) fG).later (hg.below _ _ _ _ _ hW)) ha jB)
  have ov := aa (SAt.kid0 aq dm (by omega))
  first
  |clear k_0
   have FV := aa (SAt.next (τ := cD K (T.kids 0) 1 (.ok (ab s))) ov.out (by omega) aq dm (gQ cX))
   first
   |clear k_0
    have k_1 := kk
    exact Vd
   |clear k_1
    exact bL5
  |clear k_1
   first
   |clear k_0
    have FV := aa (SAt.next (τ := jY K (T.kids 0) (.ok (ab s))) ov.out (by omega) aq dm (Ci cX))
    have Pd := aa (fun t (h : Fx K (T.kids 0) (.ok (ab s)) t) => ID (K := K) (A := T.kids 0) (B := T.kids 1) (s := ab s) h)
    have k_1 := kk
    exact U5
   |clear k_1
    have FV := aa (SAt.next (τ := cD K (T.kids 0) 2 (.ok (ab s))) ov.out (by omega) aq dm (gQ cX))
    exact bL5
 |clear k_1
  have ov := aa (SAt.kid0 aq dm (by omega))
  unfold Nd.val at *
  rw [hk] at cC ik ⊢
  have gi := aa hk
  have gh : 0 < T.len := by omega
  first
  |clear k_0
   clear ir hS hE hN hk aN ih eT aQ cX dE hl js
   have k_0 := kk
   exact Va
  |clear k_1
   clear ir hS hE hN hk aN ih eT aQ cX dE hl
   have k_1 := kk
   exact Va) : G := h
theorem Vb (h : G := by
 have k_1 := kk
 exact U9) : G := h
theorem Va (h : G := by
 generalize hq : s.2.length = q at *
 have bI := jz
 go_enter Tryz.func130, Tryz.ntmps130
 go_wp2_with (first
  |(go_at_call 44; refine (cC.out _).mono ?_; rintro e w1 ⟨u, rfl, bx, hb1⟩; obtain ⟨own1, az, aZ, dR⟩ := ik.out w1 u _ hb1 bx; obtain ⟨ga, oa, ca, rfl, nI, fg⟩ := dR.ats (by omega); have HG := aa dR; have gM := aa fg; have gL := aa aZ; obtain ⟨b0, b1, b2, b3⟩ := HG.out.box _ _ _ _ _ az; rw [gi.out] at b0; have a0 := gM.out _ _ _ _ _ az 0 (by omega); rw [Nat.add_zero] at a0; obtain ⟨eD, eC, eB, eA⟩ := dH.out _ (HG.out.below _ _ _ _ _ az); have bb := aa az; clear az aZ dR fg bx hb1))
 first
 |clear k_0
  go_outline
  go_still_tail 9, bI
  first
  |clear k_0
   exact bL2
  |clear k_1
   have k_1 := kk
   exact Nu
 |clear k_1
  first
  |clear k_0
   go_still_tail 8, bI
   exact bL2
  |clear k_1
   go_outline
   go_still_tail 8, bI
   have k_2 := kk
   exact Nu) : G := h
theorem U9 (h : G := by
 have dm := hS.ok.few
 have bB := hS.lt
 have yX := hS.ok.cl
 have cC := aa (fun o => fP T (w.alloc o) v K.lo s.2.length hN.fine (by have := hS.ok.cl; simp; omega) (ah (hS.box o) lr hN.row) hN.cost (by omega))
 have ik := aa (fun (w1 : World) (u : Value) (t : TypeId) hb ha => kT (w1 := w1) (T := T) (v := v) (p := s.2.length) (u := u) (t := t) hS hb ha)
 have HF := aa (fun W (hb : Below K.lo w W) (hz : K.lo ≤ W.heap.size) => u7 K.F W K.fv K.lo T.name hE.fine hz (ah hb lr hE.row))
 first
 |clear k_0
  have KO : Hid (kA K.F T.name = -1) := by unfold Hid kA; rw [pR]
  have gi := aa hk
  unfold Nd.val at *
  rw [hk] at cC ik ⊢
  clear hS hE hN hk pR
  have k_0 := kk
  exact Nw
 |clear k_1
  have rO := (ig hj).1
  obtain ⟨gF, oF, cF, Rv, hgF, hcF, hkF⟩ := cN hE.row (by omega)
  obtain ⟨uf, RO, Hz⟩ := hkF j rO
  have Kl := s7 (jJ hE.ok rO)
  have El := Nd.fine_len (Nd.fine_kid hE.fine rO)
  obtain ⟨af, cf, Ow, RI, Mi⟩ := ar.1 Hz
  have HQF := aa Mi
  clear Mi
  subst Ow
  have HCF := aa RO
  have KO : Hid (kA K.F T.name = j) := by unfold Hid kA; rw [show findF K.F T.name = some j from hj]
  have gi := aa hk
  have HFV := aa Rv
  have hTl := T.fine_len hN.fine
  obtain ⟨a, cap, hv, b7, Mj⟩ := ar.1 hN.row
  have OZ := aa Mj
  clear Mj
  subst hv
  first
  |clear k_0
   have yW : ((T.len : Int) == ((K.F.kids j).len : Int) - 1) = false := bn (by omega)
   have hjF : (j : Int) < (K.F.len : Int) := by omega
   unfold Nd.val at *
   rw [hk] at cC ik ⊢
   clear hS hE hN hk hj RO hkF Hz Rv
   have k_1 := kk
   exact Nw
  |clear k_1
   have yW : ((T.len : Int) == ((K.F.kids j).len : Int) - 1) = true := beq_iff_eq.2 (by omega)
   have RM : ((T.len : Int) != ((K.F.kids j).len : Int) - 1) = false := by simp only [bne, yW, Bool.not_true]
   have hcl' : T.len < (K.F.kids j).len := by omega
   have hjF : (j : Int) < (K.F.len : Int) := by omega
   have hj0 : decide ((j : Int) < 0) = false := by simp
   unfold Nd.val at *
   rw [hk] at cC ik ⊢
   have HCN := aa xo
   have HEE := aa (EK gi.out aN)
   have Jq := aa ih
   have kH := aa (fun (h0 : T.len ≠ 0) => cN hN.row h0)
   have KT := aa (fun n (hn : n < T.len) => E5 (K := K) (f := K.F.kids j) HEE.out hn aq dm)
   have BX := aa hE
   have KP := aa hN
   clear hS hE hN hk hj RO hkF Hz Rv xo ih
   have k_2 := kk
   exact Nw) : G := h
theorem Nw (h : G := by
 generalize hq : s.2.length = q at *
 have bI := jz
 go_enter Tryz.func130, Tryz.ntmps130
 go_wp2_with (go_at_call 44; refine (cC.out _).mono ?_; rintro e w1 ⟨u, rfl, bx, hb1⟩; obtain ⟨own1, az, aZ, dR⟩ := ik.out w1 u _ hb1 bx; obtain ⟨b0, b1, b2, b3⟩ := dR.box _ _ _ _ _ az; rw [gi.out] at b0; obtain ⟨x0, x1, x2, x3⟩ := az.file; obtain ⟨y0, y1⟩ := az.lt; have HG := aa dR; have bb := aa az; have gL := aa aZ; clear hb1 bx az dR aZ)
 go_still_tail 6, bI
 first
 |clear k_0
  go_wp2_with (first
   |(go_at_call 45; refine (HF.out _ (HG.out.below _ _ _ _ _ bb.out.drew) (by have : K.cb < w1.heap.size := y0; show K.lo ≤ w1.heap.size; omega)).mono ?_; rw [KO.out]; rintro e w2 ⟨rfl, hb2⟩; have aD := bb.out.drew.calm hb2; obtain ⟨b0, b1, b2, b3⟩ := HG.out.box _ _ _ _ _ aD; rw [gi.out] at b0; obtain ⟨x0, x1, x2, x3⟩ := aD.file; obtain ⟨z0, z1⟩ := aD.lt; have z3 := World.block_lt_of_cell? w2 ⟨w.heap.size, 3, none⟩ b3; dsimp only at z3; have bM := aa aD; clear hb2 aD)
   |(go_at_call 46; refine (dW bM.out 5 (by decide) q).mono ?_; rintro e w3 ⟨rfl, bW⟩; have fa := aa (gL.out _ _ _ _ _ bW); clear bW))
  go_ret
  exact ⟨rfl, fa.out⟩
 |clear k_1
  go_wp2_with (first
   |(go_at_call 45; refine (HF.out _ (HG.out.below _ _ _ _ _ bb.out.drew) (by have : K.cb < w1.heap.size := y0; show K.lo ≤ w1.heap.size; omega)).mono ?_; rw [KO.out]; rintro e w2 ⟨rfl, hb2⟩; have aD := bb.out.drew.calm hb2; obtain ⟨b0, b1, b2, b3⟩ := HG.out.box _ _ _ _ _ aD; rw [gi.out] at b0; obtain ⟨x0, x1, x2, x3⟩ := aD.file; obtain ⟨z0, z1⟩ := aD.lt; have z3 := World.block_lt_of_cell? w2 ⟨w.heap.size, 3, none⟩ b3; dsimp only at z3; rw [HFV.out] at x3; obtain ⟨f0, f1, f2, f3⟩ := HCF.out _ (HG.out.below _ _ _ _ _ aD); have bM := aa aD; clear hb2 aD)
   |(go_at_call 46; refine (dW (bM.out.alloc _) 8 (by decide) q).mono ?_; rintro e w3 ⟨rfl, bW⟩; have fa := aa (gL.out _ _ _ _ _ bW); clear bW))
  go_ret
  exact ⟨rfl, fa.out⟩
 |clear k_2
  go_wp2_with (first
   |(go_at_call 45; refine (HF.out _ (HG.out.below _ _ _ _ _ bb.out.drew) (by have : K.cb < w1.heap.size := y0; show K.lo ≤ w1.heap.size; omega)).mono ?_; rw [KO.out]; rintro e w2 ⟨rfl, hb2⟩; have aD := bb.out.drew.calm hb2; obtain ⟨b0, b1, b2, b3⟩ := HG.out.box _ _ _ _ _ aD; rw [gi.out] at b0; obtain ⟨x0, x1, x2, x3⟩ := aD.file; obtain ⟨z0, z1⟩ := aD.lt; have z3 := World.block_lt_of_cell? w2 ⟨w.heap.size, 3, none⟩ b3; dsimp only at z3; rw [HFV.out] at x3; obtain ⟨f0, f1, f2, f3⟩ := HCF.out _ (HG.out.below _ _ _ _ _ aD); have bM := aa aD; clear hb2 aD))
  obtain ⟨qU, bW, ee, xr⟩ := bM.out.boxed (.cells #[.int .i64 (K.F.kids j).kind, .int .i64 (K.F.kids j).num, .string (K.F.kids j).name, .slice af (K.F.kids j).len cf] 25)
  have fa := aa bW
  have fI := aa ee
  have cJ := aa xr
  clear bW ee xr
  go_loopg [11] T.len (fun gk i wr => ∃ n : Nat, gk = T.len - n ∧ n ≤ T.len ∧ i = .int .i64 n ∧ SS K (w2.alloc (.cells #[.int .i64 (K.F.kids j).kind, .int .i64 (K.F.kids j).num, .string (K.F.kids j).name, .slice af (K.F.kids j).len cf] 25)) qU (so K.F T (K.F.kids j) n (ab s)) ret loops outs wr)
  case atStart => exact ⟨0, by omega, Nat.zero_le _, rfl, fa.out⟩
  case round =>
   obtain ⟨n, rP, hn, rfl, cr⟩ := hrel
   have zv := aa rP
   clear rP
   have gP := fI.out _ _ _ _ _ cr
   obtain ⟨d0, d1, d2, d3⟩ := HG.out.box _ _ _ _ _ gP
   have BO := cJ.out _ _ _ _ _ cr
   have e0 : wr.cell? ⟨w2.heap.size, 0, none⟩ = some (.int .i64 (K.F.kids j).kind) := by simp [World.cell?, BO]
   have e1 : wr.cell? ⟨w2.heap.size, 1, none⟩ = some (.int .i64 (K.F.kids j).num) := by simp [World.cell?, BO]
   have e3 : wr.cell? ⟨w2.heap.size, 3, none⟩ = some (.slice af (K.F.kids j).len cf) := by simp [World.cell?, BO]
   have fe := HG.out.below _ _ _ _ _ gP
   have iK := aa cr
   have Jy := aa gP
   have HLO := aa fe
   clear BO cr gP fe
   by_cases bB : n < T.len
   ·obtain ⟨g, off, l5, lZ, iW, rR, aQ⟩ := kH.out (by omega)
    injection lZ with ti Kz th
    subst ti
    subst th
    obtain ⟨ga, oa, ca, QM, nI, fg⟩ := HG.out.ats (by omega)
    subst QM
    obtain ⟨un, kE, jG⟩ := aQ n bB
    obtain ⟨c0, c1, c2, c3⟩ := kE _ HLO.out
    have an := fg _ _ _ _ _ Jy.out n bB
    have Mi := HQF.out
    rcases Mi with h0 | ⟨gf, of, haf, _, hgf, hpf⟩
    ·omega
    subst haf
    obtain ⟨up, p0, p1, p2, p3, _⟩ := hpf n (by omega)
    have p1' := (HLO.out.cell (p := ⟨gf, of + n * 4 + 1, none⟩) hgf).trans p1
    have Jh := aa (lC (Jq.out n bB) K _ qU _ ret loops outs wr.drew un (aV T q n) ((K.F.kids j).kids n).num iK.out.drew (BX.out.later HLO.out.drew) ((KP.out.kid bB jG).later HLO.out.drew) (KT.out n bB) (HEE.out n bB))
    unfold Nd.val at Jh
    have hni : (n : Int) < (T.len : Int) := by omega
    have OC : (n : Int) < ((K.F.kids j).len : Int) := by omega
    clear kE jG fg hpf p0 p1 p2 p3 aQ
    go_wp2
    go_still_tail 16, bI
    go_wp2_with (go_at_call 109; refine Jh.out.mono ?_; rintro e w5 ⟨rfl, jh⟩; have l7 := aa jh; clear jh)
    go_roundg (T.len - (n + 1))
    case rel =>
     refine ⟨n + 1, rfl, by omega, by go_num, ?_⟩
     rw [← xT K.F T (K.F.kids j) K rfl n (ab s)]
     exact l7.out
    case measure => have := zv.out; omega
   ·go_wp2
    go_ret
    obtain rfl : n = T.len := by omega
    exact ⟨rfl, gL.out _ _ _ _ _ Jy.out⟩) : G := h
theorem U8 (h : G := by
 have k_0 := kk
 exact U6) : G := h
theorem Nv (h : G := by
 have k_1 := kk
 exact U6) : G := h
theorem U7 (h : G := by
 have dm := hS.ok.few
 have bB := hS.lt
 have yX := hS.ok.cl
 obtain ⟨g, off, cap, hv, iW, b7, aQ⟩ := cN hN.row (by omega)
 subst hv
 obtain ⟨u0, eT, dE⟩ := aQ 0 (by omega)
 simp only [Nat.zero_mul, Nat.add_zero] at eT
 have dH := aa eT
 first
 |clear k_0
  have k_1 := kk
  exact Vc
 |clear k_1
  obtain ⟨u1, ed, fG⟩ := aQ 1 (by omega)
  simp only [Nat.one_mul] at ed
  have fD := aa ed
  have k_0 := kk
  exact Vc) : G := h
theorem U6 (h : G := by
 rw [ir]
 have dm := hS.ok.few
 have bB := hS.lt
 have cC := aa (fun o => fP T (w.alloc o) v K.lo s.2.length hN.fine (by have := hS.ok.cl; simp; omega) (ah (hS.box o) lr hN.row) hN.cost (by omega))
 have HS := aa (fun o => hS.alloc o)
 unfold Nd.val at *
 rw [hk] at cC ⊢
 first
 |clear k_0
  clear ir hS hE hN hk
  generalize hq : s.2.length = q at *
  first
  |clear k_0
   generalize T.num = tn at *
   generalize T.name = ts at *
   go_enter Tryz.func130, Tryz.ntmps130
   go_wp2_with (go_at_call 44; refine (cC.out _).mono ?_; rintro e w1 ⟨u, rfl, bx, hb1⟩; have fc := aa hb1; have FV := aa bx; have k0 : w1.cell? ⟨w.heap.size, 0, none⟩ = some (.int .i64 22) := (hb1.cell (p := ⟨w.heap.size, 0, none⟩) (by simp)).trans (by simp); clear hb1 bx)
   go_ret
   exact ⟨1, rfl, fun r h => (by injection h with h; subst h; rfl), (HS.out _).calm fc.out⟩
  |clear k_1
   go_enter Tryz.func130, Tryz.ntmps130
   go_wp2_with (go_at_call 44; refine (cC.out _).mono ?_; rintro e w1 ⟨u, rfl, bx, hb1⟩; have bb := aa ((HS.out _).calm hb1); have k0 : w1.cell? ⟨w.heap.size, 0, none⟩ = some (.int .i64 23) := (hb1.cell (p := ⟨w.heap.size, 0, none⟩) (by simp)).trans (by simp); have k2 : w1.cell? ⟨w.heap.size, 2, none⟩ = some (.string T.name) := (hb1.cell (p := ⟨w.heap.size, 2, none⟩) (by simp)).trans (by simp); have k3 : w1.cell? ⟨w.heap.size, 3, none⟩ = some v := (hb1.cell (p := ⟨w.heap.size, 3, none⟩) (by simp)).trans (by simp); clear hb1 bx)
   go_ret
   exact ⟨2, rfl, fun r h => (by injection h with h; subst h; rfl), bb.out⟩
 |clear k_1
  first
  |clear k_0
   have H0 := aa (lP.trans h0)
   clear ir hS hE hN hk lP h0
   generalize hq : s.2.length = q at *
   go_enter Tryz.func130, Tryz.ntmps130
   go_wp2_with (first
    |(go_at_call 44; refine (cC.out _).mono ?_; rintro e w1 ⟨u, rfl, bx, hb1⟩; have bb := aa ((HS.out _).calm hb1); have k0 : w1.cell? ⟨w.heap.size, 0, none⟩ = some (.int .i64 24) := (hb1.cell (p := ⟨w.heap.size, 0, none⟩) (by simp)).trans (by simp); have k2 : w1.cell? ⟨w.heap.size, 2, none⟩ = some (.string T.name) := (hb1.cell (p := ⟨w.heap.size, 2, none⟩) (by simp)).trans (by simp); have k3 : w1.cell? ⟨w.heap.size, 3, none⟩ = some v := (hb1.cell (p := ⟨w.heap.size, 3, none⟩) (by simp)).trans (by simp); clear hb1 bx)
    |(go_at_call 108; refine (iU bb.out _).mono ?_; rw [H0.out]; rintro e w2 ⟨rfl, aD⟩; have bM := aa aD; clear aD)
    |(go_at_call 46; refine (dW bM.out 5 (by decide) q).mono ?_; rintro e w3 ⟨rfl, bW⟩; have fa := aa bW; clear bW))
   go_ret
   exact ⟨0, rfl, fun r h => (by cases h), fa.out⟩
  |clear k_1
   have H0 : Hid (look (ab s).1 T.name = look s.1 T.name) := lP
   have p6 : (look s.1 T.name == 0) = false := bn h0
   clear ir hS hE hN hk lP h0
   generalize look s.1 T.name = lk at *
   generalize hq : s.2.length = q at *
   go_enter Tryz.func130, Tryz.ntmps130
   go_wp2_with (first
    |(go_at_call 44; refine (cC.out _).mono ?_; rintro e w1 ⟨u, rfl, bx, hb1⟩; have bb := aa ((HS.out _).calm hb1); have k0 : w1.cell? ⟨w.heap.size, 0, none⟩ = some (.int .i64 24) := (hb1.cell (p := ⟨w.heap.size, 0, none⟩) (by simp)).trans (by simp); have k2 : w1.cell? ⟨w.heap.size, 2, none⟩ = some (.string T.name) := (hb1.cell (p := ⟨w.heap.size, 2, none⟩) (by simp)).trans (by simp); have k3 : w1.cell? ⟨w.heap.size, 3, none⟩ = some v := (hb1.cell (p := ⟨w.heap.size, 3, none⟩) (by simp)).trans (by simp); clear hb1 bx)
    |(go_at_call 108; refine (iU bb.out _).mono ?_; rw [H0.out]; rintro e w2 ⟨rfl, aD⟩; have bM := aa aD; clear aD))
   go_ret
   exact ⟨lk, rfl, fun r h => (by injection h with h; subst h; rfl), bM.out⟩
  |clear k_2
   obtain ⟨a, cap, rfl, _⟩ := ar.1 hN.row
   rw [hl] at *
   clear ir hS hE hN hk hl
   generalize hq : s.2.length = q at *
   go_enter Tryz.func130, Tryz.ntmps130
   go_wp2_with (go_at_call 44; refine (cC.out _).mono ?_; rintro e w1 ⟨u, rfl, bx, hb1⟩; have bb := aa ((HS.out _).calm hb1); have k0 : w1.cell? ⟨w.heap.size, 0, none⟩ = some (.int .i64 26) := (hb1.cell (p := ⟨w.heap.size, 0, none⟩) (by simp)).trans (by simp); have k2 : w1.cell? ⟨w.heap.size, 2, none⟩ = some (.string T.name) := (hb1.cell (p := ⟨w.heap.size, 2, none⟩) (by simp)).trans (by simp); have k3 : w1.cell? ⟨w.heap.size, 3, none⟩ = some (.slice a 0 cap) := (hb1.cell (p := ⟨w.heap.size, 3, none⟩) (by simp)).trans (by simp); clear hb1 bx)
   go_ret
   exact ⟨3, rfl, fun r h => (by injection h with h; subst h; rfl), bb.out⟩) : G := h
theorem U5 (h : G := by
 unfold Nd.val at *
 rw [hk] at cC ik ⊢
 have gi := aa hk
 have yb := aa yP
 have gh : 0 < T.len := by omega
 have np : (1 : Int) < (T.len : Int) := by omega
 have j8 : 1 < T.len := by omega
 first
 |clear k_0
  clear ir hS hE hN hk aN ih eT ed aQ cX jB dE fG hl yP dr
  generalize hq : s.2.length = q at *
  have bI := jz
  go_enter Tryz.func130, Tryz.ntmps130
  go_wp2_with (first
   |(go_at_call 44; refine (cC.out _).mono ?_; rintro e w1 ⟨u, rfl, bx, hb1⟩; obtain ⟨own1, az, aZ, dR⟩ := ik.out w1 u _ hb1 bx; obtain ⟨ga, oa, ca, rfl, nI, fg⟩ := dR.ats (by omega); have HG := aa dR; have gM := aa fg; have gL := aa aZ; obtain ⟨b0, b1, b2, b3⟩ := HG.out.box _ _ _ _ _ az; rw [gi.out] at b0; have a0 := gM.out _ _ _ _ _ az 0 (by omega); rw [Nat.add_zero] at a0; obtain ⟨eD, eC, eB, eA⟩ := dH.out _ (HG.out.below _ _ _ _ _ az); have a1 := gM.out _ _ _ _ _ az 1 (by omega); obtain ⟨gG, gB, gE, gA⟩ := fD.out _ (HG.out.below _ _ _ _ _ az); have bb := aa az; clear az aZ dR fg bx hb1)
   |(go_at_call 114; refine (sN _ _).mono ?_; rw [yb.out]; rintro e w2 ⟨rfl, hb2⟩; have aD := bb.out.calm hb2; clear hb2; obtain ⟨b0, b1, b2, b3⟩ := HG.out.box _ _ _ _ _ aD; rw [gi.out] at b0; have a0 := gM.out _ _ _ _ _ aD 0 (by omega); rw [Nat.add_zero] at a0; obtain ⟨eD, eC, eB, eA⟩ := dH.out _ (HG.out.below _ _ _ _ _ aD); have a1 := gM.out _ _ _ _ _ aD 1 (by omega); obtain ⟨gG, gB, gE, gA⟩ := fD.out _ (HG.out.below _ _ _ _ _ aD); have bM := aa aD; clear aD))
  go_still_tail 8, bI
  go_wp2_with (go_at_call 109; refine (ji.out _ _ _ _ HG.out _ _ _ _ _ _ _ bM.out.drew ov.out).mono ?_; rintro e w3 ⟨rfl, bW⟩; obtain ⟨b0, b1, b2, b3⟩ := HG.out.box _ _ _ _ _ bW; rw [gi.out] at b0; have a0 := gM.out _ _ _ _ _ bW 0 (by omega); rw [Nat.add_zero] at a0; obtain ⟨eD, eC, eB, eA⟩ := dH.out _ (HG.out.below _ _ _ _ _ bW); have a1 := gM.out _ _ _ _ _ bW 1 (by omega); obtain ⟨gG, gB, gE, gA⟩ := fD.out _ (HG.out.below _ _ _ _ _ bW); have fa := aa bW; clear bW)
  go_still_tail 8, bI
  go_wp2_with (go_at_call 109; refine (vt.out _ _ _ _ HG.out _ _ _ _ _ _ _ fa.out.drew FV.out).mono ?_; rintro e w4 ⟨rfl, fH⟩; have kG := aa (gL.out _ _ _ _ _ fH); clear fH)
  go_ret
  first
  |clear k_0
   exact ⟨2, rfl, gm.1, by rw [gm.2]; exact kG.out⟩
  |clear k_1
   exact ⟨1, rfl, gm.1, by rw [gm.2]; exact kG.out⟩
 |clear k_1
  have dc := IF heq
  clear ir hS hE hN hk aN ih eT ed aQ cX jB dE fG hl yP heq
  generalize hq : s.2.length = q at *
  have bI := jz
  rcases dc with ⟨uN, vD⟩ | ⟨uN, vD⟩
  all_goals go_enter Tryz.func130, Tryz.ntmps130
  all_goals go_wp2_with (first
   |(go_at_call 44; refine (cC.out _).mono ?_; rintro e w1 ⟨u, rfl, bx, hb1⟩; obtain ⟨own1, az, aZ, dR⟩ := ik.out w1 u _ hb1 bx; obtain ⟨ga, oa, ca, rfl, nI, fg⟩ := dR.ats (by omega); have HG := aa dR; have gM := aa fg; have gL := aa aZ; obtain ⟨b0, b1, b2, b3⟩ := HG.out.box _ _ _ _ _ az; rw [gi.out] at b0; have a0 := gM.out _ _ _ _ _ az 0 (by omega); rw [Nat.add_zero] at a0; obtain ⟨eD, eC, eB, eA⟩ := dH.out _ (HG.out.below _ _ _ _ _ az); have a1 := gM.out _ _ _ _ _ az 1 (by omega); obtain ⟨gG, gB, gE, gA⟩ := fD.out _ (HG.out.below _ _ _ _ _ az); have bb := aa az; clear az aZ dR fg bx hb1)
   |(go_at_call 114; refine (sN _ _).mono ?_; rw [yb.out]; rintro e w2 ⟨rfl, hb2⟩; have aD := bb.out.calm hb2; clear hb2; obtain ⟨b0, b1, b2, b3⟩ := HG.out.box _ _ _ _ _ aD; rw [gi.out] at b0; have a0 := gM.out _ _ _ _ _ aD 0 (by omega); rw [Nat.add_zero] at a0; obtain ⟨eD, eC, eB, eA⟩ := dH.out _ (HG.out.below _ _ _ _ _ aD); have a1 := gM.out _ _ _ _ _ aD 1 (by omega); obtain ⟨gG, gB, gE, gA⟩ := fD.out _ (HG.out.below _ _ _ _ _ aD); have bM := aa aD; clear aD))
  all_goals go_still_tail 8, bI
  all_goals go_wp2_with (go_at_call 107; refine (Ji.out _ _ _ _ HG.out _ _ _ _ _ _ bM.out.drew ov.out).mono ?_; rintro e w3 ⟨t, rfl, hR, bW⟩; obtain ⟨b0, b1, b2, b3⟩ := HG.out.box _ _ _ _ _ bW; rw [gi.out] at b0; have a0 := gM.out _ _ _ _ _ bW 0 (by omega); rw [Nat.add_zero] at a0; obtain ⟨eD, eC, eB, eA⟩ := dH.out _ (HG.out.below _ _ _ _ _ bW); have a1 := gM.out _ _ _ _ _ bW 1 (by omega); obtain ⟨gG, gB, gE, gA⟩ := fD.out _ (HG.out.below _ _ _ _ _ bW); have fa := aa bW; have HR := aa hR; clear bW hR)
  all_goals go_still_tail 9, bI
  all_goals go_wp2_with (go_at_call 109; refine (vt.out _ _ _ _ HG.out _ _ _ _ _ _ _ fa.out.drew FV.out).mono ?_; rintro e w4 ⟨rfl, fH⟩; have kG := aa (gL.out _ _ _ _ _ fH); clear fH)
  all_goals go_ret
  all_goals exact ⟨2, rfl, gm.1, by rw [gm.2, ← Pd.out _ HR.out]; exact kG.out⟩) : G := h
theorem Nu (h : G := by
 go_wp2_with (go_at_call 109; refine (ji.out _ _ _ _ HG.out _ _ _ _ _ _ _ bb.out.drew ov.out).mono ?_; rintro e w2 ⟨rfl, aD⟩; have bM := aa (gL.out _ _ _ _ _ aD); clear aD)
 go_ret
 first
 |clear k_0
  exact ⟨1, rfl, gm.1, by rw [gm.2]; exact bM.out⟩
 |clear k_1
  exact ⟨2, rfl, gm.1, by rw [gm.2]; exact bM.out⟩
 |clear k_2
  exact ⟨3, rfl, gm.1, by rw [gm.2]; exact bM.out⟩) : G := h
theorem Po {T : Nd} (hk : T.kind = 22) : vo T := by
 intro K w0 ay s ret loops outs w v hS hE hN aq aN
 have ir : bC K.F T.kind T.name T.len (fun i => bL K.F (T.kids i)) (ab s) s.2.length = .ok (1, ab s) := by unfold bC; rw [if_pos hk]
 have k_0 := kk
 exact U8
theorem gm {X : CR CS} {t : Int} : (∀ r, CR.bind X (fun s1 => .ok (t, s1)) = .ok r → t = r.1) ∧ (CR.bind (CR.bind X fun s1 => .ok (t, s1)) fun r => .ok r.2) = X := by
 refine ⟨fun r h => ?_, ?_⟩
 ·obtain ⟨a, _, h2⟩ := bg h
  injection h2 with h2; subst h2; rfl
 ·cases X <;> rfl
theorem Pk {T : Nd} (hk : T.kind = 29) (ih : ∀ i, i < T.len → vA (T.kids i)) : vo T := by
 intro K w0 ay s ret loops outs w v hS hE hN aq aN
 obtain ⟨hl, cX⟩ := EJ hk aN
 have ir : bC K.F T.kind T.name T.len (fun i => bL K.F (T.kids i)) (ab s) s.2.length = CR.bind (cD K (T.kids 0) 3 (.ok (ab s))) fun s1 => .ok (1, s1) := by
  unfold bC
  rw [if_neg (by omega), if_neg (by omega), if_neg (by omega), if_neg (by omega), if_neg (by omega), if_neg (by omega), if_pos hk]; rfl
 have k_0 := kk
 exact Vh
theorem Pn {T : Nd} (hk : T.kind = 23) : vo T := by
 intro K w0 ay s ret loops outs w v hS hE hN aq aN
 have ir : bC K.F T.kind T.name T.len (fun i => bL K.F (T.kids i)) (ab s) s.2.length = .ok (2, ab s) := by
  unfold bC
  rw [if_neg (by omega), if_pos hk]; done
 have k_1 := kk
 exact U8
theorem Pm {T : Nd} (hk : T.kind = 24) : vo T := by
 intro K w0 ay s ret loops outs w v hS hE hN aq aN
 have lP : look (ab s).1 T.name = look s.1 T.name := rfl
 by_cases h0 : look s.1 T.name = 0
 ·have ir : bC K.F T.kind T.name T.len (fun i => bL K.F (T.kids i)) (ab s) s.2.length = .error (5, s.2.length) := by
   unfold bC
   rw [if_neg (by omega), if_neg (by omega), if_pos hk, if_pos (lP.trans h0)]
  have k_0 := kk
  exact Nv
 ·have ir : bC K.F T.kind T.name T.len (fun i => bL K.F (T.kids i)) (ab s) s.2.length = .ok (look s.1 T.name, ab s) := by
   unfold bC
   rw [if_neg (by omega), if_neg (by omega), if_pos hk, if_neg (fun e => h0 (lP.symm.trans e))]; rfl
  have k_1 := kk
  exact Nv
theorem sK (s : ByteArray) : qW s = (s.toList == [33]) := by
 have h : (s.toList == (⟨#[33]⟩ : ByteArray).toList) = decide (s = ⟨#[33]⟩) := lT s ⟨#[33]⟩
 have e : (⟨#[33]⟩ : ByteArray).toList = [33] := by rw [ByteArray.toList_eq]
 rw [e] at h
 rw [h]
 unfold qW hasB
 simp [eq_comm]
theorem K0 {T : Nd} (hk : T.kind = 27) (js : qW T.name = true) (ih : ∀ i, i < T.len → vA (T.kids i)) : vo T := by
 intro K w0 ay s ret loops outs w v hS hE hN aq aN
 obtain ⟨hl, cX⟩ := ze hk aN
 have ir : bC K.F T.kind T.name T.len (fun i => bL K.F (T.kids i)) (ab s) s.2.length = CR.bind (cD K (T.kids 0) 2 (.ok (ab s))) fun s1 => .ok (2, s1) := by
  exact bL3
 rw [ir]
 have Me : (T.name.toList == [33]) = true := by rw [← sK]; exact js
 have k_1 := kk
 exact bL9
theorem K2 {T : Nd} (hk : T.kind = 27) (js : qW T.name = false) (ih : ∀ i, i < T.len → vA (T.kids i)) : vo T := by
 intro K w0 ay s ret loops outs w v hS hE hN aq aN
 obtain ⟨hl, cX⟩ := ze hk aN
 have ir : bC K.F T.kind T.name T.len (fun i => bL K.F (T.kids i)) (ab s) s.2.length = CR.bind (cD K (T.kids 0) 1 (.ok (ab s))) fun s1 => .ok (1, s1) := by
  exact bL3
 rw [ir]
 have Me : (T.name.toList == [33]) = false := by rw [← sK]; exact js
 have k_0 := kk
 exact bL9
theorem K5 {T : Nd} (hk : T.kind = 26) (hl : T.len = 0) : vo T := by
 intro K w0 ay s ret loops outs w v hS hE hN aq aN
 have ir : bC K.F T.kind T.name T.len (fun i => bL K.F (T.kids i)) (ab s) s.2.length = .ok (3, ab s) := by
  exact bL4
 have k_2 := kk
 exact Nv
theorem K4 {T : Nd} (hk : T.kind = 26) (hl : T.len = 1) (ih : ∀ i, i < T.len → vA (T.kids i)) : vo T := by
 intro K w0 ay s ret loops outs w v hS hE hN aq aN
 have cX := (zg hk aN).2 0 (by omega)
 have ir : bC K.F T.kind T.name T.len (fun i => bL K.F (T.kids i)) (ab s) s.2.length = CR.bind (cD K (T.kids 0) 1 (.ok (ab s))) fun s1 => .ok (3, s1) := by
  exact bL4
 have k_1 := kk
 exact Vh
theorem EZ {K : SK} {A B : Nd} {t t' x : Int} {s : CS} : (CR.bind (aC (bL K.F A) t s) fun s1 => CR.bind (aC (bL K.F B) t' s1) fun s2 => .ok (x, s2)) = CR.bind (cD K B t' (cD K A t (.ok s))) fun s1 => .ok (x, s1) := by
 unfold cD
 simp only [CR.bind_ok]
 cases aC (bL K.F A) t s <;> rfl
def Sq (K : SK) (A B : Nd) (s : CS) : CR CS := CR.bind (cE (bL K.F A) s) fun r => aC (bL K.F B) r.1 r.2
theorem IE {K : SK} {A B : Nd} {x : Int} {s : CS} : (CR.bind (cE (bL K.F A) s) fun r => CR.bind (aC (bL K.F B) r.1 r.2) fun s2 => .ok (x, s2)) = CR.bind (Sq K A B s) fun s1 => .ok (x, s1) := by
 unfold Sq
 cases cE (bL K.F A) s <;> rfl
theorem ID {K : SK} {A B : Nd} {s : CS} {t : Int} (h : Fx K A (.ok s) t) : cD K B t (jY K A (.ok s)) = Sq K A B s := by
 unfold Sq cD jY
 simp only [CR.bind_ok]
 cases hv : cE (bL K.F A) s with
 |error e => rfl
 |ok r => rw [h s r rfl (gR hv).1]; rfl
theorem zb {s : ByteArray} (h : xI s = true) : s = ⟨#[61, 61]⟩ ∨ s = ⟨#[33, 61]⟩ := by
 have := (jS _ _).1 h
 simpa using this
theorem KB {s : ByteArray} (h : xI s = true) : iS s = 3 := by
 rcases zb h with rfl | rfl <;> decide
theorem zc {s : ByteArray} (h : iS s ≠ 3) : xI s = false := by
 cases he : xI s with
 |false => rfl
 |true => exact absurd (KB he) h
theorem EI {s : ByteArray} (h : xI s = false) : (s.toList == [61, 61]) = false ∧ (s.toList == [33, 61]) = false := by
 have e1 : (⟨#[61, 61]⟩ : ByteArray).toList = [61, 61] := by rw [ByteArray.toList_eq]
 have e2 : (⟨#[33, 61]⟩ : ByteArray).toList = [33, 61] := by rw [ByteArray.toList_eq]
 have h' : ¬ (s = ⟨#[61, 61]⟩ ∨ s = ⟨#[33, 61]⟩) := by
  intro e
  have : xI s = true := (jS _ _).2 (by simpa using e)
  rw [h] at this; cases this
 exact ⟨by rw [← e1]; exact nM fun e => h' (.inl e), by rw [← e2]; exact nM fun e => h' (.inr e)⟩
theorem IF {s : ByteArray} (h : xI s = true) : ((s.toList == [61, 61]) = true ∧ True) ∨ ((s.toList == [61, 61]) = false ∧ (s.toList == [33, 61]) = true) := by
 rcases zb h with rfl | rfl
 ·exact .inl ⟨by rw [ByteArray.toList_eq]; rfl, trivial⟩
 ·exact .inr ⟨by rw [ByteArray.toList_eq]; rfl, by rw [ByteArray.toList_eq]; rfl⟩
theorem Gf {T : Nd} (hk : T.kind = 28) (yP : iS T.name = 1) (ih : ∀ i, i < T.len → vA (T.kids i)) : vo T := by
 exact bL1
theorem Ge {T : Nd} (hk : T.kind = 28) (yP : iS T.name = 2) (ih : ∀ i, i < T.len → vA (T.kids i)) : vo T := by
 exact bL1
theorem Gd {T : Nd} (hk : T.kind = 28) (yP : iS T.name = 3) (dr : xI T.name = false) (ih : ∀ i, i < T.len → vA (T.kids i)) : vo T := by
 intro K w0 ay s ret loops outs w v hS hE hN aq aN
 obtain ⟨_, hl, cX, jB⟩ := oK hk aN
 have AW := (EI dr).1
 have iH := (EI dr).2
 have ir : bC K.F T.kind T.name T.len (fun i => bL K.F (T.kids i)) (ab s) s.2.length = CR.bind (cD K (T.kids 1) 1 (cD K (T.kids 0) 1 (.ok (ab s)))) fun s1 => .ok (2, s1) := by
  exact bL6
 have k_1 := kk
 exact bL7
theorem Gc {T : Nd} (hk : T.kind = 28) (yP : iS T.name = 4) (ih : ∀ i, i < T.len → vA (T.kids i)) : vo T := by
 exact bL0
theorem Gb {T : Nd} (hk : T.kind = 28) (yP : iS T.name = 5) (ih : ∀ i, i < T.len → vA (T.kids i)) : vo T := by
 exact bL0
theorem KZ {T : Nd} (hk : T.kind = 28) (heq : xI T.name = true) (ih : ∀ i, i < T.len → vA (T.kids i)) : vo T := by
 intro K w0 ay s ret loops outs w v hS hE hN aq aN
 obtain ⟨_, hl, cX, jB⟩ := oK hk aN
 have yP := KB heq
 have ir : bC K.F T.kind T.name T.len (fun i => bL K.F (T.kids i)) (ab s) s.2.length = CR.bind (Sq K (T.kids 0) (T.kids 1) (ab s)) fun s1 => .ok (2, s1) := by
  unfold bC
  iterate 7 rw [if_neg (by omega)]
  rw [if_pos heq]
  exact IE
 have k_0 := kk
 exact bL8
theorem jJ {F : Nd} (h : dh F = true) {j : Nat} (hj : j < F.len) : cZ (F.kids j) = true := by
 unfold dh at h
 simp only [Bool.and_eq_true] at h
 exact dy.1 h.2 j hj
theorem s7 {T : Nd} (h : cZ T = true) : 1 ≤ T.len := by
 unfold cZ at h
 simp only [Bool.and_eq_true, decide_eq_true_eq] at h
 exact h.1.2
theorem SS.file {K : SK} {w0 : World} {ay : Option Nat} {σ : CR CS} {ret loops outs : Int} {w : World} (h : SS K w0 ay σ ret loops outs w) : w.cell? ⟨K.cb, 0, none⟩ = some (.int .i64 K.F.kind) ∧ w.cell? ⟨K.cb, 1, none⟩ = some (.int .i64 K.F.num) ∧ w.cell? ⟨K.cb, 2, none⟩ = some (.string K.F.name) ∧ w.cell? ⟨K.cb, 3, none⟩ = some K.fv := by
 obtain ⟨vv, code, place, deep, zs, vs, h1, _⟩ := h.is
 exact ⟨h1.cells.1, h1.cells.2.1, h1.cells.2.2.1, h1.cells.2.2.2.1⟩
def so (F T f : Nd) (n : Nat) (s : CS) : CR CS := forN (fun i => aC (bL F (T.kids i)) (f.kids i).num) n s
theorem xT (F T f : Nd) (K : SK) (hF : K.F = F) (n : Nat) (s : CS) : cD K (T.kids n) (f.kids n).num (so F T f n s) = so F T f (n + 1) s := by subst hF; rfl
theorem E5 {K : SK} {T f : Nd} {s : CS} {n : Nat} (hE : ∀ i, i < T.len → (T.kids i).eOk = true) (hn : n < T.len) (aq : s.2.length + T.size ≤ K.N) (hN : K.N ≤ 1048576) : SAt K (T.kids n) (so K.F T f n (ab s)) (aV T s.2.length n) := by
 have h1 := bP T s.2.length hn
 refine ⟨by omega, fun s' e => ?_⟩
 have := nt (g := fun i => (T.kids i).size) (fun i hi => (eh K.F _ (hE i hi)).want _) (Nat.le_of_lt hn) _ _ e
 rw [aP] at this
 exact ⟨by unfold aV; omega, by omega⟩
theorem SS.boxed {K : SK} {w0 : World} {ay : Option Nat} {σ : CR CS} {ret loops outs : Int} {w : World} (h : SS K w0 ay σ ret loops outs w) (o : Obj) : ∃ own, SS K (w.alloc o) own σ ret loops outs (w.alloc o) ∧ (∀ σ' r' l' o' W, SS K (w.alloc o) own σ' r' l' o' W → SS K w0 ay σ' r' l' o' W) ∧
  ∀ σ' r' l' o' W, SS K (w.alloc o) own σ' r' l' o' W → W.heap[w.heap.size]? = some o := by
 obtain ⟨vv, code, place, deep, zs, vs, h1, h2, h3⟩ := h.is
 have hb : Below w.heap.size w (w.alloc o) := bA
 have bB := h1.lt
 obtain ⟨own, g1, g2, g3, g4⟩ := (h.alloc o).restart
 refine ⟨own, g1, g4, fun σ' r' l' o' W hW => ?_⟩
 have cg : ∀ k, own = some k → k < w.heap.size := by
  intro k hk
  obtain ⟨KW, c', p', d', z', s', q1, q2, q3⟩ := g1.is
  rcases q3 with q3 | ⟨i, q3, q4⟩
  ·have e1 := q1.blk
   rw [Below.heap_alloc w o K.cb bB.1, h1.blk] at e1
   have e3 : KW = vv := by
    injection e1 with e1
    injection e1 with e1
    have := congrArg (fun a : Array Value => a[7]?) e1
    simpa [SK.cells] using this.symm
   rw [e3, hk] at q3
   exact (h1.var.lt k q3).2
  ·have := (q1.var.lt i q3).2; omega
 rw [hW.keep (k := w.heap.size) (by simp) (by omega) (by omega) (fun e => by have := cg _ e.symm; omega)]
 exact heap_alloc_new w o
theorem K8 {T : Nd} (hk : T.kind = 25) (K : SK) (w0 : World) (ay : Option Nat) (s : CS) (ret loops outs : Int) (w : World) (v : Value) (hS : SS K w0 ay (.ok (ab s)) ret loops outs w) (hE : SEnv K w) (hN : SNd K w T v) (aq : s.2.length + T.size ≤ K.N) (aN : T.eOk = true) (pR : findF K.F T.name = none) :
  Calls Tryz.prog 130 #[.pointer (some ⟨K.cb, 0, none⟩), T.val v, .int .i64 s.2.length] w fun e w' => e = .returned (.int .i64 0) ∧ SS K w0 ay (.error (5, s.2.length)) ret loops outs w' := by
 have k_0 := kk
 exact U9
theorem K7 {T : Nd} (hk : T.kind = 25) (K : SK) (w0 : World) (ay : Option Nat) (s : CS) (ret loops outs : Int) (w : World) (v : Value) (hS : SS K w0 ay (.ok (ab s)) ret loops outs w) (hE : SEnv K w) (hN : SNd K w T v) (aq : s.2.length + T.size ≤ K.N) (aN : T.eOk = true) (j : Nat) (hj : findF K.F T.name = some j) (xo : T.len + 1 ≠ (K.F.kids j).len) :
  Calls Tryz.prog 130 #[.pointer (some ⟨K.cb, 0, none⟩), T.val v, .int .i64 s.2.length] w fun e w' => e = .returned (.int .i64 0) ∧ SS K w0 ay (.error (8, s.2.length)) ret loops outs w' := by
 have k_0 := kk
 exact Vb
theorem K6 {T : Nd} (hk : T.kind = 25) (K : SK) (w0 : World) (ay : Option Nat) (s : CS) (ret loops outs : Int) (w : World) (v : Value) (hS : SS K w0 ay (.ok (ab s)) ret loops outs w) (hE : SEnv K w) (hN : SNd K w T v) (aq : s.2.length + T.size ≤ K.N) (aN : T.eOk = true) (j : Nat) (hj : findF K.F T.name = some j) (xo : T.len + 1 = (K.F.kids j).len) (ih : ∀ i, i < T.len → vA (T.kids i)) :
  Calls Tryz.prog 130 #[.pointer (some ⟨K.cb, 0, none⟩), T.val v, .int .i64 s.2.length] w fun e w' => e = .returned (.int .i64 (K.F.kids j).num) ∧ SS K w0 ay (so K.F T (K.F.kids j) T.len (ab s)) ret loops outs w' := by
 have k_1 := kk
 exact Vb
theorem Pl {T : Nd} (hk : T.kind = 25) (ih : ∀ i, i < T.len → vA (T.kids i)) : vo T := by
  intro K w0 ay s ret loops outs w v hS hE hN aq aN
  have ir : bC K.F T.kind T.name T.len (fun i => bL K.F (T.kids i)) (ab s) s.2.length = (match findF K.F T.name with
    | none => .error (5, s.2.length)
    | some j => if T.len + 1 = (K.F.kids j).len then CR.bind (so K.F T (K.F.kids j) T.len (ab s)) fun s1 => .ok ((K.F.kids j).num, s1) else .error (8, s.2.length)) := by
    unfold bC
    rw [if_neg (by omega), if_neg (by omega), if_neg (by omega), if_pos hk]; rfl
  rw [ir]
  cases hj : findF K.F T.name with
  | none =>
    refine (K8 hk K w0 ay s ret loops outs w v hS hE hN aq aN hj).mono ?_
    rintro e w' ⟨rfl, h⟩
    exact ⟨0, rfl, fun r h => (by cases h), h⟩
  | some j =>
    dsimp only
    by_cases hc : T.len + 1 = (K.F.kids j).len
    · rw [if_pos hc]
      refine (K6 hk K w0 ay s ret loops outs w v hS hE hN aq aN j hj hc ih).mono ?_
      rintro e w' ⟨rfl, h⟩
      exact ⟨_, rfl, gm.1, by rw [gm.2]; exact h⟩
    · rw [if_neg hc]
      refine (K7 hk K w0 ay s ret loops outs w v hS hE hN aq aN j hj hc).mono ?_
      rintro e w' ⟨rfl, h⟩
      exact ⟨0, rfl, fun r h => (by cases h), h⟩
end Go.Proofs.YteaocammohcgoaaGreatDoor
