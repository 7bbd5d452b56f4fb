import Derived.Test.YtkfbbdhidecefaaDoorUKdB
import Derived.StillTailTactics
import Derived.Deep.LoopGhost
set_option linter.unusedVariables false
set_option maxHeartbeats 16000000
set_option maxRecDepth 100000
namespace Go.Proofs.YtkfbbdhidecefaaDoor
open Go.RowKit
variable {G : Prop}
theorem bR0 (h : G := by
 intro K w0 ah s ret loops outs w v hS hE hN be ax
 obtain ⟨_, hl, lj, rL⟩ := xt hk ax
 have fE : En T.name = false := CN (by omega)
 have rG : gi K.F T.kind T.name T.len (fun i => ll K.F (T.kids i)) (ao s) s.2.length = CR.bind (fC K (T.kids 1) 1 (fC K (T.kids 0) 1 (.ok (ao s)))) fun s1 => .ok (1, s1) := by
  exact bR6
 have k_R7_0 := kk
 exact bR7) : G := h
theorem bR1 (h : G := by
 intro K w0 ah s ret loops outs w v hS hE hN be ax
 obtain ⟨_, hl, lj, rL⟩ := xt hk ax
 have fE : En T.name = false := CN (by omega)
 have rG : gi K.F T.kind T.name T.len (fun i => ll K.F (T.kids i)) (ao s) s.2.length = CR.bind (fC K (T.kids 1) 2 (fC K (T.kids 0) 2 (.ok (ao s)))) fun s1 => .ok (2, s1) := by
  exact bR6
 have k_R8_1 := kk
 exact bR8) : G := h
theorem bR2 (h : G := by
 have k_R24_0 := kk
 exact O8) : G := h
theorem bR3 (h : G := by
 unfold gi
 rw [if_neg (by omega), if_neg (by omega), if_neg (by omega), if_neg (by omega), if_neg (by omega), if_pos hk, o7]; rfl) : G := h
theorem bR4 (h : G := by
 unfold gi
 rw [if_neg (by omega), if_neg (by omega), if_neg (by omega), if_neg (by omega), if_pos hk, hl]; rfl) : G := h
theorem bR5 (h : G := by
 have k_R13_0 := kk
 exact UV) : G := h
theorem bR6 (h : G := by
 unfold gi
 rw [if_neg (by omega), if_neg (by omega), if_neg (by omega), if_neg (by omega), if_neg (by omega), if_neg (by omega), if_neg (by omega), if_neg (by rw [fE]; simp)]
 rw [I0]
 exact Ij) : G := h
theorem bR7 (h : G := by
 have k_R11_0 := kk
 exact UX) : G := h
theorem bR8 (h : G := by
 have k_R11_1 := kk
 exact UX) : G := h
theorem bR9 (h : G := by
 have k_R12_0 := kk
 exact UW) : G := h
theorem UY (h : G := by
 rw [rG]
 have k_R12_1 := kk
 exact UW) : G := h
theorem UX (h : G := by
 rw [rG]
 have k_R21_0 := kk
 exact UP) : G := h
theorem UW (h : G := by
 have k_R21_1 := kk
 exact UP) : G := h
theorem UV (h : G := by
 have k_R23_0 := kk
 exact UN) : G := h
theorem UU (h : G := by
 have cK := aa (fun o => ly T (w.alloc o) _ K.lo s.2.length hN.fine (by simp; omega) (ae (hS.box o) lr hN.row) hN.cost (by omega))
 have mH := aa (fun (w1 : World) (u : Value) (t : TypeId) hb ha => pB (w1 := w1) (T := T) (v := .slice (some ⟨g, off, none⟩) T.len cap) (p := s.2.length) (u := u) (t := t) hS hb ha)
 have EE := aa (fun (w1 : World) (own1 : Option Nat) (b : Nat) (u : Value) (hg : SGo K w w1 own1 b T (.slice (some ⟨g, off, none⟩) T.len cap) u s.2.length) (W : World) (σ : CR CS) (r l o : Int) (q : Nat) (ty : Int) (hW : SS K w1 own1 σ r l o W) (ha : SAt K (T.kids 0) σ q) => p4 (ih 0 (by omega)) K w1 own1 σ r l o W u0 q ty hW (hg.env hE hW) ((hN.kid (by omega) gV).later (hg.below _ _ _ _ _ hW)) ha lj)
 have Lx := aa (fun (w1 : World) (own1 : Option Nat) (b : Nat) (u : Value) (hg : SGo K w w1 own1 b T (.slice (some ⟨g, off, none⟩) T.len cap) u s.2.length) (W : World) (σ : CR CS) (r l o : Int) (q : Nat) (hW : SS K w1 own1 σ r l o W) (ha : SAt K (T.kids 0) σ q) => pz (ih 0 (by omega)) K w1 own1 σ r l o W u0 q hW (hg.env hE hW) ((hN.kid (by omega) gV).later (hg.below _ _ _ _ _ hW)) ha lj)
 first
 |clear k_R14_0
  have ED := aa (fun (w1 : World) (own1 : Option Nat) (b : Nat) (u : Value) (hg : SGo K w w1 own1 b T (.slice (some ⟨g, off, none⟩) T.len cap) u s.2.length) (W : World) (σ : CR CS) (r l o : Int) (q : Nat) (ty : Int) (hW : SS K w1 own1 σ r l o W) (ha : SAt K (T.kids 1) σ q) => p4 (ih 1 (by omega)) K w1 own1 σ r l o W u1 q ty hW (hg.env hE hW) ((hN.kid (by omega) mi).later (hg.below _ _ _ _ _ hW)) ha rL)
  have HV1 := aa (fun (w1 : World) (own1 : Option Nat) (b : Nat) (u : Value) (hg : SGo K w w1 own1 b T (.slice (some ⟨g, off, none⟩) T.len cap) u s.2.length) (W : World) (σ : CR CS) (r l o : Int) (q : Nat) (hW : SS K w1 own1 σ r l o W) (ha : SAt K (T.kids 1) σ q) => pz (ih 1 (by omega)) K w1 own1 σ r l o W u1 q hW (hg.env hE hW) ((hN.kid (by omega) mi).later (hg.below _ _ _ _ _ hW)) ha rL)
  have sX := aa (SAt.kid0 be ig (by omega))
  first
  |clear k_R11_0
   have I8 := aa (SAt.next (τ := fC K (T.kids 0) 1 (.ok (ao s))) sX.out (by omega) be ig (l5 lj))
   first
   |clear k_R7_0
    have k_R13_1 := kk
    exact UV
   |clear k_R7_1
    exact bR5
  |clear k_R11_1
   first
   |clear k_R8_0
    have I8 := aa (SAt.next (τ := oI K (T.kids 0) (.ok (ao s))) sX.out (by omega) be ig (Fe lj))
    have Qw := aa (fun t (h : IP K (T.kids 0) (.ok (ao s)) t) => K7 (K := K) (A := T.kids 0) (B := T.kids 1) (s := ao s) h)
    have k_R23_1 := kk
    exact UN
   |clear k_R8_1
    have I8 := aa (SAt.next (τ := fC K (T.kids 0) 2 (.ok (ao s))) sX.out (by omega) be ig (l5 lj))
    exact bR5
 |clear k_R14_1
  have sX := aa (SAt.kid0 be ig (by omega))
  unfold Nd.val at *
  rw [hk] at cK mH ⊢
  have mn := aa hk
  have mB : 0 < T.len := by omega
  first
  |clear k_R12_0
   clear rG hS hE hN hk ax ih iW bz lj gV hl o7
   have k_R16_0 := kk
   exact US
  |clear k_R12_1
   clear rG hS hE hN hk ax ih iW bz lj gV hl
   have k_R16_1 := kk
   exact US) : G := h
theorem UT (h : G := by
 have k_R17_1 := kk
 exact UR) : G := h
theorem US (h : G := by
 generalize hq : s.2.length = q at *
 have fH := rJ
 go_enter Tryd.func96, Tryd.ntmps96
 go_wp2_with (first
  |(go_at_call 50; refine (cK.out _).mono ?_; rintro e w1 ⟨u, rfl, bl, hb1⟩; obtain ⟨own1, aY, bj, fY⟩ := mH.out w1 u _ hb1 bl; obtain ⟨ga, oa, ca, rfl, sh, iH⟩ := fY.ats (by omega); have HG := aa fY; have l3 := aa iH; have mK := aa bj; obtain ⟨b0, b1, b2, b3⟩ := HG.out.box _ _ _ _ _ aY; rw [mn.out] at b0; have a0 := l3.out _ _ _ _ _ aY 0 (by omega); rw [Nat.add_zero] at a0; obtain ⟨ja, iZ, iY, iX⟩ := gY.out _ (HG.out.below _ _ _ _ _ aY); have gh := aa aY; clear aY bj fY iH bl hb1))
 first
 |clear k_R16_0
  go_outline
  go_still_tail 9, fH
  first
  |clear k_R9_0
   exact bR2
  |clear k_R9_1
   have k_R24_1 := kk
   exact O8
 |clear k_R16_1
  first
  |clear k_R10_0
   go_still_tail 8, fH
   exact bR2
  |clear k_R10_1
   go_outline
   go_still_tail 8, fH
   have k_R24_2 := kk
   exact O8) : G := h
theorem UR (h : G := by
 have ig := hS.ok.few
 have bm := hS.lt
 have sf := hS.ok.cl
 have cK := aa (fun o => ly T (w.alloc o) v K.lo s.2.length hN.fine (by have := hS.ok.cl; simp; omega) (ae (hS.box o) lr hN.row) hN.cost (by omega))
 have mH := aa (fun (w1 : World) (u : Value) (t : TypeId) hb ha => pB (w1 := w1) (T := T) (v := v) (p := s.2.length) (u := u) (t := t) hS hb ha)
 have HF := aa (fun W (hb : Below K.lo w W) (hz : K.lo ≤ W.heap.size) => Ad K.F W K.fv K.lo T.name hE.fine hz (ae hb lr hE.row))
 first
 |clear k_R17_0
  have M7 : Hid (pa K.F T.name = -1) := by unfold Hid pa; rw [yF]
  have mn := aa hk
  unfold Nd.val at *
  rw [hk] at cK mH ⊢
  clear hS hE hN hk yF
  have k_R18_0 := kk
  exact Pa
 |clear k_R17_1
  have zM := (tg hj).1
  obtain ⟨gF, oF, cF, hfv, hgF, hcF, hkF⟩ := mJ hE.row (by omega)
  obtain ⟨uf, SU, hrf⟩ := hkF j zM
  have hfl := KP (uh hE.ok zM)
  have hffine := Nd.fine_len (Nd.fine_kid hE.fine zM)
  obtain ⟨af, cf, huf, hcpf, hqf⟩ := ar.1 hrf
  have HQF := aa hqf
  clear hqf
  subst huf
  have HCF := aa SU
  have M7 : Hid (pa K.F T.name = j) := by unfold Hid pa; rw [show findF K.F T.name = some j from hj]
  have mn := aa hk
  have HFV := aa hfv
  have hTl := T.fine_len hN.fine
  obtain ⟨a, cap, hv, bQ, IY⟩ := ar.1 hN.row
  have HQ0 := aa IY
  clear IY
  subst hv
  first
  |clear k_R15_0
   have MC : ((T.len : Int) == ((K.F.kids j).len : Int) - 1) = false := bn (by omega)
   have hjF : (j : Int) < (K.F.len : Int) := by omega
   unfold Nd.val at *
   rw [hk] at cK mH ⊢
   clear hS hE hN hk hj SU hkF hrf hfv
   have k_R18_1 := kk
   exact Pa
  |clear k_R15_1
   have MC : ((T.len : Int) == ((K.F.kids j).len : Int) - 1) = true := beq_iff_eq.2 (by omega)
   have hcnt2 : ((T.len : Int) != ((K.F.kids j).len : Int) - 1) = false := by simp only [bne, MC, Bool.not_true]
   have hcl' : T.len < (K.F.kids j).len := by omega
   have hjF : (j : Int) < (K.F.len : Int) := by omega
   have hj0 : decide ((j : Int) < 0) = false := by simp
   unfold Nd.val at *
   rw [hk] at cK mH ⊢
   have HCN := aa Ou
   have HEE := aa (MS mn.out ax)
   have VZ := aa ih
   have EJ := aa (fun (h0 : T.len ≠ 0) => mJ hN.row h0)
   have HAT := aa (fun n (hn : n < T.len) => Iq (K := K) (f := K.F.kids j) HEE.out hn be ig)
   have V5 := aa hE
   have VV := aa hN
   clear hS hE hN hk hj SU hkF hrf hfv Ou ih
   have k_R18_2 := kk
   exact Pa) : G := h
theorem Pa (h : G := by
 generalize hq : s.2.length = q at *
 have fH := rJ
 go_enter Tryd.func96, Tryd.ntmps96
 go_wp2_with (go_at_call 50; refine (cK.out _).mono ?_; rintro e w1 ⟨u, rfl, bl, hb1⟩; obtain ⟨own1, aY, bj, fY⟩ := mH.out w1 u _ hb1 bl; obtain ⟨b0, b1, b2, b3⟩ := fY.box _ _ _ _ _ aY; rw [mn.out] at b0; obtain ⟨x0, x1, x2, x3⟩ := aY.file; obtain ⟨y0, y1⟩ := aY.lt; have HG := aa fY; have gh := aa aY; have mK := aa bj; clear hb1 bl aY fY bj)
 go_still_tail 6, fH
 first
 |clear k_R18_0
  go_wp2_with (first
   |(go_at_call 51; refine (HF.out _ (HG.out.below _ _ _ _ _ gh.out.drew) (by have : K.cb < w1.heap.size := y0; show K.lo ≤ w1.heap.size; omega)).mono ?_; rw [M7.out]; rintro e w2 ⟨rfl, hb2⟩; have bH := gh.out.drew.calm hb2; obtain ⟨b0, b1, b2, b3⟩ := HG.out.box _ _ _ _ _ bH; rw [mn.out] at b0; obtain ⟨x0, x1, x2, x3⟩ := bH.file; obtain ⟨z0, z1⟩ := bH.lt; have z3 := World.block_lt_of_cell? w2 ⟨w.heap.size, 3, none⟩ b3; dsimp only at z3; have lD := aa bH; clear hb2 bH)
   |(go_at_call 52; refine (gJ lD.out 5 (by decide) q).mono ?_; rintro e w3 ⟨rfl, fX⟩; have lZ := aa (mK.out _ _ _ _ _ fX); clear fX))
  go_ret
  exact ⟨rfl, lZ.out⟩
 |clear k_R18_1
  go_wp2_with (first
   |(go_at_call 51; refine (HF.out _ (HG.out.below _ _ _ _ _ gh.out.drew) (by have : K.cb < w1.heap.size := y0; show K.lo ≤ w1.heap.size; omega)).mono ?_; rw [M7.out]; rintro e w2 ⟨rfl, hb2⟩; have bH := gh.out.drew.calm hb2; obtain ⟨b0, b1, b2, b3⟩ := HG.out.box _ _ _ _ _ bH; rw [mn.out] at b0; obtain ⟨x0, x1, x2, x3⟩ := bH.file; obtain ⟨z0, z1⟩ := bH.lt; have z3 := World.block_lt_of_cell? w2 ⟨w.heap.size, 3, none⟩ b3; dsimp only at z3; rw [HFV.out] at x3; obtain ⟨f0, f1, f2, f3⟩ := HCF.out _ (HG.out.below _ _ _ _ _ bH); have lD := aa bH; clear hb2 bH)
   |(go_at_call 52; refine (gJ (lD.out.alloc _) 8 (by decide) q).mono ?_; rintro e w3 ⟨rfl, fX⟩; have lZ := aa (mK.out _ _ _ _ _ fX); clear fX))
  go_ret
  exact ⟨rfl, lZ.out⟩
 |clear k_R18_2
  go_wp2_with (first
   |(go_at_call 51; refine (HF.out _ (HG.out.below _ _ _ _ _ gh.out.drew) (by have : K.cb < w1.heap.size := y0; show K.lo ≤ w1.heap.size; omega)).mono ?_; rw [M7.out]; rintro e w2 ⟨rfl, hb2⟩; have bH := gh.out.drew.calm hb2; obtain ⟨b0, b1, b2, b3⟩ := HG.out.box _ _ _ _ _ bH; rw [mn.out] at b0; obtain ⟨x0, x1, x2, x3⟩ := bH.file; obtain ⟨z0, z1⟩ := bH.lt; have z3 := World.block_lt_of_cell? w2 ⟨w.heap.size, 3, none⟩ b3; dsimp only at z3; rw [HFV.out] at x3; obtain ⟨f0, f1, f2, f3⟩ := HCF.out _ (HG.out.below _ _ _ _ _ bH); have lD := aa bH; clear hb2 bH))
  obtain ⟨vT, fX, u5, Hl⟩ := lD.out.boxed (.cells #[.int .i64 (K.F.kids j).kind, .int .i64 (K.F.kids j).num, .string (K.F.kids j).name, .slice af (K.F.kids j).len cf] 27)
  have lZ := aa fX
  have rn := aa u5
  have tT := aa Hl
  clear fX u5 Hl
  go_loopg [11] T.len (fun gk i wr => ∃ n : Nat, gk = T.len - n ∧ n ≤ T.len ∧ i = .int .i64 n ∧ SS K (w2.alloc (.cells #[.int .i64 (K.F.kids j).kind, .int .i64 (K.F.kids j).num, .string (K.F.kids j).name, .slice af (K.F.kids j).len cf] 27)) vT (xz K.F T (K.F.kids j) n (ao s)) ret loops outs wr)
  case atStart => exact ⟨0, by omega, Nat.zero_le _, rfl, lZ.out⟩
  case round =>
   obtain ⟨n, zN, hn, rfl, gS⟩ := hrel
   have LB := aa zN
   clear zN
   have o9 := rn.out _ _ _ _ _ gS
   obtain ⟨d0, d1, d2, d3⟩ := HG.out.box _ _ _ _ _ o9
   have Oo := tT.out _ _ _ _ _ gS
   have e0 : wr.cell? ⟨w2.heap.size, 0, none⟩ = some (.int .i64 (K.F.kids j).kind) := by simp [World.cell?, Oo]
   have e1 : wr.cell? ⟨w2.heap.size, 1, none⟩ = some (.int .i64 (K.F.kids j).num) := by simp [World.cell?, Oo]
   have e3 : wr.cell? ⟨w2.heap.size, 3, none⟩ = some (.slice af (K.F.kids j).len cf) := by simp [World.cell?, Oo]
   have lh := HG.out.below _ _ _ _ _ o9
   have po := aa gS
   have LH := aa o9
   have HLO := aa lh
   clear Oo gS o9 lh
   by_cases bm : n < T.len
   ·obtain ⟨g, off, ph, RC, tf, ME, bz⟩ := EJ.out (by omega)
    injection RC with K6 ev2 K5
    subst K6
    subst K5
    obtain ⟨ga, oa, ca, RD, sh, iH⟩ := HG.out.ats (by omega)
    subst RD
    obtain ⟨un, yH, zD⟩ := bz n bm
    obtain ⟨c0, c1, c2, c3⟩ := yH _ HLO.out
    have an := iH _ _ _ _ _ LH.out n bm
    have hqf := HQF.out
    rcases hqf with h0 | ⟨gf, of, haf, _, hgf, Oa⟩
    ·omega
    subst haf
    obtain ⟨up, p0, p1, p2, p3, _⟩ := Oa n (by omega)
    have p1' := (HLO.out.cell (p := ⟨gf, of + n * 4 + 1, none⟩) hgf).trans p1
    have HWN := aa (p4 (VZ.out n bm) K _ vT _ ret loops outs wr.drew un (aP T q n) ((K.F.kids j).kids n).num po.out.drew (V5.out.later HLO.out.drew) ((VV.out.kid bm zD).later HLO.out.drew) (HAT.out n bm) (HEE.out n bm))
    unfold Nd.val at HWN
    have hni : (n : Int) < (T.len : Int) := by omega
    have hnf : (n : Int) < ((K.F.kids j).len : Int) := by omega
    clear yH zD iH Oa p0 p1 p2 p3 bz
    go_wp2
    go_still_tail 16, fH
    go_wp2_with (go_at_call 92; refine HWN.out.mono ?_; rintro e w5 ⟨rfl, qu⟩; have wk := aa qu; clear qu)
    go_roundg (T.len - (n + 1))
    case rel =>
     refine ⟨n + 1, rfl, by omega, by go_num, ?_⟩
     rw [← BQ K.F T (K.F.kids j) K rfl n (ao s)]
     exact wk.out
    case measure => have := LB.out; omega
   ·go_wp2
    go_ret
    obtain rfl : n = T.len := by omega
    exact ⟨rfl, mK.out _ _ _ _ _ LH.out⟩) : G := h
theorem UQ (h : G := by
 have k_R22_0 := kk
 exact UO) : G := h
theorem O9 (h : G := by
 have k_R22_1 := kk
 exact UO) : G := h
theorem UP (h : G := by
 have ig := hS.ok.few
 have bm := hS.lt
 have sf := hS.ok.cl
 obtain ⟨g, off, cap, hv, tf, bQ, bz⟩ := mJ hN.row (by omega)
 subst hv
 obtain ⟨u0, iW, gV⟩ := bz 0 (by omega)
 simp only [Nat.zero_mul, Nat.add_zero] at iW
 have gY := aa iW
 first
 |clear k_R21_0
  obtain ⟨u1, iQ, mi⟩ := bz 1 (by omega)
  simp only [Nat.one_mul] at iQ
  have mI := aa iQ
  have k_R14_0 := kk
  exact UU
 |clear k_R21_1
  have k_R14_1 := kk
  exact UU) : G := h
theorem UO (h : G := by
 rw [rG]
 have ig := hS.ok.few
 have bm := hS.lt
 have cK := aa (fun o => ly T (w.alloc o) v K.lo s.2.length hN.fine (by have := hS.ok.cl; simp; omega) (ae (hS.box o) lr hN.row) hN.cost (by omega))
 have HS := aa (fun o => hS.alloc o)
 unfold Nd.val at *
 rw [hk] at cK ⊢
 first
 |clear k_R22_0
  clear rG hS hE hN hk
  generalize hq : s.2.length = q at *
  first
  |clear k_R19_0
   generalize T.num = tn at *
   generalize T.name = ts at *
   go_enter Tryd.func96, Tryd.ntmps96
   go_wp2_with (go_at_call 50; refine (cK.out _).mono ?_; rintro e w1 ⟨u, rfl, bl, hb1⟩; have I7 := aa hb1; have I8 := aa bl; have k0 : w1.cell? ⟨w.heap.size, 0, none⟩ = some (.int .i64 22) := (hb1.cell (p := ⟨w.heap.size, 0, none⟩) (by simp)).trans (by simp); clear hb1 bl)
   go_ret
   exact ⟨1, rfl, fun r h => (by injection h with h; subst h; rfl), (HS.out _).calm I7.out⟩
  |clear k_R19_1
   go_enter Tryd.func96, Tryd.ntmps96
   go_wp2_with (go_at_call 50; refine (cK.out _).mono ?_; rintro e w1 ⟨u, rfl, bl, hb1⟩; have gh := aa ((HS.out _).calm hb1); have k0 : w1.cell? ⟨w.heap.size, 0, none⟩ = some (.int .i64 23) := (hb1.cell (p := ⟨w.heap.size, 0, none⟩) (by simp)).trans (by simp); have k2 : w1.cell? ⟨w.heap.size, 2, none⟩ = some (.string T.name) := (hb1.cell (p := ⟨w.heap.size, 2, none⟩) (by simp)).trans (by simp); have k3 : w1.cell? ⟨w.heap.size, 3, none⟩ = some v := (hb1.cell (p := ⟨w.heap.size, 3, none⟩) (by simp)).trans (by simp); clear hb1 bl)
   go_ret
   exact ⟨2, rfl, fun r h => (by injection h with h; subst h; rfl), gh.out⟩
 |clear k_R22_1
  first
  |clear k_R20_0
   have H0 := aa (vW.trans h0)
   clear rG hS hE hN hk vW h0
   generalize hq : s.2.length = q at *
   go_enter Tryd.func96, Tryd.ntmps96
   go_wp2_with (first
    |(go_at_call 50; refine (cK.out _).mono ?_; rintro e w1 ⟨u, rfl, bl, hb1⟩; have gh := aa ((HS.out _).calm hb1); have k0 : w1.cell? ⟨w.heap.size, 0, none⟩ = some (.int .i64 24) := (hb1.cell (p := ⟨w.heap.size, 0, none⟩) (by simp)).trans (by simp); have k2 : w1.cell? ⟨w.heap.size, 2, none⟩ = some (.string T.name) := (hb1.cell (p := ⟨w.heap.size, 2, none⟩) (by simp)).trans (by simp); have k3 : w1.cell? ⟨w.heap.size, 3, none⟩ = some v := (hb1.cell (p := ⟨w.heap.size, 3, none⟩) (by simp)).trans (by simp); clear hb1 bl)
    |(go_at_call 91; refine (ns gh.out _).mono ?_; rw [H0.out]; rintro e w2 ⟨rfl, bH⟩; have lD := aa bH; clear bH)
    |(go_at_call 52; refine (gJ lD.out 5 (by decide) q).mono ?_; rintro e w3 ⟨rfl, fX⟩; have lZ := aa fX; clear fX))
   go_ret
   exact ⟨0, rfl, fun r h => (by cases h), lZ.out⟩
  |clear k_R20_1
   have H0 : Hid (look (ao s).1 T.name = look s.1 T.name) := vW
   have By : (look s.1 T.name == 0) = false := bn h0
   clear rG hS hE hN hk vW h0
   generalize look s.1 T.name = lk at *
   generalize hq : s.2.length = q at *
   go_enter Tryd.func96, Tryd.ntmps96
   go_wp2_with (first
    |(go_at_call 50; refine (cK.out _).mono ?_; rintro e w1 ⟨u, rfl, bl, hb1⟩; have gh := aa ((HS.out _).calm hb1); have k0 : w1.cell? ⟨w.heap.size, 0, none⟩ = some (.int .i64 24) := (hb1.cell (p := ⟨w.heap.size, 0, none⟩) (by simp)).trans (by simp); have k2 : w1.cell? ⟨w.heap.size, 2, none⟩ = some (.string T.name) := (hb1.cell (p := ⟨w.heap.size, 2, none⟩) (by simp)).trans (by simp); have k3 : w1.cell? ⟨w.heap.size, 3, none⟩ = some v := (hb1.cell (p := ⟨w.heap.size, 3, none⟩) (by simp)).trans (by simp); clear hb1 bl)
    |(go_at_call 91; refine (ns gh.out _).mono ?_; rw [H0.out]; rintro e w2 ⟨rfl, bH⟩; have lD := aa bH; clear bH))
   go_ret
   exact ⟨lk, rfl, fun r h => (by injection h with h; subst h; rfl), lD.out⟩
  |clear k_R20_2
   obtain ⟨a, cap, rfl, _⟩ := ar.1 hN.row
   rw [hl] at *
   clear rG hS hE hN hk hl
   generalize hq : s.2.length = q at *
   go_enter Tryd.func96, Tryd.ntmps96
   go_wp2_with (go_at_call 50; refine (cK.out _).mono ?_; rintro e w1 ⟨u, rfl, bl, hb1⟩; have gh := aa ((HS.out _).calm hb1); have k0 : w1.cell? ⟨w.heap.size, 0, none⟩ = some (.int .i64 26) := (hb1.cell (p := ⟨w.heap.size, 0, none⟩) (by simp)).trans (by simp); have k2 : w1.cell? ⟨w.heap.size, 2, none⟩ = some (.string T.name) := (hb1.cell (p := ⟨w.heap.size, 2, none⟩) (by simp)).trans (by simp); have k3 : w1.cell? ⟨w.heap.size, 3, none⟩ = some (.slice a 0 cap) := (hb1.cell (p := ⟨w.heap.size, 3, none⟩) (by simp)).trans (by simp); clear hb1 bl)
   go_ret
   exact ⟨3, rfl, fun r h => (by injection h with h; subst h; rfl), gh.out⟩) : G := h
theorem UN (h : G := by
 unfold Nd.val at *
 rw [hk] at cK mH ⊢
 have mn := aa hk
 have HLV := aa I0
 have mB : 0 < T.len := by omega
 have GR : (1 : Int) < (T.len : Int) := by omega
 have Bn : 1 < T.len := by omega
 first
 |clear k_R23_0
  clear rG hS hE hN hk ax ih iW iQ bz lj rL gV mi hl I0 fE
  generalize hq : s.2.length = q at *
  have fH := rJ
  go_enter Tryd.func96, Tryd.ntmps96
  go_wp2_with (first
   |(go_at_call 50; refine (cK.out _).mono ?_; rintro e w1 ⟨u, rfl, bl, hb1⟩; obtain ⟨own1, aY, bj, fY⟩ := mH.out w1 u _ hb1 bl; obtain ⟨ga, oa, ca, rfl, sh, iH⟩ := fY.ats (by omega); have HG := aa fY; have l3 := aa iH; have mK := aa bj; obtain ⟨b0, b1, b2, b3⟩ := HG.out.box _ _ _ _ _ aY; rw [mn.out] at b0; have a0 := l3.out _ _ _ _ _ aY 0 (by omega); rw [Nat.add_zero] at a0; obtain ⟨ja, iZ, iY, iX⟩ := gY.out _ (HG.out.below _ _ _ _ _ aY); have a1 := l3.out _ _ _ _ _ aY 1 (by omega); obtain ⟨om, oe, oj, oc⟩ := mI.out _ (HG.out.below _ _ _ _ _ aY); have gh := aa aY; clear aY bj fY iH bl hb1)
   |(go_at_call 88; refine (tJ _ _).mono ?_; rw [HLV.out]; rintro e w2 ⟨rfl, hb2⟩; have bH := gh.out.calm hb2; clear hb2; obtain ⟨b0, b1, b2, b3⟩ := HG.out.box _ _ _ _ _ bH; rw [mn.out] at b0; have a0 := l3.out _ _ _ _ _ bH 0 (by omega); rw [Nat.add_zero] at a0; obtain ⟨ja, iZ, iY, iX⟩ := gY.out _ (HG.out.below _ _ _ _ _ bH); have a1 := l3.out _ _ _ _ _ bH 1 (by omega); obtain ⟨om, oe, oj, oc⟩ := mI.out _ (HG.out.below _ _ _ _ _ bH); have lD := aa bH; clear bH))
  go_still_tail 8, fH
  go_wp2_with (go_at_call 92; refine (EE.out _ _ _ _ HG.out _ _ _ _ _ _ _ lD.out.drew sX.out).mono ?_; rintro e w3 ⟨rfl, fX⟩; obtain ⟨b0, b1, b2, b3⟩ := HG.out.box _ _ _ _ _ fX; rw [mn.out] at b0; have a0 := l3.out _ _ _ _ _ fX 0 (by omega); rw [Nat.add_zero] at a0; obtain ⟨ja, iZ, iY, iX⟩ := gY.out _ (HG.out.below _ _ _ _ _ fX); have a1 := l3.out _ _ _ _ _ fX 1 (by omega); obtain ⟨om, oe, oj, oc⟩ := mI.out _ (HG.out.below _ _ _ _ _ fX); have lZ := aa fX; clear fX)
  go_still_tail 8, fH
  go_wp2_with (go_at_call 92; refine (ED.out _ _ _ _ HG.out _ _ _ _ _ _ _ lZ.out.drew I8.out).mono ?_; rintro e w4 ⟨rfl, qT⟩; have AE := aa (mK.out _ _ _ _ _ qT); clear qT)
  go_ret
  first
  |clear k_R13_0
   exact ⟨2, rfl, lK.1, by rw [lK.2]; exact AE.out⟩
  |clear k_R13_1
   exact ⟨1, rfl, lK.1, by rw [lK.2]; exact AE.out⟩
 |clear k_R23_1
  have il := K9 heq
  clear rG hS hE hN hk ax ih iW iQ bz lj rL gV mi hl I0 heq
  generalize hq : s.2.length = q at *
  have fH := rJ
  rcases il with ⟨zI, Ax⟩ | ⟨zI, Ax⟩
  all_goals go_enter Tryd.func96, Tryd.ntmps96
  all_goals go_wp2_with (first
   |(go_at_call 50; refine (cK.out _).mono ?_; rintro e w1 ⟨u, rfl, bl, hb1⟩; obtain ⟨own1, aY, bj, fY⟩ := mH.out w1 u _ hb1 bl; obtain ⟨ga, oa, ca, rfl, sh, iH⟩ := fY.ats (by omega); have HG := aa fY; have l3 := aa iH; have mK := aa bj; obtain ⟨b0, b1, b2, b3⟩ := HG.out.box _ _ _ _ _ aY; rw [mn.out] at b0; have a0 := l3.out _ _ _ _ _ aY 0 (by omega); rw [Nat.add_zero] at a0; obtain ⟨ja, iZ, iY, iX⟩ := gY.out _ (HG.out.below _ _ _ _ _ aY); have a1 := l3.out _ _ _ _ _ aY 1 (by omega); obtain ⟨om, oe, oj, oc⟩ := mI.out _ (HG.out.below _ _ _ _ _ aY); have gh := aa aY; clear aY bj fY iH bl hb1)
   |(go_at_call 88; refine (tJ _ _).mono ?_; rw [HLV.out]; rintro e w2 ⟨rfl, hb2⟩; have bH := gh.out.calm hb2; clear hb2; obtain ⟨b0, b1, b2, b3⟩ := HG.out.box _ _ _ _ _ bH; rw [mn.out] at b0; have a0 := l3.out _ _ _ _ _ bH 0 (by omega); rw [Nat.add_zero] at a0; obtain ⟨ja, iZ, iY, iX⟩ := gY.out _ (HG.out.below _ _ _ _ _ bH); have a1 := l3.out _ _ _ _ _ bH 1 (by omega); obtain ⟨om, oe, oj, oc⟩ := mI.out _ (HG.out.below _ _ _ _ _ bH); have lD := aa bH; clear bH))
  all_goals go_still_tail 8, fH
  all_goals go_wp2_with (go_at_call 90; refine (Lx.out _ _ _ _ HG.out _ _ _ _ _ _ lD.out.drew sX.out).mono ?_; rintro e w3 ⟨t, rfl, hR, fX⟩; obtain ⟨b0, b1, b2, b3⟩ := HG.out.box _ _ _ _ _ fX; rw [mn.out] at b0; have a0 := l3.out _ _ _ _ _ fX 0 (by omega); rw [Nat.add_zero] at a0; obtain ⟨ja, iZ, iY, iX⟩ := gY.out _ (HG.out.below _ _ _ _ _ fX); have a1 := l3.out _ _ _ _ _ fX 1 (by omega); obtain ⟨om, oe, oj, oc⟩ := mI.out _ (HG.out.below _ _ _ _ _ fX); have lZ := aa fX; have HR := aa hR; clear fX hR)
  all_goals go_still_tail 9, fH
  all_goals go_wp2_with (go_at_call 92; refine (ED.out _ _ _ _ HG.out _ _ _ _ _ _ _ lZ.out.drew I8.out).mono ?_; rintro e w4 ⟨rfl, qT⟩; have AE := aa (mK.out _ _ _ _ _ qT); clear qT)
  all_goals go_ret
  all_goals exact ⟨2, rfl, lK.1, by rw [lK.2, ← Qw.out _ HR.out]; exact AE.out⟩) : G := h
theorem O8 (h : G := by
 go_wp2_with (go_at_call 92; refine (EE.out _ _ _ _ HG.out _ _ _ _ _ _ _ gh.out.drew sX.out).mono ?_; rintro e w2 ⟨rfl, bH⟩; have lD := aa (mK.out _ _ _ _ _ bH); clear bH)
 go_ret
 first
 |clear k_R24_0
  exact ⟨1, rfl, lK.1, by rw [lK.2]; exact lD.out⟩
 |clear k_R24_1
  exact ⟨2, rfl, lK.1, by rw [lK.2]; exact lD.out⟩
 |clear k_R24_2
  exact ⟨3, rfl, lK.1, by rw [lK.2]; exact lD.out⟩) : G := h
theorem QH {T : Nd} (hk : T.kind = 22) : Al T := by
 intro K w0 ah s ret loops outs w v hS hE hN be ax
 have rG : gi K.F T.kind T.name T.len (fun i => ll K.F (T.kids i)) (ao s) s.2.length = .ok (1, ao s) := by unfold gi; rw [if_pos hk]
 have k_R19_0 := kk
 exact UQ
theorem lK {X : CR CS} {t : Int} : (∀ r, CR.bind X (fun s1 => .ok (t, s1)) = .ok r → t = r.1) ∧ (CR.bind (CR.bind X fun s1 => .ok (t, s1)) fun r => .ok r.2) = X := by
 refine ⟨fun r h => ?_, ?_⟩
 ·obtain ⟨a, _, h2⟩ := bb h
  injection h2 with h2; subst h2; rfl
 ·cases X <;> rfl
theorem QD {T : Nd} (hk : T.kind = 29) (ih : ∀ i, i < T.len → At (T.kids i)) : Al T := by
 intro K w0 ah s ret loops outs w v hS hE hN be ax
 obtain ⟨hl, lj⟩ := MR hk ax
 have rG : gi K.F T.kind T.name T.len (fun i => ll K.F (T.kids i)) (ao s) s.2.length = CR.bind (fC K (T.kids 0) 3 (.ok (ao s))) fun s1 => .ok (1, s1) := by
  unfold gi
  rw [if_neg (by omega), if_neg (by omega), if_neg (by omega), if_neg (by omega), if_neg (by omega), if_neg (by omega), if_pos hk]; rfl
 have k_R10_0 := kk
 exact UY
theorem QG {T : Nd} (hk : T.kind = 23) : Al T := by
 intro K w0 ah s ret loops outs w v hS hE hN be ax
 have rG : gi K.F T.kind T.name T.len (fun i => ll K.F (T.kids i)) (ao s) s.2.length = .ok (2, ao s) := by
  unfold gi
  rw [if_neg (by omega), if_pos hk]; done
 have k_R19_1 := kk
 exact UQ
theorem QF {T : Nd} (hk : T.kind = 24) : Al T := by
 intro K w0 ah s ret loops outs w v hS hE hN be ax
 have vW : look (ao s).1 T.name = look s.1 T.name := rfl
 by_cases h0 : look s.1 T.name = 0
 ·have rG : gi K.F T.kind T.name T.len (fun i => ll K.F (T.kids i)) (ao s) s.2.length = .error (5, s.2.length) := by
   unfold gi
   rw [if_neg (by omega), if_neg (by omega), if_pos hk, if_pos (vW.trans h0)]
  have k_R20_0 := kk
  exact O9
 ·have rG : gi K.F T.kind T.name T.len (fun i => ll K.F (T.kids i)) (ao s) s.2.length = .ok (look s.1 T.name, ao s) := by
   unfold gi
   rw [if_neg (by omega), if_neg (by omega), if_pos hk, if_neg (fun e => h0 (vW.symm.trans e))]; rfl
  have k_R20_1 := kk
  exact O9
theorem Cn (s : ByteArray) : A4 s = (s.toList == [33]) := by
 have h : (s.toList == (⟨#[33]⟩ : ByteArray).toList) = decide (s = ⟨#[33]⟩) := mY s ⟨#[33]⟩
 have e : (⟨#[33]⟩ : ByteArray).toList = [33] := by rw [ByteArray.toList_eq]
 rw [e] at h
 rw [h]
 unfold A4 hasB
 simp [eq_comm]
theorem Nl {T : Nd} (hk : T.kind = 27) (o7 : A4 T.name = true) (ih : ∀ i, i < T.len → At (T.kids i)) : Al T := by
 intro K w0 ah s ret loops outs w v hS hE hN be ax
 obtain ⟨hl, lj⟩ := H4 hk ax
 have rG : gi K.F T.kind T.name T.len (fun i => ll K.F (T.kids i)) (ao s) s.2.length = CR.bind (fC K (T.kids 0) 2 (.ok (ao s))) fun s1 => .ok (2, s1) := by
  exact bR3
 rw [rG]
 have hsg' : (T.name.toList == [33]) = true := by rw [← Cn]; exact o7
 have k_R9_1 := kk
 exact bR9
theorem Nm {T : Nd} (hk : T.kind = 27) (o7 : A4 T.name = false) (ih : ∀ i, i < T.len → At (T.kids i)) : Al T := by
 intro K w0 ah s ret loops outs w v hS hE hN be ax
 obtain ⟨hl, lj⟩ := H4 hk ax
 have rG : gi K.F T.kind T.name T.len (fun i => ll K.F (T.kids i)) (ao s) s.2.length = CR.bind (fC K (T.kids 0) 1 (.ok (ao s))) fun s1 => .ok (1, s1) := by
  exact bR3
 rw [rG]
 have hsg' : (T.name.toList == [33]) = false := by rw [← Cn]; exact o7
 have k_R9_0 := kk
 exact bR9
theorem No {T : Nd} (hk : T.kind = 26) (hl : T.len = 0) : Al T := by
 intro K w0 ah s ret loops outs w v hS hE hN be ax
 have rG : gi K.F T.kind T.name T.len (fun i => ll K.F (T.kids i)) (ao s) s.2.length = .ok (3, ao s) := by
  exact bR4
 have k_R20_2 := kk
 exact O9
theorem Nn {T : Nd} (hk : T.kind = 26) (hl : T.len = 1) (ih : ∀ i, i < T.len → At (T.kids i)) : Al T := by
 intro K w0 ah s ret loops outs w v hS hE hN be ax
 have lj := (H5 hk ax).2 0 (by omega)
 have rG : gi K.F T.kind T.name T.len (fun i => ll K.F (T.kids i)) (ao s) s.2.length = CR.bind (fC K (T.kids 0) 1 (.ok (ao s))) fun s1 => .ok (3, s1) := by
  exact bR4
 have k_R10_1 := kk
 exact UY
theorem Ij {K : SK} {A B : Nd} {t t' x : Int} {s : CS} : (CR.bind (fM (ll K.F A) t s) fun s1 => CR.bind (fM (ll K.F B) t' s1) fun s2 => .ok (x, s2)) = CR.bind (fC K B t' (fC K A t (.ok s))) fun s1 => .ok (x, s1) := by
 unfold fC
 simp only [CR.bind_ok]
 cases fM (ll K.F A) t s <;> rfl
def Tw (K : SK) (A B : Nd) (s : CS) : CR CS := CR.bind (iz (ll K.F A) s) fun r => fM (ll K.F B) r.1 r.2
theorem K8 {K : SK} {A B : Nd} {x : Int} {s : CS} : (CR.bind (iz (ll K.F A) s) fun r => CR.bind (fM (ll K.F B) r.1 r.2) fun s2 => .ok (x, s2)) = CR.bind (Tw K A B s) fun s1 => .ok (x, s1) := by
 unfold Tw
 cases iz (ll K.F A) s <;> rfl
theorem K7 {K : SK} {A B : Nd} {s : CS} {t : Int} (h : IP K A (.ok s) t) : fC K B t (oI K A (.ok s)) = Tw K A B s := by
 unfold Tw fC oI
 simp only [CR.bind_ok]
 cases hv : iz (ll K.F A) s with
 |error e => rfl
 |ok r => rw [h s r rfl (nf hv).1]; rfl
theorem CM {s : ByteArray} (h : En s = true) : s = ⟨#[61, 61]⟩ ∨ s = ⟨#[33, 61]⟩ := by
 have := (lq _ _).1 h
 simpa using this
theorem MQ {s : ByteArray} (h : En s = true) : lX s = 3 := by
 rcases CM h with rfl | rfl <;> decide
theorem CN {s : ByteArray} (h : lX s ≠ 3) : En s = false := by
 cases he : En s with
 |false => rfl
 |true => exact absurd (MQ he) h
theorem H3 {s : ByteArray} (h : En s = false) : (s.toList == [61, 61]) = false ∧ (s.toList == [33, 61]) = false := by
 have e1 : (⟨#[61, 61]⟩ : ByteArray).toList = [61, 61] := by rw [ByteArray.toList_eq]
 have e2 : (⟨#[33, 61]⟩ : ByteArray).toList = [33, 61] := by rw [ByteArray.toList_eq]
 have h' : ¬ (s = ⟨#[61, 61]⟩ ∨ s = ⟨#[33, 61]⟩) := by
  intro e
  have : En s = true := (lq _ _).2 (by simpa using e)
  rw [h] at this; cases this
 exact ⟨by rw [← e1]; exact sq fun e => h' (.inl e), by rw [← e2]; exact sq fun e => h' (.inr e)⟩
theorem K9 {s : ByteArray} (h : En s = true) : ((s.toList == [61, 61]) = true ∧ True) ∨ ((s.toList == [61, 61]) = false ∧ (s.toList == [33, 61]) = true) := by
 rcases CM h with rfl | rfl
 ·exact .inl ⟨by rw [ByteArray.toList_eq]; rfl, trivial⟩
 ·exact .inr ⟨by rw [ByteArray.toList_eq]; rfl, by rw [ByteArray.toList_eq]; rfl⟩
theorem Jk {T : Nd} (hk : T.kind = 28) (I0 : lX T.name = 1) (ih : ∀ i, i < T.len → At (T.kids i)) : Al T := by
 exact bR1
theorem Jj {T : Nd} (hk : T.kind = 28) (I0 : lX T.name = 2) (ih : ∀ i, i < T.len → At (T.kids i)) : Al T := by
 exact bR1
theorem Ji {T : Nd} (hk : T.kind = 28) (I0 : lX T.name = 3) (fE : En T.name = false) (ih : ∀ i, i < T.len → At (T.kids i)) : Al T := by
 intro K w0 ah s ret loops outs w v hS hE hN be ax
 obtain ⟨_, hl, lj, rL⟩ := xt hk ax
 have hq1 := (H3 fE).1
 have mU := (H3 fE).2
 have rG : gi K.F T.kind T.name T.len (fun i => ll K.F (T.kids i)) (ao s) s.2.length = CR.bind (fC K (T.kids 1) 1 (fC K (T.kids 0) 1 (.ok (ao s)))) fun s1 => .ok (2, s1) := by
  exact bR6
 have k_R7_1 := kk
 exact bR7
theorem Jh {T : Nd} (hk : T.kind = 28) (I0 : lX T.name = 4) (ih : ∀ i, i < T.len → At (T.kids i)) : Al T := by
 exact bR0
theorem Jg {T : Nd} (hk : T.kind = 28) (I0 : lX T.name = 5) (ih : ∀ i, i < T.len → At (T.kids i)) : Al T := by
 exact bR0
theorem Nk {T : Nd} (hk : T.kind = 28) (heq : En T.name = true) (ih : ∀ i, i < T.len → At (T.kids i)) : Al T := by
 intro K w0 ah s ret loops outs w v hS hE hN be ax
 obtain ⟨_, hl, lj, rL⟩ := xt hk ax
 have I0 := MQ heq
 have rG : gi K.F T.kind T.name T.len (fun i => ll K.F (T.kids i)) (ao s) s.2.length = CR.bind (Tw K (T.kids 0) (T.kids 1) (ao s)) fun s1 => .ok (2, s1) := by
  unfold gi
  rw [if_neg (by omega), if_neg (by omega), if_neg (by omega), if_neg (by omega), if_neg (by omega), if_neg (by omega), if_neg (by omega), if_pos heq]
  exact K8
 have k_R8_0 := kk
 exact bR8
theorem uh {F : Nd} (h : gg F = true) {j : Nat} (hj : j < F.len) : fR (F.kids j) = true := by
 unfold gg at h
 simp only [Bool.and_eq_true] at h
 exact bD.1 h.2 j hj
theorem KP {T : Nd} (h : fR T = true) : 1 ≤ T.len := by
 unfold fR at h
 simp only [Bool.and_eq_true, decide_eq_true_eq] at h
 exact h.1.2
theorem SS.file {K : SK} {w0 : World} {ah : Option Nat} {σ : CR CS} {ret loops outs : Int} {w : World} (h : SS K w0 ah σ ret loops outs w) : w.cell? ⟨K.cb, 0, none⟩ = some (.int .i64 K.F.kind) ∧ w.cell? ⟨K.cb, 1, none⟩ = some (.int .i64 K.F.num) ∧ w.cell? ⟨K.cb, 2, none⟩ = some (.string K.F.name) ∧ w.cell? ⟨K.cb, 3, none⟩ = some K.fv := by
 obtain ⟨vv, code, place, deep, zs, vs, h1, _⟩ := h.is
 exact ⟨h1.cells.1, h1.cells.2.1, h1.cells.2.2.1, h1.cells.2.2.2.1⟩
def xz (F T f : Nd) (n : Nat) (s : CS) : CR CS := forN (fun i => fM (ll F (T.kids i)) (f.kids i).num) n s
theorem BQ (F T f : Nd) (K : SK) (hF : K.F = F) (n : Nat) (s : CS) : fC K (T.kids n) (f.kids n).num (xz F T f n s) = xz F T f (n + 1) s := by subst hF; rfl
theorem Iq {K : SK} {T f : Nd} {s : CS} {n : Nat} (hE : ∀ i, i < T.len → (T.kids i).eOk = true) (hn : n < T.len) (be : s.2.length + T.size ≤ K.N) (hN : K.N ≤ 1048576) : SAt K (T.kids n) (xz K.F T f n (ao s)) (aP T s.2.length n) := by
 have h1 := ib T s.2.length hn
 refine ⟨by omega, fun s' e => ?_⟩
 have := CI (g := fun i => (T.kids i).size) (fun i hi => (pK K.F _ (hE i hi)).want _) (Nat.le_of_lt hn) _ _ e
 rw [b5] at this
 exact ⟨by unfold aP; omega, by omega⟩
theorem SS.boxed {K : SK} {w0 : World} {ah : Option Nat} {σ : CR CS} {ret loops outs : Int} {w : World} (h : SS K w0 ah σ ret loops outs w) (o : Obj) : ∃ own, SS K (w.alloc o) own σ ret loops outs (w.alloc o) ∧ (∀ σ' r' l' o' W, SS K (w.alloc o) own σ' r' l' o' W → SS K w0 ah σ' r' l' o' W) ∧
  ∀ σ' r' l' o' W, SS K (w.alloc o) own σ' r' l' o' W → W.heap[w.heap.size]? = some o := by
 obtain ⟨vv, code, place, deep, zs, vs, h1, h2, h3⟩ := h.is
 have hb : Below w.heap.size w (w.alloc o) := bA
 have bm := h1.lt
 obtain ⟨own, g1, g2, g3, g4⟩ := (h.alloc o).restart
 refine ⟨own, g1, g4, fun σ' r' l' o' W hW => ?_⟩
 have bK : ∀ k, own = some k → k < w.heap.size := by
  intro k hk
  obtain ⟨Nh, c', p', d', z', s', q1, q2, q3⟩ := g1.is
  rcases q3 with q3 | ⟨i, q3, q4⟩
  ·have e1 := q1.blk
   rw [Below.heap_alloc w o K.cb bm.1, h1.blk] at e1
   have e3 : Nh = vv := by
    injection e1 with e1
    injection e1 with e1
    have := congrArg (fun a : Array Value => a[7]?) e1
    simpa [SK.cells] using this.symm
   rw [e3, hk] at q3
   exact (h1.var.lt k q3).2
  ·have := (q1.var.lt i q3).2; omega
 rw [hW.keep (k := w.heap.size) (by simp) (by omega) (by omega) (fun e => by have := bK _ e.symm; omega)]
 exact heap_alloc_new w o
theorem Nr {T : Nd} (hk : T.kind = 25) (K : SK) (w0 : World) (ah : Option Nat) (s : CS) (ret loops outs : Int) (w : World) (v : Value) (hS : SS K w0 ah (.ok (ao s)) ret loops outs w) (hE : SEnv K w) (hN : SNd K w T v) (be : s.2.length + T.size ≤ K.N) (ax : T.eOk = true) (yF : findF K.F T.name = none) :
  Calls Tryd.prog 96 #[.pointer (some ⟨K.cb, 0, none⟩), T.val v, .int .i64 s.2.length] w fun e w' => e = .returned (.int .i64 0) ∧ SS K w0 ah (.error (5, s.2.length)) ret loops outs w' := by
 have k_R17_0 := kk
 exact UR
theorem Nq {T : Nd} (hk : T.kind = 25) (K : SK) (w0 : World) (ah : Option Nat) (s : CS) (ret loops outs : Int) (w : World) (v : Value) (hS : SS K w0 ah (.ok (ao s)) ret loops outs w) (hE : SEnv K w) (hN : SNd K w T v) (be : s.2.length + T.size ≤ K.N) (ax : T.eOk = true) (j : Nat) (hj : findF K.F T.name = some j) (Ou : T.len + 1 ≠ (K.F.kids j).len) :
  Calls Tryd.prog 96 #[.pointer (some ⟨K.cb, 0, none⟩), T.val v, .int .i64 s.2.length] w fun e w' => e = .returned (.int .i64 0) ∧ SS K w0 ah (.error (8, s.2.length)) ret loops outs w' := by
 have k_R15_0 := kk
 exact UT
theorem Np {T : Nd} (hk : T.kind = 25) (K : SK) (w0 : World) (ah : Option Nat) (s : CS) (ret loops outs : Int) (w : World) (v : Value) (hS : SS K w0 ah (.ok (ao s)) ret loops outs w) (hE : SEnv K w) (hN : SNd K w T v) (be : s.2.length + T.size ≤ K.N) (ax : T.eOk = true) (j : Nat) (hj : findF K.F T.name = some j) (Ou : T.len + 1 = (K.F.kids j).len) (ih : ∀ i, i < T.len → At (T.kids i)) :
  Calls Tryd.prog 96 #[.pointer (some ⟨K.cb, 0, none⟩), T.val v, .int .i64 s.2.length] w fun e w' => e = .returned (.int .i64 (K.F.kids j).num) ∧ SS K w0 ah (xz K.F T (K.F.kids j) T.len (ao s)) ret loops outs w' := by
 have k_R15_1 := kk
 exact UT
theorem QE {T : Nd} (hk : T.kind = 25) (ih : ∀ i, i < T.len → At (T.kids i)) : Al T := by
  intro K w0 ah s ret loops outs w v hS hE hN be ax
  have rG : gi K.F T.kind T.name T.len (fun i => ll K.F (T.kids i)) (ao s) s.2.length = (match findF K.F T.name with
    | none => .error (5, s.2.length)
    | some j => if T.len + 1 = (K.F.kids j).len then CR.bind (xz K.F T (K.F.kids j) T.len (ao s)) fun s1 => .ok ((K.F.kids j).num, s1) else .error (8, s.2.length)) := by
    unfold gi
    rw [if_neg (by omega), if_neg (by omega), if_neg (by omega), if_pos hk]; rfl
  rw [rG]
  cases hj : findF K.F T.name with
  | none =>
    refine (Nr hk K w0 ah s ret loops outs w v hS hE hN be ax hj).mono ?_
    rintro e w' ⟨rfl, h⟩
    exact ⟨0, rfl, fun r h => (by cases h), h⟩
  | some j =>
    dsimp only
    by_cases hc : T.len + 1 = (K.F.kids j).len
    · rw [if_pos hc]
      refine (Np hk K w0 ah s ret loops outs w v hS hE hN be ax j hj hc ih).mono ?_
      rintro e w' ⟨rfl, h⟩
      exact ⟨_, rfl, lK.1, by rw [lK.2]; exact h⟩
    · rw [if_neg hc]
      refine (Nq hk K w0 ah s ret loops outs w v hS hE hN be ax j hj hc).mono ?_
      rintro e w' ⟨rfl, h⟩
      exact ⟨0, rfl, fun r h => (by cases h), h⟩
end Go.Proofs.YtkfbbdhidecefaaDoor
