import Derived.Test.YteaocammohcgoaaGreatDoorVKeB
set_option linter.unusedVariables false
set_option maxHeartbeats 16000000
set_option maxRecDepth 100000
namespace Go.Proofs.YteaocammohcgoaaGreatDoor
open Go.RowKit
variable {G : Prop}
theorem Wk (h : G := by
 exact kl ih 1 1 (by rw [bQ h]; rfl) (by rw [bQ h]; rfl) (.inr (.inr (.inr (.inr (.inr (.inr (⟨by rw [bQ h]; rfl, by rw [bQ h]; rfl, by rw [bQ h]; rfl, by rw [bQ h]; rfl, by rw [bQ h]; rfl, by rw [bQ h]; rfl, rfl, rfl⟩))))))) (mC hk h (by decide) (by decide) (by decide)) K w0 O s ret loops ai w v hS hE hN ay hk aS) : G := h
theorem bP1 (h : G := by
 rw [iA]
 have HA := aa (fun o => hS.alloc o)
 unfold Nd.val
 rw [hk]
 clear hS hE hN aS ay iA hk
 go_enter Tryz.func133, Tryz.ntmps133
 go_wp2
 go_ret
 exact ⟨rfl, HA.out _⟩) : G := h
theorem bP2 (h : G := by
 obtain ⟨a, cap, hv, cr, hq⟩ := aH.1 hN.row
 subst hv
 have tT := (iq hj).1
 have Iv := hE.fun' j tT
 have Nx := zv (kV hE.ok tT)
 have EM := Nd.fine_len (Nd.fine_kid hE.fine tT)
 obtain ⟨af, cf, P3, TJ, Nb⟩ := aH.1 Iv
 have k_P4_1 := kk
 exact bP4) : G := h
theorem bP3 (h : G := by
 have k_P5_0 := kk
 exact bP5) : G := h
theorem bP4 (h : G := by
 have oT := (hS.alloc (.cells #[.int .i64 T.kind, .int .i64 T.num, .string T.name, .slice a T.len cap] 25)).drew.funs (fM hN.fine)
 have oS := ((hS.alloc (.cells #[.int .i64 T.kind, .int .i64 T.num, .string T.name, .slice a T.len cap] 25)).alloc (.cells #[.int .i64 0, .int .i64 0, .string ⟨#[]⟩, .slice none 0 0] 25)).drew.funs (fM hN.fine)
 first
 |clear k_P4_0
  rw [pV] at oT oS
  simp only [Option.map_none, Option.getD_none, Option.isSome_none] at oT oS
  have k0 := hS.fcell
  have bN := hS.lt
  have HB := aa (fun o o' => (hS.box o).trans ((hS.alloc o).box o'))
  unfold Nd.val
  have k_P5_1 := kk
  exact bP5
 |clear k_P4_1
  rw [hj] at oT oS
  simp only [Option.map_some, Option.getD_some, Option.isSome_some] at oT oS
  rw [P3] at oT oS
  first
  |clear k_P2_0
   have k0 := hS.fcell
   have bN := hS.lt
   have HB := aa (fun o o' => (hS.box o).trans ((hS.alloc o).box o'))
   have hn := T.fine_len hN.fine
   unfold Nd.val
   have k_P3_0 := kk
   exact bP3
  |clear k_P2_1
   rw [P3] at Iv
   have k0 := hS.fcell
   have bN := hS.lt
   have hn := T.fine_len hN.fine
   obtain ⟨O1, aD, bg, bS, aZ⟩ := hS.boxed (.cells #[.int .i64 T.kind, .int .i64 T.num, .string T.name, .slice a T.len cap] 25)
   obtain ⟨O2, aC, dS, kD, tr⟩ := aD.boxed (.cells #[.int .i64 (K.F.kids j).kind, .int .i64 (K.F.kids j).num, .string (K.F.kids j).name, .slice af (K.F.kids j).len cf] 25)
   have cP : Hid (∀ s' r' l' o' W, IS K ((w.alloc (.cells #[.int .i64 T.kind, .int .i64 T.num, .string T.name, .slice a T.len cap] 25)).alloc (.cells #[.int .i64 (K.F.kids j).kind, .int .i64 (K.F.kids j).num, .string (K.F.kids j).name, .slice af (K.F.kids j).len cf] 25)) O2 s' r' l' o' W → W.heap[w.heap.size + 1]? = some (.cells #[.int .i64 (K.F.kids j).kind, .int .i64 (K.F.kids j).num, .string (K.F.kids j).name, .slice af (K.F.kids j).len cf] 25)) := fun s' r' l' o' W h => by have := kD s' r' l' o' W h; simpa using this
   have HBX1 := aa (fun s' r' l' o' W (h : IS K ((w.alloc (.cells #[.int .i64 T.kind, .int .i64 T.num, .string T.name, .slice a T.len cap] 25)).alloc (.cells #[.int .i64 (K.F.kids j).kind, .int .i64 (K.F.kids j).num, .string (K.F.kids j).name, .slice af (K.F.kids j).len cf] 25)) O2 s' r' l' o' W) => bS _ _ _ _ _ (dS s' r' l' o' W h))
   have bF := aa (fun s' r' l' o' W (h : IS K ((w.alloc (.cells #[.int .i64 T.kind, .int .i64 T.num, .string T.name, .slice a T.len cap] 25)).alloc (.cells #[.int .i64 (K.F.kids j).kind, .int .i64 (K.F.kids j).num, .string (K.F.kids j).name, .slice af (K.F.kids j).len cf] 25)) O2 s' r' l' o' W) => aZ _ _ _ _ _ (dS s' r' l' o' W h))
   have eB := aa (fun s' r' l' o' W (h : IS K ((w.alloc (.cells #[.int .i64 T.kind, .int .i64 T.num, .string T.name, .slice a T.len cap] 25)).alloc (.cells #[.int .i64 (K.F.kids j).kind, .int .i64 (K.F.kids j).num, .string (K.F.kids j).name, .slice af (K.F.kids j).len cf] 25)) O2 s' r' l' o' W) => bg _ _ _ _ _ (dS s' r' l' o' W h))
   have bR := aa aC
   have kM := aa (fun (h0 : T.len ≠ 0) => dq hN.row h0)
   have PD := aa (dq Iv (by omega))
   have J1 := aa (fun (i : Nat) (hi : i < T.len) (u : Value) (hr : Row 0 K.lo w (T.kids i) u) (W : World) (st : CS) (ty : Int) (hW : IS K ((w.alloc (.cells #[.int .i64 T.kind, .int .i64 T.num, .string T.name, .slice a T.len cap] 25)).alloc (.cells #[.int .i64 (K.F.kids j).kind, .int .i64 (K.F.kids j).num, .string (K.F.kids j).name, .slice af (K.F.kids j).len cf] 25)) O2 st ret loops ai W) (hf : st.2.length + (T.kids i).size ≤ K.N) => ec (ih i hi) K _ O2 st ret loops ai W u ty hW (hE.later (bF.out _ _ _ _ _ hW)) ((hN.kid hi hr).later (bF.out _ _ _ _ _ hW)) hf (he i hi))
   have sC : Hid (∀ i st, i < T.len → forN (fun i => aE (bP K.F (T.kids i)) ((K.F.kids j).kids i).num) i (ae s) = .ok st → st.2.length + (T.kids i).size ≤ K.N) := by
    intro i st hi h
    have := nu (g := fun i => (T.kids i).size) (fun i hi => (ej K.F _ (he i hi)).want ((K.F.kids j).kids i).num) (Nat.le_of_lt hi) _ _ h
    have h2 := bV T s.2.length hi
    rw [aP] at this
    unfold aW at h2
    omega
   have k_P3_1 := kk
   exact bP3) : G := h
theorem bP5 (h : G := by
 have K4 : ¬ K.cb = w.heap.size := by omega
 have hnb1 : ¬ K.cb = w.heap.size + 1 := by omega
 have hcb1 : K.cb < w.heap.size + 1 := by omega
 have k0' := (hS.alloc (.cells #[.int .i64 T.kind, .int .i64 T.num, .string T.name, .slice a T.len cap] 25)).fcell
 first
 |clear k_P5_0
  have fy : K.lo ≤ w.heap.size := by have := hS.ok.cl; omega
  have Pu := aa (fun W => H5 (K.F.kids j) W af cf Nx EM TJ.1)
  first
  |clear k_P3_0
   have zq : ((T.len : Int) == (((K.F.kids j).len - 1 : Nat) : Int)) = false := bn (by omega)
   have TK : ((T.len : Int) != (((K.F.kids j).len - 1 : Nat) : Int)) = true := by simp only [bne, zq]; rfl
   clear hS hN hq hj hE Iv Nb P3 tT
   generalize K.F.kids j = G at *
   generalize G.len - 1 = gl at *
   have k_P7_0 := kk
   exact bP7
  |clear k_P3_1
   have Lb : (K.F.kids j).len - 1 = T.len := by omega
   rw [Lb] at Pu
   have hlen2 : T.len ≤ (K.F.kids j).len := by omega
   have bH := jK
   unfold Nd.val at *
   clear hS hN hq hj hE Iv Nb P3 tT aD aC bg dS bS kD aZ tr ih he ay Lb
   have hcfT : T.len ≤ cf := by omega
   have HCNT := aa xJ
   clear xJ
   generalize K.F.kids j = G at *
   have k_P7_1 := kk
   exact bP7
 |clear k_P5_1
  clear hS hN hq pV
  have k_P7_2 := kk
  exact bP7) : G := h
theorem bP6 (h : G := by
 intro K w0 O s ret loops ai w v hS hE hN ay aS
 have HB := aa (fun o => hS.box o)
 have HV := aa (fun o => hU K w0 O s ret loops ai (w.alloc o) v (hS.alloc o) (hE.later (hS.box o)) (hN.later (hS.box o)) ay hk aS)
 unfold Nd.val at *
 first
 |clear k_P6_0
  have jL : (T.kind : Int) = 27 := hk
  have k_P9_0 := kk
  exact bP9
 |clear k_P6_1
  have jL : (T.kind : Int) = 28 := hk
  have k_P9_1 := kk
  exact bP9
 |clear k_P6_2
  have jL : (T.kind : Int) = 25 := hk
  have k_P9_2 := kk
  exact bP9) : G := h
theorem bP7 (h : G := by
 go_enter Tryz.func137, Tryz.ntmps137
 go_wp2
 go_region_held3 (fun W => W.cell? ⟨K.cb, 0, none⟩ = some (.map (some K.mf)) ∧ W.cell? ⟨w.heap.size, 2, none⟩ = some (.string T.name)) (go_keep) (fail)
 first
 |clear k_P7_0
  all_goals go_wp2_with (first
   |(go_at_call 49; refine (Pu.out _).mono ?_; rintro e w2 ⟨rfl, ba⟩; have b3 : w2.cell? ⟨w.heap.size, 3, none⟩ = some (.slice a T.len cap) := ((ba.cell (p := ⟨w.heap.size, 3, none⟩) (by first | (simp [go_sem]; done) | (simp [go_sem]; omega))).trans (by simp [go_sem]))))
  all_goals exact ⟨rfl, rfl, (HB.out _ _).drew.trans (ba.mono (by first | (simp [go_sem]; done) | (simp [go_sem]; omega)))⟩
 |clear k_P7_1
  all_goals go_wp2_with (first
   |(go_at_call 49; refine (Pu.out _).mono ?_; rintro e w2 ⟨rfl, ba⟩; have bY := bR.out.drew.calm ba; obtain ⟨f0, f1, f2, f3⟩ := al (cP.out _ _ _ _ _ bY); obtain ⟨b0, b1, b2, b3⟩ := al (HBX1.out _ _ _ _ _ bY); have e7 := aa bY; clear bY ba))
  all_goals go_loopw [41] (fun i wr => ∃ n : Nat, n ≤ T.len ∧ i = .int .i64 n ∧ ∃ st, forN (fun i => aE (bP K.F (T.kids i)) (G.kids i).num) n (ae s) = .ok st ∧ IS K ((w.alloc (.cells #[.int .i64 T.kind, .int .i64 T.num, .string T.name, .slice a T.len cap] 25)).alloc (.cells #[.int .i64 G.kind, .int .i64 G.num, .string G.name, .slice af G.len cf] 25)) O2 st ret loops ai wr) (fun i _ => T.len - (intOf i).toNat)
  all_goals try (case atStart => exact ⟨0, Nat.zero_le _, rfl, ae s, rfl, e7.out⟩)
  all_goals
   obtain ⟨n, EE, rfl, st, aM, cy⟩ := hrel
   by_cases xG : n < T.len
   ·have hni : (n : Int) < (T.len : Int) := by omega
    obtain ⟨g, off, mQ, mh, iM, rZ, aV⟩ := kM.out (by omega)
    injection mh with vw Lq vu
    subst vw
    subst vu
    obtain ⟨gf, of, cf', hvf', hglf, hcapf', K7⟩ := PD.out
    injection hvf' with evf1 evf2 evf3
    subst evf1
    subst evf3
    obtain ⟨u, kK, jJ⟩ := aV n xG
    obtain ⟨au, qu, hu, pY, Bg⟩ := aH.1 jJ
    subst hu
    clear Bg
    obtain ⟨up, Qf, hrp⟩ := K7 n (by omega)
    obtain ⟨c0, c1, c2, c3⟩ := kK _ (bF.out _ _ _ _ _ cy)
    obtain ⟨p0, p1, p2, p3⟩ := Qf _ (bF.out _ _ _ _ _ cy)
    have HW := aa (fun o => J1.out n xG _ jJ (wr.alloc o).drew st (G.kids n).num (cy.alloc o).drew (sC.out n st xG aM))
    have kG : Hid (forN (fun i => aE (bP K.F (T.kids i)) (G.kids i).num) (n + 1) (ae s) = aE (bP K.F (T.kids n)) (G.kids n).num st) := by unfold Hid; simp only [forN, aM]; rfl
    have pr := aa (fun o => (bF.out _ _ _ _ _ cy).trans (cy.box o))
    have Nv := World.block_lt_of_cell? wr ⟨gf, of + n * 4 + 1, none⟩ p1
    dsimp only at Nv
    unfold Nd.val at HW
    clear aV kK jJ K7 Qf hrp cy
    cases hM : aE (bP K.F (T.kids n)) (G.kids n).num st with
    |error p =>
     have HM := aa hM
     have qF : Hid (CR.bind (forN (fun i => aE (bP K.F (T.kids i)) (G.kids i).num) T.len (ae s)) (fun s1 => .ok (G.num, s1)) = .error p) := by unfold Hid; rw [im (kG.out.trans hM) (show n + 1 ≤ T.len by omega)]; rfl
     clear hM aM
     go_wp2
     generalize mV : wr.alloc (.cells #[.int .i64 (T.kids n).kind, .int .i64 (T.kids n).num, .string (T.kids n).name, .slice au (T.kids n).len qu] 25) = wx
     obtain ⟨x0, x1, x2, x3⟩ := al (w := wx) (b := wr.heap.size) (t := 25) (by rw [← mV]; exact heap_alloc_new wr _)
     have xp : wx.cell? ⟨gf, of + n * 4 + 1, none⟩ = some (.int .i64 (G.kids n).num) := by rw [← mV]; exact (World.cell?_alloc_past _ _ _ Nv).trans p1
     have yu := aa (HW.out (.cells #[.int .i64 (T.kids n).kind, .int .i64 (T.kids n).num, .string (T.kids n).name, .slice au (T.kids n).len qu] 25))
     have FW := aa (pr.out (.cells #[.int .i64 (T.kids n).kind, .int .i64 (T.kids n).num, .string (T.kids n).name, .slice au (T.kids n).len qu] 25))
     rw [mV] at yu FW
     clear mV
     go_still_tail 7, bH
     go_wp2_with (first
      |(go_at_call 117; refine (dr yu.out HM.out).mono ?_; rintro e w2 ⟨rfl, ba⟩; skip))
     refine ⟨rfl, ?_⟩
     rw [fR qF.out]
     exact ⟨rfl, FW.out.drew.trans ba⟩
    |ok s1 =>
     have HM := aa hM
     clear hM aM
     go_wp2
     generalize mV : wr.alloc (.cells #[.int .i64 (T.kids n).kind, .int .i64 (T.kids n).num, .string (T.kids n).name, .slice au (T.kids n).len qu] 25) = wx
     obtain ⟨x0, x1, x2, x3⟩ := al (w := wx) (b := wr.heap.size) (t := 25) (by rw [← mV]; exact heap_alloc_new wr _)
     have xp : wx.cell? ⟨gf, of + n * 4 + 1, none⟩ = some (.int .i64 (G.kids n).num) := by rw [← mV]; exact (World.cell?_alloc_past _ _ _ Nv).trans p1
     have yu := aa (HW.out (.cells #[.int .i64 (T.kids n).kind, .int .i64 (T.kids n).num, .string (T.kids n).name, .slice au (T.kids n).len qu] 25))
     rw [mV] at yu
     clear mV
     go_still_tail 7, bH
     go_wp2_with (first
      |(go_at_call 117; refine (cw yu.out HM.out).mono ?_; rintro e w2 ⟨rfl, aC⟩; have pq := aa aC; clear aC))
     exact ⟨⟨n + 1, by omega, by go_num, s1, by rw [kG.out, HM.out], pq.out⟩, by simp [intOf]; omega⟩
   ·obtain rfl : n = T.len := by omega
    obtain ⟨f0, f1, f2, f3⟩ := al (cP.out _ _ _ _ _ cy)
    have iu := aa cy
    have mX := aa aM
    clear cy aM
    go_wp2
    go_ret
    rw [lD (a := (G.num, st)) (by rw [mX.out]; rfl)]
    exact ⟨rfl, eB.out _ _ _ _ _ iu.out⟩
 |clear k_P7_2
  all_goals go_wp2
  all_goals exact ⟨rfl, rfl, (HB.out _ _).drew⟩) : G := h
theorem bP8 (h : G := by
 have cP := aa bS
 have bF := aa aZ
 have eB := aa bg
 have bh := aa aD
 have fy : K.lo ≤ w.heap.size := by have := hS.lt; have := hS.ok.cl; omega
 have dK := hS.ok.few
 first
 |clear k_P8_0
  have jn := aa (fun (W : World) (st : CS) (ret loops ai : Int) (ty : Int) (hW : IS K (w.alloc (.cells #[.int .i64 T.kind, .int .i64 T.num, .string T.name, .slice (some ⟨g, off, none⟩) T.len cap] 25)) O1 st ret loops ai W) (hf : st.2.length + (T.kids 0).size ≤ K.N) => ec (ih 0 (by omega)) K _ O1 st ret loops ai W u0 ty hW (hE.later (aZ _ _ _ _ _ hW)) ((hN.kid (by omega) dI).later (aZ _ _ _ _ _ hW)) hf dh)
  have iP := aa (gz ay (i := 0) (by omega))
  unfold Nd.val at *
  have fz : g < w.heap.size := by omega
  have IH : g < w.heap.size + 1 := by omega
  have IG : g < w.heap.size + 1 + 1 := by omega
  have Tp : ¬ g = w.heap.size := by omega
  have IL : ¬ g = w.heap.size + 1 := by omega
  have IJ : ¬ g = w.heap.size + 1 + 1 := by omega
  obtain ⟨eA, ez, ey, ew⟩ := dP.out w (Below.refl _ _)
  have iB : 0 < T.len := by omega
  have gr := aa hk
  rw [hk] at jn bh cP bF eB ⊢
  clear hS hE hN aD bg bS aZ aV fs dI iA aS hk hl
  cases hM : aE (bP K.F (T.kids 0)) 3 (ae s) with
  |error p =>
   have HM := aa hM
   clear hM
   rw [CR.bind_error]
   go_enter Tryz.func133, Tryz.ntmps133
   go_wp2_with (first
    |(go_at_call 117; refine (dr (jn.out _ _ _ _ _ 3 bh.out iP.out) HM.out).mono ?_; rintro e w2 ⟨rfl, ba⟩; skip))
   exact ⟨rfl, rfl, (bF.out _ _ _ _ _ bh.out).trans ba⟩
  |ok s1 =>
   have HM := aa hM
   clear hM
   rw [CR.bind_ok]
   go_enter Tryz.func133, Tryz.ntmps133
   go_wp2_with (first
    |(go_at_call 117; refine (cw (jn.out _ _ _ _ _ 3 bh.out iP.out) HM.out).mono ?_; rintro e w2 ⟨rfl, aC⟩; have bR := aa aC; clear aC))
   go_ret
   exact ⟨rfl, eB.out _ _ _ _ _ bR.out⟩
 |clear k_P8_1
  have kM := aa (fun (h0 : T.len ≠ 0) => dq hN.row h0)
  have J1 := aa (fun (j : Nat) (hj : j < T.len) (u : Value) (hr : Row 0 K.lo w (T.kids j) u) (W : World) (st : CS) (hW : IS K (w.alloc (.cells #[.int .i64 T.kind, .int .i64 T.num, .string T.name, .slice a T.len cap] 25)) O1 st ret loops ai W) (hf : st.2.length + (T.kids j).size ≤ K.N) => ec (ih j hj) K _ O1 st ret loops ai W u 1 hW (hE.later (aZ _ _ _ _ _ hW)) ((hN.kid hj hr).later (aZ _ _ _ _ _ hW)) hf (he j hj))
  have sC : Hid (∀ j st, j < T.len → forN (fun i => aE (bP K.F (T.kids i)) 1) j (ae s) = .ok st → st.2.length + (T.kids j).size ≤ K.N) := by
   intro j st hj h
   have := nu (g := fun i => (T.kids i).size) (fun i hi => (ej K.F _ (he i hi)).want 1) (Nat.le_of_lt hj) _ _ h
   have h2 := bV T s.2.length hj
   rw [aP] at this
   unfold aW at h2
   omega
  unfold Nd.val at *
  rw [hk] at J1 bh cP bF eB ⊢
  have hn := T.fine_len hN.fine
  clear hS hE hN aD bg bS aZ iA aS hk hl hq ih he ay
  go_enter Tryz.func133, Tryz.ntmps133
  go_wp2
  go_loopw [31] (fun i wr => ∃ j : Nat, j ≤ T.len ∧ i = .int .i64 j ∧ ∃ st, forN (fun i => aE (bP K.F (T.kids i)) 1) j (ae s) = .ok st ∧ IS K (w.alloc (.cells #[.int .i64 26, .int .i64 T.num, .string T.name, .slice a T.len cap] 25)) O1 st ret loops ai wr) (fun i _ => T.len - (intOf i).toNat)
  case atStart => exact ⟨0, Nat.zero_le _, rfl, ae s, rfl, bh.out⟩
  case round =>
   obtain ⟨j, hj, rfl, st, aM, cy⟩ := hrel
   by_cases bN : j < T.len
   ·have La : (j : Int) < (T.len : Int) := by omega
    obtain ⟨g, off, mQ, mh, iM, rZ, aV⟩ := kM.out (by omega)
    injection mh with vw Lq vu
    subst vw
    subst vu
    obtain ⟨u, kK, jJ⟩ := aV j bN
    obtain ⟨au, qu, hu, pY, Bg⟩ := aH.1 jJ
    subst hu
    clear Bg
    obtain ⟨c0, c1, c2, c3⟩ := kK _ (bF.out _ _ _ _ _ cy)
    have HW := aa (fun o => J1.out j bN _ jJ (wr.alloc o) st (cy.alloc o) (sC.out j st bN aM))
    have kG : Hid (forN (fun i => aE (bP K.F (T.kids i)) 1) (j + 1) (ae s) = aE (bP K.F (T.kids j)) 1 st) := by unfold Hid; simp only [forN, aM]; rfl
    have pr := aa (fun o => (bF.out _ _ _ _ _ cy).trans (cy.box o))
    unfold Nd.val at HW
    clear aV kK jJ cy
    cases hM : aE (bP K.F (T.kids j)) 1 st with
    |error p =>
     have HM := aa hM
     have qF : Hid (CR.bind (forN (fun i => aE (bP K.F (T.kids i)) 1) T.len (ae s)) (fun s1 => .ok ((3 : Int), s1)) = .error p) := by unfold Hid; rw [im (kG.out.trans hM) (show j + 1 ≤ T.len by omega)]; rfl
     clear hM aM
     go_wp2_with (first
      |(go_at_call 117; refine (dr (HW.out _) HM.out).mono ?_; rintro e w2 ⟨rfl, ba⟩; skip))
     refine ⟨rfl, ?_⟩
     rw [fR qF.out]
     exact ⟨rfl, (pr.out _).trans ba⟩
    |ok s1 =>
     have HM := aa hM
     clear hM aM
     go_wp2_with (first
      |(go_at_call 117; refine (cw (HW.out _) HM.out).mono ?_; rintro e w2 ⟨rfl, aC⟩; have bR := aa aC; clear aC))
     exact ⟨⟨j + 1, by omega, by go_num, s1, by rw [kG.out, HM.out], bR.out⟩, by simp [intOf]; omega⟩
   ·obtain rfl : j = T.len := by omega
    have iu := aa cy
    have mX := aa aM
    clear cy aM
    go_wp2
    go_ret
    rw [lD (a := ((3 : Int), st)) (by rw [mX.out]; rfl)]
    exact ⟨rfl, eB.out _ _ _ _ _ iu.out⟩) : G := h
theorem bP9 (h : G := by
 generalize bI K.F T.kind T.name T.len (fun i => bP K.F (T.kids i)) (ae s) s.2.length = M at *
 rw [jL] at HV ⊢
 clear hS hE hN aS ay hk jL
 first
 |clear k_P9_0
  cases hM : M with
  |error p =>
   have HM := aa hM
   clear hM
   go_enter Tryz.func133, Tryz.ntmps133
   go_wp2_with (first
    |(go_at_call 138; refine (dr (HV.out _) HM.out).mono ?_; rintro e w2 ⟨rfl, ba⟩; skip))
   exact ⟨rfl, rfl, (HB.out _).trans ba⟩
  |ok r =>
   have HM := aa hM
   clear hM
   go_enter Tryz.func133, Tryz.ntmps133
   go_wp2_with (first
    |(go_at_call 138; refine (cw (HV.out _) HM.out).mono ?_; rintro e w2 ⟨rfl, aC⟩; have bR := aa aC; clear aC))
   go_ret
   exact ⟨rfl, bR.out⟩
 |clear k_P9_1
  cases hM : M with
  |error p =>
   have HM := aa hM
   clear hM
   go_enter Tryz.func133, Tryz.ntmps133
   go_wp2_with (first
    |(go_at_call 139; refine (dr (HV.out _) HM.out).mono ?_; rintro e w2 ⟨rfl, ba⟩; skip))
   exact ⟨rfl, rfl, (HB.out _).trans ba⟩
  |ok r =>
   have HM := aa hM
   clear hM
   go_enter Tryz.func133, Tryz.ntmps133
   go_wp2_with (first
    |(go_at_call 139; refine (cw (HV.out _) HM.out).mono ?_; rintro e w2 ⟨rfl, aC⟩; have bR := aa aC; clear aC))
   go_ret
   exact ⟨rfl, bR.out⟩
 |clear k_P9_2
  cases hM : M with
  |error p =>
   have HM := aa hM
   clear hM
   go_enter Tryz.func133, Tryz.ntmps133
   go_wp2_with (first
    |(go_at_call 137; refine (dr (HV.out _) HM.out).mono ?_; rintro e w2 ⟨rfl, ba⟩; skip))
   exact ⟨rfl, rfl, (HB.out _).trans ba⟩
  |ok r =>
   have HM := aa hM
   clear hM
   go_enter Tryz.func133, Tryz.ntmps133
   go_wp2_with (first
    |(go_at_call 137; refine (cw (HV.out _) HM.out).mono ?_; rintro e w2 ⟨rfl, aC⟩; have bR := aa aC; clear aC))
   go_ret
   exact ⟨rfl, bR.out⟩) : G := h
theorem AZ {n : ByteArray} (h : 0 < iU n) : n = ⟨#[61, 61]⟩ ∨ n = ⟨#[33, 61]⟩ ∨ n = ⟨#[38, 38]⟩ ∨ n = ⟨#[124, 124]⟩ ∨ n = ⟨#[60]⟩ ∨ n = ⟨#[60, 61]⟩ ∨ n = ⟨#[62]⟩ ∨ n = ⟨#[62, 61]⟩ ∨ n = ⟨#[43]⟩ ∨ n = ⟨#[45]⟩ ∨ n = ⟨#[42]⟩ ∨ n = ⟨#[47]⟩ ∨ n = ⟨#[37]⟩ := by
 have hm : ∀ k, hasB (bx k) n = true → n ∈ bx k := fun k h => (jU _ _).1 h
 unfold iU at h
 split at h
 ·have := hm 1 (by assumption); simp [bx] at this; simp [this]
 split at h
 ·have := hm 2 (by assumption); simp [bx] at this; simp [this]
 split at h
 ·have := hm 3 (by assumption); simp [bx] at this; rcases this with h | h | h | h | h | h <;> simp [h]
 split at h
 ·have := hm 4 (by assumption); simp [bx] at this; rcases this with h | h <;> simp [h]
 split at h
 ·have := hm 5 (by assumption); simp [bx] at this; rcases this with h | h | h <;> simp [h]
 ·omega
theorem mC {T : Nd} (hk : T.kind = 28) {n : ByteArray} (hn : T.name = n) {side whole : Int} (he : yc n = false) (h1 : (if iU n = 1 ∨ iU n = 2 then (2 : Int) else 1) = side) (h2 : (if iU n = 1 ∨ iU n = 2 ∨ iU n = 3 then (2 : Int) else 1) = whole) (F : Nd) (ex : Nat → qI) (s : CS) (p : Nat) :
  bI F T.kind T.name T.len ex s p = CR.bind (aE (ex 0) side s) fun s1 => CR.bind (aE (ex 1) side s1) fun s2 => .ok (whole, s2) := by
 unfold bI
 iterate 7 rw [if_neg (by omega)]
 rw [hn, if_neg (by rw [he]; simp), h1, h2]
theorem Lr {T : Nd} (hk : T.kind = 28) (he : yc T.name = true) (F : Nd) (ex : Nat → qI) (s : CS) (p : Nat) :
  bI F T.kind T.name T.len ex s p = CR.bind (cN (ex 0) s) fun r => CR.bind (aE (ex 1) r.1 r.2) fun s2 => .ok (2, s2) := by
 unfold bI
 iterate 7 rw [if_neg (by omega)]
 rw [if_pos he]
theorem bQ {s : ByteArray} {a : Array UInt8} (h : s = ⟨a⟩) (l : List UInt8) : (s.toList == l) = (a.toList == l) := by subst h; rw [ByteArray.toList_eq]
theorem MV {T : Nd} (ih : ∀ i, i < T.len → oo (T.kids i)) : J0 T := by
 intro K w0 O s ret loops ai w v hS hE hN ay hk aS
 have zg := (vx hk aS).1
 rcases AZ zg with h | h | h | h | h | h | h | h | h | h | h | h | h
 ·exact El ih (.inl ⟨by rw [bQ h]; rfl, trivial⟩) (Lr hk (by rw [h]; decide)) K w0 O s ret loops ai w v hS hE hN ay hk aS
 ·exact El ih (.inr ⟨by rw [bQ h]; rfl, by rw [bQ h]; rfl⟩) (Lr hk (by rw [h]; decide)) K w0 O s ret loops ai w v hS hE hN ay hk aS
 ·exact kl ih 2 2 (by rw [bQ h]; rfl) (by rw [bQ h]; rfl) (.inl ⟨by rw [bQ h]; rfl, rfl, rfl⟩) (mC hk h (by decide) (by decide) (by decide)) K w0 O s ret loops ai w v hS hE hN ay hk aS
 ·exact kl ih 2 2 (by rw [bQ h]; rfl) (by rw [bQ h]; rfl) (.inr (.inl ⟨by rw [bQ h]; rfl, by rw [bQ h]; rfl, rfl, rfl⟩)) (mC hk h (by decide) (by decide) (by decide)) K w0 O s ret loops ai w v hS hE hN ay hk aS
 ·exact kl ih 1 2 (by rw [bQ h]; rfl) (by rw [bQ h]; rfl) (.inr (.inr (.inl ⟨by rw [bQ h]; rfl, by rw [bQ h]; rfl, by rw [bQ h]; rfl, rfl, rfl⟩))) (mC hk h (by decide) (by decide) (by decide)) K w0 O s ret loops ai w v hS hE hN ay hk aS
 ·exact kl ih 1 2 (by rw [bQ h]; rfl) (by rw [bQ h]; rfl) (.inr (.inr (.inr (.inl ⟨by rw [bQ h]; rfl, by rw [bQ h]; rfl, by rw [bQ h]; rfl, by rw [bQ h]; rfl, rfl, rfl⟩)))) (mC hk h (by decide) (by decide) (by decide)) K w0 O s ret loops ai w v hS hE hN ay hk aS
 ·exact kl ih 1 2 (by rw [bQ h]; rfl) (by rw [bQ h]; rfl) (.inr (.inr (.inr (.inr (.inl ⟨by rw [bQ h]; rfl, by rw [bQ h]; rfl, by rw [bQ h]; rfl, by rw [bQ h]; rfl, by rw [bQ h]; rfl, rfl, rfl⟩))))) (mC hk h (by decide) (by decide) (by decide)) K w0 O s ret loops ai w v hS hE hN ay hk aS
 ·exact kl ih 1 2 (by rw [bQ h]; rfl) (by rw [bQ h]; rfl) (.inr (.inr (.inr (.inr (.inr (.inl ⟨by rw [bQ h]; rfl, by rw [bQ h]; rfl, by rw [bQ h]; rfl, by rw [bQ h]; rfl, by rw [bQ h]; rfl, by rw [bQ h]; rfl, rfl, rfl⟩)))))) (mC hk h (by decide) (by decide) (by decide)) K w0 O s ret loops ai w v hS hE hN ay hk aS
 ·exact Wk
 ·exact Wk
 ·exact Wk
 ·exact Wk
 ·exact Wk
theorem Mu {T : Nd} (hk : T.kind = 27) (hU : X3 T) : rj T := by
 have k_P6_0 := kk
 exact bP6
theorem Mt {T : Nd} (hk : T.kind = 28) (hU : J0 T) : rj T := by
 have k_P6_1 := kk
 exact bP6
def eL : Prop := ∀ (K : IK) (w0 : World) (O : Nat → Prop) (s : CS) (ret loops ai : Int) (w : World) (t : ByteArray) (p : Nat), IS K w0 O s ret loops ai w → t.size ≤ maxLen →
 Calls Tryz.prog 118 #[.pointer (some ⟨K.cb, 0, none⟩), .string t, .int .i64 p] w (kQ K w (if look s.1 t = 0 then .error (5, p) else .ok (look s.1 t)) fun r e w' => e = .returned (.int .i64 r) ∧ IS K w0 O s ret loops ai w')
theorem fM {T : Nd} (h : T.Fine) : T.name.size ≤ maxLen := by unfold maxLen; exact T.fine_name h
theorem Mz {T : Nd} (hk : T.kind = 22) : rj T := by
 intro K w0 O s ret loops ai w v hS hE hN ay aS
 have iA : bI K.F T.kind T.name T.len (fun i => bP K.F (T.kids i)) (ae s) s.2.length = .ok (1, ae s) := by
  unfold bI
  rw [if_pos hk]
 exact bP1
theorem My {T : Nd} (hk : T.kind = 23) : rj T := by
 intro K w0 O s ret loops ai w v hS hE hN ay aS
 have iA : bI K.F T.kind T.name T.len (fun i => bP K.F (T.kids i)) (ae s) s.2.length = .ok (2, ae s) := by
  unfold bI
  rw [if_neg (by omega), if_pos hk]
 exact bP1
theorem Mx {T : Nd} (hk : T.kind = 24) (bL : eL) : rj T := by
 intro K w0 O s ret loops ai w v hS hE hN ay aS
 have lW : look (ae s).1 T.name = look s.1 T.name := rfl
 have iA : bI K.F T.kind T.name T.len (fun i => bP K.F (T.kids i)) (ae s) s.2.length = CR.bind (if look s.1 T.name = 0 then .error (5, s.2.length) else .ok (look s.1 T.name)) fun r => .ok (r, ae s) := by
  unfold bI
  rw [if_neg (by omega), if_neg (by omega), if_pos hk]; rw [lW]; split <;> rfl
 rw [iA]
 have HB := aa (fun o => hS.box o)
 have HV := aa (fun o => bL K w0 O (ae s) ret loops ai (w.alloc o) T.name s.2.length (hS.alloc o) (fM hN.fine))
 rw [lW] at HV
 unfold Nd.val
 rw [hk]
 clear hS hE hN aS ay iA hk lW
 cases hM : (if look s.1 T.name = 0 then .error (5, s.2.length) else .ok (look s.1 T.name) : CR Int) with
 |error p =>
  have HM := aa hM
  clear hM
  rw [CR.bind_error]
  go_enter Tryz.func133, Tryz.ntmps133
  go_wp2_with (first
   |(go_at_call 118; refine (dr (HV.out _) HM.out).mono ?_; rintro e w2 ⟨rfl, ba⟩; skip))
  exact ⟨rfl, rfl, (HB.out _).trans ba⟩
 |ok r =>
  have HM := aa hM
  clear hM
  rw [CR.bind_ok]
  go_enter Tryz.func133, Tryz.ntmps133
  go_wp2_with (first
   |(go_at_call 118; refine (cw (HV.out _) HM.out).mono ?_; rintro e w2 ⟨rfl, aC⟩; have bR := aa aC; clear aC))
  go_ret
  exact ⟨rfl, bR.out⟩
theorem Ms {T : Nd} (hk : T.kind = 29) (ih : ∀ i, i < T.len → oo (T.kids i)) : rj T := by
 intro K w0 O s ret loops ai w v hS hE hN ay aS
 obtain ⟨hl, dh⟩ := Fg hk aS
 have iA : bI K.F T.kind T.name T.len (fun i => bP K.F (T.kids i)) (ae s) s.2.length = CR.bind (aE (bP K.F (T.kids 0)) 3 (ae s)) fun s1 => .ok (1, s1) := by
  unfold bI
  iterate 6 rw [if_neg (by omega)]
  rw [if_pos hk]
 rw [iA]
 obtain ⟨g, off, cap, hv, iM, cr, aV⟩ := dq hN.row (by omega)
 subst hv
 obtain ⟨u0, fs, dI⟩ := aV 0 (by omega)
 simp only [Nat.zero_mul, Nat.add_zero] at fs
 have dP := aa fs
 obtain ⟨O1, aD, bg, bS, aZ⟩ := hS.boxed (.cells #[.int .i64 T.kind, .int .i64 T.num, .string T.name, .slice (some ⟨g, off, none⟩) T.len cap] 25)
 have k_P8_0 := kk
 exact bP8
theorem Mv {T : Nd} (hk : T.kind = 26) (ih : ∀ i, i < T.len → oo (T.kids i)) : rj T := by
 intro K w0 O s ret loops ai w v hS hE hN ay aS
 obtain ⟨hl, he⟩ := zD hk aS
 have iA : bI K.F T.kind T.name T.len (fun i => bP K.F (T.kids i)) (ae s) s.2.length = CR.bind (forN (fun i => aE (bP K.F (T.kids i)) 1) T.len (ae s)) fun s1 => .ok (3, s1) := by
  unfold bI
  iterate 4 rw [if_neg (by omega)]
  rw [if_pos hk]
 rw [iA]
 obtain ⟨a, cap, hv, cr, hq⟩ := aH.1 hN.row
 subst hv
 obtain ⟨O1, aD, bg, bS, aZ⟩ := hS.boxed (.cells #[.int .i64 T.kind, .int .i64 T.num, .string T.name, .slice a T.len cap] 25)
 have k_P8_1 := kk
 exact bP8
theorem H5 (T : Nd) (w : World) (a : Option Addr) (cap : Nat) (h1 : 1 ≤ T.len) (hn : T.len ≤ 9223372036854775807) (hc : T.len ≤ cap) :
  Calls Tryz.prog 49 #[.agg #[.int .i64 T.kind, .int .i64 T.num, .string T.name, .slice a T.len cap]] w fun e w' => e = .returned (.slice a (T.len - 1) cap) ∧ Below w.heap.size w w' := by
 have fp := aa (fun o => bO w o)
 generalize T.len = L at *
 obtain ⟨m, rfl⟩ : ∃ m, L = m + 1 := ⟨L - 1, by omega⟩
 rw [Nat.add_sub_cancel]
 have hcI : (m : Int) ≤ (cap : Int) := by omega
 have hcN : m ≤ cap := by omega
 go_enter Tryz.func49, Tryz.ntmps49
 go_wp2
 go_ret
 exact ⟨rfl, fp.out _⟩
def X4 (T : Nd) : Prop := ∀ (K : IK) (w0 : World) (O : Nat → Prop) (s : CS) (ret loops ai : Int) (w : World) (v : Value), IS K w0 O (ae s) ret loops ai w → IEnv K w → INd K w T v → s.2.length + T.size ≤ K.N → T.kind = 25 → T.eOk = true →
 Calls Tryz.prog 137 #[.pointer (some ⟨K.cb, 0, none⟩), T.val v, .int .i64 s.2.length] w (kQ K w (bI K.F T.kind T.name T.len (fun i => bP K.F (T.kids i)) (ae s) s.2.length) fun r e w' => e = .returned (.int .i64 r.1) ∧ IS K w0 O r.2 ret loops ai w')
theorem Ky (w : World) : (zeroValue 25).run Tryz.prog w = .ok (.agg #[.int .i64 0, .int .i64 0, .string ⟨#[]⟩, .slice none 0 0]) w := by kernel_rfl
theorem IS.funs {K : IK} {w0 : World} {O : Nat → Prop} {s : CS} {ret loops ai : Int} {w : World} (h : IS K w0 O s ret loops ai w) {t : ByteArray} (ht : t.size ≤ maxLen) :
  (Instr.lookup 73 (.map (some K.mf)) (.string t) true).run Tryz.prog w = .ok (.tuple #[((findF K.F t).map fun j => Value.agg #[.int .i64 (K.F.kids j).kind, .int .i64 (K.F.kids j).num, .string (K.F.kids j).name, K.uf j]).getD (.agg #[.int .i64 0, .int .i64 0, .string ⟨#[]⟩, .slice none 0 0]), .bool (findF K.F t).isSome]) w := by
 have := h.fn.lookOk (t := 73) Tryz.underlying73 (Ky w) ht
 rw [this]
 unfold IK.fns findF
 simp
theorem IS.fcell {K : IK} {w0 : World} {O : Nat → Prop} {s : CS} {ret loops ai : Int} {w : World} (h : IS K w0 O s ret loops ai w) : w.cell? ⟨K.cb, 0, none⟩ = some (.map (some K.mf)) := by
 obtain ⟨sv, tv, bs, h1, _⟩ := h.is
 exact h1.cells.1
theorem RP {T : Nd} (K : IK) (w0 : World) (O : Nat → Prop) (s : CS) (ret loops ai : Int) (w : World) (v : Value) (hS : IS K w0 O (ae s) ret loops ai w) (hN : INd K w T v) (pV : findF K.F T.name = none) :
  Calls Tryz.prog 137 #[.pointer (some ⟨K.cb, 0, none⟩), T.val v, .int .i64 s.2.length] w fun e w' => e = .panicked [{ v := q6 (5, s.2.length), recovered := false }] ∧ Below K.lo w w' := by
 obtain ⟨a, cap, hv, cr, hq⟩ := aH.1 hN.row
 subst hv
 have k_P4_0 := kk
 exact bP4
theorem RO {T : Nd} (K : IK) (w0 : World) (O : Nat → Prop) (s : CS) (ret loops ai : Int) (w : World) (v : Value) (hS : IS K w0 O (ae s) ret loops ai w) (hE : IEnv K w) (hN : INd K w T v) (j : Nat) (hj : findF K.F T.name = some j) (xJ : T.len + 1 ≠ (K.F.kids j).len) :
  Calls Tryz.prog 137 #[.pointer (some ⟨K.cb, 0, none⟩), T.val v, .int .i64 s.2.length] w fun e w' => e = .panicked [{ v := q6 (8, s.2.length), recovered := false }] ∧ Below K.lo w w' := by
 have k_P2_0 := kk
 exact bP2
theorem RN {T : Nd} (ih : ∀ i, i < T.len → oo (T.kids i)) (K : IK) (w0 : World) (O : Nat → Prop) (s : CS) (ret loops ai : Int) (w : World) (v : Value) (hS : IS K w0 O (ae s) ret loops ai w) (hE : IEnv K w) (hN : INd K w T v) (ay : s.2.length + T.size ≤ K.N) (he : ∀ i, i < T.len → (T.kids i).eOk = true) (j : Nat) (hj : findF K.F T.name = some j) (xJ : T.len + 1 = (K.F.kids j).len) :
  Calls Tryz.prog 137 #[.pointer (some ⟨K.cb, 0, none⟩), T.val v, .int .i64 s.2.length] w (kQ K w (CR.bind (forN (fun i => aE (bP K.F (T.kids i)) ((K.F.kids j).kids i).num) T.len (ae s)) fun s1 => .ok ((K.F.kids j).num, s1)) fun r e w' => e = .returned (.int .i64 r.1) ∧ IS K w0 O r.2 ret loops ai w') := by
 have k_P2_1 := kk
 exact bP2
theorem MU {T : Nd} (ih : ∀ i, i < T.len → oo (T.kids i)) : X4 T := by
  intro K w0 O s ret loops ai w v hS hE hN ay hk aS
  have iA : bI K.F T.kind T.name T.len (fun i => bP K.F (T.kids i)) (ae s) s.2.length = (match findF K.F T.name with
    | none => .error (5, s.2.length)
    | some j => if T.len + 1 = (K.F.kids j).len then CR.bind (forN (fun i => aE (bP K.F (T.kids i)) ((K.F.kids j).kids i).num) T.len (ae s)) fun s1 => .ok ((K.F.kids j).num, s1) else .error (8, s.2.length)) := by
    unfold bI
    rw [if_neg (by omega), if_neg (by omega), if_neg (by omega), if_pos hk]; rfl
  rw [iA]
  cases hj : findF K.F T.name with
  | none => exact RP K w0 O s ret loops ai w v hS hN hj
  | some j =>
    dsimp only
    by_cases hc : T.len + 1 = (K.F.kids j).len
    · rw [if_pos hc]
      exact RN ih K w0 O s ret loops ai w v hS hE hN ay (Fh hk aS) j hj hc
    · rw [if_neg hc]
      exact RO K w0 O s ret loops ai w v hS hE hN j hj hc
theorem Mw {T : Nd} (hk : T.kind = 25) (hU : X4 T) : rj T := by
 have k_P6_2 := kk
 exact bP6
theorem yZ (bL : eL) {T : Nd} (ih : ∀ i, i < T.len → oo (T.kids i)) : rj T := by
 intro K w0 O s ret loops ai w v hS hE hN ay aS
 rcases tE aS with h | h | h | h | h | h | h | h
 ·exact Mz h K w0 O s ret loops ai w v hS hE hN ay aS
 ·exact My h K w0 O s ret loops ai w v hS hE hN ay aS
 ·exact Mx h bL K w0 O s ret loops ai w v hS hE hN ay aS
 ·exact Mw h (MU ih) K w0 O s ret loops ai w v hS hE hN ay aS
 ·exact Mv h ih K w0 O s ret loops ai w v hS hE hN ay aS
 ·exact Mu h (Mr ih) K w0 O s ret loops ai w v hS hE hN ay aS
 ·exact Mt h (MV ih) K w0 O s ret loops ai w v hS hE hN ay aS
 ·exact Ms h ih K w0 O s ret loops ai w v hS hE hN ay aS
theorem eE (bL : eL) (T : Nd) : oo T := by
 induction T with
 |nil => exact uP (yZ bL fun i hi => absurd hi (Nat.not_lt_zero i))
 |mk k n s len kids ih => exact uP (yZ bL fun i _ => ih i)
end Go.Proofs.YteaocammohcgoaaGreatDoor
