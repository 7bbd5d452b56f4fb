import Derived.Test.YteaocammohcgoaaGreatDoorQKeB
set_option linter.unusedVariables false
set_option maxHeartbeats 16000000
set_option maxRecDepth 100000
namespace Go.Proofs.YteaocammohcgoaaGreatDoor
open Go.RowKit
variable {G : Prop}
theorem UA (h : G := by
 exact j7 ih 1 1 (by rw [bN h]; rfl) (by rw [bN h]; rfl) (.inr (.inr (.inr (.inr (.inr (.inr (⟨by rw [bN h]; rfl, by rw [bN h]; rfl, by rw [bN h]; rfl, by rw [bN h]; rfl, by rw [bN h]; rfl, by rw [bN h]; rfl, rfl, rfl⟩))))))) (mx hk h (by decide) (by decide) (by decide)) K w0 O s ret loops ag w v hS hE hN aq hk aN) : G := h
theorem bS1 (h : G := by
 rw [ir]
 have HA := aa (fun o => hS.alloc o)
 unfold Nd.val
 rw [hk]
 clear hS hE hN aN aq ir hk
 go_enter Tryz.func133, Tryz.ntmps133
 go_wp2
 go_ret
 exact ⟨rfl, HA.out _⟩) : G := h
theorem bS2 (h : G := by
 obtain ⟨a, cap, hv, b7, hq⟩ := ar.1 hN.row
 subst hv
 have rO := (ig hj).1
 have Hz := hE.fun' j rO
 have Kl := s7 (jJ hE.ok rO)
 have El := Nd.fine_len (Nd.fine_kid hE.fine rO)
 obtain ⟨af, cf, Ow, RI, Mi⟩ := ar.1 Hz
 have k_1 := kk
 exact bS4) : G := h
theorem bS3 (h : G := by
 have k_0 := kk
 exact bS5) : G := h
theorem bS4 (h : G := by
 have oR := (hS.alloc (.cells #[.int .i64 T.kind, .int .i64 T.num, .string T.name, .slice a T.len cap] 25)).drew.funs (fK hN.fine)
 have oQ := ((hS.alloc (.cells #[.int .i64 T.kind, .int .i64 T.num, .string T.name, .slice a T.len cap] 25)).alloc (.cells #[.int .i64 0, .int .i64 0, .string ⟨#[]⟩, .slice none 0 0] 25)).drew.funs (fK hN.fine)
 first
 |clear k_0
  rw [pR] at oR oQ
  simp only [Option.map_none, Option.getD_none, Option.isSome_none] at oR oQ
  have k0 := hS.fcell
  have bB := hS.lt
  have HB := aa (fun o o' => (hS.box o).trans ((hS.alloc o).box o'))
  unfold Nd.val
  have k_1 := kk
  exact bS5
 |clear k_1
  rw [hj] at oR oQ
  simp only [Option.map_some, Option.getD_some, Option.isSome_some] at oR oQ
  rw [Ow] at oR oQ
  first
  |clear k_0
   have k0 := hS.fcell
   have bB := hS.lt
   have HB := aa (fun o o' => (hS.box o).trans ((hS.alloc o).box o'))
   have hn := T.fine_len hN.fine
   unfold Nd.val
   have k_0 := kk
   exact bS3
  |clear k_1
   rw [Ow] at Hz
   have k0 := hS.fcell
   have bB := hS.lt
   have hn := T.fine_len hN.fine
   obtain ⟨O1, az, aW, bp, aS⟩ := hS.boxed (.cells #[.int .i64 T.kind, .int .i64 T.num, .string T.name, .slice a T.len cap] 25)
   obtain ⟨O2, aD, ee, kz, sX⟩ := az.boxed (.cells #[.int .i64 (K.F.kids j).kind, .int .i64 (K.F.kids j).num, .string (K.F.kids j).name, .slice af (K.F.kids j).len cf] 25)
   have cJ : Hid (∀ s' r' l' o' W, IS K ((w.alloc (.cells #[.int .i64 T.kind, .int .i64 T.num, .string T.name, .slice a T.len cap] 25)).alloc (.cells #[.int .i64 (K.F.kids j).kind, .int .i64 (K.F.kids j).num, .string (K.F.kids j).name, .slice af (K.F.kids j).len cf] 25)) O2 s' r' l' o' W → W.heap[w.heap.size + 1]? = some (.cells #[.int .i64 (K.F.kids j).kind, .int .i64 (K.F.kids j).num, .string (K.F.kids j).name, .slice af (K.F.kids j).len cf] 25)) := fun s' r' l' o' W h => by have := kz s' r' l' o' W h; simpa using this
   have HBX1 := aa (fun s' r' l' o' W (h : IS K ((w.alloc (.cells #[.int .i64 T.kind, .int .i64 T.num, .string T.name, .slice a T.len cap] 25)).alloc (.cells #[.int .i64 (K.F.kids j).kind, .int .i64 (K.F.kids j).num, .string (K.F.kids j).name, .slice af (K.F.kids j).len cf] 25)) O2 s' r' l' o' W) => bp _ _ _ _ _ (ee s' r' l' o' W h))
   have bz := aa (fun s' r' l' o' W (h : IS K ((w.alloc (.cells #[.int .i64 T.kind, .int .i64 T.num, .string T.name, .slice a T.len cap] 25)).alloc (.cells #[.int .i64 (K.F.kids j).kind, .int .i64 (K.F.kids j).num, .string (K.F.kids j).name, .slice af (K.F.kids j).len cf] 25)) O2 s' r' l' o' W) => aS _ _ _ _ _ (ee s' r' l' o' W h))
   have fc := aa (fun s' r' l' o' W (h : IS K ((w.alloc (.cells #[.int .i64 T.kind, .int .i64 T.num, .string T.name, .slice a T.len cap] 25)).alloc (.cells #[.int .i64 (K.F.kids j).kind, .int .i64 (K.F.kids j).num, .string (K.F.kids j).name, .slice af (K.F.kids j).len cf] 25)) O2 s' r' l' o' W) => aW _ _ _ _ _ (ee s' r' l' o' W h))
   have bM := aa aD
   have kH := aa (fun (h0 : T.len ≠ 0) => cN hN.row h0)
   have N7 := aa (cN Hz (by omega))
   have Jh := aa (fun (i : Nat) (hi : i < T.len) (u : Value) (hr : Row 0 K.lo w (T.kids i) u) (W : World) (st : CS) (ty : Int) (hW : IS K ((w.alloc (.cells #[.int .i64 T.kind, .int .i64 T.num, .string T.name, .slice a T.len cap] 25)).alloc (.cells #[.int .i64 (K.F.kids j).kind, .int .i64 (K.F.kids j).num, .string (K.F.kids j).name, .slice af (K.F.kids j).len cf] 25)) O2 st ret loops ag W) (hf : st.2.length + (T.kids i).size ≤ K.N) => dV (ih i hi) K _ O2 st ret loops ag W u ty hW (hE.later (bz.out _ _ _ _ _ hW)) ((hN.kid hi hr).later (bz.out _ _ _ _ _ hW)) hf (he i hi))
   have sq : Hid (∀ i st, i < T.len → forN (fun i => aC (bL K.F (T.kids i)) ((K.F.kids j).kids i).num) i (ab s) = .ok st → st.2.length + (T.kids i).size ≤ K.N) := by
    intro i st hi h
    have := nt (g := fun i => (T.kids i).size) (fun i hi => (eh K.F _ (he i hi)).want ((K.F.kids j).kids i).num) (Nat.le_of_lt hi) _ _ h
    have h2 := bP T s.2.length hi
    rw [aP] at this
    unfold aV at h2
    omega
   have k_1 := kk
   exact bS3) : G := h
theorem bS5 (h : G := by
 have Ea : ¬ K.cb = w.heap.size := by omega
 have hnb1 : ¬ K.cb = w.heap.size + 1 := by omega
 have hcb1 : K.cb < w.heap.size + 1 := by omega
 have k0' := (hS.alloc (.cells #[.int .i64 T.kind, .int .i64 T.num, .string T.name, .slice a T.len cap] 25)).fcell
 first
 |clear k_0
  have fe : K.lo ≤ w.heap.size := by have := hS.ok.cl; omega
  have NZ := aa (fun W => Hc (K.F.kids j) W af cf Kl El RI.1)
  first
  |clear k_0
   have yW : ((T.len : Int) == (((K.F.kids j).len - 1 : Nat) : Int)) = false := bn (by omega)
   have RM : ((T.len : Int) != (((K.F.kids j).len - 1 : Nat) : Int)) = true := by simp only [bne, yW]; rfl
   clear hS hN hq hj hE Hz Mi Ow rO
   generalize K.F.kids j = G at *
   generalize G.len - 1 = gl at *
   have k_0 := kk
   exact bS7
  |clear k_1
   have Kk : (K.F.kids j).len - 1 = T.len := by omega
   rw [Kk] at NZ
   have hlen2 : T.len ≤ (K.F.kids j).len := by omega
   have bI := jz
   unfold Nd.val at *
   clear hS hN hq hj hE Hz Mi Ow rO az aD aW ee bp kz aS sX ih he aq Kk
   have hcfT : T.len ≤ cf := by omega
   have HCNT := aa xo
   clear xo
   generalize K.F.kids j = G at *
   have k_1 := kk
   exact bS7
 |clear k_1
  clear hS hN hq pR
  have k_2 := kk
  exact bS7) : G := h
theorem bS6 (h : G := by
 intro K w0 O s ret loops ag w v hS hE hN aq aN
 have HB := aa (fun o => hS.box o)
 have HV := aa (fun o => hU K w0 O s ret loops ag (w.alloc o) v (hS.alloc o) (hE.later (hS.box o)) (hN.later (hS.box o)) aq hk aN)
 unfold Nd.val at *
 first
 |clear k_0
  have jR : (T.kind : Int) = 27 := hk
  generalize bC K.F T.kind T.name T.len (fun i => bL K.F (T.kids i)) (ab s) s.2.length = M at *
  rw [jR] at HV ⊢
  clear hS hE hN aN aq hk jR
  cases hM : M with
  |error p =>
   have HM := aa hM
   clear hM
   go_enter Tryz.func133, Tryz.ntmps133
   go_wp2_with (first
    |(go_at_call 138; refine (dq (HV.out _) HM.out).mono ?_; rintro e w2 ⟨rfl, hb2⟩; skip))
   exact ⟨rfl, rfl, (HB.out _).trans hb2⟩
  |ok r =>
   have HM := aa hM
   clear hM
   go_enter Tryz.func133, Tryz.ntmps133
   go_wp2_with (first
    |(go_at_call 138; refine (cq (HV.out _) HM.out).mono ?_; rintro e w2 ⟨rfl, aD⟩; have bM := aa aD; clear aD))
   go_ret
   exact ⟨rfl, bM.out⟩
 |clear k_1
  have jR : (T.kind : Int) = 28 := hk
  generalize bC K.F T.kind T.name T.len (fun i => bL K.F (T.kids i)) (ab s) s.2.length = M at *
  rw [jR] at HV ⊢
  clear hS hE hN aN aq hk jR
  cases hM : M with
  |error p =>
   have HM := aa hM
   clear hM
   go_enter Tryz.func133, Tryz.ntmps133
   go_wp2_with (first
    |(go_at_call 139; refine (dq (HV.out _) HM.out).mono ?_; rintro e w2 ⟨rfl, hb2⟩; skip))
   exact ⟨rfl, rfl, (HB.out _).trans hb2⟩
  |ok r =>
   have HM := aa hM
   clear hM
   go_enter Tryz.func133, Tryz.ntmps133
   go_wp2_with (first
    |(go_at_call 139; refine (cq (HV.out _) HM.out).mono ?_; rintro e w2 ⟨rfl, aD⟩; have bM := aa aD; clear aD))
   go_ret
   exact ⟨rfl, bM.out⟩
 |clear k_2
  have jR : (T.kind : Int) = 25 := hk
  generalize bC K.F T.kind T.name T.len (fun i => bL K.F (T.kids i)) (ab s) s.2.length = M at *
  rw [jR] at HV ⊢
  clear hS hE hN aN aq hk jR
  cases hM : M with
  |error p =>
   have HM := aa hM
   clear hM
   go_enter Tryz.func133, Tryz.ntmps133
   go_wp2_with (first
    |(go_at_call 137; refine (dq (HV.out _) HM.out).mono ?_; rintro e w2 ⟨rfl, hb2⟩; skip))
   exact ⟨rfl, rfl, (HB.out _).trans hb2⟩
  |ok r =>
   have HM := aa hM
   clear hM
   go_enter Tryz.func133, Tryz.ntmps133
   go_wp2_with (first
    |(go_at_call 137; refine (cq (HV.out _) HM.out).mono ?_; rintro e w2 ⟨rfl, aD⟩; have bM := aa aD; clear aD))
   go_ret
   exact ⟨rfl, bM.out⟩) : G := h
theorem bS7 (h : G := by
 go_enter Tryz.func137, Tryz.ntmps137
 go_wp2
 go_region_held3 (fun W => W.cell? ⟨K.cb, 0, none⟩ = some (.map (some K.mf)) ∧ W.cell? ⟨w.heap.size, 2, none⟩ = some (.string T.name)) (go_keep) (fail)
 first
 |clear k_0
  all_goals go_wp2_with (first
   |(go_at_call 49; refine (NZ.out _).mono ?_; rintro e w2 ⟨rfl, hb2⟩; have b3 : w2.cell? ⟨w.heap.size, 3, none⟩ = some (.slice a T.len cap) := ((hb2.cell (p := ⟨w.heap.size, 3, none⟩) (by first | (simp [go_sem]; done) | (simp [go_sem]; omega))).trans (by simp [go_sem]))))
  all_goals exact ⟨rfl, rfl, (HB.out _ _).drew.trans (hb2.mono (by first | (simp [go_sem]; done) | (simp [go_sem]; omega)))⟩
 |clear k_1
  all_goals go_wp2_with (first
   |(go_at_call 49; refine (NZ.out _).mono ?_; rintro e w2 ⟨rfl, hb2⟩; have bW := bM.out.drew.calm hb2; obtain ⟨f0, f1, f2, f3⟩ := ai (cJ.out _ _ _ _ _ bW); obtain ⟨b0, b1, b2, b3⟩ := ai (HBX1.out _ _ _ _ _ bW); have fa := aa bW; clear bW hb2))
  all_goals go_loopw [41] (fun i wr => ∃ n : Nat, n ≤ T.len ∧ i = .int .i64 n ∧ ∃ st, forN (fun i => aC (bL K.F (T.kids i)) (G.kids i).num) n (ab s) = .ok st ∧ IS K ((w.alloc (.cells #[.int .i64 T.kind, .int .i64 T.num, .string T.name, .slice a T.len cap] 25)).alloc (.cells #[.int .i64 G.kind, .int .i64 G.num, .string G.name, .slice af G.len cf] 25)) O2 st ret loops ag wr) (fun i _ => T.len - (intOf i).toNat)
  all_goals try (case atStart => exact ⟨0, Nat.zero_le _, rfl, ab s, rfl, fa.out⟩)
  all_goals
   obtain ⟨n, Eb, rfl, st, aM, cr⟩ := hrel
   by_cases xh : n < T.len
   ·have hni : (n : Int) < (T.len : Int) := by omega
    obtain ⟨g, off, l5, lZ, iW, rR, aQ⟩ := kH.out (by omega)
    injection lZ with ti Kz th
    subst ti
    subst th
    obtain ⟨gf, of, cf', hvf', hglf, hcapf', Kh⟩ := N7.out
    injection hvf' with evf1 evf2 evf3
    subst evf1
    subst evf3
    obtain ⟨u, kE, jG⟩ := aQ n xh
    obtain ⟨au, qu, hu, pV, AU⟩ := ar.1 jG
    subst hu
    clear AU
    obtain ⟨up, MD, hrp⟩ := Kh n (by omega)
    obtain ⟨c0, c1, c2, c3⟩ := kE _ (bz.out _ _ _ _ _ cr)
    obtain ⟨p0, p1, p2, p3⟩ := MD _ (bz.out _ _ _ _ _ cr)
    have HW := aa (fun o => Jh.out n xh _ jG (wr.alloc o).drew st (G.kids n).num (cr.alloc o).drew (sq.out n st xh aM))
    have kB : Hid (forN (fun i => aC (bL K.F (T.kids i)) (G.kids i).num) (n + 1) (ab s) = aC (bL K.F (T.kids n)) (G.kids n).num st) := by unfold Hid; simp only [forN, aM]; rfl
    have yj := aa (fun o => (bz.out _ _ _ _ _ cr).trans (cr.box o))
    have MA := World.block_lt_of_cell? wr ⟨gf, of + n * 4 + 1, none⟩ p1
    dsimp only at MA
    unfold Nd.val at HW
    clear aQ kE jG Kh MD hrp cr
    cases hM : aC (bL K.F (T.kids n)) (G.kids n).num st with
    |error p =>
     have HM := aa hM
     have qC : Hid (CR.bind (forN (fun i => aC (bL K.F (T.kids i)) (G.kids i).num) T.len (ab s)) (fun s1 => .ok (G.num, s1)) = .error p) := by unfold Hid; rw [ie (kB.out.trans hM) (show n + 1 ≤ T.len by omega)]; rfl
     clear hM aM
     go_wp2
     generalize mR : wr.alloc (.cells #[.int .i64 (T.kids n).kind, .int .i64 (T.kids n).num, .string (T.kids n).name, .slice au (T.kids n).len qu] 25) = wx
     obtain ⟨x0, x1, x2, x3⟩ := ai (w := wx) (b := wr.heap.size) (t := 25) (by rw [← mR]; exact heap_alloc_new wr _)
     have xp : wx.cell? ⟨gf, of + n * 4 + 1, none⟩ = some (.int .i64 (G.kids n).num) := by rw [← mR]; exact (World.cell?_alloc_past _ _ _ MA).trans p1
     have xX := aa (HW.out (.cells #[.int .i64 (T.kids n).kind, .int .i64 (T.kids n).num, .string (T.kids n).name, .slice au (T.kids n).len qu] 25))
     have Fu := aa (yj.out (.cells #[.int .i64 (T.kids n).kind, .int .i64 (T.kids n).num, .string (T.kids n).name, .slice au (T.kids n).len qu] 25))
     rw [mR] at xX Fu
     clear mR
     go_still_tail 7, bI
     go_wp2_with (first
      |(go_at_call 117; refine (dq xX.out HM.out).mono ?_; rintro e w2 ⟨rfl, hb2⟩; skip))
     refine ⟨rfl, ?_⟩
     rw [fQ qC.out]
     exact ⟨rfl, Fu.out.drew.trans hb2⟩
    |ok s1 =>
     have HM := aa hM
     clear hM aM
     go_wp2
     generalize mR : wr.alloc (.cells #[.int .i64 (T.kids n).kind, .int .i64 (T.kids n).num, .string (T.kids n).name, .slice au (T.kids n).len qu] 25) = wx
     obtain ⟨x0, x1, x2, x3⟩ := ai (w := wx) (b := wr.heap.size) (t := 25) (by rw [← mR]; exact heap_alloc_new wr _)
     have xp : wx.cell? ⟨gf, of + n * 4 + 1, none⟩ = some (.int .i64 (G.kids n).num) := by rw [← mR]; exact (World.cell?_alloc_past _ _ _ MA).trans p1
     have xX := aa (HW.out (.cells #[.int .i64 (T.kids n).kind, .int .i64 (T.kids n).num, .string (T.kids n).name, .slice au (T.kids n).len qu] 25))
     rw [mR] at xX
     clear mR
     go_still_tail 7, bI
     go_wp2_with (first
      |(go_at_call 117; refine (cq xX.out HM.out).mono ?_; rintro e w2 ⟨rfl, aD⟩; have HS9 := aa aD; clear aD))
     exact ⟨⟨n + 1, by omega, by go_num, s1, by rw [kB.out, HM.out], HS9.out⟩, by simp [intOf]; omega⟩
   ·obtain rfl : n = T.len := by omega
    obtain ⟨f0, f1, f2, f3⟩ := ai (cJ.out _ _ _ _ _ cr)
    have iK := aa cr
    have mT := aa aM
    clear cr aM
    go_wp2
    go_ret
    rw [lu (a := (G.num, st)) (by rw [mT.out]; rfl)]
    exact ⟨rfl, fc.out _ _ _ _ _ iK.out⟩
 |clear k_2
  all_goals go_wp2
  all_goals exact ⟨rfl, rfl, (HB.out _ _).drew⟩) : G := h
theorem bS8 (h : G := by
 have cJ := aa bp
 have bz := aa aS
 have fc := aa aW
 have bb := aa az
 have fe : K.lo ≤ w.heap.size := by have := hS.lt; have := hS.ok.cl; omega
 have dm := hS.ok.few
 first
 |clear k_0
  have ji := aa (fun (W : World) (st : CS) (ret loops ag : Int) (ty : Int) (hW : IS K (w.alloc (.cells #[.int .i64 T.kind, .int .i64 T.num, .string T.name, .slice (some ⟨g, off, none⟩) T.len cap] 25)) O1 st ret loops ag W) (hf : st.2.length + (T.kids 0).size ≤ K.N) => dV (ih 0 (by omega)) K _ O1 st ret loops ag W u0 ty hW (hE.later (aS _ _ _ _ _ hW)) ((hN.kid (by omega) dE).later (aS _ _ _ _ _ hW)) hf cX)
  have iC := aa (fJ aq (i := 0) (by omega))
  unfold Nd.val at *
  have fO : g < w.heap.size := by omega
  have A0 : g < w.heap.size + 1 := by omega
  have AZ : g < w.heap.size + 1 + 1 := by omega
  have Ie : ¬ g = w.heap.size := by omega
  have A5 : ¬ g = w.heap.size + 1 := by omega
  have A4 : ¬ g = w.heap.size + 1 + 1 := by omega
  obtain ⟨eD, eC, eB, eA⟩ := dH.out w (Below.refl _ _)
  have gh : 0 < T.len := by omega
  have gi := aa hk
  rw [hk] at ji bb cJ bz fc ⊢
  clear hS hE hN az aW bp aS aQ eT dE ir aN hk hl
  cases hM : aC (bL K.F (T.kids 0)) 3 (ab s) with
  |error p =>
   have HM := aa hM
   clear hM
   rw [CR.bind_error]
   go_enter Tryz.func133, Tryz.ntmps133
   go_wp2_with (first
    |(go_at_call 117; refine (dq (ji.out _ _ _ _ _ 3 bb.out iC.out) HM.out).mono ?_; rintro e w2 ⟨rfl, hb2⟩; skip))
   exact ⟨rfl, rfl, (bz.out _ _ _ _ _ bb.out).trans hb2⟩
  |ok s1 =>
   have HM := aa hM
   clear hM
   rw [CR.bind_ok]
   go_enter Tryz.func133, Tryz.ntmps133
   go_wp2_with (first
    |(go_at_call 117; refine (cq (ji.out _ _ _ _ _ 3 bb.out iC.out) HM.out).mono ?_; rintro e w2 ⟨rfl, aD⟩; have bM := aa aD; clear aD))
   go_ret
   exact ⟨rfl, fc.out _ _ _ _ _ bM.out⟩
 |clear k_1
  have kH := aa (fun (h0 : T.len ≠ 0) => cN hN.row h0)
  have Jh := aa (fun (j : Nat) (hj : j < T.len) (u : Value) (hr : Row 0 K.lo w (T.kids j) u) (W : World) (st : CS) (hW : IS K (w.alloc (.cells #[.int .i64 T.kind, .int .i64 T.num, .string T.name, .slice a T.len cap] 25)) O1 st ret loops ag W) (hf : st.2.length + (T.kids j).size ≤ K.N) => dV (ih j hj) K _ O1 st ret loops ag W u 1 hW (hE.later (aS _ _ _ _ _ hW)) ((hN.kid hj hr).later (aS _ _ _ _ _ hW)) hf (he j hj))
  have sq : Hid (∀ j st, j < T.len → forN (fun i => aC (bL K.F (T.kids i)) 1) j (ab s) = .ok st → st.2.length + (T.kids j).size ≤ K.N) := by
   intro j st hj h
   have := nt (g := fun i => (T.kids i).size) (fun i hi => (eh K.F _ (he i hi)).want 1) (Nat.le_of_lt hj) _ _ h
   have h2 := bP T s.2.length hj
   rw [aP] at this
   unfold aV at h2
   omega
  unfold Nd.val at *
  rw [hk] at Jh bb cJ bz fc ⊢
  have hn := T.fine_len hN.fine
  clear hS hE hN az aW bp aS ir aN hk hl hq ih he aq
  go_enter Tryz.func133, Tryz.ntmps133
  go_wp2
  go_loopw [31] (fun i wr => ∃ j : Nat, j ≤ T.len ∧ i = .int .i64 j ∧ ∃ st, forN (fun i => aC (bL K.F (T.kids i)) 1) j (ab s) = .ok st ∧ IS K (w.alloc (.cells #[.int .i64 26, .int .i64 T.num, .string T.name, .slice a T.len cap] 25)) O1 st ret loops ag wr) (fun i _ => T.len - (intOf i).toNat)
  case atStart => exact ⟨0, Nat.zero_le _, rfl, ab s, rfl, bb.out⟩
  case round =>
   obtain ⟨j, hj, rfl, st, aM, cr⟩ := hrel
   by_cases bB : j < T.len
   ·have Ib : (j : Int) < (T.len : Int) := by omega
    obtain ⟨g, off, l5, lZ, iW, rR, aQ⟩ := kH.out (by omega)
    injection lZ with ti Kz th
    subst ti
    subst th
    obtain ⟨u, kE, jG⟩ := aQ j bB
    obtain ⟨au, qu, hu, pV, AU⟩ := ar.1 jG
    subst hu
    clear AU
    obtain ⟨c0, c1, c2, c3⟩ := kE _ (bz.out _ _ _ _ _ cr)
    have HW := aa (fun o => Jh.out j bB _ jG (wr.alloc o) st (cr.alloc o) (sq.out j st bB aM))
    have kB : Hid (forN (fun i => aC (bL K.F (T.kids i)) 1) (j + 1) (ab s) = aC (bL K.F (T.kids j)) 1 st) := by unfold Hid; simp only [forN, aM]; rfl
    have yj := aa (fun o => (bz.out _ _ _ _ _ cr).trans (cr.box o))
    unfold Nd.val at HW
    clear aQ kE jG cr
    cases hM : aC (bL K.F (T.kids j)) 1 st with
    |error p =>
     have HM := aa hM
     have qC : Hid (CR.bind (forN (fun i => aC (bL K.F (T.kids i)) 1) T.len (ab s)) (fun s1 => .ok ((3 : Int), s1)) = .error p) := by unfold Hid; rw [ie (kB.out.trans hM) (show j + 1 ≤ T.len by omega)]; rfl
     clear hM aM
     go_wp2_with (first
      |(go_at_call 117; refine (dq (HW.out _) HM.out).mono ?_; rintro e w2 ⟨rfl, hb2⟩; skip))
     refine ⟨rfl, ?_⟩
     rw [fQ qC.out]
     exact ⟨rfl, (yj.out _).trans hb2⟩
    |ok s1 =>
     have HM := aa hM
     clear hM aM
     go_wp2_with (first
      |(go_at_call 117; refine (cq (HW.out _) HM.out).mono ?_; rintro e w2 ⟨rfl, aD⟩; have bM := aa aD; clear aD))
     exact ⟨⟨j + 1, by omega, by go_num, s1, by rw [kB.out, HM.out], bM.out⟩, by simp [intOf]; omega⟩
   ·obtain rfl : j = T.len := by omega
    have iK := aa cr
    have mT := aa aM
    clear cr aM
    go_wp2
    go_ret
    rw [lu (a := ((3 : Int), st)) (by rw [mT.out]; rfl)]
    exact ⟨rfl, fc.out _ _ _ _ _ iK.out⟩) : G := h
theorem AH {n : ByteArray} (h : 0 < iS n) : n = ⟨#[61, 61]⟩ ∨ n = ⟨#[33, 61]⟩ ∨ n = ⟨#[38, 38]⟩ ∨ n = ⟨#[124, 124]⟩ ∨ n = ⟨#[60]⟩ ∨ n = ⟨#[60, 61]⟩ ∨ n = ⟨#[62]⟩ ∨ n = ⟨#[62, 61]⟩ ∨ n = ⟨#[43]⟩ ∨ n = ⟨#[45]⟩ ∨ n = ⟨#[42]⟩ ∨ n = ⟨#[47]⟩ ∨ n = ⟨#[37]⟩ := by
 have hm : ∀ k, hasB (bt k) n = true → n ∈ bt k := fun k h => (jS _ _).1 h
 unfold iS at h
 split at h
 ·have := hm 1 (by assumption); simp [bt] at this; simp [this]
 split at h
 ·have := hm 2 (by assumption); simp [bt] at this; simp [this]
 split at h
 ·have := hm 3 (by assumption); simp [bt] at this; rcases this with h | h | h | h | h | h <;> simp [h]
 split at h
 ·have := hm 4 (by assumption); simp [bt] at this; rcases this with h | h <;> simp [h]
 split at h
 ·have := hm 5 (by assumption); simp [bt] at this; rcases this with h | h | h <;> simp [h]
 ·omega
theorem mx {T : Nd} (hk : T.kind = 28) {n : ByteArray} (hn : T.name = n) {side whole : Int} (he : xI n = false) (h1 : (if iS n = 1 ∨ iS n = 2 then (2 : Int) else 1) = side) (h2 : (if iS n = 1 ∨ iS n = 2 ∨ iS n = 3 then (2 : Int) else 1) = whole) (F : Nd) (ex : Nat → qE) (s : CS) (p : Nat) :
  bC F T.kind T.name T.len ex s p = CR.bind (aC (ex 0) side s) fun s1 => CR.bind (aC (ex 1) side s1) fun s2 => .ok (whole, s2) := by
 unfold bC
 iterate 7 rw [if_neg (by omega)]
 rw [hn, if_neg (by rw [he]; simp), h1, h2]
theorem KA {T : Nd} (hk : T.kind = 28) (he : xI T.name = true) (F : Nd) (ex : Nat → qE) (s : CS) (p : Nat) :
  bC F T.kind T.name T.len ex s p = CR.bind (cE (ex 0) s) fun r => CR.bind (aC (ex 1) r.1 r.2) fun s2 => .ok (2, s2) := by
 unfold bC
 iterate 7 rw [if_neg (by omega)]
 rw [if_pos he]
theorem bN {s : ByteArray} {a : Array UInt8} (h : s = ⟨a⟩) (l : List UInt8) : (s.toList == l) = (a.toList == l) := by subst h; rw [ByteArray.toList_eq]
theorem L9 {T : Nd} (ih : ∀ i, i < T.len → oo (T.kids i)) : Jg T := by
 intro K w0 O s ret loops ag w v hS hE hN aq hk aN
 have yP := (oK hk aN).1
 rcases AH yP with h | h | h | h | h | h | h | h | h | h | h | h | h
 ·exact DM ih (.inl ⟨by rw [bN h]; rfl, trivial⟩) (KA hk (by rw [h]; decide)) K w0 O s ret loops ag w v hS hE hN aq hk aN
 ·exact DM ih (.inr ⟨by rw [bN h]; rfl, by rw [bN h]; rfl⟩) (KA hk (by rw [h]; decide)) K w0 O s ret loops ag w v hS hE hN aq hk aN
 ·exact j7 ih 2 2 (by rw [bN h]; rfl) (by rw [bN h]; rfl) (.inl ⟨by rw [bN h]; rfl, rfl, rfl⟩) (mx hk h (by decide) (by decide) (by decide)) K w0 O s ret loops ag w v hS hE hN aq hk aN
 ·exact j7 ih 2 2 (by rw [bN h]; rfl) (by rw [bN h]; rfl) (.inr (.inl ⟨by rw [bN h]; rfl, by rw [bN h]; rfl, rfl, rfl⟩)) (mx hk h (by decide) (by decide) (by decide)) K w0 O s ret loops ag w v hS hE hN aq hk aN
 ·exact j7 ih 1 2 (by rw [bN h]; rfl) (by rw [bN h]; rfl) (.inr (.inr (.inl ⟨by rw [bN h]; rfl, by rw [bN h]; rfl, by rw [bN h]; rfl, rfl, rfl⟩))) (mx hk h (by decide) (by decide) (by decide)) K w0 O s ret loops ag w v hS hE hN aq hk aN
 ·exact j7 ih 1 2 (by rw [bN h]; rfl) (by rw [bN h]; rfl) (.inr (.inr (.inr (.inl ⟨by rw [bN h]; rfl, by rw [bN h]; rfl, by rw [bN h]; rfl, by rw [bN h]; rfl, rfl, rfl⟩)))) (mx hk h (by decide) (by decide) (by decide)) K w0 O s ret loops ag w v hS hE hN aq hk aN
 ·exact j7 ih 1 2 (by rw [bN h]; rfl) (by rw [bN h]; rfl) (.inr (.inr (.inr (.inr (.inl ⟨by rw [bN h]; rfl, by rw [bN h]; rfl, by rw [bN h]; rfl, by rw [bN h]; rfl, by rw [bN h]; rfl, rfl, rfl⟩))))) (mx hk h (by decide) (by decide) (by decide)) K w0 O s ret loops ag w v hS hE hN aq hk aN
 ·exact j7 ih 1 2 (by rw [bN h]; rfl) (by rw [bN h]; rfl) (.inr (.inr (.inr (.inr (.inr (.inl ⟨by rw [bN h]; rfl, by rw [bN h]; rfl, by rw [bN h]; rfl, by rw [bN h]; rfl, by rw [bN h]; rfl, by rw [bN h]; rfl, rfl, rfl⟩)))))) (mx hk h (by decide) (by decide) (by decide)) K w0 O s ret loops ag w v hS hE hN aq hk aN
 ·exact UA
 ·exact UA
 ·exact UA
 ·exact UA
 ·exact UA
theorem LG {T : Nd} (hk : T.kind = 27) (hU : VJ T) : ri T := by
 have k_0 := kk
 exact bS6
theorem LF {T : Nd} (hk : T.kind = 28) (hU : Jg T) : ri T := by
 have k_1 := kk
 exact bS6
def eO : Prop := ∀ (K : IK) (w0 : World) (O : Nat → Prop) (s : CS) (ret loops ag : Int) (w : World) (t : ByteArray) (p : Nat), IS K w0 O s ret loops ag w → t.size ≤ maxLen →
 Calls Tryz.prog 118 #[.pointer (some ⟨K.cb, 0, none⟩), .string t, .int .i64 p] w (kJ K w (if look s.1 t = 0 then .error (5, p) else .ok (look s.1 t)) fun r e w' => e = .returned (.int .i64 r) ∧ IS K w0 O s ret loops ag w')
theorem fK {T : Nd} (h : T.Fine) : T.name.size ≤ maxLen := by unfold maxLen; exact T.fine_name h
theorem LL {T : Nd} (hk : T.kind = 22) : ri T := by
 intro K w0 O s ret loops ag w v hS hE hN aq aN
 have ir : bC K.F T.kind T.name T.len (fun i => bL K.F (T.kids i)) (ab s) s.2.length = .ok (1, ab s) := by
  unfold bC
  rw [if_pos hk]
 exact bS1
theorem LK {T : Nd} (hk : T.kind = 23) : ri T := by
 intro K w0 O s ret loops ag w v hS hE hN aq aN
 have ir : bC K.F T.kind T.name T.len (fun i => bL K.F (T.kids i)) (ab s) s.2.length = .ok (2, ab s) := by
  unfold bC
  rw [if_neg (by omega), if_pos hk]
 exact bS1
theorem LJ {T : Nd} (hk : T.kind = 24) (bE : eO) : ri T := by
 intro K w0 O s ret loops ag w v hS hE hN aq aN
 have lP : look (ab s).1 T.name = look s.1 T.name := rfl
 have ir : bC K.F T.kind T.name T.len (fun i => bL K.F (T.kids i)) (ab s) s.2.length = CR.bind (if look s.1 T.name = 0 then .error (5, s.2.length) else .ok (look s.1 T.name)) fun r => .ok (r, ab s) := by
  unfold bC
  rw [if_neg (by omega), if_neg (by omega), if_pos hk]; rw [lP]; split <;> rfl
 rw [ir]
 have HB := aa (fun o => hS.box o)
 have HV := aa (fun o => bE K w0 O (ab s) ret loops ag (w.alloc o) T.name s.2.length (hS.alloc o) (fK hN.fine))
 rw [lP] at HV
 unfold Nd.val
 rw [hk]
 clear hS hE hN aN aq ir hk lP
 cases hM : (if look s.1 T.name = 0 then .error (5, s.2.length) else .ok (look s.1 T.name) : CR Int) with
 |error p =>
  have HM := aa hM
  clear hM
  rw [CR.bind_error]
  go_enter Tryz.func133, Tryz.ntmps133
  go_wp2_with (first
   |(go_at_call 118; refine (dq (HV.out _) HM.out).mono ?_; rintro e w2 ⟨rfl, hb2⟩; skip))
  exact ⟨rfl, rfl, (HB.out _).trans hb2⟩
 |ok r =>
  have HM := aa hM
  clear hM
  rw [CR.bind_ok]
  go_enter Tryz.func133, Tryz.ntmps133
  go_wp2_with (first
   |(go_at_call 118; refine (cq (HV.out _) HM.out).mono ?_; rintro e w2 ⟨rfl, aD⟩; have bM := aa aD; clear aD))
  go_ret
  exact ⟨rfl, bM.out⟩
theorem LD {T : Nd} (hk : T.kind = 29) (ih : ∀ i, i < T.len → oo (T.kids i)) : ri T := by
 intro K w0 O s ret loops ag w v hS hE hN aq aN
 obtain ⟨hl, cX⟩ := EJ hk aN
 have ir : bC K.F T.kind T.name T.len (fun i => bL K.F (T.kids i)) (ab s) s.2.length = CR.bind (aC (bL K.F (T.kids 0)) 3 (ab s)) fun s1 => .ok (1, s1) := by
  unfold bC
  iterate 6 rw [if_neg (by omega)]
  rw [if_pos hk]
 rw [ir]
 obtain ⟨g, off, cap, hv, iW, b7, aQ⟩ := cN hN.row (by omega)
 subst hv
 obtain ⟨u0, eT, dE⟩ := aQ 0 (by omega)
 simp only [Nat.zero_mul, Nat.add_zero] at eT
 have dH := aa eT
 obtain ⟨O1, az, aW, bp, aS⟩ := hS.boxed (.cells #[.int .i64 T.kind, .int .i64 T.num, .string T.name, .slice (some ⟨g, off, none⟩) T.len cap] 25)
 have k_0 := kk
 exact bS8
theorem LH {T : Nd} (hk : T.kind = 26) (ih : ∀ i, i < T.len → oo (T.kids i)) : ri T := by
 intro K w0 O s ret loops ag w v hS hE hN aq aN
 obtain ⟨hl, he⟩ := zg hk aN
 have ir : bC K.F T.kind T.name T.len (fun i => bL K.F (T.kids i)) (ab s) s.2.length = CR.bind (forN (fun i => aC (bL K.F (T.kids i)) 1) T.len (ab s)) fun s1 => .ok (3, s1) := by
  unfold bC
  iterate 4 rw [if_neg (by omega)]
  rw [if_pos hk]
 rw [ir]
 obtain ⟨a, cap, hv, b7, hq⟩ := ar.1 hN.row
 subst hv
 obtain ⟨O1, az, aW, bp, aS⟩ := hS.boxed (.cells #[.int .i64 T.kind, .int .i64 T.num, .string T.name, .slice a T.len cap] 25)
 have k_1 := kk
 exact bS8
theorem Hc (T : Nd) (w : World) (a : Option Addr) (cap : Nat) (h1 : 1 ≤ T.len) (hn : T.len ≤ 9223372036854775807) (hc : T.len ≤ cap) :
  Calls Tryz.prog 49 #[.agg #[.int .i64 T.kind, .int .i64 T.num, .string T.name, .slice a T.len cap]] w fun e w' => e = .returned (.slice a (T.len - 1) cap) ∧ Below w.heap.size w w' := by
 have dY := aa (fun o => bO w o)
 generalize T.len = L at *
 obtain ⟨m, rfl⟩ : ∃ m, L = m + 1 := ⟨L - 1, by omega⟩
 rw [Nat.add_sub_cancel]
 have hcI : (m : Int) ≤ (cap : Int) := by omega
 have hcN : m ≤ cap := by omega
 go_enter Tryz.func49, Tryz.ntmps49
 go_wp2
 go_ret
 exact ⟨rfl, dY.out _⟩
def VK (T : Nd) : Prop := ∀ (K : IK) (w0 : World) (O : Nat → Prop) (s : CS) (ret loops ag : Int) (w : World) (v : Value), IS K w0 O (ab s) ret loops ag w → IEnv K w → INd K w T v → s.2.length + T.size ≤ K.N → T.kind = 25 → T.eOk = true →
 Calls Tryz.prog 137 #[.pointer (some ⟨K.cb, 0, none⟩), T.val v, .int .i64 s.2.length] w (kJ K w (bC K.F T.kind T.name T.len (fun i => bL K.F (T.kids i)) (ab s) s.2.length) fun r e w' => e = .returned (.int .i64 r.1) ∧ IS K w0 O r.2 ret loops ag w')
theorem JN (w : World) : (zeroValue 25).run Tryz.prog w = .ok (.agg #[.int .i64 0, .int .i64 0, .string ⟨#[]⟩, .slice none 0 0]) w := by kernel_rfl
theorem IS.funs {K : IK} {w0 : World} {O : Nat → Prop} {s : CS} {ret loops ag : Int} {w : World} (h : IS K w0 O s ret loops ag w) {t : ByteArray} (ht : t.size ≤ maxLen) :
  (Instr.lookup 73 (.map (some K.mf)) (.string t) true).run Tryz.prog w = .ok (.tuple #[((findF K.F t).map fun j => Value.agg #[.int .i64 (K.F.kids j).kind, .int .i64 (K.F.kids j).num, .string (K.F.kids j).name, K.uf j]).getD (.agg #[.int .i64 0, .int .i64 0, .string ⟨#[]⟩, .slice none 0 0]), .bool (findF K.F t).isSome]) w := by
 have := h.fn.lookOk (t := 73) Tryz.underlying73 (JN w) ht
 rw [this]
 unfold IK.fns findF
 simp
theorem IS.fcell {K : IK} {w0 : World} {O : Nat → Prop} {s : CS} {ret loops ag : Int} {w : World} (h : IS K w0 O s ret loops ag w) : w.cell? ⟨K.cb, 0, none⟩ = some (.map (some K.mf)) := by
 obtain ⟨sv, tv, bs, h1, _⟩ := h.is
 exact h1.cells.1
theorem Qt {T : Nd} (K : IK) (w0 : World) (O : Nat → Prop) (s : CS) (ret loops ag : Int) (w : World) (v : Value) (hS : IS K w0 O (ab s) ret loops ag w) (hN : INd K w T v) (pR : findF K.F T.name = none) :
  Calls Tryz.prog 137 #[.pointer (some ⟨K.cb, 0, none⟩), T.val v, .int .i64 s.2.length] w fun e w' => e = .panicked [{ v := q9 (5, s.2.length), recovered := false }] ∧ Below K.lo w w' := by
 obtain ⟨a, cap, hv, b7, hq⟩ := ar.1 hN.row
 subst hv
 have k_0 := kk
 exact bS4
theorem Qs {T : Nd} (K : IK) (w0 : World) (O : Nat → Prop) (s : CS) (ret loops ag : Int) (w : World) (v : Value) (hS : IS K w0 O (ab s) ret loops ag w) (hE : IEnv K w) (hN : INd K w T v) (j : Nat) (hj : findF K.F T.name = some j) (xo : T.len + 1 ≠ (K.F.kids j).len) :
  Calls Tryz.prog 137 #[.pointer (some ⟨K.cb, 0, none⟩), T.val v, .int .i64 s.2.length] w fun e w' => e = .panicked [{ v := q9 (8, s.2.length), recovered := false }] ∧ Below K.lo w w' := by
 have k_0 := kk
 exact bS2
theorem Qr {T : Nd} (ih : ∀ i, i < T.len → oo (T.kids i)) (K : IK) (w0 : World) (O : Nat → Prop) (s : CS) (ret loops ag : Int) (w : World) (v : Value) (hS : IS K w0 O (ab s) ret loops ag w) (hE : IEnv K w) (hN : INd K w T v) (aq : s.2.length + T.size ≤ K.N) (he : ∀ i, i < T.len → (T.kids i).eOk = true) (j : Nat) (hj : findF K.F T.name = some j) (xo : T.len + 1 = (K.F.kids j).len) :
  Calls Tryz.prog 137 #[.pointer (some ⟨K.cb, 0, none⟩), T.val v, .int .i64 s.2.length] w (kJ K w (CR.bind (forN (fun i => aC (bL K.F (T.kids i)) ((K.F.kids j).kids i).num) T.len (ab s)) fun s1 => .ok ((K.F.kids j).num, s1)) fun r e w' => e = .returned (.int .i64 r.1) ∧ IS K w0 O r.2 ret loops ag w') := by
 have k_1 := kk
 exact bS2
theorem L8 {T : Nd} (ih : ∀ i, i < T.len → oo (T.kids i)) : VK T := by
  intro K w0 O s ret loops ag w v hS hE hN aq hk aN
  have ir : bC K.F T.kind T.name T.len (fun i => bL K.F (T.kids i)) (ab s) s.2.length = (match findF K.F T.name with
    | none => .error (5, s.2.length)
    | some j => if T.len + 1 = (K.F.kids j).len then CR.bind (forN (fun i => aC (bL K.F (T.kids i)) ((K.F.kids j).kids i).num) T.len (ab s)) fun s1 => .ok ((K.F.kids j).num, s1) else .error (8, s.2.length)) := by
    unfold bC
    rw [if_neg (by omega), if_neg (by omega), if_neg (by omega), if_pos hk]; rfl
  rw [ir]
  cases hj : findF K.F T.name with
  | none => exact Qt K w0 O s ret loops ag w v hS hN hj
  | some j =>
    dsimp only
    by_cases hc : T.len + 1 = (K.F.kids j).len
    · rw [if_pos hc]
      exact Qr ih K w0 O s ret loops ag w v hS hE hN aq (EK hk aN) j hj hc
    · rw [if_neg hc]
      exact Qs K w0 O s ret loops ag w v hS hE hN j hj hc
theorem LI {T : Nd} (hk : T.kind = 25) (hU : VK T) : ri T := by
 have k_2 := kk
 exact bS6
theorem yF (bE : eO) {T : Nd} (ih : ∀ i, i < T.len → oo (T.kids i)) : ri T := by
 intro K w0 O s ret loops ag w v hS hE hN aq aN
 rcases tp aN with h | h | h | h | h | h | h | h
 ·exact LL h K w0 O s ret loops ag w v hS hE hN aq aN
 ·exact LK h K w0 O s ret loops ag w v hS hE hN aq aN
 ·exact LJ h bE K w0 O s ret loops ag w v hS hE hN aq aN
 ·exact LI h (L8 ih) K w0 O s ret loops ag w v hS hE hN aq aN
 ·exact LH h ih K w0 O s ret loops ag w v hS hE hN aq aN
 ·exact LG h (LC ih) K w0 O s ret loops ag w v hS hE hN aq aN
 ·exact LF h (L9 ih) K w0 O s ret loops ag w v hS hE hN aq aN
 ·exact LD h ih K w0 O s ret loops ag w v hS hE hN aq aN
theorem ej (bE : eO) (T : Nd) : oo T := by
 induction T with
 |nil => exact uz (yF bE fun i hi => absurd hi (Nat.not_lt_zero i))
 |mk k n s len kids ih => exact uz (yF bE fun i _ => ih i)
end Go.Proofs.YteaocammohcgoaaGreatDoor
