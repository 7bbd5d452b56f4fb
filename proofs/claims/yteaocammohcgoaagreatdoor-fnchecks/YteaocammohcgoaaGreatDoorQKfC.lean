import Derived.Test.YteaocammohcgoaaGreatDoorQKfA
set_option linter.unusedVariables false
set_option maxHeartbeats 16000000
set_option maxRecDepth 100000
namespace Go.Proofs.YteaocammohcgoaaGreatDoor
open Go.RowKit
variable {G : Prop}
theorem bU0 (h : G := by
 have HM := aa hM
 clear hM
 go_enter Tryz.func104, Tryz.ntmps104
 go_wp2_with (first
  |(go_at_call 69; refine iA.out.mono ?_; rintro e w1 ⟨rfl, az⟩; obtain ⟨b0, b1, b2, b3⟩ := ai (cJ.out _ _ _ _ _ az); have bb := aa az; clear az)
  |(go_at_call 122; refine (cq (HC.out _ bb.out) HM.out).mono ?_; rintro e w2 ⟨rfl, aD⟩; have bM := aa aD; clear aD))
 go_end0
 exact ⟨rfl, fc.out _ _ _ _ _ bM.out⟩) : G := h
theorem bU1 (h : G := by
 have HM := aa hM
 clear hM
 go_enter Tryz.func104, Tryz.ntmps104
 go_wp2_with (first
  |(go_at_call 69; refine iA.out.mono ?_; rintro e w1 ⟨rfl, az⟩; obtain ⟨b0, b1, b2, b3⟩ := ai (cJ.out _ _ _ _ _ az); have bb := aa az; clear az)
  |(go_at_call 123; refine (cq (HC.out _ bb.out) HM.out).mono ?_; rintro e w2 ⟨rfl, aD⟩; have bM := aa aD; clear aD))
 go_end0
 exact ⟨rfl, fc.out _ _ _ _ _ bM.out⟩) : G := h
theorem bU2 (h : G := by
 have HM := aa hM
 clear hM
 go_enter Tryz.func104, Tryz.ntmps104
 go_wp2_with (first
  |(go_at_call 69; refine iA.out.mono ?_; rintro e w1 ⟨rfl, az⟩; obtain ⟨b0, b1, b2, b3⟩ := ai (cJ.out _ _ _ _ _ az); have bb := aa az; clear az)
  |(go_at_call 122; refine (dq (HC.out _ bb.out) HM.out).mono ?_; rintro e w2 ⟨rfl, hb2⟩; skip))
 exact bU7) : G := h
theorem bU3 (h : G := by
 have HM := aa hM
 clear hM
 go_enter Tryz.func104, Tryz.ntmps104
 go_wp2_with (first
  |(go_at_call 69; refine iA.out.mono ?_; rintro e w1 ⟨rfl, az⟩; obtain ⟨b0, b1, b2, b3⟩ := ai (cJ.out _ _ _ _ _ az); have bb := aa az; clear az)
  |(go_at_call 123; refine (dq (HC.out _ bb.out) HM.out).mono ?_; rintro e w2 ⟨rfl, hb2⟩; skip))
 exact bU7) : G := h
theorem bU4 (h : G := by
 go_wp2_with (first
  |(go_at_call 117; refine (dq (ji.out _ _ _ _ _ 2 bb.out iC.out) HM.out).mono ?_; rintro e w2 ⟨rfl, hb2⟩; skip))
 exact bU7) : G := h
theorem bU5 (h : G := by
 clear h1 h2
 go_enter Tryz.func124, Tryz.ntmps124
 go_wp2
 go_quiet (fail)
 go_wp2
 exact ⟨rfl, rfl, HB.out.trans ((below_drewN _ _).mono (by simp; omega))⟩) : G := h
theorem bU6 (h : G := by
 exact bU7) : G := h
theorem bU7 (h : G := by
 exact ⟨rfl, rfl, (bz.out _ _ _ _ _ bb.out).trans hb2⟩) : G := h
theorem bU8 (h : G := by
 have k_0 := kk
 exact TT) : G := h
theorem bU9 (h : G := by
 rw [aM]
 have k_1 := kk
 exact TS) : G := h
theorem TX (h : G := by
 clear h0 Io HD
 go_enter Tryz.func104, Tryz.ntmps104
 go_wp2_with (first
  |(go_at_call 69; refine iA.out.mono ?_; rintro e w1 ⟨rfl, az⟩; obtain ⟨b0, b1, b2, b3⟩ := ai (cJ.out _ _ _ _ _ az); obtain ⟨n4, n7, n8, MR, MQ⟩ := az.nums; have bb := aa az; clear az))
 go_still_tail 11, bI
 go_wp2_with (first
  |(go_at_call 126; refine (FP.out _).mono ?_; rintro e w2 ⟨rfl, rfl⟩; skip))
 first
 |clear k_0
  go_end0
  exact ⟨rfl, fc.out _ _ _ _ _ bb.out.drew⟩
 |clear k_1
  exact ⟨rfl, rfl, (bz.out _ _ _ _ _ bb.out).drew⟩) : G := h
theorem TW (h : G := by
 have k_0 := kk
 exact TR) : G := h
theorem TU (h : G := by
 have Od : Hid ((⟨cx.ret, cx.loops + 1, cx.outs + 1⟩ : Cx).outs = (⟨cx.ret, cx.loops + 1, cx.outs + 1⟩ : Cx).loops + ag) := by show cx.outs + 1 = cx.loops + 1 + ag; omega
 have k_1 := kk
 exact TP) : G := h
theorem vi (h : G := by
 clear h0 Io kx
 go_enter Tryz.func104, Tryz.ntmps104
 go_wp2_with (first
  |(go_at_call 69; refine iA.out.mono ?_; rintro e w1 ⟨rfl, az⟩; obtain ⟨b0, b1, b2, b3⟩ := ai (cJ.out _ _ _ _ _ az); obtain ⟨n4, n7, n8, MR, MQ⟩ := az.nums; have bb := aa az; clear az)
  |(go_at_call 126; refine (FP.out _).mono ?_; rintro e w2 ⟨rfl, rfl⟩; skip))
 first
 |clear k_0
  go_end0
  exact ⟨rfl, fc.out _ _ _ _ _ bb.out⟩
 |clear k_1
  exact ⟨rfl, rfl, bz.out _ _ _ _ _ bb.out⟩) : G := h
theorem TT (h : G := by
 obtain ⟨O1, az, aW, bp, aS⟩ := hS.boxed (.cells #[.int .i64 T.kind, .int .i64 T.num, .string T.name, .slice (some ⟨g, off, none⟩) T.len cap] 25)
 have cJ := aa bp
 have bz := aa aS
 have fc := aa aW
 have bb := aa az
 have fe : K.lo ≤ w.heap.size := by have := hS.lt; have := hS.ok.cl; omega
 have dm := hS.ok.few
 first
 |clear k_0
  have ji := aa (fun (W : World) (st : CS) (r l o : Int) (ty : Int) (hW : IS K (w.alloc (.cells #[.int .i64 T.kind, .int .i64 T.num, .string T.name, .slice (some ⟨g, off, none⟩) T.len cap] 25)) O1 st r l o W) (hf : st.2.length + (T.kids 0).size ≤ K.N) => dV (ej bE (T.kids 0)) K _ O1 st r l o W u0 ty hW (hE.later (aS _ _ _ _ _ hW)) ((hN.kid (by omega) dE).later (aS _ _ _ _ _ hW)) hf cX)
  first
  |clear k_0
   have nJ := aa (fun (W : World) (st : CS) (hW : IS K (w.alloc (.cells #[.int .i64 T.kind, .int .i64 T.num, .string T.name, .slice (some ⟨g, off, none⟩) T.len cap] 25)) O1 st cx.ret cx.loops ag W) (hf : st.2.length + (T.kids 1).size ≤ K.N) (hd : st.1.length + 1 ≤ st.2.length) => nl hb1 (fun j hj => b6 _ (by have := aH (T.kids 1) hj; have := aH T (i := 1) (by omega); omega)) K _ O1 st cx ag W u1 Od.out hW (hE.later (aS _ _ _ _ _ hW)) ((hN.kid (by omega) fG).later (aS _ _ _ _ _ hW)) hf yO hd (by have := aH T (i := 1) (by omega); omega) (by have := aH T (i := 1) (by omega); omega))
   have Jj := aa (fun (W : World) (st : CS) (hW : IS K (w.alloc (.cells #[.int .i64 T.kind, .int .i64 T.num, .string T.name, .slice (some ⟨g, off, none⟩) T.len cap] 25)) O1 st cx.ret cx.loops ag W) (hf : st.2.length + (T.kids 2).size ≤ K.N) (dr : st.1 ≠ []) (hd : st.1.length + 1 ≤ st.2.length) => b6 (T.kids 2) (by have := aH T (i := 2) (by omega); omega) K _ O1 st cx ag W u2 Od.out hW (hE.later (aS _ _ _ _ _ hW)) ((hN.kid (by omega) jH).later (aS _ _ _ _ _ hW)) hf ho2 dr hd (by have := aH T (i := 2) (by omega); omega) (by have := aH T (i := 2) (by omega); omega))
   have iC := aa (fJ aq (i := 0) (by omega))
   have l6 : Hid (∀ s1, aC (bL K.F (T.kids 0)) 2 (ab s) = .ok s1 → s1.2.length + (T.kids 1).size ≤ K.N ∧ s1.1.length + 1 ≤ s1.2.length ∧ s1.1 ≠ [] ∧ s1.2.length + (T.kids 1).size + (T.kids 2).size ≤ K.N) := by
    intro s1 h
    obtain ⟨q1, q2⟩ := (eh K.F _ cX).want 2 _ _ h
    have := bP T s.2.length (i := 2) (by omega)
    unfold aV at this; simp only [aw] at this
    rw [aP] at q2
    refine ⟨by omega, ?_, by rw [q1]; exact bh, by omega⟩
    rw [q1]; show s.1.length + 1 ≤ _; omega
   have ly : Hid (∀ s1 s2, s1.1 ≠ [] → within [] ((bY K.F (T.kids 1)).sts cx) s1 = .ok s2 → s2.1 = s1.1 ∧ s2.2.length = s1.2.length + (T.kids 1).size) := by
    intro s1 s2 dr h
    exact ((iq K.F (T.kids 1)).sts yO hb1 cx).within [] (by simp) s1 s2 h
   have k_1 := kk
   exact TW
  |clear k_1
   have nJ := aa (fun (W : World) (st : CS) (hW : IS K (w.alloc (.cells #[.int .i64 T.kind, .int .i64 T.num, .string T.name, .slice (some ⟨g, off, none⟩) T.len cap] 25)) O1 st cx.ret ((cx.loops : Int) + 1) ag W) (hf : st.2.length + (T.kids 1).size ≤ K.N) (hd : st.1.length + 1 ≤ st.2.length) => nl hb1 (fun j hj => b6 _ (by have := aH (T.kids 1) hj; have := aH T (i := 1) (by omega); omega)) K _ O1 st ⟨cx.ret, cx.loops + 1, cx.outs + 1⟩ ag W u1 Od.out hW (hE.later (aS _ _ _ _ _ hW)) ((hN.kid (by omega) fG).later (aS _ _ _ _ _ hW)) hf yO hd (by have := aH T (i := 1) (by omega); show cx.loops + 1 + _ ≤ _; omega) (by have := aH T (i := 1) (by omega); omega))
   have iC := aa (fJ aq (i := 0) (by omega))
   have l6 : Hid (∀ s1, aC (bL K.F (T.kids 0)) 2 (ab s) = .ok s1 → s1.2.length + (T.kids 1).size ≤ K.N ∧ s1.1.length + 1 ≤ s1.2.length) := by
    intro s1 h
    obtain ⟨q1, q2⟩ := (eh K.F _ cX).want 2 _ _ h
    have := bP T s.2.length (i := 1) (by omega)
    unfold aV at this; simp only [aw] at this
    rw [aP] at q2
    refine ⟨by omega, ?_⟩
    rw [q1]; show s.1.length + 1 ≤ _; omega
   have k_0 := kk
   exact TW
 |clear k_1
  have O7 := aa (fun (W : World) (st : CS) (hW : IS K (w.alloc (.cells #[.int .i64 T.kind, .int .i64 T.num, .string T.name, .slice (some ⟨g, off, none⟩) T.len cap] 25)) O1 st cx.ret ((cx.loops : Int) + 1) ag W) (hf : st.2.length + (T.kids 0).size ≤ K.N) (hd : st.1.length + 1 ≤ st.2.length) => nl iY (fun j hj => b6 _ (by have := aH (T.kids 0) hj; have := aH T (i := 0) (by omega); omega)) K _ O1 st ⟨cx.ret, cx.loops + 1, cx.outs + 1⟩ ag W u0 Od.out hW (hE.later (aS _ _ _ _ _ hW)) ((hN.kid (by omega) dE).later (aS _ _ _ _ _ hW)) hf Q7 hd (by have := aH T (i := 0) (by omega); show cx.loops + 1 + _ ≤ _; omega) (by have := aH T (i := 0) (by omega); omega))
  have iC := aa (fJ aq (i := 0) (by omega))
  have HD0 : Hid ((ab s).1.length + 1 ≤ (ab s).2.length) := by unfold Hid; rw [aP]; show s.1.length + 1 ≤ _; omega
  have k_1 := kk
  exact TR) : G := h
theorem TS (h : G := by
 obtain ⟨a, cap, hv, b7, hq⟩ := ar.1 hN.row
 subst hv
 obtain ⟨O1, az, aW, bp, aS⟩ := hS.boxed (.cells #[.int .i64 T.kind, .int .i64 T.num, .string T.name, .slice a T.len cap] 25)
 have cJ := aa bp
 have bz := aa aS
 have fc := aa aW
 first
 |clear k_0
  have bb := aa az
  have fe : K.lo ≤ w.heap.size := by have := hS.lt; have := hS.ok.cl; omega
  have dm := hS.ok.few
  obtain ⟨n4, n7, n8, MR, MQ⟩ := bb.out.nums
  have kH := aa (fun (h0 : T.len ≠ 0) => cN hN.row h0)
  have Jh := aa (fun (j : Nat) (hj : j < T.len) (u : Value) (hr : Row 0 K.lo w (T.kids j) u) (W : World) (st : CS) (hW : IS K (w.alloc (.cells #[.int .i64 T.kind, .int .i64 T.num, .string T.name, .slice a T.len cap] 25)) O1 st cx.ret cx.loops ag W) (hf : st.2.length + (T.kids j).size ≤ K.N) => dV (ej bE (T.kids j)) K _ O1 st cx.ret cx.loops ag W u cx.ret hW (hE.later (aS _ _ _ _ _ hW)) ((hN.kid hj hr).later (aS _ _ _ _ _ hW)) hf (he j hj))
  have sq : Hid (∀ j st, j < T.len → forN (fun i => aC (bL K.F (T.kids i)) cx.ret) j (ab s) = .ok st → st.2.length + (T.kids j).size ≤ K.N) := by
   intro j st hj h
   have := nt (g := fun i => (T.kids i).size) (fun i hi => (eh K.F _ (he i hi)).want cx.ret) (Nat.le_of_lt hj) _ _ h
   have h2 := bP T s.2.length hj
   rw [aP] at this
   unfold aV at h2
   omega
  have hn := T.fine_len hN.fine
  have bI := jz
  unfold Nd.val at *
  clear hS hE hN az aW bp aS hk hq he aq
  have hor2 : (((T.len : Int) == 1) = true ∧ (cx.ret == 0) = false) ∨ (((T.len : Int) == 1) = false ∧ (cx.ret == 0) = true) := by
   rcases Ke with ⟨h1, h2⟩ | ⟨h1, h2⟩
   ·exact .inl ⟨beq_iff_eq.2 (by omega), bn h2⟩
   ·exact .inr ⟨bn (by omega), beq_iff_eq.2 h2⟩
  clear Ke
  rcases hor2 with ⟨e1, e2⟩ | ⟨e1, e2⟩
  all_goals have e3 : (cx.ret != 0) = !(cx.ret == 0) := rfl
  all_goals rw [e2] at e3
  all_goals simp only [Bool.not_true, Bool.not_false] at e3
  all_goals go_enter Tryz.func124, Tryz.ntmps124
  all_goals go_wp2
  all_goals go_quiet (fail)
  all_goals go_wp2
  all_goals have KN := aa (bb.out.calm (below_drewN _ nq))
  all_goals go_loopw [25] (fun i wr => ∃ j : Nat, j ≤ T.len ∧ i = .int .i64 j ∧ ∃ st, forN (fun i => aC (bL K.F (T.kids i)) cx.ret) j (ab s) = .ok st ∧ IS K (w.alloc (.cells #[.int .i64 T.kind, .int .i64 T.num, .string T.name, .slice a T.len cap] 25)) O1 st cx.ret cx.loops ag wr) (fun i _ => T.len - (intOf i).toNat)
  all_goals try (case atStart => exact ⟨0, Nat.zero_le _, rfl, ab s, rfl, KN.out⟩)
  all_goals
   obtain ⟨n, Eb, rfl, st, aM, cr⟩ := hrel
   obtain ⟨m4, m7, m8, gr7, gr8⟩ := cr.nums
   by_cases xh : n < T.len
   ·have hni : (n : Int) < (T.len : Int) := by omega
    obtain ⟨g, off, l5, lZ, iW, rR, aQ⟩ := kH.out (by omega)
    injection lZ with ti Kz th
    subst ti
    subst th
    obtain ⟨u, kE, jG⟩ := aQ n xh
    obtain ⟨au, qu, hu, pV, AU⟩ := ar.1 jG
    subst hu
    clear AU
    obtain ⟨c0, c1, c2, c3⟩ := kE _ (bz.out _ _ _ _ _ cr)
    have HW := aa (fun o => Jh.out n xh _ jG (wr.alloc o).drew st (cr.alloc o).drew (sq.out n st xh aM))
    have kB : Hid (forN (fun i => aC (bL K.F (T.kids i)) cx.ret) (n + 1) (ab s) = aC (bL K.F (T.kids n)) cx.ret st) := by unfold Hid; simp only [forN, aM]; rfl
    have yj := aa (fun o => (bz.out _ _ _ _ _ cr).trans (cr.box o))
    have HNU := aa (fun o => (cr.alloc o).nums)
    unfold Nd.val at HW
    clear aQ kE jG cr
    cases hM : aC (bL K.F (T.kids n)) cx.ret st with
    |error p =>
     have HM := aa hM
     have qC : Hid (forN (fun i => aC (bL K.F (T.kids i)) cx.ret) T.len (ab s) = .error p) := ie (kB.out.trans hM) (show n + 1 ≤ T.len by omega)
     clear hM aM
     go_wp2
     have xX := aa (HW.out (.cells #[.int .i64 (T.kids n).kind, .int .i64 (T.kids n).num, .string (T.kids n).name, .slice au (T.kids n).len qu] 25))
     have Fu := aa (yj.out (.cells #[.int .i64 (T.kids n).kind, .int .i64 (T.kids n).num, .string (T.kids n).name, .slice au (T.kids n).len qu] 25))
     obtain ⟨z4, z7, z8, zr7, zr8⟩ := HNU.out (.cells #[.int .i64 (T.kids n).kind, .int .i64 (T.kids n).num, .string (T.kids n).name, .slice au (T.kids n).len qu] 25)
     obtain ⟨x0, x1, x2, x3⟩ := ai (w := wr.alloc (.cells #[.int .i64 (T.kids n).kind, .int .i64 (T.kids n).num, .string (T.kids n).name, .slice au (T.kids n).len qu] 25)) (b := wr.heap.size) (t := 25) (heap_alloc_new wr _)
     generalize wr.alloc (.cells #[.int .i64 (T.kids n).kind, .int .i64 (T.kids n).num, .string (T.kids n).name, .slice au (T.kids n).len qu] 25) = wx at *
     go_still_tail 7, bI
     go_wp2_with (first
      |(go_at_call 117; refine (dq xX.out HM.out).mono ?_; rintro e w2 ⟨rfl, hb2⟩; skip))
     refine ⟨rfl, ?_⟩
     rw [fQ qC.out]
     exact ⟨rfl, Fu.out.drew.trans hb2⟩
    |ok s1 =>
     have HM := aa hM
     clear hM aM
     go_wp2
     have xX := aa (HW.out (.cells #[.int .i64 (T.kids n).kind, .int .i64 (T.kids n).num, .string (T.kids n).name, .slice au (T.kids n).len qu] 25))
     have Fu := aa (yj.out (.cells #[.int .i64 (T.kids n).kind, .int .i64 (T.kids n).num, .string (T.kids n).name, .slice au (T.kids n).len qu] 25))
     obtain ⟨z4, z7, z8, zr7, zr8⟩ := HNU.out (.cells #[.int .i64 (T.kids n).kind, .int .i64 (T.kids n).num, .string (T.kids n).name, .slice au (T.kids n).len qu] 25)
     obtain ⟨x0, x1, x2, x3⟩ := ai (w := wr.alloc (.cells #[.int .i64 (T.kids n).kind, .int .i64 (T.kids n).num, .string (T.kids n).name, .slice au (T.kids n).len qu] 25)) (b := wr.heap.size) (t := 25) (heap_alloc_new wr _)
     generalize wr.alloc (.cells #[.int .i64 (T.kids n).kind, .int .i64 (T.kids n).num, .string (T.kids n).name, .slice au (T.kids n).len qu] 25) = wx at *
     go_still_tail 7, bI
     go_wp2_with (first
      |(go_at_call 117; refine (cq xX.out HM.out).mono ?_; rintro e w2 ⟨rfl, aD⟩; have HS9 := aa aD; clear aD))
     exact ⟨⟨n + 1, by omega, by go_num, s1, by rw [kB.out, HM.out], HS9.out⟩, by simp [intOf]; omega⟩
   ·obtain rfl : n = T.len := by omega
    have iK := aa cr
    have mT := aa aM
    clear cr aM
    go_wp2
    go_end0
    rw [lu mT.out]
    exact ⟨rfl, fc.out _ _ _ _ _ iK.out⟩
 |clear k_1
  have iA := aa (ia az (by omega))
  have fe : K.lo ≤ w.heap.size := by have := hS.lt; have := hS.ok.cl; omega
  have dm := hS.ok.few
  first
  |clear k_0
   have HC := aa (fun (W : World) (hW : IS K (w.alloc (.cells #[.int .i64 T.kind, .int .i64 T.num, .string T.name, .slice a T.len cap] 25)) O1 (ab s) cx.ret cx.loops ag W) => DB bE K _ O1 (ab s) cx.ret cx.loops ag W _ s.2.length hW (hN.later (aS _ _ _ _ _ hW)))
   unfold Nd.val at *
   rw [hk] at HC cJ bz fc iA ⊢
   clear hS hE hN az aW bp aS aN hk hq aM aq bh hd
   cases hM : (if look s.1 T.name = 0 then .error (5, s.2.length) else if look s.1 T.name = 1 then .ok (ab s) else .error (7, s.2.length) : CR CS) with
   |error p =>
    have HM := aa hM
    clear hM
    go_enter Tryz.func104, Tryz.ntmps104
    go_wp2_with (first
     |(go_at_call 69; refine iA.out.mono ?_; rintro e w1 ⟨rfl, az⟩; obtain ⟨b0, b1, b2, b3⟩ := ai (cJ.out _ _ _ _ _ az); have bb := aa az; clear az)
     |(go_at_call 119; refine (dq (HC.out _ bb.out) HM.out).mono ?_; rintro e w2 ⟨rfl, hb2⟩; skip))
    exact bU6
   |ok s1 =>
    have HM := aa hM
    clear hM
    go_enter Tryz.func104, Tryz.ntmps104
    go_wp2_with (first
     |(go_at_call 69; refine iA.out.mono ?_; rintro e w1 ⟨rfl, az⟩; obtain ⟨b0, b1, b2, b3⟩ := ai (cJ.out _ _ _ _ _ az); have bb := aa az; clear az)
     |(go_at_call 119; refine (cq (HC.out _ bb.out) HM.out).mono ?_; rintro e w2 ⟨rfl, aD⟩; have bM := aa aD; clear aD))
    go_end0
    exact ⟨rfl, fc.out _ _ _ _ _ bM.out⟩
  |clear k_1
   have HC := aa (fun (W : World) (hW : IS K (w.alloc (.cells #[.int .i64 T.kind, .int .i64 T.num, .string T.name, .slice a T.len cap] 25)) O1 (ab s) cx.ret cx.loops ag W) => Qp bE hk hl b6 K _ O1 s cx ag W _ gJ hW (hE.later (aS _ _ _ _ _ hW)) (hN.later (aS _ _ _ _ _ hW)) aq aN bh hd dI dP)
   unfold Nd.val at *
   rw [hk] at HC cJ bz fc iA ⊢
   clear hS hE hN az aW bp aS aN hk hq aM aq bh hd hl b6 hb1
   cases hM : CR.bind (aC (bL K.F (T.kids 0)) 2 (ab s)) fun s1 => within [] ((bY K.F (T.kids 1)).sts cx) s1 with
   |error p =>
    exact bU2
   |ok s1 =>
    exact bU0
  |clear k_2
   have HC := aa (fun (W : World) (hW : IS K (w.alloc (.cells #[.int .i64 T.kind, .int .i64 T.num, .string T.name, .slice a T.len cap] 25)) O1 (ab s) cx.ret cx.loops ag W) => Qo bE hk hl b6 K _ O1 s cx ag W _ gJ hW (hE.later (aS _ _ _ _ _ hW)) (hN.later (aS _ _ _ _ _ hW)) aq aN bh hd dI dP)
   unfold Nd.val at *
   rw [hk] at HC cJ bz fc iA ⊢
   clear hS hE hN az aW bp aS aN hk hq aM aq bh hd hl b6 hb1
   cases hM : CR.bind (aC (bL K.F (T.kids 0)) 2 (ab s)) fun s1 => CR.bind (within [] ((bY K.F (T.kids 1)).sts cx) s1) ((bY K.F (T.kids 2)).st cx) with
   |error p =>
    exact bU2
   |ok s1 =>
    exact bU0
  |clear k_3
   have HC := aa (fun (W : World) (hW : IS K (w.alloc (.cells #[.int .i64 T.kind, .int .i64 T.num, .string T.name, .slice a T.len cap] 25)) O1 (ab s) cx.ret cx.loops ag W) => Hp bE hk hl iY Q7 b6 K _ O1 s cx ag W _ gJ hW (hE.later (aS _ _ _ _ _ hW)) (hN.later (aS _ _ _ _ _ hW)) aq aN bh hd dI dP)
   unfold Nd.val at *
   rw [hk] at HC cJ bz fc iA ⊢
   clear hS hE hN az aW bp aS aN hk hq aM aq bh hd hl b6 iY Q7
   cases hM : within [] ((bY K.F (T.kids 0)).sts ⟨cx.ret, cx.loops + 1, cx.outs + 1⟩) (ab s) with
   |error p =>
    exact bU3
   |ok s1 =>
    exact bU1
  |clear k_4
   have HC := aa (fun (W : World) (hW : IS K (w.alloc (.cells #[.int .i64 T.kind, .int .i64 T.num, .string T.name, .slice a T.len cap] 25)) O1 (ab s) cx.ret cx.loops ag W) => Ho bE hk hl cX hb1 yO b6 K _ O1 s cx ag W _ gJ hW (hE.later (aS _ _ _ _ _ hW)) (hN.later (aS _ _ _ _ _ hW)) aq aN bh hd dI dP)
   unfold Nd.val at *
   rw [hk] at HC cJ bz fc iA ⊢
   clear hS hE hN az aW bp aS aN hk hq aM aq bh hd hl b6 cX hb1 yO
   cases hM : CR.bind (aC (bL K.F (T.kids 0)) 2 (ab s)) fun s1 => within [] ((bY K.F (T.kids 1)).sts ⟨cx.ret, cx.loops + 1, cx.outs + 1⟩) s1 with
   |error p =>
    exact bU3
   |ok s1 =>
    exact bU1
  |clear k_5
   have HC := aa (fun (W : World) (hW : IS K (w.alloc (.cells #[.int .i64 T.kind, .int .i64 T.num, .string T.name, .slice a T.len cap] 25)) O1 (ab s) cx.ret cx.loops ag W) => Hs bE hk b6 K _ O1 s cx ag W _ gJ hW (hE.later (aS _ _ _ _ _ hW)) (hN.later (aS _ _ _ _ _ hW)) aq aN bh hd dI dP)
   unfold Nd.val at *
   rw [hk] at HC cJ bz fc iA ⊢
   clear hS hE hN az aW bp aS aN hk hq aM aq bh hd b6
   cases hM : re K.F T ⟨cx.ret, cx.loops, cx.outs + 1⟩ (ab s) T.len with
   |error p =>
    have HM := aa hM
    clear hM
    go_enter Tryz.func104, Tryz.ntmps104
    go_wp2_with (first
     |(go_at_call 69; refine iA.out.mono ?_; rintro e w1 ⟨rfl, az⟩; obtain ⟨b0, b1, b2, b3⟩ := ai (cJ.out _ _ _ _ _ az); have bb := aa az; clear az)
     |(go_at_call 125; refine (dq (HC.out _ bb.out) HM.out).mono ?_; rintro e w2 ⟨rfl, hb2⟩; skip))
    exact bU6
   |ok s1 =>
    have HM := aa hM
    clear hM
    go_enter Tryz.func104, Tryz.ntmps104
    go_wp2_with (first
     |(go_at_call 69; refine iA.out.mono ?_; rintro e w1 ⟨rfl, az⟩; obtain ⟨b0, b1, b2, b3⟩ := ai (cJ.out _ _ _ _ _ az); have bb := aa az; clear az)
     |(go_at_call 125; refine (cq (HC.out _ bb.out) HM.out).mono ?_; rintro e w2 ⟨rfl, aD⟩; have bM := aa aD; clear aD))
    go_end0
    exact ⟨rfl, fc.out _ _ _ _ _ bM.out⟩
  |clear k_6
   have FP := aa (fun W => pO (K := K) W (cx.loops : Int) s.2.length (.pointer (some ⟨K.cb, 0, none⟩)))
   have kx : ((cx.loops : Int) = 0) = (cx.loops = 0) := by simp
   unfold Nd.val at *
   rw [hk] at cJ bz fc iA ⊢
   clear hS hE hN az aW bp aS aN hk hq aM aq bh hd
   have NU := @IS.nums
   by_cases h0 : cx.loops = 0
   ·have Io : (cx.loops : Int) = 0 := by omega
    rw [if_pos h0]
    simp only [if_pos Io] at FP
    have k_1 := kk
    exact vi
   ·have Io : ¬ (cx.loops : Int) = 0 := by omega
    rw [if_neg h0]
    simp only [if_neg Io] at FP
    have k_0 := kk
    exact vi
  |clear k_7
   have FP := aa (fun W => pO (K := K) W ((cx.loops : Int) + (ag : Int)) s.2.length (.pointer (some ⟨K.cb, 0, none⟩)))
   have hlb : cx.loops ≤ 1099511627776 := by omega
   have hsb : ag ≤ 1099511627776 := by omega
   have bI := jz
   unfold Nd.val at *
   rw [hk] at cJ bz fc iA ⊢
   have HD : Hid ((cx.outs = 0 ∧ ((cx.loops : Int) + (ag : Int) = 0)) ∨ (¬ cx.outs = 0 ∧ ¬ ((cx.loops : Int) + (ag : Int) = 0))) := by
    unfold Hid
    by_cases h : cx.outs = 0
    ·exact .inl ⟨h, by omega⟩
    ·exact .inr ⟨h, by omega⟩
   have DQ : IntKind.i64.wrap ((cx.loops : Int) + (ag : Int)) = (cx.loops : Int) + (ag : Int) := by simp [IntKind.wrap, IntKind.bits, IntKind.signed]; omega
   clear hS hE hN az aW bp aS aN hk hq aM aq bh hd gJ
   rcases HD.out with ⟨h0, Io⟩ | ⟨h0, Io⟩
   ·rw [if_pos h0]
    simp only [if_pos Io] at FP
    have k_1 := kk
    exact TX
   ·rw [if_neg h0]
    simp only [if_neg Io] at FP
    have k_0 := kk
    exact TX
  |clear k_8
   by_cases hg : decide (0 < T.len) = decide (cx.ret ≠ 0)
   ·have Ke : (T.len = 1 ∧ cx.ret ≠ 0) ∨ (T.len = 0 ∧ cx.ret = 0) := by
     rcases QV with h | ⟨h, _⟩
     ·right; refine ⟨h, Classical.byContradiction fun e => ?_⟩
      rw [h, decide_eq_true e] at hg; cases hg
     ·left; refine ⟨h, fun e => ?_⟩
      rw [h, e] at hg; cases hg
    have he : ∀ i, i < T.len → (T.kids i).eOk = true := by
     intro i hi
     rcases QV with h | ⟨h, h2⟩
     ·omega
     ·obtain rfl : i = 0 := by omega
      exact h2
    have hM0 : (if decide (0 < T.len) = decide (cx.ret ≠ 0) then (if 0 < T.len then aC (bL K.F (T.kids 0)) cx.ret (ab s) else .ok (ab s)) else .error (9, s.2.length) : CR CS) = forN (fun i => aC (bL K.F (T.kids i)) cx.ret) T.len (ab s) := by
     rw [if_pos hg]
     rcases Ke with ⟨h, _⟩ | ⟨h, _⟩
     ·rw [h]; rfl
     ·rw [h]; rfl
    rw [hM0]
    have HC := aa (fun (W : World) (hW : IS K (w.alloc (.cells #[.int .i64 T.kind, .int .i64 T.num, .string T.name, .slice a T.len cap] 25)) O1 (ab s) cx.ret cx.loops ag W) => LX bE hk K _ O1 s cx ag W _ s.2.length hW (hE.later (aS _ _ _ _ _ hW)) (hN.later (aS _ _ _ _ _ hW)) aq he Ke)
    unfold Nd.val at *
    rw [hk] at HC cJ bz fc iA ⊢
    clear hS hE hN az aW bp aS aN hk hq aM aq bh hd hM0 hg Ke he QV
    cases hM : forN (fun i => aC (bL K.F (T.kids i)) cx.ret) T.len (ab s) with
    |error p =>
     have HM := aa hM
     clear hM
     go_enter Tryz.func104, Tryz.ntmps104
     go_wp2_with (first
      |(go_at_call 69; refine iA.out.mono ?_; rintro e w1 ⟨rfl, az⟩; obtain ⟨b0, b1, b2, b3⟩ := ai (cJ.out _ _ _ _ _ az); have bb := aa az; clear az)
      |(go_at_call 124; refine (dq (HC.out _ bb.out) HM.out).mono ?_; rintro e w2 ⟨rfl, hb2⟩; skip))
     exact bU6
    |ok s1 =>
     have HM := aa hM
     clear hM
     go_enter Tryz.func104, Tryz.ntmps104
     go_wp2_with (first
      |(go_at_call 69; refine iA.out.mono ?_; rintro e w1 ⟨rfl, az⟩; obtain ⟨b0, b1, b2, b3⟩ := ai (cJ.out _ _ _ _ _ az); have bb := aa az; clear az)
      |(go_at_call 124; refine (cq (HC.out _ bb.out) HM.out).mono ?_; rintro e w2 ⟨rfl, aD⟩; have bM := aa aD; clear aD))
     go_end0
     exact ⟨rfl, fc.out _ _ _ _ _ bM.out⟩
   ·rw [if_neg hg]
    have HC := aa (fun (W : World) (hW : IS K (w.alloc (.cells #[.int .i64 T.kind, .int .i64 T.num, .string T.name, .slice a T.len cap] 25)) O1 (ab s) cx.ret cx.loops ag W) => LY hk K _ O1 (ab s) cx ag W _ s.2.length hW (hN.later (aS _ _ _ _ _ hW)) (by rcases QV with h | ⟨h, _⟩; exact .inl h; exact .inr h) hg)
    unfold Nd.val at *
    rw [hk] at HC cJ bz fc iA ⊢
    clear hS hE hN az aW bp aS aN hk hq aM aq bh hd hg QV
    go_enter Tryz.func104, Tryz.ntmps104
    go_wp2_with (first
     |(go_at_call 69; refine iA.out.mono ?_; rintro e w1 ⟨rfl, az⟩; obtain ⟨b0, b1, b2, b3⟩ := ai (cJ.out _ _ _ _ _ az); have bb := aa az; clear az)
     |(go_at_call 124; refine (HC.out _ bb.out).mono ?_; rintro e w2 ⟨rfl, hb2⟩; skip))
    exact bU6) : G := h
theorem TR (h : G := by
 unfold Nd.val at *
 have fO : g < w.heap.size := by omega
 have A0 : g < w.heap.size + 1 := by omega
 have AZ : g < w.heap.size + 1 + 1 := by omega
 have Ie : ¬ g = w.heap.size := by omega
 have A5 : ¬ g = w.heap.size + 1 := by omega
 have A4 : ¬ g = w.heap.size + 1 + 1 := by omega
 obtain ⟨eD, eC, eB, eA⟩ := dH.out w (Below.refl _ _)
 first
 |clear k_0
  obtain ⟨gG, gB, gE, gA⟩ := fD.out w (Below.refl _ _)
  first
  |clear k_0
   have gh : 0 < T.len := by omega
   have np : (1 : Int) < (T.len : Int) := by omega
   have j8 : 1 < T.len := by omega
   have yY : (T.len : Int) - 1 = 1 := by omega
   have k_0 := kk
   exact TQ
  |clear k_1
   obtain ⟨qM, qL, oi, oh⟩ := mU.out w (Below.refl _ _)
   have gh : 0 < T.len := by omega
   have np : (1 : Int) < (T.len : Int) := by omega
   have j8 : 1 < T.len := by omega
   have Kc : (2 : Int) < (T.len : Int) := by omega
   have D1 : 2 < T.len := by omega
   have hl3 : ((T.len : Int) == 3) = true := beq_iff_eq.2 (by omega)
   clear hS hE hN az aW bp aS aQ eT dE ed fG iy jH aN hk hl b6 gJ aq hb1 yO cX h2 ho2
   cases hM : aC (bL K.F (T.kids 0)) 2 (ab s) with
   |error p =>
    have HM := aa hM
    clear hM
    rw [CR.bind_error]
    go_enter Tryz.func122, Tryz.ntmps122
    exact bU4
   |ok s1 =>
    have iB := aa hM
    clear hM
    rw [CR.bind_ok]
    obtain ⟨dJ, ft, mF, oG⟩ := l6.out _ iB.out
    have HX := aa dJ
    have HD := aa ft
    have HZ := aa oG
    have oZ := aa mF
    clear dJ ft mF oG
    cases hM : within [] ((bY K.F (T.kids 1)).sts cx) s1 with
    |error p =>
     have HM := aa hM
     clear hM
     rw [CR.bind_error]
     go_enter Tryz.func122, Tryz.ntmps122
     go_wp2_with (first
      |(go_at_call 117; refine (cq (ji.out _ _ _ _ _ 2 bb.out iC.out) iB.out).mono ?_; rintro e w2 ⟨rfl, aD⟩; obtain ⟨b0, b1, b2, b3⟩ := ai (cJ.out _ _ _ _ _ aD); obtain ⟨eD, eC, eB, eA⟩ := dH.out _ (bz.out _ _ _ _ _ aD); obtain ⟨gG, gB, gE, gA⟩ := fD.out _ (bz.out _ _ _ _ _ aD); obtain ⟨qM, qL, oi, oh⟩ := mU.out _ (bz.out _ _ _ _ _ aD); have bM := aa aD; clear aD)
      |(go_at_call 115; refine (dq (nJ.out _ _ bM.out HX.out HD.out) HM.out).mono ?_; rintro e w3 ⟨rfl, hb3⟩; skip))
     exact ⟨rfl, rfl, (bz.out _ _ _ _ _ bM.out).trans hb3⟩
    |ok s2 =>
     have qP := aa hM
     clear hM
     rw [CR.bind_ok]
     have VY : Hid (s2.2.length + (T.kids 2).size ≤ K.N) := by have := (ly.out s1 s2 oZ.out qP.out).2; have := HZ.out; unfold Hid; omega
     have HN2 : Hid (s2.1 ≠ []) := by have := (ly.out s1 s2 oZ.out qP.out).1; unfold Hid; rw [this]; exact oZ.out
     have jI : Hid (s2.1.length + 1 ≤ s2.2.length) := by have := ly.out s1 s2 oZ.out qP.out; have := HD.out; unfold Hid; rw [(ly.out s1 s2 oZ.out qP.out).1]; omega
     cases hM : (bY K.F (T.kids 2)).st cx s2 with
     |error p =>
      have HM := aa hM
      clear hM
      go_enter Tryz.func122, Tryz.ntmps122
      go_wp2_with (first
       |(go_at_call 117; refine (cq (ji.out _ _ _ _ _ 2 bb.out iC.out) iB.out).mono ?_; rintro e w2 ⟨rfl, aD⟩; obtain ⟨b0, b1, b2, b3⟩ := ai (cJ.out _ _ _ _ _ aD); obtain ⟨eD, eC, eB, eA⟩ := dH.out _ (bz.out _ _ _ _ _ aD); obtain ⟨gG, gB, gE, gA⟩ := fD.out _ (bz.out _ _ _ _ _ aD); obtain ⟨qM, qL, oi, oh⟩ := mU.out _ (bz.out _ _ _ _ _ aD); have bM := aa aD; clear aD)
       |(go_at_call 115; refine (cq (nJ.out _ _ bM.out HX.out HD.out) qP.out).mono ?_; rintro e w3 ⟨rfl, bW⟩; obtain ⟨b0, b1, b2, b3⟩ := ai (cJ.out _ _ _ _ _ bW); obtain ⟨eD, eC, eB, eA⟩ := dH.out _ (bz.out _ _ _ _ _ bW); obtain ⟨gG, gB, gE, gA⟩ := fD.out _ (bz.out _ _ _ _ _ bW); obtain ⟨qM, qL, oi, oh⟩ := mU.out _ (bz.out _ _ _ _ _ bW); have fa := aa bW; clear bW)
       |(go_at_call 104; refine (dq (Jj.out _ _ fa.out VY.out HN2.out jI.out) HM.out).mono ?_; rintro e w4 ⟨rfl, lg⟩; skip))
      exact ⟨rfl, rfl, (bz.out _ _ _ _ _ fa.out).trans lg⟩
     |ok s3 =>
      have HM := aa hM
      clear hM
      go_enter Tryz.func122, Tryz.ntmps122
      go_wp2_with (first
       |(go_at_call 117; refine (cq (ji.out _ _ _ _ _ 2 bb.out iC.out) iB.out).mono ?_; rintro e w2 ⟨rfl, aD⟩; obtain ⟨b0, b1, b2, b3⟩ := ai (cJ.out _ _ _ _ _ aD); obtain ⟨eD, eC, eB, eA⟩ := dH.out _ (bz.out _ _ _ _ _ aD); obtain ⟨gG, gB, gE, gA⟩ := fD.out _ (bz.out _ _ _ _ _ aD); obtain ⟨qM, qL, oi, oh⟩ := mU.out _ (bz.out _ _ _ _ _ aD); have bM := aa aD; clear aD)
       |(go_at_call 115; refine (cq (nJ.out _ _ bM.out HX.out HD.out) qP.out).mono ?_; rintro e w3 ⟨rfl, bW⟩; obtain ⟨b0, b1, b2, b3⟩ := ai (cJ.out _ _ _ _ _ bW); obtain ⟨eD, eC, eB, eA⟩ := dH.out _ (bz.out _ _ _ _ _ bW); obtain ⟨gG, gB, gE, gA⟩ := fD.out _ (bz.out _ _ _ _ _ bW); obtain ⟨qM, qL, oi, oh⟩ := mU.out _ (bz.out _ _ _ _ _ bW); have fa := aa bW; clear bW)
       |(go_at_call 104; refine (cq (Jj.out _ _ fa.out VY.out HN2.out jI.out) HM.out).mono ?_; rintro e w4 ⟨rfl, fH⟩; have kG := aa fH; clear fH))
      go_end0
      exact ⟨rfl, fc.out _ _ _ _ _ kG.out⟩
 |clear k_1
  have gh : 0 < T.len := by omega
  have yY : (T.len : Int) - 1 = 0 := by omega
  have k_1 := kk
  exact TQ) : G := h
theorem TQ (h : G := by
 have hlb : cx.loops ≤ 1099511627776 := by omega
 have hcbn : ¬ K.cb = w.heap.size := by have := hS.lt; omega
 have hcbm : ¬ w.heap.size = K.cb := by have := hS.lt; omega
 have hgcb : ¬ g = K.cb := by have := hS.ok.cl; omega
 have hcbg : ¬ K.cb = g := by have := hS.ok.cl; omega
 first
 |clear k_0
  clear hS hE hN az aW bp aS aQ eT dE ed fG aN hk hl b6 gJ aq hb1 yO cX
  cases hM : aC (bL K.F (T.kids 0)) 2 (ab s) with
  |error p =>
   have HM := aa hM
   clear hM
   rw [CR.bind_error]
   go_enter Tryz.func123, Tryz.ntmps123
   exact bU4
  |ok s1 =>
   have iB := aa hM
   clear hM
   rw [CR.bind_ok]
   obtain ⟨dJ, ft⟩ := l6.out _ iB.out
   have HX := aa dJ
   have HD := aa ft
   clear dJ ft
   cases hM : within [] ((bY K.F (T.kids 1)).sts ⟨cx.ret, cx.loops + 1, cx.outs + 1⟩) s1 with
   |error p =>
    have HM := aa hM
    clear hM
    go_enter Tryz.func123, Tryz.ntmps123
    go_wp2_with (first
     |(go_at_call 117; refine (cq (ji.out _ _ _ _ _ 2 bb.out iC.out) iB.out).mono ?_; rintro e w2 ⟨rfl, aD⟩; obtain ⟨n4, n7, n8, MR, MQ⟩ := aD.nums; have Fq := aa (aD.setN ((cx.loops : Int) + 1)).1; obtain ⟨b0, b1, b2, b3⟩ := ai (cJ.out _ _ _ _ _ aD); obtain ⟨eD, eC, eB, eA⟩ := dH.out _ (bz.out _ _ _ _ _ aD); obtain ⟨gG, gB, gE, gA⟩ := fD.out _ (bz.out _ _ _ _ _ aD); have bM := aa aD; clear aD)
     |(go_at_call 115; refine (dq (nJ.out _ _ Fq.out HX.out HD.out) HM.out).mono ?_; rintro e w3 ⟨rfl, hb3⟩; skip))
    exact ⟨rfl, rfl, (bz.out _ _ _ _ _ Fq.out).trans hb3⟩
   |ok s2 =>
    have HM := aa hM
    clear hM
    go_enter Tryz.func123, Tryz.ntmps123
    go_wp2_with (first
     |(go_at_call 117; refine (cq (ji.out _ _ _ _ _ 2 bb.out iC.out) iB.out).mono ?_; rintro e w2 ⟨rfl, aD⟩; obtain ⟨n4, n7, n8, MR, MQ⟩ := aD.nums; have Fq := aa (aD.setN ((cx.loops : Int) + 1)).1; obtain ⟨b0, b1, b2, b3⟩ := ai (cJ.out _ _ _ _ _ aD); obtain ⟨eD, eC, eB, eA⟩ := dH.out _ (bz.out _ _ _ _ _ aD); obtain ⟨gG, gB, gE, gA⟩ := fD.out _ (bz.out _ _ _ _ _ aD); have bM := aa aD; clear aD)
     |(go_at_call 115; refine (cq (nJ.out _ _ Fq.out HX.out HD.out) HM.out).mono ?_; rintro e w3 ⟨rfl, bW⟩; have fH := fc.out _ _ _ _ _ bW; obtain ⟨m4, m7, m8, gr7, gr8⟩ := fH.nums; have m7' : w3.cell? ⟨K.cb, 7, none⟩ = some (.int .i64 ((cx.loops : Int) + 1)) := m7; have kG := aa (fH.setN (cx.loops : Int)).1; clear bW fH m7))
    go_end0
    exact ⟨rfl, kG.out⟩
 |clear k_1
  clear hS hE hN az aW bp aS aQ eT dE aN hk hl b6 gJ aq iY Q7
  obtain ⟨n4, n7, n8, MR, MQ⟩ := bb.out.nums
  have Fq := aa (bb.out.setN ((cx.loops : Int) + 1)).1
  cases hM : within [] ((bY K.F (T.kids 0)).sts ⟨cx.ret, cx.loops + 1, cx.outs + 1⟩) (ab s) with
  |error p =>
   have HM := aa hM
   clear hM
   go_enter Tryz.func123, Tryz.ntmps123
   go_wp2_with (first
    |(go_at_call 115; refine (dq (O7.out _ _ Fq.out iC.out HD0.out) HM.out).mono ?_; rintro e w3 ⟨rfl, hb3⟩; skip))
   exact ⟨rfl, rfl, (bz.out _ _ _ _ _ Fq.out).trans hb3⟩
  |ok s1 =>
   have HM := aa hM
   clear hM
   go_enter Tryz.func123, Tryz.ntmps123
   go_wp2_with (first
    |(go_at_call 115; refine (cq (O7.out _ _ Fq.out iC.out HD0.out) HM.out).mono ?_; rintro e w3 ⟨rfl, bW⟩; have fH := fc.out _ _ _ _ _ bW; obtain ⟨m4, m7, m8, gr7, gr8⟩ := fH.nums; have m7' : w3.cell? ⟨K.cb, 7, none⟩ = some (.int .i64 ((cx.loops : Int) + 1)) := m7; have kG := aa (fH.setN (cx.loops : Int)).1; clear bW fH m7))
   go_end0
   exact ⟨rfl, kG.out⟩) : G := h
theorem TP (h : G := by
 obtain ⟨g, off, cap, hv, iW, b7, aQ⟩ := cN hN.row (by omega)
 subst hv
 obtain ⟨u0, eT, dE⟩ := aQ 0 (by omega)
 simp only [Nat.zero_mul, Nat.add_zero] at eT
 have dH := aa eT
 first
 |clear k_0
  obtain ⟨u1, ed, fG⟩ := aQ 1 (by omega)
  simp only [Nat.one_mul] at ed
  have fD := aa ed
  obtain ⟨u2, iy, jH⟩ := aQ 2 (by omega)
  simp only [Nat.reduceMul] at iy
  have mU := aa iy
  have k_0 := kk
  exact bU8
 |clear k_1
  first
  |clear k_0
   obtain ⟨u1, ed, fG⟩ := aQ 1 (by omega)
   simp only [Nat.one_mul] at ed
   have fD := aa ed
   have k_1 := kk
   exact bU8
  |clear k_1
   have k_1 := kk
   exact TT) : G := h
theorem Qo (bE : eO) {T : Nd} (hk : T.kind = 10) (hl : T.len = 3) (b6 : ∀ U : Nd, U.size < T.size → ew U) (K : IK) (w0 : World) (O : Nat → Prop) (s : CS) (cx : Cx) (ag : Nat) (w : World) (v : Value) (gJ : cx.outs = cx.loops + ag) (hS : IS K w0 O (ab s) cx.ret cx.loops ag w) (hE : IEnv K w) (hN : INd K w T v) (aq : s.2.length + T.size ≤ K.N) (aN : T.sOk = true) (bh : s.1 ≠ []) (hd : s.1.length + 1 ≤ s.2.length) (dI : cx.loops + T.size ≤ 1099511627776) (dP : ag + T.size ≤ 1099511627776) :
  Calls Tryz.prog 122 #[.pointer (some ⟨K.cb, 0, none⟩), T.val v] w (kJ K w (CR.bind (aC (bL K.F (T.kids 0)) 2 (ab s)) fun s1 => CR.bind (within [] ((bY K.F (T.kids 1)).sts cx) s1) ((bY K.F (T.kids 2)).st cx)) fun s1 e w1 => e = .returned (.tuple #[]) ∧ IS K w0 O s1 cx.ret cx.loops ag w1) := by
 obtain ⟨_, cX, ⟨hb1, yO⟩, h2⟩ := pA hk aN
 have ho2 := (h2 hl).2
 have Od := aa gJ
 have k_0 := kk
 exact TP
theorem Hp (bE : eO) {T : Nd} (hk : T.kind = 11) (hl : T.len = 1) (iY : (T.kids 0).kind = 4) (Q7 : (T.kids 0).sOk = true) (b6 : ∀ U : Nd, U.size < T.size → ew U) (K : IK) (w0 : World) (O : Nat → Prop) (s : CS) (cx : Cx) (ag : Nat) (w : World) (v : Value) (gJ : cx.outs = cx.loops + ag) (hS : IS K w0 O (ab s) cx.ret cx.loops ag w) (hE : IEnv K w) (hN : INd K w T v) (aq : s.2.length + T.size ≤ K.N) (aN : T.sOk = true) (bh : s.1 ≠ []) (hd : s.1.length + 1 ≤ s.2.length) (dI : cx.loops + T.size ≤ 1099511627776) (dP : ag + T.size ≤ 1099511627776) :
  Calls Tryz.prog 123 #[.pointer (some ⟨K.cb, 0, none⟩), T.val v] w (kJ K w (within [] ((bY K.F (T.kids 0)).sts ⟨cx.ret, cx.loops + 1, cx.outs + 1⟩) (ab s)) fun s1 e w1 => e = .returned (.tuple #[]) ∧ IS K w0 O s1 cx.ret cx.loops ag w1) := by
 have k_1 := kk
 exact TU
theorem Ho (bE : eO) {T : Nd} (hk : T.kind = 11) (hl : T.len = 2) (cX : (T.kids 0).eOk = true) (hb1 : (T.kids 1).kind = 4) (yO : (T.kids 1).sOk = true) (b6 : ∀ U : Nd, U.size < T.size → ew U) (K : IK) (w0 : World) (O : Nat → Prop) (s : CS) (cx : Cx) (ag : Nat) (w : World) (v : Value) (gJ : cx.outs = cx.loops + ag) (hS : IS K w0 O (ab s) cx.ret cx.loops ag w) (hE : IEnv K w) (hN : INd K w T v) (aq : s.2.length + T.size ≤ K.N) (aN : T.sOk = true) (bh : s.1 ≠ []) (hd : s.1.length + 1 ≤ s.2.length) (dI : cx.loops + T.size ≤ 1099511627776) (dP : ag + T.size ≤ 1099511627776) :
  Calls Tryz.prog 123 #[.pointer (some ⟨K.cb, 0, none⟩), T.val v] w (kJ K w (CR.bind (aC (bL K.F (T.kids 0)) 2 (ab s)) fun s1 => within [] ((bY K.F (T.kids 1)).sts ⟨cx.ret, cx.loops + 1, cx.outs + 1⟩) s1) fun s1 e w1 => e = .returned (.tuple #[]) ∧ IS K w0 O s1 cx.ret cx.loops ag w1) := by
 have k_0 := kk
 exact TU
theorem LY {T : Nd} (hk : T.kind = 12) (K : IK) (w0 : World) (O : Nat → Prop) (s : CS) (cx : Cx) (ag : Nat) (w : World) (v : Value) (p : Nat) (hS : IS K w0 O s cx.ret cx.loops ag w) (hN : INd K w T v) (hl : T.len = 0 ∨ T.len = 1) (sY : decide (0 < T.len) ≠ decide (cx.ret ≠ 0)) :
  Calls Tryz.prog 124 #[.pointer (some ⟨K.cb, 0, none⟩), T.val v, .int .i64 p] w fun e w1 => e = .panicked [{ v := q9 (9, p), recovered := false }] ∧ Below K.lo w w1 := by
 obtain ⟨a, cap, hv, b7, hq⟩ := ar.1 hN.row
 subst hv
 obtain ⟨n4, n7, n8, MR, MQ⟩ := (hS.alloc (.cells #[.int .i64 T.kind, .int .i64 T.num, .string T.name, .slice a T.len cap] 25)).nums
 have HB := aa (hS.box (.cells #[.int .i64 T.kind, .int .i64 T.num, .string T.name, .slice a T.len cap] 25))
 have hn := T.fine_len hN.fine
 have fe : K.lo ≤ w.heap.size := by have := hS.lt; have := hS.ok.cl; omega
 unfold Nd.val
 have Ke : (T.len = 1 ∧ cx.ret = 0) ∨ (T.len = 0 ∧ cx.ret ≠ 0) := by
  rcases hl with h | h
  ·rw [h] at sY; right; refine ⟨h, fun e => sY ?_⟩; rw [e]; rfl
  ·rw [h] at sY; left; refine ⟨h, Classical.byContradiction fun e => sY ?_⟩
   rw [decide_eq_true (show 0 < 1 by omega), decide_eq_true e]
 clear hS hN hq hl sY hk
 rcases Ke with ⟨h1, h2⟩ | ⟨h1, h2⟩
 ·have e1 : ((T.len : Int) == 1) = true := beq_iff_eq.2 (by omega)
  have e2 : (cx.ret == 0) = true := beq_iff_eq.2 h2
  have e3 : (cx.ret != 0) = false := by simp only [bne, e2]; rfl
  exact bU5
 ·have e1 : ((T.len : Int) == 1) = false := bn (by omega)
  have e2 : (cx.ret == 0) = false := bn h2
  have e3 : (cx.ret != 0) = true := by simp only [bne, e2]; rfl
  exact bU5
theorem LX (bE : eO) {T : Nd} (hk : T.kind = 12) (K : IK) (w0 : World) (O : Nat → Prop) (s : CS) (cx : Cx) (ag : Nat) (w : World) (v : Value) (p : Nat) (hS : IS K w0 O (ab s) cx.ret cx.loops ag w) (hE : IEnv K w) (hN : INd K w T v) (aq : s.2.length + T.size ≤ K.N) (he : ∀ i, i < T.len → (T.kids i).eOk = true) (Ke : (T.len = 1 ∧ cx.ret ≠ 0) ∨ (T.len = 0 ∧ cx.ret = 0)) :
  Calls Tryz.prog 124 #[.pointer (some ⟨K.cb, 0, none⟩), T.val v, .int .i64 p] w (kJ K w (forN (fun i => aC (bL K.F (T.kids i)) cx.ret) T.len (ab s)) fun s1 e w1 => e = .returned (.tuple #[]) ∧ IS K w0 O s1 cx.ret cx.loops ag w1) := by
 have k_0 := kk
 exact TS
theorem Qi (bE : eO) {T : Nd} (hk : T.kind = 7) : ew T := by
 intro K w0 O s cx ag w v gJ hS hE hN aq aN bh hd dI dP
 have bS : 0 < T.size := by rw [T.size_eq]; omega
 have aM : (bY K.F T).st cx s = (if look s.1 T.name = 0 then .error (5, s.2.length) else if look s.1 T.name = 1 then .ok (ab s) else .error (7, s.2.length) : CR CS) := by
  rw [bT K.F (by omega)]
  unfold stM
  iterate 3 rw [if_neg (by omega)]
  rw [if_pos hk]
 have k_0 := kk
 exact bU9
theorem Hn (bE : eO) {T : Nd} (hk : T.kind = 10) (hl : T.len = 2) (b6 : ∀ U : Nd, U.size < T.size → ew U) : ew T := by
 intro K w0 O s cx ag w v gJ hS hE hN aq aN bh hd dI dP
 have bS : 0 < T.size := by rw [T.size_eq]; omega
 have hb1 := (pA hk aN).2.2.1.1
 have aM : (bY K.F T).st cx s = CR.bind (aC (bL K.F (T.kids 0)) 2 (ab s)) fun s1 => within [] ((bY K.F (T.kids 1)).sts cx) s1 := by
  rw [bT K.F (by omega)]
  unfold stM
  rw [if_neg (by omega), if_neg (by omega), if_neg (by omega), if_neg (by omega), if_neg (by omega), if_neg (by omega), if_pos hk]; rw [hl]; show CR.bind _ (fun s1 => (bY K.F (T.kids 1)).st cx s1) = _; congr 1; funext s1; exact px hb1
 have k_1 := kk
 exact bU9
theorem Hm (bE : eO) {T : Nd} (hk : T.kind = 10) (hl : T.len = 3) (b6 : ∀ U : Nd, U.size < T.size → ew U) : ew T := by
 intro K w0 O s cx ag w v gJ hS hE hN aq aN bh hd dI dP
 have bS : 0 < T.size := by rw [T.size_eq]; omega
 have hb1 := (pA hk aN).2.2.1.1
 have aM : (bY K.F T).st cx s = CR.bind (aC (bL K.F (T.kids 0)) 2 (ab s)) fun s1 => CR.bind (within [] ((bY K.F (T.kids 1)).sts cx) s1) ((bY K.F (T.kids 2)).st cx) := by
  rw [bT K.F (by omega)]
  unfold stM
  iterate 6 rw [if_neg (by omega)]
  rw [if_pos hk]; rw [hl]; show CR.bind _ (fun s1 => CR.bind ((bY K.F (T.kids 1)).st cx s1) ((bY K.F (T.kids 2)).st cx)) = _; congr 1; funext s1; rw [px hb1]
 have k_2 := kk
 exact bU9
theorem Hl (bE : eO) {T : Nd} (hk : T.kind = 11) (hl : T.len = 1) (iY : (T.kids 0).kind = 4) (Q7 : (T.kids 0).sOk = true) (b6 : ∀ U : Nd, U.size < T.size → ew U) : ew T := by
 intro K w0 O s cx ag w v gJ hS hE hN aq aN bh hd dI dP
 have bS : 0 < T.size := by rw [T.size_eq]; omega
 have aM : (bY K.F T).st cx s = within [] ((bY K.F (T.kids 0)).sts ⟨cx.ret, cx.loops + 1, cx.outs + 1⟩) (ab s) := by
  rw [bT K.F (by omega)]
  unfold stM
  rw [if_neg (by omega), if_neg (by omega), if_neg (by omega), if_neg (by omega), if_neg (by omega), if_neg (by omega), if_neg (by omega), if_pos hk]; rw [hl]; exact px iY
 have k_3 := kk
 exact bU9
theorem Hk (bE : eO) {T : Nd} (hk : T.kind = 11) (hl : T.len = 2) (cX : (T.kids 0).eOk = true) (hb1 : (T.kids 1).kind = 4) (yO : (T.kids 1).sOk = true) (b6 : ∀ U : Nd, U.size < T.size → ew U) : ew T := by
 intro K w0 O s cx ag w v gJ hS hE hN aq aN bh hd dI dP
 have bS : 0 < T.size := by rw [T.size_eq]; omega
 have aM : (bY K.F T).st cx s = CR.bind (aC (bL K.F (T.kids 0)) 2 (ab s)) fun s1 => within [] ((bY K.F (T.kids 1)).sts ⟨cx.ret, cx.loops + 1, cx.outs + 1⟩) s1 := by
  rw [bT K.F (by omega)]
  unfold stM
  rw [if_neg (by omega), if_neg (by omega), if_neg (by omega), if_neg (by omega), if_neg (by omega), if_neg (by omega), if_neg (by omega), if_pos hk]; rw [hl]; show CR.bind _ (fun s1 => (bY K.F (T.kids 1)).st _ s1) = _; congr 1; funext s1; exact px hb1
 have k_4 := kk
 exact bU9
theorem LR (bE : eO) {T : Nd} (hk : T.kind = 15) (b6 : ∀ U : Nd, U.size < T.size → ew U) : ew T := by
 intro K w0 O s cx ag w v gJ hS hE hN aq aN bh hd dI dP
 have bS : 0 < T.size := by rw [T.size_eq]; omega
 have aM : (bY K.F T).st cx s = re K.F T ⟨cx.ret, cx.loops, cx.outs + 1⟩ (ab s) T.len := by
  rw [bT K.F (by omega)]
  unfold stM
  rw [if_neg (by omega), if_neg (by omega), if_neg (by omega), if_neg (by omega), if_neg (by omega), if_neg (by omega), if_neg (by omega), if_neg (by omega), if_neg (by omega), if_pos hk]; rfl
 have k_5 := kk
 exact bU9
theorem LP (bE : eO) {T : Nd} (hk : T.kind = 18) : ew T := by
 intro K w0 O s cx ag w v gJ hS hE hN aq aN bh hd dI dP
 have bS : 0 < T.size := by rw [T.size_eq]; omega
 have aM : (bY K.F T).st cx s = (if cx.loops = 0 then .error (10, s.2.length) else .ok (ab s) : CR CS) := by
  rw [bT K.F (by omega)]
  unfold stM
  iterate 11 rw [if_neg (by omega)]
  rw [if_pos hk]
 have k_6 := kk
 exact bU9
theorem LQ (bE : eO) {T : Nd} (hk : T.kind = 17) : ew T := by
 intro K w0 O s cx ag w v gJ hS hE hN aq aN bh hd dI dP
 have bS : 0 < T.size := by rw [T.size_eq]; omega
 have aM : (bY K.F T).st cx s = (if cx.outs = 0 then .error (10, s.2.length) else .ok (ab s) : CR CS) := by
  rw [bT K.F (by omega)]
  unfold stM
  iterate 10 rw [if_neg (by omega)]
  rw [if_pos hk]
 have k_7 := kk
 exact bU9
theorem LW (bE : eO) {T : Nd} (hk : T.kind = 12) : ew T := by
 intro K w0 O s cx ag w v gJ hS hE hN aq aN bh hd dI dP
 have bS : 0 < T.size := by rw [T.size_eq]; omega
 have QV := CU hk aN
 have aM : (bY K.F T).st cx s = (if decide (0 < T.len) = decide (cx.ret ≠ 0) then (if 0 < T.len then aC (bL K.F (T.kids 0)) cx.ret (ab s) else .ok (ab s)) else .error (9, s.2.length) : CR CS) := by
  rw [bT K.F (by omega)]
  unfold stM
  iterate 8 rw [if_neg (by omega)]
  rw [if_pos hk]
 have k_8 := kk
 exact bU9
end Go.Proofs.YteaocammohcgoaaGreatDoor
