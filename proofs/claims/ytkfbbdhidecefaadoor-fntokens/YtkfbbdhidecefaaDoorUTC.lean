import Derived.Test.YtkfbbdhidecefaaDoorUTB
import Derived.StillTailTactics
set_option linter.unusedVariables false
set_option maxHeartbeats 16000000
set_option maxRecDepth 100000
namespace Go.Proofs.YtkfbbdhidecefaaDoor
open Go.RowKit
variable {G : Prop}
theorem bh0 (h : G := by
 have k_h7_1 := kk
 exact bh7) : G := h
theorem bh1 (h : G := by
 go_wp2_with (first
  |(go_at_call 22; refine (HP.out.add _ (by have := HB.out; simp [aV, bI] at this ⊢; omega)).mono ?_; rintro e w2 ⟨rfl, hp⟩; obtain ⟨b0, b1, b2, b3⟩ := HN.out _ _ hp; obtain ⟨ja, iZ, iY, iX⟩ := gY.out _ _ hp; obtain ⟨om, oe, oj, oc⟩ := mI.out _ _ hp; have HP := aa hp; clear hp)
  |(go_at_call_of 81 u0; refine (HP.out.expr tS.out 1 u0 tD.out sV.out tE.out (by decide) (by have := HB.out; simp [aV, bI] at this ⊢; omega)).mono ?_; rintro e w2 ⟨rfl, hp⟩; obtain ⟨b0, b1, b2, b3⟩ := HN.out _ _ hp; obtain ⟨ja, iZ, iY, iX⟩ := gY.out _ _ hp; obtain ⟨om, oe, oj, oc⟩ := mI.out _ _ hp; have HP := aa hp; clear hp)
  |(go_at_call_of 24 u1; refine (HP.out.block pq.out d u1 II.out C5.out gh.out (by have := HB.out; simp [aV, bI] at this ⊢; omega)).mono ?_; rintro e w2 ⟨rfl, hp⟩; obtain ⟨b0, b1, b2, b3⟩ := HN.out _ _ hp; obtain ⟨ja, iZ, iY, iX⟩ := gY.out _ _ hp; obtain ⟨om, oe, oj, oc⟩ := mI.out _ _ hp; have HP := aa hp; clear hp))
 go_end0
 exact HP.out.addsB (by simp [aV])) : G := h
theorem bh2 (h : G := by
 have k_h3_2 := kk
 exact bh3) : G := h
theorem bh3 (h : G := by
 have pq := aa (pS (T.kids 1) N4)
 have gh := aa (nL k1.1 k1.2)
 have k_h4_1 := kk
 exact bh4) : G := h
theorem bh4 (h : G := by
 have k_h8_0 := kk
 exact bh8) : G := h
theorem bh5 (h : G := by
 have k_h9_0 := kk
 exact bh9) : G := h
theorem bh6 (h : G := by
 go_wp2_with (first
  |(go_at_call 22; refine (HP.out.add _ (by have := HB.out; simp at this ⊢; omega)).mono ?_; rintro e w2 ⟨rfl, hp⟩; obtain ⟨b0, b1, b2, b3⟩ := HN.out _ _ hp; have HP := aa hp; clear hp))
 first
 |clear k_h6_0
  go_end0
  exact HP.out.addsB (by simp)
 |clear k_h6_1
  go_loopw [6] (fun i wr => ∃ j : Nat, j ≤ T.len ∧ i = .int .i64 j ∧ Hid (Pst ob own (w.alloc (.cells #[.int .i64 15, .int .i64 tn, .string ts, .slice a T.len cap] 27)) (X ++ [115, 101, 108, 101, 99, 116, 32, 123, 10] ++ aX F j) wr)) (fun i _ => T.len - (intOf i).toNat)
  case atStart => exact ⟨0, by omega, rfl, aa (by simpa [aX] using HP.out)⟩
  case round =>
   obtain ⟨j, hj, rfl, HP⟩ := hrel
   obtain ⟨b0, b1, b2, b3⟩ := HN.out _ _ HP.out
   by_cases bm : j < T.len
   ·obtain ⟨g, off, ph, hv, hg, bQ, hk⟩ := nt HR.out (by omega)
    obtain ⟨rfl, rfl⟩ : a = some ⟨g, off, none⟩ ∧ cap = ph := by injection hv with e1 e2 e3; exact ⟨e1, e3⟩
    obtain ⟨u, hc, Eh⟩ := hk j bm
    have sf := PH.out j bm
    have Ot := HE.out j bm
    obtain ⟨St, h3, yG, te⟩ := xx Ot
    have hL : (T.kids j).len = 1 ∨ (T.kids j).len = 2 ∨ (T.kids j).len = 3 := by rcases h3 with h | h | h <;> omega
    have Qu := aa (HI.out j bm ((T.kids j).len - 1) (by omega))
    have On := Nd.fine_kid HF.out bm
    have vR := aa On
    have HFG := aa (Nd.fine_kid On (i := (T.kids j).len - 1) (by omega))
    have sU := aa (nL yG te)
    have HCJ := aa (OK _ Ot)
    have tC : Hid (F j = bI d ++ (cw (T.kids j).num (T.kids j).name.data.toList (fun i => aO ((T.kids j).kids i)) ++ ([58, 10] ++ (aO ((T.kids j).kids ((T.kids j).len - 1))).sts (d + 1)))) := by
     rw [← EK.out]; exact yt _ St d
    have zQ : (aX F j).length + (d + ((cw (T.kids j).num (T.kids j).name.data.toList (fun i => aO ((T.kids j).kids i))).length + (2 + ((aO ((T.kids j).kids ((T.kids j).len - 1))).sts (d + 1)).length))) ≤ (aX F T.len).length := by
     rw [tC.out] at sf; simp only [List.length_append, bI, List.length_replicate, List.length_cons, List.length_nil] at sf; omega
    have HX : Hid (aX F (j + 1) = aX F j ++ F j) := rfl
    rw [tC.out] at HX
    obtain ⟨g2, D6, Ih, rfl, hg2, _, oT⟩ := nt Eh (by omega)
    obtain ⟨u2, oC, GK⟩ := oT ((T.kids j).len - 1) (by omega)
    have HC := aa hc
    have xA := aa oC
    have Qo := aa Eh
    have HRG := aa GK
    clear hk hc Eh sf hv bQ oT oC GK Ot St h3 yG te On tC
    generalize T.kids j = K at *
    generalize SR : cw K.num K.name.data.toList (fun i => aO (K.kids i)) = CT at *
    have HCT := aa SR
    clear SR
    have HCV : Hid (∀ Y W, Pst ob own (w.alloc (.cells #[.int .i64 15, .int .i64 tn, .string ts, .slice (some ⟨g, off, none⟩) T.len cap] 27)) Y W → Y.length + CT.length ≤ 1099511627776 → Calls Tryd.prog 83 #[.pointer (some ⟨ob, 0, none⟩), .agg #[.int .i64 K.kind, .int .i64 K.num, .string K.name, .slice (some ⟨g2, D6, none⟩) K.len Ih]] W fun e w' => e = .returned (.tuple #[]) ∧ Pst ob own (w.alloc (.cells #[.int .i64 15, .int .i64 tn, .string ts, .slice (some ⟨g, off, none⟩) T.len cap] 27)) (Y ++ CT) w') := by
     intro Y W h hb
     rw [← HCT.out] at hb ⊢
     exact h.clause HCJ.out _ vR.out Qo.out hb
    clear HCT HCJ
    generalize K.kids (K.len - 1) = G at *
    generalize K.len = L at *
    have hw0 : IntKind.i64.wrap 0 = 0 := rfl
    have yg : IntKind.i64.wrap 1 = 1 := rfl
    have IV : IntKind.i64.wrap 2 = 2 := rfl
    have Kn : IntKind.i64.wrap ((d : Int) + 1) = (d : Int) + 1 := by simp [IntKind.wrap, IntKind.bits, IntKind.signed]; omega
    rcases hL with rfl | rfl | rfl
    all_goals simp only [Nat.reduceSub, Nat.zero_mul, Nat.add_zero, Nat.one_mul, Nat.reduceMul] at xA
    all_goals go_wp2_with (first
     |(go_at_call 45; refine (HP.out.tabs d (by have := HB.out; simp at this ⊢; omega)).mono ?_; rintro e w2 ⟨rfl, hp⟩; obtain ⟨b0, b1, b2, b3⟩ := HN.out _ _ hp; obtain ⟨c0, c1, c2, c3⟩ := HC.out _ hp.below; obtain ⟨d0, d1, d2, d3⟩ := xA.out _ hp.below; have HP := aa hp; clear hp)
     |(go_at_call 22; refine (HP.out.add _ (by have := HB.out; simp [bI] at this ⊢; omega)).mono ?_; rintro e w2 ⟨rfl, hp⟩; obtain ⟨b0, b1, b2, b3⟩ := HN.out _ _ hp; obtain ⟨c0, c1, c2, c3⟩ := HC.out _ hp.below; obtain ⟨d0, d1, d2, d3⟩ := xA.out _ hp.below; have HP := aa hp; clear hp)
     |(go_at_call 83; refine (HCV.out _ _ HP.out (by have := HB.out; simp [bI] at this ⊢; omega)).mono ?_; rintro e w2 ⟨rfl, hp⟩; obtain ⟨b0, b1, b2, b3⟩ := HN.out _ _ hp; obtain ⟨c0, c1, c2, c3⟩ := HC.out _ hp.below; obtain ⟨d0, d1, d2, d3⟩ := xA.out _ hp.below; have HP := aa hp; clear hp))
    all_goals refine wp_region_still_tail 19 (by kernel_rfl) (by kernel_rfl) ?_
    all_goals change wpStill _ _ (World.drew _) (fun a' => wpList _ _ _ _ a' (World.drew _)) _ _
    all_goals simp only [List.take_succ_cons, List.take_zero, List.drop_succ_cons, List.drop_zero]
    all_goals repeat still_step
    all_goals refine wpStill_nil ?_
    all_goals go_wp2_with (go_at_call 44; refine (HP.out.drew.sts Qu.out (d + 1) u2 HFG.out HRG.out sU.out (by have := HB.out; simp [bI] at this ⊢; omega)).mono ?_; rintro e w2 ⟨rfl, hp⟩; obtain ⟨b0, b1, b2, b3⟩ := HN.out _ _ hp; have HP := aa hp; clear hp)
    all_goals exact ⟨⟨j + 1, by omega, by go_num, aa (by rw [HX.out]; simpa using HP.out)⟩, by simp [intOf]; omega⟩
   ·obtain rfl : j = T.len := by omega
    go_wp2_with (first
     |(go_at_call 45; refine (HP.out.tabs d (by have := HB.out; simp [bI] at this ⊢; omega)).mono ?_; rintro e w2 ⟨rfl, hp⟩; have HP := aa hp; clear hp)
     |(go_at_call 22; refine (HP.out.add _ (by have := HB.out; simp [bI] at this ⊢; omega)).mono ?_; rintro e w2 ⟨rfl, hp⟩; have HP := aa hp; clear hp))
    go_end0
    exact HP.out.addsB (by simp)) : G := h
theorem bh7 (h : G := by
 have k_h8_1 := kk
 exact bh8) : G := h
theorem bh8 (h : G := by
 obtain ⟨g, off, cap, rfl, hg, bQ, bz⟩ := nt hr (by omega)
 obtain ⟨u0, iW, gV⟩ := bz 0 (by omega)
 simp only [Nat.zero_mul, Nat.add_zero] at iW
 have mj : 0 < T.len := by omega
 first
 |clear k_h8_0
  obtain ⟨u1, iQ, mi⟩ := bz 1 (by omega)
  simp only [Nat.one_mul] at iQ
  have qV : 1 < T.len := by omega
  first
  |clear k_h4_0
   have cG : T.val (.slice (some ⟨g, off, none⟩) T.len cap) = .agg #[.int .i64 16, .int .i64 2, .string T.name, .slice (some ⟨g, off, none⟩) 3 cap] := by unfold Nd.val; rw [hk, lY, h0]
   rw [cG]
   have HP := aa (Pst.startB ai (.cells #[.int .i64 16, .int .i64 2, .string T.name, .slice (some ⟨g, off, none⟩) 3 cap] 27))
   have HN := aa (Pst.node ai (.int .i64 16) (.int .i64 2) (.string T.name) (.slice (some ⟨g, off, none⟩) 3 cap) 27)
   have gY := aa (fun Y W (h : Pst ob own (w.alloc (.cells #[.int .i64 16, .int .i64 2, .string T.name, .slice (some ⟨g, off, none⟩) 3 cap] 27)) Y W) => iW W (h.belowB ai))
   have sV := aa (aK ai gV (.cells #[.int .i64 16, .int .i64 2, .string T.name, .slice (some ⟨g, off, none⟩) 3 cap] 27))
   have tS := aa (lC (T.kids 0))
   have tD := aa (Nd.fine_kid hf mj)
   have tE := aa si
   have mI := aa (fun Y W (h : Pst ob own (w.alloc (.cells #[.int .i64 16, .int .i64 2, .string T.name, .slice (some ⟨g, off, none⟩) 3 cap] 27)) Y W) => iQ W (h.belowB ai))
   have C5 := aa (aK ai mi (.cells #[.int .i64 16, .int .i64 2, .string T.name, .slice (some ⟨g, off, none⟩) 3 cap] 27))
   have M9 := aa (lC (T.kids 1))
   have II := aa (Nd.fine_kid hf qV)
   have Ar := aa KJ
   have HB := aa hb
   clear hb hr hf ai hk cG lY h0 GG iW gV si mj iQ mi KJ qV bz bQ
   have k_h9_1 := kk
   exact bh9
  |clear k_h4_1
   first
   |clear k_h3_0
    have cG : T.val (.slice (some ⟨g, off, none⟩) T.len cap) = .agg #[.int .i64 10, .int .i64 T.num, .string T.name, .slice (some ⟨g, off, none⟩) 2 cap] := by unfold Nd.val; rw [hk, h0]
    rw [cG]
    have HP := aa (Pst.startB ai (.cells #[.int .i64 10, .int .i64 T.num, .string T.name, .slice (some ⟨g, off, none⟩) 2 cap] 27))
    have HN := aa (Pst.node ai (.int .i64 10) (.int .i64 T.num) (.string T.name) (.slice (some ⟨g, off, none⟩) 2 cap) 27)
    have gY := aa (fun Y W (h : Pst ob own (w.alloc (.cells #[.int .i64 10, .int .i64 T.num, .string T.name, .slice (some ⟨g, off, none⟩) 2 cap] 27)) Y W) => iW W (h.belowB ai))
    have sV := aa (aK ai gV (.cells #[.int .i64 10, .int .i64 T.num, .string T.name, .slice (some ⟨g, off, none⟩) 2 cap] 27))
    have tS := aa (lC (T.kids 0))
    have tD := aa (Nd.fine_kid hf mj)
    have mI := aa (fun Y W (h : Pst ob own (w.alloc (.cells #[.int .i64 10, .int .i64 T.num, .string T.name, .slice (some ⟨g, off, none⟩) 2 cap] 27)) Y W) => iQ W (h.belowB ai))
    have C5 := aa (aK ai mi (.cells #[.int .i64 10, .int .i64 T.num, .string T.name, .slice (some ⟨g, off, none⟩) 2 cap] 27))
    have M9 := aa (lC (T.kids 1))
    have II := aa (Nd.fine_kid hf qV)
    have HB := aa hb
    clear si k1 N4 mj qV h0 hb hr hf ax ai hk cG iW gV iQ mi bz bQ
    have k_h5_1 := kk
    exact bh5
   |clear k_h3_1
    have cG : T.val (.slice (some ⟨g, off, none⟩) T.len cap) = .agg #[.int .i64 11, .int .i64 T.num, .string T.name, .slice (some ⟨g, off, none⟩) 2 cap] := by unfold Nd.val; rw [hk, h0]
    rw [cG]
    have HP := aa (Pst.startB ai (.cells #[.int .i64 11, .int .i64 T.num, .string T.name, .slice (some ⟨g, off, none⟩) 2 cap] 27))
    have HN := aa (Pst.node ai (.int .i64 11) (.int .i64 T.num) (.string T.name) (.slice (some ⟨g, off, none⟩) 2 cap) 27)
    have gY := aa (fun Y W (h : Pst ob own (w.alloc (.cells #[.int .i64 11, .int .i64 T.num, .string T.name, .slice (some ⟨g, off, none⟩) 2 cap] 27)) Y W) => iW W (h.belowB ai))
    have sV := aa (aK ai gV (.cells #[.int .i64 11, .int .i64 T.num, .string T.name, .slice (some ⟨g, off, none⟩) 2 cap] 27))
    have tS := aa (lC (T.kids 0))
    have tD := aa (Nd.fine_kid hf mj)
    have mI := aa (fun Y W (h : Pst ob own (w.alloc (.cells #[.int .i64 11, .int .i64 T.num, .string T.name, .slice (some ⟨g, off, none⟩) 2 cap] 27)) Y W) => iQ W (h.belowB ai))
    have C5 := aa (aK ai mi (.cells #[.int .i64 11, .int .i64 T.num, .string T.name, .slice (some ⟨g, off, none⟩) 2 cap] 27))
    have M9 := aa (lC (T.kids 1))
    have II := aa (Nd.fine_kid hf qV)
    have HB := aa hb
    clear k0 k1 N4 mj qV h0 hb hr hf ax ai hk cG iW gV iQ mi bz bQ
    have k_h5_0 := kk
    exact bh5
   |clear k_h3_2
    obtain ⟨u2, oC, vV⟩ := bz 2 (by omega)
    simp only [Nat.reduceMul] at oC
    have pg : 2 < T.len := by omega
    have cG : T.val (.slice (some ⟨g, off, none⟩) T.len cap) = .agg #[.int .i64 10, .int .i64 T.num, .string T.name, .slice (some ⟨g, off, none⟩) 3 cap] := by unfold Nd.val; rw [hk, h0]
    rw [cG]
    have HP := aa (Pst.startB ai (.cells #[.int .i64 10, .int .i64 T.num, .string T.name, .slice (some ⟨g, off, none⟩) 3 cap] 27))
    have HN := aa (Pst.node ai (.int .i64 10) (.int .i64 T.num) (.string T.name) (.slice (some ⟨g, off, none⟩) 3 cap) 27)
    have gY := aa (fun Y W (h : Pst ob own (w.alloc (.cells #[.int .i64 10, .int .i64 T.num, .string T.name, .slice (some ⟨g, off, none⟩) 3 cap] 27)) Y W) => iW W (h.belowB ai))
    have sV := aa (aK ai gV (.cells #[.int .i64 10, .int .i64 T.num, .string T.name, .slice (some ⟨g, off, none⟩) 3 cap] 27))
    have tS := aa (lC (T.kids 0))
    have tD := aa (Nd.fine_kid hf mj)
    have mI := aa (fun Y W (h : Pst ob own (w.alloc (.cells #[.int .i64 10, .int .i64 T.num, .string T.name, .slice (some ⟨g, off, none⟩) 3 cap] 27)) Y W) => iQ W (h.belowB ai))
    have C5 := aa (aK ai mi (.cells #[.int .i64 10, .int .i64 T.num, .string T.name, .slice (some ⟨g, off, none⟩) 3 cap] 27))
    have M9 := aa (lC (T.kids 1))
    have II := aa (Nd.fine_kid hf qV)
    have xA := aa (fun Y W (h : Pst ob own (w.alloc (.cells #[.int .i64 10, .int .i64 T.num, .string T.name, .slice (some ⟨g, off, none⟩) 3 cap] 27)) Y W) => oC W (h.belowB ai))
    have Qp := aa (aK ai vV (.cells #[.int .i64 10, .int .i64 T.num, .string T.name, .slice (some ⟨g, off, none⟩) 3 cap] 27))
    have HI2 := aa (lC (T.kids 2))
    have V3 := aa (Nd.fine_kid hf pg)
    have HB := aa hb
    clear si k1 k2 N4 ih2 h2 mj qV pg h0 hb hr hf ax ai hk cG iW gV iQ mi oC vV bz bQ
    obtain ⟨ja, iZ, iY, iX⟩ := gY.out _ _ HP.out
    obtain ⟨om, oe, oj, oc⟩ := mI.out _ _ HP.out
    obtain ⟨gM, EZ, EY, EX⟩ := xA.out _ _ HP.out
    generalize T.kids 0 = K0 at *
    generalize T.kids 1 = K1 at *
    generalize T.kids 2 = K2 at *
    generalize T.name = ts at *
    generalize T.num = tn at *
    go_enter Tryd.func82, Tryd.ntmps82
    first
    |clear k_h2_0
     go_wp2_with (first
      |(go_at_call 22; refine (HP.out.add _ (by have := HB.out; simp [aV, bI] at this ⊢; omega)).mono ?_; rintro e w2 ⟨rfl, hp⟩; obtain ⟨b0, b1, b2, b3⟩ := HN.out _ _ hp; obtain ⟨ja, iZ, iY, iX⟩ := gY.out _ _ hp; obtain ⟨om, oe, oj, oc⟩ := mI.out _ _ hp; obtain ⟨gM, EZ, EY, EX⟩ := xA.out _ _ hp; have HP := aa hp; clear hp)
      |(go_at_call_of 81 u0; refine (HP.out.expr tS.out 1 u0 tD.out sV.out tE.out (by decide) (by have := HB.out; simp [aV, bI] at this ⊢; omega)).mono ?_; rintro e w2 ⟨rfl, hp⟩; obtain ⟨b0, b1, b2, b3⟩ := HN.out _ _ hp; obtain ⟨ja, iZ, iY, iX⟩ := gY.out _ _ hp; obtain ⟨om, oe, oj, oc⟩ := mI.out _ _ hp; obtain ⟨gM, EZ, EY, EX⟩ := xA.out _ _ hp; have HP := aa hp; clear hp)
      |(go_at_call_of 24 u1; refine (HP.out.block pq.out d u1 II.out C5.out gh.out (by have := HB.out; simp [aV, bI] at this ⊢; omega)).mono ?_; rintro e w2 ⟨rfl, hp⟩; obtain ⟨b0, b1, b2, b3⟩ := HN.out _ _ hp; obtain ⟨ja, iZ, iY, iX⟩ := gY.out _ _ hp; obtain ⟨om, oe, oj, oc⟩ := mI.out _ _ hp; obtain ⟨gM, EZ, EY, EX⟩ := xA.out _ _ hp; have HP := aa hp; clear hp)
      |(go_at_call 82; refine (HP.out.branch HBR.out d u2 V3.out Qp.out LD.out (by have := HB.out; simp [aV, bI] at this ⊢; omega)).mono ?_; rintro e w2 ⟨rfl, hp⟩; have HP := aa hp; clear hp))
     go_end0
     exact HP.out.addsB (by simp [aV])
    |clear k_h2_1
     go_wp2_with (first
      |(go_at_call 22; refine (HP.out.add _ (by have := HB.out; simp [aV, bI] at this ⊢; omega)).mono ?_; rintro e w2 ⟨rfl, hp⟩; obtain ⟨b0, b1, b2, b3⟩ := HN.out _ _ hp; obtain ⟨ja, iZ, iY, iX⟩ := gY.out _ _ hp; obtain ⟨om, oe, oj, oc⟩ := mI.out _ _ hp; obtain ⟨gM, EZ, EY, EX⟩ := xA.out _ _ hp; have HP := aa hp; clear hp)
      |(go_at_call_of 81 u0; refine (HP.out.expr tS.out 1 u0 tD.out sV.out tE.out (by decide) (by have := HB.out; simp [aV, bI] at this ⊢; omega)).mono ?_; rintro e w2 ⟨rfl, hp⟩; obtain ⟨b0, b1, b2, b3⟩ := HN.out _ _ hp; obtain ⟨ja, iZ, iY, iX⟩ := gY.out _ _ hp; obtain ⟨om, oe, oj, oc⟩ := mI.out _ _ hp; obtain ⟨gM, EZ, EY, EX⟩ := xA.out _ _ hp; have HP := aa hp; clear hp)
      |(go_at_call_of 24 u1; refine (HP.out.block pq.out d u1 II.out C5.out gh.out (by have := HB.out; simp [aV, bI] at this ⊢; omega)).mono ?_; rintro e w2 ⟨rfl, hp⟩; obtain ⟨b0, b1, b2, b3⟩ := HN.out _ _ hp; obtain ⟨ja, iZ, iY, iX⟩ := gY.out _ _ hp; obtain ⟨om, oe, oj, oc⟩ := mI.out _ _ hp; obtain ⟨gM, EZ, EY, EX⟩ := xA.out _ _ hp; have HP := aa hp; clear hp)
      |(go_at_call_of 24 u2; refine (HP.out.block LH.out d u2 V3.out Qp.out lD.out (by have := HB.out; simp [aV, bI] at this ⊢; omega)).mono ?_; rintro e w2 ⟨rfl, hp⟩; obtain ⟨b0, b1, b2, b3⟩ := HN.out _ _ hp; obtain ⟨ja, iZ, iY, iX⟩ := gY.out _ _ hp; obtain ⟨om, oe, oj, oc⟩ := mI.out _ _ hp; obtain ⟨gM, EZ, EY, EX⟩ := xA.out _ _ hp; have HP := aa hp; clear hp))
     go_end0
     exact HP.out.addsB (by simp [aV])
 |clear k_h8_1
  first
  |clear k_h7_0
   have cG : T.val (.slice (some ⟨g, off, none⟩) T.len cap) = .agg #[.int .i64 11, .int .i64 T.num, .string T.name, .slice (some ⟨g, off, none⟩) 1 cap] := by unfold Nd.val; rw [hk, h0]
   rw [cG]
   have HP := aa (Pst.startB ai (.cells #[.int .i64 11, .int .i64 T.num, .string T.name, .slice (some ⟨g, off, none⟩) 1 cap] 27))
   have HN := aa (Pst.node ai (.int .i64 11) (.int .i64 T.num) (.string T.name) (.slice (some ⟨g, off, none⟩) 1 cap) 27)
   have gY := aa (fun Y W (h : Pst ob own (w.alloc (.cells #[.int .i64 11, .int .i64 T.num, .string T.name, .slice (some ⟨g, off, none⟩) 1 cap] 27)) Y W) => iW W (h.belowB ai))
   have sV := aa (aK ai gV (.cells #[.int .i64 11, .int .i64 T.num, .string T.name, .slice (some ⟨g, off, none⟩) 1 cap] 27))
   have tS := aa (lC (T.kids 0))
   have tD := aa (Nd.fine_kid hf mj)
   have HB := aa hb
   clear k0 ih0 mj h0 hb hr hf ax ai hk cG iW gV bz bQ
   obtain ⟨ja, iZ, iY, iX⟩ := gY.out _ _ HP.out
   generalize T.kids 0 = K0 at *
   generalize T.name = ts at *
   generalize T.num = tn at *
   go_enter Tryd.func65, Tryd.ntmps65
   go_wp2_with (first
    |(go_at_call 22; refine (HP.out.add _ (by have := HB.out; simp [aV, bI] at this ⊢; omega)).mono ?_; rintro e w2 ⟨rfl, hp⟩; obtain ⟨b0, b1, b2, b3⟩ := HN.out _ _ hp; obtain ⟨ja, iZ, iY, iX⟩ := gY.out _ _ hp; have HP := aa hp; clear hp)
    |(go_at_call_of 24 u0; refine (HP.out.block HBK0.out d u0 tD.out sV.out HS0.out (by have := HB.out; simp [aV, bI] at this ⊢; omega)).mono ?_; rintro e w2 ⟨rfl, hp⟩; obtain ⟨b0, b1, b2, b3⟩ := HN.out _ _ hp; obtain ⟨ja, iZ, iY, iX⟩ := gY.out _ _ hp; have HP := aa hp; clear hp))
   go_end0
   exact HP.out.addsB (by simp [aV])
  |clear k_h7_1
   have cG : T.val (.slice (some ⟨g, off, none⟩) T.len cap) = .agg #[.int .i64 16, .int .i64 1, .string T.name, .slice (some ⟨g, off, none⟩) 2 cap] := by unfold Nd.val; rw [hk, lY, h0]
   rw [cG]
   have HP := aa (Pst.startB ai (.cells #[.int .i64 16, .int .i64 1, .string T.name, .slice (some ⟨g, off, none⟩) 2 cap] 27))
   have HN := aa (Pst.node ai (.int .i64 16) (.int .i64 1) (.string T.name) (.slice (some ⟨g, off, none⟩) 2 cap) 27)
   have gY := aa (fun Y W (h : Pst ob own (w.alloc (.cells #[.int .i64 16, .int .i64 1, .string T.name, .slice (some ⟨g, off, none⟩) 2 cap] 27)) Y W) => iW W (h.belowB ai))
   have sV := aa (aK ai gV (.cells #[.int .i64 16, .int .i64 1, .string T.name, .slice (some ⟨g, off, none⟩) 2 cap] 27))
   have tS := aa (lC (T.kids 0))
   have tD := aa (Nd.fine_kid hf mj)
   have tE := aa si
   have HB := aa hb
   clear hb hr hf ai hk cG lY h0 GG iW gV si mj bz bQ
   obtain ⟨ja, iZ, iY, iX⟩ := gY.out _ _ HP.out
   generalize T.kids 0 = K0 at *
   generalize T.name = ts at *
   go_enter Tryd.func83, Tryd.ntmps83
   go_wp2_with (first
    |(go_at_call 22; refine (HP.out.add _ (by have := HB.out; simp at this ⊢; omega)).mono ?_; rintro e w2 ⟨rfl, hp⟩; obtain ⟨b0, b1, b2, b3⟩ := HN.out _ _ hp; obtain ⟨ja, iZ, iY, iX⟩ := gY.out _ _ hp; have HP := aa hp; clear hp)
    |(go_at_call_of 81 u0; refine (HP.out.expr tS.out 6 u0 tD.out sV.out tE.out (by decide) (by have := HB.out; simp at this ⊢; omega)).mono ?_; rintro e w2 ⟨rfl, hp⟩; obtain ⟨b0, b1, b2, b3⟩ := HN.out _ _ hp; obtain ⟨ja, iZ, iY, iX⟩ := gY.out _ _ hp; have HP := aa hp; clear hp))
   go_end0
   exact HP.out.addsB (by simp)) : G := h
theorem bh9 (h : G := by
 obtain ⟨ja, iZ, iY, iX⟩ := gY.out _ _ HP.out
 obtain ⟨om, oe, oj, oc⟩ := mI.out _ _ HP.out
 generalize T.kids 0 = K0 at *
 generalize T.kids 1 = K1 at *
 generalize T.name = ts at *
 first
 |clear k_h9_0
  generalize T.num = tn at *
  first
  |clear k_h5_0
   go_enter Tryd.func65, Tryd.ntmps65
   exact bh1
  |clear k_h5_1
   go_enter Tryd.func82, Tryd.ntmps82
   exact bh1
 |clear k_h9_1
  go_enter Tryd.func83, Tryd.ntmps83
  go_wp2_with (first
   |(go_at_call 22; refine (HP.out.add _ (by have := HB.out; simp at this ⊢; omega)).mono ?_; rintro e w2 ⟨rfl, hp⟩; obtain ⟨b0, b1, b2, b3⟩ := HN.out _ _ hp; obtain ⟨ja, iZ, iY, iX⟩ := gY.out _ _ hp; obtain ⟨om, oe, oj, oc⟩ := mI.out _ _ hp; have HP := aa hp; clear hp)
   |(go_at_call_of 81 u0; refine (HP.out.expr tS.out 1 u0 tD.out sV.out tE.out (by decide) (by have := HB.out; simp at this ⊢; omega)).mono ?_; rintro e w2 ⟨rfl, hp⟩; obtain ⟨b0, b1, b2, b3⟩ := HN.out _ _ hp; obtain ⟨ja, iZ, iY, iX⟩ := gY.out _ _ hp; obtain ⟨om, oe, oj, oc⟩ := mI.out _ _ hp; have HP := aa hp; clear hp)
   |(go_at_call_of 81 u1; refine (HP.out.expr M9.out 1 u1 II.out C5.out Ar.out (by decide) (by have := HB.out; simp at this ⊢; omega)).mono ?_; rintro e w2 ⟨rfl, hp⟩; obtain ⟨b0, b1, b2, b3⟩ := HN.out _ _ hp; obtain ⟨ja, iZ, iY, iX⟩ := gY.out _ _ hp; obtain ⟨om, oe, oj, oc⟩ := mI.out _ _ hp; have HP := aa hp; clear hp))
  go_end0
  exact HP.out.addsB (by simp)) : G := h
theorem kR (T : Nd) (hk : T.kind = 4) (d : Nat) : (aO T).st d = aV d ((aO T).sts (d + 1)) := by
 cases T with
 |nil => simp [Nd.kind] at hk
 |mk k n s len kids => obtain rfl : k = 4 := hk; rfl
theorem lz (T : Nd) (hk : T.kind = 10) (d : Nat) : (aO T).st d = [105, 102, 32] ++ ((aO (T.kids 0)).ex 1 ++ (32 :: (aV d ((aO (T.kids 1)).sts (d + 1)) ++ (if T.len = 3 then [32, 101, 108, 115, 101, 32] ++ (aO (T.kids 2)).st d else [])))) := by
 cases T with
 |nil => simp [Nd.kind] at hk
 |mk k n s len kids => obtain rfl : k = 10 := hk; rfl
theorem oN (T : Nd) (hk : T.kind = 11) (d : Nat) : (aO T).st d = [102, 111, 114, 32] ++ ((if T.len = 2 then (aO (T.kids 0)).ex 1 ++ [32] else []) ++ aV d ((aO (T.kids (T.len - 1))).sts (d + 1))) := by
 cases T with
 |nil => simp [Nd.kind] at hk
 |mk k n s len kids => obtain rfl : k = 11 := hk; rfl
theorem qM (T : Nd) (hk : T.kind = 15) (d : Nat) : (aO T).st d = [115, 101, 108, 101, 99, 116, 32, 123, 10] ++ (aX (fun i => (aO (T.kids i)).cs d) T.len ++ (bI d ++ [125])) := by
 cases T with
 |nil => simp [Nd.kind] at hk
 |mk k n s len kids => obtain rfl : k = 15 := hk; rfl
def Nf (T : Nd) : Prop := ∀ (ob : Nat) (own : Option Nat) (X : List UInt8) (d : Nat) (w : World) (v : Value), Buf ob w own X → T.Fine → Row 0 ob w T v → T.sOk = true →
 X.length + ((aO T).st d).length ≤ 1099511627776 → Calls Tryd.prog 82 #[.pointer (some ⟨ob, 0, none⟩), T.val v, .int .i64 d] w (vJ ob X ((aO T).st d) own w)
theorem Pst.branch {T : Nd} (hT : Nf T) {ob : Nat} {ah : Option Nat} {w0 w : World} {Y : List UInt8} (h : Pst ob ah w0 Y w) (d : Nat) (v : Value) (hf : T.Fine) (hr : Row 0 ob w0 T v) (ax : T.sOk = true) (hb : Y.length + ((aO T).st d).length ≤ 1099511627776) :
  Calls Tryd.prog 82 #[.pointer (some ⟨ob, 0, none⟩), T.val v, .int .i64 d] w fun e w' => e = .returned (.tuple #[]) ∧ Pst ob ah w0 (Y ++ (aO T).st d) w' :=
 h.lift fun own ai => hT ob own Y d w v ai hf (ae h.below lr hr) ax hb
structure PrC (T : Nd) : Prop where
 sm : vP T
 sts : r6 T
 br : T.kind = 10 → Nf T
 gr : ∀ i, i < T.len → r6 (T.kids i)
theorem lL {e st : Nat → Bool} {kk : Nat → Int} {len : Nat} {s : ByteArray} (h : aE e st kk len s = true) : len = s.size ∧ ∀ i, i < s.size → fU e st kk (s.data.toList.getD i 0).toNat i = true := by
 unfold aE at h
 simp only [Bool.and_eq_true, decide_eq_true_eq] at h
 exact ⟨h.1, bD.1 h.2⟩
theorem nL {T : Nd} (hk : T.kind = 4) (h : T.sOk = true) : ∀ i, i < T.len → (T.kids i).sOk = true := by
 rw [aG, hk] at h
 simp [aJ] at h
 exact bD.1 h.2
theorem nD {e st : Nat → Bool} {kk : Nat → Int} {i : Nat} (h : fU e st kk 98 i = true) : kk i = 4 ∧ st i = true := by
 simp [fU] at h; exact h
theorem H7 {e st : Nat → Bool} {kk : Nat → Int} {i : Nat} (h : fU e st kk 105 i = true) : (kk i = 4 ∨ kk i = 10) ∧ st i = true := by
 simp [fU] at h; exact h
theorem oD {e st : Nat → Bool} {kk : Nat → Int} {i : Nat} (h : fU e st kk 101 i = true) : e i = true := by
 simpa [fU] using h
theorem ov {T : Nd} (hk : T.kind = 10) (h : T.sOk = true) : (T.len = 2 ∨ T.len = 3) ∧ (T.kids 0).eOk = true ∧ ((T.kids 1).kind = 4 ∧ (T.kids 1).sOk = true) ∧ (T.len = 3 → ((T.kids 2).kind = 4 ∨ (T.kids 2).kind = 10) ∧ (T.kids 2).sOk = true) := by
 rw [aG, hk] at h
 simp only [aJ, Int.reduceEq, if_true, if_false, or_self, Bool.and_eq_true, Bool.or_eq_true] at h
 rcases h.2 with h | h
 ·obtain ⟨h1, h2⟩ := lL h
  have h1 : T.len = 2 := h1
  exact ⟨.inl h1, oD (h2 0 (by decide)), nD (h2 1 (by decide)), fun h => by omega⟩
 ·obtain ⟨h1, h2⟩ := lL h
  have h1 : T.len = 3 := h1
  exact ⟨.inr h1, oD (h2 0 (by decide)), nD (h2 1 (by decide)), fun _ => H7 (h2 2 (by decide))⟩
theorem pA {T : Nd} (hk : T.kind = 11) (h : T.sOk = true) : (T.len = 1 ∧ (T.kids 0).kind = 4 ∧ (T.kids 0).sOk = true) ∨ (T.len = 2 ∧ (T.kids 0).eOk = true ∧ ((T.kids 1).kind = 4 ∧ (T.kids 1).sOk = true)) := by
 rw [aG, hk] at h
 simp only [aJ, Int.reduceEq, if_true, if_false, or_self, Bool.and_eq_true, Bool.or_eq_true] at h
 rcases h.2 with h | h
 ·obtain ⟨h1, h2⟩ := lL h
  exact .inl ⟨h1, nD (h2 0 (by decide))⟩
 ·obtain ⟨h1, h2⟩ := lL h
  exact .inr ⟨h1, oD (h2 0 (by decide)), nD (h2 1 (by decide))⟩
theorem ux {T : Nd} (hk : T.kind = 15) (h : T.sOk = true) : ∀ i, i < T.len → (T.kids i).cOk = true := by
 rw [aG, hk] at h
 simp [aJ] at h
 exact bD.1 h.2
theorem xx {T : Nd} (h : T.cOk = true) : T.kind = 16 ∧ ((T.num = 0 ∧ T.len = 1) ∨ (T.num = 1 ∧ T.len = 2 ∧ (T.kids 0).eOk = true) ∨ (T.num = 2 ∧ T.len = 3 ∧ (T.kids 0).eOk = true ∧ (T.kids 1).eOk = true)) ∧ (T.kids (T.len - 1)).kind = 4 ∧ (T.kids (T.len - 1)).sOk = true := by
 rw [pQ] at h
 by_cases hk : T.kind = 16
 ·simp only [mE, hk, if_true, Bool.and_eq_true] at h
  have h := h.2
  by_cases h0 : T.num = 0
  ·rw [if_pos h0] at h
   obtain ⟨h1, h2⟩ := lL h
   have h1 : T.len = 1 := h1
   rw [h1]
   exact ⟨hk, .inl ⟨h0, rfl⟩, nD (h2 0 (by decide))⟩
  rw [if_neg h0] at h
  by_cases KM : T.num = 1
  ·rw [if_pos KM] at h
   obtain ⟨h1, h2⟩ := lL h
   have h1 : T.len = 2 := h1
   rw [h1]
   exact ⟨hk, .inr (.inl ⟨KM, rfl, oD (h2 0 (by decide))⟩), nD (h2 1 (by decide))⟩
  rw [if_neg KM] at h
  by_cases h02 : T.num = 2
  ·rw [if_pos h02] at h
   obtain ⟨h1, h2⟩ := lL h
   have h1 : T.len = 3 := h1
   rw [h1]
   exact ⟨hk, .inr (.inr ⟨h02, rfl, oD (h2 0 (by decide)), oD (h2 1 (by decide))⟩), nD (h2 2 (by decide))⟩
  rw [if_neg h02] at h
  cases h
 ·simp [mE, hk] at h
theorem Q8 (T : Nd) (hk : T.kind = 4) (ih : r6 T) : vP T := by
 intro ob own X d w v ai hf hr ax hb
 have hn := T.fine_len hf
 rw [kR T hk] at hb ⊢
 have hE := nL hk ax
 obtain ⟨a, cap, rfl, _⟩ := ar.1 hr
 have cG : T.val (.slice a T.len cap) = .agg #[.int .i64 4, .int .i64 T.num, .string T.name, .slice a T.len cap] := by unfold Nd.val; rw [hk]
 rw [cG]
 have HP := aa (Pst.startB ai (.cells #[.int .i64 4, .int .i64 T.num, .string T.name, .slice a T.len cap] 27))
 have HN := aa (Pst.node ai (.int .i64 4) (.int .i64 T.num) (.string T.name) (.slice a T.len cap) 27)
 have mK := aa (fun Y W (h : Pst ob own (w.alloc (.cells #[.int .i64 4, .int .i64 T.num, .string T.name, .slice a T.len cap] 27)) Y W) hb => h.block (T := T) (pS T ih) d (.slice a T.len cap) hf (aK ai hr (.cells #[.int .i64 4, .int .i64 T.num, .string T.name, .slice a T.len cap] 27)) hE hb)
 rw [cG] at mK
 have HB := aa hb
 clear hE hb hr hf ax ai hk cG
 generalize T.name = ts at *
 generalize T.num = tn at *
 go_enter Tryd.func65, Tryd.ntmps65
 go_wp2_with (first
  |(go_at_call 24; refine (mK.out _ _ HP.out HB.out).mono ?_; rintro e w2 ⟨rfl, hp⟩; have HP := aa hp; clear hp))
 go_end0
 exact HP.out.addsB rfl
theorem NR (T : Nd) (hk : T.kind = 10) (ih : Nf T) : vP T := by
 intro ob own X d w v ai hf hr ax hb
 have hn := T.fine_len hf
 rw [lz T hk] at hb ⊢
 obtain ⟨a, cap, rfl, _⟩ := ar.1 hr
 have cG : T.val (.slice a T.len cap) = .agg #[.int .i64 10, .int .i64 T.num, .string T.name, .slice a T.len cap] := by unfold Nd.val; rw [hk]
 rw [cG]
 have HP := aa (Pst.startB ai (.cells #[.int .i64 10, .int .i64 T.num, .string T.name, .slice a T.len cap] 27))
 have HN := aa (Pst.node ai (.int .i64 10) (.int .i64 T.num) (.string T.name) (.slice a T.len cap) 27)
 have HBR := aa (fun Y W (h : Pst ob own (w.alloc (.cells #[.int .i64 10, .int .i64 T.num, .string T.name, .slice a T.len cap] 27)) Y W) hb => h.branch (T := T) ih d (.slice a T.len cap) hf (aK ai hr (.cells #[.int .i64 10, .int .i64 T.num, .string T.name, .slice a T.len cap] 27)) ax hb)
 rw [cG, lz T hk] at HBR
 have HB := aa hb
 clear hb hr hf ax ai hk cG
 generalize hgen : [105, 102, 32] ++ ((aO (T.kids 0)).ex 1 ++ (32 :: (aV d ((aO (T.kids 1)).sts (d + 1)) ++ (if T.len = 3 then [32, 101, 108, 115, 101, 32] ++ (aO (T.kids 2)).st d else [])))) = txt at *
 clear hgen
 generalize T.name = ts at *
 generalize T.num = tn at *
 go_enter Tryd.func65, Tryd.ntmps65
 go_wp2_with (first
  |(go_at_call 82; refine (HBR.out _ _ HP.out HB.out).mono ?_; rintro e w2 ⟨rfl, hp⟩; have HP := aa hp; clear hp))
 go_end0
 exact HP.out.addsB rfl
theorem OP (T : Nd) (hk : T.kind = 10) (h0 : T.len = 2) (N4 : r6 (T.kids 1)) : Nf T := by
 intro ob own X d w v ai hf hr ax hb
 have hn := T.fine_len hf
 rw [lz T hk] at hb ⊢
 obtain ⟨_, si, k1, _⟩ := ov hk ax
 rw [if_neg (by omega)] at hb ⊢
 have tE := aa si
 have k_h3_0 := kk
 exact bh3
theorem OO (T : Nd) (hk : T.kind = 10) (h0 : T.len = 3) (h2 : (T.kids 2).kind = 10) (N4 : r6 (T.kids 1)) (ih2 : Nf (T.kids 2)) : Nf T := by
 intro ob own X d w v ai hf hr ax hb
 have hn := T.fine_len hf
 rw [lz T hk] at hb ⊢
 obtain ⟨_, si, k1, k2⟩ := ov hk ax
 rw [if_pos h0] at hb ⊢
 have tE := aa si
 have LD := aa (k2 h0).2
 have oT : ((T.kids 2).kind == 10) = true := by simp [h2]
 have HBR := aa ih2
 have k_h2_0 := kk
 exact bh2
theorem ON (T : Nd) (hk : T.kind = 10) (h0 : T.len = 3) (h2 : (T.kids 2).kind = 4) (N4 : r6 (T.kids 1)) (ih2 : r6 (T.kids 2)) : Nf T := by
 intro ob own X d w v ai hf hr ax hb
 have hn := T.fine_len hf
 rw [lz T hk] at hb ⊢
 obtain ⟨_, si, k1, k2⟩ := ov hk ax
 rw [if_pos h0, kR _ h2] at hb ⊢
 have tE := aa si
 have lD := aa (nL h2 (k2 h0).2)
 have oT : ((T.kids 2).kind == 10) = false := by simp [h2]
 have LH := aa (pS (T.kids 2) ih2)
 have k_h2_1 := kk
 exact bh2
theorem Ke (T : Nd) (hk : T.kind = 11) (h0 : T.len = 1) (ih0 : r6 (T.kids 0)) : vP T := by
 intro ob own X d w v ai hf hr ax hb
 have hn := T.fine_len hf
 rw [oN T hk] at hb ⊢
 have k0 : (T.kids 0).kind = 4 ∧ (T.kids 0).sOk = true := by rcases pA hk ax with h | h; exact h.2; omega
 rw [if_neg (by omega), show T.len - 1 = 0 by omega] at hb ⊢
 have HBK0 := aa (pS (T.kids 0) ih0)
 have HS0 := aa (nL k0.1 k0.2)
 have k_h7_0 := kk
 exact bh7
theorem Kd (T : Nd) (hk : T.kind = 11) (h0 : T.len = 2) (N4 : r6 (T.kids 1)) : vP T := by
 intro ob own X d w v ai hf hr ax hb
 have hn := T.fine_len hf
 rw [oN T hk] at hb ⊢
 have k0 : (T.kids 0).eOk = true ∧ ((T.kids 1).kind = 4 ∧ (T.kids 1).sOk = true) := by rcases pA hk ax with h | h; omega; exact h.2
 have k1 := k0.2
 rw [if_pos h0, show T.len - 1 = 1 by omega] at hb ⊢
 have tE := aa k0.1
 have k_h3_1 := kk
 exact bh3
def QB (T : Nd) : Prop := ∀ (ob : Nat) (own : Option Nat) (X : List UInt8) (w : World) (v : Value), Buf ob w own X → T.Fine → Row 0 ob w T v →
 X.length + (cw T.num T.name.data.toList (fun i => aO (T.kids i))).length ≤ 1099511627776 → Calls Tryd.prog 83 #[.pointer (some ⟨ob, 0, none⟩), T.val v] w (vJ ob X (cw T.num T.name.data.toList (fun i => aO (T.kids i))) own w)
theorem Pst.clause {T : Nd} (hT : QB T) {ob : Nat} {ah : Option Nat} {w0 w : World} {Y : List UInt8} (h : Pst ob ah w0 Y w) (v : Value) (hf : T.Fine) (hr : Row 0 ob w0 T v) (hb : Y.length + (cw T.num T.name.data.toList (fun i => aO (T.kids i))).length ≤ 1099511627776) :
  Calls Tryd.prog 83 #[.pointer (some ⟨ob, 0, none⟩), T.val v] w fun e w' => e = .returned (.tuple #[]) ∧ Pst ob ah w0 (Y ++ cw T.num T.name.data.toList (fun i => aO (T.kids i))) w' :=
 h.lift fun own ai => hT ob own Y w v ai hf (ae h.below lr hr) hb
theorem BN {s : ByteArray} (he : s.toList.isEmpty = true) (p : Nat → Po) : cw 1 s.data.toList p = [99, 97, 115, 101, 32] ++ ([60, 45] ++ (p 0).ex 6) := by
 have h : s.data.toList = [] := by rw [ByteArray.toList_eq] at he; simpa using he
 rw [h]; rfl
theorem BL {s : ByteArray} (he : s.toList.isEmpty = false) (p : Nat → Po) : cw 1 s.data.toList p = [99, 97, 115, 101, 32] ++ ((s.data.toList ++ [32, 58, 61, 32]) ++ ([60, 45] ++ (p 0).ex 6)) := by
 have h : ¬ s.data.toList = [] := by rw [ByteArray.toList_eq] at he; simpa using he
 unfold cw; rw [if_neg (by decide), if_pos rfl, if_neg h]
theorem cl_0 (T : Nd) (hk : T.kind = 16) (lY : T.num = 0) (h0 : T.len = 1) : QB T := by
 intro ob own X w v ai hf hr hb
 have hn := T.fine_len hf
 have GG : cw T.num T.name.data.toList (fun i => aO (T.kids i)) = [100, 101, 102, 97, 117, 108, 116] := by rw [lY]; rfl
 rw [GG] at hb ⊢
 obtain ⟨a, cap, rfl, _⟩ := ar.1 hr
 have cG : T.val (.slice a T.len cap) = .agg #[.int .i64 16, .int .i64 0, .string T.name, .slice a 1 cap] := by unfold Nd.val; rw [hk, lY, h0]
 rw [cG]
 have HP := aa (Pst.startB ai (.cells #[.int .i64 16, .int .i64 0, .string T.name, .slice a 1 cap] 27))
 have HN := aa (Pst.node ai (.int .i64 16) (.int .i64 0) (.string T.name) (.slice a 1 cap) 27)
 have HB := aa hb
 clear hb hr hf ai hk cG lY h0 GG
 generalize T.name = ts at *
 go_enter Tryd.func83, Tryd.ntmps83
 have k_h6_0 := kk
 exact bh6
theorem TJ (T : Nd) (hk : T.kind = 16) (lY : T.num = 1) (h0 : T.len = 2) (he : T.name.toList.isEmpty = true) (si : (T.kids 0).eOk = true) : QB T := by
 intro ob own X w v ai hf hr hb
 have hn := T.fine_len hf
 have GG : cw T.num T.name.data.toList (fun i => aO (T.kids i)) = [99, 97, 115, 101, 32] ++ ([60, 45] ++ (aO (T.kids 0)).ex 6) := by rw [lY]; exact BN he _
 rw [GG] at hb ⊢
 exact bh0
theorem TH (T : Nd) (hk : T.kind = 16) (lY : T.num = 1) (h0 : T.len = 2) (he : T.name.toList.isEmpty = false) (si : (T.kids 0).eOk = true) : QB T := by
 intro ob own X w v ai hf hr hb
 have hn := T.fine_len hf
 have GG : cw T.num T.name.data.toList (fun i => aO (T.kids i)) = [99, 97, 115, 101, 32] ++ ((T.name.data.toList ++ [32, 58, 61, 32]) ++ ([60, 45] ++ (aO (T.kids 0)).ex 6)) := by rw [lY]; exact BL he _
 rw [GG] at hb ⊢
 have hs : T.name.size ≤ 1099511627776 := by
  have := hb
  simp at this
  omega
 exact bh0
theorem cl_2 (T : Nd) (hk : T.kind = 16) (lY : T.num = 2) (h0 : T.len = 3) (si : (T.kids 0).eOk = true) (KJ : (T.kids 1).eOk = true) : QB T := by
 intro ob own X w v ai hf hr hb
 have hn := T.fine_len hf
 have GG : cw T.num T.name.data.toList (fun i => aO (T.kids i)) = [99, 97, 115, 101, 32] ++ ((aO (T.kids 0)).ex 1 ++ ([32, 60, 45, 32] ++ (aO (T.kids 1)).ex 1)) := by rw [lY]; rfl
 rw [GG] at hb ⊢
 have k_h4_0 := kk
 exact bh4
theorem OK (T : Nd) (h : T.cOk = true) : QB T := by
 obtain ⟨hk, h3, _⟩ := xx h
 rcases h3 with ⟨a, b⟩ | ⟨a, b, c⟩ | ⟨a, b, c, d⟩
 ·exact cl_0 T hk a b
 ·cases he : T.name.toList.isEmpty
  ·exact TH T hk a b he c
  ·exact TJ T hk a b he c
 ·exact cl_2 T hk a b c d
theorem yt (T : Nd) (hk : T.kind = 16) (d : Nat) : (aO T).cs d = bI d ++ (cw T.num T.name.data.toList (fun i => aO (T.kids i)) ++ ([58, 10] ++ (aO (T.kids (T.len - 1))).sts (d + 1))) := by
 cases T with
 |nil => simp [Nd.kind] at hk
 |mk => rfl
theorem NO (T : Nd) (hk : T.kind = 15) (ih : ∀ i, i < T.len → ∀ k, k < (T.kids i).len → r6 ((T.kids i).kids k)) : vP T := by
 intro ob own X d w v ai hf hr ax hb
 have hn := T.fine_len hf
 rw [qM T hk] at hb ⊢
 have HE := aa (ux hk ax)
 obtain ⟨a, cap, rfl, bQ, _⟩ := ar.1 hr
 have hd : d ≤ 1099511627776 := by have := hb; simp [bI] at this; omega
 unfold Nd.val
 rw [hk]
 have HP := aa (Pst.startB ai (.cells #[.int .i64 15, .int .i64 T.num, .string T.name, .slice a T.len cap] 27))
 have HN := aa (Pst.node ai (.int .i64 15) (.int .i64 T.num) (.string T.name) (.slice a T.len cap) 27)
 have HR := aa (aK ai hr (.cells #[.int .i64 15, .int .i64 T.num, .string T.name, .slice a T.len cap] 27))
 have HI := aa ih
 have HF := aa hf
 have HB := aa hb
 clear hb hr hf ai ih bQ ax hk
 generalize hF : (fun i => (aO (T.kids i)).cs d) = F at *
 have EK := aa hF
 have PH := aa (fun i (h : i < T.len) => pO F h)
 clear hF
 generalize T.name = ts at *
 generalize T.num = tn at *
 go_enter Tryd.func65, Tryd.ntmps65
 have k_h6_1 := kk
 exact bh6
theorem NS (T : Nd) : PrC T := by
 have step : ∀ T : Nd, (∀ i, i < T.len → PrC (T.kids i)) → PrC T := by
  intro T ih
  have zy : r6 T := FN T fun i hi => (ih i hi).sm
  have hbr : T.kind = 10 → Nf T := by
   intro hk ob own X d w v ai hf hr ax hb
   obtain ⟨hl, _, _, h2⟩ := ov hk ax
   rcases hl with hl | hl
   ·exact OP T hk hl (ih 1 (by omega)).sts ob own X d w v ai hf hr ax hb
   ·rcases (h2 hl).1 with h | h
    ·exact ON T hk hl h (ih 1 (by omega)).sts (ih 2 (by omega)).sts ob own X d w v ai hf hr ax hb
    ·exact OO T hk hl h (ih 1 (by omega)).sts ((ih 2 (by omega)).br h) ob own X d w v ai hf hr ax hb
  refine ⟨?_, zy, hbr, fun i hi => (ih i hi).sts⟩
  intro ob own X d w v ai hf hr ax hb
  by_cases h4 : T.kind = 4
  ·exact Q8 T h4 zy ob own X d w v ai hf hr ax hb
  by_cases h5 : T.kind = 5
  ·exact Q7 T h5 ob own X d w v ai hf hr ax hb
  by_cases h6 : T.kind = 6
  ·exact Q6 T h6 ob own X d w v ai hf hr ax hb
  by_cases h7 : T.kind = 7
  ·exact Q5 T h7 ob own X d w v ai hf hr ax hb
  by_cases h8 : T.kind = 8
  ·exact Q4 T h8 ob own X d w v ai hf hr ax hb
  by_cases h9 : T.kind = 9
  ·exact Q3 T h9 ob own X d w v ai hf hr ax hb
  by_cases lA : T.kind = 10
  ·exact NR T lA (hbr lA) ob own X d w v ai hf hr ax hb
  by_cases rM : T.kind = 11
  ·rcases pA rM ax with h | h
   ·exact Ke T rM h.1 (ih 0 (by omega)).sts ob own X d w v ai hf hr ax hb
   ·exact Kd T rM h.1 (ih 1 (by omega)).sts ob own X d w v ai hf hr ax hb
  by_cases tM : T.kind = 12
  ·by_cases h0 : T.len = 0
   ·exact Kc T tM h0 ob own X d w v ai hf hr ax hb
   ·exact Kb T tM h0 ob own X d w v ai hf hr ax hb
  by_cases CG : T.kind = 13
  ·exact NQ T CG ob own X d w v ai hf hr ax hb
  by_cases CF : T.kind = 14
  ·exact NP T CF ob own X d w v ai hf hr ax hb
  by_cases vN : T.kind = 15
  ·exact NO T vN (fun i hi => (ih i hi).gr) ob own X d w v ai hf hr ax hb
  by_cases wb : T.kind = 17
  ·exact NN T wb ob own X d w v ai hf hr ax hb
  by_cases AD : T.kind = 18
  ·exact NM T AD ob own X d w v ai hf hr ax hb
  by_cases AC : T.kind = 19
  ·exact NL T AC ob own X d w v ai hf hr ax hb
  by_cases AB : T.kind = 20
  ·exact NK T AB ob own X d w v ai hf hr ax hb
  by_cases yL : T.kind = 21
  ·exact NJ T yL ob own X d w v ai hf hr ax hb
  rw [aG] at ax
  simp [aJ, h4, h5, h6, h7, h8, h9, lA, rM, tM, CG, CF, vN, wb, AD, AC, AB, yL] at ax
 induction T with
 |nil => exact step .nil fun i hi => absurd hi (Nat.not_lt_zero _)
 |mk k n s len kids ih => exact step _ fun i _ => ih i
theorem yU (n : Int) (h0 : 0 ≤ n) (h3 : n ≤ 3) (w : World) : Calls Tryd.prog 23 #[.int .i64 n] w fun e w' => e = .returned (.string (cr (fV n))) ∧ Below w.heap.size w w' := by
 have HB : Hid (∀ o, Below w.heap.size w (w.alloc o)) := fun o => bA
 have h : n = 0 ∨ n = 1 ∨ n = 2 ∨ n = 3 := by omega
 clear h0 h3
 rcases h with rfl | rfl | rfl | rfl
 all_goals go_enter Tryd.func23, Tryd.ntmps23
 all_goals go_wp2
 all_goals go_ret
 all_goals exact ⟨rfl, HB.out _⟩
theorem Ia {ob : Nat} {W : World} {own : Option Nat} {Y : List UInt8} (h : Buf ob W own Y) : ∃ a l c, W.cell? ⟨ob, 0, none⟩ = some (.slice a l c) ∧ (convert 22 9 (.slice a l c)).run Tryd.prog W = .ok (.string (cr Y)) W := by
 obtain ⟨v, hv, ho, rfl⟩ := h
 have k0 : W.cell? ⟨ob, 0, none⟩ = some v := by simp [World.cell?, hv]
 rcases ho.2 with ⟨rfl, h0⟩ | ⟨g, cap, cur, rfl, h1, h2, h3, h4, h5, h6⟩
 ·refine ⟨none, 0, 0, k0, ?_⟩
  have : Y = [] := List.eq_nil_of_length_eq_zero h0
  subst this
  rw [run_convert_bytes_string W 22 9 5 none 0 0 Tryd.underlying22 Tryd.underlying5 Tryd.underlying9]
  simp [Conv.bytesToString]
  try rfl
 ·refine ⟨some ⟨g, 0, none⟩, Y.length, cap, k0, ?_⟩
  refine run_convert_bytes_back (P := Tryd.prog) W 22 9 5 ⟨g, 0, none⟩ cap Y Tryd.underlying22 Tryd.underlying5 Tryd.underlying9 ?_
  intro j hj
  have := ho.cells (g := g) rfl j (.int .u8 Y[j].toNat) (by simp [EN, hj])
  simpa [Addr.add] using this
theorem Pst.join {ob : Nat} {ah : Option Nat} {w0 wr : World} {Y : List UInt8} (h : Pst ob ah w0 Y wr) : ∃ own, Buf ob wr own Y ∧ ∀ Y' W o, Pst ob own (wr.alloc o) Y' W → Pst ob ah w0 Y' W := by
 obtain ⟨own, h1, h2⟩ := h.buf
 refine ⟨own, h1, fun Y' W o h' => ?_⟩
 obtain ⟨mz, h3, h4⟩ := h'.buf
 exact ⟨⟨mz, h3, h2.trans ((Wrote.alloc ob own wr o).trans h4)⟩, h.below.trans (h'.belowB h1)⟩
end Go.Proofs.YtkfbbdhidecefaaDoor
