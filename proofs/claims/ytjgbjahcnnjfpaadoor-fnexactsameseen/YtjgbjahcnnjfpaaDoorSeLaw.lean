/- The walk of the law FnExactSameSeen. -/
import Derived.Test.YtjgbjahcnnjfpaaDoorSeSz
import Derived.Test.YtjgbjahcnnjfpaaDoorSeTo2
import Derived.Test.YtjgbjahcnnjfpaaDoorSeEq2
import Derived.Test.YtjgbjahcnnjfpaaDoorSeSpec
import Derived.Test.YtjgbjahcnnjfpaaDoorSeImpl
set_option linter.unusedVariables false
namespace Go.Proofs.YtjgbjahcnnjfpaaDoor
open Go.RowKit

set_option maxHeartbeats 8000000 in
set_option maxRecDepth 100000 in
theorem law_same (s t : Sn) (va vb ua ub : Value) (w : World) (hs : s.Ok) (ht : t.Ok) (h : At 0 w.heap.size w s va vb) (h' : At 0 w.heap.size w t ua ub) (hT : Tab w) :
    Calls Tryd.prog 3 #[s.val va vb, t.val ua ub] w fun e w' => e = .returned (.bool true) ∧ Below w.heap.size w w' := by
  obtain ⟨aa, ca, rfl⟩ := h.1.shape
  obtain ⟨ab, cb, rfl⟩ := h.2.shape
  obtain ⟨ba, da, rfl⟩ := h'.1.shape
  obtain ⟨bb, db, rfl⟩ := h'.2.shape
  have B0 : Hid (Below w.heap.size w ((w.alloc (.cells #[.int .i64 s.k, .int .i64 s.c, .int .i64 s.v, .slice aa s.tr.length ca, .slice ab s.sc.length cb] 24)).alloc (.cells #[.int .i64 t.k, .int .i64 t.c, .int .i64 t.v, .slice ba t.tr.length da, .slice bb t.sc.length db] 24))) := ((Below.refl _ _).alloc (Nat.le_refl _) _).alloc (by simp) _
  have hsz : w.heap.size + 2 ≤ ((w.alloc (.cells #[.int .i64 s.k, .int .i64 s.c, .int .i64 s.v, .slice aa s.tr.length ca, .slice ab s.sc.length cb] 24)).alloc (.cells #[.int .i64 t.k, .int .i64 t.c, .int .i64 t.v, .slice ba t.tr.length da, .slice bb t.sc.length db] 24)).heap.size := by simp
  have F0 : Hid (Five ((w.alloc (.cells #[.int .i64 s.k, .int .i64 s.c, .int .i64 s.v, .slice aa s.tr.length ca, .slice ab s.sc.length cb] 24)).alloc (.cells #[.int .i64 t.k, .int .i64 t.c, .int .i64 t.v, .slice ba t.tr.length da, .slice bb t.sc.length db] 24)) w.heap.size 0 (.int .i64 s.k) (.int .i64 s.c) (.int .i64 s.v) (.slice aa s.tr.length ca) (.slice ab s.sc.length cb)) := by
    unfold Hid Five; simp [go_sem]
  have G0 : Hid (Five ((w.alloc (.cells #[.int .i64 s.k, .int .i64 s.c, .int .i64 s.v, .slice aa s.tr.length ca, .slice ab s.sc.length cb] 24)).alloc (.cells #[.int .i64 t.k, .int .i64 t.c, .int .i64 t.v, .slice ba t.tr.length da, .slice bb t.sc.length db] 24)) (w.heap.size + 1) 0 (.int .i64 t.k) (.int .i64 t.c) (.int .i64 t.v) (.slice ba t.tr.length da) (.slice bb t.sc.length db)) := by
    unfold Hid Five; simp [go_sem]
  have SZ1 := hid_mk (fun l W (hb : Below w.heap.size w W) (hl : l ≤ 1048576) => sz_seen s _ _ 0 w.heap.size l W hs (h.below hb (Nat.le_refl _)) hl)
  have SZ2 := hid_mk (fun l W (hb : Below w.heap.size w W) (hl : l ≤ 1048576) => sz_seen t _ _ 0 w.heap.size l W ht (h'.below hb (Nat.le_refl _)) hl)
  have TO1 := hid_mk (fun (hc : s.cost ≤ 1048576) W (hb : Below w.heap.size w W) => to_seen s _ _ 0 w.heap.size W hc hb.size (h.below hb (Nat.le_refl _)))
  have TO2 := hid_mk (fun (hc : t.cost ≤ 1048576) W (hb : Below w.heap.size w W) => to_seen t _ _ 0 w.heap.size W hc hb.size (h'.below hb (Nat.le_refl _)))
  have SP := hid_mk (fun (hc : s.cost ≤ 1048576) (hd : t.cost ≤ 1048576) => fun va vb ua ub la ha lb hb W h1 h2 h3 h4 => spec_same s t va vb ua ub la ha lb hb W hc hd h1 h2 h3 h4)
  have IM := hid_mk (fun (hc : s.cost ≤ 1048576) (hd : t.cost ≤ 1048576) => fun va vb ua ub la ha lb hb W (hbW : Below w.heap.size w W) h1 h2 h3 h4 => impl_same s t va vb ua ub la ha lb hb W hs ht hc hd h1 h2 h3 h4 (Tab.later (B := 0) hT hbW))
  have EQ1 := hid_mk (fun (hc : s.cost ≤ 1048576) => fun va vb ua ub la ha lb hb W h1 h2 h3 h4 => eq_seen s va vb ua ub la ha lb hb W hc h1 h2 h3 h4)
  have EQ2 := hid_mk (fun (hd : t.cost ≤ 1048576) => fun va vb ua ub la ha lb hb W h1 h2 h3 h4 => eq_seen t va vb ua ub la ha lb hb W hd h1 h2 h3 h4)
  clear h h' hT hs ht
  unfold Sn.val at *
  by_cases hc : s.cost ≤ 1048576
  · have e1 : left' s.cost 1048576 = ((1048576 - s.cost : Nat) : Int) := by unfold left'; rw [if_pos hc]
    by_cases hd : t.cost ≤ 1048576 - s.cost
    · have e2 : left' t.cost (1048576 - s.cost) = ((1048576 - s.cost - t.cost : Nat) : Int) := by unfold left'; rw [if_pos hd]
      have SZ1 := hid_mk (fun W hb => SZ1.out 1048576 W hb (Nat.le_refl _))
      have SZ2 := hid_mk (fun W hb => SZ2.out (1048576 - s.cost) W hb (by omega))
      rw [e1] at SZ1
      rw [e2] at SZ2
      have TO1 := hid_mk (TO1.out hc)
      have TO2 := hid_mk (TO2.out (by omega))
      have SP := hid_mk (SP.out hc (by omega))
      have IM := hid_mk (IM.out hc (by omega))
      have EQ1 := hid_mk (EQ1.out hc)
      have EQ2 := hid_mk (EQ2.out (by omega))
      clear e1 e2
      generalize 1048576 - s.cost = q1 at *
      generalize q1 - t.cost = q2 at *
      clear hc hd
      generalize sameB s t = bq at *
      have hbb : (bq != bq) = false := by cases bq <;> rfl
      go_enter Tryd.func3, Tryd.ntmps3
      go_wp2_with fail
      revert B0 hsz F0 G0
      generalize ((w.alloc (.cells #[.int .i64 s.k, .int .i64 s.c, .int .i64 s.v, .slice aa s.tr.length ca, .slice ab s.sc.length cb] 24)).alloc (.cells #[.int .i64 t.k, .int .i64 t.c, .int .i64 t.v, .slice ba t.tr.length da, .slice bb t.sc.length db] 24)) = W0
      intro B0 hsz F0 G0
      refine (SZ1.out _ B0.out).mono ?_
      rintro e w1 ⟨rfl, hb1⟩
      have hz1 := hb1.size
      have B1 := hid_mk (B0.out.trans (hb1.mono (by omega)))
      have F1 := hid_mk (F0.out.keep hb1 (by omega))
      have G1 := hid_mk (G0.out.keep hb1 (by omega))
      obtain ⟨g0, g1, g2, g3, g4⟩ := G1.out
      clear hb1 F0 G0 B0
      go_wp2_with fail
      refine (SZ2.out _ B1.out).mono ?_
      rintro e w2 ⟨rfl, hb2⟩
      have hz2 := hb2.size
      have B2 := hid_mk (B1.out.trans (hb2.mono (by omega)))
      have F2 := hid_mk (F1.out.keep hb2 (by omega))
      have G2 := hid_mk (G1.out.keep hb2 (by omega))
      clear hb2 F1 G1 B1 g0 g1 g2 g3 g4 SZ1 SZ2
      obtain ⟨f0, f1, f2, f3, f4⟩ := F2.out
      obtain ⟨g0, g1, g2, g3, g4⟩ := G2.out
      simp only [Nat.zero_add] at f1 f2 f3 f4 g1 g2 g3 g4
      go_wp2_with fail
      have D2 : Hid (Below w.heap.size w w2.drew) := B2.out.drew
      have hzd : w.heap.size + 2 ≤ w2.heap.size := by omega
      go_region_with (first | (go_at_call 9; refine (TO1.out _ D2.out).mono ?_; rintro e w3 ⟨u3, v3, rfl, hr3, hb3⟩; obtain ⟨a3, c3, rfl⟩ := hr3.1.shape; obtain ⟨p3, d3, rfl⟩ := hr3.2.shape; have hz3 : w2.heap.size ≤ w3.heap.size := hb3.size; have B3 := hid_mk (D2.out.trans (hb3.mono (by show w.heap.size ≤ w2.heap.size; omega))); have N3 : Hid (Below w2.heap.size w2 w3) := (Below.refl w2.heap.size w2).drew.trans hb3; obtain ⟨k0, k1, k2, k3, k4⟩ := G2.out.keep N3.out (by omega); simp only [Nat.zero_add] at k1 k2 k3 k4; have R3 := hid_mk hr3; clear D2 hb3 hr3) | (go_at_call 9; refine (TO2.out _ B3.out).mono ?_; rintro e w4 ⟨u4, v4, rfl, hr4, hb4⟩; obtain ⟨a4, c4, rfl⟩ := hr4.1.shape; obtain ⟨p4, d4, rfl⟩ := hr4.2.shape; have hz4 : w3.heap.size ≤ w4.heap.size := hb4.size; have B4 := hid_mk (B3.out.trans (hb4.mono (by omega))); have N4 := hid_mk (N3.out.trans (hb4.mono (by omega))); have R4 := hid_mk (R3.out.below hb4 (Nat.le_refl _)); have S4 := hid_mk hr4; clear B3 hb4 hr4 N3 R3) | (go_at_call 8; refine (SP.out _ _ _ _ _ _ _ _ _ hz4 (Nat.le_refl _) R4.out S4.out).mono ?_; rintro e w5 ⟨rfl, hb5⟩; have hz5 : w4.heap.size ≤ w5.heap.size := hb5.size; have B5 := hid_mk (B4.out.trans (hb5.mono (by omega))); have N5 := hid_mk (N4.out.trans (hb5.mono (by omega))); clear B4 N4 R4 S4 hb5))
      all_goals
        have F5 := hid_mk (F2.out.keep N5.out (by omega))
        have G5 := hid_mk (G2.out.keep N5.out (by omega))
        clear F2 G2 N5 B2 f0 f1 f2 f3 f4 g0 g1 g2 g3 g4 k0 k1 k2 k3 k4 SP
        obtain ⟨f0, f1, f2, f3, f4⟩ := F5.out
        simp only [Nat.zero_add] at f1 f2 f3 f4
        go_wp2_with fail
        refine (TO1.out _ B5.out).mono ?_
        rintro e w6 ⟨u6, v6, rfl, hr6, hb6⟩
        obtain ⟨a6, c6, rfl⟩ := hr6.1.shape
        obtain ⟨p6, d6, rfl⟩ := hr6.2.shape
        have hz6 := hb6.size
        have N6 : Hid (Below w5.heap.size w5 (w6.alloc (.cells #[.int .i64 s.k, .int .i64 s.c, .int .i64 s.v, .slice a6 s.tr.length c6, .slice p6 s.sc.length d6] 27))) := hb6.alloc (by omega) _
        have X6 : Hid (Five (w6.alloc (.cells #[.int .i64 s.k, .int .i64 s.c, .int .i64 s.v, .slice a6 s.tr.length c6, .slice p6 s.sc.length d6] 27)) w6.heap.size 0 (.int .i64 s.k) (.int .i64 s.c) (.int .i64 s.v) (.slice a6 s.tr.length c6) (.slice p6 s.sc.length d6)) := Five.new _ _ _ _ _ _ _
        have R6 := hid_mk (hr6.below ((Below.refl w6.heap.size w6).alloc (Nat.le_refl _) (.cells #[.int .i64 s.k, .int .i64 s.c, .int .i64 s.v, .slice a6 s.tr.length c6, .slice p6 s.sc.length d6] 27)) (Nat.le_refl _))
        have hzW : w6.heap.size + 1 ≤ (w6.alloc (.cells #[.int .i64 s.k, .int .i64 s.c, .int .i64 s.v, .slice a6 s.tr.length c6, .slice p6 s.sc.length d6] 27)).heap.size := by simp
        have FD := hid_mk (F5.out.keep hb6 (by omega))
        have GD := hid_mk (G5.out.keep N6.out (by omega))
        obtain ⟨g0, g1, g2, g3, g4⟩ := GD.out
        simp only [Nat.zero_add] at g1 g2 g3 g4
        clear f0 f1 f2 f3 f4 hb6 hr6
        have hne : ¬ (w.heap.size + 1 = w6.heap.size) := by omega
        go_wp2_with fail
        clear hne
        revert N6 X6 R6 hzW
        generalize w6.alloc (.cells #[.int .i64 s.k, .int .i64 s.c, .int .i64 s.v, .slice a6 s.tr.length c6, .slice p6 s.sc.length d6] 27) = W6
        intro N6 X6 R6 hzW
        have B6 := hid_mk (B5.out.trans (N6.out.mono (by omega)))
        have F6 := hid_mk (F5.out.keep N6.out (by omega))
        have G6 := hid_mk (G5.out.keep N6.out (by omega))
        clear FD GD F5 G5 g0 g1 g2 g3 g4 N6 B5
        refine (TO2.out _ B6.out).mono ?_
        rintro e w7 ⟨u7, v7, rfl, hr7, hb7⟩
        obtain ⟨a7, c7, rfl⟩ := hr7.1.shape
        obtain ⟨p7, d7, rfl⟩ := hr7.2.shape
        have hz7 := hb7.size
        have N7 : Hid (Below W6.heap.size W6 (w7.alloc (.cells #[.int .i64 t.k, .int .i64 t.c, .int .i64 t.v, .slice a7 t.tr.length c7, .slice p7 t.sc.length d7] 27))) := hb7.alloc (by omega) _
        have Y7 : Hid (Five (w7.alloc (.cells #[.int .i64 t.k, .int .i64 t.c, .int .i64 t.v, .slice a7 t.tr.length c7, .slice p7 t.sc.length d7] 27)) w7.heap.size 0 (.int .i64 t.k) (.int .i64 t.c) (.int .i64 t.v) (.slice a7 t.tr.length c7) (.slice p7 t.sc.length d7)) := Five.new _ _ _ _ _ _ _
        have S7 := hid_mk (hr7.below ((Below.refl w7.heap.size w7).alloc (Nat.le_refl _) (.cells #[.int .i64 t.k, .int .i64 t.c, .int .i64 t.v, .slice a7 t.tr.length c7, .slice p7 t.sc.length d7] 27)) (Nat.le_refl _))
        have hzV : w7.heap.size + 1 ≤ (w7.alloc (.cells #[.int .i64 t.k, .int .i64 t.c, .int .i64 t.v, .slice a7 t.tr.length c7, .slice p7 t.sc.length d7] 27)).heap.size := by simp
        have X7' := X6.out.keep N7.out (by omega)
        obtain ⟨x0, x1, x2, x3, x4⟩ := X7'
        simp only [Nat.zero_add] at x1 x2 x3 x4
        clear hb7 hr7
        have hne : ¬ (w6.heap.size = w7.heap.size) := by omega
        go_wp2_with fail
        clear hne
        clear x0 x1 x2 x3 x4
        revert N7 Y7 S7 hzV
        generalize w7.alloc (.cells #[.int .i64 t.k, .int .i64 t.c, .int .i64 t.v, .slice a7 t.tr.length c7, .slice p7 t.sc.length d7] 27) = W7
        intro N7 Y7 S7 hzV
        have B7 := hid_mk (B6.out.trans (N7.out.mono (by omega)))
        have F7 := hid_mk (F6.out.keep N7.out (by omega))
        have G7 := hid_mk (G6.out.keep N7.out (by omega))
        have X7 := hid_mk (X6.out.keep N7.out (by omega))
        have R7 := hid_mk (R6.out.below N7.out (by omega))
        clear F6 G6 X6 R6 N7 B6
        refine (IM.out _ _ _ _ _ _ _ _ _ B7.out (show w6.heap.size ≤ W7.heap.size by omega) (show w7.heap.size ≤ W7.heap.size by omega) R7.out S7.out).mono ?_
        rintro e w8 ⟨rfl, hb8⟩
        have hz8 := hb8.size
        have B8 := hid_mk (B7.out.trans (hb8.mono (by omega)))
        have F8 := hid_mk (F7.out.keep hb8 (by omega))
        have G8 := hid_mk (G7.out.keep hb8 (by omega))
        have X8 := hid_mk (X7.out.keep hb8 (by omega))
        have Y8 := hid_mk (Y7.out.keep hb8 (by omega))
        have R8 := hid_mk (R7.out.below hb8 (by omega))
        have S8 := hid_mk (S7.out.below hb8 (by omega))
        clear F7 G7 X7 Y7 R7 S7 B7 hb8 IM
        obtain ⟨x0, x1, x2, x3, x4⟩ := X8.out
        obtain ⟨f0, f1, f2, f3, f4⟩ := F8.out
        simp only [Nat.zero_add] at x1 x2 x3 x4 f1 f2 f3 f4
        go_wp2_with fail
        have hzd : w7.heap.size < w8.heap.size := by omega
        have hz68 : w6.heap.size ≤ w7.heap.size := by omega
        have hzw : w.heap.size + 2 ≤ w6.heap.size := by omega
        have D8 : Hid (Below w.heap.size w w8.drew) := B8.out.drew
        clear hz1 hz2 hz3 hz4 hz5 hz6 hz7 hz8 hzW hzV hsz
        go_region_with (first | (go_at_call 9; refine (TO1.out _ D8.out).mono ?_; rintro e w9 ⟨u9, v9, rfl, hr9, hb9⟩; obtain ⟨a9, c9, rfl⟩ := hr9.1.shape; obtain ⟨p9, d9, rfl⟩ := hr9.2.shape; have hz9 : w8.heap.size ≤ w9.heap.size := hb9.size; have N9 : Hid (Below w8.heap.size w8 w9) := (Below.refl w8.heap.size w8).drew.trans hb9; obtain ⟨k0, k1, k2, k3, k4⟩ := X8.out.keep N9.out (by omega); simp only [Nat.zero_add] at k1 k2 k3 k4; have S9 := hid_mk hr9; clear D8 hb9 hr9 TO1) | (go_at_call 11; refine (EQ1.out _ _ _ _ _ _ _ _ _ (show w6.heap.size ≤ w9.heap.size by omega) (Nat.le_refl _) (R8.out.below N9.out (by omega)) S9.out).mono ?_; rintro e w10 ⟨rfl, hb10⟩; have hz10 : w9.heap.size ≤ w10.heap.size := hb10.size; have N10 := hid_mk (N9.out.trans (hb10.mono (by omega))); clear hb10 EQ1 S9))
        all_goals
          have BX := hid_mk (B8.out.trans (N10.out.mono (by omega)))
          obtain ⟨y0, y1, y2, y3, y4⟩ := Y8.out.keep N10.out (by omega)
          obtain ⟨g0, g1, g2, g3, g4⟩ := G8.out.keep N10.out (by omega)
          have SX := hid_mk (S8.out.below N10.out (by omega))
          have YX := hid_mk (Y8.out.keep N10.out (by omega))
          simp only [Nat.zero_add] at y1 y2 y3 y4 g1 g2 g3 g4
          clear x0 x1 x2 x3 x4 f0 f1 f2 f3 f4 k0 k1 k2 k3 k4 N9 N10 B8 F8 G8 X8 Y8 R8 S8
          go_wp2_with fail
          have DX : Hid (Below w.heap.size w w10.drew) := BX.out.drew
          go_region_with (first | (go_at_call 9; refine (TO2.out _ DX.out).mono ?_; rintro e w11 ⟨u11, v11, rfl, hr11, hb11⟩; obtain ⟨a11, c11, rfl⟩ := hr11.1.shape; obtain ⟨p11, d11, rfl⟩ := hr11.2.shape; have hz11 : w10.heap.size ≤ w11.heap.size := hb11.size; have N11 : Hid (Below w10.heap.size w10 w11) := (Below.refl w10.heap.size w10).drew.trans hb11; obtain ⟨k0, k1, k2, k3, k4⟩ := YX.out.keep N11.out (by omega); simp only [Nat.zero_add] at k1 k2 k3 k4; have S11 := hid_mk hr11; clear DX hb11 hr11 TO2) | (go_at_call 11; refine (EQ2.out _ _ _ _ _ _ _ _ _ (show w7.heap.size ≤ w11.heap.size by omega) (Nat.le_refl _) (SX.out.below N11.out (by omega)) S11.out).mono ?_; rintro e w12 ⟨rfl, hb12⟩; have hz12 : w11.heap.size ≤ w12.heap.size := hb12.size; have N12 := hid_mk (N11.out.trans (hb12.mono (by omega))); clear hb12 EQ2 S11))
          all_goals
            have BE := hid_mk (BX.out.trans (N12.out.mono (by omega)))
            clear y0 y1 y2 y3 y4 g0 g1 g2 g3 g4 k0 k1 k2 k3 k4 N11 N12 BX YX SX
            go_wp2
            go_ret
            exact ⟨rfl, BE.out⟩
    · have e2 : left' t.cost (1048576 - s.cost) = -1 := by unfold left'; rw [if_neg hd]
      have SZ1 := hid_mk (fun W hb => SZ1.out 1048576 W hb (Nat.le_refl _))
      have SZ2 := hid_mk (fun W hb => SZ2.out (1048576 - s.cost) W hb (by omega))
      rw [e1] at SZ1
      rw [e2] at SZ2
      clear e1 e2 TO1 TO2 SP IM EQ1 EQ2
      generalize 1048576 - s.cost = q1 at *
      go_enter Tryd.func3, Tryd.ntmps3
      go_wp2_with fail
      revert B0 hsz F0 G0
      generalize ((w.alloc (.cells #[.int .i64 s.k, .int .i64 s.c, .int .i64 s.v, .slice aa s.tr.length ca, .slice ab s.sc.length cb] 24)).alloc (.cells #[.int .i64 t.k, .int .i64 t.c, .int .i64 t.v, .slice ba t.tr.length da, .slice bb t.sc.length db] 24)) = W0
      intro B0 hsz F0 G0
      refine (SZ1.out _ B0.out).mono ?_
      rintro e w1 ⟨rfl, hb1⟩
      have hz1 := hb1.size
      have B1 := hid_mk (B0.out.trans (hb1.mono (by omega)))
      have F1 := hid_mk (F0.out.keep hb1 (by omega))
      have G1 := hid_mk (G0.out.keep hb1 (by omega))
      obtain ⟨g0, g1, g2, g3, g4⟩ := G1.out
      clear hb1 F0 G0 B0
      go_wp2_with fail
      refine (SZ2.out _ B1.out).mono ?_
      rintro e w2 ⟨rfl, hb2⟩
      have B2 := hid_mk (B1.out.trans (hb2.mono (by omega)))
      clear hb2 SZ1 SZ2
      go_wp2
      go_ret
      exact ⟨rfl, B2.out⟩
  · have e1 : left' s.cost 1048576 = -1 := by unfold left'; rw [if_neg hc]
    have SZ1 := hid_mk (fun W hb => SZ1.out 1048576 W hb (Nat.le_refl _))
    rw [e1] at SZ1
    clear e1 TO1 TO2 SP IM EQ1 EQ2 SZ2
    go_enter Tryd.func3, Tryd.ntmps3
    go_wp2_with fail
    refine (SZ1.out _ B0.out).mono ?_
    rintro e w1 ⟨rfl, hb1⟩
    have B1 := hid_mk (B0.out.trans (hb1.mono B0.out.size))
    clear hb1 SZ1
    go_wp2
    go_ret
    exact ⟨rfl, B1.out⟩
end Go.Proofs.YtjgbjahcnnjfpaaDoor
