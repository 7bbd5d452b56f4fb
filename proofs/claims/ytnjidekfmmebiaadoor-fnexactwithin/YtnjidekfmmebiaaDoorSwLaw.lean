/- The walk of the law FnExactWithin. -/
import Derived.Test.YtnjidekfmmebiaaDoorSwSz
import Derived.Test.YtnjidekfmmebiaaDoorSwTo
import Derived.Test.YtnjidekfmmebiaaDoorSwEq
import Derived.Test.YtnjidekfmmebiaaDoorSwSpec
import Derived.Test.YtnjidekfmmebiaaDoorSwImpl
set_option linter.unusedVariables false
namespace Go.Proofs.YtnjidekfmmebiaaDoor
open Go.RowKit

set_option maxHeartbeats 8000000 in
set_option maxRecDepth 100000 in
theorem law_within (xs ys : List Sn) (u v : Value) (w : World) (hx : OkS xs) (hy : OkS ys) (h : Rw 0 w.heap.size w xs u) (h' : Rw 0 w.heap.size w ys v) (hT : Tab w) :
    Calls Tryd.prog 3 #[u, v] w fun e w' => e = .returned (.bool true) ∧ Below w.heap.size w w' := by
  obtain ⟨a, ca, rfl⟩ := h.shape
  obtain ⟨b, cb, rfl⟩ := h'.shape
  have SZ1 := hid_mk (fun l W (hb : Below w.heap.size w W) (hl : l ≤ 1048576) => sz_seens xs _ w.heap.size l W hx hb.size (h.below hb (Nat.le_refl _)) hl)
  have SZ2 := hid_mk (fun l W (hb : Below w.heap.size w W) (hl : l ≤ 1048576) => sz_seens ys _ w.heap.size l W hy hb.size (h'.below hb (Nat.le_refl _)) hl)
  have TO1 := hid_mk (fun (hc : costS xs ≤ 1048576) W (hb : Below w.heap.size w W) => to_seens xs _ w.heap.size W hc hb.size (h.below hb (Nat.le_refl _)))
  have TO2 := hid_mk (fun (hc : costS ys ≤ 1048576) W (hb : Below w.heap.size w W) => to_seens ys _ w.heap.size W hc hb.size (h'.below hb (Nat.le_refl _)))
  have SP := hid_mk (fun (hc : costS xs ≤ 1048576) (hd : costS ys ≤ 1048576) => fun u v la ha lb hb W h1 h2 h3 h4 => spec_within xs ys u v la ha lb hb W hc hd h1 h2 h3 h4)
  have IM := hid_mk (fun (hc : costS xs ≤ 1048576) (hd : costS ys ≤ 1048576) => fun u v la ha lb hb W (hbW : Below w.heap.size w W) h1 h2 h3 h4 => impl_within xs ys u v la ha lb hb W hx hy hc hd h1 h2 h3 h4 (Tab.later (B := 0) hT hbW))
  have EQ1 := hid_mk (fun (hc : costS xs ≤ 1048576) => fun u v la ha lb hb W h1 h2 h3 h4 => eq_seens xs u v la ha lb hb W hc h1 h2 h3 h4)
  have EQ2 := hid_mk (fun (hd : costS ys ≤ 1048576) => fun u v la ha lb hb W h1 h2 h3 h4 => eq_seens ys u v la ha lb hb W hd h1 h2 h3 h4)
  clear h h' hT hx hy
  have B0 : Hid (Below w.heap.size w w) := Below.refl _ _
  by_cases hc : costS xs ≤ 1048576
  · have e1 : left' (costS xs) 1048576 = ((1048576 - costS xs : Nat) : Int) := by unfold left'; rw [if_pos hc]
    have SZ1 := hid_mk (fun W hb => SZ1.out 1048576 W hb (Nat.le_refl _))
    have SZ2 := hid_mk (fun W hb => SZ2.out (1048576 - costS xs) W hb (by omega))
    rw [e1] at SZ1
    by_cases hd : costS ys ≤ 1048576 - costS xs
    · have e2 : left' (costS ys) (1048576 - costS xs) = ((1048576 - costS xs - costS ys : Nat) : Int) := by unfold left'; rw [if_pos hd]
      rw [e2] at SZ2
      have TO1 := hid_mk (TO1.out hc)
      have TO2 := hid_mk (TO2.out (by omega))
      have SP := hid_mk (SP.out hc (by omega))
      have IM := hid_mk (IM.out hc (by omega))
      have EQ1 := hid_mk (EQ1.out hc)
      have EQ2 := hid_mk (EQ2.out (by omega))
      clear e1 e2
      generalize 1048576 - costS xs = q1 at *
      generalize q1 - costS ys = q2 at *
      clear hc hd
      generalize (withinT xs ys).1 = r1 at *
      generalize (withinT xs ys).2 = r2 at *
      have hb1 : (r1 != r1) = false := by simp
      have hb2 : (r2 != r2) = false := by simp
      go_enter Tryd.func3, Tryd.ntmps3
      go_wp2_with fail
      refine (SZ1.out _ B0.out).mono ?_
      rintro e w1 ⟨rfl, h1⟩
      have B1 := hid_mk (B0.out.trans (h1.mono B0.out.size))
      clear h1 B0 SZ1
      go_wp2_with fail
      refine (SZ2.out _ B1.out).mono ?_
      rintro e w2 ⟨rfl, h2⟩
      have B2 := hid_mk (B1.out.trans (h2.mono B1.out.size))
      clear h2 B1 SZ2
      go_wp2_with fail
      refine (TO1.out _ B2.out).mono ?_
      rintro e w3 ⟨u3, rfl, hr3, h3⟩
      obtain ⟨a3, c3, rfl⟩ := hr3.shape
      have hz3 := h3.size
      have B3 := hid_mk (B2.out.trans (h3.mono B2.out.size))
      have R3 := hid_mk hr3
      clear h3 hr3
      go_wp2_with fail
      refine (TO2.out _ B3.out).mono ?_
      rintro e w4 ⟨u4, rfl, hr4, h4⟩
      obtain ⟨a4, c4, rfl⟩ := hr4.shape
      have hz4 := h4.size
      have B4 := hid_mk (B3.out.trans (h4.mono B3.out.size))
      have R4 := hid_mk (R3.out.below h4 (Nat.le_refl _))
      have S4 := hid_mk hr4
      clear h4 hr4 R3
      go_wp2_with fail
      refine (SP.out _ _ _ _ _ _ _ hz4 (Nat.le_refl _) R4.out S4.out).mono ?_
      rintro e w5 ⟨rfl, h5⟩
      have B5 := hid_mk (B4.out.trans (h5.mono B4.out.size))
      clear h5 R4 S4 B4 B3 B2 SP
      go_wp2_with fail
      refine (TO1.out _ B5.out).mono ?_
      rintro e w6 ⟨u6, rfl, hr6, h6⟩
      obtain ⟨a6, c6, rfl⟩ := hr6.shape
      have hz6 := h6.size
      have B6 := hid_mk (B5.out.trans (h6.mono B5.out.size))
      have R6 := hid_mk hr6
      clear h6 hr6
      go_wp2_with fail
      refine (TO2.out _ B6.out).mono ?_
      rintro e w7 ⟨u7, rfl, hr7, h7⟩
      obtain ⟨a7, c7, rfl⟩ := hr7.shape
      have hz7 := h7.size
      have B7 := hid_mk (B6.out.trans (h7.mono B6.out.size))
      have R7 := hid_mk (R6.out.below h7 (Nat.le_refl _))
      have S7 := hid_mk hr7
      clear h7 hr7 R6
      go_wp2_with fail
      refine (IM.out _ _ _ _ _ _ _ B7.out hz7 (Nat.le_refl _) R7.out S7.out).mono ?_
      rintro e w8 ⟨rfl, h8⟩
      have hz8 := h8.size
      have B8 := hid_mk (B7.out.trans (h8.mono B7.out.size))
      have R8 := hid_mk (R7.out.below h8 (by omega))
      have S8 := hid_mk (S7.out.below h8 (by omega))
      clear h8 R7 S7 B7 B6 B5 IM
      go_wp2_with fail
      refine (TO1.out _ B8.out).mono ?_
      rintro e w9 ⟨u9, rfl, hr9, h9⟩
      obtain ⟨a9, c9, rfl⟩ := hr9.shape
      have hz9 := h9.size
      have B9 := hid_mk (B8.out.trans (h9.mono B8.out.size))
      have R9 := hid_mk (R8.out.below h9 (by omega))
      have S9 := hid_mk (S8.out.below h9 (by omega))
      have U9 := hid_mk hr9
      clear h9 hr9 R8 S8 B8
      go_wp2_with fail
      refine (EQ1.out _ _ _ _ _ _ _ (by omega) (Nat.le_refl _) R9.out U9.out).mono ?_
      rintro e w10 ⟨rfl, h10⟩
      have hz10 := h10.size
      have B10 := hid_mk (B9.out.trans (h10.mono B9.out.size))
      have S10 := hid_mk (S9.out.below h10 (by omega))
      clear h10 R9 S9 U9 B9 EQ1
      go_wp2_with fail
      refine (TO2.out _ B10.out).mono ?_
      rintro e w11 ⟨u11, rfl, hr11, h11⟩
      obtain ⟨a11, c11, rfl⟩ := hr11.shape
      have hz11 := h11.size
      have B11 := hid_mk (B10.out.trans (h11.mono B10.out.size))
      have S11 := hid_mk (S10.out.below h11 (by omega))
      have U11 := hid_mk hr11
      clear h11 hr11 S10 B10
      go_wp2_with fail
      refine (EQ2.out _ _ _ _ _ _ _ (by omega) (Nat.le_refl _) S11.out U11.out).mono ?_
      rintro e w12 ⟨rfl, h12⟩
      have B12 := hid_mk (B11.out.trans (h12.mono B11.out.size))
      clear h12 S11 U11 B11 EQ2
      go_wp2
      go_ret
      exact ⟨rfl, B12.out⟩
    · have e2 : left' (costS ys) (1048576 - costS xs) = -1 := by unfold left'; rw [if_neg hd]
      rw [e2] at SZ2
      clear e1 e2 TO1 TO2 SP IM EQ1 EQ2
      generalize 1048576 - costS xs = q1 at *
      go_enter Tryd.func3, Tryd.ntmps3
      go_wp2_with fail
      refine (SZ1.out _ B0.out).mono ?_
      rintro e w1 ⟨rfl, h1⟩
      have B1 := hid_mk (B0.out.trans (h1.mono B0.out.size))
      clear h1 B0 SZ1
      go_wp2_with fail
      refine (SZ2.out _ B1.out).mono ?_
      rintro e w2 ⟨rfl, h2⟩
      have B2 := hid_mk (B1.out.trans (h2.mono B1.out.size))
      clear h2 B1 SZ2
      go_wp2
      go_ret
      exact ⟨rfl, B2.out⟩
  · have e1 : left' (costS xs) 1048576 = -1 := by unfold left'; rw [if_neg hc]
    have SZ1 := hid_mk (fun W hb => SZ1.out 1048576 W hb (Nat.le_refl _))
    rw [e1] at SZ1
    clear e1 TO1 TO2 SP IM EQ1 EQ2 SZ2
    go_enter Tryd.func3, Tryd.ntmps3
    go_wp2_with fail
    refine (SZ1.out _ B0.out).mono ?_
    rintro e w1 ⟨rfl, h1⟩
    have B1 := hid_mk (B0.out.trans (h1.mono B0.out.size))
    clear h1 B0 SZ1
    go_wp2
    go_ret
    exact ⟨rfl, B1.out⟩
end Go.Proofs.YtnjidekfmmebiaaDoor
