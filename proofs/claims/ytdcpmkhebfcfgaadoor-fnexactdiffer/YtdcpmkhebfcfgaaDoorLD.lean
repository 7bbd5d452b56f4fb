/- Proved: for every two trees of laws.Node, however deep and wide, and whatever they share with themselves and with each other, laws.FnExactDiffer returns true, that is, impl.Differ answers as the specification's Differ, number and code (the law itself asks nothing of trees whose lengths of names and lists of kids add up to more than 1048576), it writes into no argument, and nothing that was in memory is changed; the package variables takenWords, kidForms and caseForms hold what their initialisers lay (the card ties them). -/
import Derived.Test.YtdcpmkhebfcfgaaDoorLeE
import Derived.Test.YtdcpmkhebfcfgaaDoorLaA
import Derived.Test.YtdcpmkhebfcfgaaDoorLdA
import Derived.Test.YtdcpmkhebfcfgaaDoorCards
import Derived.Test.YtdcpmkhebfcfgaaDoorTie
import Derived.ProofKit
import Derived.LaidMore
import Derived.OpenShut
import Derived.Stop.Joined
set_option linter.unusedVariables false
namespace Go.Proofs.YtdcpmkhebfcfgaaDoor
open Go.RowKit

def VDf (A B : Nd) (u v : Value) (i : Nat) (w : World) (x : Value) : Prop := match i with
  | 0 => x = A.val u
  | 1 => ∃ p c, x = A.val (.slice p A.len c) ∧ Row 0 w.heap.size w A (.slice p A.len c)
  | 2 => x = B.val v
  | 3 => ∃ p c, x = B.val (.slice p B.len c) ∧ Row 0 w.heap.size w B (.slice p B.len c)
  | 4 => x = .tuple #[.int .i64 (dNum A B), .int .i64 (dCode A B)]
  | 5 => x = .tuple #[.int .i64 (dNum A B), .int .i64 (dCode A B)]
  | 6 => x = .int .i64 (dNum A B)
  | 7 => x = .int .i64 (dCode A B)
  | 8 => x = .int .i64 (dNum A B)
  | 9 => x = .int .i64 (dCode A B)
  | _ => True
theorem VDf_calm {A B : Nd} {u v : Value} {w w' : World} (h : Below w.heap.size w w') (i : Nat) (x : Value) (hx : VDf A B u v i w x) : VDf A B u v i w' x := by
  match i, hx with
  | 0, hx => exact hx
  | 1, ⟨p, c, h1, h2⟩ => exact ⟨p, c, h1, row_wide (row_below h (Nat.le_refl _) h2) (Nat.le_refl _) h.size⟩
  | 2, hx => exact hx
  | 3, ⟨p, c, h1, h2⟩ => exact ⟨p, c, h1, row_wide (row_below h (Nat.le_refl _) h2) (Nat.le_refl _) h.size⟩
  | 4, hx => exact hx
  | 5, hx => exact hx
  | 6, hx => exact hx
  | 7, hx => exact hx
  | 8, hx => exact hx
  | 9, hx => exact hx
  | (i + 10), _ => exact trivial
def dDf (i : Nat) : Nat := [23, 24, 25, 26, 27, 22, 28, 29, 6, 7].getD i 100
theorem dDf_inj (i j : Nat) (hi : i < 10) (hj : j < 10) (h : dDf i = dDf j) : i = j := by
  have : ((List.range 10).all fun i => (List.range 10).all fun j => dDf i != dDf j || i == j) = true := by decide
  have := List.all_eq_true.1 (List.all_eq_true.1 this i (List.mem_range.2 hi)) j (List.mem_range.2 hj)
  simpa [h] using this
theorem dDf_lt (i : Nat) (hi : i < 10) : dDf i < 58 := by
  have : ((List.range 10).all fun i => decide (dDf i < 58)) = true := by decide
  simpa using List.all_eq_true.1 this i (List.mem_range.2 hi)
theorem dDf_ne {t : Nat} (ht : t = 2 ∨ t = 3) (i : Nat) (hi : i < 10) : t ≠ dDf i := by
  have : ((List.range 10).all fun i => decide (3 < dDf i)) = true := by decide
  have := List.all_eq_true.1 this i (List.mem_range.2 hi)
  simp at this; omega

set_option maxHeartbeats 8000000 in
set_option maxRecDepth 100000 in
theorem law_differ (A B : Nd) (u v : Value) (w : World) (hfa : A.Fine) (hfb : B.Fine) (hru : Row 0 w.heap.size w A u) (hrv : Row 0 w.heap.size w B v) (ht : Tabs w) :
    Calls Tryd.prog 4 #[A.val u, B.val v] w fun e w' => e = .returned (.bool true) ∧ Below w.heap.size w w' := by
  have HFA := hid_mk hfa
  have HFB := hid_mk hfb
  have HRA := hid_mk hru
  have HRB := hid_mk hrv
  obtain ⟨au, cu, hu, -⟩ := row_eq.1 hru
  obtain ⟨bv, cv, hv, -⟩ := row_eq.1 hrv
  subst hu hv
  have HB2 : ∀ x y : Obj, Hid (Below w.heap.size w ((w.alloc x).alloc y)) := fun a b => ((Below.refl _ _).alloc (Nat.le_refl _) _).alloc (by simp) _
  have SZA := hid_mk (sz_node A)
  have SZB := hid_mk (sz_node B)
  have TOA := hid_mk (to_node A)
  have TOB := hid_mk (to_node B)
  have SP := hid_mk (fun W u v hi hhi hr hr' => spec_differ A B W u v hi hfa hfb hhi hr hr')
  have IM := hid_mk (fun W u v hi hhi hr hr' hc hc' (hb : Below w.heap.size w W) => impl_differ A B W u v hi hfa hfb hhi hr hr' hc hc' (tabs_below ht hb))
  have EQA := hid_mk (eq_node A)
  have EQB := hid_mk (eq_node B)
  unfold SzC at SZA SZB
  unfold ToC at TOA TOB
  unfold EqC at EQA EQB
  unfold Nd.val at *
  clear hfa hfb hru hrv ht
  have P1 := hid_mk True.intro
  have FA0 : Hid (Four ((w.alloc (.cells #[.int .i64 A.kind, .int .i64 A.num, .string A.name, .slice au A.len cu] 24)).alloc (.cells #[.int .i64 B.kind, .int .i64 B.num, .string B.name, .slice bv B.len cv] 24)) w.heap.size (.int .i64 A.kind) (.int .i64 A.num) (.string A.name) (.slice au A.len cu)) := by
    unfold Hid Four; simp [go_sem]
  have FB0 : Hid (Four ((w.alloc (.cells #[.int .i64 A.kind, .int .i64 A.num, .string A.name, .slice au A.len cu] 24)).alloc (.cells #[.int .i64 B.kind, .int .i64 B.num, .string B.name, .slice bv B.len cv] 24)) (w.heap.size + 1) (.int .i64 B.kind) (.int .i64 B.num) (.string B.name) (.slice bv B.len cv)) := by
    unfold Hid Four; simp [go_sem]
  by_cases hca : A.cost ≤ 1048576
  · have hla : left' A.cost 1048576 = ((1048576 - A.cost : Nat) : Int) := by unfold left'; rw [if_pos hca]
    go_enter Tryd.func4, Tryd.ntmps4
    go_wp2_with fail
    refine (SZA.out _ 1048576 w.heap.size _ HFA.out (by simp; omega) (row_below (HB2 _ _).out (Nat.le_refl _) HRA.out) (by omega)).mono ?_
    rw [hla]
    rintro e w1 ⟨rfl, hb1⟩
    have hz1 := hb1.size
    simp only [World.size_alloc] at hz1
    have B1 := hid_mk ((HB2 _ _).out.trans (hb1.mono (by simp; omega)))
    have FA1 := hid_mk (FA0.out.keep hb1 (by simp; omega))
    have FB1 := hid_mk (FB0.out.keep hb1 (by simp))
    obtain ⟨p0, p1, p2, p3⟩ := FA1.out
    obtain ⟨q0, q1, q2, q3⟩ := FB1.out
    clear hb1 FA0 FB0 hla P1
    by_cases hcb : B.cost ≤ 1048576 - A.cost
    · have hlb : left' B.cost (1048576 - A.cost) = ((1048576 - A.cost - B.cost : Nat) : Int) := by unfold left'; rw [if_pos hcb]
      go_wp2_with fail
      refine (SZB.out _ (1048576 - A.cost) w.heap.size _ HFB.out (by omega) (row_below B1.out (Nat.le_refl _) HRB.out) (by omega)).mono ?_
      rw [hlb]
      rintro e w2 ⟨rfl, hb2⟩
      have hz2 := hb2.size
      have B2 := hid_mk (B1.out.trans (hb2.mono (by omega)))
      have FA2 := hid_mk (FA1.out.keep hb2 (by omega))
      have FB2 := hid_mk (FB1.out.keep hb2 (by omega))
      clear p0 p1 p2 p3 q0 q1 q2 q3 FA1 FB1 hb2 B1 hlb
      have hmix : Tryd.prog.follows Departure.mixedOrders = true := by kernel_rfl
      go_wp2_with fail
      refine wp_region_inv hmix (by kernel_rfl) dDf (VDf A B (.slice au A.len cu) (.slice bv B.len cv)) (fun _ x => Below w2.heap.size w2 x) ((Below.refl _ _).drew) ?_ ?_
      · intro listed a' x i hI hr
        have hi : i < 10 := (ready_unl hr).1
        have hS := hI.s
        have hzx := hS.size
        have PUT := hid_mk (fun (i : Nat) (hi : i < 10) (x' : World) (hb : Below x.heap.size x x') (y : Value) (hy : VDf A B (.slice au A.len cu) (.slice bv B.len cv) i x' y) => hI.put dDf_inj dDf_lt (VDf_calm hb) (hS.trans (hb.mono hS.size)) hi hy)
        have VAL := hid_mk (fun (j : Nat) (hj : j < 10) (hl : listed.getD j false = true) => hI.vals j hj (getD_tr hl))
        have DEP := hid_mk (fun o (ho : _ = some o) => ready_dep hr (o := o) ho)
        have s2 : a'.tmps[2]?.getD undef = .pointer (some ⟨w.heap.size, 0, none⟩) := eval_getD (hI.keep 2 (fun i hi => dDf_ne (.inl rfl) i hi))
        have s3 : a'.tmps[3]?.getD undef = .pointer (some ⟨w.heap.size + 1, 0, none⟩) := eval_getD (hI.keep 3 (fun i hi => dDf_ne (.inr rfl) i hi))
        obtain ⟨p0, p1, p2, p3⟩ := FA2.out.keep hS (by omega)
        obtain ⟨q0, q1, q2, q3⟩ := FB2.out.keep hS (by omega)
        have BX := hid_mk (B2.out.trans (hS.mono (by omega)))
        clear hI hr
        rcases (by omega : i = 0 ∨ i = 1 ∨ i = 2 ∨ i = 3 ∨ i = 4 ∨ i = 5 ∨ i = 6 ∨ i = 7 ∨ i = 8 ∨ i = 9) with rfl | rfl | rfl | rfl | rfl | rfl | rfl | rfl | rfl | rfl
        all_goals (refine wpOp_of rfl rfl ?_)
        · go_simp
          exact PUT.out 0 (by omega) x (Below.refl _ _) _ rfl
        · have h := eval_getD (show a'.eval (.tmp 23) = .agg #[.int .i64 A.kind, .int .i64 A.num, .string A.name, .slice au A.len cu] from VAL.out 0 (by omega) (DEP.out _ rfl ⟨0, Ground.data⟩ (by simp) rfl))
          go_simp
          refine (TOA.out _ _ w.heap.size HFA.out (by omega) (row_below BX.out (Nat.le_refl _) HRA.out) hca).mono ?_
          rintro e x2 ⟨u2, rfl, hr2, hb2⟩
          obtain ⟨a2, c2, rfl⟩ := row_shape hr2
          exact PUT.out 1 (by omega) x2 hb2 _ ⟨a2, c2, rfl, row_wide hr2 (Nat.zero_le _) (Nat.le_refl _)⟩
        · go_simp
          exact PUT.out 2 (by omega) x (Below.refl _ _) _ rfl
        · have h := eval_getD (show a'.eval (.tmp 25) = .agg #[.int .i64 B.kind, .int .i64 B.num, .string B.name, .slice bv B.len cv] from VAL.out 2 (by omega) (DEP.out _ rfl ⟨2, Ground.data⟩ (by simp) rfl))
          go_simp
          refine (TOB.out _ _ w.heap.size HFB.out (by omega) (row_below BX.out (Nat.le_refl _) HRB.out) (by omega)).mono ?_
          rintro e x2 ⟨u2, rfl, hr2, hb2⟩
          obtain ⟨a2, c2, rfl⟩ := row_shape hr2
          exact PUT.out 3 (by omega) x2 hb2 _ ⟨a2, c2, rfl, row_wide hr2 (Nat.zero_le _) (Nat.le_refl _)⟩
        · obtain ⟨a1, c1, h1, r1⟩ : ∃ p c, a'.eval (.tmp 24) = A.val (.slice p A.len c) ∧ Row 0 x.heap.size x A (.slice p A.len c) := VAL.out 1 (by omega) (DEP.out _ rfl ⟨1, Ground.data⟩ (by simp) rfl)
          obtain ⟨a2, c2, h2, r2⟩ : ∃ p c, a'.eval (.tmp 26) = B.val (.slice p B.len c) ∧ Row 0 x.heap.size x B (.slice p B.len c) := VAL.out 3 (by omega) (DEP.out _ rfl ⟨3, Ground.data⟩ (by simp) rfl)
          have g1 := eval_getD h1
          have g2 := eval_getD h2
          unfold Nd.val at g1 g2
          have R1 := hid_mk r1
          have R2 := hid_mk r2
          clear r1 r2 h1 h2
          go_simp
          refine (SP.out _ _ _ x.heap.size (Nat.le_refl _) R1.out R2.out hca).mono ?_
          rintro e x2 ⟨rfl, hb2⟩
          exact PUT.out 4 (by omega) x2 hb2 _ rfl
        · have h := eval_getD (show a'.eval (.tmp 27) = .tuple #[.int .i64 (dNum A B), .int .i64 (dCode A B)] from VAL.out 4 (by omega) (DEP.out _ rfl ⟨4, Ground.data⟩ (by simp) rfl))
          go_simp
          exact PUT.out 5 (by omega) x (Below.refl _ _) _ rfl
        · have h := eval_getD (show a'.eval (.tmp 22) = .tuple #[.int .i64 (dNum A B), .int .i64 (dCode A B)] from VAL.out 5 (by omega) (DEP.out _ rfl ⟨5, Ground.data⟩ (by simp) rfl))
          go_simp
          exact PUT.out 6 (by omega) x (Below.refl _ _) _ rfl
        · have h := eval_getD (show a'.eval (.tmp 22) = .tuple #[.int .i64 (dNum A B), .int .i64 (dCode A B)] from VAL.out 5 (by omega) (DEP.out _ rfl ⟨5, Ground.data⟩ (by simp) rfl))
          go_simp
          exact PUT.out 7 (by omega) x (Below.refl _ _) _ rfl
        · have h := eval_getD (show a'.eval (.tmp 28) = .int .i64 (dNum A B) from VAL.out 6 (by omega) (DEP.out _ rfl ⟨6, Ground.data⟩ (by simp) rfl))
          go_simp
          exact PUT.out 8 (by omega) x (Below.refl _ _) _ rfl
        · have h := eval_getD (show a'.eval (.tmp 29) = .int .i64 (dCode A B) from VAL.out 7 (by omega) (DEP.out _ rfl ⟨7, Ground.data⟩ (by simp) rfl))
          go_simp
          exact PUT.out 9 (by omega) x (Below.refl _ _) _ rfl
      · intro a' w3 hsz hdf hkeep hS0 hvals
        obtain ⟨listed, hls, hb3, hall⟩ := hS0
        rw [act_puts (n := 10) hsz hdf hkeep]
        have h8 : a'.eval (.tmp (dDf 8)) = .int .i64 (dNum A B) := hvals 8 (by show 8 < 10; omega)
        have h9 : a'.eval (.tmp (dDf 9)) = .int .i64 (dCode A B) := hvals 9 (by show 9 < 10; omega)
        generalize hff : (fun i => a'.eval (.tmp (dDf i))) = ff
        have g8 : ff 8 = .int .i64 (dNum A B) := by rw [← hff]; exact h8
        have g9 : ff 9 = .int .i64 (dCode A B) := by rw [← hff]; exact h9
        clear hsz hdf hkeep hvals hall hls hff h8 h9
        simp only [puts, Act.put, dDf, List.getD_cons_zero, List.getD_cons_succ, List.setIfInBounds_toArray, List.set_cons_succ, List.set_cons_zero, g8, g9]
        have hz3 := hb3.size
        have B3 := hid_mk (B2.out.trans (hb3.mono (by omega)))
        have FA3 := hid_mk (FA2.out.keep hb3 (by omega))
        have FB3 := hid_mk (FB2.out.keep hb3 (by omega))
        generalize dNum A B = dn at *
        generalize dCode A B = dc at *
        clear FA2 FB2 B2 hb3 g8 g9 SP SZA SZB
        obtain ⟨p0, p1, p2, p3⟩ := FA3.out
        go_wp2_with fail
        refine (TOA.out _ _ w.heap.size HFA.out (by omega) (row_below B3.out (Nat.le_refl _) HRA.out) hca).mono ?_
        rintro e w4 ⟨u4, rfl, hr4, hb4⟩
        obtain ⟨a4, c4, rfl⟩ := row_shape hr4
        have hz4 := hb4.size
        have B4 := hid_mk (B3.out.trans (hb4.mono (by omega)))
        have FA4 := hid_mk (FA3.out.keep hb4 (by omega))
        have FB4 := hid_mk (FB3.out.keep hb4 (by omega))
        have HR4 := hid_mk hr4
        have hbA : Hid (Below w4.heap.size w4 (w4.alloc (.cells #[.int .i64 A.kind, .int .i64 A.num, .string A.name, .slice a4 A.len c4] 29))) := (Below.refl _ _).alloc (Nat.le_refl _) _
        have G4 : Hid (Four (w4.alloc (.cells #[.int .i64 A.kind, .int .i64 A.num, .string A.name, .slice a4 A.len c4] 29)) w4.heap.size (.int .i64 A.kind) (.int .i64 A.num) (.string A.name) (.slice a4 A.len c4)) := Four.new w4 _ _ _ _ _
        have hzV : (w4.alloc (.cells #[.int .i64 A.kind, .int .i64 A.num, .string A.name, .slice a4 A.len c4] 29)).heap.size = w4.heap.size + 1 := by simp
        clear p0 p1 p2 p3 FA3 FB3 hb4 hr4 B3
        obtain ⟨q0, q1, q2, q3⟩ := FB4.out.keep hbA.out (by omega)
        go_wp2_with fail
        refine (TOB.out _ _ w.heap.size HFB.out (by rw [hzV]; omega) (row_below (B4.out.trans (hbA.out.mono (by omega))) (Nat.le_refl _) HRB.out) (by omega)).mono ?_
        rintro e w5 ⟨u5, rfl, hr5, hb5⟩
        obtain ⟨a5, c5, rfl⟩ := row_shape hr5
        have hz5 := hb5.size
        rw [hzV] at hz5
        have hb45 := hbA.out.trans (hb5.mono (by rw [hzV]; omega))
        have B5 := hid_mk (B4.out.trans (hb45.mono (by omega)))
        have FA5 := hid_mk (FA4.out.keep hb45 (by omega))
        have FB5 := hid_mk (FB4.out.keep hb45 (by omega))
        have G5 := hid_mk (G4.out.keep hb5 (by rw [hzV]; omega))
        have HRA5 := hid_mk (row_wide (row_below hb45 (Nat.le_refl _) HR4.out) (Nat.zero_le _) (show w4.heap.size ≤ w5.heap.size by omega))
        have HRB5 := hid_mk (row_wide hr5 (Nat.zero_le _) (Nat.le_refl _))
        have hbB : Hid (Below w5.heap.size w5 (w5.alloc (.cells #[.int .i64 B.kind, .int .i64 B.num, .string B.name, .slice a5 B.len c5] 29))) := (Below.refl _ _).alloc (Nat.le_refl _) _
        have H5 : Hid (Four (w5.alloc (.cells #[.int .i64 B.kind, .int .i64 B.num, .string B.name, .slice a5 B.len c5] 29)) w5.heap.size (.int .i64 B.kind) (.int .i64 B.num) (.string B.name) (.slice a5 B.len c5)) := Four.new w5 _ _ _ _ _
        have hzU : (w5.alloc (.cells #[.int .i64 B.kind, .int .i64 B.num, .string B.name, .slice a5 B.len c5] 29)).heap.size = w5.heap.size + 1 := by simp
        clear q0 q1 q2 q3 FA4 FB4 hb5 hr5 B4 hb45 G4 HR4 hbA hzV
        obtain ⟨g0, g1, g2, g3⟩ := G5.out.keep hbB.out (by omega)
        obtain ⟨h0, h1, h2, h3⟩ := H5.out
        go_wp2_with fail
        refine (IM.out _ _ _ w5.heap.size (by rw [hzU]; omega) (row_below hbB.out (Nat.le_refl _) HRA5.out) (row_below hbB.out (Nat.le_refl _) HRB5.out) hca (by omega) (B5.out.trans (hbB.out.mono (by omega)))).mono ?_
        rintro e w6 ⟨rfl, hb6⟩
        have hz6 := hb6.size
        rw [hzU] at hz6
        have hb56 := hbB.out.trans (hb6.mono (by rw [hzU]; omega))
        have B6 := hid_mk (B5.out.trans (hb56.mono (by omega)))
        have FA6 := hid_mk (FA5.out.keep hb56 (by omega))
        have FB6 := hid_mk (FB5.out.keep hb56 (by omega))
        have G6 := hid_mk (G5.out.keep hb56 (by omega))
        have H6 := hid_mk (H5.out.keep hb6 (by rw [hzU]; omega))
        have HRA6 := hid_mk (row_below hb56 (Nat.le_refl _) HRA5.out)
        have HRB6 := hid_mk (row_below hb56 (Nat.le_refl _) HRB5.out)
        have hnn : (dn != dn) = false := by simp
        have hcc : (dc != dc) = false := by simp
        clear g0 g1 g2 g3 h0 h1 h2 h3 FA5 FB5 hb6 B5 hb56 G5 HRA5 HRB5 hbB H5 hzU IM
        obtain ⟨p0, p1, p2, p3⟩ := FA6.out
        obtain ⟨g0, g1, g2, g3⟩ := G6.out
        go_wp2_with fail
        go_region_with (first | (go_at_call 8; refine (TOA.out _ _ w.heap.size HFA.out (by show w.heap.size ≤ w6.heap.size; omega) (row_below B6.out.drew (Nat.le_refl _) HRA.out) hca).mono ?_; rintro e w7 ⟨u7, rfl, hr7, hb7⟩; obtain ⟨a7, c7, rfl⟩ := row_shape hr7; have hz7 : w6.heap.size ≤ w7.heap.size := hb7.size; obtain ⟨k0, k1, k2, k3⟩ := (show Four w6.drew w4.heap.size _ _ _ _ from G6.out).keep hb7 (by show w4.heap.size < w6.heap.size; omega); have HR7 := hid_mk (row_below hb7 (show w5.heap.size ≤ w6.heap.size by omega) (row_drew HRA6.out)); have HN7 := hid_mk hr7; have H7 : Hid (Below w6.heap.size w6 w7) := ((Below.refl w6.heap.size w6).drew.trans hb7); clear hr7 hb7) | (go_at_call 10; refine (EQA.out _ _ _ HFA.out (row_wide HR7.out (Nat.zero_le _) (show w5.heap.size ≤ w7.heap.size by omega)) (row_wide HN7.out (Nat.zero_le _) (Nat.le_refl _))).mono ?_; rintro e w8 ⟨rfl, hb8⟩; have H8 := hid_mk (H7.out.trans (hb8.mono hz7)); clear hb8))
        all_goals
          have hz8 := H8.out.size
          have B8 := hid_mk (B6.out.trans (H8.out.mono (by omega)))
          have FB8 := hid_mk (FB6.out.keep H8.out (by omega))
          have HB8 := hid_mk (H6.out.keep H8.out (by omega))
          have HRB8 := hid_mk (row_below H8.out (show w5.heap.size ≤ w6.heap.size by omega) HRB6.out)
          clear p0 p1 p2 p3 g0 g1 g2 g3 FA6 FB6 G6 H6 HRA6 HRB6 B6 H7 HR7 HN7
          obtain ⟨p0, p1, p2, p3⟩ := FB8.out
          obtain ⟨g0, g1, g2, g3⟩ := HB8.out
          go_wp2_with fail
          go_region_with (first | (go_at_call 8; refine (TOB.out _ _ w.heap.size HFB.out (by show w.heap.size ≤ w8.heap.size; omega) (row_below B8.out.drew (Nat.le_refl _) HRB.out) (by omega)).mono ?_; rintro e w9 ⟨u9, rfl, hr9, hb9⟩; obtain ⟨a9, c9, rfl⟩ := row_shape hr9; have hz9 : w8.heap.size ≤ w9.heap.size := hb9.size; obtain ⟨k0, k1, k2, k3⟩ := (show Four w8.drew w5.heap.size _ _ _ _ from HB8.out).keep hb9 (by show w5.heap.size < w8.heap.size; omega); have HR9 := hid_mk (row_below hb9 (show w5.heap.size ≤ w8.heap.size by omega) (row_drew HRB8.out)); have HN9 := hid_mk hr9; have H9 : Hid (Below w8.heap.size w8 w9) := ((Below.refl w8.heap.size w8).drew.trans hb9); clear hr9 hb9) | (go_at_call 10; refine (EQB.out _ _ _ HFB.out (row_wide HR9.out (Nat.zero_le _) (show w5.heap.size ≤ w9.heap.size by omega)) (row_wide HN9.out (Nat.zero_le _) (Nat.le_refl _))).mono ?_; rintro e w10 ⟨rfl, hb10⟩; have H10 := hid_mk (H9.out.trans (hb10.mono hz9)); clear hb10))
          all_goals go_wp2
          all_goals go_ret
          all_goals exact ⟨rfl, B8.out.trans (H10.out.mono (by omega))⟩
    · have hlb : left' B.cost (1048576 - A.cost) = -1 := by unfold left'; rw [if_neg hcb]
      go_wp2_with (go_at_call 6; refine (SZB.out _ (1048576 - A.cost) w.heap.size _ HFB.out (by omega) (row_below B1.out (Nat.le_refl _) HRB.out) (by omega)).mono ?_; rw [hlb]; rintro e w2 ⟨rfl, hb2⟩)
      go_ret
      exact ⟨rfl, B1.out.trans (hb2.mono (by omega))⟩
  · have hl : left' A.cost 1048576 = -1 := by unfold left'; rw [if_neg hca]
    go_enter Tryd.func4, Tryd.ntmps4
    go_wp2_with (go_at_call 6; refine (SZA.out _ 1048576 w.heap.size _ HFA.out (by simp; omega) (row_below (HB2 _ _).out (Nat.le_refl _) HRA.out) (by omega)).mono ?_; rw [hl]; rintro e w1 ⟨rfl, hb1⟩)
    go_ret
    exact ⟨rfl, (HB2 _ _).out.trans (hb1.mono (by simp; omega))⟩
end Go.Proofs.YtdcpmkhebfcfgaaDoor
namespace Go.Proofs.YtdcpmkhebfcfgaaDoor
namespace Df
open Go.ChangeShapes Go.WideShapes Go.ChangeAt Go.WideMaps Go.WideElems Go.RowKit

theorem own : ownKnob Tryd.prog.godebug = none := by kernel_rfl
theorem laidOut : laidOutB Tryd.prog = true := by kernel_rfl
theorem gWords : Tryd.prog.globalNamed "loop.example/g00135/impl.takenWords" = some 2 := by kernel_rfl
theorem tWords : (Tryd.prog.globals[2]?).map (·.type) = some 84 := by kernel_rfl
theorem cellsW : Tryd.prog.cellsOf 84 = 21 := by kernel_rfl
theorem gKids : Tryd.prog.globalNamed "loop.example/g00135/impl.kidForms" = some 1 := by kernel_rfl
theorem tKids : (Tryd.prog.globals[1]?).map (·.type) = some 77 := by kernel_rfl
theorem cellsK : Tryd.prog.cellsOf 77 = 30 := by kernel_rfl
theorem gCases : Tryd.prog.globalNamed "loop.example/g00135/impl.caseForms" = some 0 := by kernel_rfl
theorem tCases : (Tryd.prog.globals[0]?).map (·.type) = some 76 := by kernel_rfl
theorem cellsC : Tryd.prog.cellsOf 76 = 3 := by kernel_rfl
theorem cellsS : Tryd.prog.cellsOf 9 = 1 := by kernel_rfl
theorem datumW : (Rows.laid_loop_example_g00135_impl_takenWords : DataW Unit) = strData kwWords := by kernel_rfl
theorem datumK : (Rows.laid_loop_example_g00135_impl_kidForms : DataW Unit) = strData kidWords := by kernel_rfl
theorem datumC : (Rows.laid_loop_example_g00135_impl_caseForms : DataW Unit) = strData caseWords := by kernel_rfl

theorem door_met (os : Os) (args : Array Value) : laidMetH Tryd.prog Rows.fnExactDifferRow.laid ((World.doorLaid Tryd.prog 400 os).forCall (fun _ _ => 0) ⟨#[], args, []⟩).memory :=
  laidMetH_of_parts3 (fuel := 8) (laidMet_of_run' 8 (by kernel_rfl) (by kernel_rfl)) (by kernel_rfl) (by kernel_rfl)

theorem of_laid {W : World} (h : laidMetH Tryd.prog Rows.fnExactDifferRow.laid W) : Tabs W := by
  rw [MakeChecks.laidMetH_plain _ _ _ (by kernel_rfl)] at h
  obtain ⟨ps, ⟨g0, t0, cs0, f0, p0, q0, hg0, ht0, hv0, hd0, ⟨g1, t1, cs1, f1, p1, q1, hg1, ht1, hv1, hd1, ⟨g2, t2, cs2, f2, p2, q2, hg2, ht2, hv2, hd2, _, _⟩, _⟩, _⟩, _, _⟩ := h
  obtain rfl := Option.some.inj (gWords.symm.trans hg0)
  obtain rfl := Option.some.inj (tWords.symm.trans ht0)
  obtain rfl := Option.some.inj (gKids.symm.trans hg1)
  obtain rfl := Option.some.inj (tKids.symm.trans ht1)
  obtain rfl := Option.some.inj (gCases.symm.trans hg2)
  obtain rfl := Option.some.inj (tCases.symm.trans ht2)
  have hl := var_lt hg0 hv0
  rw [datumW] at hd0
  rw [datumK] at hd1
  rw [datumC] at hd2
  exact ⟨fun i hi => strs_of_read hg0 Tryd.underlying84 Tryd.underlying9 cellsS cellsW hv0 hd0 i hi,
    fun i hi => strs_of_read hg1 Tryd.underlying77 Tryd.underlying9 cellsS cellsK hv1 hd1 i hi,
    fun i hi => strs_of_read hg2 Tryd.underlying76 Tryd.underlying9 cellsS cellsC hv2 hd2 i hi, hl⟩

theorem vars_three {H : Type} {enc : TypeId × Value → H} {P : Program} {w : World} {spare : Nat → Bool} {n0 n1 n2 : String} {gs : List (DataW H)} {ps : List MemPlace} (h : DataW.TrodVars enc P w spare [n0, n1, n2] gs ps) :
    ∃ d0 d1 d2, gs = [d0, d1, d2] := by
  cases gs with
  | nil => simp [DataW.TrodVars] at h
  | cons d ds =>
    obtain ⟨_, _, _, _, _, _, _, _, _, _, hs, _⟩ := h
    obtain ⟨_, _, _, _, d1, _, _, _, _, _, d2, _, rfl, _⟩ := trodVars_two hs
    exact ⟨d, d1, d2, rfl⟩

set_option maxRecDepth 100000 in
theorem lifted (os : Os) (started : os.Started) (H : Type) (enc : TypeId × Value → H) :
    ReturnsInHanded {} Tryd.checked os 4 .any (fun w args => (Rows.fnExactDifferSpec.pre enc Tryd.prog Tryd.f4 [] false w args ∧ laidMetH Tryd.prog Rows.fnExactDifferRow.laid w) ∧ sizedMet enc Tryd.prog Tryd.f4 (OpenSpec.ofChange Rows.fnExactDifferSpec) false w args)
      (Rows.fnExactDifferSpec.post enc Tryd.prog Tryd.f4 false true false false) := by
  refine returnsInHanded_of_change_and (C := Tryd.checked) (X := fun w _ => laidMetH Tryd.prog Rows.fnExactDifferRow.laid w) (fun _ _ _ hh h => h.of_heap hh) own started (by kernel_rfl) Tryd.func4
    (ChangeSpec.witness_shaped (enc := enc) (C := Tryd.checked) (os := os) (X := fun w _ => laidMetH Tryd.prog Rows.fnExactDifferRow.laid w) false (World.doorLaid Tryd.prog 400 os) #[.agg #[.int .i64 0, .int .i64 0, .string ByteArray.empty, .slice none 0 0], .agg #[.int .i64 0, .int .i64 0, .string ByteArray.empty, .slice none 0 0]] 8 rfl (World.shaped_of_RefB (by kernel_rfl) (by kernel_rfl)) (by kernel_rfl) (by kernel_rfl) (by kernel_rfl) (door_met os _)) ?_
  intro W base args ds gs before hval0 hW _ _ hL _
  have hval : ∀ (j : Nat) t v, Tryd.f4.params[j]? = some t → args[j]? = some v → Value.okWide Tryd.prog W .any base t v := hval0
  have hW' := hW
  obtain ⟨p, q, hA0, hV, rfl, hfz, hnd⟩ := hW
  have hA : DataW.TrodAll enc Tryd.prog W 0 (fun _ => true) true Tryd.f4.params.toList args.toList ds p := hA0
  rw [Tryd.params4] at hA hval
  obtain ⟨v0, vs0, d0, ds0, p0, q0, hargs, rfl, rfl, h0, r0⟩ := trodAll_cons hA
  obtain ⟨v1, vs1, e1, ds1, p1, q1, hargs1, rfl, rfl, h1, r1⟩ := trodAll_cons r0
  obtain ⟨rfl, rfl, rfl⟩ := trodAll_nil r1
  obtain rfl : args = #[v0, v1] := by cases args; simp_all
  obtain ⟨d1, d2, d3, rfl⟩ := vars_three hV
  have open1 : ∀ (v : Value) (d : DataW H) (q : List MemPlace) (fuel : Nat), Value.okWide Tryd.prog W .any base 24 v → DataW.trod enc Tryd.prog W 0 (fun _ => true) true fuel 24 v.cells.toList = some (d, q) → ∃ (T : Nd) (u : Value), v = T.val u ∧ T.Fine ∧ Row 0 W.heap.size W T u := by
    intro v d q fuel hv hfu
    unfold Value.okWide at hv
    rw [Tryd.underlying24] at hv
    obtain ⟨cs, rfl, _, _⟩ := hv
    obtain ⟨T, u, hcs, hf, hr⟩ := open_nd Tryd.underlying24 rfl rfl rfl rfl Tryd.underlying3 Tryd.underlying3 Tryd.underlying9 Tryd.underlying22 (by kernel_rfl) (by kernel_rfl) (by kernel_rfl) (by kernel_rfl) (by kernel_rfl) fuel _ _ hfu
    have hcs' : cs.toList = [.int .i64 T.kind, .int .i64 T.num, .string T.name, u] := hcs
    obtain rfl : cs = #[.int .i64 T.kind, .int .i64 T.num, .string T.name, u] := by cases cs; simp_all
    exact ⟨T, u, rfl, hf, hr⟩
  obtain ⟨fuel, hfu⟩ := h0
  obtain ⟨fuel1, hfu1⟩ := h1
  obtain ⟨T, u, rfl, hf, hr⟩ := open1 v0 _ _ fuel (hval 0 24 v0 rfl rfl) hfu
  obtain ⟨U, v, rfl, hf1, hr1⟩ := open1 v1 _ _ fuel1 (hval 1 24 v1 rfl rfl) hfu1
  refine (law_differ T U u v W hf hf1 hr hr1 (of_laid hL)).mono fun e W' ⟨he, hb⟩ => ?_
  subst he
  exact ⟨_, rfl, law_post laidOut Tryd.underlying4 (by kernel_rfl) (by kernel_rfl) (by kernel_rfl) rfl hW' hb⟩

theorem said : Rows.FnExactDifferSaid :=
  OpenClaim.holds_of_wide 4 Tryd.f4 rfl rfl rfl rfl rfl rfl rfl ⟨rfl, rfl, rfl, rfl, rfl⟩ rfl rfl rfl rfl rfl (by kernel_rfl) Tryd.func4 (by kernel_rfl)
    (of_decide_eq_true (by kernel_rfl)) (by unfold Func.isWrapper; first | (rw [if_pos (by decide +kernel)]; kernel_rfl) | (rw [if_neg (by decide +kernel)]; exact ⟨rfl, rfl⟩))
    (fun os started H enc _ => lifted os started H enc)

theorem plain (f : FuncId) (fn : Func) (hf : Tryd.pinned.checked.prog.funcNamed "loop.example/g00135/laws.FnExactDiffer" = some f) (hfn : Tryd.pinned.checked.prog.funcs[f]? = some fn) :
    false = Tryd.pinned.checked.prog.looks [] ∧ ∀ (j : Nat) t, fn.params[j]? = some t → Tryd.pinned.checked.prog.wantsStandIn t = false := by
  obtain rfl : f = 4 := Option.some.inj ((show Tryd.prog.funcNamed "loop.example/g00135/laws.FnExactDiffer" = some 4 by kernel_rfl).symm.trans hf) |>.symm
  obtain rfl : fn = Tryd.f4 := (Option.some.inj (Tryd.func4.symm.trans hfn)).symm
  refine ⟨by kernel_rfl, fun j t ht => ?_⟩
  rw [Tryd.params4] at ht
  obtain rfl : t = 24 := by simpa using Array.mem_of_getElem? ht
  exact (show Tryd.prog.wantsStandIn 24 = false by kernel_rfl)
end Df

theorem fnExactDiffer_card : Rows.FnExactDifferCardSaid :=
  Claim7.holds_tied_plain_at .later [] _ _ _ _ Df.said (fun _ h => by cases h) (by kernel_rfl) (fun _ h => by cases h) fnExactDiffer_row_tie rfl ⟨rfl, rfl⟩ (by kernel_rfl) rfl Df.plain (by kernel_rfl)
#print axioms fnExactDiffer_card
end Go.Proofs.YtdcpmkhebfcfgaaDoor
