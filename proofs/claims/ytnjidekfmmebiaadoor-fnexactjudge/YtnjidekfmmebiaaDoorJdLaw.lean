/- The walk of the law FnExactJudge. -/
import Derived.Test.YtnjidekfmmebiaaDoorJdJudge
import Derived.Test.YtnjidekfmmebiaaDoorDfReg
set_option linter.unusedVariables false
namespace Go.Proofs.YtnjidekfmmebiaaDoor
open Go.RowKit

/-- What the operations of 'Judge(toReport(aBase), toReport(aMutant))' hold. -/
def VJ (B M : Rp) (u v : Value) (lo : Nat) (i : Nat) (w : World) (x : Value) : Prop := match i with
  | 0 => x = B.val u
  | 1 => ∃ p c, x = B.val (.slice p B.ls.length c) ∧ Rw 0 w.heap.size w B.ls (.slice p B.ls.length c)
  | 2 => x = M.val v
  | 3 => ∃ p c, x = M.val (.slice p M.ls.length c) ∧ Rw 0 w.heap.size w M.ls (.slice p M.ls.length c)
  | 4 => ∃ sv, x = .tuple #[.int .i64 (judgeV B M), sv] ∧ Il lo w.heap.size w (judgeS B M) sv
  | 5 => ∃ sv, x = .tuple #[.int .i64 (judgeV B M), sv] ∧ Il lo w.heap.size w (judgeS B M) sv
  | 6 => x = .int .i64 (judgeV B M)
  | 7 => ∃ sv, x = sv ∧ Il lo w.heap.size w (judgeS B M) sv
  | 8 => x = .int .i64 (judgeV B M)
  | 9 => ∃ sv, x = sv ∧ Il lo w.heap.size w (judgeS B M) sv
  | _ => True
theorem VJ_calm {B M : Rp} {u v : Value} {lo : Nat} {w w' : World} (h : Below w.heap.size w w') (i : Nat) (x : Value) (hx : VJ B M u v lo i w x) : VJ B M u v lo i w' x := by
  match i, hx with
  | 0, hx => exact hx
  | 1, ⟨p, c, h1, h2⟩ => exact ⟨p, c, h1, (h2.below h (Nat.le_refl _)).wide (Nat.le_refl _) h.size⟩
  | 2, hx => exact hx
  | 3, ⟨p, c, h1, h2⟩ => exact ⟨p, c, h1, (h2.below h (Nat.le_refl _)).wide (Nat.le_refl _) h.size⟩
  | 4, ⟨p, h1, h2⟩ => exact ⟨p, h1, (h2.below h (Nat.le_refl _)).wide (Nat.le_refl _) h.size⟩
  | 5, ⟨p, h1, h2⟩ => exact ⟨p, h1, (h2.below h (Nat.le_refl _)).wide (Nat.le_refl _) h.size⟩
  | 6, hx => exact hx
  | 7, ⟨p, h1, h2⟩ => exact ⟨p, h1, (h2.below h (Nat.le_refl _)).wide (Nat.le_refl _) h.size⟩
  | 8, hx => exact hx
  | 9, ⟨p, h1, h2⟩ => exact ⟨p, h1, (h2.below h (Nat.le_refl _)).wide (Nat.le_refl _) h.size⟩
  | (i + 10), _ => exact trivial
/-- What the operations of '!eqReport(x, toReport(a))' hold. -/
def VE (R : Rp) (p u : Value) (i : Nat) (w : World) (x : Value) : Prop := match i with
  | 0 => x = R.val p
  | 1 => x = R.val u
  | 2 => ∃ a c, x = R.val (.slice a R.ls.length c) ∧ Rw 0 w.heap.size w R.ls (.slice a R.ls.length c)
  | 3 => x = .bool true
  | 4 => x = .bool false
  | _ => True
theorem VE_calm {R : Rp} {p u : Value} {w w' : World} (h : Below w.heap.size w w') (i : Nat) (x : Value) (hx : VE R p u i w x) : VE R p u i w' x := by
  match i, hx with
  | 0, hx => exact hx
  | 1, hx => exact hx
  | 2, ⟨p, c, h1, h2⟩ => exact ⟨p, c, h1, (h2.below h (Nat.le_refl _)).wide (Nat.le_refl _) h.size⟩
  | 3, hx => exact hx
  | 4, hx => exact hx
  | (i + 5), _ => exact trivial
def dJ8 (i : Nat) : Nat := [28, 29, 30, 31, 32, 27, 33, 34, 6, 7].getD i 1000
theorem dJ8_inj (i j : Nat) (hi : i < 10) (hj : j < 10) (h : dJ8 i = dJ8 j) : i = j := by
  have : ((List.range 10).all fun i => (List.range 10).all fun j => dJ8 i != dJ8 j || i == j) = true := by decide
  have := List.all_eq_true.1 (List.all_eq_true.1 this i (List.mem_range.2 hi)) j (List.mem_range.2 hj)
  simpa [h] using this
theorem dJ8_lt (i : Nat) (hi : i < 10) : dJ8 i < 119 := by
  have : ((List.range 10).all fun i => decide (dJ8 i < 119)) = true := by decide
  simpa using List.all_eq_true.1 this i (List.mem_range.2 hi)
theorem dJ8_ne {t : Nat} (ht : t = 2 ∨ t = 3) (i : Nat) (hi : i < 10) : t ≠ dJ8 i := by
  have : ((List.range 10).all fun i => decide (dJ8 i ≠ 2) && decide (dJ8 i ≠ 3)) = true := by decide
  have := List.all_eq_true.1 this i (List.mem_range.2 hi)
  simp at this
  omega
def dJ31 (i : Nat) : Nat := [95, 96, 97, 98, 99, 94, 100, 101, 15, 16].getD i 1000
theorem dJ31_inj (i j : Nat) (hi : i < 10) (hj : j < 10) (h : dJ31 i = dJ31 j) : i = j := by
  have : ((List.range 10).all fun i => (List.range 10).all fun j => dJ31 i != dJ31 j || i == j) = true := by decide
  have := List.all_eq_true.1 (List.all_eq_true.1 this i (List.mem_range.2 hi)) j (List.mem_range.2 hj)
  simpa [h] using this
theorem dJ31_lt (i : Nat) (hi : i < 10) : dJ31 i < 119 := by
  have : ((List.range 10).all fun i => decide (dJ31 i < 119)) = true := by decide
  simpa using List.all_eq_true.1 this i (List.mem_range.2 hi)
theorem dJ31_ne {t : Nat} (ht : t = 2 ∨ t = 3) (i : Nat) (hi : i < 10) : t ≠ dJ31 i := by
  have : ((List.range 10).all fun i => decide (dJ31 i ≠ 2) && decide (dJ31 i ≠ 3)) = true := by decide
  have := List.all_eq_true.1 this i (List.mem_range.2 hi)
  simp at this
  omega
def dJ14 (i : Nat) : Nat := [54, 55, 56, 57, 58].getD i 1000
theorem dJ14_inj (i j : Nat) (hi : i < 5) (hj : j < 5) (h : dJ14 i = dJ14 j) : i = j := by
  have : ((List.range 5).all fun i => (List.range 5).all fun j => dJ14 i != dJ14 j || i == j) = true := by decide
  have := List.all_eq_true.1 (List.all_eq_true.1 this i (List.mem_range.2 hi)) j (List.mem_range.2 hj)
  simpa [h] using this
theorem dJ14_lt (i : Nat) (hi : i < 5) : dJ14 i < 119 := by
  have : ((List.range 5).all fun i => decide (dJ14 i < 119)) = true := by decide
  simpa using List.all_eq_true.1 this i (List.mem_range.2 hi)
theorem dJ14_ne {t : Nat} (ht : t = 8 ∨ t = 2) (i : Nat) (hi : i < 5) : t ≠ dJ14 i := by
  have : ((List.range 5).all fun i => decide (dJ14 i ≠ 8) && decide (dJ14 i ≠ 2)) = true := by decide
  have := List.all_eq_true.1 this i (List.mem_range.2 hi)
  simp at this
  omega
def dJ16 (i : Nat) : Nat := [59, 60, 61, 62, 63].getD i 1000
theorem dJ16_inj (i j : Nat) (hi : i < 5) (hj : j < 5) (h : dJ16 i = dJ16 j) : i = j := by
  have : ((List.range 5).all fun i => (List.range 5).all fun j => dJ16 i != dJ16 j || i == j) = true := by decide
  have := List.all_eq_true.1 (List.all_eq_true.1 this i (List.mem_range.2 hi)) j (List.mem_range.2 hj)
  simpa [h] using this
theorem dJ16_lt (i : Nat) (hi : i < 5) : dJ16 i < 119 := by
  have : ((List.range 5).all fun i => decide (dJ16 i < 119)) = true := by decide
  simpa using List.all_eq_true.1 this i (List.mem_range.2 hi)
theorem dJ16_ne {t : Nat} (ht : t = 9 ∨ t = 3) (i : Nat) (hi : i < 5) : t ≠ dJ16 i := by
  have : ((List.range 5).all fun i => decide (dJ16 i ≠ 9) && decide (dJ16 i ≠ 3)) = true := by decide
  have := List.all_eq_true.1 this i (List.mem_range.2 hi)
  simp at this
  omega

theorem judgeS_len (B M : Rp) (h : costS M.ls ≤ 1048576) : (judgeS B M).length ≤ 1048576 := by
  unfold judgeS
  split
  · simp
  · split
    · rename_i k hk
      have hlt := miss_lt hk
      rw [sc_at hlt]
      have := cost_at M.ls k hlt
      unfold Sn.cost at this
      omega
    · simp

set_option maxHeartbeats 16000000 in
set_option maxRecDepth 100000 in
theorem law_judge (B M : Rp) (u v : Value) (w : World) (hx : OkS B.ls) (hy : OkS M.ls) (h : Rw 0 w.heap.size w B.ls u) (h' : Rw 0 w.heap.size w M.ls v) (hT : Tab w) :
    Calls Tryd.prog 4 #[B.val u, M.val v] w fun e w' => e = .returned (.bool true) ∧ Below w.heap.size w w' := by
  obtain ⟨au, cu, rfl⟩ := h.shape
  obtain ⟨bv, cv, rfl⟩ := h'.shape
  have hmix : Tryd.prog.follows Departure.mixedOrders = true := by kernel_rfl
  have B0 := hid_mk (fun o o' : Obj => ((Below.refl w.heap.size w).alloc (Nat.le_refl _) o).alloc (by simp) o')
  have SZ1 := hid_mk (fun l W (hb : Below w.heap.size w W) (hl : l ≤ 1048576) => sz_report B _ w.heap.size l W hx hb.size (h.below hb (Nat.le_refl _)) hl)
  have SZ2 := hid_mk (fun l W (hb : Below w.heap.size w W) (hl : l ≤ 1048576) => sz_report M _ w.heap.size l W hy hb.size (h'.below hb (Nat.le_refl _)) hl)
  have TO1 := hid_mk (fun (hc : costS B.ls ≤ 1048576) W (hb : Below w.heap.size w W) => to_report B _ w.heap.size W hc hb.size (h.below hb (Nat.le_refl _)))
  have TO2 := hid_mk (fun (hc : costS M.ls ≤ 1048576) W (hb : Below w.heap.size w W) => to_report M _ w.heap.size W hc hb.size (h'.below hb (Nat.le_refl _)))
  have SP := hid_mk (fun (hc : costS B.ls ≤ 1048576) (hd : costS M.ls ≤ 1048576) => fun u v la ha lb hb W h1 h2 h3 h4 => spec_judge B M u v la ha lb hb W hc hd h1 h2 h3 h4)
  have IM := hid_mk (fun (hc : costS B.ls ≤ 1048576) (hd : costS M.ls ≤ 1048576) => fun u v la ha lb hb W (hbW : Below w.heap.size w W) h1 h2 h3 h4 => impl_judge B M u v la ha lb hb W hx hy hc hd h1 h2 h3 h4 (Tab.later (B := 0) hT hbW))
  have EQ1 := hid_mk (fun (hc : costS B.ls ≤ 1048576) => fun u v la ha lb hb W h1 h2 h3 h4 => eq_report B u v la ha lb hb W hc h1 h2 h3 h4)
  have EQ2 := hid_mk (fun (hc : costS M.ls ≤ 1048576) => fun u v la ha lb hb W h1 h2 h3 h4 => eq_report M u v la ha lb hb W hc h1 h2 h3 h4)
  have MK1 := hid_mk (fun (hc : costS B.ls ≤ 1048576) => fun k v lo hi W h1 h2 h3 h4 => mark_report B k v lo hi W hc h1 h2 h3 h4)
  have MK2 := hid_mk (fun (hc : costS M.ls ≤ 1048576) => fun k v lo hi W h1 h2 h3 h4 => mark_report M k v lo hi W hc h1 h2 h3 h4)
  clear h h' hT hx hy
  unfold Rp.val at *
  by_cases hc : costS B.ls ≤ 1048576
  · have e1 : left' (costS B.ls) 1048576 = ((1048576 - costS B.ls : Nat) : Int) := by unfold left'; rw [if_pos hc]
    have SZ1 := hid_mk (fun W hb => SZ1.out 1048576 W hb (Nat.le_refl _))
    have SZ2 := hid_mk (fun W hb => SZ2.out (1048576 - costS B.ls) W hb (by omega))
    rw [e1] at SZ1
    by_cases hd : costS M.ls ≤ 1048576 - costS B.ls
    · have e2 : left' (costS M.ls) (1048576 - costS B.ls) = ((1048576 - costS B.ls - costS M.ls : Nat) : Int) := by unfold left'; rw [if_pos hd]
      rw [e2] at SZ2
      have TO1 := hid_mk (TO1.out hc)
      have TO2 := hid_mk (TO2.out (by omega))
      have SP := hid_mk (SP.out hc (by omega))
      have IM := hid_mk (IM.out hc (by omega))
      have EQ1 := hid_mk (EQ1.out hc)
      have EQ2 := hid_mk (EQ2.out (by omega))
      have MK1 := hid_mk (MK1.out hc)
      have MK2 := hid_mk (MK2.out (by omega))
      have hjl := judgeS_len B M (by omega)
      clear e1 e2
      generalize 1048576 - costS B.ls = q1 at *
      generalize q1 - costS M.ls = q2 at *
      clear hc hd
      have hvv : (judgeV B M != judgeV B M) = false := by simp
      go_enter Tryd.func4, Tryd.ntmps4
      have X0 := hid_mk (two_boxes w (.slice au B.ls.length cu) (.bool B.ex) (.int .i64 B.ru) (.slice bv M.ls.length cv) (.bool M.ex) (.int .i64 M.ru) 31 31)
      go_wp2_with fail
      refine (SZ1.out _ (B0.out _ _)).mono ?_
      rintro e w1 ⟨rfl, hb1⟩
      have hz1 := hb1.size
      simp only [World.size_alloc] at hz1
      have B_w1 := hid_mk ((B0.out _ _).trans (hb1.mono (by simp; omega)))
      have FB_w1 := hid_mk (X0.out.1.keep hb1 (by simp; omega))
      have FM_w1 := hid_mk (X0.out.2.keep hb1 (by simp))
      clear hb1 X0 B0 SZ1
      obtain ⟨FMa, FMb, FMc⟩ := FM_w1.out
      go_wp2_with fail
      refine (SZ2.out _ B_w1.out).mono ?_
      rintro e w2 ⟨rfl, hb2⟩
      have hz2 := hb2.size
      clear FMa FMb FMc
      have B_w2 := hid_mk (B_w1.out.trans (hb2.mono (by omega)))
      have FB_w2 := hid_mk (FB_w1.out.keep hb2 (by omega))
      have FM_w2 := hid_mk (FM_w1.out.keep hb2 (by omega))
      clear B_w1 FB_w1 FM_w1
      clear hb2 SZ2
      go_wp2_with fail
      refine wp_region_inv hmix (by kernel_rfl) dJ8 (VJ B M (.slice au B.ls.length cu) (.slice bv M.ls.length cv) w2.heap.size) (fun _ x => Below w2.heap.size w2 x) ((Below.refl _ _).drew) ?_ ?_
      · intro listed a' x i hI hr
        have hi : i < 10 := (ready_unl hr).1
        have hS := hI.s
        have hzx := hS.size
        have PUT := hid_mk (fun (i : Nat) (hi : i < 10) (x' : World) (hb : Below x.heap.size x x') (y : Value) (hy : (VJ B M (.slice au B.ls.length cu) (.slice bv M.ls.length cv) w2.heap.size) i x' y) => hI.put dJ8_inj dJ8_lt (VJ_calm hb) (hS.trans (hb.mono hS.size)) hi hy)
        have VAL := hid_mk (fun (j : Nat) (hj : j < 10) (hl : listed.getD j false = true) => hI.vals j hj (getD_tr hl))
        have DEP := hid_mk (fun o (ho : _ = some o) => ready_dep hr (o := o) ho)
        have s2 : a'.tmps[2]?.getD undef = .pointer (some ⟨w.heap.size, 0, none⟩) := eval_getD (hI.keep 2 (fun i hi => dJ8_ne (by simp) i hi))
        have s3 : a'.tmps[3]?.getD undef = .pointer (some ⟨w.heap.size + 1, 0, none⟩) := eval_getD (hI.keep 3 (fun i hi => dJ8_ne (by simp) i hi))
        obtain ⟨FBa, FBb, FBc⟩ := FB_w2.out.keep hS (by omega)
        obtain ⟨FMa, FMb, FMc⟩ := FM_w2.out.keep hS (by omega)
        have BX := hid_mk (B_w2.out.trans (hS.mono (by omega)))
        have HSX := hid_mk hS
        clear hI hr hS
        rcases (by omega : i = 0 ∨ i = 1 ∨ i = 2 ∨ i = 3 ∨ i = 4 ∨ i = 5 ∨ i = 6 ∨ i = 7 ∨ i = 8 ∨ i = 9) with rfl | rfl | rfl | rfl | rfl | rfl | rfl | rfl | rfl | rfl
        all_goals (refine wpOp_of rfl rfl ?_)
        · go_simp
          exact PUT.out 0 (by omega) x (Below.refl _ _) _ rfl
        · have h := eval_getD (show a'.eval (.tmp 28) = .agg #[.slice au B.ls.length cu, .bool B.ex, .int .i64 B.ru] from VAL.out 0 (by omega) (DEP.out _ rfl ⟨0, Ground.data⟩ (by simp) rfl))
          go_simp
          refine (TO1.out _ BX.out).mono ?_
          rintro e x2 ⟨u2, rfl, hr2, hb2, _⟩
          obtain ⟨a2, c2, rfl⟩ := hr2.shape
          exact PUT.out 1 (by omega) x2 hb2 _ ⟨a2, c2, rfl, hr2.wide (Nat.zero_le _) (Nat.le_refl _)⟩
        · go_simp
          exact PUT.out 2 (by omega) x (Below.refl _ _) _ rfl
        · have h := eval_getD (show a'.eval (.tmp 30) = .agg #[.slice bv M.ls.length cv, .bool M.ex, .int .i64 M.ru] from VAL.out 2 (by omega) (DEP.out _ rfl ⟨2, Ground.data⟩ (by simp) rfl))
          go_simp
          refine (TO2.out _ BX.out).mono ?_
          rintro e x2 ⟨u2, rfl, hr2, hb2, _⟩
          obtain ⟨a2, c2, rfl⟩ := hr2.shape
          exact PUT.out 3 (by omega) x2 hb2 _ ⟨a2, c2, rfl, hr2.wide (Nat.zero_le _) (Nat.le_refl _)⟩
        · obtain ⟨a1, c1, h1, r1⟩ : ∃ p c, a'.eval (.tmp 29) = B.val (.slice p B.ls.length c) ∧ Rw 0 x.heap.size x B.ls (.slice p B.ls.length c) := VAL.out 1 (by omega) (DEP.out _ rfl ⟨1, Ground.data⟩ (by simp) rfl)
          obtain ⟨a2, c2, h2, r2⟩ : ∃ p c, a'.eval (.tmp 31) = M.val (.slice p M.ls.length c) ∧ Rw 0 x.heap.size x M.ls (.slice p M.ls.length c) := VAL.out 3 (by omega) (DEP.out _ rfl ⟨3, Ground.data⟩ (by simp) rfl)
          have g1 := eval_getD h1
          have g2 := eval_getD h2
          unfold Rp.val at g1 g2
          have R1 := hid_mk r1
          have R2 := hid_mk r2
          clear r1 r2 h1 h2
          go_simp
          refine (SP.out _ _ _ _ _ _ _ (Nat.le_refl _) (Nat.le_refl _) R1.out R2.out).mono ?_
          rintro e x2 ⟨sv, rfl, hil, hb2⟩
          exact PUT.out 4 (by omega) x2 hb2 _ ⟨sv, rfl, hil.wide (by omega) (Nat.le_refl _)⟩
        · obtain ⟨sv, h1, h2⟩ : ∃ sv, a'.eval (.tmp 32) = .tuple #[.int .i64 (judgeV B M), sv] ∧ Il w2.heap.size x.heap.size x (judgeS B M) sv := VAL.out 4 (by omega) (DEP.out _ rfl ⟨4, Ground.data⟩ (by simp) rfl)
          have g1 := eval_getD h1
          have H2 := hid_mk h2
          clear h1 h2
          go_simp
          exact PUT.out 5 (by omega) x (Below.refl _ _) _ ⟨sv, rfl, H2.out⟩
        · obtain ⟨sv, h1, h2⟩ : ∃ sv, a'.eval (.tmp 27) = .tuple #[.int .i64 (judgeV B M), sv] ∧ Il w2.heap.size x.heap.size x (judgeS B M) sv := VAL.out 5 (by omega) (DEP.out _ rfl ⟨5, Ground.data⟩ (by simp) rfl)
          have g1 := eval_getD h1
          have H2 := hid_mk h2
          clear h1 h2
          go_simp
          exact PUT.out 6 (by omega) x (Below.refl _ _) _ rfl
        · obtain ⟨sv, h1, h2⟩ : ∃ sv, a'.eval (.tmp 27) = .tuple #[.int .i64 (judgeV B M), sv] ∧ Il w2.heap.size x.heap.size x (judgeS B M) sv := VAL.out 5 (by omega) (DEP.out _ rfl ⟨5, Ground.data⟩ (by simp) rfl)
          have g1 := eval_getD h1
          have H2 := hid_mk h2
          clear h1 h2
          go_simp
          exact PUT.out 7 (by omega) x (Below.refl _ _) _ ⟨sv, rfl, H2.out⟩
        · have h := eval_getD (show a'.eval (.tmp 33) = .int .i64 (judgeV B M) from VAL.out 6 (by omega) (DEP.out _ rfl ⟨6, Ground.data⟩ (by simp) rfl))
          go_simp
          exact PUT.out 8 (by omega) x (Below.refl _ _) _ rfl
        · obtain ⟨sv, h1, h2⟩ : ∃ sv, a'.eval (.tmp 34) = sv ∧ Il w2.heap.size x.heap.size x (judgeS B M) sv := VAL.out 7 (by omega) (DEP.out _ rfl ⟨7, Ground.data⟩ (by simp) rfl)
          obtain ⟨sa, sc, rfl⟩ := h2.shape
          have g1 := eval_getD h1
          have H2 := hid_mk h2
          clear h1 h2
          go_simp
          exact PUT.out 9 (by omega) x (Below.refl _ _) _ ⟨_, rfl, H2.out⟩
      · intro a' w3 hsz hdf hkeep hS0 hvals
        obtain ⟨listed, hls, hb_w3, hall⟩ := hS0
        rw [act_puts (n := 10) hsz hdf hkeep]
        have h8 : a'.eval (.tmp (dJ8 8)) = .int .i64 (judgeV B M) := hvals 8 (by show 8 < 10; omega)
        obtain ⟨sv, h9, hil⟩ : ∃ sv, a'.eval (.tmp (dJ8 9)) = sv ∧ Il w2.heap.size w3.heap.size w3 (judgeS B M) sv := hvals 9 (by show 9 < 10; omega)
        obtain ⟨wsa, wsc, rfl⟩ := hil.shape
        generalize hff : (fun i => a'.eval (.tmp (dJ8 i))) = ff
        have g8 : ff 8 = .int .i64 (judgeV B M) := by rw [← hff]; exact h8
        have g9 : ff 9 = .slice wsa (judgeS B M).length wsc := by rw [← hff]; exact h9
        clear hsz hdf hkeep hvals hall hls hff h8 h9
        simp only [puts, Act.put, dJ8, List.getD_cons_zero, List.getD_cons_succ, List.setIfInBounds_toArray, List.set_cons_succ, List.set_cons_zero, g8, g9]
        clear g8 g9
        have hz_w3 := hb_w3.size
        obtain ⟨l6, hl6⟩ : ∃ l, l = w2.heap.size := ⟨_, rfl⟩
        obtain ⟨h6, hh6⟩ : ∃ h, h = w3.heap.size := ⟨_, rfl⟩
        have IW_w3 : Hid (Il l6 h6 w3 (judgeS B M) (.slice wsa (judgeS B M).length wsc)) := by rw [hl6, hh6]; exact hil
        clear hil SP
        have B_w3 := hid_mk (B_w2.out.trans (hb_w3.mono (by omega)))
        have FB_w3 := hid_mk (FB_w2.out.keep hb_w3 (by omega))
        have FM_w3 := hid_mk (FM_w2.out.keep hb_w3 (by omega))
        clear B_w2 FB_w2 FM_w2
        clear hb_w3
        obtain ⟨FBa, FBb, FBc⟩ := FB_w3.out
        go_wp2_with fail
        refine (TO1.out _ B_w3.out).mono ?_
        rintro e w4 ⟨u4, rfl, hr4, hb4, hw4⟩
        obtain ⟨a4, c4, rfl⟩ := hr4.shape
        have hz4 := hb4.size
        clear FBa FBb FBc
        have B_w4 := hid_mk (B_w3.out.trans (hb4.mono (by omega)))
        have FB_w4 := hid_mk (FB_w3.out.keep hb4 (by omega))
        have FM_w4 := hid_mk (FM_w3.out.keep hb4 (by omega))
        have IW_w4 := hid_mk (IW_w3.out.below hb4 (by omega))
        clear B_w3 FB_w3 FM_w3 IW_w3
        obtain ⟨l8, hl8⟩ : ∃ l, l = w3.heap.size := ⟨_, rfl⟩
        obtain ⟨h8, hh8⟩ : ∃ h, h = w4.heap.size := ⟨_, rfl⟩
        have R8_w4 : Hid (Rw l8 h8 w4 B.ls (.slice a4 B.ls.length c4)) := by rw [hl8, hh8]; exact hr4
        have W8_w4 : Hid (∀ g o, l8 ≤ g → g < h8 → w4.frozen? ⟨g, o, none⟩ = false) := fun g o h1 _ => hw4 g o (by omega)
        clear hb4 hr4 hw4
        obtain ⟨w4b, hw4b⟩ : ∃ W, w4.alloc (.cells #[.slice a4 B.ls.length c4, .bool B.ex, .int .i64 B.ru] 37) = W := ⟨_, rfl⟩
        have hb_w4b : Below w4.heap.size w4 w4b := by rw [← hw4b]; exact (Below.refl _ _).alloc (Nat.le_refl _) _
        have hz_w4b : w4b.heap.size = w4.heap.size + 1 := by rw [← hw4b]; simp
        have F8_w4b : Hid (Tri w4b w4.heap.size (.slice a4 B.ls.length c4) (.bool B.ex) (.int .i64 B.ru)) := by rw [← hw4b]; exact Tri.new _ _ _ _ _
        have B_w4b := hid_mk (B_w4.out.trans (hb_w4b.mono (by omega)))
        have FB_w4b := hid_mk (FB_w4.out.keep hb_w4b (by omega))
        have FM_w4b := hid_mk (FM_w4.out.keep hb_w4b (by omega))
        have IW_w4b := hid_mk (IW_w4.out.below hb_w4b (by omega))
        have R8_w4b := hid_mk (R8_w4.out.below hb_w4b (by omega))
        have W8_w4b : Hid (∀ g o, l8 ≤ g → g < h8 → w4b.frozen? ⟨g, o, none⟩ = false) := fun g o h1 h2 => (hb_w4b.frozen (p := ⟨g, o, none⟩) (by show g < w4.heap.size; omega)).trans (W8_w4.out g o h1 h2)
        clear B_w4 FB_w4 FM_w4 IW_w4 R8_w4 W8_w4
        have Hw4b := hid_mk hw4b
        clear hb_w4b hw4b
        obtain ⟨FMa, FMb, FMc⟩ := FM_w4b.out
        rw [← Hw4b.out] at FMa FMb FMc
        go_wp2_with fail
        rw [Hw4b.out]
        refine (TO2.out w4b B_w4b.out).mono ?_
        rintro e w5 ⟨u5, rfl, hr5, hb5, hw5⟩
        obtain ⟨a5, c5, rfl⟩ := hr5.shape
        have hz5 := hb5.size
        clear FMa FMb FMc
        have B_w5 := hid_mk (B_w4b.out.trans (hb5.mono (by omega)))
        have FB_w5 := hid_mk (FB_w4b.out.keep hb5 (by omega))
        have FM_w5 := hid_mk (FM_w4b.out.keep hb5 (by omega))
        have IW_w5 := hid_mk (IW_w4b.out.below hb5 (by omega))
        have R8_w5 := hid_mk (R8_w4b.out.below hb5 (by omega))
        have W8_w5 : Hid (∀ g o, l8 ≤ g → g < h8 → w5.frozen? ⟨g, o, none⟩ = false) := fun g o h1 h2 => (hb5.frozen (p := ⟨g, o, none⟩) (by show g < w4b.heap.size; omega)).trans (W8_w4b.out g o h1 h2)
        have F8_w5 := hid_mk (F8_w4b.out.keep hb5 (by omega))
        clear B_w4b FB_w4b FM_w4b IW_w4b R8_w4b W8_w4b F8_w4b
        obtain ⟨l9, hl9⟩ : ∃ l, l = w4b.heap.size := ⟨_, rfl⟩
        obtain ⟨h9, hh9⟩ : ∃ h, h = w5.heap.size := ⟨_, rfl⟩
        have R9_w5 : Hid (Rw l9 h9 w5 M.ls (.slice a5 M.ls.length c5)) := by rw [hl9, hh9]; exact hr5
        have W9_w5 : Hid (∀ g o, l9 ≤ g → g < h9 → w5.frozen? ⟨g, o, none⟩ = false) := fun g o h1 _ => hw5 g o (by omega)
        clear hb5 hr5 hw5
        obtain ⟨w5b, hw5b⟩ : ∃ W, w5.alloc (.cells #[.slice a5 M.ls.length c5, .bool M.ex, .int .i64 M.ru] 37) = W := ⟨_, rfl⟩
        have hb_w5b : Below w5.heap.size w5 w5b := by rw [← hw5b]; exact (Below.refl _ _).alloc (Nat.le_refl _) _
        have hz_w5b : w5b.heap.size = w5.heap.size + 1 := by rw [← hw5b]; simp
        have F9_w5b : Hid (Tri w5b w5.heap.size (.slice a5 M.ls.length c5) (.bool M.ex) (.int .i64 M.ru)) := by rw [← hw5b]; exact Tri.new _ _ _ _ _
        have B_w5b := hid_mk (B_w5.out.trans (hb_w5b.mono (by omega)))
        have FB_w5b := hid_mk (FB_w5.out.keep hb_w5b (by omega))
        have FM_w5b := hid_mk (FM_w5.out.keep hb_w5b (by omega))
        have IW_w5b := hid_mk (IW_w5.out.below hb_w5b (by omega))
        have R8_w5b := hid_mk (R8_w5.out.below hb_w5b (by omega))
        have W8_w5b : Hid (∀ g o, l8 ≤ g → g < h8 → w5b.frozen? ⟨g, o, none⟩ = false) := fun g o h1 h2 => (hb_w5b.frozen (p := ⟨g, o, none⟩) (by show g < w5.heap.size; omega)).trans (W8_w5.out g o h1 h2)
        have F8_w5b := hid_mk (F8_w5.out.keep hb_w5b (by omega))
        have R9_w5b := hid_mk (R9_w5.out.below hb_w5b (by omega))
        have W9_w5b : Hid (∀ g o, l9 ≤ g → g < h9 → w5b.frozen? ⟨g, o, none⟩ = false) := fun g o h1 h2 => (hb_w5b.frozen (p := ⟨g, o, none⟩) (by show g < w5.heap.size; omega)).trans (W9_w5.out g o h1 h2)
        clear B_w5 FB_w5 FM_w5 IW_w5 R8_w5 W8_w5 F8_w5 R9_w5 W9_w5
        have Hw5b := hid_mk hw5b
        clear hb_w5b hw5b
        obtain ⟨F8a, F8b, F8c⟩ := F8_w5b.out
        rw [← Hw5b.out] at F8a F8b F8c
        obtain ⟨F9a, F9b, F9c⟩ := F9_w5b.out
        rw [← Hw5b.out] at F9a F9b F9c
        go_wp2_with fail
        rw [Hw5b.out]
        refine (IM.out _ _ _ _ _ _ w5b B_w5b.out (by omega) (by omega) R8_w5b.out R9_w5b.out).mono ?_
        rintro e w6 ⟨gv, rfl, ho6, hb6⟩
        obtain ⟨l1, h1, hl1, hlh1, hh1, hil1, hw1⟩ := ho6
        obtain ⟨ga, gc, rfl⟩ := hil1.shape
        have hz6 := hb6.size
        clear F8a F8b F8c F9a F9b F9c
        have B_w6 := hid_mk (B_w5b.out.trans (hb6.mono (by omega)))
        have FB_w6 := hid_mk (FB_w5b.out.keep hb6 (by omega))
        have FM_w6 := hid_mk (FM_w5b.out.keep hb6 (by omega))
        have IW_w6 := hid_mk (IW_w5b.out.below hb6 (by omega))
        have R8_w6 := hid_mk (R8_w5b.out.below hb6 (by omega))
        have W8_w6 : Hid (∀ g o, l8 ≤ g → g < h8 → w6.frozen? ⟨g, o, none⟩ = false) := fun g o h1 h2 => (hb6.frozen (p := ⟨g, o, none⟩) (by show g < w5b.heap.size; omega)).trans (W8_w5b.out g o h1 h2)
        have F8_w6 := hid_mk (F8_w5b.out.keep hb6 (by omega))
        have R9_w6 := hid_mk (R9_w5b.out.below hb6 (by omega))
        have W9_w6 : Hid (∀ g o, l9 ≤ g → g < h9 → w6.frozen? ⟨g, o, none⟩ = false) := fun g o h1 h2 => (hb6.frozen (p := ⟨g, o, none⟩) (by show g < w5b.heap.size; omega)).trans (W9_w5b.out g o h1 h2)
        have F9_w6 := hid_mk (F9_w5b.out.keep hb6 (by omega))
        clear B_w5b FB_w5b FM_w5b IW_w5b R8_w5b W8_w5b F8_w5b R9_w5b W9_w5b F9_w5b
        have IG_w6 := hid_mk hil1
        have WG_w6 : Hid (∀ g o, l1 ≤ g → g < h1 → w6.frozen? ⟨g, o, none⟩ = false) := hw1
        clear hb6 hil1 hw1
        go_wp2_with fail
        refine (eq_ints (judgeS B M) _ _ l1 h1 l6 h6 w6 (by omega) (by omega) (by omega) IG_w6.out IW_w6.out).mono ?_
        rintro e w7 ⟨rfl, hb7⟩
        have hz7 := hb7.size
        have B_w7 := hid_mk (B_w6.out.trans (hb7.mono (by omega)))
        have FB_w7 := hid_mk (FB_w6.out.keep hb7 (by omega))
        have FM_w7 := hid_mk (FM_w6.out.keep hb7 (by omega))
        have IW_w7 := hid_mk (IW_w6.out.below hb7 (by omega))
        have R8_w7 := hid_mk (R8_w6.out.below hb7 (by omega))
        have W8_w7 : Hid (∀ g o, l8 ≤ g → g < h8 → w7.frozen? ⟨g, o, none⟩ = false) := fun g o h1 h2 => (hb7.frozen (p := ⟨g, o, none⟩) (by show g < w6.heap.size; omega)).trans (W8_w6.out g o h1 h2)
        have F8_w7 := hid_mk (F8_w6.out.keep hb7 (by omega))
        have R9_w7 := hid_mk (R9_w6.out.below hb7 (by omega))
        have W9_w7 : Hid (∀ g o, l9 ≤ g → g < h9 → w7.frozen? ⟨g, o, none⟩ = false) := fun g o h1 h2 => (hb7.frozen (p := ⟨g, o, none⟩) (by show g < w6.heap.size; omega)).trans (W9_w6.out g o h1 h2)
        have F9_w7 := hid_mk (F9_w6.out.keep hb7 (by omega))
        have IG_w7 := hid_mk (IG_w6.out.below hb7 (by omega))
        have WG_w7 : Hid (∀ g o, l1 ≤ g → g < h1 → w7.frozen? ⟨g, o, none⟩ = false) := fun g o h1 h2 => (hb7.frozen (p := ⟨g, o, none⟩) (by show g < w6.heap.size; omega)).trans (WG_w6.out g o h1 h2)
        clear B_w6 FB_w6 FM_w6 IW_w6 R8_w6 W8_w6 F8_w6 R9_w6 W9_w6 F9_w6 IG_w6 WG_w6
        clear hb7
        go_wp2_with fail
        refine wp_region_inv hmix (by kernel_rfl) dJ14 (VE B (.slice a4 B.ls.length c4) (.slice au B.ls.length cu)) (fun _ x => Below w7.heap.size w7 x) ((Below.refl _ _).drew) ?_ ?_
        · intro listed a' x i hI hr
          have hi : i < 5 := (ready_unl hr).1
          have hS := hI.s
          have hzx := hS.size
          have PUT := hid_mk (fun (i : Nat) (hi : i < 5) (x' : World) (hb : Below x.heap.size x x') (y : Value) (hy : (VE B (.slice a4 B.ls.length c4) (.slice au B.ls.length cu)) i x' y) => hI.put dJ14_inj dJ14_lt (VE_calm hb) (hS.trans (hb.mono hS.size)) hi hy)
          have VAL := hid_mk (fun (j : Nat) (hj : j < 5) (hl : listed.getD j false = true) => hI.vals j hj (getD_tr hl))
          have DEP := hid_mk (fun o (ho : _ = some o) => ready_dep hr (o := o) ho)
          have s8 : a'.tmps[8]?.getD undef = .pointer (some ⟨w4.heap.size, 0, none⟩) := eval_getD (hI.keep 8 (fun i hi => dJ14_ne (by simp) i hi))
          have s2 : a'.tmps[2]?.getD undef = .pointer (some ⟨w.heap.size, 0, none⟩) := eval_getD (hI.keep 2 (fun i hi => dJ14_ne (by simp) i hi))
          obtain ⟨F8a, F8b, F8c⟩ := F8_w7.out.keep hS (by omega)
          obtain ⟨FBa, FBb, FBc⟩ := FB_w7.out.keep hS (by omega)
          have BX := hid_mk (B_w7.out.trans (hS.mono (by omega)))
          have HSX := hid_mk hS
          clear hI hr hS
          rcases (by omega : i = 0 ∨ i = 1 ∨ i = 2 ∨ i = 3 ∨ i = 4) with rfl | rfl | rfl | rfl | rfl
          all_goals (refine wpOp_of rfl rfl ?_)
          · go_simp
            exact PUT.out 0 (by omega) x (Below.refl _ _) _ rfl
          · go_simp
            exact PUT.out 1 (by omega) x (Below.refl _ _) _ rfl
          · have h := eval_getD (show a'.eval (.tmp 55) = .agg #[.slice au B.ls.length cu, .bool B.ex, .int .i64 B.ru] from VAL.out 1 (by omega) (DEP.out _ rfl ⟨1, Ground.data⟩ (by simp) rfl))
            go_simp
            refine (TO1.out _ BX.out).mono ?_
            rintro e x2 ⟨u2, rfl, hr2, hb2, _⟩
            obtain ⟨a2, c2, rfl⟩ := hr2.shape
            exact PUT.out 2 (by omega) x2 hb2 _ ⟨a2, c2, rfl, hr2.wide (Nat.zero_le _) (Nat.le_refl _)⟩
          · have h := eval_getD (show a'.eval (.tmp 54) = .agg #[.slice a4 B.ls.length c4, .bool B.ex, .int .i64 B.ru] from VAL.out 0 (by omega) (DEP.out _ rfl ⟨0, Ground.data⟩ (by simp) rfl))
            obtain ⟨a2, c2, h2, r2⟩ : ∃ p c, a'.eval (.tmp 56) = B.val (.slice p B.ls.length c) ∧ Rw 0 x.heap.size x B.ls (.slice p B.ls.length c) := VAL.out 2 (by omega) (DEP.out _ rfl ⟨2, Ground.data⟩ (by simp) rfl)
            have g2 := eval_getD h2
            unfold Rp.val at g2
            have R2 := hid_mk r2
            have R1 := hid_mk (R8_w7.out.below HSX.out (by omega))
            clear r2 h2
            go_simp
            refine (EQ1.out _ _ _ _ _ _ _ (by omega) (Nat.le_refl _) R1.out R2.out).mono ?_
            rintro e x2 ⟨rfl, hb2⟩
            exact PUT.out 3 (by omega) x2 hb2 _ rfl
          · have h := eval_getD (show a'.eval (.tmp 57) = .bool true from VAL.out 3 (by omega) (DEP.out _ rfl ⟨3, Ground.data⟩ (by simp) rfl))
            go_simp
            exact PUT.out 4 (by omega) x (Below.refl _ _) _ rfl
        · intro a' w8 hsz hdf hkeep hS0 hvals
          obtain ⟨listed, hls, hb_w8, hall⟩ := hS0
          rw [act_puts (n := 5) hsz hdf hkeep]
          have h8 : a'.eval (.tmp (dJ14 4)) = .bool false := hvals 4 (by show 4 < 5; omega)
          generalize hff : (fun i => a'.eval (.tmp (dJ14 i))) = ff
          have g8 : ff 4 = .bool false := by rw [← hff]; exact h8
          clear hsz hdf hkeep hvals hall hls hff h8
          simp only [puts, Act.put, dJ14, List.getD_cons_zero, List.getD_cons_succ, List.setIfInBounds_toArray, List.set_cons_succ, List.set_cons_zero, g8]
          clear g8
          have hz_w8 := hb_w8.size
          have B_w8 := hid_mk (B_w7.out.trans (hb_w8.mono (by omega)))
          have FB_w8 := hid_mk (FB_w7.out.keep hb_w8 (by omega))
          have FM_w8 := hid_mk (FM_w7.out.keep hb_w8 (by omega))
          have IW_w8 := hid_mk (IW_w7.out.below hb_w8 (by omega))
          have R8_w8 := hid_mk (R8_w7.out.below hb_w8 (by omega))
          have W8_w8 : Hid (∀ g o, l8 ≤ g → g < h8 → w8.frozen? ⟨g, o, none⟩ = false) := fun g o h1 h2 => (hb_w8.frozen (p := ⟨g, o, none⟩) (by show g < w7.heap.size; omega)).trans (W8_w7.out g o h1 h2)
          have F8_w8 := hid_mk (F8_w7.out.keep hb_w8 (by omega))
          have R9_w8 := hid_mk (R9_w7.out.below hb_w8 (by omega))
          have W9_w8 : Hid (∀ g o, l9 ≤ g → g < h9 → w8.frozen? ⟨g, o, none⟩ = false) := fun g o h1 h2 => (hb_w8.frozen (p := ⟨g, o, none⟩) (by show g < w7.heap.size; omega)).trans (W9_w7.out g o h1 h2)
          have F9_w8 := hid_mk (F9_w7.out.keep hb_w8 (by omega))
          have IG_w8 := hid_mk (IG_w7.out.below hb_w8 (by omega))
          have WG_w8 : Hid (∀ g o, l1 ≤ g → g < h1 → w8.frozen? ⟨g, o, none⟩ = false) := fun g o h1 h2 => (hb_w8.frozen (p := ⟨g, o, none⟩) (by show g < w7.heap.size; omega)).trans (WG_w7.out g o h1 h2)
          clear B_w7 FB_w7 FM_w7 IW_w7 R8_w7 W8_w7 F8_w7 R9_w7 W9_w7 F9_w7 IG_w7 WG_w7
          clear hb_w8 EQ1
          go_wp2_with fail
          refine wp_region_inv hmix (by kernel_rfl) dJ16 (VE M (.slice a5 M.ls.length c5) (.slice bv M.ls.length cv)) (fun _ x => Below w8.heap.size w8 x) ((Below.refl _ _).drew) ?_ ?_
          · intro listed a' x i hI hr
            have hi : i < 5 := (ready_unl hr).1
            have hS := hI.s
            have hzx := hS.size
            have PUT := hid_mk (fun (i : Nat) (hi : i < 5) (x' : World) (hb : Below x.heap.size x x') (y : Value) (hy : (VE M (.slice a5 M.ls.length c5) (.slice bv M.ls.length cv)) i x' y) => hI.put dJ16_inj dJ16_lt (VE_calm hb) (hS.trans (hb.mono hS.size)) hi hy)
            have VAL := hid_mk (fun (j : Nat) (hj : j < 5) (hl : listed.getD j false = true) => hI.vals j hj (getD_tr hl))
            have DEP := hid_mk (fun o (ho : _ = some o) => ready_dep hr (o := o) ho)
            have s9 : a'.tmps[9]?.getD undef = .pointer (some ⟨w5.heap.size, 0, none⟩) := eval_getD (hI.keep 9 (fun i hi => dJ16_ne (by simp) i hi))
            have s3 : a'.tmps[3]?.getD undef = .pointer (some ⟨w.heap.size + 1, 0, none⟩) := eval_getD (hI.keep 3 (fun i hi => dJ16_ne (by simp) i hi))
            obtain ⟨F9a, F9b, F9c⟩ := F9_w8.out.keep hS (by omega)
            obtain ⟨FMa, FMb, FMc⟩ := FM_w8.out.keep hS (by omega)
            have BX := hid_mk (B_w8.out.trans (hS.mono (by omega)))
            have HSX := hid_mk hS
            clear hI hr hS
            rcases (by omega : i = 0 ∨ i = 1 ∨ i = 2 ∨ i = 3 ∨ i = 4) with rfl | rfl | rfl | rfl | rfl
            all_goals (refine wpOp_of rfl rfl ?_)
            · go_simp
              exact PUT.out 0 (by omega) x (Below.refl _ _) _ rfl
            · go_simp
              exact PUT.out 1 (by omega) x (Below.refl _ _) _ rfl
            · have h := eval_getD (show a'.eval (.tmp 60) = .agg #[.slice bv M.ls.length cv, .bool M.ex, .int .i64 M.ru] from VAL.out 1 (by omega) (DEP.out _ rfl ⟨1, Ground.data⟩ (by simp) rfl))
              go_simp
              refine (TO2.out _ BX.out).mono ?_
              rintro e x2 ⟨u2, rfl, hr2, hb2, _⟩
              obtain ⟨a2, c2, rfl⟩ := hr2.shape
              exact PUT.out 2 (by omega) x2 hb2 _ ⟨a2, c2, rfl, hr2.wide (Nat.zero_le _) (Nat.le_refl _)⟩
            · have h := eval_getD (show a'.eval (.tmp 59) = .agg #[.slice a5 M.ls.length c5, .bool M.ex, .int .i64 M.ru] from VAL.out 0 (by omega) (DEP.out _ rfl ⟨0, Ground.data⟩ (by simp) rfl))
              obtain ⟨a2, c2, h2, r2⟩ : ∃ p c, a'.eval (.tmp 61) = M.val (.slice p M.ls.length c) ∧ Rw 0 x.heap.size x M.ls (.slice p M.ls.length c) := VAL.out 2 (by omega) (DEP.out _ rfl ⟨2, Ground.data⟩ (by simp) rfl)
              have g2 := eval_getD h2
              unfold Rp.val at g2
              have R2 := hid_mk r2
              have R1 := hid_mk (R9_w8.out.below HSX.out (by omega))
              clear r2 h2
              go_simp
              refine (EQ2.out _ _ _ _ _ _ _ (by omega) (Nat.le_refl _) R1.out R2.out).mono ?_
              rintro e x2 ⟨rfl, hb2⟩
              exact PUT.out 3 (by omega) x2 hb2 _ rfl
            · have h := eval_getD (show a'.eval (.tmp 62) = .bool true from VAL.out 3 (by omega) (DEP.out _ rfl ⟨3, Ground.data⟩ (by simp) rfl))
              go_simp
              exact PUT.out 4 (by omega) x (Below.refl _ _) _ rfl
          · intro a' w9 hsz hdf hkeep hS0 hvals
            obtain ⟨listed, hls, hb_w9, hall⟩ := hS0
            rw [act_puts (n := 5) hsz hdf hkeep]
            have h8 : a'.eval (.tmp (dJ16 4)) = .bool false := hvals 4 (by show 4 < 5; omega)
            generalize hff : (fun i => a'.eval (.tmp (dJ16 i))) = ff
            have g8 : ff 4 = .bool false := by rw [← hff]; exact h8
            clear hsz hdf hkeep hvals hall hls hff h8
            simp only [puts, Act.put, dJ16, List.getD_cons_zero, List.getD_cons_succ, List.setIfInBounds_toArray, List.set_cons_succ, List.set_cons_zero, g8]
            clear g8
            have hz_w9 := hb_w9.size
            have B_w9 := hid_mk (B_w8.out.trans (hb_w9.mono (by omega)))
            have FB_w9 := hid_mk (FB_w8.out.keep hb_w9 (by omega))
            have FM_w9 := hid_mk (FM_w8.out.keep hb_w9 (by omega))
            have IW_w9 := hid_mk (IW_w8.out.below hb_w9 (by omega))
            have R8_w9 := hid_mk (R8_w8.out.below hb_w9 (by omega))
            have W8_w9 : Hid (∀ g o, l8 ≤ g → g < h8 → w9.frozen? ⟨g, o, none⟩ = false) := fun g o h1 h2 => (hb_w9.frozen (p := ⟨g, o, none⟩) (by show g < w8.heap.size; omega)).trans (W8_w8.out g o h1 h2)
            have F8_w9 := hid_mk (F8_w8.out.keep hb_w9 (by omega))
            have R9_w9 := hid_mk (R9_w8.out.below hb_w9 (by omega))
            have W9_w9 : Hid (∀ g o, l9 ≤ g → g < h9 → w9.frozen? ⟨g, o, none⟩ = false) := fun g o h1 h2 => (hb_w9.frozen (p := ⟨g, o, none⟩) (by show g < w8.heap.size; omega)).trans (W9_w8.out g o h1 h2)
            have F9_w9 := hid_mk (F9_w8.out.keep hb_w9 (by omega))
            have IG_w9 := hid_mk (IG_w8.out.below hb_w9 (by omega))
            have WG_w9 : Hid (∀ g o, l1 ≤ g → g < h1 → w9.frozen? ⟨g, o, none⟩ = false) := fun g o h1 h2 => (hb_w9.frozen (p := ⟨g, o, none⟩) (by show g < w8.heap.size; omega)).trans (WG_w8.out g o h1 h2)
            clear B_w8 FB_w8 FM_w8 IW_w8 R8_w8 W8_w8 F8_w8 R9_w8 W9_w8 F9_w8 IG_w8 WG_w8
            clear hb_w9 EQ2
            obtain ⟨F8a, F8b, F8c⟩ := F8_w9.out
            have SK8 := hid_mk (SkS.of R8_w9.out)
            go_wp2_with fail
            refine (MK1.out 1 _ l8 h8 w9 (by omega) SK8.out W8_w9.out (by omega)).mono ?_
            rintro e w10 ⟨k1, rfl, hk1, hm10⟩
            have hz10 := hm10.size
            clear SK8 MK1
            clear F8a F8b F8c
            have B_w10 := hid_mk (B_w9.out.trans (hm10.below (by omega) (by omega)))
            have FB_w10 := hid_mk (FB_w9.out.same (hm10.out _ (by omega) (.inl (by omega))))
            have FM_w10 := hid_mk (FM_w9.out.same (hm10.out _ (by omega) (.inl (by omega))))
            have IW_w10 := hid_mk (IW_w9.out.keep (Nat.le_refl _) (Nat.le_refl _) (fun g o h1 h2 => World.cell?_of_block (a := ⟨g, o, none⟩) (hm10.out g (by omega) (.inl (by omega)))))
            have R9_w10 := hid_mk (R9_w9.out.keep (Nat.le_refl _) (Nat.le_refl _) (fun g o h1 h2 => World.cell?_of_block (a := ⟨g, o, none⟩) (hm10.out g (by omega) (.inr (by omega)))))
            have W9_w10 : Hid (∀ g o, l9 ≤ g → g < h9 → w10.frozen? ⟨g, o, none⟩ = false) := fun g o h1 h2 => (hm10.warm g o (by omega)).trans (W9_w9.out g o h1 h2)
            have F9_w10 := hid_mk (F9_w9.out.same (hm10.out _ (by omega) (.inr (by omega))))
            have IG_w10 := hid_mk (IG_w9.out.keep (Nat.le_refl _) (Nat.le_refl _) (fun g o h1 h2 => World.cell?_of_block (a := ⟨g, o, none⟩) (hm10.out g (by omega) (.inr (by omega)))))
            have WG_w10 : Hid (∀ g o, l1 ≤ g → g < h1 → w10.frozen? ⟨g, o, none⟩ = false) := fun g o h1 h2 => (hm10.warm g o (by omega)).trans (WG_w9.out g o h1 h2)
            clear B_w9 FB_w9 FM_w9 IW_w9 R8_w9 W8_w9 F8_w9 R9_w9 W9_w9 F9_w9 IG_w9 WG_w9
            clear hm10
            obtain ⟨F9a, F9b, F9c⟩ := F9_w10.out
            have SK9 := hid_mk (SkS.of R9_w10.out)
            go_wp2_with fail
            refine (MK2.out k1 _ l9 h9 w10 (by omega) SK9.out W9_w10.out (by omega)).mono ?_
            rintro e w11 ⟨k2, rfl, hk2, hm11⟩
            have hz11 := hm11.size
            have hk2n : ¬ ((k2 : Int) < 0) := by omega
            clear SK9 MK2
            clear F9a F9b F9c
            have B_w11 := hid_mk (B_w10.out.trans (hm11.below (by omega) (by omega)))
            have FB_w11 := hid_mk (FB_w10.out.same (hm11.out _ (by omega) (.inl (by omega))))
            have FM_w11 := hid_mk (FM_w10.out.same (hm11.out _ (by omega) (.inl (by omega))))
            have IW_w11 := hid_mk (IW_w10.out.keep (Nat.le_refl _) (Nat.le_refl _) (fun g o h1 h2 => World.cell?_of_block (a := ⟨g, o, none⟩) (hm11.out g (by omega) (.inl (by omega)))))
            have IG_w11 := hid_mk (IG_w10.out.keep (Nat.le_refl _) (Nat.le_refl _) (fun g o h1 h2 => World.cell?_of_block (a := ⟨g, o, none⟩) (hm11.out g (by omega) (.inr (by omega)))))
            have WG_w11 : Hid (∀ g o, l1 ≤ g → g < h1 → w11.frozen? ⟨g, o, none⟩ = false) := fun g o h1 h2 => (hm11.warm g o (by omega)).trans (WG_w10.out g o h1 h2)
            clear B_w10 FB_w10 FM_w10 IW_w10 R9_w10 W9_w10 F9_w10 IG_w10 WG_w10
            clear hm11
            go_wp2_with fail
            refine (eq_ints (judgeS B M) _ _ l1 h1 l6 h6 w11 (by omega) (by omega) (by omega) IG_w11.out IW_w11.out).mono ?_
            rintro e w12 ⟨rfl, hb12⟩
            have hz12 := hb12.size
            have B_w12 := hid_mk (B_w11.out.trans (hb12.mono (by omega)))
            have FB_w12 := hid_mk (FB_w11.out.keep hb12 (by omega))
            have FM_w12 := hid_mk (FM_w11.out.keep hb12 (by omega))
            have IW_w12 := hid_mk (IW_w11.out.below hb12 (by omega))
            have IG_w12 := hid_mk (IG_w11.out.below hb12 (by omega))
            have WG_w12 : Hid (∀ g o, l1 ≤ g → g < h1 → w12.frozen? ⟨g, o, none⟩ = false) := fun g o h1 h2 => (hb12.frozen (p := ⟨g, o, none⟩) (by show g < w11.heap.size; omega)).trans (WG_w11.out g o h1 h2)
            clear B_w11 FB_w11 FM_w11 IW_w11 IG_w11 WG_w11
            clear hb12
            have SKG := hid_mk (SkI.of IG_w12.out)
            go_wp2_with fail
            refine (mark_ints (judgeS B M).length 1 _ l1 h1 w12 (by omega) SKG.out WG_w12.out (by omega)).mono ?_
            rintro e w13 ⟨rfl, hm13, hh13⟩
            have hz13 := hm13.size
            have HG_w13 := hid_mk (hh13 rfl)
            clear SKG hh13
            have B_w13 := hid_mk (B_w12.out.trans (hm13.below (by omega) (by omega)))
            have FB_w13 := hid_mk (FB_w12.out.same (hm13.out _ (by omega) (.inl (by omega))))
            have FM_w13 := hid_mk (FM_w12.out.same (hm13.out _ (by omega) (.inl (by omega))))
            have IW_w13 := hid_mk (IW_w12.out.keep (Nat.le_refl _) (Nat.le_refl _) (fun g o h1 h2 => World.cell?_of_block (a := ⟨g, o, none⟩) (hm13.out g (by omega) (.inl (by omega)))))
            clear B_w12 FB_w12 FM_w12 IW_w12 IG_w12 WG_w12
            clear hm13
            have hm0 : ¬ (((1 + (judgeS B M).length : Nat) : Int) < 0) := by omega
            have hmq : (((1 + (judgeS B M).length : Nat) : Int) != ((1 + (judgeS B M).length : Nat) : Int)) = false := by simp
            have HLD := hid_mk (fun W (h1' : h1 ≤ W.heap.size) (hh : HeldI l1 h1 W (judgeS B M).length (.slice ga (judgeS B M).length gc)) => held_ints (judgeS B M).length _ l1 h1 W h1' (by omega) hh)
            generalize ((1 + (judgeS B M).length : Nat) : Int) = mm at *
            go_wp2_with fail
            refine (HLD.out w13 (by omega) HG_w13.out).mono ?_
            rintro e w14 ⟨rfl, hb14⟩
            have hz14 := hb14.size
            have B_w14 := hid_mk (B_w13.out.trans (hb14.mono (by omega)))
            have FB_w14 := hid_mk (FB_w13.out.keep hb14 (by omega))
            have FM_w14 := hid_mk (FM_w13.out.keep hb14 (by omega))
            have IW_w14 := hid_mk (IW_w13.out.below hb14 (by omega))
            have HG_w14 := hid_mk (HG_w13.out.below hb14 (by omega))
            clear B_w13 FB_w13 FM_w13 IW_w13 HG_w13
            clear hb14
            go_wp2_with fail
            refine wp_region_inv hmix (by kernel_rfl) dJ31 (VJ B M (.slice au B.ls.length cu) (.slice bv M.ls.length cv) w14.heap.size) (fun _ x => Below w14.heap.size w14 x) ((Below.refl _ _).drew) ?_ ?_
            · intro listed a' x i hI hr
              have hi : i < 10 := (ready_unl hr).1
              have hS := hI.s
              have hzx := hS.size
              have PUT := hid_mk (fun (i : Nat) (hi : i < 10) (x' : World) (hb : Below x.heap.size x x') (y : Value) (hy : (VJ B M (.slice au B.ls.length cu) (.slice bv M.ls.length cv) w14.heap.size) i x' y) => hI.put dJ31_inj dJ31_lt (VJ_calm hb) (hS.trans (hb.mono hS.size)) hi hy)
              have VAL := hid_mk (fun (j : Nat) (hj : j < 10) (hl : listed.getD j false = true) => hI.vals j hj (getD_tr hl))
              have DEP := hid_mk (fun o (ho : _ = some o) => ready_dep hr (o := o) ho)
              have s2 : a'.tmps[2]?.getD undef = .pointer (some ⟨w.heap.size, 0, none⟩) := eval_getD (hI.keep 2 (fun i hi => dJ31_ne (by simp) i hi))
              have s3 : a'.tmps[3]?.getD undef = .pointer (some ⟨w.heap.size + 1, 0, none⟩) := eval_getD (hI.keep 3 (fun i hi => dJ31_ne (by simp) i hi))
              obtain ⟨FBa, FBb, FBc⟩ := FB_w14.out.keep hS (by omega)
              obtain ⟨FMa, FMb, FMc⟩ := FM_w14.out.keep hS (by omega)
              have BX := hid_mk (B_w14.out.trans (hS.mono (by omega)))
              have HSX := hid_mk hS
              clear hI hr hS
              rcases (by omega : i = 0 ∨ i = 1 ∨ i = 2 ∨ i = 3 ∨ i = 4 ∨ i = 5 ∨ i = 6 ∨ i = 7 ∨ i = 8 ∨ i = 9) with rfl | rfl | rfl | rfl | rfl | rfl | rfl | rfl | rfl | rfl
              all_goals (refine wpOp_of rfl rfl ?_)
              · go_simp
                exact PUT.out 0 (by omega) x (Below.refl _ _) _ rfl
              · have h := eval_getD (show a'.eval (.tmp 95) = .agg #[.slice au B.ls.length cu, .bool B.ex, .int .i64 B.ru] from VAL.out 0 (by omega) (DEP.out _ rfl ⟨0, Ground.data⟩ (by simp) rfl))
                go_simp
                refine (TO1.out _ BX.out).mono ?_
                rintro e x2 ⟨u2, rfl, hr2, hb2, _⟩
                obtain ⟨a2, c2, rfl⟩ := hr2.shape
                exact PUT.out 1 (by omega) x2 hb2 _ ⟨a2, c2, rfl, hr2.wide (Nat.zero_le _) (Nat.le_refl _)⟩
              · go_simp
                exact PUT.out 2 (by omega) x (Below.refl _ _) _ rfl
              · have h := eval_getD (show a'.eval (.tmp 97) = .agg #[.slice bv M.ls.length cv, .bool M.ex, .int .i64 M.ru] from VAL.out 2 (by omega) (DEP.out _ rfl ⟨2, Ground.data⟩ (by simp) rfl))
                go_simp
                refine (TO2.out _ BX.out).mono ?_
                rintro e x2 ⟨u2, rfl, hr2, hb2, _⟩
                obtain ⟨a2, c2, rfl⟩ := hr2.shape
                exact PUT.out 3 (by omega) x2 hb2 _ ⟨a2, c2, rfl, hr2.wide (Nat.zero_le _) (Nat.le_refl _)⟩
              · obtain ⟨a1, c1, h1, r1⟩ : ∃ p c, a'.eval (.tmp 96) = B.val (.slice p B.ls.length c) ∧ Rw 0 x.heap.size x B.ls (.slice p B.ls.length c) := VAL.out 1 (by omega) (DEP.out _ rfl ⟨1, Ground.data⟩ (by simp) rfl)
                obtain ⟨a2, c2, h2, r2⟩ : ∃ p c, a'.eval (.tmp 98) = M.val (.slice p M.ls.length c) ∧ Rw 0 x.heap.size x M.ls (.slice p M.ls.length c) := VAL.out 3 (by omega) (DEP.out _ rfl ⟨3, Ground.data⟩ (by simp) rfl)
                have g1 := eval_getD h1
                have g2 := eval_getD h2
                unfold Rp.val at g1 g2
                have R1 := hid_mk r1
                have R2 := hid_mk r2
                clear r1 r2 h1 h2
                go_simp
                refine (IM.out _ _ _ _ _ _ _ BX.out (Nat.le_refl _) (Nat.le_refl _) R1.out R2.out).mono ?_
                rintro e x2 ⟨sv, rfl, ho2, hb2⟩
                obtain ⟨lo2, hi2, p1, p2, p3, hil, _⟩ := ho2
                exact PUT.out 4 (by omega) x2 hb2 _ ⟨sv, rfl, hil.wide (by omega) p3⟩
              · obtain ⟨sv, h1, h2⟩ : ∃ sv, a'.eval (.tmp 99) = .tuple #[.int .i64 (judgeV B M), sv] ∧ Il w14.heap.size x.heap.size x (judgeS B M) sv := VAL.out 4 (by omega) (DEP.out _ rfl ⟨4, Ground.data⟩ (by simp) rfl)
                have g1 := eval_getD h1
                have H2 := hid_mk h2
                clear h1 h2
                go_simp
                exact PUT.out 5 (by omega) x (Below.refl _ _) _ ⟨sv, rfl, H2.out⟩
              · obtain ⟨sv, h1, h2⟩ : ∃ sv, a'.eval (.tmp 94) = .tuple #[.int .i64 (judgeV B M), sv] ∧ Il w14.heap.size x.heap.size x (judgeS B M) sv := VAL.out 5 (by omega) (DEP.out _ rfl ⟨5, Ground.data⟩ (by simp) rfl)
                have g1 := eval_getD h1
                have H2 := hid_mk h2
                clear h1 h2
                go_simp
                exact PUT.out 6 (by omega) x (Below.refl _ _) _ rfl
              · obtain ⟨sv, h1, h2⟩ : ∃ sv, a'.eval (.tmp 94) = .tuple #[.int .i64 (judgeV B M), sv] ∧ Il w14.heap.size x.heap.size x (judgeS B M) sv := VAL.out 5 (by omega) (DEP.out _ rfl ⟨5, Ground.data⟩ (by simp) rfl)
                have g1 := eval_getD h1
                have H2 := hid_mk h2
                clear h1 h2
                go_simp
                exact PUT.out 7 (by omega) x (Below.refl _ _) _ ⟨sv, rfl, H2.out⟩
              · have h := eval_getD (show a'.eval (.tmp 100) = .int .i64 (judgeV B M) from VAL.out 6 (by omega) (DEP.out _ rfl ⟨6, Ground.data⟩ (by simp) rfl))
                go_simp
                exact PUT.out 8 (by omega) x (Below.refl _ _) _ rfl
              · obtain ⟨sv, h1, h2⟩ : ∃ sv, a'.eval (.tmp 101) = sv ∧ Il w14.heap.size x.heap.size x (judgeS B M) sv := VAL.out 7 (by omega) (DEP.out _ rfl ⟨7, Ground.data⟩ (by simp) rfl)
                obtain ⟨sa, sc, rfl⟩ := h2.shape
                have g1 := eval_getD h1
                have H2 := hid_mk h2
                clear h1 h2
                go_simp
                exact PUT.out 9 (by omega) x (Below.refl _ _) _ ⟨_, rfl, H2.out⟩
            · intro a' w15 hsz hdf hkeep hS0 hvals
              obtain ⟨listed, hls, hb_w15, hall⟩ := hS0
              rw [act_puts (n := 10) hsz hdf hkeep]
              have h8 : a'.eval (.tmp (dJ31 8)) = .int .i64 (judgeV B M) := hvals 8 (by show 8 < 10; omega)
              obtain ⟨sv, h9, hil⟩ : ∃ sv, a'.eval (.tmp (dJ31 9)) = sv ∧ Il w14.heap.size w15.heap.size w15 (judgeS B M) sv := hvals 9 (by show 9 < 10; omega)
              obtain ⟨hsa, hsc, rfl⟩ := hil.shape
              generalize hff : (fun i => a'.eval (.tmp (dJ31 i))) = ff
              have g8 : ff 8 = .int .i64 (judgeV B M) := by rw [← hff]; exact h8
              have g9 : ff 9 = .slice hsa (judgeS B M).length hsc := by rw [← hff]; exact h9
              clear hsz hdf hkeep hvals hall hls hff h8 h9
              simp only [puts, Act.put, dJ31, List.getD_cons_zero, List.getD_cons_succ, List.setIfInBounds_toArray, List.set_cons_succ, List.set_cons_zero, g8, g9]
              clear g8 g9
              have hz_w15 := hb_w15.size
              have IH_w15 := hid_mk hil
              clear hil IM
              have B_w15 := hid_mk (B_w14.out.trans (hb_w15.mono (by omega)))
              have FB_w15 := hid_mk (FB_w14.out.keep hb_w15 (by omega))
              have FM_w15 := hid_mk (FM_w14.out.keep hb_w15 (by omega))
              have IW_w15 := hid_mk (IW_w14.out.below hb_w15 (by omega))
              have HG_w15 := hid_mk (HG_w14.out.below hb_w15 (by omega))
              clear B_w14 FB_w14 FM_w14 IW_w14 HG_w14
              clear hb_w15
              go_wp2_with fail
              refine (eq_ints (judgeS B M) _ _ w14.heap.size w15.heap.size l6 h6 w15 (by omega) (Nat.le_refl _) (by omega) IH_w15.out IW_w15.out).mono ?_
              rintro e w16 ⟨rfl, hb16⟩
              have hz16 := hb16.size
              clear IH_w15
              have B_w16 := hid_mk (B_w15.out.trans (hb16.mono (by omega)))
              have FB_w16 := hid_mk (FB_w15.out.keep hb16 (by omega))
              have FM_w16 := hid_mk (FM_w15.out.keep hb16 (by omega))
              have IW_w16 := hid_mk (IW_w15.out.below hb16 (by omega))
              have HG_w16 := hid_mk (HG_w15.out.below hb16 (by omega))
              clear B_w15 FB_w15 FM_w15 IW_w15 HG_w15
              clear hb16
              go_wp2_with fail
              refine (HLD.out w16 (by omega) HG_w16.out).mono ?_
              rintro e w17 ⟨rfl, hb17⟩
              have B_w17 := hid_mk (B_w16.out.trans (hb17.mono (by omega)))
              go_wp2
              go_ret
              exact ⟨rfl, B_w17.out⟩
    · have e2 : left' (costS M.ls) (1048576 - costS B.ls) = -1 := by unfold left'; rw [if_neg hd]
      rw [e2] at SZ2
      clear e1 e2 TO1 TO2 SP IM EQ1 EQ2 MK1 MK2
      generalize 1048576 - costS B.ls = q1 at *
      have X0 := hid_mk (two_boxes w (.slice au B.ls.length cu) (.bool B.ex) (.int .i64 B.ru) (.slice bv M.ls.length cv) (.bool M.ex) (.int .i64 M.ru) 31 31)
      go_enter Tryd.func4, Tryd.ntmps4
      go_wp2_with fail
      refine (SZ1.out _ (B0.out _ _)).mono ?_
      rintro e w1 ⟨rfl, hb1⟩
      have B1 := hid_mk ((B0.out _ _).trans (hb1.mono (by simp; omega)))
      obtain ⟨m0, m1, m2⟩ := X0.out.2.keep hb1 (by simp)
      clear hb1 X0 SZ1
      go_wp2_with fail
      refine (SZ2.out _ B1.out).mono ?_
      rintro e w2 ⟨rfl, hb2⟩
      have B2 := hid_mk (B1.out.trans (hb2.mono B1.out.size))
      clear hb2 B1 SZ2 m0 m1 m2
      go_wp2
      go_ret
      exact ⟨rfl, B2.out⟩
  · have e1 : left' (costS B.ls) 1048576 = -1 := by unfold left'; rw [if_neg hc]
    have SZ1 := hid_mk (fun W hb => SZ1.out 1048576 W hb (Nat.le_refl _))
    rw [e1] at SZ1
    clear e1 TO1 TO2 SP IM EQ1 EQ2 MK1 MK2 SZ2
    go_enter Tryd.func4, Tryd.ntmps4
    go_wp2_with fail
    refine (SZ1.out _ (B0.out _ _)).mono ?_
    rintro e w1 ⟨rfl, hb1⟩
    have B1 := hid_mk ((B0.out _ _).trans (hb1.mono (by simp; omega)))
    clear hb1 SZ1
    go_wp2
    go_ret
    exact ⟨rfl, B1.out⟩
end Go.Proofs.YtnjidekfmmebiaaDoor
