/- The program's checker: a sign that compares. Written by mkci.py. -/
import Derived.Test.YtbjianmjdadehaaGreatDoorKeB
import Derived.Deep.RegionWith
set_option linter.unusedVariables false
namespace Go.Proofs.YtbjianmjdadehaaGreatDoor
open Go.RowKit

set_option maxHeartbeats 4000000 in
set_option maxRecDepth 100000 in
theorem ibi_eq {T : Nd} (ih : ∀ i, i < T.len → IExS (T.kids i)) (hnm : ((T.name.toList == [61, 61]) = true ∧ True) ∨ ((T.name.toList == [61, 61]) = false ∧ (T.name.toList == [33, 61]) = true))
    (hty' : ∀ (F : Nd) (ex : Nat → ExM) (s : CS) (p : Nat), typeM F T.kind T.name T.len ex s p = CR.bind (valueM (ex 0) s) fun r => CR.bind (wantM (ex 1) r.1 r.2) fun s2 => .ok (2, s2)) : IBiS T := by
  intro K w0 O s ret loops sels w v hS hE hN hfit hk hok
  obtain ⟨hlv, hl, he0, he1⟩ := eo_28 hk hok
  have hty := hty' K.F (fun i => exT K.F (T.kids i)) (take0 s) s.2.length
  rw [hty]
  clear hty'
  obtain ⟨g, off, cap, hv, hgl, hcap, hkid⟩ := ck_kid hN.row (by omega)
  subst hv
  obtain ⟨u0, hc0, hr0⟩ := hkid 0 (by omega)
  simp only [Nat.zero_mul, Nat.add_zero] at hc0
  obtain ⟨a0, q0, hu0, hcp0, hqq0⟩ := row_eq.1 hr0
  clear hqq0
  subst hu0
  have HC0 := hid_mk hc0
  obtain ⟨u1, hc1, hr1⟩ := hkid 1 (by omega)
  simp only [Nat.one_mul] at hc1
  obtain ⟨a1, q1, hu1, hcp1, hqq1⟩ := row_eq.1 hr1
  clear hqq1
  subst hu1
  have HC1 := hid_mk hc1
  obtain ⟨O1, hs1, hback1, hbox1, hbl1⟩ := hS.boxed (.cells #[.int .i64 T.kind, .int .i64 T.num, .string T.name, .slice (some ⟨g, off, none⟩) T.len cap] 30)
  have HBX := hid_mk hbox1
  have HBL := hid_mk hbl1
  have HB1 := hid_mk hback1
  have HS1 := hid_mk hs1
  have hlo : K.lo ≤ w.heap.size := by have := hS.lt; have := hS.ok.cl; omega
  have hfew := hS.ok.few
  have HAB := hid_mk (i2_ab hS (.cells #[.int .i64 T.kind, .int .i64 T.num, .string T.name, .slice (some ⟨g, off, none⟩) T.len cap] 30) (T.kids 0) (T.kids 1) (.slice a0 (T.kids 0).len q0) (.slice a1 (T.kids 1).len q1) 30)
  have HBA := hid_mk (i2_ba hS (.cells #[.int .i64 T.kind, .int .i64 T.num, .string T.name, .slice (some ⟨g, off, none⟩) T.len cap] 30) (T.kids 0) (T.kids 1) (.slice a0 (T.kids 0).len q0) (.slice a1 (T.kids 1).len q1) 30)
  have HW0 := hid_mk (fun (Bs : World) (Ob : Nat → Prop) (W : World) (st : CS) (ty : Int) (hW : IS K Bs Ob st ret loops sels W) (hb : Below K.lo w W) (hf : st.2.length + (T.kids 0).size ≤ K.N) => iwant_of (ih 0 (by omega)) K Bs Ob st ret loops sels W (.slice a0 (T.kids 0).len q0) ty hW (hE.later hb) ((hN.kid (by omega) hr0).later hb) hf he0)
  have HV0 := hid_mk (fun (Bs : World) (Ob : Nat → Prop) (W : World) (st : CS) (hW : IS K Bs Ob st ret loops sels W) (hb : Below K.lo w W) (hf : st.2.length + (T.kids 0).size ≤ K.N) => ivalue_of (ih 0 (by omega)) K Bs Ob st ret loops sels W (.slice a0 (T.kids 0).len q0) hW (hE.later hb) ((hN.kid (by omega) hr0).later hb) hf he0)
  have HW1 := hid_mk (fun (Bs : World) (Ob : Nat → Prop) (W : World) (st : CS) (ty : Int) (hW : IS K Bs Ob st ret loops sels W) (hb : Below K.lo w W) (hf : st.2.length + (T.kids 1).size ≤ K.N) => iwant_of (ih 1 (by omega)) K Bs Ob st ret loops sels W (.slice a1 (T.kids 1).len q1) ty hW (hE.later hb) ((hN.kid (by omega) hr1).later hb) hf he1)
  have HV1 := hid_mk (fun (Bs : World) (Ob : Nat → Prop) (W : World) (st : CS) (hW : IS K Bs Ob st ret loops sels W) (hb : Below K.lo w W) (hf : st.2.length + (T.kids 1).size ≤ K.N) => ivalue_of (ih 1 (by omega)) K Bs Ob st ret loops sels W (.slice a1 (T.kids 1).len q1) hW (hE.later hb) ((hN.kid (by omega) hr1).later hb) hf he1)
  have HF0 := hid_mk (take_fit hfit (i := 0) (by omega))
  have HF1 : Hid (∀ st : CS, st.2.length = (take0 s).2.length + (T.kids 0).size → st.2.length + (T.kids 1).size ≤ K.N) := by
    intro st h
    have hz := T.size_eq
    rw [hl] at hz; simp only [sumTo] at hz
    rw [take0_len] at h; omega
  unfold Nd.val at *
  have hgw : g < w.heap.size := by omega
  have hgw1 : g < w.heap.size + 1 := by omega
  have hgw2 : g < w.heap.size + 1 + 1 := by omega
  have hgn0 : ¬ g = w.heap.size := by omega
  have hgn1 : ¬ g = w.heap.size + 1 := by omega
  have hgn2 : ¬ g = w.heap.size + 1 + 1 := by omega
  obtain ⟨c00, c01, c02, c03⟩ := HC0.out w (Below.refl _ _)
  obtain ⟨c10, c11, c12, c13⟩ := HC1.out w (Below.refl _ _)
  obtain ⟨d00, d01, d02, d03⟩ := HC0.out _ (HBL.out _ _ _ _ _ HS1.out)
  obtain ⟨d10, d11, d12, d13⟩ := HC1.out _ (HBL.out _ _ _ _ _ HS1.out)
  have hpos : 0 < T.len := by omega
  have hpos1 : (1 : Int) < (T.len : Int) := by omega
  have hpos1n : 1 < T.len := by omega
  have HD := hid_mk hnm
  have HXL := hid_mk (fun r (h : valueM (exT K.F (T.kids 0)) (take0 s) = .ok r) => ((ex_len K.F _ he0).value _ _ _ h).2)
  clear hnm hlv
  clear hS hE hN hs1 hback1 hbox1 hbl1 hkid hc0 hr0 hc1 hr1 hok hk hl ih hty he0 he1 hfit
  generalize T.kids 0 = A at *
  generalize T.kids 1 = B at *
  cases hM : valueM (exT K.F A) (take0 s) with
  | error p =>
    have HM := hid_mk hM
    clear hM
    rw [CR.bind_error]
    go_enter Tryz.func130, Tryz.ntmps130
    go_wp2
    go_region_held3 (fun W => W.cell? ⟨w.heap.size, 2, none⟩ = some (.string T.name) ∧ W.cell? ⟨w.heap.size, 3, none⟩ = some (.slice (some ⟨g, off, none⟩) T.len cap) ∧ W.cell? ⟨g, off, none⟩ = some (.int .i64 A.kind) ∧ W.cell? ⟨g, off + 1, none⟩ = some (.int .i64 A.num) ∧ W.cell? ⟨g, off + 2, none⟩ = some (.string A.name) ∧ W.cell? ⟨g, off + 3, none⟩ = some (.slice a0 A.len q0) ∧ W.cell? ⟨g, off + 4, none⟩ = some (.int .i64 B.kind) ∧ W.cell? ⟨g, off + 4 + 1, none⟩ = some (.int .i64 B.num) ∧ W.cell? ⟨g, off + 4 + 2, none⟩ = some (.string B.name) ∧ W.cell? ⟨g, off + 4 + 3, none⟩ = some (.slice a1 B.len q1)) (go_keep) (fail)
    clear c00 c01 c02 c03 c10 c11 c12 c13 d00 d01 d02 d03 d10 d11 d12 d13
    rotate_left
    · obtain ⟨Ob, hI⟩ := HBA.out
      have nm : (((w.alloc (.cells #[.int .i64 T.kind, .int .i64 T.num, .string T.name, .slice (some ⟨g, off, none⟩) T.len cap] 30)).alloc (.cells #[.int .i64 B.kind, .int .i64 B.num, .string B.name, .slice a1 B.len q1] 30)).alloc (.cells #[.int .i64 A.kind, .int .i64 A.num, .string A.name, .slice a0 A.len q0] 30)).drew.cell? ⟨w.heap.size, 2, none⟩ = some (.string T.name) := by simp [go_sem]
      generalize (((w.alloc (.cells #[.int .i64 T.kind, .int .i64 T.num, .string T.name, .slice (some ⟨g, off, none⟩) T.len cap] 30)).alloc (.cells #[.int .i64 B.kind, .int .i64 B.num, .string B.name, .slice a1 B.len q1] 30)).alloc (.cells #[.int .i64 A.kind, .int .i64 A.num, .string A.name, .slice a0 A.len q0] 30)).drew = X at *
      generalize ((w.alloc (.cells #[.int .i64 T.kind, .int .i64 T.num, .string T.name, .slice (some ⟨g, off, none⟩) T.len cap] 30)).alloc (.cells #[.int .i64 B.kind, .int .i64 B.num, .string B.name, .slice a1 B.len q1] 30)).alloc (.cells #[.int .i64 A.kind, .int .i64 A.num, .string A.name, .slice a0 A.len q0] 30) = Bs at *
      clear hgw1 hgw2 hgn1 hgn2 HAB HBA
      generalize w.heap.size + 1 + 1 = lb at *
      generalize w.heap.size + 1 = rb at *
      have HI := hid_mk hI
      obtain ⟨l0, l1, l2, l3⟩ := hI.lc _ _ _ _ _ hI.st
      obtain ⟨r0, r1, r2, r3⟩ := hI.rc _ _ _ _ _ hI.st
      clear hI
      have hmix : Tryz.prog.follows Departure.mixedOrders = true := by kernel_rfl
      rcases HD.out with ⟨n1, _⟩ | ⟨n1, n2⟩
      · go_wp2
        refine wp_region_held_drew (S := (fun W => W.cell? ⟨lb, 0, none⟩ = some (.int .i64 A.kind) ∧ W.cell? ⟨lb, 1, none⟩ = some (.int .i64 A.num) ∧ W.cell? ⟨lb, 2, none⟩ = some (.string A.name) ∧ W.cell? ⟨lb, 3, none⟩ = some (.slice a0 A.len q0) ∧ W.cell? ⟨rb, 0, none⟩ = some (.int .i64 B.kind) ∧ W.cell? ⟨rb, 1, none⟩ = some (.int .i64 B.num) ∧ W.cell? ⟨rb, 2, none⟩ = some (.string B.name) ∧ W.cell? ⟨rb, 3, none⟩ = some (.slice a1 B.len q1))) hmix ?_ (fun hHeld => ?_)
        · exact ⟨l0, l1, l2, l3, r0, r1, r2, r3⟩
        refine wpAnyH_take (i := 0) (v := ?_) rfl (by kernel_rfl) (by kernel_rfl) (by kernel_rfl) (fun _ _ _ h => h) (Or.inl ⟨by rfl, ?_⟩) hHeld ?_
        rotate_left
        · intro W hW
          obtain ⟨x0, x1, x2, x3, y0, y1, y2, y3⟩ := hW
          go_simp
          with_reducible rfl
        simp only [Act.put, List.setIfInBounds_toArray]
        refine wpAnyH_take (i := 1) (v := ?_) rfl (by kernel_rfl) (by kernel_rfl) (by kernel_rfl) (fun _ _ _ h => h) (Or.inl ⟨by rfl, ?_⟩) hHeld ?_
        rotate_left
        · intro W hW
          obtain ⟨x0, x1, x2, x3, y0, y1, y2, y3⟩ := hW
          go_simp
          with_reducible rfl
        simp only [Act.put]
        refine wpAnyH_take (i := 2) (v := ?_) rfl (by kernel_rfl) (by kernel_rfl) (by kernel_rfl) (fun _ _ _ h => h) (Or.inl ⟨by rfl, ?_⟩) hHeld ?_
        rotate_left
        · intro W hW
          obtain ⟨x0, x1, x2, x3, y0, y1, y2, y3⟩ := hW
          go_simp
          with_reducible rfl
        simp only [Act.put]
        refine wpAnyH_take (i := 3) (v := ?_) rfl (by kernel_rfl) (by kernel_rfl) (by kernel_rfl) (fun _ _ _ h => h) (Or.inl ⟨by rfl, ?_⟩) hHeld ?_
        rotate_left
        · intro W hW
          obtain ⟨x0, x1, x2, x3, y0, y1, y2, y3⟩ := hW
          go_simp
          with_reducible rfl
        simp only [Act.put]
        refine wpAnyH_ready (rs := [4]) (by kernel_rfl) (by simp) ?_
        refine AllReadyH.cons rfl (fun K' hK => ?_) AllReadyH.nil
        rw [if_pos (by rfl)]
        go_wp2_with (go_at_call 108; refine (ansE (HV0.out Bs Ob _ _ HI.out.st.drew (HI.out.below _ _ _ _ _ HI.out.st.drew) HF0.out) HM.out).mono ?_; rintro e w2 ⟨rfl, hb2⟩; skip)
        exact ⟨rfl, rfl, (HI.out.below _ _ _ _ _ HI.out.st.drew).trans hb2⟩
      · go_wp2
        refine wp_region_held_drew (S := (fun W => W.cell? ⟨lb, 0, none⟩ = some (.int .i64 A.kind) ∧ W.cell? ⟨lb, 1, none⟩ = some (.int .i64 A.num) ∧ W.cell? ⟨lb, 2, none⟩ = some (.string A.name) ∧ W.cell? ⟨lb, 3, none⟩ = some (.slice a0 A.len q0) ∧ W.cell? ⟨rb, 0, none⟩ = some (.int .i64 B.kind) ∧ W.cell? ⟨rb, 1, none⟩ = some (.int .i64 B.num) ∧ W.cell? ⟨rb, 2, none⟩ = some (.string B.name) ∧ W.cell? ⟨rb, 3, none⟩ = some (.slice a1 B.len q1))) hmix ?_ (fun hHeld => ?_)
        · exact ⟨l0, l1, l2, l3, r0, r1, r2, r3⟩
        refine wpAnyH_take (i := 0) (v := ?_) rfl (by kernel_rfl) (by kernel_rfl) (by kernel_rfl) (fun _ _ _ h => h) (Or.inl ⟨by rfl, ?_⟩) hHeld ?_
        rotate_left
        · intro W hW
          obtain ⟨x0, x1, x2, x3, y0, y1, y2, y3⟩ := hW
          go_simp
          with_reducible rfl
        simp only [Act.put, List.setIfInBounds_toArray]
        refine wpAnyH_take (i := 1) (v := ?_) rfl (by kernel_rfl) (by kernel_rfl) (by kernel_rfl) (fun _ _ _ h => h) (Or.inl ⟨by rfl, ?_⟩) hHeld ?_
        rotate_left
        · intro W hW
          obtain ⟨x0, x1, x2, x3, y0, y1, y2, y3⟩ := hW
          go_simp
          with_reducible rfl
        simp only [Act.put]
        refine wpAnyH_take (i := 2) (v := ?_) rfl (by kernel_rfl) (by kernel_rfl) (by kernel_rfl) (fun _ _ _ h => h) (Or.inl ⟨by rfl, ?_⟩) hHeld ?_
        rotate_left
        · intro W hW
          obtain ⟨x0, x1, x2, x3, y0, y1, y2, y3⟩ := hW
          go_simp
          with_reducible rfl
        simp only [Act.put]
        refine wpAnyH_take (i := 3) (v := ?_) rfl (by kernel_rfl) (by kernel_rfl) (by kernel_rfl) (fun _ _ _ h => h) (Or.inl ⟨by rfl, ?_⟩) hHeld ?_
        rotate_left
        · intro W hW
          obtain ⟨x0, x1, x2, x3, y0, y1, y2, y3⟩ := hW
          go_simp
          with_reducible rfl
        simp only [Act.put]
        refine wpAnyH_ready (rs := [4]) (by kernel_rfl) (by simp) ?_
        refine AllReadyH.cons rfl (fun K' hK => ?_) AllReadyH.nil
        rw [if_pos (by rfl)]
        go_wp2_with (go_at_call 108; refine (ansE (HV0.out Bs Ob _ _ HI.out.st.drew (HI.out.below _ _ _ _ _ HI.out.st.drew) HF0.out) HM.out).mono ?_; rintro e w2 ⟨rfl, hb2⟩; skip)
        exact ⟨rfl, rfl, (HI.out.below _ _ _ _ _ HI.out.st.drew).trans hb2⟩
    · obtain ⟨Ob, hI⟩ := HAB.out
      have nm : (((w.alloc (.cells #[.int .i64 T.kind, .int .i64 T.num, .string T.name, .slice (some ⟨g, off, none⟩) T.len cap] 30)).alloc (.cells #[.int .i64 A.kind, .int .i64 A.num, .string A.name, .slice a0 A.len q0] 30)).alloc (.cells #[.int .i64 B.kind, .int .i64 B.num, .string B.name, .slice a1 B.len q1] 30)).drew.cell? ⟨w.heap.size, 2, none⟩ = some (.string T.name) := by simp [go_sem]
      generalize (((w.alloc (.cells #[.int .i64 T.kind, .int .i64 T.num, .string T.name, .slice (some ⟨g, off, none⟩) T.len cap] 30)).alloc (.cells #[.int .i64 A.kind, .int .i64 A.num, .string A.name, .slice a0 A.len q0] 30)).alloc (.cells #[.int .i64 B.kind, .int .i64 B.num, .string B.name, .slice a1 B.len q1] 30)).drew = X at *
      generalize ((w.alloc (.cells #[.int .i64 T.kind, .int .i64 T.num, .string T.name, .slice (some ⟨g, off, none⟩) T.len cap] 30)).alloc (.cells #[.int .i64 A.kind, .int .i64 A.num, .string A.name, .slice a0 A.len q0] 30)).alloc (.cells #[.int .i64 B.kind, .int .i64 B.num, .string B.name, .slice a1 B.len q1] 30) = Bs at *
      clear hgw1 hgw2 hgn1 hgn2 HAB HBA
      generalize w.heap.size + 1 + 1 = rb at *
      generalize w.heap.size + 1 = lb at *
      have HI := hid_mk hI
      obtain ⟨l0, l1, l2, l3⟩ := hI.lc _ _ _ _ _ hI.st
      obtain ⟨r0, r1, r2, r3⟩ := hI.rc _ _ _ _ _ hI.st
      clear hI
      have hmix : Tryz.prog.follows Departure.mixedOrders = true := by kernel_rfl
      rcases HD.out with ⟨n1, _⟩ | ⟨n1, n2⟩
      · go_wp2
        refine wp_region_held_drew (S := (fun W => W.cell? ⟨lb, 0, none⟩ = some (.int .i64 A.kind) ∧ W.cell? ⟨lb, 1, none⟩ = some (.int .i64 A.num) ∧ W.cell? ⟨lb, 2, none⟩ = some (.string A.name) ∧ W.cell? ⟨lb, 3, none⟩ = some (.slice a0 A.len q0) ∧ W.cell? ⟨rb, 0, none⟩ = some (.int .i64 B.kind) ∧ W.cell? ⟨rb, 1, none⟩ = some (.int .i64 B.num) ∧ W.cell? ⟨rb, 2, none⟩ = some (.string B.name) ∧ W.cell? ⟨rb, 3, none⟩ = some (.slice a1 B.len q1))) hmix ?_ (fun hHeld => ?_)
        · exact ⟨l0, l1, l2, l3, r0, r1, r2, r3⟩
        refine wpAnyH_take (i := 0) (v := ?_) rfl (by kernel_rfl) (by kernel_rfl) (by kernel_rfl) (fun _ _ _ h => h) (Or.inl ⟨by rfl, ?_⟩) hHeld ?_
        rotate_left
        · intro W hW
          obtain ⟨x0, x1, x2, x3, y0, y1, y2, y3⟩ := hW
          go_simp
          with_reducible rfl
        simp only [Act.put, List.setIfInBounds_toArray]
        refine wpAnyH_take (i := 1) (v := ?_) rfl (by kernel_rfl) (by kernel_rfl) (by kernel_rfl) (fun _ _ _ h => h) (Or.inl ⟨by rfl, ?_⟩) hHeld ?_
        rotate_left
        · intro W hW
          obtain ⟨x0, x1, x2, x3, y0, y1, y2, y3⟩ := hW
          go_simp
          with_reducible rfl
        simp only [Act.put]
        refine wpAnyH_take (i := 2) (v := ?_) rfl (by kernel_rfl) (by kernel_rfl) (by kernel_rfl) (fun _ _ _ h => h) (Or.inl ⟨by rfl, ?_⟩) hHeld ?_
        rotate_left
        · intro W hW
          obtain ⟨x0, x1, x2, x3, y0, y1, y2, y3⟩ := hW
          go_simp
          with_reducible rfl
        simp only [Act.put]
        refine wpAnyH_take (i := 3) (v := ?_) rfl (by kernel_rfl) (by kernel_rfl) (by kernel_rfl) (fun _ _ _ h => h) (Or.inl ⟨by rfl, ?_⟩) hHeld ?_
        rotate_left
        · intro W hW
          obtain ⟨x0, x1, x2, x3, y0, y1, y2, y3⟩ := hW
          go_simp
          with_reducible rfl
        simp only [Act.put]
        refine wpAnyH_ready (rs := [4]) (by kernel_rfl) (by simp) ?_
        refine AllReadyH.cons rfl (fun K' hK => ?_) AllReadyH.nil
        rw [if_pos (by rfl)]
        go_wp2_with (go_at_call 108; refine (ansE (HV0.out Bs Ob _ _ HI.out.st.drew (HI.out.below _ _ _ _ _ HI.out.st.drew) HF0.out) HM.out).mono ?_; rintro e w2 ⟨rfl, hb2⟩; skip)
        exact ⟨rfl, rfl, (HI.out.below _ _ _ _ _ HI.out.st.drew).trans hb2⟩
      · go_wp2
        refine wp_region_held_drew (S := (fun W => W.cell? ⟨lb, 0, none⟩ = some (.int .i64 A.kind) ∧ W.cell? ⟨lb, 1, none⟩ = some (.int .i64 A.num) ∧ W.cell? ⟨lb, 2, none⟩ = some (.string A.name) ∧ W.cell? ⟨lb, 3, none⟩ = some (.slice a0 A.len q0) ∧ W.cell? ⟨rb, 0, none⟩ = some (.int .i64 B.kind) ∧ W.cell? ⟨rb, 1, none⟩ = some (.int .i64 B.num) ∧ W.cell? ⟨rb, 2, none⟩ = some (.string B.name) ∧ W.cell? ⟨rb, 3, none⟩ = some (.slice a1 B.len q1))) hmix ?_ (fun hHeld => ?_)
        · exact ⟨l0, l1, l2, l3, r0, r1, r2, r3⟩
        refine wpAnyH_take (i := 0) (v := ?_) rfl (by kernel_rfl) (by kernel_rfl) (by kernel_rfl) (fun _ _ _ h => h) (Or.inl ⟨by rfl, ?_⟩) hHeld ?_
        rotate_left
        · intro W hW
          obtain ⟨x0, x1, x2, x3, y0, y1, y2, y3⟩ := hW
          go_simp
          with_reducible rfl
        simp only [Act.put, List.setIfInBounds_toArray]
        refine wpAnyH_take (i := 1) (v := ?_) rfl (by kernel_rfl) (by kernel_rfl) (by kernel_rfl) (fun _ _ _ h => h) (Or.inl ⟨by rfl, ?_⟩) hHeld ?_
        rotate_left
        · intro W hW
          obtain ⟨x0, x1, x2, x3, y0, y1, y2, y3⟩ := hW
          go_simp
          with_reducible rfl
        simp only [Act.put]
        refine wpAnyH_take (i := 2) (v := ?_) rfl (by kernel_rfl) (by kernel_rfl) (by kernel_rfl) (fun _ _ _ h => h) (Or.inl ⟨by rfl, ?_⟩) hHeld ?_
        rotate_left
        · intro W hW
          obtain ⟨x0, x1, x2, x3, y0, y1, y2, y3⟩ := hW
          go_simp
          with_reducible rfl
        simp only [Act.put]
        refine wpAnyH_take (i := 3) (v := ?_) rfl (by kernel_rfl) (by kernel_rfl) (by kernel_rfl) (fun _ _ _ h => h) (Or.inl ⟨by rfl, ?_⟩) hHeld ?_
        rotate_left
        · intro W hW
          obtain ⟨x0, x1, x2, x3, y0, y1, y2, y3⟩ := hW
          go_simp
          with_reducible rfl
        simp only [Act.put]
        refine wpAnyH_ready (rs := [4]) (by kernel_rfl) (by simp) ?_
        refine AllReadyH.cons rfl (fun K' hK => ?_) AllReadyH.nil
        rw [if_pos (by rfl)]
        go_wp2_with (go_at_call 108; refine (ansE (HV0.out Bs Ob _ _ HI.out.st.drew (HI.out.below _ _ _ _ _ HI.out.st.drew) HF0.out) HM.out).mono ?_; rintro e w2 ⟨rfl, hb2⟩; skip)
        exact ⟨rfl, rfl, (HI.out.below _ _ _ _ _ HI.out.st.drew).trans hb2⟩
  | ok r =>
    obtain ⟨ty, s1⟩ := r
    have HM := hid_mk hM
    clear hM
    rw [CR.bind_ok]
    dsimp only at *
    cases hM2 : wantM (exT K.F B) ty s1 with
    | error p =>
      have HM2 := hid_mk hM2
      clear hM2
      rw [CR.bind_error]
      go_enter Tryz.func130, Tryz.ntmps130
      go_wp2
      go_region_held3 (fun W => W.cell? ⟨w.heap.size, 2, none⟩ = some (.string T.name) ∧ W.cell? ⟨w.heap.size, 3, none⟩ = some (.slice (some ⟨g, off, none⟩) T.len cap) ∧ W.cell? ⟨g, off, none⟩ = some (.int .i64 A.kind) ∧ W.cell? ⟨g, off + 1, none⟩ = some (.int .i64 A.num) ∧ W.cell? ⟨g, off + 2, none⟩ = some (.string A.name) ∧ W.cell? ⟨g, off + 3, none⟩ = some (.slice a0 A.len q0) ∧ W.cell? ⟨g, off + 4, none⟩ = some (.int .i64 B.kind) ∧ W.cell? ⟨g, off + 4 + 1, none⟩ = some (.int .i64 B.num) ∧ W.cell? ⟨g, off + 4 + 2, none⟩ = some (.string B.name) ∧ W.cell? ⟨g, off + 4 + 3, none⟩ = some (.slice a1 B.len q1)) (go_keep) (fail)
      clear c00 c01 c02 c03 c10 c11 c12 c13 d00 d01 d02 d03 d10 d11 d12 d13
      rotate_left
      · obtain ⟨Ob, hI⟩ := HBA.out
        have nm : (((w.alloc (.cells #[.int .i64 T.kind, .int .i64 T.num, .string T.name, .slice (some ⟨g, off, none⟩) T.len cap] 30)).alloc (.cells #[.int .i64 B.kind, .int .i64 B.num, .string B.name, .slice a1 B.len q1] 30)).alloc (.cells #[.int .i64 A.kind, .int .i64 A.num, .string A.name, .slice a0 A.len q0] 30)).drew.cell? ⟨w.heap.size, 2, none⟩ = some (.string T.name) := by simp [go_sem]
        generalize (((w.alloc (.cells #[.int .i64 T.kind, .int .i64 T.num, .string T.name, .slice (some ⟨g, off, none⟩) T.len cap] 30)).alloc (.cells #[.int .i64 B.kind, .int .i64 B.num, .string B.name, .slice a1 B.len q1] 30)).alloc (.cells #[.int .i64 A.kind, .int .i64 A.num, .string A.name, .slice a0 A.len q0] 30)).drew = X at *
        generalize ((w.alloc (.cells #[.int .i64 T.kind, .int .i64 T.num, .string T.name, .slice (some ⟨g, off, none⟩) T.len cap] 30)).alloc (.cells #[.int .i64 B.kind, .int .i64 B.num, .string B.name, .slice a1 B.len q1] 30)).alloc (.cells #[.int .i64 A.kind, .int .i64 A.num, .string A.name, .slice a0 A.len q0] 30) = Bs at *
        clear hgw1 hgw2 hgn1 hgn2 HAB HBA
        generalize w.heap.size + 1 + 1 = lb at *
        generalize w.heap.size + 1 = rb at *
        have HI := hid_mk hI
        obtain ⟨l0, l1, l2, l3⟩ := hI.lc _ _ _ _ _ hI.st
        obtain ⟨r0, r1, r2, r3⟩ := hI.rc _ _ _ _ _ hI.st
        clear hI
        have hmix : Tryz.prog.follows Departure.mixedOrders = true := by kernel_rfl
        rcases HD.out with ⟨n1, _⟩ | ⟨n1, n2⟩
        · go_wp2
          refine wp_region_held_drew (S := (fun W => W.cell? ⟨lb, 0, none⟩ = some (.int .i64 A.kind) ∧ W.cell? ⟨lb, 1, none⟩ = some (.int .i64 A.num) ∧ W.cell? ⟨lb, 2, none⟩ = some (.string A.name) ∧ W.cell? ⟨lb, 3, none⟩ = some (.slice a0 A.len q0) ∧ W.cell? ⟨rb, 0, none⟩ = some (.int .i64 B.kind) ∧ W.cell? ⟨rb, 1, none⟩ = some (.int .i64 B.num) ∧ W.cell? ⟨rb, 2, none⟩ = some (.string B.name) ∧ W.cell? ⟨rb, 3, none⟩ = some (.slice a1 B.len q1))) hmix ?_ (fun hHeld => ?_)
          · exact ⟨l0, l1, l2, l3, r0, r1, r2, r3⟩
          refine wpAnyH_take (i := 0) (v := ?_) rfl (by kernel_rfl) (by kernel_rfl) (by kernel_rfl) (fun _ _ _ h => h) (Or.inl ⟨by rfl, ?_⟩) hHeld ?_
          rotate_left
          · intro W hW
            obtain ⟨x0, x1, x2, x3, y0, y1, y2, y3⟩ := hW
            go_simp
            with_reducible rfl
          simp only [Act.put, List.setIfInBounds_toArray]
          refine wpAnyH_take (i := 1) (v := ?_) rfl (by kernel_rfl) (by kernel_rfl) (by kernel_rfl) (fun _ _ _ h => h) (Or.inl ⟨by rfl, ?_⟩) hHeld ?_
          rotate_left
          · intro W hW
            obtain ⟨x0, x1, x2, x3, y0, y1, y2, y3⟩ := hW
            go_simp
            with_reducible rfl
          simp only [Act.put]
          refine wpAnyH_take (i := 2) (v := ?_) rfl (by kernel_rfl) (by kernel_rfl) (by kernel_rfl) (fun _ _ _ h => h) (Or.inl ⟨by rfl, ?_⟩) hHeld ?_
          rotate_left
          · intro W hW
            obtain ⟨x0, x1, x2, x3, y0, y1, y2, y3⟩ := hW
            go_simp
            with_reducible rfl
          simp only [Act.put]
          refine wpAnyH_take (i := 3) (v := ?_) rfl (by kernel_rfl) (by kernel_rfl) (by kernel_rfl) (fun _ _ _ h => h) (Or.inl ⟨by rfl, ?_⟩) hHeld ?_
          rotate_left
          · intro W hW
            obtain ⟨x0, x1, x2, x3, y0, y1, y2, y3⟩ := hW
            go_simp
            with_reducible rfl
          simp only [Act.put]
          refine wpAnyH_ready (rs := [4]) (by kernel_rfl) (by simp) ?_
          refine AllReadyH.cons rfl (fun K' hK => ?_) AllReadyH.nil
          rw [if_pos (by rfl)]
          go_wp2_with (go_at_call 108; refine (ansO (HV0.out Bs Ob _ _ HI.out.st.drew (HI.out.below _ _ _ _ _ HI.out.st.drew) HF0.out) HM.out).mono ?_; rintro e w2 ⟨rfl, hs2⟩; obtain ⟨l0, l1, l2, l3⟩ := HI.out.lc _ _ _ _ _ hs2; obtain ⟨r0, r1, r2, r3⟩ := HI.out.rc _ _ _ _ _ hs2; have HS2 := hid_mk hs2; clear hs2)
          refine hK.out _ _ ⟨l0, l1, l2, l3, r0, r1, r2, r3⟩ (fun hHeld2 => ?_)
          refine wpAnyH_ready (rs := [5]) (by kernel_rfl) (by simp) ?_
          refine AllReadyH.cons rfl (fun K' hK => ?_) AllReadyH.nil
          rw [if_pos (by rfl)]
          go_wp2_with (go_at_call 109; refine (ansE (HW1.out Bs Ob _ _ _ HS2.out (HI.out.below _ _ _ _ _ HS2.out) (HF1.out _ (HXL.out _ HM.out))) HM2.out).mono ?_; rintro e w3 ⟨rfl, hb3⟩; skip)
          exact ⟨rfl, rfl, (HI.out.below _ _ _ _ _ HS2.out).trans hb3⟩
        · go_wp2
          refine wp_region_held_drew (S := (fun W => W.cell? ⟨lb, 0, none⟩ = some (.int .i64 A.kind) ∧ W.cell? ⟨lb, 1, none⟩ = some (.int .i64 A.num) ∧ W.cell? ⟨lb, 2, none⟩ = some (.string A.name) ∧ W.cell? ⟨lb, 3, none⟩ = some (.slice a0 A.len q0) ∧ W.cell? ⟨rb, 0, none⟩ = some (.int .i64 B.kind) ∧ W.cell? ⟨rb, 1, none⟩ = some (.int .i64 B.num) ∧ W.cell? ⟨rb, 2, none⟩ = some (.string B.name) ∧ W.cell? ⟨rb, 3, none⟩ = some (.slice a1 B.len q1))) hmix ?_ (fun hHeld => ?_)
          · exact ⟨l0, l1, l2, l3, r0, r1, r2, r3⟩
          refine wpAnyH_take (i := 0) (v := ?_) rfl (by kernel_rfl) (by kernel_rfl) (by kernel_rfl) (fun _ _ _ h => h) (Or.inl ⟨by rfl, ?_⟩) hHeld ?_
          rotate_left
          · intro W hW
            obtain ⟨x0, x1, x2, x3, y0, y1, y2, y3⟩ := hW
            go_simp
            with_reducible rfl
          simp only [Act.put, List.setIfInBounds_toArray]
          refine wpAnyH_take (i := 1) (v := ?_) rfl (by kernel_rfl) (by kernel_rfl) (by kernel_rfl) (fun _ _ _ h => h) (Or.inl ⟨by rfl, ?_⟩) hHeld ?_
          rotate_left
          · intro W hW
            obtain ⟨x0, x1, x2, x3, y0, y1, y2, y3⟩ := hW
            go_simp
            with_reducible rfl
          simp only [Act.put]
          refine wpAnyH_take (i := 2) (v := ?_) rfl (by kernel_rfl) (by kernel_rfl) (by kernel_rfl) (fun _ _ _ h => h) (Or.inl ⟨by rfl, ?_⟩) hHeld ?_
          rotate_left
          · intro W hW
            obtain ⟨x0, x1, x2, x3, y0, y1, y2, y3⟩ := hW
            go_simp
            with_reducible rfl
          simp only [Act.put]
          refine wpAnyH_take (i := 3) (v := ?_) rfl (by kernel_rfl) (by kernel_rfl) (by kernel_rfl) (fun _ _ _ h => h) (Or.inl ⟨by rfl, ?_⟩) hHeld ?_
          rotate_left
          · intro W hW
            obtain ⟨x0, x1, x2, x3, y0, y1, y2, y3⟩ := hW
            go_simp
            with_reducible rfl
          simp only [Act.put]
          refine wpAnyH_ready (rs := [4]) (by kernel_rfl) (by simp) ?_
          refine AllReadyH.cons rfl (fun K' hK => ?_) AllReadyH.nil
          rw [if_pos (by rfl)]
          go_wp2_with (go_at_call 108; refine (ansO (HV0.out Bs Ob _ _ HI.out.st.drew (HI.out.below _ _ _ _ _ HI.out.st.drew) HF0.out) HM.out).mono ?_; rintro e w2 ⟨rfl, hs2⟩; obtain ⟨l0, l1, l2, l3⟩ := HI.out.lc _ _ _ _ _ hs2; obtain ⟨r0, r1, r2, r3⟩ := HI.out.rc _ _ _ _ _ hs2; have HS2 := hid_mk hs2; clear hs2)
          refine hK.out _ _ ⟨l0, l1, l2, l3, r0, r1, r2, r3⟩ (fun hHeld2 => ?_)
          refine wpAnyH_ready (rs := [5]) (by kernel_rfl) (by simp) ?_
          refine AllReadyH.cons rfl (fun K' hK => ?_) AllReadyH.nil
          rw [if_pos (by rfl)]
          go_wp2_with (go_at_call 109; refine (ansE (HW1.out Bs Ob _ _ _ HS2.out (HI.out.below _ _ _ _ _ HS2.out) (HF1.out _ (HXL.out _ HM.out))) HM2.out).mono ?_; rintro e w3 ⟨rfl, hb3⟩; skip)
          exact ⟨rfl, rfl, (HI.out.below _ _ _ _ _ HS2.out).trans hb3⟩
      · obtain ⟨Ob, hI⟩ := HAB.out
        have nm : (((w.alloc (.cells #[.int .i64 T.kind, .int .i64 T.num, .string T.name, .slice (some ⟨g, off, none⟩) T.len cap] 30)).alloc (.cells #[.int .i64 A.kind, .int .i64 A.num, .string A.name, .slice a0 A.len q0] 30)).alloc (.cells #[.int .i64 B.kind, .int .i64 B.num, .string B.name, .slice a1 B.len q1] 30)).drew.cell? ⟨w.heap.size, 2, none⟩ = some (.string T.name) := by simp [go_sem]
        generalize (((w.alloc (.cells #[.int .i64 T.kind, .int .i64 T.num, .string T.name, .slice (some ⟨g, off, none⟩) T.len cap] 30)).alloc (.cells #[.int .i64 A.kind, .int .i64 A.num, .string A.name, .slice a0 A.len q0] 30)).alloc (.cells #[.int .i64 B.kind, .int .i64 B.num, .string B.name, .slice a1 B.len q1] 30)).drew = X at *
        generalize ((w.alloc (.cells #[.int .i64 T.kind, .int .i64 T.num, .string T.name, .slice (some ⟨g, off, none⟩) T.len cap] 30)).alloc (.cells #[.int .i64 A.kind, .int .i64 A.num, .string A.name, .slice a0 A.len q0] 30)).alloc (.cells #[.int .i64 B.kind, .int .i64 B.num, .string B.name, .slice a1 B.len q1] 30) = Bs at *
        clear hgw1 hgw2 hgn1 hgn2 HAB HBA
        generalize w.heap.size + 1 + 1 = rb at *
        generalize w.heap.size + 1 = lb at *
        have HI := hid_mk hI
        obtain ⟨l0, l1, l2, l3⟩ := hI.lc _ _ _ _ _ hI.st
        obtain ⟨r0, r1, r2, r3⟩ := hI.rc _ _ _ _ _ hI.st
        clear hI
        have hmix : Tryz.prog.follows Departure.mixedOrders = true := by kernel_rfl
        rcases HD.out with ⟨n1, _⟩ | ⟨n1, n2⟩
        · go_wp2
          refine wp_region_held_drew (S := (fun W => W.cell? ⟨lb, 0, none⟩ = some (.int .i64 A.kind) ∧ W.cell? ⟨lb, 1, none⟩ = some (.int .i64 A.num) ∧ W.cell? ⟨lb, 2, none⟩ = some (.string A.name) ∧ W.cell? ⟨lb, 3, none⟩ = some (.slice a0 A.len q0) ∧ W.cell? ⟨rb, 0, none⟩ = some (.int .i64 B.kind) ∧ W.cell? ⟨rb, 1, none⟩ = some (.int .i64 B.num) ∧ W.cell? ⟨rb, 2, none⟩ = some (.string B.name) ∧ W.cell? ⟨rb, 3, none⟩ = some (.slice a1 B.len q1))) hmix ?_ (fun hHeld => ?_)
          · exact ⟨l0, l1, l2, l3, r0, r1, r2, r3⟩
          refine wpAnyH_take (i := 0) (v := ?_) rfl (by kernel_rfl) (by kernel_rfl) (by kernel_rfl) (fun _ _ _ h => h) (Or.inl ⟨by rfl, ?_⟩) hHeld ?_
          rotate_left
          · intro W hW
            obtain ⟨x0, x1, x2, x3, y0, y1, y2, y3⟩ := hW
            go_simp
            with_reducible rfl
          simp only [Act.put, List.setIfInBounds_toArray]
          refine wpAnyH_take (i := 1) (v := ?_) rfl (by kernel_rfl) (by kernel_rfl) (by kernel_rfl) (fun _ _ _ h => h) (Or.inl ⟨by rfl, ?_⟩) hHeld ?_
          rotate_left
          · intro W hW
            obtain ⟨x0, x1, x2, x3, y0, y1, y2, y3⟩ := hW
            go_simp
            with_reducible rfl
          simp only [Act.put]
          refine wpAnyH_take (i := 2) (v := ?_) rfl (by kernel_rfl) (by kernel_rfl) (by kernel_rfl) (fun _ _ _ h => h) (Or.inl ⟨by rfl, ?_⟩) hHeld ?_
          rotate_left
          · intro W hW
            obtain ⟨x0, x1, x2, x3, y0, y1, y2, y3⟩ := hW
            go_simp
            with_reducible rfl
          simp only [Act.put]
          refine wpAnyH_take (i := 3) (v := ?_) rfl (by kernel_rfl) (by kernel_rfl) (by kernel_rfl) (fun _ _ _ h => h) (Or.inl ⟨by rfl, ?_⟩) hHeld ?_
          rotate_left
          · intro W hW
            obtain ⟨x0, x1, x2, x3, y0, y1, y2, y3⟩ := hW
            go_simp
            with_reducible rfl
          simp only [Act.put]
          refine wpAnyH_ready (rs := [4]) (by kernel_rfl) (by simp) ?_
          refine AllReadyH.cons rfl (fun K' hK => ?_) AllReadyH.nil
          rw [if_pos (by rfl)]
          go_wp2_with (go_at_call 108; refine (ansO (HV0.out Bs Ob _ _ HI.out.st.drew (HI.out.below _ _ _ _ _ HI.out.st.drew) HF0.out) HM.out).mono ?_; rintro e w2 ⟨rfl, hs2⟩; obtain ⟨l0, l1, l2, l3⟩ := HI.out.lc _ _ _ _ _ hs2; obtain ⟨r0, r1, r2, r3⟩ := HI.out.rc _ _ _ _ _ hs2; have HS2 := hid_mk hs2; clear hs2)
          refine hK.out _ _ ⟨l0, l1, l2, l3, r0, r1, r2, r3⟩ (fun hHeld2 => ?_)
          refine wpAnyH_ready (rs := [5]) (by kernel_rfl) (by simp) ?_
          refine AllReadyH.cons rfl (fun K' hK => ?_) AllReadyH.nil
          rw [if_pos (by rfl)]
          go_wp2_with (go_at_call 109; refine (ansE (HW1.out Bs Ob _ _ _ HS2.out (HI.out.below _ _ _ _ _ HS2.out) (HF1.out _ (HXL.out _ HM.out))) HM2.out).mono ?_; rintro e w3 ⟨rfl, hb3⟩; skip)
          exact ⟨rfl, rfl, (HI.out.below _ _ _ _ _ HS2.out).trans hb3⟩
        · go_wp2
          refine wp_region_held_drew (S := (fun W => W.cell? ⟨lb, 0, none⟩ = some (.int .i64 A.kind) ∧ W.cell? ⟨lb, 1, none⟩ = some (.int .i64 A.num) ∧ W.cell? ⟨lb, 2, none⟩ = some (.string A.name) ∧ W.cell? ⟨lb, 3, none⟩ = some (.slice a0 A.len q0) ∧ W.cell? ⟨rb, 0, none⟩ = some (.int .i64 B.kind) ∧ W.cell? ⟨rb, 1, none⟩ = some (.int .i64 B.num) ∧ W.cell? ⟨rb, 2, none⟩ = some (.string B.name) ∧ W.cell? ⟨rb, 3, none⟩ = some (.slice a1 B.len q1))) hmix ?_ (fun hHeld => ?_)
          · exact ⟨l0, l1, l2, l3, r0, r1, r2, r3⟩
          refine wpAnyH_take (i := 0) (v := ?_) rfl (by kernel_rfl) (by kernel_rfl) (by kernel_rfl) (fun _ _ _ h => h) (Or.inl ⟨by rfl, ?_⟩) hHeld ?_
          rotate_left
          · intro W hW
            obtain ⟨x0, x1, x2, x3, y0, y1, y2, y3⟩ := hW
            go_simp
            with_reducible rfl
          simp only [Act.put, List.setIfInBounds_toArray]
          refine wpAnyH_take (i := 1) (v := ?_) rfl (by kernel_rfl) (by kernel_rfl) (by kernel_rfl) (fun _ _ _ h => h) (Or.inl ⟨by rfl, ?_⟩) hHeld ?_
          rotate_left
          · intro W hW
            obtain ⟨x0, x1, x2, x3, y0, y1, y2, y3⟩ := hW
            go_simp
            with_reducible rfl
          simp only [Act.put]
          refine wpAnyH_take (i := 2) (v := ?_) rfl (by kernel_rfl) (by kernel_rfl) (by kernel_rfl) (fun _ _ _ h => h) (Or.inl ⟨by rfl, ?_⟩) hHeld ?_
          rotate_left
          · intro W hW
            obtain ⟨x0, x1, x2, x3, y0, y1, y2, y3⟩ := hW
            go_simp
            with_reducible rfl
          simp only [Act.put]
          refine wpAnyH_take (i := 3) (v := ?_) rfl (by kernel_rfl) (by kernel_rfl) (by kernel_rfl) (fun _ _ _ h => h) (Or.inl ⟨by rfl, ?_⟩) hHeld ?_
          rotate_left
          · intro W hW
            obtain ⟨x0, x1, x2, x3, y0, y1, y2, y3⟩ := hW
            go_simp
            with_reducible rfl
          simp only [Act.put]
          refine wpAnyH_ready (rs := [4]) (by kernel_rfl) (by simp) ?_
          refine AllReadyH.cons rfl (fun K' hK => ?_) AllReadyH.nil
          rw [if_pos (by rfl)]
          go_wp2_with (go_at_call 108; refine (ansO (HV0.out Bs Ob _ _ HI.out.st.drew (HI.out.below _ _ _ _ _ HI.out.st.drew) HF0.out) HM.out).mono ?_; rintro e w2 ⟨rfl, hs2⟩; obtain ⟨l0, l1, l2, l3⟩ := HI.out.lc _ _ _ _ _ hs2; obtain ⟨r0, r1, r2, r3⟩ := HI.out.rc _ _ _ _ _ hs2; have HS2 := hid_mk hs2; clear hs2)
          refine hK.out _ _ ⟨l0, l1, l2, l3, r0, r1, r2, r3⟩ (fun hHeld2 => ?_)
          refine wpAnyH_ready (rs := [5]) (by kernel_rfl) (by simp) ?_
          refine AllReadyH.cons rfl (fun K' hK => ?_) AllReadyH.nil
          rw [if_pos (by rfl)]
          go_wp2_with (go_at_call 109; refine (ansE (HW1.out Bs Ob _ _ _ HS2.out (HI.out.below _ _ _ _ _ HS2.out) (HF1.out _ (HXL.out _ HM.out))) HM2.out).mono ?_; rintro e w3 ⟨rfl, hb3⟩; skip)
          exact ⟨rfl, rfl, (HI.out.below _ _ _ _ _ HS2.out).trans hb3⟩
    | ok s2 =>
      have HM2 := hid_mk hM2
      clear hM2
      rw [CR.bind_ok]
      go_enter Tryz.func130, Tryz.ntmps130
      go_wp2
      go_region_held3 (fun W => W.cell? ⟨w.heap.size, 2, none⟩ = some (.string T.name) ∧ W.cell? ⟨w.heap.size, 3, none⟩ = some (.slice (some ⟨g, off, none⟩) T.len cap) ∧ W.cell? ⟨g, off, none⟩ = some (.int .i64 A.kind) ∧ W.cell? ⟨g, off + 1, none⟩ = some (.int .i64 A.num) ∧ W.cell? ⟨g, off + 2, none⟩ = some (.string A.name) ∧ W.cell? ⟨g, off + 3, none⟩ = some (.slice a0 A.len q0) ∧ W.cell? ⟨g, off + 4, none⟩ = some (.int .i64 B.kind) ∧ W.cell? ⟨g, off + 4 + 1, none⟩ = some (.int .i64 B.num) ∧ W.cell? ⟨g, off + 4 + 2, none⟩ = some (.string B.name) ∧ W.cell? ⟨g, off + 4 + 3, none⟩ = some (.slice a1 B.len q1)) (go_keep) (fail)
      clear c00 c01 c02 c03 c10 c11 c12 c13 d00 d01 d02 d03 d10 d11 d12 d13
      rotate_left
      · obtain ⟨Ob, hI⟩ := HBA.out
        have nm : (((w.alloc (.cells #[.int .i64 T.kind, .int .i64 T.num, .string T.name, .slice (some ⟨g, off, none⟩) T.len cap] 30)).alloc (.cells #[.int .i64 B.kind, .int .i64 B.num, .string B.name, .slice a1 B.len q1] 30)).alloc (.cells #[.int .i64 A.kind, .int .i64 A.num, .string A.name, .slice a0 A.len q0] 30)).drew.cell? ⟨w.heap.size, 2, none⟩ = some (.string T.name) := by simp [go_sem]
        generalize (((w.alloc (.cells #[.int .i64 T.kind, .int .i64 T.num, .string T.name, .slice (some ⟨g, off, none⟩) T.len cap] 30)).alloc (.cells #[.int .i64 B.kind, .int .i64 B.num, .string B.name, .slice a1 B.len q1] 30)).alloc (.cells #[.int .i64 A.kind, .int .i64 A.num, .string A.name, .slice a0 A.len q0] 30)).drew = X at *
        generalize ((w.alloc (.cells #[.int .i64 T.kind, .int .i64 T.num, .string T.name, .slice (some ⟨g, off, none⟩) T.len cap] 30)).alloc (.cells #[.int .i64 B.kind, .int .i64 B.num, .string B.name, .slice a1 B.len q1] 30)).alloc (.cells #[.int .i64 A.kind, .int .i64 A.num, .string A.name, .slice a0 A.len q0] 30) = Bs at *
        clear hgw1 hgw2 hgn1 hgn2 HAB HBA
        generalize w.heap.size + 1 + 1 = lb at *
        generalize w.heap.size + 1 = rb at *
        have HI := hid_mk hI
        obtain ⟨l0, l1, l2, l3⟩ := hI.lc _ _ _ _ _ hI.st
        obtain ⟨r0, r1, r2, r3⟩ := hI.rc _ _ _ _ _ hI.st
        clear hI
        have hmix : Tryz.prog.follows Departure.mixedOrders = true := by kernel_rfl
        rcases HD.out with ⟨n1, _⟩ | ⟨n1, n2⟩
        · go_wp2
          refine wp_region_held_drew (S := (fun W => W.cell? ⟨lb, 0, none⟩ = some (.int .i64 A.kind) ∧ W.cell? ⟨lb, 1, none⟩ = some (.int .i64 A.num) ∧ W.cell? ⟨lb, 2, none⟩ = some (.string A.name) ∧ W.cell? ⟨lb, 3, none⟩ = some (.slice a0 A.len q0) ∧ W.cell? ⟨rb, 0, none⟩ = some (.int .i64 B.kind) ∧ W.cell? ⟨rb, 1, none⟩ = some (.int .i64 B.num) ∧ W.cell? ⟨rb, 2, none⟩ = some (.string B.name) ∧ W.cell? ⟨rb, 3, none⟩ = some (.slice a1 B.len q1))) hmix ?_ (fun hHeld => ?_)
          · exact ⟨l0, l1, l2, l3, r0, r1, r2, r3⟩
          refine wpAnyH_take (i := 0) (v := ?_) rfl (by kernel_rfl) (by kernel_rfl) (by kernel_rfl) (fun _ _ _ h => h) (Or.inl ⟨by rfl, ?_⟩) hHeld ?_
          rotate_left
          · intro W hW
            obtain ⟨x0, x1, x2, x3, y0, y1, y2, y3⟩ := hW
            go_simp
            with_reducible rfl
          simp only [Act.put, List.setIfInBounds_toArray]
          refine wpAnyH_take (i := 1) (v := ?_) rfl (by kernel_rfl) (by kernel_rfl) (by kernel_rfl) (fun _ _ _ h => h) (Or.inl ⟨by rfl, ?_⟩) hHeld ?_
          rotate_left
          · intro W hW
            obtain ⟨x0, x1, x2, x3, y0, y1, y2, y3⟩ := hW
            go_simp
            with_reducible rfl
          simp only [Act.put]
          refine wpAnyH_take (i := 2) (v := ?_) rfl (by kernel_rfl) (by kernel_rfl) (by kernel_rfl) (fun _ _ _ h => h) (Or.inl ⟨by rfl, ?_⟩) hHeld ?_
          rotate_left
          · intro W hW
            obtain ⟨x0, x1, x2, x3, y0, y1, y2, y3⟩ := hW
            go_simp
            with_reducible rfl
          simp only [Act.put]
          refine wpAnyH_take (i := 3) (v := ?_) rfl (by kernel_rfl) (by kernel_rfl) (by kernel_rfl) (fun _ _ _ h => h) (Or.inl ⟨by rfl, ?_⟩) hHeld ?_
          rotate_left
          · intro W hW
            obtain ⟨x0, x1, x2, x3, y0, y1, y2, y3⟩ := hW
            go_simp
            with_reducible rfl
          simp only [Act.put]
          refine wpAnyH_ready (rs := [4]) (by kernel_rfl) (by simp) ?_
          refine AllReadyH.cons rfl (fun K' hK => ?_) AllReadyH.nil
          rw [if_pos (by rfl)]
          go_wp2_with (go_at_call 108; refine (ansO (HV0.out Bs Ob _ _ HI.out.st.drew (HI.out.below _ _ _ _ _ HI.out.st.drew) HF0.out) HM.out).mono ?_; rintro e w2 ⟨rfl, hs2⟩; obtain ⟨l0, l1, l2, l3⟩ := HI.out.lc _ _ _ _ _ hs2; obtain ⟨r0, r1, r2, r3⟩ := HI.out.rc _ _ _ _ _ hs2; have HS2 := hid_mk hs2; clear hs2)
          refine hK.out _ _ ⟨l0, l1, l2, l3, r0, r1, r2, r3⟩ (fun hHeld2 => ?_)
          refine wpAnyH_ready (rs := [5]) (by kernel_rfl) (by simp) ?_
          refine AllReadyH.cons rfl (fun K' hK => ?_) AllReadyH.nil
          rw [if_pos (by rfl)]
          go_wp2_with (go_at_call 109; refine (ansO (HW1.out Bs Ob _ _ _ HS2.out (HI.out.below _ _ _ _ _ HS2.out) (HF1.out _ (HXL.out _ HM.out))) HM2.out).mono ?_; rintro e w3 ⟨rfl, hs3⟩; obtain ⟨l0, l1, l2, l3⟩ := HI.out.lc _ _ _ _ _ hs3; obtain ⟨r0, r1, r2, r3⟩ := HI.out.rc _ _ _ _ _ hs3; have HS3 := hid_mk hs3; clear hs3)
          refine hK.out _ _ ⟨l0, l1, l2, l3, r0, r1, r2, r3⟩ (fun hHeld3 => ?_)
          refine wpAnyH_done (by kernel_rfl) ?_ _
          go_wp2
          go_ret
          exact ⟨rfl, HI.out.back _ _ _ _ _ HS3.out⟩
        · go_wp2
          refine wp_region_held_drew (S := (fun W => W.cell? ⟨lb, 0, none⟩ = some (.int .i64 A.kind) ∧ W.cell? ⟨lb, 1, none⟩ = some (.int .i64 A.num) ∧ W.cell? ⟨lb, 2, none⟩ = some (.string A.name) ∧ W.cell? ⟨lb, 3, none⟩ = some (.slice a0 A.len q0) ∧ W.cell? ⟨rb, 0, none⟩ = some (.int .i64 B.kind) ∧ W.cell? ⟨rb, 1, none⟩ = some (.int .i64 B.num) ∧ W.cell? ⟨rb, 2, none⟩ = some (.string B.name) ∧ W.cell? ⟨rb, 3, none⟩ = some (.slice a1 B.len q1))) hmix ?_ (fun hHeld => ?_)
          · exact ⟨l0, l1, l2, l3, r0, r1, r2, r3⟩
          refine wpAnyH_take (i := 0) (v := ?_) rfl (by kernel_rfl) (by kernel_rfl) (by kernel_rfl) (fun _ _ _ h => h) (Or.inl ⟨by rfl, ?_⟩) hHeld ?_
          rotate_left
          · intro W hW
            obtain ⟨x0, x1, x2, x3, y0, y1, y2, y3⟩ := hW
            go_simp
            with_reducible rfl
          simp only [Act.put, List.setIfInBounds_toArray]
          refine wpAnyH_take (i := 1) (v := ?_) rfl (by kernel_rfl) (by kernel_rfl) (by kernel_rfl) (fun _ _ _ h => h) (Or.inl ⟨by rfl, ?_⟩) hHeld ?_
          rotate_left
          · intro W hW
            obtain ⟨x0, x1, x2, x3, y0, y1, y2, y3⟩ := hW
            go_simp
            with_reducible rfl
          simp only [Act.put]
          refine wpAnyH_take (i := 2) (v := ?_) rfl (by kernel_rfl) (by kernel_rfl) (by kernel_rfl) (fun _ _ _ h => h) (Or.inl ⟨by rfl, ?_⟩) hHeld ?_
          rotate_left
          · intro W hW
            obtain ⟨x0, x1, x2, x3, y0, y1, y2, y3⟩ := hW
            go_simp
            with_reducible rfl
          simp only [Act.put]
          refine wpAnyH_take (i := 3) (v := ?_) rfl (by kernel_rfl) (by kernel_rfl) (by kernel_rfl) (fun _ _ _ h => h) (Or.inl ⟨by rfl, ?_⟩) hHeld ?_
          rotate_left
          · intro W hW
            obtain ⟨x0, x1, x2, x3, y0, y1, y2, y3⟩ := hW
            go_simp
            with_reducible rfl
          simp only [Act.put]
          refine wpAnyH_ready (rs := [4]) (by kernel_rfl) (by simp) ?_
          refine AllReadyH.cons rfl (fun K' hK => ?_) AllReadyH.nil
          rw [if_pos (by rfl)]
          go_wp2_with (go_at_call 108; refine (ansO (HV0.out Bs Ob _ _ HI.out.st.drew (HI.out.below _ _ _ _ _ HI.out.st.drew) HF0.out) HM.out).mono ?_; rintro e w2 ⟨rfl, hs2⟩; obtain ⟨l0, l1, l2, l3⟩ := HI.out.lc _ _ _ _ _ hs2; obtain ⟨r0, r1, r2, r3⟩ := HI.out.rc _ _ _ _ _ hs2; have HS2 := hid_mk hs2; clear hs2)
          refine hK.out _ _ ⟨l0, l1, l2, l3, r0, r1, r2, r3⟩ (fun hHeld2 => ?_)
          refine wpAnyH_ready (rs := [5]) (by kernel_rfl) (by simp) ?_
          refine AllReadyH.cons rfl (fun K' hK => ?_) AllReadyH.nil
          rw [if_pos (by rfl)]
          go_wp2_with (go_at_call 109; refine (ansO (HW1.out Bs Ob _ _ _ HS2.out (HI.out.below _ _ _ _ _ HS2.out) (HF1.out _ (HXL.out _ HM.out))) HM2.out).mono ?_; rintro e w3 ⟨rfl, hs3⟩; obtain ⟨l0, l1, l2, l3⟩ := HI.out.lc _ _ _ _ _ hs3; obtain ⟨r0, r1, r2, r3⟩ := HI.out.rc _ _ _ _ _ hs3; have HS3 := hid_mk hs3; clear hs3)
          refine hK.out _ _ ⟨l0, l1, l2, l3, r0, r1, r2, r3⟩ (fun hHeld3 => ?_)
          refine wpAnyH_done (by kernel_rfl) ?_ _
          go_wp2
          go_ret
          exact ⟨rfl, HI.out.back _ _ _ _ _ HS3.out⟩
      · obtain ⟨Ob, hI⟩ := HAB.out
        have nm : (((w.alloc (.cells #[.int .i64 T.kind, .int .i64 T.num, .string T.name, .slice (some ⟨g, off, none⟩) T.len cap] 30)).alloc (.cells #[.int .i64 A.kind, .int .i64 A.num, .string A.name, .slice a0 A.len q0] 30)).alloc (.cells #[.int .i64 B.kind, .int .i64 B.num, .string B.name, .slice a1 B.len q1] 30)).drew.cell? ⟨w.heap.size, 2, none⟩ = some (.string T.name) := by simp [go_sem]
        generalize (((w.alloc (.cells #[.int .i64 T.kind, .int .i64 T.num, .string T.name, .slice (some ⟨g, off, none⟩) T.len cap] 30)).alloc (.cells #[.int .i64 A.kind, .int .i64 A.num, .string A.name, .slice a0 A.len q0] 30)).alloc (.cells #[.int .i64 B.kind, .int .i64 B.num, .string B.name, .slice a1 B.len q1] 30)).drew = X at *
        generalize ((w.alloc (.cells #[.int .i64 T.kind, .int .i64 T.num, .string T.name, .slice (some ⟨g, off, none⟩) T.len cap] 30)).alloc (.cells #[.int .i64 A.kind, .int .i64 A.num, .string A.name, .slice a0 A.len q0] 30)).alloc (.cells #[.int .i64 B.kind, .int .i64 B.num, .string B.name, .slice a1 B.len q1] 30) = Bs at *
        clear hgw1 hgw2 hgn1 hgn2 HAB HBA
        generalize w.heap.size + 1 + 1 = rb at *
        generalize w.heap.size + 1 = lb at *
        have HI := hid_mk hI
        obtain ⟨l0, l1, l2, l3⟩ := hI.lc _ _ _ _ _ hI.st
        obtain ⟨r0, r1, r2, r3⟩ := hI.rc _ _ _ _ _ hI.st
        clear hI
        have hmix : Tryz.prog.follows Departure.mixedOrders = true := by kernel_rfl
        rcases HD.out with ⟨n1, _⟩ | ⟨n1, n2⟩
        · go_wp2
          refine wp_region_held_drew (S := (fun W => W.cell? ⟨lb, 0, none⟩ = some (.int .i64 A.kind) ∧ W.cell? ⟨lb, 1, none⟩ = some (.int .i64 A.num) ∧ W.cell? ⟨lb, 2, none⟩ = some (.string A.name) ∧ W.cell? ⟨lb, 3, none⟩ = some (.slice a0 A.len q0) ∧ W.cell? ⟨rb, 0, none⟩ = some (.int .i64 B.kind) ∧ W.cell? ⟨rb, 1, none⟩ = some (.int .i64 B.num) ∧ W.cell? ⟨rb, 2, none⟩ = some (.string B.name) ∧ W.cell? ⟨rb, 3, none⟩ = some (.slice a1 B.len q1))) hmix ?_ (fun hHeld => ?_)
          · exact ⟨l0, l1, l2, l3, r0, r1, r2, r3⟩
          refine wpAnyH_take (i := 0) (v := ?_) rfl (by kernel_rfl) (by kernel_rfl) (by kernel_rfl) (fun _ _ _ h => h) (Or.inl ⟨by rfl, ?_⟩) hHeld ?_
          rotate_left
          · intro W hW
            obtain ⟨x0, x1, x2, x3, y0, y1, y2, y3⟩ := hW
            go_simp
            with_reducible rfl
          simp only [Act.put, List.setIfInBounds_toArray]
          refine wpAnyH_take (i := 1) (v := ?_) rfl (by kernel_rfl) (by kernel_rfl) (by kernel_rfl) (fun _ _ _ h => h) (Or.inl ⟨by rfl, ?_⟩) hHeld ?_
          rotate_left
          · intro W hW
            obtain ⟨x0, x1, x2, x3, y0, y1, y2, y3⟩ := hW
            go_simp
            with_reducible rfl
          simp only [Act.put]
          refine wpAnyH_take (i := 2) (v := ?_) rfl (by kernel_rfl) (by kernel_rfl) (by kernel_rfl) (fun _ _ _ h => h) (Or.inl ⟨by rfl, ?_⟩) hHeld ?_
          rotate_left
          · intro W hW
            obtain ⟨x0, x1, x2, x3, y0, y1, y2, y3⟩ := hW
            go_simp
            with_reducible rfl
          simp only [Act.put]
          refine wpAnyH_take (i := 3) (v := ?_) rfl (by kernel_rfl) (by kernel_rfl) (by kernel_rfl) (fun _ _ _ h => h) (Or.inl ⟨by rfl, ?_⟩) hHeld ?_
          rotate_left
          · intro W hW
            obtain ⟨x0, x1, x2, x3, y0, y1, y2, y3⟩ := hW
            go_simp
            with_reducible rfl
          simp only [Act.put]
          refine wpAnyH_ready (rs := [4]) (by kernel_rfl) (by simp) ?_
          refine AllReadyH.cons rfl (fun K' hK => ?_) AllReadyH.nil
          rw [if_pos (by rfl)]
          go_wp2_with (go_at_call 108; refine (ansO (HV0.out Bs Ob _ _ HI.out.st.drew (HI.out.below _ _ _ _ _ HI.out.st.drew) HF0.out) HM.out).mono ?_; rintro e w2 ⟨rfl, hs2⟩; obtain ⟨l0, l1, l2, l3⟩ := HI.out.lc _ _ _ _ _ hs2; obtain ⟨r0, r1, r2, r3⟩ := HI.out.rc _ _ _ _ _ hs2; have HS2 := hid_mk hs2; clear hs2)
          refine hK.out _ _ ⟨l0, l1, l2, l3, r0, r1, r2, r3⟩ (fun hHeld2 => ?_)
          refine wpAnyH_ready (rs := [5]) (by kernel_rfl) (by simp) ?_
          refine AllReadyH.cons rfl (fun K' hK => ?_) AllReadyH.nil
          rw [if_pos (by rfl)]
          go_wp2_with (go_at_call 109; refine (ansO (HW1.out Bs Ob _ _ _ HS2.out (HI.out.below _ _ _ _ _ HS2.out) (HF1.out _ (HXL.out _ HM.out))) HM2.out).mono ?_; rintro e w3 ⟨rfl, hs3⟩; obtain ⟨l0, l1, l2, l3⟩ := HI.out.lc _ _ _ _ _ hs3; obtain ⟨r0, r1, r2, r3⟩ := HI.out.rc _ _ _ _ _ hs3; have HS3 := hid_mk hs3; clear hs3)
          refine hK.out _ _ ⟨l0, l1, l2, l3, r0, r1, r2, r3⟩ (fun hHeld3 => ?_)
          refine wpAnyH_done (by kernel_rfl) ?_ _
          go_wp2
          go_ret
          exact ⟨rfl, HI.out.back _ _ _ _ _ HS3.out⟩
        · go_wp2
          refine wp_region_held_drew (S := (fun W => W.cell? ⟨lb, 0, none⟩ = some (.int .i64 A.kind) ∧ W.cell? ⟨lb, 1, none⟩ = some (.int .i64 A.num) ∧ W.cell? ⟨lb, 2, none⟩ = some (.string A.name) ∧ W.cell? ⟨lb, 3, none⟩ = some (.slice a0 A.len q0) ∧ W.cell? ⟨rb, 0, none⟩ = some (.int .i64 B.kind) ∧ W.cell? ⟨rb, 1, none⟩ = some (.int .i64 B.num) ∧ W.cell? ⟨rb, 2, none⟩ = some (.string B.name) ∧ W.cell? ⟨rb, 3, none⟩ = some (.slice a1 B.len q1))) hmix ?_ (fun hHeld => ?_)
          · exact ⟨l0, l1, l2, l3, r0, r1, r2, r3⟩
          refine wpAnyH_take (i := 0) (v := ?_) rfl (by kernel_rfl) (by kernel_rfl) (by kernel_rfl) (fun _ _ _ h => h) (Or.inl ⟨by rfl, ?_⟩) hHeld ?_
          rotate_left
          · intro W hW
            obtain ⟨x0, x1, x2, x3, y0, y1, y2, y3⟩ := hW
            go_simp
            with_reducible rfl
          simp only [Act.put, List.setIfInBounds_toArray]
          refine wpAnyH_take (i := 1) (v := ?_) rfl (by kernel_rfl) (by kernel_rfl) (by kernel_rfl) (fun _ _ _ h => h) (Or.inl ⟨by rfl, ?_⟩) hHeld ?_
          rotate_left
          · intro W hW
            obtain ⟨x0, x1, x2, x3, y0, y1, y2, y3⟩ := hW
            go_simp
            with_reducible rfl
          simp only [Act.put]
          refine wpAnyH_take (i := 2) (v := ?_) rfl (by kernel_rfl) (by kernel_rfl) (by kernel_rfl) (fun _ _ _ h => h) (Or.inl ⟨by rfl, ?_⟩) hHeld ?_
          rotate_left
          · intro W hW
            obtain ⟨x0, x1, x2, x3, y0, y1, y2, y3⟩ := hW
            go_simp
            with_reducible rfl
          simp only [Act.put]
          refine wpAnyH_take (i := 3) (v := ?_) rfl (by kernel_rfl) (by kernel_rfl) (by kernel_rfl) (fun _ _ _ h => h) (Or.inl ⟨by rfl, ?_⟩) hHeld ?_
          rotate_left
          · intro W hW
            obtain ⟨x0, x1, x2, x3, y0, y1, y2, y3⟩ := hW
            go_simp
            with_reducible rfl
          simp only [Act.put]
          refine wpAnyH_ready (rs := [4]) (by kernel_rfl) (by simp) ?_
          refine AllReadyH.cons rfl (fun K' hK => ?_) AllReadyH.nil
          rw [if_pos (by rfl)]
          go_wp2_with (go_at_call 108; refine (ansO (HV0.out Bs Ob _ _ HI.out.st.drew (HI.out.below _ _ _ _ _ HI.out.st.drew) HF0.out) HM.out).mono ?_; rintro e w2 ⟨rfl, hs2⟩; obtain ⟨l0, l1, l2, l3⟩ := HI.out.lc _ _ _ _ _ hs2; obtain ⟨r0, r1, r2, r3⟩ := HI.out.rc _ _ _ _ _ hs2; have HS2 := hid_mk hs2; clear hs2)
          refine hK.out _ _ ⟨l0, l1, l2, l3, r0, r1, r2, r3⟩ (fun hHeld2 => ?_)
          refine wpAnyH_ready (rs := [5]) (by kernel_rfl) (by simp) ?_
          refine AllReadyH.cons rfl (fun K' hK => ?_) AllReadyH.nil
          rw [if_pos (by rfl)]
          go_wp2_with (go_at_call 109; refine (ansO (HW1.out Bs Ob _ _ _ HS2.out (HI.out.below _ _ _ _ _ HS2.out) (HF1.out _ (HXL.out _ HM.out))) HM2.out).mono ?_; rintro e w3 ⟨rfl, hs3⟩; obtain ⟨l0, l1, l2, l3⟩ := HI.out.lc _ _ _ _ _ hs3; obtain ⟨r0, r1, r2, r3⟩ := HI.out.rc _ _ _ _ _ hs3; have HS3 := hid_mk hs3; clear hs3)
          refine hK.out _ _ ⟨l0, l1, l2, l3, r0, r1, r2, r3⟩ (fun hHeld3 => ?_)
          refine wpAnyH_done (by kernel_rfl) ?_ _
          go_wp2
          go_ret
          exact ⟨rfl, HI.out.back _ _ _ _ _ HS3.out⟩

end Go.Proofs.YtbjianmjdadehaaGreatDoor
