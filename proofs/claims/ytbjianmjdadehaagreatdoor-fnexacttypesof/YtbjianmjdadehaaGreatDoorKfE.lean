/- The program's checker: an assignment. Written by mkci.py. -/
import Derived.Test.YtbjianmjdadehaaGreatDoorKfA
import Derived.Deep.RegionWith
import Derived.Test.YtbjianmjdadehaaGreatDoorKfC
import Derived.Test.YtbjianmjdadehaaGreatDoorKfD
set_option linter.unusedVariables false
namespace Go.Proofs.YtbjianmjdadehaaGreatDoor
open Go.RowKit

set_option maxHeartbeats 4000000 in
set_option maxRecDepth 100000 in
theorem ist_6 (hVar : IVar) {T : Nd} (hk : T.kind = 6) : IStS T := by
  intro K w0 O s cx sels w v hcx hS hE hN hfit hok hsne hd hlo1 hou1
  have hsz : 0 < T.size := by rw [T.size_eq]; omega
  obtain ⟨hl, he0⟩ := so_one (by omega) hok
  have hst : (mnT K.F T).st cx s = (if look s.1 T.name = 0 then .error (5, s.2.length) else wantM (exT K.F (T.kids 0)) (look s.1 T.name) (take0 s) : CR CS) := by
    rw [stM_at K.F (by omega)]
    unfold stM
    rw [if_neg (by omega), if_neg (by omega), if_pos hk]
  rw [hst]
  obtain ⟨g, off, cap, hv, hgl, hcap, hkid⟩ := ck_kid hN.row (by omega)
  subst hv
  obtain ⟨u0, hc0, hr0⟩ := hkid 0 (by omega)
  simp only [Nat.zero_mul, Nat.add_zero] at hc0
  obtain ⟨a0, q0, hu0, hcp0, hqq0⟩ := row_eq.1 hr0
  clear hqq0
  subst hu0
  have HC0 := hid_mk hc0
  obtain ⟨O1, hs1, hback1, hbox1, hbl1⟩ := hS.boxed (.cells #[.int .i64 T.kind, .int .i64 T.num, .string T.name, .slice (some ⟨g, off, none⟩) T.len cap] 30)
  have HBX := hid_mk hbox1
  have HBL := hid_mk hbl1
  have HB1 := hid_mk hback1
  have HTK := hid_mk (take_any hs1 (by omega))
  have hlo : K.lo ≤ w.heap.size := by have := hS.lt; have := hS.ok.cl; omega
  have hfew := hS.ok.few
  have HN0 := hid_mk (hN.kid (i := 0) (by omega) hr0)
  have HF0 := hid_mk (take_fit hfit (i := 0) (by omega))
  have HNMX := hid_mk (name_max hN.fine)
  have HW := hid_mk (fun (W : World) (ty : Int) (hW : IS K (w.alloc (.cells #[.int .i64 T.kind, .int .i64 T.num, .string T.name, .slice (some ⟨g, off, none⟩) T.len cap] 30)) O1 (take0 s) cx.ret cx.loops sels W) => iwant_of (iex_every hVar (T.kids 0)) K _ O1 (take0 s) cx.ret cx.loops sels W _ ty hW (hE.later (hbl1 _ _ _ _ _ hW)) (HN0.out.later (hbl1 _ _ _ _ _ hW)) HF0.out he0)
  have HV := hid_mk (fun (W : World) (hW : IS K (w.alloc (.cells #[.int .i64 T.kind, .int .i64 T.num, .string T.name, .slice (some ⟨g, off, none⟩) T.len cap] 30)) O1 (take0 s) cx.ret cx.loops sels W) => hVar K _ O1 (take0 s) cx.ret cx.loops sels W T.name s.2.length hW HNMX.out)
  have hmix : Tryz.prog.follows Departure.mixedOrders = true := by kernel_rfl
  rw [show (take0 s).1 = s.1 from rfl] at HV
  unfold Nd.val at *
  have hgw : g < w.heap.size := by omega
  have hgw1 : g < w.heap.size + 1 := by omega
  have hgw2 : g < w.heap.size + 1 + 1 := by omega
  have hgn0 : ¬ g = w.heap.size := by omega
  have hgn1 : ¬ g = w.heap.size + 1 := by omega
  have hgn2 : ¬ g = w.heap.size + 1 + 1 := by omega
  obtain ⟨c00, c01, c02, c03⟩ := HC0.out w (Below.refl _ _)
  have hpos : 0 < T.len := by omega
  rw [hk] at HW HV HBX HBL HB1 HTK ⊢
  clear hS hE hN hs1 hback1 hbox1 hbl1 hkid hc0 hr0 hok hk hl hst hfit hsne hd he0
  generalize look s.1 T.name = ty at *
  by_cases h0 : ty = 0
  · rw [if_pos h0]
    simp only [if_pos h0] at HV
    clear h0
    go_enter Tryz.func97, Tryz.ntmps97
    go_wp2_with (first
      | (go_at_call 60; refine HTK.out.mono ?_; rintro e w1 ⟨rfl, hs1⟩; obtain ⟨b0, b1, b2, b3⟩ := box_cells (HBX.out _ _ _ _ _ hs1); obtain ⟨c00, c01, c02, c03⟩ := HC0.out _ (HBL.out _ _ _ _ _ hs1); have HS1 := hid_mk hs1; clear hs1))
    refine wp_region_held_drew (S := (fun W => W.cell? ⟨w.heap.size, 2, none⟩ = some (.string T.name) ∧ W.cell? ⟨w.heap.size, 3, none⟩ = some (.slice (some ⟨g, off, none⟩) T.len cap) ∧ W.cell? ⟨g, off, none⟩ = some (.int .i64 (T.kids 0).kind) ∧ W.cell? ⟨g, off + 1, none⟩ = some (.int .i64 (T.kids 0).num) ∧ W.cell? ⟨g, off + 2, none⟩ = some (.string (T.kids 0).name) ∧ W.cell? ⟨g, off + 3, none⟩ = some (.slice a0 (T.kids 0).len q0))) hmix ?_ (fun hHeld => ?_)
    · exact ⟨b2, b3, c00, c01, c02, c03⟩
    refine wpAnyH_take (i := 0) (v := ?_) rfl (by kernel_rfl) (by kernel_rfl) (by kernel_rfl) (fun _ _ _ h => h) (Or.inl ⟨by rfl, ?_⟩) hHeld ?_
    rotate_left
    · intro W hW
      obtain ⟨x0, x1, x2, x3, x4, x5⟩ := hW
      go_simp
      with_reducible rfl
    simp only [Act.put, List.setIfInBounds_toArray]
    refine wpAnyH_take (i := 1) (v := ?_) rfl (by kernel_rfl) (by kernel_rfl) (by kernel_rfl) (fun _ _ _ h => h) (Or.inl ⟨by rfl, ?_⟩) hHeld ?_
    rotate_left
    · intro W hW
      obtain ⟨x0, x1, x2, x3, x4, x5⟩ := hW
      go_simp
      with_reducible rfl
    simp only [Act.put]
    refine wpAnyH_take (i := 2) (v := ?_) rfl (by kernel_rfl) (by kernel_rfl) (by kernel_rfl) (fun _ _ _ h => h) (Or.inl ⟨by rfl, ?_⟩) hHeld ?_
    rotate_left
    · intro W hW
      obtain ⟨x0, x1, x2, x3, x4, x5⟩ := hW
      go_simp
      with_reducible rfl
    simp only [Act.put]
    refine wpAnyH_take (i := 3) (v := ?_) rfl (by kernel_rfl) (by kernel_rfl) (by kernel_rfl) (fun _ _ _ h => h) (Or.inl ⟨by rfl, ?_⟩) hHeld ?_
    rotate_left
    · intro W hW
      obtain ⟨x0, x1, x2, x3, x4, x5⟩ := hW
      go_simp
      with_reducible rfl
    simp only [Act.put]
    refine wpAnyH_take (i := 4) (v := ?_) rfl (by kernel_rfl) (by kernel_rfl) (by kernel_rfl) (fun _ _ _ h => h) (Or.inl ⟨by rfl, ?_⟩) hHeld ?_
    rotate_left
    · intro W hW
      obtain ⟨x0, x1, x2, x3, x4, x5⟩ := hW
      go_simp
      with_reducible rfl
    simp only [Act.put]
    refine wpAnyH_take (i := 5) (v := ?_) rfl (by kernel_rfl) (by kernel_rfl) (by kernel_rfl) (fun _ _ _ h => h) (Or.inl ⟨by rfl, ?_⟩) hHeld ?_
    rotate_left
    · intro W hW
      obtain ⟨x0, x1, x2, x3, x4, x5⟩ := hW
      go_simp
      with_reducible rfl
    simp only [Act.put]
    refine wpAnyH_take (i := 6) (v := ?_) rfl (by kernel_rfl) (by kernel_rfl) (by kernel_rfl) (fun _ _ _ h => h) (Or.inl ⟨by rfl, ?_⟩) hHeld ?_
    rotate_left
    · intro W hW
      obtain ⟨x0, x1, x2, x3, x4, x5⟩ := hW
      go_simp
      with_reducible rfl
    simp only [Act.put]
    refine wpAnyH_take (i := 7) (v := ?_) rfl (by kernel_rfl) (by kernel_rfl) (by kernel_rfl) (fun _ _ _ h => h) (Or.inl ⟨by rfl, ?_⟩) hHeld ?_
    rotate_left
    · intro W hW
      obtain ⟨x0, x1, x2, x3, x4, x5⟩ := hW
      go_simp
      with_reducible rfl
    simp only [Act.put]
    refine wpAnyH_take (i := 8) (v := ?_) rfl (by kernel_rfl) (by kernel_rfl) (by kernel_rfl) (fun _ _ _ h => h) (Or.inl ⟨by rfl, ?_⟩) hHeld ?_
    rotate_left
    · intro W hW
      obtain ⟨x0, x1, x2, x3, x4, x5⟩ := hW
      go_simp
      with_reducible rfl
    simp only [Act.put]
    refine wpAnyH_ready (rs := [9]) (by kernel_rfl) (by simp) ?_
    refine AllReadyH.cons rfl (fun K' hK => ?_) AllReadyH.nil
    rw [if_pos (by rfl)]
    go_wp2_with (go_at_call 110; refine (ansE (HV.out _ HS1.out.drew) rfl).mono ?_; rintro e w2 ⟨rfl, hb2⟩; skip)
    exact ⟨rfl, rfl, (HBL.out _ _ _ _ _ HS1.out.drew).trans hb2⟩
  · rw [if_neg h0]
    simp only [if_neg h0] at HV
    clear h0
    cases hM2 : wantM (exT K.F (T.kids 0)) ty (take0 s) with
    | error p =>
      have HM2 := hid_mk hM2
      clear hM2
      go_enter Tryz.func97, Tryz.ntmps97
      go_wp2_with (first
        | (go_at_call 60; refine HTK.out.mono ?_; rintro e w1 ⟨rfl, hs1⟩; obtain ⟨b0, b1, b2, b3⟩ := box_cells (HBX.out _ _ _ _ _ hs1); obtain ⟨c00, c01, c02, c03⟩ := HC0.out _ (HBL.out _ _ _ _ _ hs1); have HS1 := hid_mk hs1; clear hs1))
      refine wp_region_held_drew (S := (fun W => W.cell? ⟨w.heap.size, 2, none⟩ = some (.string T.name) ∧ W.cell? ⟨w.heap.size, 3, none⟩ = some (.slice (some ⟨g, off, none⟩) T.len cap) ∧ W.cell? ⟨g, off, none⟩ = some (.int .i64 (T.kids 0).kind) ∧ W.cell? ⟨g, off + 1, none⟩ = some (.int .i64 (T.kids 0).num) ∧ W.cell? ⟨g, off + 2, none⟩ = some (.string (T.kids 0).name) ∧ W.cell? ⟨g, off + 3, none⟩ = some (.slice a0 (T.kids 0).len q0))) hmix ?_ (fun hHeld => ?_)
      · exact ⟨b2, b3, c00, c01, c02, c03⟩
      refine wpAnyH_take (i := 0) (v := ?_) rfl (by kernel_rfl) (by kernel_rfl) (by kernel_rfl) (fun _ _ _ h => h) (Or.inl ⟨by rfl, ?_⟩) hHeld ?_
      rotate_left
      · intro W hW
        obtain ⟨x0, x1, x2, x3, x4, x5⟩ := hW
        go_simp
        with_reducible rfl
      simp only [Act.put, List.setIfInBounds_toArray]
      refine wpAnyH_take (i := 1) (v := ?_) rfl (by kernel_rfl) (by kernel_rfl) (by kernel_rfl) (fun _ _ _ h => h) (Or.inl ⟨by rfl, ?_⟩) hHeld ?_
      rotate_left
      · intro W hW
        obtain ⟨x0, x1, x2, x3, x4, x5⟩ := hW
        go_simp
        with_reducible rfl
      simp only [Act.put]
      refine wpAnyH_take (i := 2) (v := ?_) rfl (by kernel_rfl) (by kernel_rfl) (by kernel_rfl) (fun _ _ _ h => h) (Or.inl ⟨by rfl, ?_⟩) hHeld ?_
      rotate_left
      · intro W hW
        obtain ⟨x0, x1, x2, x3, x4, x5⟩ := hW
        go_simp
        with_reducible rfl
      simp only [Act.put]
      refine wpAnyH_take (i := 3) (v := ?_) rfl (by kernel_rfl) (by kernel_rfl) (by kernel_rfl) (fun _ _ _ h => h) (Or.inl ⟨by rfl, ?_⟩) hHeld ?_
      rotate_left
      · intro W hW
        obtain ⟨x0, x1, x2, x3, x4, x5⟩ := hW
        go_simp
        with_reducible rfl
      simp only [Act.put]
      refine wpAnyH_take (i := 4) (v := ?_) rfl (by kernel_rfl) (by kernel_rfl) (by kernel_rfl) (fun _ _ _ h => h) (Or.inl ⟨by rfl, ?_⟩) hHeld ?_
      rotate_left
      · intro W hW
        obtain ⟨x0, x1, x2, x3, x4, x5⟩ := hW
        go_simp
        with_reducible rfl
      simp only [Act.put]
      refine wpAnyH_take (i := 5) (v := ?_) rfl (by kernel_rfl) (by kernel_rfl) (by kernel_rfl) (fun _ _ _ h => h) (Or.inl ⟨by rfl, ?_⟩) hHeld ?_
      rotate_left
      · intro W hW
        obtain ⟨x0, x1, x2, x3, x4, x5⟩ := hW
        go_simp
        with_reducible rfl
      simp only [Act.put]
      refine wpAnyH_take (i := 6) (v := ?_) rfl (by kernel_rfl) (by kernel_rfl) (by kernel_rfl) (fun _ _ _ h => h) (Or.inl ⟨by rfl, ?_⟩) hHeld ?_
      rotate_left
      · intro W hW
        obtain ⟨x0, x1, x2, x3, x4, x5⟩ := hW
        go_simp
        with_reducible rfl
      simp only [Act.put]
      refine wpAnyH_take (i := 7) (v := ?_) rfl (by kernel_rfl) (by kernel_rfl) (by kernel_rfl) (fun _ _ _ h => h) (Or.inl ⟨by rfl, ?_⟩) hHeld ?_
      rotate_left
      · intro W hW
        obtain ⟨x0, x1, x2, x3, x4, x5⟩ := hW
        go_simp
        with_reducible rfl
      simp only [Act.put]
      refine wpAnyH_take (i := 8) (v := ?_) rfl (by kernel_rfl) (by kernel_rfl) (by kernel_rfl) (fun _ _ _ h => h) (Or.inl ⟨by rfl, ?_⟩) hHeld ?_
      rotate_left
      · intro W hW
        obtain ⟨x0, x1, x2, x3, x4, x5⟩ := hW
        go_simp
        with_reducible rfl
      simp only [Act.put]
      refine wpAnyH_ready (rs := [9]) (by kernel_rfl) (by simp) ?_
      refine AllReadyH.cons rfl (fun K' hK => ?_) AllReadyH.nil
      rw [if_pos (by rfl)]
      go_wp2_with (go_at_call 110; refine (ansO (HV.out _ HS1.out.drew) rfl).mono ?_; rintro e w2 ⟨rfl, hs2⟩; obtain ⟨b0, b1, b2, b3⟩ := box_cells (HBX.out _ _ _ _ _ hs2); obtain ⟨c00, c01, c02, c03⟩ := HC0.out _ (HBL.out _ _ _ _ _ hs2); have HS2 := hid_mk hs2; clear hs2)
      refine hK.out _ _ ⟨b2, b3, c00, c01, c02, c03⟩ (fun hHeld2 => ?_)
      refine wpAnyH_ready (rs := [10]) (by kernel_rfl) (by simp) ?_
      refine AllReadyH.cons rfl (fun K' hK => ?_) AllReadyH.nil
      rw [if_pos (by rfl)]
      go_wp2_with (go_at_call 109; refine (ansE (HW.out _ _ HS2.out) HM2.out).mono ?_; rintro e w3 ⟨rfl, hb3⟩; skip)
      exact ⟨rfl, rfl, (HBL.out _ _ _ _ _ HS2.out).trans hb3⟩
    | ok s2 =>
      have HM2 := hid_mk hM2
      clear hM2
      go_enter Tryz.func97, Tryz.ntmps97
      go_wp2_with (first
        | (go_at_call 60; refine HTK.out.mono ?_; rintro e w1 ⟨rfl, hs1⟩; obtain ⟨b0, b1, b2, b3⟩ := box_cells (HBX.out _ _ _ _ _ hs1); obtain ⟨c00, c01, c02, c03⟩ := HC0.out _ (HBL.out _ _ _ _ _ hs1); have HS1 := hid_mk hs1; clear hs1))
      refine wp_region_held_drew (S := (fun W => W.cell? ⟨w.heap.size, 2, none⟩ = some (.string T.name) ∧ W.cell? ⟨w.heap.size, 3, none⟩ = some (.slice (some ⟨g, off, none⟩) T.len cap) ∧ W.cell? ⟨g, off, none⟩ = some (.int .i64 (T.kids 0).kind) ∧ W.cell? ⟨g, off + 1, none⟩ = some (.int .i64 (T.kids 0).num) ∧ W.cell? ⟨g, off + 2, none⟩ = some (.string (T.kids 0).name) ∧ W.cell? ⟨g, off + 3, none⟩ = some (.slice a0 (T.kids 0).len q0))) hmix ?_ (fun hHeld => ?_)
      · exact ⟨b2, b3, c00, c01, c02, c03⟩
      refine wpAnyH_take (i := 0) (v := ?_) rfl (by kernel_rfl) (by kernel_rfl) (by kernel_rfl) (fun _ _ _ h => h) (Or.inl ⟨by rfl, ?_⟩) hHeld ?_
      rotate_left
      · intro W hW
        obtain ⟨x0, x1, x2, x3, x4, x5⟩ := hW
        go_simp
        with_reducible rfl
      simp only [Act.put, List.setIfInBounds_toArray]
      refine wpAnyH_take (i := 1) (v := ?_) rfl (by kernel_rfl) (by kernel_rfl) (by kernel_rfl) (fun _ _ _ h => h) (Or.inl ⟨by rfl, ?_⟩) hHeld ?_
      rotate_left
      · intro W hW
        obtain ⟨x0, x1, x2, x3, x4, x5⟩ := hW
        go_simp
        with_reducible rfl
      simp only [Act.put]
      refine wpAnyH_take (i := 2) (v := ?_) rfl (by kernel_rfl) (by kernel_rfl) (by kernel_rfl) (fun _ _ _ h => h) (Or.inl ⟨by rfl, ?_⟩) hHeld ?_
      rotate_left
      · intro W hW
        obtain ⟨x0, x1, x2, x3, x4, x5⟩ := hW
        go_simp
        with_reducible rfl
      simp only [Act.put]
      refine wpAnyH_take (i := 3) (v := ?_) rfl (by kernel_rfl) (by kernel_rfl) (by kernel_rfl) (fun _ _ _ h => h) (Or.inl ⟨by rfl, ?_⟩) hHeld ?_
      rotate_left
      · intro W hW
        obtain ⟨x0, x1, x2, x3, x4, x5⟩ := hW
        go_simp
        with_reducible rfl
      simp only [Act.put]
      refine wpAnyH_take (i := 4) (v := ?_) rfl (by kernel_rfl) (by kernel_rfl) (by kernel_rfl) (fun _ _ _ h => h) (Or.inl ⟨by rfl, ?_⟩) hHeld ?_
      rotate_left
      · intro W hW
        obtain ⟨x0, x1, x2, x3, x4, x5⟩ := hW
        go_simp
        with_reducible rfl
      simp only [Act.put]
      refine wpAnyH_take (i := 5) (v := ?_) rfl (by kernel_rfl) (by kernel_rfl) (by kernel_rfl) (fun _ _ _ h => h) (Or.inl ⟨by rfl, ?_⟩) hHeld ?_
      rotate_left
      · intro W hW
        obtain ⟨x0, x1, x2, x3, x4, x5⟩ := hW
        go_simp
        with_reducible rfl
      simp only [Act.put]
      refine wpAnyH_take (i := 6) (v := ?_) rfl (by kernel_rfl) (by kernel_rfl) (by kernel_rfl) (fun _ _ _ h => h) (Or.inl ⟨by rfl, ?_⟩) hHeld ?_
      rotate_left
      · intro W hW
        obtain ⟨x0, x1, x2, x3, x4, x5⟩ := hW
        go_simp
        with_reducible rfl
      simp only [Act.put]
      refine wpAnyH_take (i := 7) (v := ?_) rfl (by kernel_rfl) (by kernel_rfl) (by kernel_rfl) (fun _ _ _ h => h) (Or.inl ⟨by rfl, ?_⟩) hHeld ?_
      rotate_left
      · intro W hW
        obtain ⟨x0, x1, x2, x3, x4, x5⟩ := hW
        go_simp
        with_reducible rfl
      simp only [Act.put]
      refine wpAnyH_take (i := 8) (v := ?_) rfl (by kernel_rfl) (by kernel_rfl) (by kernel_rfl) (fun _ _ _ h => h) (Or.inl ⟨by rfl, ?_⟩) hHeld ?_
      rotate_left
      · intro W hW
        obtain ⟨x0, x1, x2, x3, x4, x5⟩ := hW
        go_simp
        with_reducible rfl
      simp only [Act.put]
      refine wpAnyH_ready (rs := [9]) (by kernel_rfl) (by simp) ?_
      refine AllReadyH.cons rfl (fun K' hK => ?_) AllReadyH.nil
      rw [if_pos (by rfl)]
      go_wp2_with (go_at_call 110; refine (ansO (HV.out _ HS1.out.drew) rfl).mono ?_; rintro e w2 ⟨rfl, hs2⟩; obtain ⟨b0, b1, b2, b3⟩ := box_cells (HBX.out _ _ _ _ _ hs2); obtain ⟨c00, c01, c02, c03⟩ := HC0.out _ (HBL.out _ _ _ _ _ hs2); have HS2 := hid_mk hs2; clear hs2)
      refine hK.out _ _ ⟨b2, b3, c00, c01, c02, c03⟩ (fun hHeld2 => ?_)
      refine wpAnyH_ready (rs := [10]) (by kernel_rfl) (by simp) ?_
      refine AllReadyH.cons rfl (fun K' hK => ?_) AllReadyH.nil
      rw [if_pos (by rfl)]
      go_wp2_with (go_at_call 109; refine (ansO (HW.out _ _ HS2.out) HM2.out).mono ?_; rintro e w3 ⟨rfl, hs3⟩; obtain ⟨b0, b1, b2, b3⟩ := box_cells (HBX.out _ _ _ _ _ hs3); obtain ⟨c00, c01, c02, c03⟩ := HC0.out _ (HBL.out _ _ _ _ _ hs3); have HS3 := hid_mk hs3; clear hs3)
      refine hK.out _ _ ⟨b2, b3, c00, c01, c02, c03⟩ (fun hHeld3 => ?_)
      refine wpAnyH_done (by kernel_rfl) ?_ _
      go_wp2
      go_end0
      exact ⟨rfl, HB1.out _ _ _ _ _ HS3.out⟩
end Go.Proofs.YtbjianmjdadehaaGreatDoor
namespace Go.Proofs.YtbjianmjdadehaaGreatDoor
open Go.RowKit

theorem ist_all (hVar : IVar) {T : Nd} (hrec : ∀ U : Nd, U.size < T.size → IStS U) : IStS T := by
  intro K w0 O s cx sels w v hcx hS hE hN hfit hok hsne hd hlo1 hou1
  have go : ∀ h : IStS T, _ := fun h => h K w0 O s cx sels w v hcx hS hE hN hfit hok hsne hd hlo1 hou1
  rcases so_kind hok with h | h | h | h | h | h | h | h | h | h | h | h | h | h | h | h | h
  · exact go (ist_4 hVar h hrec)
  · exact go (ist_5 hVar h)
  · exact go (ist_6 hVar h)
  · exact go (ist_7 hVar h)
  · exact go (ist_8 hVar h)
  · exact go (ist_9 hVar h)
  · rcases (so_10 h hok).1 with hl | hl
    · exact go (ist_10a hVar h hl hrec)
    · exact go (ist_10b hVar h hl hrec)
  · rcases so_11 h hok with ⟨hl, hb⟩ | ⟨hl, he, hb⟩
    · exact go (ist_11a hVar h hl hb.1 hb.2 hrec)
    · exact go (ist_11b hVar h hl he hb.1 hb.2 hrec)
  · exact go (ist_12 hVar h)
  · exact go (ist_13 hVar h)
  · exact go (ist_14 hVar h)
  · exact go (ist_15 hVar h hrec)
  · exact go (ist_17 hVar h)
  · exact go (ist_18 hVar h)
  · exact go (ist_19 hVar h)
  · exact go (ist_20 hVar h)
  · exact go (ist_21 hVar h)
theorem ist_every (hVar : IVar) : ∀ T : Nd, IStS T := by
  have h : ∀ n : Nat, ∀ T : Nd, T.size ≤ n → IStS T := by
    intro n
    induction n with
    | zero => intro T hT; have := T.size_eq; omega
    | succ n ih => intro T hT; exact ist_all hVar fun U hU => ih U (by omega)
  exact fun T => h _ T (Nat.le_refl _)
end Go.Proofs.YtbjianmjdadehaaGreatDoor
