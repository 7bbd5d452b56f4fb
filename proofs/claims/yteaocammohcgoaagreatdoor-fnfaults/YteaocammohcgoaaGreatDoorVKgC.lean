import Derived.Test.YteaocammohcgoaaGreatDoorVKgA
set_option linter.unusedVariables false
set_option maxHeartbeats 16000000
set_option maxRecDepth 100000
namespace Go.Proofs.YteaocammohcgoaaGreatDoor
open Go.RowKit
variable {G : Prop}
theorem bS0 (h : G := by
 clear hM
 go_enter Tryz.func42, Tryz.ntmps42
 go_wp2
 refine wp_region_held_drew (S := (fun W => W.cell? ⟨w.heap.size, 3, none⟩ = some (.slice a K.F.len cap))) bH ?_ (fun eG => ?_)
 ·exact b3
 refine wpAnyH_take (i := 0) (v := ?_) rfl (by kernel_rfl) (by kernel_rfl) (by kernel_rfl) (fun _ _ _ h => h) (Or.inl ⟨by rfl, ?_⟩) eG ?_
 rotate_left
 ·intro W hW
  have x0 := hW
  go_simp
  with_reducible rfl
 simp only [Act.put, List.setIfInBounds_toArray]
 refine wpAnyH_take (i := 1) (v := ?_) rfl (by kernel_rfl) (by kernel_rfl) (by kernel_rfl) (fun _ _ _ h => h) (Or.inl ⟨by rfl, ?_⟩) eG ?_
 rotate_left
 ·intro W hW
  have x0 := hW
  go_simp
  with_reducible rfl
 simp only [Act.put]
 refine wpAnyH_take (i := 2) (v := ?_) rfl (by kernel_rfl) (by kernel_rfl) (by kernel_rfl) (fun _ _ _ h => h) (Or.inl ⟨by rfl, ?_⟩) eG ?_
 rotate_left
 ·intro W hW
  have x0 := hW
  go_simp
  with_reducible rfl
 simp only [Act.put]
 refine wpAnyH_take (i := 3) (v := ?_) rfl (by kernel_rfl) (by kernel_rfl) (by kernel_rfl) (fun _ _ _ h => h) (Or.inl ⟨by rfl, ?_⟩) eG ?_
 rotate_left
 ·intro W hW
  have x0 := hW
  go_simp
  with_reducible rfl
 simp only [Act.put]
 refine wpAnyH_ready (rs := [4]) (by kernel_rfl) (by simp) ?_
 refine AllReadyH.cons rfl (fun K' hK => ?_) AllReadyH.nil
 rw [if_pos (by rfl)]
 go_wp2_with (go_at_call 69; refine iI.out.mono ?_; rintro e w1 ⟨rfl, aD⟩; have b3 := (al (cP.out _ _ _ _ _ aD)).2.2.2; have bh := aa aD; clear aD)
 refine hK.out _ _ b3 (fun tw => ?_)
 refine wpAnyH_take (i := 5) (v := ?_) rfl (by kernel_rfl) (by kernel_rfl) (by kernel_rfl) (fun _ _ _ h => h) (Or.inl ⟨by rfl, ?_⟩) tw ?_
 rotate_left
 ·intro W hW
  have x0 := hW
  go_simp
  with_reducible rfl
 simp only [Act.put]
 refine wpAnyH_ready (rs := [6]) (by kernel_rfl) (by simp) ?_
 refine AllReadyH.cons rfl (fun K' hK => ?_) AllReadyH.nil
 rw [if_pos (by rfl)]
 first
 |clear k_S0_0
  go_wp2_with (go_at_call 68; refine (dr (Gr.out _ bh.out) HMN.out).mono ?_; rintro e w2 ⟨rfl, ba⟩)
  refine ⟨rfl, ?_⟩
  rw [fR qF.out]
  exact ⟨rfl, (bF.out _ _ _ _ _ bh.out).trans ba⟩
 |clear k_S0_1
  go_wp2_with (go_at_call 68; refine (cw (Gr.out _ bh.out) HMN.out).mono ?_; rintro e w2 ⟨rfl, jL, hm2⟩; have b3 : w2.cell? ⟨w.heap.size, 3, none⟩ = some (.slice a K.F.len cap) := (World.cell?_of_block (jL.block w.heap.size (Array.getElem?_eq_some_iff.1 (cP.out _ _ _ _ _ bh.out)).1 (fun e => nH.out e))).trans b3; have rp := aa jL; have qQ := aa hm2; clear jL hm2)
  refine hK.out _ _ b3 (fun xQ => ?_)
  refine wpAnyH_done (by kernel_rfl) ?_ _
  obtain ⟨O9, hs9⟩ := bh.out.named rp.out qQ.out
  obtain ⟨O2, aC, _, P6⟩ := hs9.since
  have jZ : Hid (Below K.lo w w2) := (bF.out _ _ _ _ _ bh.out).trans (rp.out.below (by have := (bF.out _ _ _ _ _ bh.out).size; omega) (fun k e => by have := aS.ml; have e' : k = K.mf := e; omega))
  have B8 := aa (fun s' r' l' o' W (h : IS K w2 O2 s' r' l' o' W) => jZ.out.trans (P6 _ _ _ _ _ h))
  have bR := aa aC
  clear hs9 aC P6 bh rp qQ Gr iI
  go_wp2
  go_loopw [16] (fun i wr => ∃ n : Nat, n ≤ K.F.len ∧ i = .int .i64 n ∧ ∃ X ret, xW K.F n = .ok X ∧ IS K w2 O2 ([], X) ret 0 0 wr) (fun i _ => K.F.len - (intOf i).toNat)
  case atStart => exact ⟨0, Nat.zero_le _, rfl, [0], 0, H0.out, bR.out⟩
  case round =>
   obtain ⟨n, EE, rfl, X, ret, aM, cy⟩ := hrel
   by_cases bN : n < K.F.len
   ·have La : (n : Int) < (K.F.len : Int) := by omega
    obtain ⟨g, off, Li, iM, TN, aV⟩ := HQ.out (by omega)
    subst Li
    obtain ⟨⟨au, qu, hu⟩, dJ, eU⟩ := aV n bN
    have lu := B8.out _ _ _ _ _ cy
    obtain ⟨c0, c1, c2, c3⟩ := eU _ lu
    have hx := tA Ct.out.ok (Nat.le_of_lt bN) X aM
    have Cg := bV K.F 0 bN
    rw [hu] at c3 dJ
    have PH := aa (fun o => Il (kV Ct.out.ok bN) K w2 O2 X ret (wr.alloc o) _ (cy.alloc o) (Ct.out.later (lu.trans (cy.box o))) ⟨Nd.fine_kid Ct.out.fine bN, ah (lu.trans (cy.box o)) lr dJ, Nat.le_trans (Nd.cost_kid K.F bN) fr⟩ (by omega))
    have kG : Hid (xW K.F (n + 1) = jc K.F (K.F.kids n) X) := by unfold Hid; rw [nw, aM]; rfl
    have pr := aa (fun o => lu.trans (cy.box o))
    unfold Nd.val at PH
    clear aV eU dJ hu lu hx Cg aM cy
    cases hM : jc K.F (K.F.kids n) X with
    |error pe =>
     have HM := aa hM
     have qF : Hid (dC K.F = .error pe) := zw (kG.out.trans hM) (by omega : n + 1 ≤ K.F.len)
     clear hM
     go_wp2_with (first
      |(go_at_call 70; refine (dr (PH.out _) HM.out).mono ?_; rintro e w4 ⟨rfl, kL⟩; skip))
     refine ⟨rfl, ?_⟩
     rw [fR qF.out]
     exact ⟨rfl, (pr.out _).trans kL⟩
    |ok X1 =>
     have HM := aa hM
     clear hM
     go_wp2_with (first
      |(go_at_call 70; refine (cw (PH.out _) HM.out).mono ?_; rintro e w4 ⟨rfl, gh⟩; have mb := aa gh; clear gh))
     exact ⟨⟨n + 1, by omega, by go_num, X1, _, by rw [kG.out, HM.out], mb.out⟩, by simp [intOf]; omega⟩
   ·have Iy : n = K.F.len := by omega
    have iu := aa cy
    have mX : Hid (dC K.F = .ok X) := by unfold Hid; rw [← aM, Iy]; rfl
    clear cy aM
    go_wp2
    go_end0
    rw [lD mX.out]
    exact ⟨rfl, B8.out _ _ _ _ _ iu.out, _, _, _, iu.out⟩) : G := h
theorem bS1 (h : G := by
  go_wp2
  go_region_held3 (fun W => W.cell? ⟨K.cb, 0, none⟩ = some (.map (some K.mf)) ∧ W.cell? ⟨wr.heap.size, 2, none⟩ = some (.string (K.F.kids n).name)) (go_keep) (fail)
  all_goals go_wp2
  first
  | clear k_S1_0
    all_goals (refine ⟨rfl, ?_⟩; rw [fR qF.out]; exact ⟨rfl, bF.out.trans (HBB.out _ _).drew⟩)
  | clear k_S1_1
    all_goals (
      obtain ⟨W, hW⟩ : ∃ W, ((wr.alloc (.cells #[.int .i64 (K.F.kids n).kind, .int .i64 (K.F.kids n).num, .string (K.F.kids n).name, .slice au (K.F.kids n).len qu] 25)).alloc (.cells #[.int .i64 0, .int .i64 0, .string ⟨#[]⟩, .slice none 0 0] 25)).drew = W := ⟨_, rfl⟩
      have f0 : W.cell? ⟨wr.heap.size, 0, none⟩ = some (.int .i64 (K.F.kids n).kind) := by rw [← hW]; simp [go_sem]
      have f1 : W.cell? ⟨wr.heap.size, 1, none⟩ = some (.int .i64 (K.F.kids n).num) := by rw [← hW]; simp [go_sem]
      have f2 : W.cell? ⟨wr.heap.size, 2, none⟩ = some (.string (K.F.kids n).name) := by rw [← hW]; simp [go_sem]
      have f3 : W.cell? ⟨wr.heap.size, 3, none⟩ = some (.slice au (K.F.kids n).len qu) := by rw [← hW]; simp [go_sem]
      have kW : W.cell? ⟨K.cb, 0, none⟩ = some (.map (some K.mf)) := by
        rw [← kr, ← hW]; exact World.cell?_of_block ((B4.out _ _).drew.block K.cb (by omega))
      have jZ : Hid (Below wr.heap.size wr W) := by unfold Hid; rw [← hW]; exact (B4.out _ _).drew
      have HB5 : Hid (Below K.lo wr W) := by unfold Hid; rw [← hW]; exact (HBB.out _ _).drew
      have X6 : Hid (wr.heap.size < W.heap.size) := by unfold Hid; rw [← hW]; simp [World.drew]; omega
      rw [hW]
      clear hW oT oS k0' kr
      go_still_tail 7, bH
      go_wp2_with (first
        | (at_mapUpdate; refine pw rfl _ _ _ 73 25 rfl Tryz.underlying73 K.mf n (K.fns n) rfl (HMR.out.same (jZ.out.block K.mf hmr)) (by unfold maxLen; omega) (K.F.kids n).name dn (.agg #[.int .i64 (K.F.kids n).kind, .int .i64 (K.F.kids n).num, .string (K.F.kids n).name, .slice au (K.F.kids n).len qu]) rfl rfl ?_; intro w3 Np mq; have e0 : w3.cell? ⟨wr.heap.size, 0, none⟩ = some (.int .i64 (K.F.kids n).kind) := (World.cell?_of_block (mq.block wr.heap.size X6.out (fun e => by injection e with e; omega))).trans f0; have e1 : w3.cell? ⟨wr.heap.size, 1, none⟩ = some (.int .i64 (K.F.kids n).num) := (World.cell?_of_block (mq.block wr.heap.size X6.out (fun e => by injection e with e; omega))).trans f1; have e2 : w3.cell? ⟨wr.heap.size, 2, none⟩ = some (.string (K.F.kids n).name) := (World.cell?_of_block (mq.block wr.heap.size X6.out (fun e => by injection e with e; omega))).trans f2; have e3 : w3.cell? ⟨wr.heap.size, 3, none⟩ = some (.slice au (K.F.kids n).len qu) := (World.cell?_of_block (mq.block wr.heap.size X6.out (fun e => by injection e with e; omega))).trans f3; have cZ := (bF.out.trans HB5.out.drew).grown mq (by have := X6.out; show K.lo ≤ W.heap.size; omega) (fun k e => by injection e with e; have := oY.out.ml; omega); have HM3 := aa Np; have HG3 := aa mq; have Kg := aa cZ; clear Np mq cZ)
        | (go_at_call 12; refine (wj.out _ Kg.out).mono ?_; rintro e w4 ⟨rfl, kL⟩))
      refine ⟨⟨n + 1, by omega, by go_num, by rw [HQ1.out], HOKN.out, ?_, ?_⟩, by simp [intOf]; omega⟩
      · exact ((J7.out.trans (bG jZ.out.drew _) (fun _ _ h => h)).trans (Kept.grown (S := fun k => k = K.mf) HG3.out (fun k e => by injection e with e; exact e.symm)) (fun _ _ h => h)).trans (bG kL _) (fun _ _ h => h)
      · rw [← Gs.out]; exact HM3.out.same (kL.block _ HM3.out.lt))) : G := h
theorem sw {F : Nd} {s : ByteArray} : ∀ {n : Nat}, dp F s n = none → ∀ j, j < n → (F.kids j).name ≠ s
 |n + 1, h, j, hj => by
  simp only [dp] at h
  cases hr : dp F s n with
  |some k => rw [hr] at h; cases h
  |none =>
   rw [hr] at h
   by_cases e : (F.kids n).name = s
   ·rw [if_pos e] at h; cases h
   ·by_cases e' : j = n
    ·subst e'; exact e
    ·exact sw hr j (by omega)
theorem tC {F : Nd} {s : ByteArray} {i n : Nat} (h : dp F s n = some i) : ∀ {k : Nat}, n ≤ k → dp F s k = some i := by
 intro k hk
 induction hk with
 |refl => exact h
 |step _ ih => simp only [dp, ih]
theorem CN {F : Nd} {n : Nat} (hn : n < F.len) (h : dp F (F.kids n).name n = none) : dz F n () = .ok () := by
 unfold dz findF
 rw [if_pos (ly (sw h) rfl hn)]
theorem zU {F : Nd} {n j : Nat} (hn : n < F.len) (h : dp F (F.kids n).name n = some j) : dz F n () = .error (6, 1 + ar (fun j => (F.kids j).size) n) := by
 unfold dz findF
 rw [tC h (Nat.le_of_lt hn), if_neg]
 have := (iq h).1
 intro e; injection e with e; omega
theorem IK.fns_succ {K : IK} {n : Nat} (h : dp K.F (K.F.kids n).name n = none) : tZ (K.fns n) (K.F.kids n).name (.agg #[.int .i64 (K.F.kids n).kind, .int .i64 (K.F.kids n).num, .string (K.F.kids n).name, K.uf n]) = K.fns (n + 1) := by
 funext s
 unfold tZ IK.fns
 by_cases e : s = (K.F.kids n).name
 ·subst e
  rw [if_pos rfl]
  simp only [dp, h]
  rw [if_pos trivial]; rfl
 ·rw [if_neg e]
  simp only [dp]
  cases dp K.F s n with
  |some k => rfl
  |none => rw [if_neg (fun h => e h.symm)]
theorem MapAt.grow {w : World} {b n : Nat} {m : ByteArray → Option Value} (h : MapAt w b n m) (o : Obj) : MapAt (w.alloc o) b n m := h.same (Below.heap_alloc w o b h.lt)
theorem MapAt.funs {K : IK} {w : World} {n : Nat} (h : MapAt w K.mf n (K.fns n)) {t : ByteArray} (ht : t.size ≤ maxLen) :
  (Instr.lookup 73 (.map (some K.mf)) (.string t) true).run Tryz.prog w = .ok (.tuple #[((dp K.F t n).map fun j => Value.agg #[.int .i64 (K.F.kids j).kind, .int .i64 (K.F.kids j).num, .string (K.F.kids j).name, K.uf j]).getD (.agg #[.int .i64 0, .int .i64 0, .string ⟨#[]⟩, .slice none 0 0]), .bool (dp K.F t n).isSome]) w := by
 have := h.lookOk (t := 73) Tryz.underlying73 (Ky w) ht
 rw [this]
 unfold IK.fns
 simp
theorem DO (K : IK) (w : World) (a : Option Addr) (cap : Nat) (aS : K.Ok) (IP : K.cb < w.heap.size) (k0 : w.cell? ⟨K.cb, 0, none⟩ = some (.map (some K.mf))) (nr : MapAt w K.mf 0 (K.fns 0)) (hf : K.F.Fine) (fr : K.F.cost ≤ 1048576)
    (hq : K.F.len ≠ 0 → ∃ g off, a = some ⟨g, off, none⟩ ∧ g < K.lo ∧ K.F.len ≤ cap ∧ ∀ i, i < K.F.len → (∃ au qu, K.uf i = .slice au (K.F.kids i).len qu) ∧ Row 0 K.lo w (K.F.kids i) (K.uf i) ∧ ∀ W, Below K.lo w W → W.cell? ⟨g, off + i * 4, none⟩ = some (.int .i64 (K.F.kids i).kind) ∧ W.cell? ⟨g, off + i * 4 + 1, none⟩ = some (.int .i64 (K.F.kids i).num) ∧
        W.cell? ⟨g, off + i * 4 + 2, none⟩ = some (.string (K.F.kids i).name) ∧ W.cell? ⟨g, off + i * 4 + 3, none⟩ = some (K.uf i)) :
    Calls Tryz.prog 68 #[.pointer (some ⟨K.cb, 0, none⟩), .slice a K.F.len cap, .int .i64 1] w (kQ K w (forN (dz K.F) K.F.len ()) fun _ e w' => e = .returned (.tuple #[]) ∧ Kept (fun k => k = K.mf) w w' ∧ MapAt w' K.mf K.F.len (K.fns K.F.len)) := by
  have hn := K.F.fine_len hf
  have b8 := K.F.size_cost
  have fy : K.lo ≤ w.heap.size := by have := aS.cl; omega
  have hmf := nr.lt
  have HQ := aa hq
  have HF := aa hf
  have FQ := aa nr
  have oY := aa aS
  have bH := jK
  clear hq hf nr
  go_enter Tryz.func68, Tryz.ntmps68
  go_wp2
  go_loopw [2, 12] (fun at' i wr => ∃ n : Nat, n ≤ K.F.len ∧ i = .int .i64 n ∧ at' = .int .i64 ((1 + ar (fun j => (K.F.kids j).size) n : Nat) : Int) ∧ forN (dz K.F) n () = .ok () ∧ Kept (fun k => k = K.mf) w wr ∧ MapAt wr K.mf n (K.fns n)) (fun _ i _ => K.F.len - (intOf i).toNat)
  case atStart => exact ⟨0, Nat.zero_le _, rfl, rfl, rfl, Kept.refl _ _, FQ.out⟩
  case round =>
    obtain ⟨n, EE, rfl, rfl, aM, di, Qb⟩ := hrel
    have lu : Below K.lo w wr := di.below fy (fun k hk => by have := aS.ml; have nZ : k = K.mf := hk; omega)
    have hws := di.size
    have kr : wr.cell? ⟨K.cb, 0, none⟩ = some (.map (some K.mf)) := by
      rw [← k0]; exact World.cell?_of_block (di.block _ IP (fun e => aS.ne e))
    by_cases bN : n < K.F.len
    · have La : (n : Int) < (K.F.len : Int) := by omega
      obtain ⟨g, off, Li, iM, TN, aV⟩ := HQ.out (by omega)
      subst Li
      obtain ⟨⟨au, qu, hu⟩, dJ, eU⟩ := aV n bN
      obtain ⟨c0, c1, c2, c3⟩ := eU _ lu
      rw [hu] at c3
      have dn := fM (Nd.fine_kid HF.out bN)
      have oT := MapAt.funs (K := K) (n := n) ((Qb.grow (.cells #[.int .i64 (K.F.kids n).kind, .int .i64 (K.F.kids n).num, .string (K.F.kids n).name, .slice au (K.F.kids n).len qu] 25)).same (w' := (wr.alloc (.cells #[.int .i64 (K.F.kids n).kind, .int .i64 (K.F.kids n).num, .string (K.F.kids n).name, .slice au (K.F.kids n).len qu] 25)).drew) rfl) dn
      have oS := MapAt.funs (K := K) (n := n) (((Qb.grow (.cells #[.int .i64 (K.F.kids n).kind, .int .i64 (K.F.kids n).num, .string (K.F.kids n).name, .slice au (K.F.kids n).len qu] 25)).grow (.cells #[.int .i64 0, .int .i64 0, .string ⟨#[]⟩, .slice none 0 0] 25)).same (w' := ((wr.alloc (.cells #[.int .i64 (K.F.kids n).kind, .int .i64 (K.F.kids n).num, .string (K.F.kids n).name, .slice au (K.F.kids n).len qu] 25)).alloc (.cells #[.int .i64 0, .int .i64 0, .string ⟨#[]⟩, .slice none 0 0] 25)).drew) rfl) dn
      have K4 : ¬ K.cb = wr.heap.size := by omega
      have hnb1 : ¬ K.cb = wr.heap.size + 1 := by omega
      have hcb1 : K.cb < wr.heap.size + 1 := by omega
      have k0' : (wr.alloc (.cells #[.int .i64 (K.F.kids n).kind, .int .i64 (K.F.kids n).num, .string (K.F.kids n).name, .slice au (K.F.kids n).len qu] 25)).cell? ⟨K.cb, 0, none⟩ = some (.map (some K.mf)) := by
        rw [← kr]; exact World.cell?_of_block (Below.heap_alloc wr _ K.cb (by omega))
      have bF := aa lu
      have HMR := aa Qb
      have J7 := aa di
      have mX := aa aM
      have HU := aa hu
      have Pr := aa dJ
      have HBB := aa (fun o o' => ((Below.refl K.lo wr).alloc (by omega) o).alloc (by simp; omega) o')
      clear lu Qb di aM aV eU hu dJ
      cases xH : dp K.F (K.F.kids n).name n with
      | some j =>
        have qF : Hid (forN (dz K.F) K.F.len () = .error (6, 1 + ar (fun j => (K.F.kids j).size) n)) := im (j := n + 1) (by simp only [forN, mX.out]; exact zU bN xH) (by omega)
        obtain ⟨⟨au2, qu2, Iq⟩, _, _⟩ : (∃ au qu, K.uf j = .slice au (K.F.kids j).len qu) ∧ True ∧ True := by
          obtain ⟨_, _, _, _, _, aV⟩ := HQ.out (by omega)
          exact ⟨(aV j (by have := (iq xH).1; omega)).1, trivial, trivial⟩
        rw [xH] at oT oS
        simp only [Option.map_some, Option.getD_some, Option.isSome_some] at oT oS
        rw [Iq] at oT oS
        clear xH
        generalize ar (fun j => (K.F.kids j).size) n = q at *
        have k_S1_0 := kk
        exact bS1
      | none =>
        have HOKN : Hid (forN (dz K.F) (n + 1) () = .ok ()) := by unfold Hid; simp only [forN, mX.out]; exact CN bN xH
        have Gs := aa (IK.fns_succ xH)
        rw [HU.out] at Gs Pr
        rw [xH] at oT oS
        simp only [Option.map_none, Option.getD_none, Option.isSome_none] at oT oS
        have hmr := HMR.out.lt
        have B4 := aa (fun o o' => (bO wr o).alloc (by simp) o')
        have wj := aa (fun (W : World) (hb : Below K.lo w W) => Bb (K.F.kids n) W _ (Nd.fine_kid HF.out bN) (aO (ah hb lr Pr.out) lr (by have := hb.size; omega)) (Nat.le_trans (Nd.cost_kid K.F bN) fr))
        have Cg := bV K.F 0 bN
        unfold aW at Cg
        have Bd : IntKind.i64.wrap (((1 + ar (fun j => (K.F.kids j).size) n : Nat) : Int) + ((K.F.kids n).size : Int)) = ((1 + ar (fun j => (K.F.kids j).size) (n + 1) : Nat) : Int) := by
          simp only [ar]
          simp [IntKind.wrap, IntKind.bits, IntKind.signed]; omega
        unfold Nd.val at wj
        clear xH
        obtain ⟨q1, Bh⟩ : ∃ q, 1 + ar (fun j => (K.F.kids j).size) (n + 1) = q := ⟨_, rfl⟩
        rw [Bh] at Bd
        have HQ1 := aa Bh
        clear Bh
        generalize 1 + ar (fun j => (K.F.kids j).size) n = q0 at *
        have k_S1_1 := kk
        exact bS1
    · have Iy : n = K.F.len := by omega
      have J7 := aa di
      have HMR := aa Qb
      have mX := aa aM
      clear di Qb aM lu
      go_wp2
      go_end0
      subst Iy
      rw [lD mX.out]
      exact ⟨rfl, J7.out, HMR.out⟩
def IK.bare (K : IK) : IK := ⟨K.cb, K.mf, K.lo, K.up, K.N, .nil, K.fv, K.uf⟩
theorem IS.named {K : IK} {w0 : World} {O : Nat → Prop} {X : List Int} {ret : Int} {w w2 : World} (h : IS K.bare w0 O ([], X) ret 0 0 w) (hk : Kept (fun k => k = K.mf) w w2) (hm : MapAt w2 K.mf K.F.len (K.fns K.F.len)) : ∃ O2, IS K w2 O2 ([], X) ret 0 0 w2 := by
 obtain ⟨sv, tv, bs, h1, h2⟩ := h.is
 have hbs : bs = [] := by have := h1.maps.len; simpa using this
 subst hbs
 obtain ⟨f0, f2, f3, hb⟩ := h1.blk
 have nr := h.fn.isMap
 have a1 : ∀ k, sv.ownBlock = some k → k ≠ K.mf := fun k e e' => gZ h1.sc nr (by rw [e, e']; rfl)
 have a2 : ∀ k, tv.ownBlock = some k → k ≠ K.mf := fun k e e' => gZ h1.ty nr (by rw [e, e']; rfl)
 refine ⟨Own sv tv [], ⟨h.ok.cl, h.ok.ml, h.ok.cu, h.ok.mu, h.ok.ne, h.ok.few, h.ok.tight⟩, ⟨sv, tv, [], ⟨⟨f0, f2, f3, ?_⟩, ?_, ?_, trivial⟩, fun k hk => .inl hk⟩, hm, ⟨h.len.vars, h.len.deep, h.len.few, h.len.full⟩, ⟨hm.lt, ?_⟩, Kept.refl _ _⟩
 ·exact (hk.block _ h1.lt (fun e => h.ok.ne e)).trans hb
 ·exact dM h1.sc fun k e => hk.block k (h1.sc.lt k e).2 (a1 k e)
 ·exact dM h1.ty fun k e => hk.block k (h1.ty.lt k e).2 (a2 k e)
 ·rintro (e | e | e)
  ·exact a1 _ e rfl
  ·exact a2 _ e rfl
  ·cases e
theorem I4 (K : IK) (w0 : World) (O : Nat → Prop) (w : World) (a : Option Addr) (cap : Nat) (Tu : K.fv = .slice a K.F.len cap) (hcapB : cap ≤ 9223372036854775807) (hS : IS K.bare w0 O ([], []) 0 0 0 w) (hE : IEnv K w) (fr : K.F.cost ≤ 1048576) (hN : K.F.size ≤ K.N)
    (hq : K.F.len ≠ 0 → ∃ g off, a = some ⟨g, off, none⟩ ∧ g < K.lo ∧ K.F.len ≤ cap ∧ ∀ i, i < K.F.len → (∃ au qu, K.uf i = .slice au (K.F.kids i).len qu) ∧ Row 0 K.lo w (K.F.kids i) (K.uf i) ∧ ∀ W, Below K.lo w W → W.cell? ⟨g, off + i * 4, none⟩ = some (.int .i64 (K.F.kids i).kind) ∧ W.cell? ⟨g, off + i * 4 + 1, none⟩ = some (.int .i64 (K.F.kids i).num) ∧
        W.cell? ⟨g, off + i * 4 + 2, none⟩ = some (.string (K.F.kids i).name) ∧ W.cell? ⟨g, off + i * 4 + 3, none⟩ = some (K.uf i)) :
    Calls Tryz.prog 42 #[.pointer (some ⟨K.cb, 0, none⟩), K.F.val K.fv] w (kQ K w (dC K.F) fun X e w' => e = .returned (.tuple #[]) ∧ Below K.lo w w' ∧ ∃ w2 O2 ret, IS K w2 O2 ([], X) ret 0 0 w') := by
  have hn := K.F.fine_len hE.fine
  have b8 := K.F.size_cost
  have fy : K.lo ≤ w.heap.size := by have := hS.lt; have := hS.ok.cl; have e1 : K.bare.lo = K.lo := rfl; have e2 : K.bare.cb = K.cb := rfl; omega
  obtain ⟨O1, aD, bg, bS, aZ⟩ := hS.boxed (nO K.F (.slice a K.F.len cap))
  have Is : 0 < K.F.size := by rw [K.F.size_eq]; omega
  have aS : K.Ok := ⟨hS.ok.cl, hS.ok.ml, hS.ok.cu, hS.ok.mu, hS.ok.ne, hS.ok.few, hS.ok.tight⟩
  have iI : Hid (Calls Tryz.prog 69 #[.pointer (some ⟨K.cb, 0, none⟩)] (w.alloc (nO K.F (.slice a K.F.len cap))).drew fun e w' => e = .returned (.int .i64 0) ∧ IS K.bare (w.alloc (nO K.F (.slice a K.F.len cap))) O1 ([], [0]) 0 0 0 w') := ic aD.drew (by show 0 + 1 ≤ K.N; omega)
  have cP := aa bS
  have bF : Hid (∀ s' r' l' o' W, IS K.bare _ O1 s' r' l' o' W → Below K.lo w W) := aZ
  have Gr := aa (fun (W : World) (hW : IS K.bare (w.alloc (nO K.F (.slice a K.F.len cap))) O1 ([], [0]) 0 0 0 W) => DO K W a cap aS hW.lt.1 hW.fcell hW.fn hE.fine fr (fun h => by
    obtain ⟨g, off, e1, e2, e3, e4⟩ := hq h
    exact ⟨g, off, e1, e2, e3, fun i hi => ⟨(e4 i hi).1, ah (bF.out _ _ _ _ _ hW) lr (e4 i hi).2.1, fun W' hb => (e4 i hi).2.2 W' ((bF.out _ _ _ _ _ hW).trans hb)⟩⟩))
  have nH : Hid (¬ w.heap.size = K.mf) := by have := hS.lt.2; have e2 : K.bare.mf = K.mf := rfl; unfold Hid; omega
  have bH := jK
  rw [Tu]
  have b3 := (al (bS _ _ _ _ _ aD)).2.2.2
  have HQ := aa hq
  have Ct := aa hE
  unfold Nd.val
  clear hq hE hS aD bg bS aZ
  cases hM : forN (dz K.F) K.F.len () with
  | error pe =>
    have HMN := aa hM
    have qF : Hid (dC K.F = .error pe) := by unfold Hid dC; rw [hM]; rfl
    have k_S0_0 := kk
    exact bS0
  | ok u =>
    have HMN := aa hM
    have H0 : Hid (xW K.F 0 = .ok [0]) := by unfold Hid xW; rw [hM]; rfl
    have k_S0_1 := kk
    exact bS0
end Go.Proofs.YteaocammohcgoaaGreatDoor
