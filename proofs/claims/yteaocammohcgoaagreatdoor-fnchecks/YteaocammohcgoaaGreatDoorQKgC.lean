import Derived.Test.YteaocammohcgoaaGreatDoorQKgA
set_option linter.unusedVariables false
set_option maxHeartbeats 16000000
set_option maxRecDepth 100000
namespace Go.Proofs.YteaocammohcgoaaGreatDoor
open Go.RowKit
variable {G : Prop}
theorem bX0 (h : G := by
 clear hM
 go_enter Tryz.func42, Tryz.ntmps42
 go_wp2
 refine wp_region_held_drew (S := (fun W => W.cell? ⟨w.heap.size, 3, none⟩ = some (.slice a K.F.len cap))) bI ?_ (fun eK => ?_)
 ·exact b3
 refine wpAnyH_take (i := 0) (v := ?_) rfl (by kernel_rfl) (by kernel_rfl) (by kernel_rfl) (fun _ _ _ h => h) (Or.inl ⟨by rfl, ?_⟩) eK ?_
 rotate_left
 ·intro W hW
  have x0 := hW
  go_simp
  with_reducible rfl
 simp only [Act.put, List.setIfInBounds_toArray]
 refine wpAnyH_take (i := 1) (v := ?_) rfl (by kernel_rfl) (by kernel_rfl) (by kernel_rfl) (fun _ _ _ h => h) (Or.inl ⟨by rfl, ?_⟩) eK ?_
 rotate_left
 ·intro W hW
  have x0 := hW
  go_simp
  with_reducible rfl
 simp only [Act.put]
 refine wpAnyH_take (i := 2) (v := ?_) rfl (by kernel_rfl) (by kernel_rfl) (by kernel_rfl) (fun _ _ _ h => h) (Or.inl ⟨by rfl, ?_⟩) eK ?_
 rotate_left
 ·intro W hW
  have x0 := hW
  go_simp
  with_reducible rfl
 simp only [Act.put]
 refine wpAnyH_take (i := 3) (v := ?_) rfl (by kernel_rfl) (by kernel_rfl) (by kernel_rfl) (fun _ _ _ h => h) (Or.inl ⟨by rfl, ?_⟩) eK ?_
 rotate_left
 ·intro W hW
  have x0 := hW
  go_simp
  with_reducible rfl
 simp only [Act.put]
 refine wpAnyH_ready (rs := [4]) (by kernel_rfl) (by simp) ?_
 refine AllReadyH.cons rfl (fun K' hK => ?_) AllReadyH.nil
 rw [if_pos (by rfl)]
 go_wp2_with (go_at_call 69; refine iA.out.mono ?_; rintro e w1 ⟨rfl, az⟩; have b3 := (ai (cJ.out _ _ _ _ _ az)).2.2.2; have bb := aa az; clear az)
 refine hK.out _ _ b3 (fun sZ => ?_)
 refine wpAnyH_take (i := 5) (v := ?_) rfl (by kernel_rfl) (by kernel_rfl) (by kernel_rfl) (fun _ _ _ h => h) (Or.inl ⟨by rfl, ?_⟩) sZ ?_
 rotate_left
 ·intro W hW
  have x0 := hW
  go_simp
  with_reducible rfl
 simp only [Act.put]
 refine wpAnyH_ready (rs := [6]) (by kernel_rfl) (by simp) ?_
 refine AllReadyH.cons rfl (fun K' hK => ?_) AllReadyH.nil
 rw [if_pos (by rfl)]
 first
 |clear k_0
  go_wp2_with (go_at_call 68; refine (dq (BT.out _ bb.out) HMN.out).mono ?_; rintro e w2 ⟨rfl, hb2⟩)
  refine ⟨rfl, ?_⟩
  rw [fQ qC.out]
  exact ⟨rfl, (bz.out _ _ _ _ _ bb.out).trans hb2⟩
 |clear k_1
  go_wp2_with (go_at_call 68; refine (cq (BT.out _ bb.out) HMN.out).mono ?_; rintro e w2 ⟨rfl, jR, hm2⟩; have b3 : w2.cell? ⟨w.heap.size, 3, none⟩ = some (.slice a K.F.len cap) := (World.cell?_of_block (jR.block w.heap.size (Array.getElem?_eq_some_iff.1 (cJ.out _ _ _ _ _ bb.out)).1 (fun e => oZ.out e))).trans b3; have tB := aa jR; have qP := aa hm2; clear jR hm2)
  refine hK.out _ _ b3 (fun xx => ?_)
  refine wpAnyH_done (by kernel_rfl) ?_ _
  obtain ⟨O9, hs9⟩ := bb.out.named tB.out qP.out
  obtain ⟨O2, aD, _, Oz⟩ := hs9.since
  have fI : Hid (Below K.lo w w2) := (bz.out _ _ _ _ _ bb.out).trans (tB.out.below (by have := (bz.out _ _ _ _ _ bb.out).size; omega) (fun k e => by have := aN.ml; have e' : k = K.mf := e; omega))
  have BB := aa (fun s' r' l' o' W (h : IS K w2 O2 s' r' l' o' W) => fI.out.trans (Oz _ _ _ _ _ h))
  have bM := aa aD
  clear hs9 aD Oz bb tB qP BT iA
  go_wp2
  go_loopw [16] (fun i wr => ∃ n : Nat, n ≤ K.F.len ∧ i = .int .i64 n ∧ ∃ X ret, xC K.F n = .ok X ∧ IS K w2 O2 ([], X) ret 0 0 wr) (fun i _ => K.F.len - (intOf i).toNat)
  case atStart => exact ⟨0, Nat.zero_le _, rfl, [0], 0, H0.out, bM.out⟩
  case round =>
   obtain ⟨n, Eb, rfl, X, ret, aM, cr⟩ := hrel
   by_cases bB : n < K.F.len
   ·have Ib : (n : Int) < (K.F.len : Int) := by omega
    obtain ⟨g, off, Kr, iW, RP, aQ⟩ := HQ.out (by omega)
    subst Kr
    obtain ⟨⟨au, qu, hu⟩, dO, eX⟩ := aQ n bB
    have mi := BB.out _ _ _ _ _ cr
    obtain ⟨c0, c1, c2, c3⟩ := eX _ mi
    have hx := te BX.out.ok (Nat.le_of_lt bB) X aM
    have BJ := bP K.F 0 bB
    rw [hu] at c3 dO
    have Oa := aa (fun o => Hq (jJ BX.out.ok bB) K w2 O2 X ret (wr.alloc o) _ (cr.alloc o) (BX.out.later (mi.trans (cr.box o))) ⟨Nd.fine_kid BX.out.fine bB, ah (mi.trans (cr.box o)) lr dO, Nat.le_trans (Nd.cost_kid K.F bB) eS⟩ (by omega))
    have kB : Hid (xC K.F (n + 1) = ja K.F (K.F.kids n) X) := by unfold Hid; rw [nu, aM]; rfl
    have yj := aa (fun o => mi.trans (cr.box o))
    unfold Nd.val at Oa
    clear aQ eX dO hu mi hx BJ aM cr
    cases hM : ja K.F (K.F.kids n) X with
    |error pe =>
     have HM := aa hM
     have qC : Hid (dp K.F = .error pe) := y4 (kB.out.trans hM) (by omega : n + 1 ≤ K.F.len)
     clear hM
     go_wp2_with (first
      |(go_at_call 70; refine (dq (Oa.out _) HM.out).mono ?_; rintro e w4 ⟨rfl, lg⟩; skip))
     refine ⟨rfl, ?_⟩
     rw [fQ qC.out]
     exact ⟨rfl, (yj.out _).trans lg⟩
    |ok X1 =>
     have HM := aa hM
     clear hM
     go_wp2_with (first
      |(go_at_call 70; refine (cq (Oa.out _) HM.out).mono ?_; rintro e w4 ⟨rfl, fH⟩; have kG := aa fH; clear fH))
     exact ⟨⟨n + 1, by omega, by go_num, X1, _, by rw [kB.out, HM.out], kG.out⟩, by simp [intOf]; omega⟩
   ·have H3 : n = K.F.len := by omega
    have iK := aa cr
    have mT : Hid (dp K.F = .ok X) := by unfold Hid; rw [← aM, H3]; rfl
    clear cr aM
    go_wp2
    go_end0
    rw [lu mT.out]
    exact ⟨rfl, BB.out _ _ _ _ _ iK.out, _, _, _, iK.out⟩) : G := h
theorem bX1 (h : G := by
  go_wp2
  go_region_held3 (fun W => W.cell? ⟨K.cb, 0, none⟩ = some (.map (some K.mf)) ∧ W.cell? ⟨wr.heap.size, 2, none⟩ = some (.string (K.F.kids n).name)) (go_keep) (fail)
  all_goals go_wp2
  first
  | clear k_0
    all_goals (refine ⟨rfl, ?_⟩; rw [fQ qC.out]; exact ⟨rfl, bz.out.trans (HBB.out _ _).drew⟩)
  | clear k_1
    all_goals (
      obtain ⟨W, hW⟩ : ∃ W, ((wr.alloc (.cells #[.int .i64 (K.F.kids n).kind, .int .i64 (K.F.kids n).num, .string (K.F.kids n).name, .slice au (K.F.kids n).len qu] 25)).alloc (.cells #[.int .i64 0, .int .i64 0, .string ⟨#[]⟩, .slice none 0 0] 25)).drew = W := ⟨_, rfl⟩
      have f0 : W.cell? ⟨wr.heap.size, 0, none⟩ = some (.int .i64 (K.F.kids n).kind) := by rw [← hW]; simp [go_sem]
      have f1 : W.cell? ⟨wr.heap.size, 1, none⟩ = some (.int .i64 (K.F.kids n).num) := by rw [← hW]; simp [go_sem]
      have f2 : W.cell? ⟨wr.heap.size, 2, none⟩ = some (.string (K.F.kids n).name) := by rw [← hW]; simp [go_sem]
      have f3 : W.cell? ⟨wr.heap.size, 3, none⟩ = some (.slice au (K.F.kids n).len qu) := by rw [← hW]; simp [go_sem]
      have kW : W.cell? ⟨K.cb, 0, none⟩ = some (.map (some K.mf)) := by
        rw [← kr, ← hW]; exact World.cell?_of_block ((Bz.out _ _).drew.block K.cb (by omega))
      have fI : Hid (Below wr.heap.size wr W) := by unfold Hid; rw [← hW]; exact (Bz.out _ _).drew
      have HB5 : Hid (Below K.lo wr W) := by unfold Hid; rw [← hW]; exact (HBB.out _ _).drew
      have VM : Hid (wr.heap.size < W.heap.size) := by unfold Hid; rw [← hW]; simp [World.drew]; omega
      rw [hW]
      clear hW oR oQ k0' kr
      go_still_tail 7, bI
      go_wp2_with (first
        | (at_mapUpdate; refine pq rfl _ _ _ 73 25 rfl Tryz.underlying73 K.mf n (K.fns n) rfl (HMR.out.same (fI.out.block K.mf hmr)) (by unfold maxLen; omega) (K.F.kids n).name dc (.agg #[.int .i64 (K.F.kids n).kind, .int .i64 (K.F.kids n).num, .string (K.F.kids n).name, .slice au (K.F.kids n).len qu]) rfl rfl ?_; intro w3 Mu mg; have e0 : w3.cell? ⟨wr.heap.size, 0, none⟩ = some (.int .i64 (K.F.kids n).kind) := (World.cell?_of_block (mg.block wr.heap.size VM.out (fun e => by injection e with e; omega))).trans f0; have e1 : w3.cell? ⟨wr.heap.size, 1, none⟩ = some (.int .i64 (K.F.kids n).num) := (World.cell?_of_block (mg.block wr.heap.size VM.out (fun e => by injection e with e; omega))).trans f1; have e2 : w3.cell? ⟨wr.heap.size, 2, none⟩ = some (.string (K.F.kids n).name) := (World.cell?_of_block (mg.block wr.heap.size VM.out (fun e => by injection e with e; omega))).trans f2; have e3 : w3.cell? ⟨wr.heap.size, 3, none⟩ = some (.slice au (K.F.kids n).len qu) := (World.cell?_of_block (mg.block wr.heap.size VM.out (fun e => by injection e with e; omega))).trans f3; have hb3 := (bz.out.trans HB5.out.drew).grown mg (by have := VM.out; show K.lo ≤ W.heap.size; omega) (fun k e => by injection e with e; have := oY.out.ml; omega); have HM3 := aa Mu; have HG3 := aa mg; have ou := aa hb3; clear Mu mg hb3)
        | (go_at_call 12; refine (zo.out _ ou.out).mono ?_; rintro e w4 ⟨rfl, lg⟩))
      refine ⟨⟨n + 1, by omega, by go_num, by rw [HQ1.out], HOKN.out, ?_, ?_⟩, by simp [intOf]; omega⟩
      · exact ((Jo.out.trans (bQ fI.out.drew _) (fun _ _ h => h)).trans (Kept.grown (S := fun k => k = K.mf) HG3.out (fun k e => by injection e with e; exact e.symm)) (fun _ _ h => h)).trans (bQ lg _) (fun _ _ h => h)
      · rw [← FR.out]; exact HM3.out.same (lg.block _ HM3.out.lt))) : G := h
theorem sf {F : Nd} {s : ByteArray} : ∀ {n : Nat}, dn F s n = none → ∀ j, j < n → (F.kids j).name ≠ s
 |n + 1, h, j, hj => by
  simp only [dn] at h
  cases hr : dn F s n with
  |some k => rw [hr] at h; cases h
  |none =>
   rw [hr] at h
   by_cases e : (F.kids n).name = s
   ·rw [if_pos e] at h; cases h
   ·by_cases e' : j = n
    ·subst e'; exact e
    ·exact sf hr j (by omega)
theorem tg {F : Nd} {s : ByteArray} {i n : Nat} (h : dn F s n = some i) : ∀ {k : Nat}, n ≤ k → dn F s k = some i := by
 intro k hk
 induction hk with
 |refl => exact h
 |step _ ih => simp only [dn, ih]
theorem Ck {F : Nd} {n : Nat} (hn : n < F.len) (h : dn F (F.kids n).name n = none) : dC F n () = .ok () := by
 unfold dC findF
 rw [if_pos (ll (sf h) rfl hn)]
theorem zE {F : Nd} {n j : Nat} (hn : n < F.len) (h : dn F (F.kids n).name n = some j) : dC F n () = .error (6, 1 + aw (fun j => (F.kids j).size) n) := by
 unfold dC findF
 rw [tg h (Nat.le_of_lt hn), if_neg]
 have := (ig h).1
 intro e; injection e with e; omega
theorem IK.fns_succ {K : IK} {n : Nat} (h : dn K.F (K.F.kids n).name n = none) : tI (K.fns n) (K.F.kids n).name (.agg #[.int .i64 (K.F.kids n).kind, .int .i64 (K.F.kids n).num, .string (K.F.kids n).name, K.uf n]) = K.fns (n + 1) := by
 funext s
 unfold tI IK.fns
 by_cases e : s = (K.F.kids n).name
 ·subst e
  rw [if_pos rfl]
  simp only [dn, h]
  rw [if_pos trivial]; rfl
 ·rw [if_neg e]
  simp only [dn]
  cases dn K.F s n with
  |some k => rfl
  |none => rw [if_neg (fun h => e h.symm)]
theorem MapAt.grow {w : World} {b n : Nat} {m : ByteArray → Option Value} (h : MapAt w b n m) (o : Obj) : MapAt (w.alloc o) b n m := h.same (Below.heap_alloc w o b h.lt)
theorem MapAt.funs {K : IK} {w : World} {n : Nat} (h : MapAt w K.mf n (K.fns n)) {t : ByteArray} (ht : t.size ≤ maxLen) :
  (Instr.lookup 73 (.map (some K.mf)) (.string t) true).run Tryz.prog w = .ok (.tuple #[((dn K.F t n).map fun j => Value.agg #[.int .i64 (K.F.kids j).kind, .int .i64 (K.F.kids j).num, .string (K.F.kids j).name, K.uf j]).getD (.agg #[.int .i64 0, .int .i64 0, .string ⟨#[]⟩, .slice none 0 0]), .bool (dn K.F t n).isSome]) w := by
 have := h.lookOk (t := 73) Tryz.underlying73 (JN w) ht
 rw [this]
 unfold IK.fns
 simp
theorem Do (K : IK) (w : World) (a : Option Addr) (cap : Nat) (aN : K.Ok) (Ig : K.cb < w.heap.size) (k0 : w.cell? ⟨K.cb, 0, none⟩ = some (.map (some K.mf))) (nr : MapAt w K.mf 0 (K.fns 0)) (hf : K.F.Fine) (eS : K.F.cost ≤ 1048576)
    (hq : K.F.len ≠ 0 → ∃ g off, a = some ⟨g, off, none⟩ ∧ g < K.lo ∧ K.F.len ≤ cap ∧ ∀ i, i < K.F.len → (∃ au qu, K.uf i = .slice au (K.F.kids i).len qu) ∧ Row 0 K.lo w (K.F.kids i) (K.uf i) ∧ ∀ W, Below K.lo w W → W.cell? ⟨g, off + i * 4, none⟩ = some (.int .i64 (K.F.kids i).kind) ∧ W.cell? ⟨g, off + i * 4 + 1, none⟩ = some (.int .i64 (K.F.kids i).num) ∧
        W.cell? ⟨g, off + i * 4 + 2, none⟩ = some (.string (K.F.kids i).name) ∧ W.cell? ⟨g, off + i * 4 + 3, none⟩ = some (K.uf i)) :
    Calls Tryz.prog 68 #[.pointer (some ⟨K.cb, 0, none⟩), .slice a K.F.len cap, .int .i64 1] w (kJ K w (forN (dC K.F) K.F.len ()) fun _ e w' => e = .returned (.tuple #[]) ∧ Kept (fun k => k = K.mf) w w' ∧ MapAt w' K.mf K.F.len (K.fns K.F.len)) := by
  have hn := K.F.fine_len hf
  have bS := K.F.size_cost
  have fe : K.lo ≤ w.heap.size := by have := aN.cl; omega
  have hmf := nr.lt
  have HQ := aa hq
  have HF := aa hf
  have Fo := aa nr
  have oY := aa aN
  have bI := jz
  clear hq hf nr
  go_enter Tryz.func68, Tryz.ntmps68
  go_wp2
  go_loopw [2, 12] (fun at' i wr => ∃ n : Nat, n ≤ K.F.len ∧ i = .int .i64 n ∧ at' = .int .i64 ((1 + aw (fun j => (K.F.kids j).size) n : Nat) : Int) ∧ forN (dC K.F) n () = .ok () ∧ Kept (fun k => k = K.mf) w wr ∧ MapAt wr K.mf n (K.fns n)) (fun _ i _ => K.F.len - (intOf i).toNat)
  case atStart => exact ⟨0, Nat.zero_le _, rfl, rfl, rfl, Kept.refl _ _, Fo.out⟩
  case round =>
    obtain ⟨n, Eb, rfl, rfl, aM, dD, OD⟩ := hrel
    have mi : Below K.lo w wr := dD.below fe (fun k hk => by have := aN.ml; have nX : k = K.mf := hk; omega)
    have hws := dD.size
    have kr : wr.cell? ⟨K.cb, 0, none⟩ = some (.map (some K.mf)) := by
      rw [← k0]; exact World.cell?_of_block (dD.block _ Ig (fun e => aN.ne e))
    by_cases bB : n < K.F.len
    · have Ib : (n : Int) < (K.F.len : Int) := by omega
      obtain ⟨g, off, Kr, iW, RP, aQ⟩ := HQ.out (by omega)
      subst Kr
      obtain ⟨⟨au, qu, hu⟩, dO, eX⟩ := aQ n bB
      obtain ⟨c0, c1, c2, c3⟩ := eX _ mi
      rw [hu] at c3
      have dc := fK (Nd.fine_kid HF.out bB)
      have oR := MapAt.funs (K := K) (n := n) ((OD.grow (.cells #[.int .i64 (K.F.kids n).kind, .int .i64 (K.F.kids n).num, .string (K.F.kids n).name, .slice au (K.F.kids n).len qu] 25)).same (w' := (wr.alloc (.cells #[.int .i64 (K.F.kids n).kind, .int .i64 (K.F.kids n).num, .string (K.F.kids n).name, .slice au (K.F.kids n).len qu] 25)).drew) rfl) dc
      have oQ := MapAt.funs (K := K) (n := n) (((OD.grow (.cells #[.int .i64 (K.F.kids n).kind, .int .i64 (K.F.kids n).num, .string (K.F.kids n).name, .slice au (K.F.kids n).len qu] 25)).grow (.cells #[.int .i64 0, .int .i64 0, .string ⟨#[]⟩, .slice none 0 0] 25)).same (w' := ((wr.alloc (.cells #[.int .i64 (K.F.kids n).kind, .int .i64 (K.F.kids n).num, .string (K.F.kids n).name, .slice au (K.F.kids n).len qu] 25)).alloc (.cells #[.int .i64 0, .int .i64 0, .string ⟨#[]⟩, .slice none 0 0] 25)).drew) rfl) dc
      have Ea : ¬ K.cb = wr.heap.size := by omega
      have hnb1 : ¬ K.cb = wr.heap.size + 1 := by omega
      have hcb1 : K.cb < wr.heap.size + 1 := by omega
      have k0' : (wr.alloc (.cells #[.int .i64 (K.F.kids n).kind, .int .i64 (K.F.kids n).num, .string (K.F.kids n).name, .slice au (K.F.kids n).len qu] 25)).cell? ⟨K.cb, 0, none⟩ = some (.map (some K.mf)) := by
        rw [← kr]; exact World.cell?_of_block (Below.heap_alloc wr _ K.cb (by omega))
      have bz := aa mi
      have HMR := aa OD
      have Jo := aa dD
      have mT := aa aM
      have HU := aa hu
      have NT := aa dO
      have HBB := aa (fun o o' => ((Below.refl K.lo wr).alloc (by omega) o).alloc (by simp; omega) o')
      clear mi OD dD aM aQ eX hu dO
      cases xl : dn K.F (K.F.kids n).name n with
      | some j =>
        have qC : Hid (forN (dC K.F) K.F.len () = .error (6, 1 + aw (fun j => (K.F.kids j).size) n)) := ie (j := n + 1) (by simp only [forN, mT.out]; exact zE bB xl) (by omega)
        obtain ⟨⟨au2, qu2, Hu⟩, _, _⟩ : (∃ au qu, K.uf j = .slice au (K.F.kids j).len qu) ∧ True ∧ True := by
          obtain ⟨_, _, _, _, _, aQ⟩ := HQ.out (by omega)
          exact ⟨(aQ j (by have := (ig xl).1; omega)).1, trivial, trivial⟩
        rw [xl] at oR oQ
        simp only [Option.map_some, Option.getD_some, Option.isSome_some] at oR oQ
        rw [Hu] at oR oQ
        clear xl
        generalize aw (fun j => (K.F.kids j).size) n = q at *
        have k_0 := kk
        exact bX1
      | none =>
        have HOKN : Hid (forN (dC K.F) (n + 1) () = .ok ()) := by unfold Hid; simp only [forN, mT.out]; exact Ck bB xl
        have FR := aa (IK.fns_succ xl)
        rw [HU.out] at FR NT
        rw [xl] at oR oQ
        simp only [Option.map_none, Option.getD_none, Option.isSome_none] at oR oQ
        have hmr := HMR.out.lt
        have Bz := aa (fun o o' => (bO wr o).alloc (by simp) o')
        have zo := aa (fun (W : World) (hb : Below K.lo w W) => rJ (K.F.kids n) W _ (Nd.fine_kid HF.out bB) (bl (ah hb lr NT.out) lr (by have := hb.size; omega)) (Nat.le_trans (Nd.cost_kid K.F bB) eS))
        have BJ := bP K.F 0 bB
        unfold aV at BJ
        have DQ : IntKind.i64.wrap (((1 + aw (fun j => (K.F.kids j).size) n : Nat) : Int) + ((K.F.kids n).size : Int)) = ((1 + aw (fun j => (K.F.kids j).size) (n + 1) : Nat) : Int) := by
          simp only [aw]
          simp [IntKind.wrap, IntKind.bits, IntKind.signed]; omega
        unfold Nd.val at zo
        clear xl
        obtain ⟨q1, AW⟩ : ∃ q, 1 + aw (fun j => (K.F.kids j).size) (n + 1) = q := ⟨_, rfl⟩
        rw [AW] at DQ
        have HQ1 := aa AW
        clear AW
        generalize 1 + aw (fun j => (K.F.kids j).size) n = q0 at *
        have k_1 := kk
        exact bX1
    · have H3 : n = K.F.len := by omega
      have Jo := aa dD
      have HMR := aa OD
      have mT := aa aM
      clear dD OD aM mi
      go_wp2
      go_end0
      subst H3
      rw [lu mT.out]
      exact ⟨rfl, Jo.out, HMR.out⟩
def IK.bare (K : IK) : IK := ⟨K.cb, K.mf, K.lo, K.up, K.N, .nil, K.fv, K.uf⟩
theorem IS.named {K : IK} {w0 : World} {O : Nat → Prop} {X : List Int} {ret : Int} {w w2 : World} (h : IS K.bare w0 O ([], X) ret 0 0 w) (hk : Kept (fun k => k = K.mf) w w2) (hm : MapAt w2 K.mf K.F.len (K.fns K.F.len)) : ∃ O2, IS K w2 O2 ([], X) ret 0 0 w2 := by
 obtain ⟨sv, tv, bs, h1, h2⟩ := h.is
 have hbs : bs = [] := by have := h1.maps.len; simpa using this
 subst hbs
 obtain ⟨f0, f2, f3, hb⟩ := h1.blk
 have nr := h.fn.isMap
 have a1 : ∀ k, sv.ownBlock = some k → k ≠ K.mf := fun k e e' => gW h1.sc nr (by rw [e, e']; rfl)
 have a2 : ∀ k, tv.ownBlock = some k → k ≠ K.mf := fun k e e' => gW h1.ty nr (by rw [e, e']; rfl)
 refine ⟨Own sv tv [], ⟨h.ok.cl, h.ok.ml, h.ok.cu, h.ok.mu, h.ok.ne, h.ok.few, h.ok.tight⟩, ⟨sv, tv, [], ⟨⟨f0, f2, f3, ?_⟩, ?_, ?_, trivial⟩, fun k hk => .inl hk⟩, hm, ⟨h.len.vars, h.len.deep, h.len.few, h.len.full⟩, ⟨hm.lt, ?_⟩, Kept.refl _ _⟩
 ·exact (hk.block _ h1.lt (fun e => h.ok.ne e)).trans hb
 ·exact dF h1.sc fun k e => hk.block k (h1.sc.lt k e).2 (a1 k e)
 ·exact dF h1.ty fun k e => hk.block k (h1.ty.lt k e).2 (a2 k e)
 ·rintro (e | e | e)
  ·exact a1 _ e rfl
  ·exact a2 _ e rfl
  ·cases e
theorem Ir (K : IK) (w0 : World) (O : Nat → Prop) (w : World) (a : Option Addr) (cap : Nat) (Rv : K.fv = .slice a K.F.len cap) (hcapB : cap ≤ 9223372036854775807) (hS : IS K.bare w0 O ([], []) 0 0 0 w) (hE : IEnv K w) (eS : K.F.cost ≤ 1048576) (hN : K.F.size ≤ K.N)
    (hq : K.F.len ≠ 0 → ∃ g off, a = some ⟨g, off, none⟩ ∧ g < K.lo ∧ K.F.len ≤ cap ∧ ∀ i, i < K.F.len → (∃ au qu, K.uf i = .slice au (K.F.kids i).len qu) ∧ Row 0 K.lo w (K.F.kids i) (K.uf i) ∧ ∀ W, Below K.lo w W → W.cell? ⟨g, off + i * 4, none⟩ = some (.int .i64 (K.F.kids i).kind) ∧ W.cell? ⟨g, off + i * 4 + 1, none⟩ = some (.int .i64 (K.F.kids i).num) ∧
        W.cell? ⟨g, off + i * 4 + 2, none⟩ = some (.string (K.F.kids i).name) ∧ W.cell? ⟨g, off + i * 4 + 3, none⟩ = some (K.uf i)) :
    Calls Tryz.prog 42 #[.pointer (some ⟨K.cb, 0, none⟩), K.F.val K.fv] w (kJ K w (dp K.F) fun X e w' => e = .returned (.tuple #[]) ∧ Below K.lo w w' ∧ ∃ w2 O2 ret, IS K w2 O2 ([], X) ret 0 0 w') := by
  have hn := K.F.fine_len hE.fine
  have bS := K.F.size_cost
  have fe : K.lo ≤ w.heap.size := by have := hS.lt; have := hS.ok.cl; have e1 : K.bare.lo = K.lo := rfl; have e2 : K.bare.cb = K.cb := rfl; omega
  obtain ⟨O1, az, aW, bp, aS⟩ := hS.boxed (nO K.F (.slice a K.F.len cap))
  have Hx : 0 < K.F.size := by rw [K.F.size_eq]; omega
  have aN : K.Ok := ⟨hS.ok.cl, hS.ok.ml, hS.ok.cu, hS.ok.mu, hS.ok.ne, hS.ok.few, hS.ok.tight⟩
  have iA : Hid (Calls Tryz.prog 69 #[.pointer (some ⟨K.cb, 0, none⟩)] (w.alloc (nO K.F (.slice a K.F.len cap))).drew fun e w' => e = .returned (.int .i64 0) ∧ IS K.bare (w.alloc (nO K.F (.slice a K.F.len cap))) O1 ([], [0]) 0 0 0 w') := ia az.drew (by show 0 + 1 ≤ K.N; omega)
  have cJ := aa bp
  have bz : Hid (∀ s' r' l' o' W, IS K.bare _ O1 s' r' l' o' W → Below K.lo w W) := aS
  have BT := aa (fun (W : World) (hW : IS K.bare (w.alloc (nO K.F (.slice a K.F.len cap))) O1 ([], [0]) 0 0 0 W) => Do K W a cap aN hW.lt.1 hW.fcell hW.fn hE.fine eS (fun h => by
    obtain ⟨g, off, e1, e2, e3, e4⟩ := hq h
    exact ⟨g, off, e1, e2, e3, fun i hi => ⟨(e4 i hi).1, ah (bz.out _ _ _ _ _ hW) lr (e4 i hi).2.1, fun W' hb => (e4 i hi).2.2 W' ((bz.out _ _ _ _ _ hW).trans hb)⟩⟩))
  have oZ : Hid (¬ w.heap.size = K.mf) := by have := hS.lt.2; have e2 : K.bare.mf = K.mf := rfl; unfold Hid; omega
  have bI := jz
  rw [Rv]
  have b3 := (ai (bp _ _ _ _ _ az)).2.2.2
  have HQ := aa hq
  have BX := aa hE
  unfold Nd.val
  clear hq hE hS az aW bp aS
  cases hM : forN (dC K.F) K.F.len () with
  | error pe =>
    have HMN := aa hM
    have qC : Hid (dp K.F = .error pe) := by unfold Hid dp; rw [hM]; rfl
    have k_0 := kk
    exact bX0
  | ok u =>
    have HMN := aa hM
    have H0 : Hid (xC K.F 0 = .ok [0]) := by unfold Hid xC; rw [hM]; rfl
    have k_1 := kk
    exact bX0
end Go.Proofs.YteaocammohcgoaaGreatDoor
