import Derived.Test.YteaocammohcgoaaGreatDoorVDE
set_option linter.unusedVariables false
set_option maxHeartbeats 16000000
set_option maxRecDepth 100000
namespace Go.Proofs.YteaocammohcgoaaGreatDoor
open Go.RowKit
variable {G : Prop}
theorem ba0 (h : G := by
 obtain ⟨dj, di⟩ := HS.out.pre bD
 obtain ⟨z0, z1, z2, z3, zf⟩ := ax (cm iO.out.obx tg di)
 exact ba4) : G := h
theorem Ve (h : G := by
 exact ba4) : G := h
theorem ba2 (h : G := by
 have := List.all_eq_true.1 (List.all_eq_true.1 this i (List.mem_range.2 hi)) j (List.mem_range.2 hj)
 simpa [h] using this) : G := h
theorem qP (h : G := by
 exact ba5) : G := h
theorem ba4 (h : G := by
 clear dj di
 exact ba5) : G := h
theorem ba5 (h : G := by
 go_simp
 exact b6.out v (fun _ _ _ h => h) (HS.out.same (by omega) cG (by decide) (by decide) rfl) _ rfl (by decide)) : G := h
theorem ba6 (h : G := by
 obtain ⟨dj, di⟩ := HS.out.pre bD
 have il : w6.heap.size ≤ v.heap.size := by have := di.size; omega
 obtain ⟨xj, v2, ei, aX, fc⟩ := SI.join (sb := sb) (A := A) (w := w) (iO.out.gw.kp (sb := sb) (by omega) di) iO.out.ok wa za (by omega) il lr (fun g hg => (iO.out.gw.own.lt g hg).2) (by omega)
 first
 |clear k_a6_0
  refine jC rfl h36 hx (ei _) ?_
  exact b6.out v2 (mT (Wn.of_grown aX (fun k hk => (iO.out.gw.own.lt k hk).2)) bD aM) (HS.out.join (by omega) cG (by decide) aM (by omega) tg aX (fun k hk => by have := (iO.out.gw.own.lt k hk).1; omega)) _ fc (by decide)
 |clear k_a6_1
  refine jC rfl h88 hx (ei _) ?_
  exact b6.out v2 (l8 (Wn.of_grown aX (fun k hk => (iO.out.gw.own.lt k hk).2)) bD aM) (HS.out.join (by omega) cG (by decide) aM (by omega) tg aX (fun k hk => by have := (iO.out.gw.own.lt k hk).1; omega)) _ fc (by decide)) : G := h
theorem ba7 (h : G := by
 rw [ji] at htu
 have HSV := aa (SC.out _ v dj)
 have il := di.size
 clear hx
 go_simp
 refine (qt CC.out sb _ n q2 (.slice va n vc) loops v (by omega) (by omega) (by omega) dj.src HSV.out).mono ?_
 rintro e' v2 ⟨T2, u2, rfl, d2⟩
 obtain ⟨a2, c2, rfl⟩ := be d2.row
 first
 |clear k_a7_0
  exact b6.out v2 (mT (Wn.of_kp d2.kp xB) bD aM) (HS.out.ask (by omega) (by omega) cG (by decide) (by decide) bD aM d2.src d2.kp) _ ⟨T2, a2, c2, ⟨d2.fine, d2.ok.1, d2.cost⟩, rfl, aO d2.row il lr⟩ (by decide)
 |clear k_a7_1
  exact b6.out v2 (l8 (Wn.of_kp d2.kp xB) bD aM) (HS.out.ask (by omega) (by omega) cG (by decide) (by decide) bD aM d2.src d2.kp) _ ⟨T2, a2, c2, ⟨d2.fine, d2.ok.1, d2.cost⟩, rfl, aO d2.row il lr⟩ (by decide)) : G := h
theorem ba8 (h : G := by
 have k_a17_1 := kk
 exact Oy) : G := h
theorem ba9 (h : G := by
 have bD := dm (f := 40) (j := 7) jB.out (by kernel_rfl) cG
 have aM := dm (f := 40) (j := 9) jB.out (by kernel_rfl) cG
 obtain ⟨dj, di⟩ := HS.out.pre bD
 have il : wX.heap.size ≤ v.heap.size := by have := di.size; omega
 first
 |clear k_a9_0
  have Gn := aa (aO (fJ RL.out (by omega) lr di) lr di.size)
  go_simp
  exact b6.out _ (ph (Wn.of_calm (bA)) bD aM) (HS.out.calm (by omega) cG (by decide) (by decide) rfl bD aM (bA)) _ ⟨dR 0 0 ⟨#[]⟩ (aq 24 0 ch) (ct gX TB), _, _, rfl, rfl, LV.two (A := aq 24 0 ch) (B := ct gX TB) il (cO _ _ _ _ _ _) Gn.out⟩ (by decide)
 |clear k_a9_1
  clear KM KV
  go_simp
  exact b6.out _ (ph (Wn.of_calm (bA)) bD aM) (HS.out.calm (by omega) cG (by decide) (by decide) rfl bD aM (bA)) _ ⟨bX 0 0 ⟨#[]⟩ T5, _, _, ⟨T5, SV, rfl⟩, rfl, LV.one il HR.out⟩ (by decide)) : G := h
theorem Vd (h : G := by
 obtain ⟨dj, gE⟩ := HS.out.mid qX (cC cG)
 rw [ji] at dj
 have kC := gE.trans iO.out.obx
 obtain ⟨z0, z1, z2, z3, zf⟩ := ax kC
 have Kx := zf 3
 obtain ⟨a2, c2, hx, Ce⟩ := SI.done dj zh kC fc
 first
 |clear k_a10_0
  have h52 := ab hx
  have Gs := aa Ce
  clear hx dj gE kC fc Ce zf
  go_simp
  exact po.out _ (fun j x _ hx => Pc (by omega) j x hx) (GS.store (by omega) (.inr qX) Gs.out) (fun _ => trivial)
 |clear k_a10_1
  have h100 := ab hx
  have Gs := aa Ce
  clear hx dj gE kC fc Ce zf
  go_simp
  exact po.out _ (fun j x _ hx => JW (by omega) j x hx) (GS.store (by omega) (.inr qX) Gs.out) (fun _ => trivial)) : G := h
theorem Vc (h : G := by
 have k_a18_0 := kk
 exact Ox) : G := h
theorem Vb (h : G := by
 have k_a16_1 := kk
 exact Va) : G := h
theorem Fy (h : G := by
 have k_a18_1 := kk
 exact Ox) : G := h
theorem Fx (h : G := by
 have bD := dm (f := 40) (j := 13) jB.out (by kernel_rfl) cG
 have aM := dm (f := 40) (j := 15) jB.out (by kernel_rfl) cG
 obtain ⟨dj, di⟩ := HS.out.pre bD
 first
 |clear k_a14_0
  go_simp
  refine (bU _ _ _ _ _ _ _).mono ?_
  rintro e' v2 ⟨rfl, hb⟩
  exact b6.out v2 (l8 (Wn.of_calm hb) bD aM) (HS.out.calm (by omega) cG (by decide) (by decide) rfl bD aM hb) _ (TV.node (P := fun _ => True) 16 0 ⟨#[]⟩ (cs15 hB10) ((Wn.of_calm hb).row HR.out)) (by decide)
 |clear k_a14_1
  go_simp
  refine (cK sb _ 2 v (by omega) (by omega) dj.src).mono ?_
  rintro e' v2 ⟨q2, iL, rfl, hs, hk⟩
  exact b6.out v2 (l8 (Wn.of_kp hk xB) bD aM) (HS.out.ask (by omega) (by omega) cG (by decide) (by decide) bD aM hs hk) _ ⟨q2, by omega, rfl⟩ (by decide)
 |clear k_a14_2
  have il := di.size
  go_simp
  exact b6.out _ (l8 (Wn.of_calm (bA)) bD aM) (HS.out.calm (by omega) cG (by decide) (by decide) rfl bD aM (bA)) _ ⟨bX 0 0 ⟨#[]⟩ T9, _, _, ⟨T9, hp9, rfl⟩, rfl, LV.one il HR.out⟩ (by decide)
 |clear k_a14_3
  have il : w6.heap.size ≤ v.heap.size := by have := di.size; omega
  clear Eo Ev
  go_simp
  exact b6.out _ (l8 (Wn.of_calm (bA)) bD aM) (HS.out.calm (by omega) cG (by decide) (by decide) rfl bD aM (bA)) _ ⟨bX 0 0 ⟨#[]⟩ T11, _, _, ⟨T11, Nj, rfl⟩, rfl, LV.one il HR.out⟩ (by decide)
 |clear k_a14_4
  have htu : qJ (fun i => if i = 7 then 3 else if i = 9 then 2 * K + 10 else 0) l 16 + (2 * K + 10) ≤ ar (fun i => if i = 7 then 3 else if i = 9 then 2 * K + 10 else 0) 16 := by have := sJ (asks := fun i => if i = 7 then 3 else if i = 9 then 2 * K + 10 else 0) (n := 16) (i := 9) (cC cG) (by omega); exact this
  have k_a7_1 := kk
  exact ba7) : G := h
theorem JC (h : G := by
 have bD := dm (f := 40) (j := 7) jB.out (by kernel_rfl) cG
 have aM := dm (f := 40) (j := 9) jB.out (by kernel_rfl) cG
 obtain ⟨dj, di⟩ := HS.out.pre bD
 first
 |clear k_a15_0
  go_simp
  refine (bU _ _ _ _ _ _ _).mono ?_
  rintro e' v2 ⟨rfl, hb⟩
  exact b6.out v2 (ph (Wn.of_calm hb) bD aM) (HS.out.calm (by omega) cG (by decide) (by decide) rfl bD aM hb) _ (TV.node (P := fun _ => True) 16 1 ⟨#[118]⟩ (cs13 vS.out PB.out Tc) ((Wn.of_calm hb).row HR.out)) (by decide)
 |clear k_a15_1
  obtain ⟨z0, z1, z2, z3, zf⟩ := ax (cm yw.out.obx tg di)
  exact Ve
 |clear k_a15_2
  obtain ⟨z0, z1, z2, z3, zf⟩ := ax (cm PM.out EC di)
  exact Ve
 |clear k_a15_3
  obtain ⟨z0, z1, z2, z3, zf⟩ := ax (cm Cw.out lp di)
  exact Ve) : G := h
theorem Va (h : G := by
 have k_a17_2 := kk
 exact Oy) : G := h
theorem Oy (h : G := by
 have bD := dm (f := 40) (j := 8) jB.out (by kernel_rfl) cG
 have aM := dm (f := 40) (j := 8) jB.out (by kernel_rfl) cG
 obtain ⟨dj, di⟩ := HS.out.pre bD
 first
 |clear k_a17_0
  obtain ⟨z0, z1, z2, z3, zf⟩ := ax (cm cP.out lp di)
  exact Ve
 |clear k_a17_1
  go_simp
  refine (aQ _ _ _ _ _ _).mono ?_
  rintro e' v2 ⟨rfl, hb⟩
  first
  |clear k_a8_0
   exact b6.out v2 (nE (Wn.of_calm hb) dI bD aM) (HS.out.calm (by omega) cG (by decide) (by decide) rfl bD aM hb) _ rfl (by decide)
  |clear k_a8_1
   exact b6.out v2 (nE (Wn.of_calm hb) dI bD aM) (HS.out.calm (by omega) cG (by decide) (by decide) rfl bD aM hb) _ (TV.node (P := fun _ => True) 20 0 ⟨#[]⟩ rfl ((Wn.of_calm hb).row HR.out)) (by decide)
 |clear k_a17_2
  have il := di.size
  first
  |clear k_a16_0
   obtain ⟨aj, cj, v2, vs, ei, fz, aX, eF⟩ := gH (II.weak (show wX.heap.size ≤ wE.heap.size by omega)) (fJ RB.out (by omega) (by omega) di) (by omega) lr Sa (by omega) (fun g hg => .inr (by simp [Value.ownBlock] at hg; omega)) (by omega)
   have pZ := qw II (fJ RB.out (by omega) (by omega) di) (by omega) ei
   refine jC rfl hx h73 (ei _) ?_
   refine b6.out v2 (nE (Wn.of_calm pZ) dI bD aM) (HS.out.calm (by omega) cG (by decide) (by decide) rfl bD aM pZ) _ ⟨_, _, _, _, aj, cj, rfl, fz, rfl, ?_, fun i hi => ?_⟩ (by decide)
   ·rcases eF with e | ⟨k, e, hk⟩
    ·rw [e]; simp [Value.ownBlock]; omega
    ·rw [e]; intro h; have := Option.some.inj h; omega
   ·by_cases h3 : i < 1
    ·rw [bw _ _ h3, bw _ _ h3]; left; omega
    ·rw [bW _ _ (by omega), bW _ _ (by omega)]; right; omega
  |clear k_a16_1
   go_simp
   first
   |clear k_a12_0
    exact b6.out _ (nE (Wn.of_calm (bA)) dI bD aM) (HS.out.calm (by omega) cG (by decide) (by decide) rfl bD aM (bA)) _ ⟨bX 0 0 ⟨#[]⟩ (aq 24 0 ⟨#[118]⟩), _, _, rfl, rfl, LV.one (A := aq 24 0 ⟨#[118]⟩) il (cO _ _ _ _ _ _)⟩ (by decide)
   |clear k_a12_1
    exact b6.out _ (nE (Wn.of_calm (bA)) dI bD aM) (HS.out.calm (by omega) cG (by decide) (by decide) rfl bD aM (bA)) _ (GV.new (A := gX) rfl il HR.out) (by decide)) : G := h
theorem Ox (h : G := by
 have bD := dm (f := 40) (j := 17) jB.out (by kernel_rfl) cG
 have aM := dm (f := 40) (j := 19) jB.out (by kernel_rfl) cG
 first
 |clear k_a18_0
  obtain ⟨dj, di⟩ := HS.out.pre bD
  have il := di.size
  go_simp
  first
  |clear k_a11_0
   refine (tN.out _ v (by omega) dj).mono ?_
   rintro e' v2 ⟨T2, u2, rfl, d2⟩
   obtain ⟨a2, c2, rfl⟩ := be d2.row
   exact b6.out v2 (mT (Wn.of_kp d2.kp xB) bD aM) (HS.out.ask (by omega) (by omega) cG (by decide) (by decide) bD aM d2.src d2.kp) _ ⟨T2, a2, c2, ⟨d2.fine, d2.ok, d2.cost⟩, rfl, aO d2.row il lr⟩ (by decide)
  |clear k_a11_1
   exact b6.out _ (mT (Wn.of_calm (bA)) bD aM) (HS.out.calm (by omega) cG (by decide) (by decide) rfl bD aM (bA)) _ ⟨jD 0 0 ⟨#[]⟩ (aq 24 0 ch) T5 T13, _, _, ⟨T5, T13, SV, Ni, rfl⟩, rfl, LV.three (A := aq 24 0 ch) il (cO _ _ _ _ _ _) Yc.out HR13.out⟩ (by decide)
 |clear k_a18_1
  obtain ⟨dj, di⟩ := HS.out.pre bD
  first
  |clear k_a13_0
   go_simp
   refine (bU _ _ _ _ _ _ _).mono ?_
   rintro e' v2 ⟨rfl, hb⟩
   exact b6.out v2 (mT (Wn.of_calm hb) bD aM) (HS.out.calm (by omega) cG (by decide) (by decide) rfl bD aM hb) _ (TV.node (P := fun _ => True) 16 2 ⟨#[]⟩ (cs9 vS.out hF14 hB14) ((Wn.of_calm hb).row HR.out)) (by decide)
  |clear k_a13_1
   go_simp
   refine (cK sb _ 2 v (by omega) (by omega) dj.src).mono ?_
   rintro e' v2 ⟨q2, iL, rfl, hs, hk⟩
   exact b6.out v2 (mT (Wn.of_kp hk xB) bD aM) (HS.out.ask (by omega) (by omega) cG (by decide) (by decide) bD aM hs hk) _ ⟨q2, by omega, rfl⟩ (by decide)
  |clear k_a13_2
   obtain ⟨z0, z1, z2, z3, zf⟩ := ax (cm Ke.out EC di)
   exact Ve
  |clear k_a13_3
   have htu : qJ (fun i => if i = 5 then 300 else if i = 11 then 3 else if i = 13 then 2 * K + 10 else 0) l 20 + (2 * K + 10) ≤ ar (fun i => if i = 5 then 300 else if i = 11 then 3 else if i = 13 then 2 * K + 10 else 0) 20 := by have := sJ (asks := fun i => if i = 5 then 300 else if i = 11 then 3 else if i = 13 then 2 * K + 10 else 0) (n := 20) (i := 13) (cC cG) (by omega); exact this
   have k_a7_0 := kk
   exact ba7
  |clear k_a13_4
   have il : w6.heap.size ≤ v.heap.size := by have := di.size; omega
   clear Si SN
   go_simp
   exact b6.out _ (mT (Wn.of_calm (bA)) bD aM) (HS.out.calm (by omega) cG (by decide) (by decide) rfl bD aM (bA)) _ ⟨bX 0 0 ⟨#[]⟩ T15, _, _, ⟨T15, hp15, rfl⟩, rfl, LV.one il HR.out⟩ (by decide)
 |clear k_a18_2
  exact ba0) : G := h
section
open Go Go.RowKit
def CsP (C : Nat) (T : Nd) : Prop := T.Fine ∧ T.cOk = true ∧ T.cost ≤ C
def Kj (C : Nat) (T : Nd) : Prop := T.Fine ∧ T.eOk = true ∧ T.cost ≤ C
theorem Uv {C : Nat} {B : Nd} (h : hQ C B) : CsP (C + 10) (bX 16 0 ⟨#[]⟩ B) := by
 refine ⟨bB (by omega) (by omega) (by decide) h.1, ?_, ?_⟩
 ·rw [mR]
  have k0 : (bX 16 0 ⟨#[]⟩ B).kk 0 = 4 := h.2.1.1
  simp [bX, Nd.kind, Nd.num, Nd.name, Nd.len, Nd.kids, iH, aK, cq, aG, ao, ByteArray.size, h.2.1.2] at k0 ⊢
  exact decide_eq_true k0
 ·rw [b9]
  have e : ByteArray.size ⟨#[]⟩ = 0 := by decide
  have := h.2.2
  omega
theorem Uu {C D : Nat} {A B : Nd} {s : ByteArray} (hs : aR s = true) (hz : s.size ≤ 40) (hA : Kj D A) (h : hQ C B) : CsP (C + D + 50) (dR 16 1 s A B) := by
 refine ⟨eY (by omega) (by omega) (by omega) hA.1 h.1, ?_, ?_⟩
 ·rw [mR]
  have k0 : (dR 16 1 s A B).kk 1 = 4 := h.2.1.1
  simp [dR, Nd.kind, Nd.num, Nd.name, Nd.len, Nd.kids, iH, aK, cq, aG, ao, ByteArray.size, h.2.1.2, hA.2.1, hs] at k0 ⊢
  exact decide_eq_true k0
 ·rw [eZ]
  have := h.2.2
  have := hA.2.2
  omega
theorem yg (k n : Int) (s : ByteArray) (A B C : Nd) : (jD k n s A B C).cost = s.size + (3 + (A.cost + B.cost + C.cost)) := by simp [jD, Nd.cost, ar]
theorem Ut {C D E : Nat} {A F B : Nd} (hA : Kj D A) (hF : Kj E F) (h : hQ C B) : CsP (C + D + E + 10) (jD 16 2 ⟨#[]⟩ A F B) := by
 refine ⟨⟨by omega, by omega, by decide, by omega, fun i _ => ?_⟩, ?_, ?_⟩
 ·show (if i = 0 then A else if i = 1 then F else B).Fine
  split
  ·exact hA.1
  ·split
   ·exact hF.1
   ·exact h.1
 ·rw [mR]
  have k0 : (jD 16 2 ⟨#[]⟩ A F B).kk 2 = 4 := h.2.1.1
  simp [jD, Nd.kind, Nd.num, Nd.name, Nd.len, Nd.kids, iH, aK, cq, aG, ao, ByteArray.size, h.2.1.2, hA.2.1, hF.2.1] at k0 ⊢
  exact decide_eq_true k0
 ·rw [yg]
  have e : ByteArray.size ⟨#[]⟩ = 0 := by decide
  have := h.2.2
  have := hA.2.2
  have := hF.2.2
  omega
theorem pG {m : Nat} {Ts : Nat → Nd} (h : ∀ i, i < m → (Ts i).cOk = true) : (Nd.mk 15 0 ⟨#[]⟩ m Ts).sOk = true := by
 rw [bK]
 show bd 15 0 ⟨#[]⟩ m (fun i => (Ts i).eOk) (fun i => (Ts i).sOk) (fun i => (Ts i).cOk) _ = true
 simp only [bd]
 rw [eo (p := fun i => (Ts i).cOk) h]
 simp [ao]
theorem oK {m C : Nat} {Ts : Nat → Nd} (h : ∀ i, i < m → (Ts i).cost ≤ C) : (Nd.mk 15 0 ⟨#[]⟩ m Ts).cost ≤ m * (C + 1) := by
 show (ByteArray.size ⟨#[]⟩) + (m + ar (fun i => (Ts i).cost) m) ≤ _
 have := wy (m := m) (f := fun i => (Ts i).cost) h
 have e : ByteArray.size ⟨#[]⟩ = 0 := by decide
 rw [e, Nat.mul_add]
 omega
structure SI (sb A C : Nat) (w : World) (ob j : Nat) (Ts : Nat → Nd) (us : Nat → Value) (s e : Nat → Nat) (ka : Option Addr) (kc : Nat) (W : World) : Prop where
 dw : DW sb A w W
 low : w.heap.size < ob
 obx : W.heap[ob]? = some (fS 15 0 ⟨#[]⟩ ka j kc)
 gw : Gw (ob + 1) Ts us s e j (.slice ka j kc) W
 ok : ∀ i, i < j → CsP C (Ts i)
theorem SI.kp {sb A A' C : Nat} {w : World} {ob j : Nat} {Ts : Nat → Nd} {us : Nat → Value} {s e : Nat → Nat} {ka : Option Addr} {kc : Nat} {W W' : World} (h : SI sb A C w ob j Ts us s e ka kc W) (hs : Src sb A' W') (hk : Kp sb W W') : SI sb A' C w ob j Ts us s e ka kc W' := by
 have hl := h.dw.low
 have h2 := h.low
 exact ⟨h.dw.step hs hk, h.low, cm h.obx (by omega) hk, h.gw.kp (sb := sb) (by omega) hk, h.ok⟩
theorem SI.calm {sb A C : Nat} {w : World} {ob j : Nat} {Ts : Nat → Nd} {us : Nat → Value} {s e : Nat → Nat} {ka : Option Addr} {kc : Nat} {W W' : World} (h : SI sb A C w ob j Ts us s e ka kc W) (hb : Below W.heap.size W W') : SI sb A C w ob j Ts us s e ka kc W' := h.kp (h.dw.src.calm hb) (bG hb _)
theorem SI.more {sb A A' C : Nat} {w : World} {ob j : Nat} {Ts : Nat → Nd} {us : Nat → Value} {s e : Nat → Nat} {ka : Option Addr} {kc : Nat} {W : World} (h : SI sb A C w ob j Ts us s e ka kc W) (hA : A ≤ A') : SI sb A' C w ob j Ts us s e ka kc W := ⟨⟨h.dw.src.mono hA, h.dw.kp, h.dw.low⟩, h.low, h.obx, h.gw, h.ok⟩
def SE (sb A C : Nat) (w : World) (ob j : Nat) (W : World) : Prop := ∃ (Ts : Nat → Nd) (us : Nat → Value) (s e : Nat → Nat) (ka : Option Addr) (kc : Nat), SI sb A C w ob j Ts us s e ka kc W
theorem SI.done {sb A C : Nat} {w : World} {ob j : Nat} {ka : Option Addr} {kc : Nat} {v : World} {x : Value} (hd : DW sb A w v) (mM : w.heap.size < ob) (hb : v.heap[ob]? = some (fS 15 0 ⟨#[]⟩ ka j kc)) (h : AV (ob + 1) ob (j + 1) (fun Ts => ∀ i, i < j + 1 → CsP C (Ts i)) v x) : ∃ a c, x = .slice a (j + 1) c ∧ SE sb A C w ob (j + 1) (v.setCell ⟨ob, 3, none⟩ (.slice a (j + 1) c)) := by
 obtain ⟨Ts, us, s, e, a, c, h1, h2, h3, h4, h5⟩ := h
 exact ⟨a, c, h1, Ts, us, s, e, a, c, hd.put ob 3 _ (by omega), mM, (heap_setCell_same v ob 3 _ 25 (.slice a (j + 1) c) hb).trans rfl, h2.put h4 h5, h3⟩
theorem SI.join {sb A C lo hi : Nat} {w : World} {ob j : Nat} {Ts : Nat → Nd} {us : Nat → Value} {s e : Nat → Nat} {ka : Option Addr} {kc : Nat} {v : World} {T : Nd} {ua : Option Addr} {uc : Nat} (h : Gw (ob + 1) Ts us s e j (.slice ka j kc) v) (aS : ∀ i, i < j → CsP C (Ts i)) (ht : Row lo hi v (bX 0 0 ⟨#[]⟩ T) (.slice ua 1 uc)) (hT : CsP C T) (hB : ob + 1 ≤ lo) (Bl : lo ≤ hi) (hh : hi ≤ v.heap.size) (bD : ∀ g, (Value.slice ka j kc).ownBlock = some g → g < lo) (hj : j ≤ 100) :
  ∃ x v', (∀ ty, (Builtin.append_ #[23, 23] ty #[.slice ka j kc, .slice ua 1 uc]).run Tryz.prog v = .ok x v') ∧ v.grownBy v' (Value.slice ka j kc).ownBlock ∧ AV (ob + 1) ob (j + 1) (fun Ts => ∀ i, i < j + 1 → CsP C (Ts i)) v' x := by
 obtain ⟨a, c, v', vs, h1, h2, h3, h4⟩ := gH (T := bX 0 0 ⟨#[]⟩ T) h ht (by omega) hB Bl hh (fun g hg => .inl (bD g hg)) (by show j + 1 ≤ _; omega)
 refine ⟨_, v', h1, h3, _, _, _, _, a, c, rfl, h2, fun i hi => ?_, fun e => ?_, fun i hi => .inl ?_⟩
 ·by_cases iY : i < j
  ·rw [bw _ _ iY]; exact aS i iY
  ·rw [bW _ _ (by omega)]; exact hT
 ·have := (h2.own.lt ob e).1; omega
 ·have := (h2.kid i hi).2.1; omega
end
section
open Go Go.RowKit
theorem CsP.mono {C D : Nat} {T : Nd} (h : CsP C T) (hd : C ≤ D) : CsP D T := ⟨h.1, h.2.1, Nat.le_trans h.2.2 hd⟩
theorem Wn.mono {lo Cc : Nat} {w w' : World} (h : Wn lo w w') (hl : lo ≤ Cc) : Wn Cc w w' := ⟨h.size, fun k h1 h2 => h.block k (by omega) h2⟩
theorem AV.stable {B j b : Nat} {P : (Nat → Nd) → Prop} {w w' : World} {x : Value} (h : Wn B w w') (hx : AV B b j P w x) : AV B b j P w' x := by
 obtain ⟨Ts, us, s, e, a, c, h1, h2, h3⟩ := hx
 exact ⟨Ts, us, s, e, a, c, h1, h2.keep h.size fun k k1 k2 _ => h.block k k2 k1, h3⟩
def gX : Nd := bX 20 0 ⟨#[]⟩ (aq 24 0 ⟨#[118]⟩)
def F12 (sb A r0 b : Nat) (T : Nd) (w W : World) (v : World) : Prop := DW sb A w v ∧ (∀ k, k < W.heap.size → k ≠ sb → k ≠ b → v.heap[k]? = W.heap[k]?) ∧ W.heap.size ≤ v.heap.size ∧ ∃ (us : Nat → Value) (s e : Nat → Nat) (a : Option Addr) (c : Nat), v.heap[b]? = some (fS T.kind T.num T.name a (1 + T.len) c) ∧ Gw r0 (cJ (fun _ => gX) 1 T.kids) us s e (1 + T.len) (.slice a (1 + T.len) c) v
def FE (sb ob lo C D n j : Nat) (ka va : Option Addr) (kc vc : Nat) (ch : ByteArray) (deep : Int) (loops : Bool) (i : Nat) (w : World) (x : Value) : Prop := match i with
 |0 => x = .pointer (some ⟨ob, 3, none⟩)
 |1 => x = .slice ka j kc
 |2 => x = .agg #[.int .i64 24, .int .i64 0, .string ch, .slice none 0 0]
 |3 => x = .pointer (some ⟨sb, 0, none⟩)
 |4 => x = .slice va n vc
 |5 => TV lo (Kj 300) w x
 |6 => x = .pointer (some ⟨sb, 0, none⟩)
 |7 => x = .slice va n vc
 |8 => x = .int .i64 deep
 |9 => x = .int .i64 (deep - 1)
 |10 => x = .pointer (some ⟨sb, 0, none⟩)
 |11 => ∃ q : Nat, q < 2 ∧ x = .int .i64 (q : Int)
 |12 => x = .bool loops
 |13 => TV lo (hQ C) w x
 |14 => LV lo (fun T => ∃ F B, Kj 300 F ∧ hQ C B ∧ T = jD 0 0 ⟨#[]⟩ (aq 24 0 ch) F B) w x
 |15 => TV lo (CsP D) w x
 |16 => LV lo (fun T => ∃ A, CsP D A ∧ T = bX 0 0 ⟨#[]⟩ A) w x
 |17 => AV (ob + 1) ob (j + 1) (fun Ts => ∀ i, i < j + 1 → CsP D (Ts i)) w x
 |18 => x = .pointer (some ⟨ob, 3, none⟩)
 |_ => True
theorem mT {sb ob lo C D n j : Nat} {ka va : Option Addr} {kc vc : Nat} {ch : ByteArray} {deep : Int} {loops : Bool} {l : Array Bool} {v v' : World} (h : Wn lo v v') (bD : l.getD 17 false = false) (aM : l.getD 19 false = false) : ∀ jj x, l.getD jj false = true → FE sb ob lo C D n j ka va kc vc ch deep loops jj v x → FE sb ob lo C D n j ka va kc vc ch deep loops jj v' x := by
 intro jj x hl hx
 match jj, hx with
 |0, hx => exact hx
 |1, hx => exact hx
 |2, hx => exact hx
 |3, hx => exact hx
 |4, hx => exact hx
 |5, hx => exact TV.stable h hx
 |6, hx => exact hx
 |7, hx => exact hx
 |8, hx => exact hx
 |9, hx => exact hx
 |10, hx => exact hx
 |11, hx => exact hx
 |12, hx => exact hx
 |13, hx => exact TV.stable h hx
 |14, hx => exact LV.stable h hx
 |15, hx => exact TV.stable h hx
 |16, hx => exact LV.stable h hx
 |17, _ => rw [bD] at hl; cases hl
 |18, hx => exact hx
 |19, _ => rw [aM] at hl; cases hl
 |(k + 20), _ => exact trivial
theorem Pc {sb ob lo C D n j : Nat} {ka va : Option Addr} {kc vc : Nat} {ch : ByteArray} {deep : Int} {loops : Bool} {o : Nat} {y : Value} {v : World} (hb : ob < lo) : ∀ jj x, FE sb ob lo C D n j ka va kc vc ch deep loops jj v x → FE sb ob lo C D n j ka va kc vc ch deep loops jj (v.setCell ⟨ob, o, none⟩ y) x := by
 intro jj x hx
 match jj, hx with
 |0, hx => exact hx
 |1, hx => exact hx
 |2, hx => exact hx
 |3, hx => exact hx
 |4, hx => exact hx
 |5, hx => exact TV.stable (Wn.of_set hb) hx
 |6, hx => exact hx
 |7, hx => exact hx
 |8, hx => exact hx
 |9, hx => exact hx
 |10, hx => exact hx
 |11, hx => exact hx
 |12, hx => exact hx
 |13, hx => exact TV.stable (Wn.of_set hb) hx
 |14, hx => exact LV.stable (Wn.of_set hb) hx
 |15, hx => exact TV.stable (Wn.of_set hb) hx
 |16, hx => exact LV.stable (Wn.of_set hb) hx
 |17, hx => exact AV.put hx
 |18, hx => exact hx
 |19, hx => exact hx
 |(k + 20), _ => exact trivial
def sF (i : Nat) : Nat := [35, 36, 37, 38, 39, 40, 41, 42, 43, 44, 45, 46, 47, 48, 49, 50, 51, 52, 53, 1019].getD i 2000
theorem Km (i j : Nat) (hi : i < 20) (hj : j < 20) (h : sF i = sF j) : i = j := by
 have : ((List.range 20).all fun i => (List.range 20).all fun j => sF i != sF j || i == j) = true := by decide
 exact ba2
def qA (b lo r0 : Nat) (aB : Option Addr) (T : Nd) (cB : Nat) (i : Nat) (w : World) (x : Value) : Prop := match i with
 |0 => x = .agg #[.int .i64 24, .int .i64 0, .string ⟨#[118]⟩, .slice none 0 0]
 |1 => LV lo (fun T => T = bX 0 0 ⟨#[]⟩ (aq 24 0 ⟨#[118]⟩)) w x
 |2 => TV lo (fun T => T = gX) w x
 |3 => GV lo (fun A => A = gX) w x
 |4 => x = .pointer (some ⟨b, 3, none⟩)
 |5 => x = .slice aB T.len cB
 |6 => AV r0 b (1 + T.len) (fun Ts => Ts = cJ (fun _ => gX) 1 T.kids) w x
 |7 => x = .pointer (some ⟨b, 3, none⟩)
 |_ => True
theorem nE {b lo r0 : Nat} {aB : Option Addr} {T : Nd} {cB : Nat} {l : Array Bool} {v v' : World} (h0 : Wn r0 v v') (fy : r0 ≤ lo) (bD : l.getD 8 false = false) (aM : l.getD 8 false = false) : ∀ jj x, l.getD jj false = true → qA b lo r0 aB T cB jj v x → qA b lo r0 aB T cB jj v' x := by
 have h := h0.mono fy
 intro jj x hl hx
 match jj, hx with
 |0, hx => exact hx
 |1, hx => exact LV.stable h hx
 |2, hx => exact TV.stable h hx
 |3, hx => exact GV.stable h hx
 |4, hx => exact hx
 |5, hx => exact hx
 |6, hx => exact AV.stable h0 hx
 |7, hx => exact hx
 |8, _ => rw [aM] at hl; cases hl
 |(k + 9), _ => exact trivial
theorem JY {b lo r0 : Nat} {aB : Option Addr} {T : Nd} {cB : Nat} {o : Nat} {y : Value} {v : World} (hb : b < lo) : ∀ jj x, qA b lo r0 aB T cB jj v x → qA b lo r0 aB T cB jj (v.setCell ⟨b, o, none⟩ y) x := by
 intro jj x hx
 match jj, hx with
 |0, hx => exact hx
 |1, hx => exact LV.stable (Wn.of_set hb) hx
 |2, hx => exact TV.stable (Wn.of_set hb) hx
 |3, hx => exact GV.stable (Wn.of_set hb) hx
 |4, hx => exact hx
 |5, hx => exact hx
 |6, hx => exact AV.put hx
 |7, hx => exact hx
 |8, hx => exact hx
 |(k + 9), _ => exact trivial
def rr (i : Nat) : Nat := [68, 69, 70, 71, 72, 73, 74, 75, 1008].getD i 2000
theorem F9 (i j : Nat) (hi : i < 9) (hj : j < 9) (h : rr i = rr j) : i = j := by
 have : ((List.range 9).all fun i => (List.range 9).all fun j => rr i != rr j || i == j) = true := by decide
 exact ba2
def qz (ob lo D j : Nat) (ka la : Option Addr) (kc lc : Nat) (ch : ByteArray) (L : Nd) (i : Nat) (w : World) (x : Value) : Prop := match i with
 |0 => x = .pointer (some ⟨ob, 3, none⟩)
 |1 => x = .slice ka j kc
 |2 => x = .agg #[.int .i64 24, .int .i64 0, .string ch, .slice none 0 0]
 |3 => x = L.val (.slice la L.len lc)
 |4 => LV lo (fun T => T = dR 0 0 ⟨#[]⟩ (aq 24 0 ch) L) w x
 |5 => TV lo (CsP D) w x
 |6 => LV lo (fun T => ∃ A, CsP D A ∧ T = bX 0 0 ⟨#[]⟩ A) w x
 |7 => AV (ob + 1) ob (j + 1) (fun Ts => ∀ i, i < j + 1 → CsP D (Ts i)) w x
 |8 => x = .pointer (some ⟨ob, 3, none⟩)
 |_ => True
theorem ph {ob lo D j : Nat} {ka la : Option Addr} {kc lc : Nat} {ch : ByteArray} {L : Nd} {l : Array Bool} {v v' : World} (h : Wn lo v v') (bD : l.getD 7 false = false) (aM : l.getD 9 false = false) : ∀ jj x, l.getD jj false = true → qz ob lo D j ka la kc lc ch L jj v x → qz ob lo D j ka la kc lc ch L jj v' x := by
 intro jj x hl hx
 match jj, hx with
 |0, hx => exact hx
 |1, hx => exact hx
 |2, hx => exact hx
 |3, hx => exact hx
 |4, hx => exact LV.stable h hx
 |5, hx => exact TV.stable h hx
 |6, hx => exact LV.stable h hx
 |7, _ => rw [bD] at hl; cases hl
 |8, hx => exact hx
 |9, _ => rw [aM] at hl; cases hl
 |(k + 10), _ => exact trivial
theorem JX {ob lo D j : Nat} {ka la : Option Addr} {kc lc : Nat} {ch : ByteArray} {L : Nd} {o : Nat} {y : Value} {v : World} (hb : ob < lo) : ∀ jj x, qz ob lo D j ka la kc lc ch L jj v x → qz ob lo D j ka la kc lc ch L jj (v.setCell ⟨ob, o, none⟩ y) x := by
 intro jj x hx
 match jj, hx with
 |0, hx => exact hx
 |1, hx => exact hx
 |2, hx => exact hx
 |3, hx => exact hx
 |4, hx => exact LV.stable (Wn.of_set hb) hx
 |5, hx => exact TV.stable (Wn.of_set hb) hx
 |6, hx => exact LV.stable (Wn.of_set hb) hx
 |7, hx => exact AV.put hx
 |8, hx => exact hx
 |9, hx => exact hx
 |(k + 10), _ => exact trivial
def nK (i : Nat) : Nat := [76, 77, 78, 79, 80, 81, 82, 83, 84, 1009].getD i 2000
theorem F8 (i j : Nat) (hi : i < 10) (hj : j < 10) (h : nK i = nK j) : i = j := by
 have : ((List.range 10).all fun i => (List.range 10).all fun j => nK i != nK j || i == j) = true := by decide
 exact ba2
def qy (sb ob lo C D n j : Nat) (ka va : Option Addr) (kc vc : Nat) (deep : Int) (loops : Bool) (i : Nat) (w : World) (x : Value) : Prop := match i with
 |0 => x = .pointer (some ⟨ob, 3, none⟩)
 |1 => x = .slice ka j kc
 |2 => x = .pointer (some ⟨sb, 0, none⟩)
 |3 => x = .slice va n vc
 |4 => x = .int .i64 deep
 |5 => x = .int .i64 (deep - 1)
 |6 => x = .pointer (some ⟨sb, 0, none⟩)
 |7 => ∃ q : Nat, q < 2 ∧ x = .int .i64 (q : Int)
 |8 => x = .bool loops
 |9 => TV lo (hQ C) w x
 |10 => LV lo (fun T => ∃ B, hQ C B ∧ T = bX 0 0 ⟨#[]⟩ B) w x
 |11 => TV lo (CsP D) w x
 |12 => LV lo (fun T => ∃ A, CsP D A ∧ T = bX 0 0 ⟨#[]⟩ A) w x
 |13 => AV (ob + 1) ob (j + 1) (fun Ts => ∀ i, i < j + 1 → CsP D (Ts i)) w x
 |14 => x = .pointer (some ⟨ob, 3, none⟩)
 |_ => True
theorem l8 {sb ob lo C D n j : Nat} {ka va : Option Addr} {kc vc : Nat} {deep : Int} {loops : Bool} {l : Array Bool} {v v' : World} (h : Wn lo v v') (bD : l.getD 13 false = false) (aM : l.getD 15 false = false) : ∀ jj x, l.getD jj false = true → qy sb ob lo C D n j ka va kc vc deep loops jj v x → qy sb ob lo C D n j ka va kc vc deep loops jj v' x := by
 intro jj x hl hx
 match jj, hx with
 |0, hx => exact hx
 |1, hx => exact hx
 |2, hx => exact hx
 |3, hx => exact hx
 |4, hx => exact hx
 |5, hx => exact hx
 |6, hx => exact hx
 |7, hx => exact hx
 |8, hx => exact hx
 |9, hx => exact TV.stable h hx
 |10, hx => exact LV.stable h hx
 |11, hx => exact TV.stable h hx
 |12, hx => exact LV.stable h hx
 |13, _ => rw [bD] at hl; cases hl
 |14, hx => exact hx
 |15, _ => rw [aM] at hl; cases hl
 |(k + 16), _ => exact trivial
theorem JW {sb ob lo C D n j : Nat} {ka va : Option Addr} {kc vc : Nat} {deep : Int} {loops : Bool} {o : Nat} {y : Value} {v : World} (hb : ob < lo) : ∀ jj x, qy sb ob lo C D n j ka va kc vc deep loops jj v x → qy sb ob lo C D n j ka va kc vc deep loops jj (v.setCell ⟨ob, o, none⟩ y) x := by
 intro jj x hx
 match jj, hx with
 |0, hx => exact hx
 |1, hx => exact hx
 |2, hx => exact hx
 |3, hx => exact hx
 |4, hx => exact hx
 |5, hx => exact hx
 |6, hx => exact hx
 |7, hx => exact hx
 |8, hx => exact hx
 |9, hx => exact TV.stable (Wn.of_set hb) hx
 |10, hx => exact LV.stable (Wn.of_set hb) hx
 |11, hx => exact TV.stable (Wn.of_set hb) hx
 |12, hx => exact LV.stable (Wn.of_set hb) hx
 |13, hx => exact AV.put hx
 |14, hx => exact hx
 |15, hx => exact hx
 |(k + 16), _ => exact trivial
def kO (i : Nat) : Nat := [87, 88, 89, 90, 91, 92, 93, 94, 95, 96, 97, 98, 99, 100, 101, 1015].getD i 2000
theorem F7 (i j : Nat) (hi : i < 16) (hj : j < 16) (h : kO i = kO j) : i = j := by
 have : ((List.range 16).all fun i => (List.range 16).all fun j => kO i != kO j || i == j) = true := by decide
 exact ba2
theorem Below.of_grown {lo : Nat} {W V V' : World} {row : Option Nat} (h : Below lo W V) (hg : V.grownBy V' row) (hl : lo ≤ V.heap.size) (hr : ∀ k, row = some k → lo ≤ k) : Below lo W V' := ⟨hg.os.trans h.os, hg.tape.trans h.tape, hg.output.trans h.output, Nat.le_trans h.size hg.size, fun k hk => (hg.block k (by omega) (fun e => by have := hr k e.symm; omega)).trans (h.block k hk)⟩
theorem DW.kp2 {sb A A' : Nat} {w W V : World} (h : DW sb A w W) (h' : DW sb A' w V) (hz : W.heap.size ≤ V.heap.size) (hb : ∀ k, k < W.heap.size → k ≠ sb → V.heap[k]? = W.heap[k]?) : Kp sb W V := ⟨h'.kp.os.trans h.kp.os.symm, h'.kp.tape.trans h.kp.tape.symm, h'.kp.output.trans h.kp.output.symm, hz, hb⟩
theorem zy {ch : ByteArray} (h : aR ch = true) : Kj 41 (aq 24 0 ch) := by
 have := fD h
 exact ⟨aJ (by omega) (by omega) (by omega), gG h, by rw [bm]; omega⟩
theorem cs9 {C : Nat} {ch : ByteArray} {F B : Nd} (h : aR ch = true) (hF : Kj 300 F) (hB : hQ C B) : CsP (C + 400) (jD 16 2 ⟨#[]⟩ (aq 24 0 ch) F B) := (Ut (zy h) hF hB).mono (by omega)
theorem Md : gX.sOk = true := lP (by omega) (gG (by decide))
theorem Fm {C : Nat} {T : Nd} (h : hQ C T) (hl : T.len ≤ 2) : hQ (C + 50) (ct gX T) := by
 refine ⟨sy (bB (by omega) (by omega) (by decide) (aJ (by omega) (by omega) (by decide))) h.1 (by omega), ⟨h.2.1.1, zG Md h.2.1.1 h.2.1.2⟩, ?_⟩
 rw [oi]
 have : gX.cost ≤ 40 := by decide
 have := h.2.2
 omega
theorem cs13 {C : Nat} {ch : ByteArray} {T : Nd} (h : aR ch = true) (hB : hQ C T) (hl : T.len ≤ 2) : CsP (C + 400) (dR 16 1 ⟨#[118]⟩ (aq 24 0 ch) (ct gX T)) := (Uu (by decide) (by decide) (zy h) (Fm hB hl)).mono (by omega)
theorem cs15 {C : Nat} {B : Nd} (hB : hQ C B) : CsP (C + 400) (bX 16 0 ⟨#[]⟩ B) := (Uv hB).mono (by omega)
end
section
open Go Go.RowKit
theorem DW.put4 {sb A : Nat} {w W : World} (h : DW sb A w W) (k n : Int) (s : ByteArray) (u : Value) : Src sb A (fe W w.heap.size k n s u) ∧ Kp sb w (fe W w.heap.size k n s u) := by
 have hl := h.low
 have hz := h.size
 have hs := fb W w.heap.size k n s u
 have hb := fun i (e : i ≠ w.heap.size) => eh W w.heap.size k n s u i e
 refine ⟨?_, ?_⟩
 ·obtain ⟨ca, cn, cc, a, s, h1, ha⟩ := h.src
  refine ⟨ca, cn, cc, a, s, ⟨(hb sb (by omega)).trans h1.blk, h1.low, h1.few, ?_⟩, ha⟩
  rcases h1.row with e | ⟨g, off, e, hg, hh⟩
  ·exact .inl e
  ·refine .inr ⟨g, off, e, hg, fun i hi => ?_⟩
   obtain ⟨b, hb1, ba⟩ := hh i hi
   exact ⟨b, hb1, (World.cell?_of_block (a := ⟨g, off + i, none⟩) (hb g (by omega))).trans ba⟩
 ·have jL := h.kp
  have eV := bO w dL
  refine ⟨(show (fe W w.heap.size k n s u).os = W.os from rfl).trans (jL.os.trans eV.os), (show (fe W w.heap.size k n s u).tape = W.tape from rfl).trans (jL.tape.trans eV.tape), (show (fe W w.heap.size k n s u).output = W.output from rfl).trans (jL.output.trans eV.output), by omega, fun i nZ hn => ?_⟩
  rw [hb i (by omega), jL.block i (by simp; omega) hn]
  exact (bO w dL).block i nZ
theorem Jp {T : Nd} {i : Nat} (hk : T.kind = 4) (hT : T.sOk = true) (hi : i < T.len) : (T.kids i).sOk = true := by
 rw [bK, hk] at hT
 simp only [bd, if_true, Bool.and_eq_true] at hT
 exact dy.1 hT.2 i hi
theorem yN (Ts : Nat → Nd) (T : Nd) : ∀ {j k : Nat}, j ≤ k → ar (fun i => (j4 Ts k T i).cost) j = ar (fun i => (Ts i).cost) j
 |0, _, _ => rfl
 |j + 1, k, h => by
  simp only [ar]
  rw [yN Ts T (show j ≤ k by omega), cW _ _ (show j ≠ k by omega)]
structure AI (sb A lo hi bs : Nat) (W1 : World) (TB : Nd) (aB : Option Addr) (cB lB hB i j : Nat) (Ts : Nat → Nd) (us : Nat → Value) (s e : Nat → Nat) (ka : Option Addr) (kc : Nat) (W : World) : Prop where
 dw : DW sb A W1 W
 bsb : W.heap[bs]? = some (fS TB.kind TB.num TB.name aB TB.len cB)
 row : Row lB hB W TB (.slice aB TB.len cB)
 gw : Gw lo Ts us s e j (.slice ka j kc) W
 ap : ∀ g, (Value.slice ka j kc).ownBlock = some g → bs < g
 int : lo ≤ lB ∧ lB ≤ hB ∧ hB ≤ bs ∧ W1.heap.size < lB
 ok : ∀ i, i < j → (Ts i).Fine ∧ (Ts i).sOk = true
 out : ∀ i, i < j → (s i = lo ∧ e i = hi) ∨ W1.heap.size < s i
 top : hi ≤ W1.heap.size
 few : j ≤ i + 1
 sum : ar (fun k => (Ts k).cost) j ≤ 100 + ar (fun k => (TB.kids k).cost) i
theorem AI.lt {sb A lo hi bs : Nat} {W1 : World} {TB : Nd} {aB : Option Addr} {cB lB hB i j : Nat} {Ts : Nat → Nd} {us : Nat → Value} {s e : Nat → Nat} {ka : Option Addr} {kc : Nat} {W : World} (h : AI sb A lo hi bs W1 TB aB cB lB hB i j Ts us s e ka kc W) : bs < W.heap.size := (Array.getElem?_eq_some_iff.1 h.bsb).1
theorem AI.calm {sb A lo hi bs : Nat} {W1 : World} {TB : Nd} {aB : Option Addr} {cB lB hB i j : Nat} {Ts : Nat → Nd} {us : Nat → Value} {s e : Nat → Nat} {ka : Option Addr} {kc : Nat} {W W' : World} (h : AI sb A lo hi bs W1 TB aB cB lB hB i j Ts us s e ka kc W) (hb : Below W.heap.size W W') : AI sb A lo hi bs W1 TB aB cB lB hB i j Ts us s e ka kc W' := by
 have hl := h.lt
 have hi := h.int
 exact ⟨h.dw.calm hb, bE h.bsb hb, ah hb (by omega) h.row, h.gw.calm hb, h.ap, h.int, h.ok, h.out, h.top, h.few, h.sum⟩
theorem AI.skip {sb A lo hi bs : Nat} {W1 : World} {TB : Nd} {aB : Option Addr} {cB lB hB i j : Nat} {Ts : Nat → Nd} {us : Nat → Value} {s e : Nat → Nat} {ka : Option Addr} {kc : Nat} {W : World} (h : AI sb A lo hi bs W1 TB aB cB lB hB i j Ts us s e ka kc W) : AI sb A lo hi bs W1 TB aB cB lB hB (i + 1) j Ts us s e ka kc W :=
 ⟨h.dw, h.bsb, h.row, h.gw, h.ap, h.int, h.ok, h.out, h.top, by have := h.few; omega, by have := h.sum; simp only [ar]; omega⟩
theorem AI.step {sb A lo hi bs : Nat} {W1 : World} {TB : Nd} {aB : Option Addr} {cB lB hB i j : Nat} {Ts : Nat → Nd} {us : Nat → Value} {s e : Nat → Nat} {ka nX : Option Addr} {kc nW : Nat} {W W' : World} {u : Value} (h : AI sb A lo hi bs W1 TB aB cB lB hB i j Ts us s e ka kc W) (hu : Row lB hB W (TB.kids i) u) (hf : (TB.kids i).Fine) (ho : (TB.kids i).sOk = true)
  (cY : W'.ownsRow lo 25 4 (.slice nX (j + 1) nW) (j + 1) (cR Ts us j ++ [.int .i64 (TB.kids i).kind, .int .i64 (TB.kids i).num, .string (TB.kids i).name, u])) (aX : W.grownBy W' (Value.slice ka j kc).ownBlock) (eF : (Value.slice nX (j + 1) nW).ownBlock = (Value.slice ka j kc).ownBlock ∨ ∃ k, (Value.slice nX (j + 1) nW).ownBlock = some k ∧ W.heap.size ≤ k) :
  AI sb A lo hi bs W1 TB aB cB lB hB (i + 1) (j + 1) (j4 Ts j (TB.kids i)) (j4 us j u) (j4 s j lB) (j4 e j hB) nX nW W' := by
 have hl := h.lt
 have hint := h.int
 have hz := aX.size
 have he : ∀ k, k < W.heap.size → k ≤ bs → W'.heap[k]? = W.heap[k]? := fun k hk hn => aX.block k hk (fun er => by have := h.ap k er.symm; omega)
 refine ⟨h.dw.grown aX (fun k hk => by have := h.ap k hk; omega), (he bs hl lr).trans h.bsb, dc lr lr (fun g o h1 h2 => World.cell?_of_block (a := ⟨g, o, none⟩) (he g (by omega) (by omega))) h.row, h.gw.step hu hint.1 hint.2.1 (by omega) (fun g hg => .inr (by have := h.ap g hg; omega)) cY aX eF, fun g hg => ?_, h.int, fun k hk => ?_, fun k hk => ?_, h.top, by have := h.few; omega, ?_⟩
 ·rcases eF with e1 | ⟨k, e1, hk⟩
  ·exact h.ap g (e1 ▸ hg)
  ·rw [e1] at hg; obtain rfl := Option.some.inj hg; omega
 ·by_cases e1 : k = j
  ·subst e1; rw [cD]; exact ⟨hf, ho⟩
  ·rw [cW _ _ e1]; exact h.ok k (by omega)
 ·by_cases e1 : k = j
  ·subst e1; rw [cD, cD]; right; omega
  ·rw [cW _ _ e1, cW _ _ e1]; exact h.out k (by omega)
 ·have := h.sum
  simp only [ar]
  rw [yN Ts _ (Nat.le_refl j), cD]
  omega
theorem AI.first {sb A lo hi bs : Nat} {W1 : World} {TB T : Nd} {aB : Option Addr} {cB lB hB g0 : Nat} {nX : Option Addr} {nW : Nat} {W W' : World} {u : Value} (dw : DW sb A W1 W) (bsb : W.heap[bs]? = some (fS TB.kind TB.num TB.name aB TB.len cB)) (row : Row lB hB W TB (.slice aB TB.len cB)) (int : lo ≤ lB ∧ lB ≤ hB ∧ hB ≤ bs ∧ W1.heap.size < lB) (fy : lo ≤ hi) (dF : hi ≤ W1.heap.size) (hg : bs < g0)
  (hr : Row lo hi W T u) (hT : T.Fine ∧ T.sOk = true ∧ T.cost ≤ 100) (ho : W.ownsRow lo 25 4 (.slice (some ⟨g0, 0, none⟩) 0 0) 0 [])
  (cY : W'.ownsRow lo 25 4 (.slice nX 1 nW) 1 [.int .i64 T.kind, .int .i64 T.num, .string T.name, u]) (aX : W.grownBy W' (Value.slice (some ⟨g0, 0, none⟩) 0 0).ownBlock) (eF : (Value.slice nX 1 nW).ownBlock = (Value.slice (some ⟨g0, 0, none⟩) 0 0).ownBlock ∨ ∃ k, (Value.slice nX 1 nW).ownBlock = some k ∧ W.heap.size ≤ k) :
  AI sb A lo hi bs W1 TB aB cB lB hB 0 1 (j4 (fun _ => .nil) 0 T) (j4 (fun _ => undef) 0 u) (j4 (fun _ => 0) 0 lo) (j4 (fun _ => 0) 0 hi) nX nW W' := by
 have hl : bs < W.heap.size := (Array.getElem?_eq_some_iff.1 bsb).1
 have hz := aX.size
 have Ez : ∀ k, (Value.slice (some ⟨g0, 0, none⟩) 0 0).ownBlock = some k → k = g0 := fun k hk => by simp [Value.ownBlock] at hk; exact hk.symm
 have he : ∀ k, k < W.heap.size → k ≤ bs → W'.heap[k]? = W.heap[k]? := fun k hk hn => aX.block k hk (fun er => by have := Ez k er.symm; omega)
 have fz := (Gw.start (fun _ => Nd.nil) (fun _ => undef) (fun _ => 0) (fun _ => 0) ho).step hr lr fy (by omega) (fun g hg => .inr (by have := Ez g hg; omega)) cY aX eF
 refine ⟨dw.grown aX (fun k hk => by have := Ez k hk; omega), (he bs hl lr).trans bsb, dc lr lr (fun g o h1 h2 => World.cell?_of_block (a := ⟨g, o, none⟩) (he g (by omega) (by omega))) row, fz, fun g Bn => ?_, int, fun k hk => ?_, fun k hk => ?_, dF, by omega, ?_⟩
 ·rcases eF with e1 | ⟨k, e1, hk⟩
  ·have := Ez g (e1 ▸ Bn); omega
  ·rw [e1] at Bn; obtain rfl := Option.some.inj Bn; omega
 ·obtain rfl : k = 0 := by omega
  rw [cD]; exact ⟨hT.1, hT.2.1⟩
 ·obtain rfl : k = 0 := by omega
  rw [cD, cD]; left; exact ⟨rfl, rfl⟩
 ·simp only [ar]
  rw [cD]
  have := hT.2.2
  omega
theorem AI.fin {sb A lo hi bs C : Nat} {W1 : World} {TB : Nd} {aB : Option Addr} {cB lB hB j : Nat} {Ts : Nat → Nd} {us : Nat → Value} {s e : Nat → Nat} {ka : Option Addr} {kc : Nat} {W : World} (h : AI sb A lo hi bs W1 TB aB cB lB hB TB.len j Ts us s e ka kc W) (hc : TB.cost ≤ C) (hl : TB.len ≤ 7) :
    Gw lo Ts us s e j (.slice ka j kc) (fe W W1.heap.size 4 0 ⟨#[]⟩ (.slice ka j kc)) ∧ (∀ g, (Value.slice ka j kc).ownBlock = some g → W1.heap.size < g) ∧ (∀ i, i < j → (s i = lo ∧ e i = hi) ∨ W1.heap.size < s i) ∧ hQ (C + 200) (.mk 4 0 ⟨#[]⟩ j Ts) := by
  have dK := h.few
  have hint := h.int
  have M0 := h.top
  refine ⟨h.gw.keep (w' := fe W W1.heap.size 4 0 ⟨#[]⟩ (.slice ka j kc)) (by rw [fb]; exact Nat.le_refl _) (fun k _ _ hh => eh W _ _ _ _ _ k (by
    rcases hh with hh | ⟨i, hi, h1, h2⟩
    · have := h.ap k hh; omega
    · have := h.out i hi; omega)), fun g hg => by have := h.ap g hg; omega, h.out, ⟨by omega, by omega, by decide, by omega, fun i hi => (h.ok i hi).1⟩, ⟨rfl, rG fun i hi => (h.ok i hi).2⟩, ?_⟩
  show ByteArray.size ⟨#[]⟩ + (j + ar (fun i => (Ts i).cost) j) ≤ _
  have e0 : ByteArray.size ⟨#[]⟩ = 0 := by decide
  have h1 := TB.cost_eq
  have h2 := h.sum
  omega
def KD (sb lo hi : Nat) (A : Nd) (a : Option Addr) (w : World) : Prop := ∃ g off b d, a = some ⟨g, off, none⟩ ∧ (g ≠ sb ∧ g < w.heap.size) ∧ (w.cell? ⟨g, off, none⟩ = some (.int .i64 A.kind) ∧ w.cell? ⟨g, off + 1, none⟩ = some (.int .i64 A.num) ∧ w.cell? ⟨g, off + 2, none⟩ = some (.string A.name) ∧ w.cell? ⟨g, off + 3, none⟩ = some (.slice b A.len d)) ∧ Row lo hi w A (.slice b A.len d)
theorem KD.kp {sb lo hi : Nat} {A : Nd} {a : Option Addr} {w w' : World} (h : KD sb lo hi A a w) (fy : sb < lo) (dF : hi ≤ w.heap.size) (hk : Kp sb w w') : KD sb lo hi A a w' := by
 obtain ⟨g, off, b, d, rfl, ⟨h1, h2⟩, ⟨c0, c1, c2, c3⟩, hr⟩ := h
 have e : ∀ o, w'.cell? ⟨g, o, none⟩ = w.cell? ⟨g, o, none⟩ := fun o => World.cell?_of_block (a := ⟨g, o, none⟩) (hk.block g h2 h1)
 exact ⟨g, off, b, d, rfl, ⟨h1, Nat.lt_of_lt_of_le h2 hk.size⟩, ⟨(e _).trans c0, (e _).trans c1, (e _).trans c2, (e _).trans c3⟩, fJ hr fy dF hk⟩
theorem KD.calm {sb lo hi : Nat} {A : Nd} {a : Option Addr} {w w' : World} (h : KD sb lo hi A a w) (fy : sb < lo) (dF : hi ≤ w.heap.size) (hb : Below w.heap.size w w') : KD sb lo hi A a w' := h.kp fy dF (bG hb _)
end
theorem rF (deep : Int) (C K M : Nat) (h0 : 0 < deep) (h9 : deep ≤ 100) (hC : C ≤ 100000000) (hK : K ≤ 100000000) (E1 : EXC 1 1 300 300) (BD : Kv (deep - 1) C K M) : SLC deep (3 * (2 * C + 401)) (6 * K + 1000) (M + 3) := by
 intro sb A n v loops w hA hnM h hs
 have HD := aa (DW.start h)
 obtain ⟨va, vc, rfl, _⟩ := id hs
 have ja := bO w dL
 have SC := aa (fun B W (hd : DW sb B w W) => (hs.keep (bG ja _)).keep hd.kp)
 have PV := aa (fun (typ : Int) B W (hB : B + 3 ≤ 1099511627776) (hd : DW sb B w W) => lg sb B n typ (.slice va n vc) W hB hd.src (SC.out B W hd))
 have CH := aa (fun B W (hB : B + 3 ≤ 1099511627776) (hd : DW sb B w W) (k : Nat) (hk : k ≤ 100) => ks sb B k W hB (by omega) hd.src)
 have NX := aa (fun B W (hB : B + 3 ≤ 1099511627776) (hd : DW sb B w W) (k : Nat) (hk : k ≤ 100) => cK sb B k W hB (by omega) hd.src)
 have tN := aa (fun B W (hB : B + 300 ≤ 1099511627776) (hd : DW sb B w W) => E1 sb B n (.slice va n vc) W hB hd.src (SC.out B W hd))
 have CC := aa BD
 have bH := jK
 have Bd : IntKind.i64.wrap (deep - 1) = deep - 1 := fq (by omega) (by omega)
 have mM : sb < w.heap.size := h.lt
 unfold dL at *
 clear h ja E1 BD
 go_enter Tryz.func86, Tryz.ntmps86
 go_wp2_with fail
 refine (bU _ _ _ _ _ _ _).mono ?_
 rintro e w1 ⟨rfl, hb⟩
 have mZ := aa (HD.out.calm hb)
 have eT := mZ.out.size
 have jM := aa (mZ.out.alloc (fS 15 0 ⟨#[]⟩ none 0 0))
 have tg : w1.heap.size ≠ sb := by omega
 clear hb HD
 go_wp2_with fail
 refine (NX.out _ _ (by omega) jM.out 3 (by omega)).mono ?_
 rintro e w3 ⟨q, hq, rfl, hs, hk⟩
 have SE0 : Hid (SE sb (A + 3) (2 * C + 400) w w1.heap.size 0 w3) := ⟨fun _ => .nil, fun _ => undef, fun _ => 0, fun _ => 0, none, 0, jM.out.step hs hk, by omega, cm (heap_alloc_new w1 _) tg hk, Gw.start _ _ _ _ (World.ownsRow_nil _ _ _ _), fun i hi => absurd hi (Nat.not_lt_zero _)⟩
 clear hs hk mZ jM
 go_wp2_with fail
 go_loopw [10] (fun i wr => ∃ (c j B : Nat), i = .int .i64 c ∧ c ≤ 2 ∧ j + c ≤ 2 ∧ B + c * (2 * K + 330) ≤ A + 3 + 2 * (2 * K + 330) ∧ SE sb B (2 * C + 400) w w1.heap.size j wr) (fun i _ => (intOf i).toNat)
 case atStart =>
  exact ⟨q, 0, A + 3, rfl, by omega, by omega, by have : q * (2 * K + 330) ≤ 2 * (2 * K + 330) := Nat.mul_le_mul_right _ (by omega); omega, SE0.out⟩
 case round =>
  obtain ⟨c, j, B, rfl, hc, hj, hB, Ts, us, s, e, ka, kc, P6⟩ := hrel
  have yx := aa P6
  have zh := P6.low
  clear P6 SE0
  by_cases hcz : 0 < c
  ·skip
   obtain ⟨c1, eM⟩ : ∃ c1, c = c1 + 1 := ⟨c - 1, by omega⟩
   have hwc : IntKind.i64.wrap ((c : Int) - 1) = (c1 : Int) := by rw [fq (by omega) (by omega)]; omega
   have Qf : (0 : Int) < (c : Int) := by omega
   have hB1 : B + (2 * K + 330) + c1 * (2 * K + 330) ≤ A + 3 + 2 * (2 * K + 330) := by rw [eM, Nat.add_mul] at hB; omega
   have hB2 : B + (2 * K + 330) ≤ A + 3 + 2 * (2 * K + 330) := by omega
   generalize hY : c1 * (2 * K + 330) = Y at hB1
   go_wp2_with fail
   refine (PV.out 3 _ _ (by omega) yx.out.dw).mono ?_
   rintro e' w4 ⟨ch, isChan, dn, rfl, aD, jE⟩
   have Pp := aa (yx.out.kp aD jE)
   have Yf := aa dn
   clear aD jE dn yx
   cases isChan
   ·go_wp2
    exact ⟨⟨c1, j, B + 3, rfl, by omega, by omega, by omega, _, _, _, _, _, _, Pp.out⟩, by simp [intOf]; omega⟩
   ·have xE := Yf.out (by trivial)
    have hszC := fD xE
    have vS := aa xE
    clear xE Yf
    go_wp2_with fail
    refine (aQ _ _ _ _ _ _).mono ?_
    rintro e' w5 ⟨rfl, hb⟩
    have zM := aa (Pp.out.calm hb)
    have PY := zM.out.dw.size
    have hob5 := (Array.getElem?_eq_some_iff.1 zM.out.obx).1
    have Po := aa (zM.out.calm ((Below.refl _ _).alloc lr (fS 24 0 ch none 0 0)))
    have EC : w5.heap.size ≠ sb := by omega
    clear hb Pp zM
    go_wp2_with fail
    refine (CH.out _ _ (by omega) Po.out.dw 2 (by omega)).mono ?_
    rintro e' w6 ⟨t, rfl, hs, hk⟩
    have iO := aa (Po.out.kp hs hk)
    have Ke : Hid (w6.heap[w5.heap.size]? = some (fS 24 0 ch none 0 0)) := cm (heap_alloc_new w5 _) EC hk
    have MY : w5.heap.size + 1 ≤ w6.heap.size := by have := hk.size; simpa [fS] using this
    clear hs hk Po
    cases t
    ·skip
     obtain ⟨iv, Ns, xx, xw, xu⟩ := info_parts sY
     obtain ⟨v3, w7, ei, pU, cZ⟩ := oj (B := w6.heap.size) (SC.out _ _ iO.out.dw) lr
     obtain ⟨a3, c3, rfl⟩ := pU.shape
     obtain ⟨f3, uY, EA⟩ := id pU
     have nF := aa ei
     have MX := cZ.size
     have Kg := aa cZ
     have FL := aa uY
     have LA := aa pU
     clear ei pU cZ uY
     go_wp2_with (first
      |(at_builtin; refine dW _ rfl _ _ 49 rfl _ _ _ _ rfl rfl nF.out ?_; clear nF)
      |(at_builtin; refine bp _ rfl _ _ 49 rfl w6.heap.size 92 iv (.agg #[.string ⟨#[]⟩, .int .i64 0, .int .i64 0]) 3 32 Tryz.underlying49 Ns xx xw xu rfl (by decide) _ n _ rfl (FL.out.alloc _) ⟨w7.heap.size, 0, none⟩ 1 1 [.string ⟨#[118]⟩, .int .i64 1, .int .i64 0] rfl rfl (lK _ _ _ _ _) (nc _ _ _) (by unfold maxLen; omega) (by omega) (by simp; omega) ?_; intro v4 wI uX pX EH Er; obtain ⟨aI, cI, rR⟩ := Er.out; subst rR)
      |(go_at_call 34; fail))
     have XW := aa (sL (t := 1) EA (show aR ⟨#[118]⟩ = true by decide) uX.out)
     have hbI : Below w6.heap.size w6 wI := Below.of_grown (Kg.out.trans ((bO w7 (.cells #[.string ⟨#[118]⟩, .int .i64 1, .int .i64 0] 92)).mono MX)) pX.out (by simp; omega) (fun g hg => (LA.out.lt g hg).1)
     have Pn := aa (iO.out.calm hbI)
     have Yr := aa (bE Ke.out hbI)
     have hzI := hbI.size
     clear uX pX EH Er LA FL EA Kg hbI iO Ke
     refine (NX.out _ _ (by omega) Pn.out.dw 2 (by omega)).mono ?_
     rintro e' wX ⟨q, hq, rfl, hs, hk⟩
     have tM := aa (Pn.out.kp hs hk)
     have Yq := aa (cm Yr.out EC hk)
     have XV := aa (XW.out.kp (sb := sb) (by omega) hk)
     have hzX := hk.size
     clear hs hk Pn XW Yr
     go_wp2_with fail
     refine (qt CC.out sb _ (n + 1) q (.slice aI (n + 1) cI) loops wX (by omega) (by omega) (by omega) tM.out.dw.src (XV.out.scp (by omega) (by omega))).mono ?_
     rintro e' wY ⟨TB, uB, rfl, dB⟩
     obtain ⟨aB, cB, rfl⟩ := be dB.row
     have PJ := aa (tM.out.dw.step dB.src dB.kp)
     have Sa := dB.kp.size
     have RB := aa (ah (bO wY (fS TB.kind TB.num TB.name aB TB.len cB)) lr dB.row)
     have PB : Hid (hQ (2 * C) TB) := ⟨dB.fine, dB.ok.1, dB.cost⟩
     have Qc := Nd.fine_len dB.fine
     have Tc : TB.len ≤ 2 := dB.ok.2
     obtain ⟨wE, Be⟩ : ∃ W, wY.alloc (fS TB.kind TB.num TB.name aB TB.len cB) = W := ⟨_, rfl⟩
     have PF : Hid (Kp sb wX (wY.alloc (fS TB.kind TB.num TB.name aB TB.len cB))) := dB.kp.trans (bG (bO wY _) _) (fun _ _ h => h)
     clear dB XV
     unfold Nd.val
     have vU := aa (PJ.out.alloc (fS TB.kind TB.num TB.name aB TB.len cB))
     have cP := aa (heap_alloc_new wY (fS TB.kind TB.num TB.name aB TB.len cB))
     have hzE : wY.heap.size + 1 ≤ wE.heap.size := by rw [← Be]; simp
     rw [Be] at vU cP RB PF
     have LC := aa Be
     clear Be PJ
     have lp : wY.heap.size ≠ sb := by omega
     have dI : wX.heap.size ≤ wE.heap.size := by omega
     go_upto_region 12 with fail
     rw [show (wY.alloc (Obj.cells #[.int .i64 TB.kind, .int .i64 TB.num, .string TB.name, .slice aB TB.len cB] 25)) = wE from LC.out]
     clear LC
     have ji : ar (fun _ => 0) 9 = 0 := by simp [ar]
     refine cQ bH (by kernel_rfl) rr (qA wY.heap.size wE.heap.size wX.heap.size aB TB cB) (GS sb (B + 3 + 3 + 3 + (2 * K + 10)) (fun _ => 0) 9 8 8 w wE (wY.heap.size) (F12 sb (B + 3 + 3 + 3 + (2 * K + 10)) wX.heap.size wY.heap.size TB w wE)) (GS.start _ vU.out) ?_ ?_
     ·intro l a v i hI hr
      have zl : i < 9 := (bj hr).1
      have cG := (bj hr).2
      have th : l.size = 9 := hI.lsize
      have HS := aa hI.s
      have mL := iS (fun _ => 0) l 9
      rw [ji] at mL
      have jB := aa hI.shut
      have b6 := aa (fun (v' : World) (hw : ∀ jj x, l.getD jj false = true → qA wY.heap.size wE.heap.size wX.heap.size aB TB cB jj v x → qA wY.heap.size wE.heap.size wX.heap.size aB TB cB jj v' x) (iC : GS sb (B + 3 + 3 + 3 + (2 * K + 10)) (fun _ => 0) 9 8 8 w wE (wY.heap.size) (F12 sb (B + 3 + 3 + 3 + (2 * K + 10)) wX.heap.size wY.heap.size TB w wE) (l.setIfInBounds i true) v') (x : Value) (hx : qA wY.heap.size wE.heap.size wX.heap.size aB TB cB i v' x) (b8 : rr i < 103) => hI.put F9 hr b8 hw iC hx)
      have po := aa (fun (v' : World) (hw : ∀ jj x, l.getD jj false = true → qA wY.heap.size wE.heap.size wX.heap.size aB TB cB jj v x → qA wY.heap.size wE.heap.size wX.heap.size aB TB cB jj v' x) (iC : GS sb (B + 3 + 3 + 3 + (2 * K + 10)) (fun _ => 0) 9 8 8 w wE (wY.heap.size) (F12 sb (B + 3 + 3 + 3 + (2 * K + 10)) wX.heap.size wY.heap.size TB w wE) (l.setIfInBounds i true) v') (hx : ∀ x, qA wY.heap.size wE.heap.size wX.heap.size aB TB cB i v' x) => hI.none hr hw iC hx)
      have bC := aa (fun (j : Nat) (hj : j < 9) (hl : l.getD j false = true) => hI.vals j hj hl)
      have bc := fG hr
      have s15 : a.tmps[15]?.getD undef = .pointer (some ⟨wY.heap.size, 0, none⟩) := ab (hI.keep 15 (by intro i hi; have h2 : i < 9 := hi; show 15 ≠ rr i; have : ((List.range 9).all fun i => decide (rr i ≠ 15)) = true := (by decide); have h3 := List.all_eq_true.1 this i (List.mem_range.2 h2); simp at h3; exact fun e => h3 e.symm))
      clear hI hr
      rcases (by omega : i = 0 ∨ i = 1 ∨ i = 2 ∨ i = 3 ∨ i = 4 ∨ i = 5 ∨ i = 6 ∨ i = 7 ∨ i = 8) with rfl | rfl | rfl | rfl | rfl | rfl | rfl | rfl | rfl
      all_goals (refine cS rfl rfl ?_)
      ·have k_a8_0 := kk
       exact ba8
      ·have h68 := ab (show a.eval (.tmp 68) = .agg #[.int .i64 24, .int .i64 0, .string ⟨#[118]⟩, .slice none 0 0] from ag bC bc 0 rfl)
       have k_a12_0 := kk
       exact Vb
      ·obtain ⟨T1, a1, c1, zb, dH, fN⟩ : LV wE.heap.size (fun T => T = bX 0 0 ⟨#[]⟩ (aq 24 0 ⟨#[118]⟩)) v (a.eval (.tmp 69)) := ag bC bc 1 rfl
       subst zb
       have h69 := ab dH
       have HR := aa fN
       clear dH fN
       have k_a8_1 := kk
       exact ba8
      ·obtain ⟨T2, a2, c2, Ex, ft, jk⟩ : TV wE.heap.size (fun T => T = gX) v (a.eval (.tmp 70)) := ag bC bc 2 rfl
       subst Ex
       have h70 := ab ft
       unfold Nd.val at h70
       have HR := aa jk
       clear ft jk
       have k_a12_1 := kk
       exact Vb
      ·exact qP
      ·have h72 := ab (show a.eval (.tmp 72) = .pointer (some ⟨wY.heap.size, 3, none⟩) from ag bC bc 4 rfl)
       have k_a17_0 := kk
       exact Oy
      ·obtain ⟨A3, u3, g3, rfl, mq, hx, II⟩ : GV wE.heap.size (fun A => A = gX) v (a.eval (.tmp 71)) := ag bC bc 3 rfl
       have h73 : a.eval (.tmp 73) = .slice aB TB.len cB := ag bC bc 5 rfl
       have k_a16_0 := kk
       exact Va
      ·exact qP
      ·have h75 := ab (show a.eval (.tmp 75) = .pointer (some ⟨wY.heap.size, 3, none⟩) from ag bC bc 7 rfl)
       obtain ⟨Ts2, LN, s2, e2, a2, c2, hx, fz, rfl, rU, rT⟩ : AV wX.heap.size wY.heap.size (1 + TB.len) (fun Ts => Ts = cJ (fun _ => gX) 1 TB.kids) v (a.eval (.tmp 74)) := ag bC bc 6 rfl
       have h74 := ab hx
       have bD := cC cG
       obtain ⟨dj, di⟩ := HS.out.pre bD
       have kC := cm cP.out lp di
       obtain ⟨z0, z1, z2, z3, zf⟩ := ax kC
       have Kx := zf 3
       have HF12 : Hid (F12 sb (B + 3 + 3 + 3 + (2 * K + 10)) wX.heap.size wY.heap.size TB w wE (v.setCell ⟨wY.heap.size, 3, none⟩ (.slice a2 (1 + TB.len) c2))) := ⟨(show DW sb (B + 3 + 3 + 3 + (2 * K + 10)) w v from ⟨dj.src.mono (by omega), dj.kp, dj.low⟩).put _ _ _ (by omega), fun k h1 h2 h3 => (Below.heap_setCell _ _ _ _ (by show k ≠ wY.heap.size; exact h3)).trans (di.block k h1 h2), (by have := di.size; simpa [World.setCell] using this), LN, s2, e2, a2, c2, (heap_setCell_same v wY.heap.size 3 _ 25 (.slice a2 (1 + TB.len) c2) kC).trans rfl, fz.put rU rT⟩
       clear hx dj di kC fz zf
       go_simp
       exact po.out _ (fun j x _ hx => JY (by omega) j x hx) (GS.store (by omega) (.inl rfl) HF12.out) (fun _ => trivial)
     ·intro a v b8 jv cz qc ee
      obtain ⟨l, hS, bl⟩ := qc
      have HF := aa (hS.fin (bl 8 (by decide)))
      rw [eJ (n := 9) b8 jv cz]
      generalize (fun i => a.eval (.tmp (rr i))) = ff
      clear b8 jv cz ee hS bl
      simp only [ig, Act.put, rr, List.getD_cons_zero, List.getD_cons_succ, List.setIfInBounds_toArray, List.set_cons_succ, List.set_cons_zero, List.set_nil]
      obtain ⟨dj, fU, Ir, LN, s2, e2, la, lc, fP, fz⟩ := HF.out
      have J8 := aa (tM.out.dw.kp2 dj (by omega) (fun k h1 h2 => (fU k (by omega) h2 (by omega)).trans (PF.out.block k h1 h2)))
      have yw := aa (tM.out.kp dj.src J8.out)
      have PM := aa (cm Yq.out EC J8.out)
      have RL : Hid (Row wX.heap.size v.heap.size v (ct gX TB) (.slice la (1 + TB.len) lc)) := fz.row lr TB.kind TB.num TB.name
      have Cw := aa fP
      have Sb := (Array.getElem?_eq_some_iff.1 fP).1
      have hlX := tM.out
      have hobX := (Array.getElem?_eq_some_iff.1 hlX.obx).1
      obtain ⟨wG, KP⟩ : ∃ W, W = v := ⟨_, rfl⟩
      rw [← KP] at yw RL Cw Sb PM ⊢
      clear dj fz HF fP cP vU RB KP fU PF J8 hlX Ir Yq
      have ji : ar (fun _ => 0) 10 = 0 := by simp [ar]
      go_upto_region 13 with fail
      refine cQ bH (by kernel_rfl) nK (qz w1.heap.size wX.heap.size (2 * C + 400) j ka la kc lc ch (ct gX TB)) (GS sb (B + 3 + 3 + 3 + (2 * K + 10)) (fun _ => 0) 10 7 9 w wG (w1.heap.size) (SE sb (B + 3 + 3 + 3 + (2 * K + 10)) (2 * C + 400) w w1.heap.size (j + 1))) (GS.start _ yw.out.dw) ?_ ?_
      ·intro l a v i hI hr
       have zl : i < 10 := (bj hr).1
       have cG := (bj hr).2
       have th : l.size = 10 := hI.lsize
       have HS := aa hI.s
       have mL := iS (fun _ => 0) l 10
       rw [ji] at mL
       have jB := aa hI.shut
       have b6 := aa (fun (v' : World) (hw : ∀ jj x, l.getD jj false = true → qz w1.heap.size wX.heap.size (2 * C + 400) j ka la kc lc ch (ct gX TB) jj v x → qz w1.heap.size wX.heap.size (2 * C + 400) j ka la kc lc ch (ct gX TB) jj v' x) (iC : GS sb (B + 3 + 3 + 3 + (2 * K + 10)) (fun _ => 0) 10 7 9 w wG (w1.heap.size) (SE sb (B + 3 + 3 + 3 + (2 * K + 10)) (2 * C + 400) w w1.heap.size (j + 1)) (l.setIfInBounds i true) v') (x : Value) (hx : qz w1.heap.size wX.heap.size (2 * C + 400) j ka la kc lc ch (ct gX TB) i v' x) (b8 : nK i < 103) => hI.put F8 hr b8 hw iC hx)
       have po := aa (fun (v' : World) (hw : ∀ jj x, l.getD jj false = true → qz w1.heap.size wX.heap.size (2 * C + 400) j ka la kc lc ch (ct gX TB) jj v x → qz w1.heap.size wX.heap.size (2 * C + 400) j ka la kc lc ch (ct gX TB) jj v' x) (iC : GS sb (B + 3 + 3 + 3 + (2 * K + 10)) (fun _ => 0) 10 7 9 w wG (w1.heap.size) (SE sb (B + 3 + 3 + 3 + (2 * K + 10)) (2 * C + 400) w w1.heap.size (j + 1)) (l.setIfInBounds i true) v') (hx : ∀ x, qz w1.heap.size wX.heap.size (2 * C + 400) j ka la kc lc ch (ct gX TB) i v' x) => hI.none hr hw iC hx)
       have bC := aa (fun (j : Nat) (hj : j < 10) (hl : l.getD j false = true) => hI.vals j hj hl)
       have bc := fG hr
       have s9 : a.tmps[9]?.getD undef = .pointer (some ⟨w1.heap.size, 0, none⟩) := ab (hI.keep 9 (by intro i hi; have h2 : i < 10 := hi; show 9 ≠ nK i; have : ((List.range 10).all fun i => decide (nK i ≠ 9)) = true := (by decide); have h3 := List.all_eq_true.1 this i (List.mem_range.2 h2); simp at h3; exact fun e => h3 e.symm))
       have s13 : a.tmps[13]?.getD undef = .pointer (some ⟨w5.heap.size, 0, none⟩) := ab (hI.keep 13 (by intro i hi; have h2 : i < 10 := hi; show 13 ≠ nK i; have : ((List.range 10).all fun i => decide (nK i ≠ 13)) = true := (by decide); have h3 := List.all_eq_true.1 this i (List.mem_range.2 h2); simp at h3; exact fun e => h3 e.symm))
       have s15 : a.tmps[15]?.getD undef = .pointer (some ⟨wY.heap.size, 0, none⟩) := ab (hI.keep 15 (by intro i hi; have h2 : i < 10 := hi; show 15 ≠ nK i; have : ((List.range 10).all fun i => decide (nK i ≠ 15)) = true := (by decide); have h3 := List.all_eq_true.1 this i (List.mem_range.2 h2); simp at h3; exact fun e => h3 e.symm))
       clear hI hr
       rcases (by omega : i = 0 ∨ i = 1 ∨ i = 2 ∨ i = 3 ∨ i = 4 ∨ i = 5 ∨ i = 6 ∨ i = 7 ∨ i = 8 ∨ i = 9) with rfl | rfl | rfl | rfl | rfl | rfl | rfl | rfl | rfl | rfl
       all_goals (refine cS rfl rfl ?_)
       ·exact qP
       ·have h76 := ab (show a.eval (.tmp 76) = .pointer (some ⟨w1.heap.size, 3, none⟩) from ag bC bc 0 rfl)
        have k_a15_1 := kk
        exact JC
       ·have k_a15_2 := kk
        exact JC
       ·have k_a15_3 := kk
        exact JC
       ·have h78 := ab (show a.eval (.tmp 78) = .agg #[.int .i64 24, .int .i64 0, .string ch, .slice none 0 0] from ag bC bc 2 rfl)
        have h79 := ab (show a.eval (.tmp 79) = .agg #[.int .i64 (ct gX TB).kind, .int .i64 (ct gX TB).num, .string (ct gX TB).name, .slice la (ct gX TB).len lc] from ag bC bc 3 rfl)
        have k_a9_0 := kk
        exact ba9
       ·obtain ⟨T4, a4, c4, hp4, oD, P9⟩ : LV wX.heap.size (fun T => T = dR 0 0 ⟨#[]⟩ (aq 24 0 ch) (ct gX TB)) v (a.eval (.tmp 80)) := ag bC bc 4 rfl
        subst hp4
        have h80 := ab oD
        have HR := aa P9
        clear oD P9
        have k_a15_0 := kk
        exact JC
       ·obtain ⟨T5, a5, c5, SV, KM, KV⟩ : TV wX.heap.size (CsP (2 * C + 400)) v (a.eval (.tmp 81)) := ag bC bc 5 rfl
        have h81 := ab KM
        unfold Nd.val at h81
        have HR := aa KV
        have k_a9_1 := kk
        exact ba9
       ·have h77 : a.eval (.tmp 77) = .slice ka j kc := ag bC bc 1 rfl
        obtain ⟨T3, a3, c3, ⟨A3, za, rfl⟩, hx, wa⟩ : LV wX.heap.size (fun T => ∃ A, CsP (2 * C + 400) A ∧ T = bX 0 0 ⟨#[]⟩ A) v (a.eval (.tmp 82)) := ag bC bc 6 rfl
        have bD := cC cG
        have aM := dm (f := 40) (j := 9) jB.out (by kernel_rfl) cG
        obtain ⟨dj, di⟩ := HS.out.pre bD
        have il : wX.heap.size ≤ v.heap.size := by have := di.size; omega
        obtain ⟨xj, v2, ei, aX, fc⟩ := SI.join (sb := sb) (A := A) (w := w) (yw.out.gw.kp (sb := sb) (by omega) di) yw.out.ok wa za (by omega) il lr (fun g hg => (tM.out.gw.own.lt g hg).2) (by omega)
        refine jC rfl h77 hx (ei _) ?_
        exact b6.out v2 (ph (Wn.of_grown aX (fun k hk => (tM.out.gw.own.lt k hk).2)) bD aM) (HS.out.join (by omega) cG (by decide) aM (by omega) tg aX (fun k hk => by have := (tM.out.gw.own.lt k hk).1; omega)) _ fc (by decide)
       ·exact qP
       ·have h84 := ab (show a.eval (.tmp 84) = .pointer (some ⟨w1.heap.size, 3, none⟩) from ag bC bc 8 rfl)
        have fc : AV (w1.heap.size + 1) w1.heap.size (j + 1) (fun Ts => ∀ i, i < j + 1 → CsP (2 * C + 400) (Ts i)) v (a.eval (.tmp 83)) := ag bC bc 7 rfl
        have qX : l.getD 7 false = true := bc.out _ rfl ⟨7, Ground.data⟩ (by simp) rfl
        obtain ⟨dj, gE⟩ := HS.out.mid qX (cC cG)
        rw [ji] at dj
        have kC := gE.trans yw.out.obx
        obtain ⟨z0, z1, z2, z3, zf⟩ := ax kC
        have Kx := zf 3
        obtain ⟨a2, c2, hx, Ce⟩ := SI.done dj zh kC fc
        have h83 := ab hx
        have Gs := aa Ce
        clear hx dj gE kC fc Ce zf
        go_simp
        exact po.out _ (fun j x _ hx => JX (by omega) j x hx) (GS.store (by omega) (.inr qX) Gs.out) (fun _ => trivial)
      ·intro a v b8 jv cz qc ee
       obtain ⟨l, hS, bl⟩ := qc
       have HF := aa (hS.fin (bl 9 (by decide)))
       rw [eJ (n := 10) b8 jv cz]
       generalize (fun i => a.eval (.tmp (nK i))) = ff
       clear b8 jv cz ee hS bl
       simp only [ig, Act.put, nK, List.getD_cons_zero, List.getD_cons_succ, List.setIfInBounds_toArray, List.set_cons_succ, List.set_cons_zero, List.set_nil]
       obtain ⟨Ts', us', s', e', nX, nW, uS⟩ := HF.out
       have rm := aa uS
       clear uS HF yw tM PM Cw RL
       go_wp2
       exact ⟨⟨c1, j + 1, B + 3 + 3 + 3 + (2 * K + 10), rfl, by omega, by omega, by omega, _, _, _, _, _, _, rm.out⟩, by simp [intOf]; omega⟩
    ·skip
     go_upto_region 9 with fail
     have ji : ar (fun i => if i = 5 then 300 else if i = 11 then 3 else if i = 13 then 2 * K + 10 else 0) 20 = 2 * K + 313 := by simp [ar]; omega
     have xB : sb < w6.heap.size := by omega
     refine cQ bH (by kernel_rfl) sF (FE sb w1.heap.size w6.heap.size (2 * C) (2 * C + 400) n j ka va kc vc ch deep loops) (GS sb (B + 3 + 3) (fun i => if i = 5 then 300 else if i = 11 then 3 else if i = 13 then 2 * K + 10 else 0) 20 17 19 w w6 (w1.heap.size) (SE sb (B + 3 + 3 + (2 * K + 313)) (2 * C + 400) w w1.heap.size (j + 1))) (GS.start _ iO.out.dw) ?_ ?_
     ·intro l a v i hI hr
      have zl : i < 20 := (bj hr).1
      have cG := (bj hr).2
      have th : l.size = 20 := hI.lsize
      have HS := aa hI.s
      have mL := iS (fun i => if i = 5 then 300 else if i = 11 then 3 else if i = 13 then 2 * K + 10 else 0) l 20
      rw [ji] at mL
      have jB := aa hI.shut
      have b6 := aa (fun (v' : World) (hw : ∀ jj x, l.getD jj false = true → FE sb w1.heap.size w6.heap.size (2 * C) (2 * C + 400) n j ka va kc vc ch deep loops jj v x → FE sb w1.heap.size w6.heap.size (2 * C) (2 * C + 400) n j ka va kc vc ch deep loops jj v' x) (iC : GS sb (B + 3 + 3) (fun i => if i = 5 then 300 else if i = 11 then 3 else if i = 13 then 2 * K + 10 else 0) 20 17 19 w w6 (w1.heap.size) (SE sb (B + 3 + 3 + (2 * K + 313)) (2 * C + 400) w w1.heap.size (j + 1)) (l.setIfInBounds i true) v') (x : Value) (hx : FE sb w1.heap.size w6.heap.size (2 * C) (2 * C + 400) n j ka va kc vc ch deep loops i v' x) (b8 : sF i < 103) => hI.put Km hr b8 hw iC hx)
      have po := aa (fun (v' : World) (hw : ∀ jj x, l.getD jj false = true → FE sb w1.heap.size w6.heap.size (2 * C) (2 * C + 400) n j ka va kc vc ch deep loops jj v x → FE sb w1.heap.size w6.heap.size (2 * C) (2 * C + 400) n j ka va kc vc ch deep loops jj v' x) (iC : GS sb (B + 3 + 3) (fun i => if i = 5 then 300 else if i = 11 then 3 else if i = 13 then 2 * K + 10 else 0) 20 17 19 w w6 (w1.heap.size) (SE sb (B + 3 + 3 + (2 * K + 313)) (2 * C + 400) w w1.heap.size (j + 1)) (l.setIfInBounds i true) v') (hx : ∀ x, FE sb w1.heap.size w6.heap.size (2 * C) (2 * C + 400) n j ka va kc vc ch deep loops i v' x) => hI.none hr hw iC hx)
      have bC := aa (fun (j : Nat) (hj : j < 20) (hl : l.getD j false = true) => hI.vals j hj hl)
      have bc := fG hr
      have s0 : a.tmps[0]?.getD undef = .pointer (some ⟨sb, 0, none⟩) := ab (hI.keep 0 (by intro i hi; have h2 : i < 20 := hi; show 0 ≠ sF i; have : ((List.range 20).all fun i => decide (sF i ≠ 0)) = true := (by decide); have h3 := List.all_eq_true.1 this i (List.mem_range.2 h2); simp at h3; exact fun e => h3 e.symm))
      have s1 : a.tmps[1]?.getD undef = .slice va n vc := ab (hI.keep 1 (by intro i hi; have h2 : i < 20 := hi; show 1 ≠ sF i; have : ((List.range 20).all fun i => decide (sF i ≠ 1)) = true := (by decide); have h3 := List.all_eq_true.1 this i (List.mem_range.2 h2); simp at h3; exact fun e => h3 e.symm))
      have s2 : a.tmps[2]?.getD undef = .int .i64 deep := ab (hI.keep 2 (by intro i hi; have h2 : i < 20 := hi; show 2 ≠ sF i; have : ((List.range 20).all fun i => decide (sF i ≠ 2)) = true := (by decide); have h3 := List.all_eq_true.1 this i (List.mem_range.2 h2); simp at h3; exact fun e => h3 e.symm))
      have s3 : a.tmps[3]?.getD undef = .bool loops := ab (hI.keep 3 (by intro i hi; have h2 : i < 20 := hi; show 3 ≠ sF i; have : ((List.range 20).all fun i => decide (sF i ≠ 3)) = true := (by decide); have h3 := List.all_eq_true.1 this i (List.mem_range.2 h2); simp at h3; exact fun e => h3 e.symm))
      have s9 : a.tmps[9]?.getD undef = .pointer (some ⟨w1.heap.size, 0, none⟩) := ab (hI.keep 9 (by intro i hi; have h2 : i < 20 := hi; show 9 ≠ sF i; have : ((List.range 20).all fun i => decide (sF i ≠ 9)) = true := (by decide); have h3 := List.all_eq_true.1 this i (List.mem_range.2 h2); simp at h3; exact fun e => h3 e.symm))
      have s13 : a.tmps[13]?.getD undef = .pointer (some ⟨w5.heap.size, 0, none⟩) := ab (hI.keep 13 (by intro i hi; have h2 : i < 20 := hi; show 13 ≠ sF i; have : ((List.range 20).all fun i => decide (sF i ≠ 13)) = true := (by decide); have h3 := List.all_eq_true.1 this i (List.mem_range.2 h2); simp at h3; exact fun e => h3 e.symm))
      clear hI hr
      rcases (by omega : i = 0 ∨ i = 1 ∨ i = 2 ∨ i = 3 ∨ i = 4 ∨ i = 5 ∨ i = 6 ∨ i = 7 ∨ i = 8 ∨ i = 9 ∨ i = 10 ∨ i = 11 ∨ i = 12 ∨ i = 13 ∨ i = 14 ∨ i = 15 ∨ i = 16 ∨ i = 17 ∨ i = 18 ∨ i = 19) with rfl | rfl | rfl | rfl | rfl | rfl | rfl | rfl | rfl | rfl | rfl | rfl | rfl | rfl | rfl | rfl | rfl | rfl | rfl | rfl
      all_goals (refine cS rfl rfl ?_)
      ·exact qP
      ·have h35 := ab (show a.eval (.tmp 35) = .pointer (some ⟨w1.heap.size, 3, none⟩) from ag bC bc 0 rfl)
       have k_a18_2 := kk
       exact Ox
      ·have k_a13_2 := kk
       exact Fy
      ·exact qP
      ·exact qP
      ·have h38 := ab (show a.eval (.tmp 38) = .pointer (some ⟨sb, 0, none⟩) from ag bC bc 3 rfl)
       have h39 := ab (show a.eval (.tmp 39) = .slice va n vc from ag bC bc 4 rfl)
       have k_a11_0 := kk
       exact Vc
      ·exact qP
      ·exact qP
      ·exact qP
      ·have h43 := ab (show a.eval (.tmp 43) = .int .i64 deep from ag bC bc 8 rfl)
       exact qP
      ·exact qP
      ·have h45 := ab (show a.eval (.tmp 45) = .pointer (some ⟨sb, 0, none⟩) from ag bC bc 10 rfl)
       have k_a13_1 := kk
       exact Fy
      ·exact qP
      ·have h41 := ab (show a.eval (.tmp 41) = .pointer (some ⟨sb, 0, none⟩) from ag bC bc 6 rfl)
       have h42 := ab (show a.eval (.tmp 42) = .slice va n vc from ag bC bc 7 rfl)
       have h44 := ab (show a.eval (.tmp 44) = .int .i64 (deep - 1) from ag bC bc 9 rfl)
       obtain ⟨q2, iL, hx⟩ : ∃ q : Nat, q < 2 ∧ a.eval (.tmp 46) = .int .i64 (q : Int) := ag bC bc 11 rfl
       have hq46 := ab hx
       have h47 := ab (show a.eval (.tmp 47) = .bool loops from ag bC bc 12 rfl)
       have k_a13_3 := kk
       exact Fy
      ·have h37 := ab (show a.eval (.tmp 37) = .agg #[.int .i64 24, .int .i64 0, .string ch, .slice none 0 0] from ag bC bc 2 rfl)
       obtain ⟨T5, a5, c5, SV, KM, KV⟩ : TV w6.heap.size (Kj 300) v (a.eval (.tmp 40)) := ag bC bc 5 rfl
       have h40 := ab KM
       have Yc := aa KV
       obtain ⟨T13, a13, gM, Ni, En, Eu⟩ : TV w6.heap.size (hQ (2 * C)) v (a.eval (.tmp 48)) := ag bC bc 13 rfl
       have h48 := ab En
       have HR13 := aa Eu
       unfold Nd.val at h40 h48
       clear KM KV En Eu
       have k_a11_1 := kk
       exact Vc
      ·obtain ⟨T14, a14, c14, Nh, Em, Et⟩ : LV w6.heap.size (fun T => ∃ F B, Kj 300 F ∧ hQ (2 * C) B ∧ T = jD 0 0 ⟨#[]⟩ (aq 24 0 ch) F B) v (a.eval (.tmp 49)) := ag bC bc 14 rfl
       obtain ⟨F14, B14, hF14, hB14, rfl⟩ := Nh
       have h49 := ab Em
       have HR := aa Et
       clear Em Et
       have k_a13_0 := kk
       exact Fy
      ·obtain ⟨T15, a15, c15, hp15, Si, SN⟩ : TV w6.heap.size (CsP (2 * C + 400)) v (a.eval (.tmp 50)) := ag bC bc 15 rfl
       have h50 := ab Si
       unfold Nd.val at h50
       have HR := aa SN
       have k_a13_4 := kk
       exact Fy
      ·have h36 : a.eval (.tmp 36) = .slice ka j kc := ag bC bc 1 rfl
       obtain ⟨T3, a3, c3, ⟨A3, za, rfl⟩, hx, wa⟩ : LV w6.heap.size (fun T => ∃ A, CsP (2 * C + 400) A ∧ T = bX 0 0 ⟨#[]⟩ A) v (a.eval (.tmp 51)) := ag bC bc 16 rfl
       have bD := cC cG
       have aM := dm (f := 40) (j := 19) jB.out (by kernel_rfl) cG
       have k_a6_0 := kk
       exact ba6
      ·exact qP
      ·have h53 := ab (show a.eval (.tmp 53) = .pointer (some ⟨w1.heap.size, 3, none⟩) from ag bC bc 18 rfl)
       have fc : AV (w1.heap.size + 1) w1.heap.size (j + 1) (fun Ts => ∀ i, i < j + 1 → CsP (2 * C + 400) (Ts i)) v (a.eval (.tmp 52)) := ag bC bc 17 rfl
       have qX : l.getD 17 false = true := bc.out _ rfl ⟨17, Ground.data⟩ (by simp) rfl
       have k_a10_0 := kk
       exact Vd
     ·intro a v b8 jv cz qc ee
      obtain ⟨l, hS, bl⟩ := qc
      have HF := aa (hS.fin (bl 19 (by decide)))
      rw [eJ (n := 20) b8 jv cz]
      generalize (fun i => a.eval (.tmp (sF i))) = ff
      clear b8 jv cz ee hS bl
      simp only [ig, Act.put, sF, List.getD_cons_zero, List.getD_cons_succ, List.setIfInBounds_toArray, List.set_cons_succ, List.set_cons_zero, List.set_nil]
      obtain ⟨Ts', us', s', e', nX, nW, uS⟩ := HF.out
      have rm := aa uS
      clear uS HF iO Ke
      go_wp2
      exact ⟨⟨c1, j + 1, B + 3 + 3 + (2 * K + 313), rfl, by omega, by omega, by omega, _, _, _, _, _, _, rm.out⟩, by simp [intOf]; omega⟩
  ·skip
   obtain rfl : c = 0 := by omega
   have kK : ¬ (0 : Int) < ((0 : Nat) : Int) := by omega
   simp only [Nat.zero_mul, Nat.add_zero] at hB
   go_wp2_with fail
   refine (CH.out _ _ (by omega) yx.out.dw 2 (by omega)).mono ?_
   rintro e' w6 ⟨t, rfl, hs, hk⟩
   have iO := aa (yx.out.kp hs hk)
   have hob6 := (Array.getElem?_eq_some_iff.1 iO.out.obx).1
   clear hs hk yx
   cases t
   ·skip
    obtain ⟨o0, o1, o2, o3, of⟩ := ax iO.out.obx
    obtain ⟨f0, f1, f2, f3, ff⟩ := iO.out.dw.cells
    have nG := aa (iO.out.gw.row (lo := w.heap.size + 1) (by omega) 15 0 ⟨#[]⟩)
    have tV := aa iO.out.dw
    have oY := aa iO.out.ok
    clear iO
    go_wp2
    refine bodyPost_ret (tV.out.read Tryz.results86 rfl _ _ _ _) rfl ⟨.mk 15 0 ⟨#[]⟩ (j) Ts, _, rfl, ?_⟩
    exact (tV.out.fin (P := fun T => T.sOk = true) (C := 3 * (2 * C + 401)) nG.out ⟨by omega, by omega, by decide, by show j ≤ _; omega, fun i hi => (oY.out i hi).1⟩ (pG fun i hi => (oY.out i hi).2.1) (Nat.le_trans (oK fun i hi => (oY.out i hi).2.2) (Nat.mul_le_mul_right _ (by omega)))).more (by omega)
   ·skip
    go_upto_region 15 with fail
    have ji : ar (fun i => if i = 7 then 3 else if i = 9 then 2 * K + 10 else 0) 16 = 2 * K + 13 := by simp [ar]; omega
    have xB : sb < w6.heap.size := by omega
    refine cQ bH (by kernel_rfl) kO (qy sb w1.heap.size w6.heap.size (2 * C) (2 * C + 400) n j ka va kc vc deep loops) (GS sb (B + 3) (fun i => if i = 7 then 3 else if i = 9 then 2 * K + 10 else 0) 16 13 15 w w6 (w1.heap.size) (SE sb (B + 3 + (2 * K + 13)) (2 * C + 400) w w1.heap.size (j + 1))) (GS.start _ iO.out.dw) ?_ ?_
    ·intro l a v i hI hr
     have zl : i < 16 := (bj hr).1
     have cG := (bj hr).2
     have th : l.size = 16 := hI.lsize
     have HS := aa hI.s
     have mL := iS (fun i => if i = 7 then 3 else if i = 9 then 2 * K + 10 else 0) l 16
     rw [ji] at mL
     have jB := aa hI.shut
     have b6 := aa (fun (v' : World) (hw : ∀ jj x, l.getD jj false = true → qy sb w1.heap.size w6.heap.size (2 * C) (2 * C + 400) n j ka va kc vc deep loops jj v x → qy sb w1.heap.size w6.heap.size (2 * C) (2 * C + 400) n j ka va kc vc deep loops jj v' x) (iC : GS sb (B + 3) (fun i => if i = 7 then 3 else if i = 9 then 2 * K + 10 else 0) 16 13 15 w w6 (w1.heap.size) (SE sb (B + 3 + (2 * K + 13)) (2 * C + 400) w w1.heap.size (j + 1)) (l.setIfInBounds i true) v') (x : Value) (hx : qy sb w1.heap.size w6.heap.size (2 * C) (2 * C + 400) n j ka va kc vc deep loops i v' x) (b8 : kO i < 103) => hI.put F7 hr b8 hw iC hx)
     have po := aa (fun (v' : World) (hw : ∀ jj x, l.getD jj false = true → qy sb w1.heap.size w6.heap.size (2 * C) (2 * C + 400) n j ka va kc vc deep loops jj v x → qy sb w1.heap.size w6.heap.size (2 * C) (2 * C + 400) n j ka va kc vc deep loops jj v' x) (iC : GS sb (B + 3) (fun i => if i = 7 then 3 else if i = 9 then 2 * K + 10 else 0) 16 13 15 w w6 (w1.heap.size) (SE sb (B + 3 + (2 * K + 13)) (2 * C + 400) w w1.heap.size (j + 1)) (l.setIfInBounds i true) v') (hx : ∀ x, qy sb w1.heap.size w6.heap.size (2 * C) (2 * C + 400) n j ka va kc vc deep loops i v' x) => hI.none hr hw iC hx)
     have bC := aa (fun (j : Nat) (hj : j < 16) (hl : l.getD j false = true) => hI.vals j hj hl)
     have bc := fG hr
     have s0 : a.tmps[0]?.getD undef = .pointer (some ⟨sb, 0, none⟩) := ab (hI.keep 0 (by intro i hi; have h2 : i < 16 := hi; show 0 ≠ kO i; have : ((List.range 16).all fun i => decide (kO i ≠ 0)) = true := (by decide); have h3 := List.all_eq_true.1 this i (List.mem_range.2 h2); simp at h3; exact fun e => h3 e.symm))
     have s1 : a.tmps[1]?.getD undef = .slice va n vc := ab (hI.keep 1 (by intro i hi; have h2 : i < 16 := hi; show 1 ≠ kO i; have : ((List.range 16).all fun i => decide (kO i ≠ 1)) = true := (by decide); have h3 := List.all_eq_true.1 this i (List.mem_range.2 h2); simp at h3; exact fun e => h3 e.symm))
     have s2 : a.tmps[2]?.getD undef = .int .i64 deep := ab (hI.keep 2 (by intro i hi; have h2 : i < 16 := hi; show 2 ≠ kO i; have : ((List.range 16).all fun i => decide (kO i ≠ 2)) = true := (by decide); have h3 := List.all_eq_true.1 this i (List.mem_range.2 h2); simp at h3; exact fun e => h3 e.symm))
     have s3 : a.tmps[3]?.getD undef = .bool loops := ab (hI.keep 3 (by intro i hi; have h2 : i < 16 := hi; show 3 ≠ kO i; have : ((List.range 16).all fun i => decide (kO i ≠ 3)) = true := (by decide); have h3 := List.all_eq_true.1 this i (List.mem_range.2 h2); simp at h3; exact fun e => h3 e.symm))
     have s9 : a.tmps[9]?.getD undef = .pointer (some ⟨w1.heap.size, 0, none⟩) := ab (hI.keep 9 (by intro i hi; have h2 : i < 16 := hi; show 9 ≠ kO i; have : ((List.range 16).all fun i => decide (kO i ≠ 9)) = true := (by decide); have h3 := List.all_eq_true.1 this i (List.mem_range.2 h2); simp at h3; exact fun e => h3 e.symm))
     clear hI hr
     rcases (by omega : i = 0 ∨ i = 1 ∨ i = 2 ∨ i = 3 ∨ i = 4 ∨ i = 5 ∨ i = 6 ∨ i = 7 ∨ i = 8 ∨ i = 9 ∨ i = 10 ∨ i = 11 ∨ i = 12 ∨ i = 13 ∨ i = 14 ∨ i = 15) with rfl | rfl | rfl | rfl | rfl | rfl | rfl | rfl | rfl | rfl | rfl | rfl | rfl | rfl | rfl | rfl
     all_goals (refine cS rfl rfl ?_)
     ·exact qP
     ·have h87 := ab (show a.eval (.tmp 87) = .pointer (some ⟨w1.heap.size, 3, none⟩) from ag bC bc 0 rfl)
      have bD := dm (f := 40) (j := 13) jB.out (by kernel_rfl) cG
      have aM := dm (f := 40) (j := 15) jB.out (by kernel_rfl) cG
      exact ba0
     ·exact qP
     ·exact qP
     ·exact qP
     ·have h91 := ab (show a.eval (.tmp 91) = .int .i64 deep from ag bC bc 4 rfl)
      exact qP
     ·exact qP
     ·have h93 := ab (show a.eval (.tmp 93) = .pointer (some ⟨sb, 0, none⟩) from ag bC bc 6 rfl)
      have k_a14_1 := kk
      exact Fx
     ·exact qP
     ·have h89 := ab (show a.eval (.tmp 89) = .pointer (some ⟨sb, 0, none⟩) from ag bC bc 2 rfl)
      have h90 := ab (show a.eval (.tmp 90) = .slice va n vc from ag bC bc 3 rfl)
      have h92 := ab (show a.eval (.tmp 92) = .int .i64 (deep - 1) from ag bC bc 5 rfl)
      obtain ⟨q2, iL, hx⟩ : ∃ q : Nat, q < 2 ∧ a.eval (.tmp 94) = .int .i64 (q : Int) := ag bC bc 7 rfl
      have hq94 := ab hx
      have h95 := ab (show a.eval (.tmp 95) = .bool loops from ag bC bc 8 rfl)
      have k_a14_4 := kk
      exact Fx
     ·obtain ⟨T9, a9, c9, hp9, Sg, M7⟩ : TV w6.heap.size (hQ (2 * C)) v (a.eval (.tmp 96)) := ag bC bc 9 rfl
      have h96 := ab Sg
      have HR := aa M7
      unfold Nd.val at h96
      clear Sg M7
      have k_a14_2 := kk
      exact Fx
     ·obtain ⟨T10, a10, gS, hp10, Sk, SQ⟩ : LV w6.heap.size (fun T => ∃ B, hQ (2 * C) B ∧ T = bX 0 0 ⟨#[]⟩ B) v (a.eval (.tmp 97)) := ag bC bc 10 rfl
      obtain ⟨B10, hB10, rfl⟩ := hp10
      have h97 := ab Sk
      have HR := aa SQ
      clear Sk SQ
      have k_a14_0 := kk
      exact Fx
     ·obtain ⟨T11, a11, gN, Nj, Eo, Ev⟩ : TV w6.heap.size (CsP (2 * C + 400)) v (a.eval (.tmp 98)) := ag bC bc 11 rfl
      have h98 := ab Eo
      unfold Nd.val at h98
      have HR := aa Ev
      have k_a14_3 := kk
      exact Fx
     ·have h88 : a.eval (.tmp 88) = .slice ka j kc := ag bC bc 1 rfl
      obtain ⟨T3, a3, c3, ⟨A3, za, rfl⟩, hx, wa⟩ : LV w6.heap.size (fun T => ∃ A, CsP (2 * C + 400) A ∧ T = bX 0 0 ⟨#[]⟩ A) v (a.eval (.tmp 99)) := ag bC bc 12 rfl
      have bD := cC cG
      have aM := dm (f := 40) (j := 15) jB.out (by kernel_rfl) cG
      have k_a6_1 := kk
      exact ba6
     ·exact qP
     ·have h101 := ab (show a.eval (.tmp 101) = .pointer (some ⟨w1.heap.size, 3, none⟩) from ag bC bc 14 rfl)
      have fc : AV (w1.heap.size + 1) w1.heap.size (j + 1) (fun Ts => ∀ i, i < j + 1 → CsP (2 * C + 400) (Ts i)) v (a.eval (.tmp 100)) := ag bC bc 13 rfl
      have qX : l.getD 13 false = true := bc.out _ rfl ⟨13, Ground.data⟩ (by simp) rfl
      have k_a10_1 := kk
      exact Vd
    ·intro a v b8 jv cz qc ee
     obtain ⟨l, hS, bl⟩ := qc
     have HF := aa (hS.fin (bl 15 (by decide)))
     rw [eJ (n := 16) b8 jv cz]
     generalize (fun i => a.eval (.tmp (kO i))) = ff
     clear b8 jv cz ee hS bl
     simp only [ig, Act.put, kO, List.getD_cons_zero, List.getD_cons_succ, List.setIfInBounds_toArray, List.set_cons_succ, List.set_cons_zero, List.set_nil]
     obtain ⟨Ts', us', s', e', nX, nW, uS⟩ := HF.out
     have rm := aa uS
     clear uS HF iO
     obtain ⟨o0, o1, o2, o3, of⟩ := ax rm.out.obx
     obtain ⟨f0, f1, f2, f3, ff⟩ := rm.out.dw.cells
     have nG := aa (rm.out.gw.row (lo := w.heap.size + 1) (by omega) 15 0 ⟨#[]⟩)
     have tV := aa rm.out.dw
     have oY := aa rm.out.ok
     clear rm
     go_wp2
     refine bodyPost_ret (tV.out.read Tryz.results86 rfl _ _ _ _) rfl ⟨.mk 15 0 ⟨#[]⟩ (j + 1) Ts', _, rfl, ?_⟩
     exact (tV.out.fin (P := fun T => T.sOk = true) (C := 3 * (2 * C + 401)) nG.out ⟨by omega, by omega, by decide, by show j + 1 ≤ _; omega, fun i hi => (oY.out i hi).1⟩ (pG fun i hi => (oY.out i hi).2.1) (Nat.le_trans (oK fun i hi => (oY.out i hi).2.2) (Nat.mul_le_mul_right _ (by omega)))).more (by omega)
end Go.Proofs.YteaocammohcgoaaGreatDoor
