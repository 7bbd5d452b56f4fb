import Derived.Test.YteaocammohcgoaaGreatDoorVDO
import Derived.Deep.CutRange
set_option linter.unusedVariables false
set_option maxHeartbeats 16000000
set_option maxRecDepth 100000
namespace Go.Proofs.YteaocammohcgoaaGreatDoor
open Go.RowKit
variable {G : Prop}
theorem bY0 (h : G := by
 have lH := aa ((QL.out.calm (bA)).mine (by have := Kb.out; omega) (sL SZ HN.out zc.out) tj.out zi.out)
 have sC : Hid ((T.nm nm).Fine ∧ (T.nm nm).sOk = true ∧ (T.nm nm).cost ≤ C + 40) := ⟨Nd.nm_fine HT.out.1 (Nd.fine_nums HT.out.1).1 (Nd.fine_nums HT.out.1).2 (by omega), Mf HT.out.2.1 h5 HN.out, by have := Nd.nm_cost T nm; have := HT.out.2.2; omega⟩
 clear QL ze SZ zc tj zi Bf St hint
 obtain ⟨wz, KO⟩ : ∃ W, W = wm := ⟨_, rfl⟩
 rw [← KO] at lH ⊢
 clear KO
 have hobl := lH.out.low
 obtain ⟨o0, o1, o2, o3, of⟩ := ax lH.out.obx
 obtain ⟨b0, b1, b2, b3, bf⟩ := ax lH.out.bsb
 have hoq := ld o3
 have hHT : Hid ((T.nm nm).Fine ∧ (T.nm nm).sOk = true ∧ (T.nm nm).cost ≤ C + 40) := sC
 have of3 := of 3
 go_wp2_with (at_builtin; refine bp _ rfl _ _ 23 rfl (w1.heap.size + 1) 25 i0 (.agg #[.int .i64 0, .int .i64 0, .string ⟨#[]⟩, .slice none 0 0]) 4 56 Tryz.underlying23 lq oQ eT ed rfl (by decide) _ j _ rfl (lH.out.gw.own.alloc _) ⟨wz.heap.size, 0, none⟩ 1 1 [.int .i64 (T.nm nm).kind, .int .i64 (T.nm nm).num, .string (T.nm nm).name, .slice (some ⟨g, off, none⟩) (T.nm nm).len uc] rfl rfl (ku _ _ _ _ _ _) (kt _ _ _ _ _ _) (by unfold maxLen; omega) (by omega) (by simp; have := lH.out.int; have := lH.out.lt; omega) ?_; intro v' w9 cY aX eF Gc; obtain ⟨nX, nW, rR⟩ := Gc.out; subst rR; have ET : w9.heap[w1.heap.size]? = some (fS 4 0 ⟨#[]⟩ ka j kc) := (aX.out.block w1.heap.size (by simp; have := lH.out.int; have := lH.out.lt; omega) (fun e => by have := (lH.out.gw.own.lt w1.heap.size e.symm).1; omega)).trans ((Below.heap_alloc wz _ w1.heap.size (by have := lH.out.int; have := lH.out.lt; omega)).trans lH.out.obx); obtain ⟨p0, p1, p2, p3, pf⟩ := ax ET; have pf3 := pf 3; clear ET)
 exact bY3) : G := h
theorem bY1 (h : G := by
 obtain ⟨_, _, Ce, _, _, xy⟩ := FP.out.keep (bG r6 _)
 injection Ce with q1 _ q3
 subst q1 q3
 rcases xy with h0 | ⟨gs, os, rfl, _, _, cy⟩
 ·omega
 obtain ⟨sn, st, sd, hsn, s0, s1, s2⟩ := cy k lW
 have hki : (k : Int) < (n' : Int) := by omega
 have HN := aa dn.out
 have FV := aa r6
 have DG := aa (zF n' wr (by omega))
 obtain ⟨hv1, hv2⟩ := Ml n'
 have HV := aa hv1
 have hsv2 : (eO (eI 20 n')).size ≤ 1000 := by have := kq 20 n'; rw [lL]; omega
 clear cy dn hv1 r6
 cases hq : (sn.toList == nm.toList)
 ·exact bY4
 ·by_cases S0 : n ≤ k
  ·have hnki : (n : Int) ≤ (k : Int) := by omega
   go_wp2_with (go_at_call 39; refine DG.out.mono ?_; rintro e wd ⟨rfl, Gf⟩; have HBD := aa (FV.out.trans (Gf.mono FV.out.size)); clear Gf)
   exact ⟨⟨_, k + 1, by omega, rfl, by go_num, HV.out, hv2, HBD.out⟩, by simp [intOf]; omega⟩
  ·have hnki : ¬ (n : Int) ≤ (k : Int) := by omega
   exact bY4) : G := h
theorem bY2 (h : G := by
 have := List.all_eq_true.1 (List.all_eq_true.1 this i (List.mem_range.2 hi)) j (List.mem_range.2 hj)
 simpa [h] using this) : G := h
theorem bY3 (h : G := by
 refine ⟨⟨j + 1, _, _, _, _, nX, nW, _, _, _, by omega, by go_num, rfl, (lH.out.calm (bA)).done (by have := Kb.out; omega) hHT.out cY.out aX.out eF.out⟩, by simp [intOf]; omega⟩) : G := h
theorem bY4 (h : G := by
 go_wp2
 exact ⟨⟨nm, k + 1, by omega, rfl, by go_num, HN.out, b8, FV.out⟩, by simp [intOf]; omega⟩) : G := h
theorem bY5 (h : G := by
 obtain rfl : k = n' := by omega
 have QL := aa ((lH.out.calm r6).name nm)
 have HN := aa dn.out
 obtain ⟨b0, b1, b2, b3, bf⟩ := ax (lH.out.calm r6).bsb
 have bf2 := bf 2
 clear dn bf
 go_upto_region 21 with fail
 obtain ⟨wz, KO⟩ : ∃ W, wr.setCell ⟨w4.heap.size, 2, none⟩ (.string nm) = W := ⟨_, rfl⟩
 rw [KO] at QL ⊢
 clear KO lH b0 b1 b2 b3 bf2 r6
 obtain ⟨f, ze, SZ⟩ := QL.out.sv
 have St := QL.out.lt
 have hint := QL.out.int
 first
 |clear k_Y5_0
  go_upto_region 22 with (at_builtin; refine bp _ rfl _ _ 49 rfl (w1.heap.size + 1) 92 iv (.agg #[.string ⟨#[]⟩, .int .i64 0, .int .i64 0]) 3 32 Tryz.underlying49 Ns xx xw xu rfl (by decide) _ k _ rfl (ze.alloc _) ⟨wz.heap.size, 0, none⟩ 1 1 [.string nm, .int .i64 3, .int .i64 0] rfl rfl (lK _ _ _ _ _) (nc _ _ _) (by unfold maxLen; omega) (by omega) (by simp; omega) ?_; intro v' wm zc tj zi Bf; obtain ⟨ma', mc', rR⟩ := Bf.out; subst rR)
  exact bY0
 |clear k_Y5_1
  go_upto_region 22 with (at_builtin; refine bp _ rfl _ _ 49 rfl (w1.heap.size + 1) 92 iv (.agg #[.string ⟨#[]⟩, .int .i64 0, .int .i64 0]) 3 32 Tryz.underlying49 Ns xx xw xu rfl (by decide) _ k _ rfl (ze.alloc _) ⟨wz.heap.size, 0, none⟩ 1 1 [.string nm, .int .i64 2, .int .i64 0] rfl rfl (lK _ _ _ _ _) (nc _ _ _) (by unfold maxLen; omega) (by omega) (by simp; omega) ?_; intro v' wm zc tj zi Bf; obtain ⟨ma', mc', rR⟩ := Bf.out; subst rR)
  exact bY0
 |clear k_Y5_2
  go_upto_region 22 with (at_builtin; refine bp _ rfl _ _ 49 rfl (w1.heap.size + 1) 92 iv (.agg #[.string ⟨#[]⟩, .int .i64 0, .int .i64 0]) 3 32 Tryz.underlying49 Ns xx xw xu rfl (by decide) _ k _ rfl (ze.alloc _) ⟨wz.heap.size, 0, none⟩ 1 1 [.string nm, .int .i64 1, .int .i64 0] rfl rfl (lK _ _ _ _ _) (nc _ _ _) (by unfold maxLen; omega) (by omega) (by simp; omega) ?_; intro v' wm zc tj zi Bf; obtain ⟨ma', mc', rR⟩ := Bf.out; subst rR)
  exact bY0) : G := h
theorem bY6 (h : G := by
 go_wp2_with fail
 go_loopw [16, 17] (fun nv kv wr => ∃ (nm : ByteArray) (k : Nat), k ≤ n' ∧ nv = .string nm ∧ kv = .int .i64 k ∧ Hid (aR nm = true) ∧ nm.size ≤ 40 ∧ Below W5.heap.size W5 wr) (fun _ kv _ => n' - (intOf kv).toNat)
 case atStart => exact ⟨_, 0, by omega, rfl, rfl, Gr.out, hnsz, Below.refl _ _⟩
 first
 |clear k_Y6_0
  case round =>
   obtain ⟨nm, k, hk, rfl, rfl, dn, b8, r6⟩ := hrel
   by_cases lW : k < n'
   ·exact bY1
   ·have k_Y5_0 := kk
    exact bY5
 |clear k_Y6_1
  case round =>
   obtain ⟨nm, k, hk, rfl, rfl, dn, b8, r6⟩ := hrel
   by_cases lW : k < n'
   ·exact bY1
   ·have k_Y5_1 := kk
    exact bY5
 |clear k_Y6_2
  case round =>
   obtain ⟨nm, k, hk, rfl, rfl, dn, b8, r6⟩ := hrel
   by_cases lW : k < n'
   ·exact bY1
   ·have k_Y5_2 := kk
    exact bY5) : G := h
theorem bY7 (h : G := by
 intro j hj
 obtain rfl : j = 0 := by simp at hj; omega
 have e : ((UInt8.ofNat (48 + n)).toNat : Int) = x := by
  rw [hx, UInt8.toNat_ofNat', Nat.mod_eq_of_lt (by omega)]; omega
 simp only [List.getElem_cons_zero, e]
 first
 |clear k_Y7_0
  simpa [Addr.add] using hg
 |clear k_Y7_1
  simp [Addr.add]) : G := h
structure BI (sb A n C K : Nat) (w : World) (ob j : Nat) (Ts : Nat → Nd) (us : Nat → Value) (s e : Nat → Nat) (ka : Option Addr) (kc n' : Nat) (vm : Value) (W : World) : Prop where
 dw : DW sb (A + j * K) w W
 low : w.heap.size < ob
 obx : W.heap[ob]? = some (fS 4 0 ⟨#[]⟩ ka j kc)
 gw : Gw (ob + 1) Ts us s e j (.slice ka j kc) W
 ok : ∀ i, i < j → (Ts i).Fine ∧ (Ts i).sOk = true ∧ (Ts i).cost ≤ C + 40
 sv : Sv (ob + 1) n' vm W
 few : n' ≤ n + j
 ap : ∀ g, vm.ownBlock = some g → (Value.slice ka j kc).ownBlock ≠ some g ∧ ∀ i, i < j → g < s i ∨ e i ≤ g
structure BM (sb A n C K : Nat) (w : World) (ob j : Nat) (Ts : Nat → Nd) (us : Nat → Value) (s e : Nat → Nat) (ka : Option Addr) (kc n' : Nat) (vm : Value) (lo hi bs : Nat) (T : Nd) (ua : Option Addr) (uc : Nat) (W : World) : Prop where
 dw : DW sb (A + j * K + K) w W
 low : w.heap.size < ob
 obx : W.heap[ob]? = some (fS 4 0 ⟨#[]⟩ ka j kc)
 gw : Gw (ob + 1) Ts us s e j (.slice ka j kc) W
 ok : ∀ i, i < j → (Ts i).Fine ∧ (Ts i).sOk = true ∧ (Ts i).cost ≤ C + 40
 sv : Sv (ob + 1) n' vm W
 few : n' ≤ n + j + 1
 ap : ∀ g, vm.ownBlock = some g → (Value.slice ka j kc).ownBlock ≠ some g ∧ (∀ i, i < j → g < s i ∨ e i ≤ g) ∧ (g < lo ∨ bs < g)
 kg : ∀ g, (Value.slice ka j kc).ownBlock = some g → g < lo
 se : ∀ i, i < j → e i ≤ lo
 int : ob + 1 ≤ lo ∧ lo ≤ hi ∧ hi ≤ bs
 row : Row lo hi W T (.slice ua T.len uc)
 bsb : W.heap[bs]? = some (fS T.kind T.num T.name ua T.len uc)
theorem BM.lt {sb A n C K : Nat} {w : World} {ob j : Nat} {Ts : Nat → Nd} {us : Nat → Value} {s e : Nat → Nat} {ka : Option Addr} {kc n' : Nat} {vm : Value} {lo hi bs : Nat} {T : Nd} {ua : Option Addr} {uc : Nat} {W : World} (h : BM sb A n C K w ob j Ts us s e ka kc n' vm lo hi bs T ua uc W) : bs < W.heap.size := (Array.getElem?_eq_some_iff.1 h.bsb).1
theorem BI.st {sb A n C K : Nat} {w : World} {ob j : Nat} {Ts : Nat → Nd} {us : Nat → Value} {s e : Nat → Nat} {ka : Option Addr} {kc n' : Nat} {vm : Value} {W W4 : World} {T : Nd} {ua : Option Addr} {uc : Nat} {P : Nd → Prop}
  (h : BI sb A n C K w ob j Ts us s e ka kc n' vm W) (d : Drawn sb (A + j * K + K) P C W T (.slice ua T.len uc) W4) :
  BM sb A n C K w ob j Ts us s e ka kc n' vm W.heap.size W4.heap.size W4.heap.size T ua uc (W4.alloc (fS T.kind T.num T.name ua T.len uc)) := by
 have hlw := h.dw.low
 have Ez := (Array.getElem?_eq_some_iff.1 h.obx).1
 have hs : sb < ob + 1 := by have := h.low; omega
 have hz := d.kp.size
 have eV := bO W4 (fS T.kind T.num T.name ua T.len uc)
 refine ⟨(h.dw.step d.src d.kp).calm eV, h.low, ?_, (h.gw.kp hs d.kp).calm eV, h.ok, (h.sv.kp hs d.kp).calm eV, by have := h.few; omega, fun g hg => ?_, fun g hg => (h.gw.own.lt g hg).2, fun i hi => (h.gw.kid i hi).2.2.2, ⟨by omega, hz, Nat.le_refl _⟩, ah eV lr d.row, heap_alloc_new _ _⟩
 ·exact (eV.block ob (by omega)).trans (cm h.obx (by have := h.low; omega) d.kp)
 ·obtain ⟨a, b⟩ := h.ap g hg
  exact ⟨a, b, .inl (h.sv.lt g hg).2⟩
theorem BM.calm {sb A n C K : Nat} {w : World} {ob j : Nat} {Ts : Nat → Nd} {us : Nat → Value} {s e : Nat → Nat} {ka : Option Addr} {kc n' : Nat} {vm : Value} {lo hi bs : Nat} {T : Nd} {ua : Option Addr} {uc : Nat} {W W' : World} (h : BM sb A n C K w ob j Ts us s e ka kc n' vm lo hi bs T ua uc W) (hb : Below W.heap.size W W') : BM sb A n C K w ob j Ts us s e ka kc n' vm lo hi bs T ua uc W' := by
 have hl := h.lt
 have fO := h.int
 exact ⟨h.dw.calm hb, h.low, bE h.obx hb, h.gw.calm hb, h.ok, h.sv.calm hb, h.few, h.ap, h.kg, h.se, h.int, ah hb (by omega) h.row, bE h.bsb hb⟩
theorem BM.name {sb A n C K : Nat} {w : World} {ob j : Nat} {Ts : Nat → Nd} {us : Nat → Value} {s e : Nat → Nat} {ka : Option Addr} {kc n' : Nat} {vm : Value} {lo hi bs : Nat} {T : Nd} {ua : Option Addr} {uc : Nat} {W : World} (h : BM sb A n C K w ob j Ts us s e ka kc n' vm lo hi bs T ua uc W) (nm : ByteArray) : BM sb A n C K w ob j Ts us s e ka kc n' vm lo hi bs (T.nm nm) ua uc (W.setCell ⟨bs, 2, none⟩ (.string nm)) := by
 have hl := h.lt
 have fO := h.int
 have mM := h.low
 have he : ∀ k, k ≠ bs → (W.setCell ⟨bs, 2, none⟩ (.string nm)).heap[k]? = W.heap[k]? := fun k hk => Below.heap_setCell _ _ _ _ (by show k ≠ bs; exact hk)
 refine ⟨h.dw.any rfl rfl rfl (by simp [World.setCell]) (fun k hk => he k (by omega)), h.low, (he ob (by omega)).trans h.obx, h.gw.put (fun e => by have := h.kg _ e; omega) (fun i hi => .inr (by have := h.se i hi; omega)), h.ok, h.sv.keep (fun k hk => he k (by have := (h.ap k hk).2.2; omega)), h.few, h.ap, h.kg, h.se, h.int, ?_, ?_⟩
 ·exact Nd.nm_row (dc lr lr (fun g o h1 h2 => World.cell?_of_block (a := ⟨g, o, none⟩) (he g (by omega))) h.row)
 ·have := heap_setCell_same W bs 2 _ 25 (.string nm) h.bsb
  exact this.trans rfl
theorem BM.mine {sb A n C K : Nat} {w : World} {ob j : Nat} {Ts : Nat → Nd} {us : Nat → Value} {s e : Nat → Nat} {ka : Option Addr} {kc n' : Nat} {vm vm' : Value} {lo hi bs : Nat} {T : Nd} {ua : Option Addr} {uc : Nat} {W W' : World} (h : BM sb A n C K w ob j Ts us s e ka kc n' vm lo hi bs T ua uc W) (hf : n' ≤ n + j)
  (pU : Sv (ob + 1) (n' + 1) vm' W') (aX : W.grownBy W' vm.ownBlock) (eF : vm'.ownBlock = vm.ownBlock ∨ ∃ k, vm'.ownBlock = some k ∧ W.heap.size ≤ k) : BM sb A n C K w ob j Ts us s e ka kc (n' + 1) vm' lo hi bs T ua uc W' := by
 have hl := h.lt
 have fO := h.int
 have mM := h.low
 have hvb : ∀ k, vm.ownBlock = some k → ob + 1 ≤ k := fun k hk => (h.sv.lt k hk).1
 have he : ∀ k, k < W.heap.size → vm.ownBlock ≠ some k → W'.heap[k]? = W.heap[k]? := fun k hk hn => aX.block k hk (fun e => hn e.symm)
 refine ⟨h.dw.grown aX (fun k hk => by have := hvb k hk; omega), h.low, (he ob (by omega) (fun e => by have := hvb ob e; omega)).trans h.obx, h.gw.other aX (fun k hk => ⟨(h.ap k hk).1, (h.ap k hk).2.1⟩), h.ok, pU, by omega, fun g hg => ?_, h.kg, h.se, h.int, ?_, (he bs hl (fun e => by have := (h.ap bs e).2.2; omega)).trans h.bsb⟩
 ·rcases eF with EI | ⟨k, hk, K5⟩
  ·exact h.ap g (EI ▸ hg)
  ·rw [hk] at hg
   obtain rfl := Option.some.inj hg
   exact ⟨fun e => by have := h.kg _ e; omega, fun i hi => .inr (by have := h.se i hi; omega), .inr (by omega)⟩
 ·exact dc lr lr (fun g o h1 h2 => World.cell?_of_block (a := ⟨g, o, none⟩) (he g (by omega) (fun e => by have := (h.ap g e).2.2; omega))) h.row
theorem BM.done {sb A n C K : Nat} {w : World} {ob j : Nat} {Ts : Nat → Nd} {us : Nat → Value} {s e : Nat → Nat} {ka nX : Option Addr} {kc nW n' : Nat} {vm : Value} {lo hi bs : Nat} {T : Nd} {ua : Option Addr} {uc : Nat} {W W' : World} (h : BM sb A n C K w ob j Ts us s e ka kc n' vm lo hi bs T ua uc W) (hf : n' ≤ n + (j + 1)) (hT : T.Fine ∧ T.sOk = true ∧ T.cost ≤ C + 40)
  (cY : W'.ownsRow (ob + 1) 25 4 (.slice nX (j + 1) nW) (j + 1) (cR Ts us j ++ [.int .i64 T.kind, .int .i64 T.num, .string T.name, .slice ua T.len uc])) (aX : W.grownBy W' (Value.slice ka j kc).ownBlock) (eF : (Value.slice nX (j + 1) nW).ownBlock = (Value.slice ka j kc).ownBlock ∨ ∃ k, (Value.slice nX (j + 1) nW).ownBlock = some k ∧ W.heap.size ≤ k) :
  BI sb A n C K w ob (j + 1) (j4 Ts j T) (j4 us j (.slice ua T.len uc)) (j4 s j lo) (j4 e j hi) nX nW n' vm (W'.setCell ⟨ob, 3, none⟩ (.slice nX (j + 1) nW)) := by
 have hl := h.lt
 have fO := h.int
 have mM := h.low
 have EK : ∀ k, (Value.slice ka j kc).ownBlock = some k → ob + 1 ≤ k := fun k hk => (h.gw.own.lt k hk).1
 have hz := aX.size
 have he : ∀ k, k < W.heap.size → (Value.slice ka j kc).ownBlock ≠ some k → W'.heap[k]? = W.heap[k]? := fun k hk hn => aX.block k hk (fun e => hn e.symm)
 have hs : ∀ k, k ≠ ob → (W'.setCell ⟨ob, 3, none⟩ (.slice nX (j + 1) nW)).heap[k]? = W'.heap[k]? := fun k hk => Below.heap_setCell _ _ _ _ (by show k ≠ ob; exact hk)
 have hob' : W'.heap[ob]? = some (fS 4 0 ⟨#[]⟩ ka j kc) := (he ob (by omega) (fun e => by have := EK ob e; omega)).trans h.obx
 have fz := h.gw.step h.row fO.1 fO.2.1 (by omega) (fun g hg => .inl (h.kg g hg)) cY aX eF
 have hmul : A + j * K + K = A + (j + 1) * K := by rw [Nat.add_mul]; omega
 refine ⟨?_, h.low, ?_, fz.put (fun e => by have := (fz.own.lt _ e).1; omega) (fun i hi => .inl (by have := (fz.kid i hi).2.1; omega)), fun i hi => ?_, h.sv.keep (fun k hk => ?_), by omega, fun g hg => ?_⟩
 ·rw [← hmul]
  exact (h.dw.grown aX (fun k hk => by have := EK k hk; omega)).any rfl rfl rfl (by simp [World.setCell]) (fun k hk => hs k (by omega))
 ·have := heap_setCell_same W' ob 3 _ 25 (.slice nX (j + 1) nW) hob'
  exact this.trans rfl
 ·by_cases iY : i = j
  ·subst iY; rw [cD]; exact hT
  ·rw [cW _ _ iY]; exact h.ok i (by omega)
 ·have jE := h.sv.lt k hk
  exact (hs k (by omega)).trans (he k jE.2 (h.ap k hk).1)
 ·obtain ⟨a, b, c⟩ := h.ap g hg
  have hg1 := h.sv.lt g hg
  refine ⟨fun e => ?_, fun i hi => ?_⟩
  ·rcases eF with EI | ⟨k, hk, K5⟩
   ·exact a (EI ▸ e)
   ·rw [hk] at e; obtain rfl := Option.some.inj e; omega
  ·by_cases iY : i = j
   ·subst iY; rw [cD, cD]; omega
   ·rw [cW _ _ iY, cW _ _ iY]; exact b i (by omega)
def DigC (f : Nat) : Prop := ∀ (n : Nat) (w : World), n < 10 ^ (f + 1) → n ≤ 9223372036854775807 →
 Calls Tryz.prog 39 #[.int .i64 n] w fun e w' => e = .returned (.string (eO (eI (f + 1) n))) ∧ Below w.heap.size w w'
theorem Jm (W : World) (n : Nat) (x : Int) (hx : x = 48 + (n : Int)) (hn : n < 10) (g : Nat) (hg : W.cell? ⟨g, 0, none⟩ = some (.int .u8 x)) :
  (convert 22 9 (.slice (some ⟨g, 0, none⟩) 1 1)).run Tryz.prog W = .ok (.string (eO [UInt8.ofNat (48 + n)])) W := by
 refine run_convert_bytes_back (P := Tryz.prog) W 22 9 5 ⟨g, 0, none⟩ 1 [UInt8.ofNat (48 + n)] Tryz.underlying22 Tryz.underlying5 Tryz.underlying9 ?_
 have k_Y7_0 := kk
 exact bY7
theorem Fl (W : World) (n : Nat) (x : Int) (hx : x = 48 + (n : Int)) (hn : n < 10) :
  (convert 22 9 (.slice (some ⟨W.heap.size, 0, none⟩) 1 1)).run Tryz.prog (W.alloc (.cells #[.int .u8 x] 5)) = .ok (.string (eO [UInt8.ofNat (48 + n)])) (W.alloc (.cells #[.int .u8 x] 5)) := by
 refine run_convert_bytes_back (P := Tryz.prog) (W.alloc (.cells #[.int .u8 x] 5)) 22 9 5 ⟨W.heap.size, 0, none⟩ 1 [UInt8.ofNat (48 + n)] Tryz.underlying22 Tryz.underlying5 Tryz.underlying9 ?_
 have k_Y7_1 := kk
 exact bY7
theorem zE (n : Nat) (w : World) (hn : n < 10) : Calls Tryz.prog 39 #[.int .i64 n] w fun e w' => e = .returned (.string (eO [UInt8.ofNat (48 + n)])) ∧ Below w.heap.size w w' := by
 have hcv := Fl w n (48 + n) rfl hn
 have HB : Hid (∀ o, Below w.heap.size w (w.alloc o)) := fun o => bA
 generalize eO [UInt8.ofNat (48 + n)] = r at *
 go_enter Tryz.func39, Tryz.ntmps39
 go_wp2
 go_ret
 exact ⟨rfl, HB.out _⟩
theorem BL (f n : Nat) (hn : ¬ n < 10) : eI (f + 2) n = eI (f + 1) (n / 10) ++ [UInt8.ofNat (48 + n % 10)] := by
 rw [eI, if_neg hn]
theorem Fi (f n : Nat) (w : World) (hn : ¬ n < 10) (hm : n ≤ 9223372036854775807) (ih : ∀ w : World, Calls Tryz.prog 39 #[.int .i64 ((n / 10 : Nat) : Int)] w fun e w' => e = .returned (.string (eO (eI (f + 1) (n / 10)))) ∧ Below w.heap.size w w') (hl : (eI (f + 1) (n / 10)).length ≤ 100) :
  Calls Tryz.prog 39 #[.int .i64 n] w fun e w' => e = .returned (.string (eO (eI (f + 2) n))) ∧ Below w.heap.size w w' := by
 rw [BL f n hn]
 have hq : Int.tdiv (n : Int) 10 = ((n / 10 : Nat) : Int) := by rfl
 have hr : Int.tmod (n : Int) 10 = ((n % 10 : Nat) : Int) := by rfl
 have M7 : n % 10 < 10 := Nat.mod_lt _ (by decide)
 have HI := aa ih
 have HC := aa fun (W : World) (g : Nat) (hg : W.cell? ⟨g, 0, none⟩ = some (.int .u8 (48 + ((n % 10 : Nat) : Int)))) => Jm W (n % 10) _ rfl M7 g hg
 have Nc : (0 : Int) ≤ ((n / 10 : Nat) : Int) ∧ ((n / 10 : Nat) : Int) ≤ 9223372036854775807 := by omega
 have HS := aa (ow (eI (f + 1) (n / 10)) [UInt8.ofNat (48 + n % 10)])
 have aD : (eO (eI (f + 1) (n / 10))).size ≤ 100 := by simpa [eO, ByteArray.size] using hl
 have aC : (eO [UInt8.ofNat (48 + n % 10)]).size = 1 := rfl
 generalize n / 10 = q at *
 generalize n % 10 = r at *
 have vZ : IntKind.i64.wrap (q : Int) = q := by simp [IntKind.wrap, IntKind.bits, IntKind.signed]; omega
 have hw2 : IntKind.i64.wrap (48 + (r : Int)) = 48 + r := by simp [IntKind.wrap, IntKind.bits, IntKind.signed]; omega
 have hw3 : IntKind.u8.wrap (48 + (r : Int)) = 48 + r := by simp [IntKind.wrap, IntKind.bits, IntKind.signed]; omega
 have hcv1 : ∀ W : World, (convert 22 9 (.slice (some ⟨W.heap.size, 0, none⟩) 1 1)).run Tryz.prog (W.alloc (.cells #[.int .u8 (48 + (r : Int))] 5)) = .ok (.string (eO [UInt8.ofNat (48 + r)])) (W.alloc (.cells #[.int .u8 (48 + (r : Int))] 5)) :=
  fun W => HC.out _ _ (by simp)
 have hcv2 : (convert 22 9 (.slice (some ⟨w.heap.size, 0, none⟩) 1 1)).run Tryz.prog (w.alloc (.cells #[.int .u8 (48 + (r : Int))] 5)).drew = .ok (.string (eO [UInt8.ofNat (48 + r)])) (w.alloc (.cells #[.int .u8 (48 + (r : Int))] 5)).drew :=
  HC.out _ _ (by simp)
 have HC3 : Hid (∀ W' : World, Below (w.alloc (.cells #[.int .u8 (48 + (r : Int))] 5)).drew.heap.size (w.alloc (.cells #[.int .u8 (48 + (r : Int))] 5)).drew W' → (convert 22 9 (.slice (some ⟨w.heap.size, 0, none⟩) 1 1)).run Tryz.prog W' = .ok (.string (eO [UInt8.ofNat (48 + r)])) W') :=
  fun W' hb => HC.out _ _ (by rw [hb.cell (p := ⟨w.heap.size, 0, none⟩) (by simp)]; simp)
 have HBa : Hid (∀ (W' : World) (o : Obj), Below w.drew.heap.size w.drew W' → Below w.heap.size w (W'.alloc o)) := fun W' o hb =>
  (show Below w.heap.size w W' from ⟨hb.os, hb.tape, hb.output, hb.size, hb.block⟩).alloc hb.size _
 have HBb : Hid (∀ (W' : World) (o : Obj), Below (w.alloc o).drew.heap.size (w.alloc o).drew W' → Below w.heap.size w W') := fun W' o hb =>
  (bO w o).trans ((show Below (w.alloc o).heap.size (w.alloc o) W' from ⟨hb.os, hb.tape, hb.output, hb.size, hb.block⟩).mono (by simp))
 rw [← HS.out]
 generalize eO (eI (f + 1) q) = s1 at *
 generalize eO [UInt8.ofNat (48 + r)] = s2 at *
 clear ih
 go_enter Tryz.func39, Tryz.ntmps39
 go_wp2
 go_region_with (go_at_call 39; refine (HI.out _).mono ?_; rintro e w' ⟨rfl, hb⟩; (try have hcv3 := HC3.out _ hb))
 all_goals go_wp2
 all_goals go_ret
 all_goals first | exact ⟨rfl, HBa.out _ _ hb⟩ | exact ⟨rfl, HBb.out _ _ hb⟩
theorem Fj (f : Nat) : ∀ n, (eI f n).length ≤ f := by
 induction f with
 |zero => intro n; simp [eI]
 |succ f ih => intro n; rw [eI]; split; simp; simp; exact ih _
theorem Jj (f : Nat) (hf : f ≤ 90) : DigC f := by
 induction f with
 |zero =>
  intro n w h hm
  have h : n < 10 := by simpa using h
  have e : eI 1 n = [UInt8.ofNat (48 + n)] := by simp [eI, h]
  rw [e]; exact zE n w h
 |succ f ih =>
  intro n w h hm
  by_cases hn : n < 10
  ·have e : eI (f + 2) n = [UInt8.ofNat (48 + n)] := by simp [eI, hn]
   rw [e]; exact zE n w hn
  ·refine Fi f n w hn hm (fun w => ih (by omega) (n / 10) w (by rw [Nat.pow_succ] at h; omega) (by omega)) ?_
   have := Fj (f + 1) (n / 10)
   omega
theorem zF (n : Nat) (w : World) (h : n ≤ 999999999999999999) : Calls Tryz.prog 39 #[.int .i64 n] w fun e w' => e = .returned (.string (eO (eI 20 n))) ∧ Below w.heap.size w w' :=
 Jj 19 (by decide) n w (by have : (10 : Nat) ^ 20 = 100000000000000000000 := (by decide); omega) (by omega)
theorem lK (w : World) (a b c : Value) (t : TypeId) : ∀ j u, ([a, b, c] : List Value)[j]? = some u → (w.alloc (.cells #[a, b, c] t)).cell? ((⟨w.heap.size, 0, none⟩ : Addr).add j) = some u := by
 intro j u h
 match j, h with
 |0, h => obtain rfl := Option.some.inj h; simp [Addr.add]
 |1, h => obtain rfl := Option.some.inj h; simp [Addr.add]
 |2, h => obtain rfl := Option.some.inj h; simp [Addr.add]
 |j + 3, h => simp at h
theorem nc (s : ByteArray) (a b : Int) : ∀ u ∈ [Value.string s, .int .i64 a, .int .i64 b], u.oneCell' = true := by
 intro u hu; simp at hu; rcases hu with rfl | rfl | rfl <;> rfl
theorem qg (f : Nat → ByteArray × Int × Int) (x : ByteArray × Int × Int) : ∀ {j k : Nat}, j ≤ k → fh (j4 f k x) j = fh f j
 |0, _, _ => rfl
 |j + 1, k, h => by simp only [fh]; rw [qg f x (show j ≤ k by omega), cW _ _ (show j ≠ k by omega)]
theorem sL {B n : Nat} {f : Nat → ByteArray × Int × Int} {nm : ByteArray} {t : Int} {v : Value} {w : World} (hf : ∀ i, i < n → aR (f i).1 = true) (hn : aR nm = true) (h : w.ownsRow B 92 3 v (n + 1) (fh f n ++ [.string nm, .int .i64 t, .int .i64 0])) : Sv B (n + 1) v w := by
 refine ⟨j4 f n (nm, t, 0), ?_, fun i hi => ?_⟩
 ·simp only [fh]
  rw [qg f _ (Nat.le_refl n), cD]
  exact h
 ·by_cases e : i = n
  ·subst e; rw [cD]; exact hn
  ·rw [cW _ _ e]; exact hf i (by omega)
theorem tF (deep : Int) (C K M : Nat) (h0 : 0 ≤ deep) (h9 : deep ≤ 100) (hC : C ≤ 100000000) (hK : K ≤ 100000000) (ST : XX deep C K M) : Kv deep (C + 41) K M := by
 intro sb A n m v loops w hA hnM h hs
 have HD := aa (DW.start h)
 obtain ⟨va, vc, rfl, _⟩ := id hs
 have ja := bO w dL
 have SC := aa (fun B W (hd : DW sb B w W) => (hs.keep (bG ja _)).keep hd.kp)
 have mM : sb < w.heap.size := h.lt
 have STH := aa ST
 obtain ⟨i0, lq, oQ, eT, ed⟩ := info_parts uO
 obtain ⟨iv, Ns, xx, xw, xu⟩ := info_parts sY
 unfold dL at *
 clear h ja ST
 go_enter Tryz.func33, Tryz.ntmps33
 go_wp2_with fail
 refine (bU _ _ _ _ _ _ _).mono ?_
 rintro e w1 ⟨rfl, hb⟩
 have mZ := aa (HD.out.calm hb)
 have hz1' := mZ.out.size
 have Ez := heap_alloc_new w1 (.cells #[.int .i64 4, .int .i64 0, .string ⟨#[]⟩, .slice none 0 0] 25)
 have jM := aa (mZ.out.alloc (.cells #[.int .i64 4, .int .i64 0, .string ⟨#[]⟩, .slice none 0 0] 25))
 obtain ⟨v3, w3, ei, pU, cZ⟩ := oj (B := w1.heap.size + 1) (SC.out _ _ jM.out) (by simp)
 simp only [World.size_alloc] at ei cZ
 obtain ⟨a3, c3, rfl⟩ := pU.shape
 have nF := aa ei
 have gu := aa (jM.out.calm (by simpa using cZ))
 have Yd := aa ((cZ.block w1.heap.size (by omega)).trans Ez)
 have LA := aa pU
 obtain ⟨ob, SW⟩ : ∃ b, b = w1.heap.size := ⟨_, rfl⟩
 have Yt : Hid (BI sb A n C K w ob 0 (fun _ => .nil) (fun _ => undef) (fun _ => 0) (fun _ => 0) none 0 n (.slice a3 n c3) w3) := by
  subst SW
  refine ⟨by simpa using gu.out, by omega, Yd.out, Gw.start _ _ _ _ (World.ownsRow_nil _ _ _ _), fun i hi => absurd hi (Nat.not_lt_zero _), LA.out, by omega, fun g hg => ⟨fun e => by simp [Value.ownBlock] at e, fun i hi => absurd hi (Nat.not_lt_zero _)⟩⟩
 clear ei hb HD Ez cZ pU mZ jM gu Yd LA
 go_wp2_with (at_builtin; refine dW _ rfl _ _ 49 rfl _ _ _ _ rfl rfl nF.out ?_)
 clear nF SC
 subst SW
 go_loopw [12, 13] (fun mine i wr => ∃ (j : Nat) (Ts : Nat → Nd) (us : Nat → Value) (s e : Nat → Nat) (ka : Option Addr) (kc n' : Nat) (ma : Option Addr) (mc : Nat), j ≤ m ∧ i = .int .i64 j ∧ mine = .slice ma n' mc ∧ BI sb A n C K w w1.heap.size j Ts us s e ka kc n' (.slice ma n' mc) wr) (fun _ i _ => m - (intOf i).toNat)
 case atStart => exact ⟨0, _, _, _, _, _, _, _, _, _, Nat.zero_le _, rfl, rfl, Yt.out⟩
 case round =>
  obtain ⟨j, Ts, us, s, e, ka, kc, n', ma, mc, hj, rfl, rfl, hbi⟩ := hrel
  clear Yt
  have B8 := aa hbi
  have dK := hbi.few
  have hlowob := hbi.low
  clear hbi
  by_cases bN : j < m
  ·have La : (j : Int) < (m : Int) := by omega
   have hmul : A + j * K + K ≤ A + m * K := by
    have : (j + 1) * K ≤ m * K := Nat.mul_le_mul_right _ bN
    rw [Nat.add_mul] at this; omega
   have Yw := aa (STH.out sb (A + j * K) n' (.slice ma n' mc) loops wr (by omega) (by omega) B8.out.dw.src (B8.out.sv.scp (by omega) (by omega)))
   go_wp2_with fail
   refine Yw.out.mono ?_
   rintro e' w4 ⟨T, u, rfl, hd⟩
   obtain ⟨ua, uc, rfl⟩ := be hd.row
   have hTl := Nd.fine_len hd.fine
   have HT : Hid (T.Fine ∧ T.sOk = true ∧ T.cost ≤ C) := ⟨hd.fine, hd.ok, hd.cost⟩
   obtain ⟨lo, fy⟩ : ∃ l, l = wr.heap.size := ⟨_, rfl⟩
   have lH := aa (B8.out.st hd)
   rw [← fy] at lH
   have Kb := aa dK
   clear hd Yw B8 fy dK
   unfold Nd.val
   obtain ⟨W5, Lj⟩ : ∃ W, w4.alloc (fS T.kind T.num T.name ua T.len uc) = W := ⟨_, rfl⟩
   have X5 := aa Lj
   rw [Lj] at lH
   clear Lj
   go_upto_region 7 with fail
   rw [show (w4.alloc (Obj.cells #[.int .i64 T.kind, .int .i64 T.num, .string T.name, .slice ua T.len uc] 25)) = W5 from X5.out]
   clear X5
   obtain ⟨b0, b1, b2, b3, bf⟩ := ax lH.out.bsb
   by_cases h5 : T.kind = 5
   ·have h5b : (T.kind == 5) = true := by rw [h5]; rfl
    obtain ⟨wb, Nl⟩ := Hz HT.out.2.1 h5
    have Gr := aa Nl
    have hnsz := fD Nl
    have hn6 : n' ≤ 1000 := by have := Kb.out; omega
    have FP := aa (lH.out.sv.scp (sb := sb) (by omega) (by omega))
    obtain ⟨_, _, hue, _, huq⟩ := aH.1 lH.out.row
    injection hue with q1 _ q3
    subst q1 q3
    rcases huq with KN | ⟨g, off, rfl, _, _, qL⟩
    ·omega
    obtain ⟨u0, k0, k1, k2, k3, _⟩ := qL 0 (by omega)
    simp only [Nat.zero_mul, Nat.add_zero] at k0 k1 k2 k3
    have Tf : (0 : Int) < (T.len : Int) := by omega
    clear Nl qL
    by_cases EZ : (T.kids 0).kind = 26
    ·have h26b : ((T.kids 0).kind == 26) = true := by rw [EZ]; rfl
     have k_Y6_0 := kk
     exact bY6
    ·have h26b : ((T.kids 0).kind == 26) = false := bn EZ
     by_cases By : (T.kids 0).kind = 23
     ·have h23b : ((T.kids 0).kind == 23) = true := by rw [By]; rfl
      have k_Y6_1 := kk
      exact bY6
     ·have h23b : ((T.kids 0).kind == 23) = false := bn By
      have k_Y6_2 := kk
      exact bY6
   ·have h5b : (T.kind == 5) = false := bn h5
    have sC : Hid (T.Fine ∧ T.sOk = true ∧ T.cost ≤ C + 40) := ⟨HT.out.1, HT.out.2.1, by have := HT.out.2.2; omega⟩
    obtain ⟨wz, KO⟩ : ∃ W, W = W5 := ⟨_, rfl⟩
    have hfw := Kb.out
    rw [← KO] at lH b0 b1 b2 b3 bf ⊢
    clear KO
    have hobl := lH.out.low
    obtain ⟨o0, o1, o2, o3, of⟩ := ax lH.out.obx
    have hoq := ld o3
    have hHT : Hid (T.Fine ∧ T.sOk = true ∧ T.cost ≤ C + 40) := sC
    have of3 := of 3
    go_wp2_with (at_builtin; refine bp _ rfl _ _ 23 rfl (w1.heap.size + 1) 25 i0 (.agg #[.int .i64 0, .int .i64 0, .string ⟨#[]⟩, .slice none 0 0]) 4 56 Tryz.underlying23 lq oQ eT ed rfl (by decide) _ j _ rfl (lH.out.gw.own.alloc _) ⟨wz.heap.size, 0, none⟩ 1 1 [.int .i64 (T).kind, .int .i64 (T).num, .string (T).name, .slice ua (T).len uc] rfl rfl (ku _ _ _ _ _ _) (kt _ _ _ _ _ _) (by unfold maxLen; omega) (by omega) (by simp; have := lH.out.int; have := lH.out.lt; omega) ?_; intro v' w9 cY aX eF Gc; obtain ⟨nX, nW, rR⟩ := Gc.out; subst rR; have ET : w9.heap[w1.heap.size]? = some (fS 4 0 ⟨#[]⟩ ka j kc) := (aX.out.block w1.heap.size (by simp; have := lH.out.int; have := lH.out.lt; omega) (fun e => by have := (lH.out.gw.own.lt w1.heap.size e.symm).1; omega)).trans ((Below.heap_alloc wz _ w1.heap.size (by have := lH.out.int; have := lH.out.lt; omega)).trans lH.out.obx); obtain ⟨p0, p1, p2, p3, pf⟩ := ax ET; have pf3 := pf 3; clear ET)
    exact bY3
  ·obtain rfl : j = m := by omega
   have La : ¬ (j : Int) < (j : Int) := by omega
   obtain ⟨o0, o1, o2, o3, of⟩ := ax B8.out.obx
   obtain ⟨f0, f1, f2, f3, ff⟩ := B8.out.dw.cells
   have dJ := B8.out.gw.row (lo := w.heap.size + 1) (by omega) 4 0 ⟨#[]⟩
   have nG := aa dJ
   have tV := aa B8.out.dw
   have Qi := B8.out.ok
   have oY := aa Qi
   clear dJ Qi B8
   go_wp2
   refine bodyPost_ret (tV.out.read Tryz.results33 rfl _ _ _ _) rfl ⟨.mk 4 0 ⟨#[]⟩ j Ts, _, rfl, ?_⟩
   exact (tV.out.fin (P := fun T => T.kind = 4 ∧ T.sOk = true ∧ T.len = j) (C := j * (C + 41)) nG.out ⟨by omega, by omega, by decide, by show j ≤ _; omega, fun i hi => (oY.out i hi).1⟩ ⟨rfl, rG fun i hi => (oY.out i hi).2.1, rfl⟩ (yh fun i hi => (oY.out i hi).2.2)).more (by omega)
section
open Go Go.RowKit
def AV (B b j : Nat) (P : (Nat → Nd) → Prop) (w : World) (x : Value) : Prop := ∃ (Ts : Nat → Nd) (us : Nat → Value) (s e : Nat → Nat) (a : Option Addr) (c : Nat), x = .slice a j c ∧ Gw B Ts us s e j (.slice a j c) w ∧ P Ts ∧ (Value.slice a j c).ownBlock ≠ some b ∧ ∀ i, i < j → b < s i ∨ e i ≤ b
theorem AV.put {B j b o : Nat} {P : (Nat → Nd) → Prop} {w : World} {x y : Value} (h : AV B b j P w x) : AV B b j P (w.setCell ⟨b, o, none⟩ y) x := by
 obtain ⟨Ts, us, s, e, a, c, h1, h2, h3, h4, h5⟩ := h
 exact ⟨Ts, us, s, e, a, c, h1, h2.put h4 h5, h3, h4, h5⟩
def GV (lo : Nat) (P : Nd → Prop) (w : World) (x : Value) : Prop := ∃ (A : Nd) (u : Value) (g : Nat), P A ∧ lo ≤ g ∧ x = .slice (some ⟨g, 0, none⟩) 1 1 ∧ Gw lo (fun _ => A) (fun _ => u) (fun _ => lo) (fun _ => g) 1 (.slice (some ⟨g, 0, none⟩) 1 1) w
theorem GV.stable {lo : Nat} {P : Nd → Prop} {w w' : World} {x : Value} (h : Wn lo w w') (hx : GV lo P w x) : GV lo P w' x := by
 obtain ⟨A, u, g, h1, h2, h3, h4⟩ := hx
 exact ⟨A, u, g, h1, h2, h3, h4.keep h.size fun k k1 k2 _ => h.block k k2 k1⟩
theorem GV.new {lo : Nat} {P : Nd → Prop} {w : World} {A : Nd} {u : Value} (hp : P A) (fy : lo ≤ w.heap.size) (h : Row lo w.heap.size w A u) : GV lo P (w.alloc (.cells #[.int .i64 A.kind, .int .i64 A.num, .string A.name, u] 25)) (.slice (some ⟨w.heap.size, 0, none⟩) 1 1) := by
 refine ⟨A, u, w.heap.size, hp, fy, rfl, ⟨by simp [cR], .inr ⟨w.heap.size, 1, _, rfl, fy, heap_alloc_new w _, Nat.le_refl _, by unfold maxLen; omega, by simp, by simp [cR]⟩⟩, fun i hi => ⟨?_, Nat.le_refl _, fy, by simp⟩, fun i hi g hg => .inr (by simp [Value.ownBlock] at hg; omega)⟩
 exact ah (bO w _) lr h
theorem Gw.two {B : Nat} {W V : World} {A A' : Nd} {u u' : Value} {s0 e0 s1 e1 : Nat} (h : Row s0 e0 W A u) (h' : Row s1 e1 W A' u') (hs : B ≤ s0 ∧ s0 ≤ e0 ∧ e0 ≤ W.heap.size) (P8 : B ≤ s1 ∧ s1 ≤ e1 ∧ e1 ≤ W.heap.size) (hB : B ≤ W.heap.size)
  (hb : Below (W.heap.size + 1) (W.alloc (.cells #[.int .i64 A.kind, .int .i64 A.num, .string A.name, u, .int .i64 A'.kind, .int .i64 A'.num, .string A'.name, u'] 25)) V) :
  Gw B (j4 (fun _ => A') 0 A) (j4 (fun _ => u') 0 u) (j4 (fun _ => s1) 0 s0) (j4 (fun _ => e1) 0 e0) 2 (.slice (some ⟨W.heap.size, 0, none⟩) 2 2) V := by
 have hz := hb.size
 simp only [World.size_alloc] at hz
 have hA := bO W (.cells #[.int .i64 A.kind, .int .i64 A.num, .string A.name, u, .int .i64 A'.kind, .int .i64 A'.num, .string A'.name, u'] 25)
 have hAB := hA.trans (hb.mono (Nat.le_succ _))
 refine ⟨⟨by simp [cR], .inr ⟨W.heap.size, 2, _, rfl, hB, (hb.block W.heap.size (Nat.lt_succ_self _)).trans (heap_alloc_new W _), Nat.le_refl _, by unfold maxLen; omega, by simp, by simp [cR, j4]⟩⟩, fun i hi => ?_, fun i hi g hg => ?_⟩
 ·rcases (by omega : i = 0 ∨ i = 1) with rfl | rfl
  ·rw [cD, cD, cD, cD]; exact ⟨ah hAB hs.2.2 h, hs.1, hs.2.1, by omega⟩
  ·rw [cW _ _ (by omega), cW _ _ (by omega), cW _ _ (by omega), cW _ _ (by omega)]; exact ⟨ah hAB P8.2.2 h', P8.1, P8.2.1, by omega⟩
 ·have Bn : g = W.heap.size := by simp [Value.ownBlock] at hg; omega
  subst Bn
  rcases (by omega : i = 0 ∨ i = 1) with rfl | rfl
  ·rw [cD, cD]; exact .inr hs.2.2
  ·rw [cW _ _ (by omega), cW _ _ (by omega)]; exact .inr P8.2.2
def hQ (C : Nat) (T : Nd) : Prop := T.Fine ∧ (T.kind = 4 ∧ T.sOk = true) ∧ T.cost ≤ C
def X2 (m C : Nat) (Ts : Nat → Nd) : Prop := ((Ts 0).Fine ∧ (Ts 0).eOk = true ∧ (Ts 0).cost ≤ 700) ∧ ∀ i, 1 ≤ i → i < m → hQ C (Ts i)
theorem yP {k : Int} {s : ByteArray} {m C : Nat} {Ts : Nat → Nd} (hm : m = 2 ∨ m = 3) (h : X2 m C Ts) : (Nd.mk 10 0 ⟨#[]⟩ m Ts).sOk = true ∧ (Nd.mk 10 0 ⟨#[]⟩ m Ts).Fine ∧ (Nd.mk 10 0 ⟨#[]⟩ m Ts).cost ≤ 703 + 2 * C := by
 obtain ⟨⟨a1, a2, a3⟩, hb⟩ := h
 have b1 := hb 1 (by omega) (by omega)
 rcases hm with rfl | rfl
 ·refine ⟨?_, ⟨by omega, by omega, by decide, by omega, fun i hi => ?_⟩, ?_⟩
  ·rw [bK]
   show bd 10 0 ⟨#[]⟩ 2 (fun i => (Ts i).eOk) (fun i => (Ts i).sOk) (fun i => (Ts i).cOk) (Nd.mk 10 0 ⟨#[]⟩ 2 Ts).kk = true
   have k1 : (Nd.mk 10 0 ⟨#[]⟩ 2 Ts).kk 1 = 4 := b1.2.1.1
   simp [bd, aK, cq, aG, ao, ByteArray.size, a2, b1.2.1.2, k1]
  ·rcases (by omega : i = 0 ∨ i = 1) with rfl | rfl
   ·exact a1
   ·exact b1.1
  ·show ByteArray.size ⟨#[]⟩ + (2 + ar (fun i => (Ts i).cost) 2) ≤ _
   have e : ByteArray.size ⟨#[]⟩ = 0 := by decide
   have := b1.2.2
   simp only [ar, e]; omega
 ·have b2 := hb 2 (by omega) (by omega)
  refine ⟨?_, ⟨by omega, by omega, by decide, by omega, fun i hi => ?_⟩, ?_⟩
  ·rw [bK]
   show bd 10 0 ⟨#[]⟩ 3 (fun i => (Ts i).eOk) (fun i => (Ts i).sOk) (fun i => (Ts i).cOk) (Nd.mk 10 0 ⟨#[]⟩ 3 Ts).kk = true
   have k1 : (Nd.mk 10 0 ⟨#[]⟩ 3 Ts).kk 1 = 4 := b1.2.1.1
   have k2 : (Nd.mk 10 0 ⟨#[]⟩ 3 Ts).kk 2 = 4 := b2.2.1.1
   simp [bd, aK, cq, aG, ao, ByteArray.size, a2, b1.2.1.2, b2.2.1.2, k1, k2]
  ·rcases (by omega : i = 0 ∨ i = 1 ∨ i = 2) with rfl | rfl | rfl
   ·exact a1
   ·exact b1.1
   ·exact b2.1
  ·show ByteArray.size ⟨#[]⟩ + (3 + ar (fun i => (Ts i).cost) 3) ≤ _
   have e : ByteArray.size ⟨#[]⟩ = 0 := by decide
   have := b1.2.2
   have := b2.2.2
   simp only [ar, e]; omega
def FJ (sb b lo B C n : Nat) (ka va : Option Addr) (kc vc : Nat) (deep : Int) (loops : Bool) (i : Nat) (w : World) (x : Value) : Prop := match i with
 |0 => x = .pointer (some ⟨b, 3, none⟩)
 |1 => x = .slice ka 2 kc
 |2 => x = .pointer (some ⟨sb, 0, none⟩)
 |3 => x = .slice va n vc
 |4 => x = .int .i64 deep
 |5 => x = .int .i64 (deep - 1)
 |6 => x = .pointer (some ⟨sb, 0, none⟩)
 |7 => ∃ q : Nat, q < 3 ∧ x = .int .i64 (q : Int)
 |8 => x = .bool loops
 |9 => TV lo (hQ C) w x
 |10 => LV lo (fun T => ∃ A, hQ C A ∧ T = bX 0 0 ⟨#[]⟩ A) w x
 |11 => AV B b 3 (X2 3 C) w x
 |12 => x = .pointer (some ⟨b, 3, none⟩)
 |_ => True
theorem tL {sb b lo B C n : Nat} {ka va : Option Addr} {kc vc : Nat} {deep : Int} {loops : Bool} {l : Array Bool} {v v' : World} (h : Wn lo v v') (bD : l.getD 11 false = false) (aM : l.getD 13 false = false) : ∀ j x, l.getD j false = true → FJ sb b lo B C n ka va kc vc deep loops j v x → FJ sb b lo B C n ka va kc vc deep loops j v' x := by
 intro j x hl hx
 match j, hx with
 |0, hx => exact hx
 |1, hx => exact hx
 |2, hx => exact hx
 |3, hx => exact hx
 |4, hx => exact hx
 |5, hx => exact hx
 |6, hx => exact hx
 |7, hx => exact hx
 |8, hx => exact hx
 |9, hx => exact TV.stable h hx
 |10, hx => exact LV.stable h hx
 |11, _ => rw [bD] at hl; cases hl
 |12, hx => exact hx
 |13, _ => rw [aM] at hl; cases hl
 |(k + 14), _ => exact trivial
theorem Ph {sb b lo B C n : Nat} {ka va : Option Addr} {kc vc : Nat} {deep : Int} {loops : Bool} {o : Nat} {y : Value} {v : World} (hb : b < lo) : ∀ j x, FJ sb b lo B C n ka va kc vc deep loops j v x → FJ sb b lo B C n ka va kc vc deep loops j (v.setCell ⟨b, o, none⟩ y) x := by
 intro j x hx
 match j, hx with
 |0, hx => exact hx
 |1, hx => exact hx
 |2, hx => exact hx
 |3, hx => exact hx
 |4, hx => exact hx
 |5, hx => exact hx
 |6, hx => exact hx
 |7, hx => exact hx
 |8, hx => exact hx
 |9, hx => exact TV.stable (Wn.of_set hb) hx
 |10, hx => exact LV.stable (Wn.of_set hb) hx
 |11, hx => exact AV.put hx
 |12, hx => exact hx
 |13, hx => exact hx
 |(k + 14), _ => exact trivial
def tW (i : Nat) : Nat := [146, 147, 148, 149, 150, 151, 152, 153, 154, 155, 156, 157, 158, 1013].getD i 2000
theorem Kt (i j : Nat) (hi : i < 14) (hj : j < 14) (h : tW i = tW j) : i = j := by
 have : ((List.range 14).all fun i => (List.range 14).all fun j => tW i != tW j || i == j) = true := by decide
 exact bY2
theorem qt {deep : Int} {C K M : Nat} (BD : Kv deep C K M) (sb B n m : Nat) (v : Value) (loops : Bool) (W : World) (hm : m ≤ 2) (hB : B + (2 * K + 10) ≤ 1099511627776) (hn : n + 2 + M ≤ 1000) (hs : Src sb B W) (hv : Scp sb W v n) :
  Calls Tryz.prog 33 #[.pointer (some ⟨sb, 0, none⟩), v, .int .i64 deep, .int .i64 m, .bool loops] W fun e w' => ∃ T u, e = .returned (T.val u) ∧ Drawn sb (B + (2 * K + 10)) (fun T => (T.kind = 4 ∧ T.sOk = true) ∧ T.len ≤ 2) (2 * C) W T u w' := by
 have h1 : m * K ≤ 2 * K := Nat.mul_le_mul_right _ hm
 have h2 : m * C ≤ 2 * C := Nat.mul_le_mul_right _ hm
 refine (BD sb B n m v loops W (by omega) (by omega) hs hv).mono ?_
 rintro e w' ⟨T, u, h3, d⟩
 exact ⟨T, u, h3, ⟨d.row, d.fine, ⟨⟨d.ok.1, d.ok.2.1⟩, by rw [d.ok.2.2]; exact hm⟩, by have := d.cost; omega, d.src.mono (by omega), d.kp⟩⟩
def F36 (sb A B b C : Nat) (w : World) (v : World) : Prop := DW sb A w v ∧ ∃ (Ts : Nat → Nd) (us : Nat → Value) (s e : Nat → Nat) (a : Option Addr) (c : Nat), v.heap[b]? = some (fS 10 0 ⟨#[]⟩ a 3 c) ∧ Gw B Ts us s e 3 (.slice a 3 c) v ∧ X2 3 C Ts
theorem Gw.weak {B B' j : Nat} {Ts : Nat → Nd} {us : Nat → Value} {s e : Nat → Nat} {v : Value} {w : World} (h : Gw B Ts us s e j v w) (hB : B' ≤ B) : Gw B' Ts us s e j v w := by
 refine ⟨⟨h.own.1, ?_⟩, fun i hi => ?_, h.apart⟩
 ·rcases h.own.2 with h1 | ⟨g, cap, cur, h1, h2, h3⟩
  ·exact .inl h1
  ·exact .inr ⟨g, cap, cur, h1, by omega, h3⟩
 ·obtain ⟨k1, k2, k3, k4⟩ := h.kid i hi
  exact ⟨k1, by omega, k3, k4⟩
def ct (A T : Nd) : Nd := .mk T.kind T.num T.name (1 + T.len) (cJ (fun _ => A) 1 T.kids)
theorem ug (f g : Nat → Nat) : ∀ m, ar (cJ f 1 g) (1 + m) = f 0 + ar g m
 |0 => by simp [ar, cJ]
 |m + 1 => by
  rw [← Nat.add_assoc]
  simp only [ar]
  rw [ug f g m, bW _ _ (by omega), show 1 + m - 1 = m by omega]
  omega
theorem oi (A T : Nd) : (ct A T).cost = T.cost + (1 + A.cost) := by
 rw [T.cost_eq]
 show T.name.size + ((1 + T.len) + ar (fun i => (cJ (fun _ => A) 1 T.kids i).cost) (1 + T.len)) = _
 have e : (fun i => (cJ (fun _ => A) 1 T.kids i).cost) = cJ (fun _ => A.cost) 1 (fun i => (T.kids i).cost) := by
  funext i; unfold cJ; split <;> rfl
 rw [e, ug]
 omega
theorem sy {A T : Nd} (hA : A.Fine) (hT : T.Fine) (hl : 1 + T.len ≤ 9223372036854775807) : (ct A T).Fine :=
 ⟨(Nd.fine_nums hT).1, (Nd.fine_nums hT).2, Nd.fine_name hT, hl, fun i hi => by
  by_cases h : i < 1
  ·rw [bw _ _ h]; exact hA
  ·rw [bW _ _ (by omega)]; exact Nd.fine_kid hT (by omega)⟩
theorem zG {A T : Nd} (hA : A.sOk = true) (hk : T.kind = 4) (hT : T.sOk = true) : (ct A T).sOk = true := by
 rw [bK, hk] at hT
 rw [bK]
 show bd T.kind T.num T.name (1 + T.len) (fun i => (cJ (fun _ => A) 1 T.kids i).eOk) (fun i => (cJ (fun _ => A) 1 T.kids i).sOk) (fun i => (cJ (fun _ => A) 1 T.kids i).cOk) (ct A T).kk = true
 rw [hk]
 simp only [bd, if_true, Bool.and_eq_true] at hT ⊢
 refine ⟨hT.1, eo fun i hi => ?_⟩
 by_cases h : i < 1
 ·rw [bw _ _ h]; exact hA
 ·rw [bW _ _ (by omega)]; exact dy.1 hT.2 (i - 1) (by omega)
def F55 (sb A B b : Nat) (Sx T : Nd) (w : World) (v : World) : Prop := DW sb A w v ∧ ∃ (us : Nat → Value) (s e : Nat → Nat) (a : Option Addr) (c : Nat), v.heap[b]? = some (fS T.kind T.num T.name a (1 + T.len) c) ∧ Gw B (cJ (fun _ => Sx) 1 T.kids) us s e (1 + T.len) (.slice a (1 + T.len) c) v
def cX : Nd := aq 7 1 ⟨#[105]⟩
def q8 : Nd := bX 5 0 ⟨#[105]⟩ (aq 22 0 ⟨#[]⟩)
def mw (q : Nat) : Nd := dR 28 0 ⟨#[60]⟩ (aq 24 0 ⟨#[105]⟩) (aq 22 (1 + (q : Int)) ⟨#[]⟩)
def vn (q : Nat) (L : Nd) : Nd := dR 11 0 ⟨#[]⟩ (mw q) L
def lh (q : Nat) (L : Nd) : Nd := dR 4 0 ⟨#[]⟩ q8 (vn q L)
theorem Wn.of_put {lo b : Nat} {w : World} {k n : Int} {s : ByteArray} {u : Value} (h : b < lo) : Wn lo w (fe w b k n s u) := ⟨by rw [fb]; exact Nat.le_refl _, fun i h1 _ => eh w b k n s u i (by omega)⟩
theorem Ib {q C : Nat} {T : Nd} (hq : q < 3) (h1 : cX.sOk = true) (h2 : aR ⟨#[105]⟩ = true) (hf : T.Fine) (hk : T.kind = 4) (ho : T.sOk = true) (hc : T.cost ≤ C) (hl : 1 + T.len ≤ 9223372036854775807) : (lh q (ct cX T)).sOk = true ∧ (lh q (ct cX T)).Fine ∧ (lh q (ct cX T)).cost ≤ C + 200 := by
 have hcq : (mw q).eOk = true := nA (by decide) (gG h2) (iN (by omega))
 have TM : (mw q).Fine := eY (by omega) (by omega) (by decide) (aJ (by omega) (by omega) (by decide)) (aJ (by omega) (by omega) (by decide))
 have hd : q8.sOk = true := lO (.inl rfl) h2 (iN (by omega))
 have jv : q8.Fine := bB (by omega) (by omega) (by decide) (aJ (by omega) (by omega) (by decide))
 have hL := zG h1 hk ho
 have hs : cX.Fine := aJ (by omega) (by omega) (by decide)
 refine ⟨H1 hd (Hy hcq hk hL), eY (by omega) (by omega) (by decide) jv (eY (by omega) (by omega) (by decide) TM (sy hs hf hl)), ?_⟩
 unfold lh vn mw q8
 rw [eZ, eZ, eZ, b9, bm, bm, bm, oi]
 have e0 : ByteArray.size ⟨#[]⟩ = 0 := by decide
 have e1 : ByteArray.size ⟨#[60]⟩ = 1 := by decide
 have e2 : ByteArray.size ⟨#[105]⟩ = 1 := by decide
 have e3 : cX.cost = 1 := by decide
 rw [e0, e1, e2, e3]
 omega
def F56 (sb A : Nat) (L : Nd) (w : World) (v : World) : Prop := ∃ (v0 : World) (q : Nat) (a : Option Addr) (c : Nat), DW sb A w v0 ∧ q < 3 ∧ Row (w.heap.size + 1) v0.heap.size v0 (lh q L) (.slice a 2 c) ∧ v = fe v0 w.heap.size 4 0 ⟨#[]⟩ (.slice a 2 c)
def FI (b lo Mo : Nat) (aB : Option Addr) (T : Nd) (cB : Nat) (i : Nat) (w : World) (x : Value) : Prop := match i with
 |0 => x = .agg #[.int .i64 7, .int .i64 1, .string ⟨#[105]⟩, .slice none 0 0]
 |1 => GV lo (fun A => A = cX) w x
 |2 => x = .pointer (some ⟨b, 3, none⟩)
 |3 => x = .slice aB T.len cB
 |4 => AV Mo b (1 + T.len) (fun Ts => Ts = cJ (fun _ => cX) 1 T.kids) w x
 |5 => x = .pointer (some ⟨b, 3, none⟩)
 |_ => True
theorem yr {b lo Mo : Nat} {aB : Option Addr} {T : Nd} {cB : Nat} {l : Array Bool} {v v' : World} (h : Wn lo v v') (bD : l.getD 4 false = false) (aM : l.getD 6 false = false) : ∀ j x, l.getD j false = true → FI b lo Mo aB T cB j v x → FI b lo Mo aB T cB j v' x := by
 intro j x hl hx
 match j, hx with
 |0, hx => exact hx
 |1, hx => exact GV.stable h hx
 |2, hx => exact hx
 |3, hx => exact hx
 |4, _ => rw [bD] at hl; cases hl
 |5, hx => exact hx
 |6, _ => rw [aM] at hl; cases hl
 |(k + 7), _ => exact trivial
theorem Pg {b lo Mo : Nat} {aB : Option Addr} {T : Nd} {cB : Nat} {o : Nat} {y : Value} {v : World} (hb : b < lo) : ∀ j x, FI b lo Mo aB T cB j v x → FI b lo Mo aB T cB j (v.setCell ⟨b, o, none⟩ y) x := by
 intro j x hx
 match j, hx with
 |0, hx => exact hx
 |1, hx => exact GV.stable (Wn.of_set hb) hx
 |2, hx => exact hx
 |3, hx => exact hx
 |4, hx => exact AV.put hx
 |5, hx => exact hx
 |6, hx => exact hx
 |(k + 7), _ => exact trivial
def Gy (i : Nat) : Nat := [229, 230, 231, 232, 233, 234, 1006].getD i 2000
theorem Ks (i j : Nat) (hi : i < 7) (hj : j < 7) (h : Gy i = Gy j) : i = j := by
 have : ((List.range 7).all fun i => (List.range 7).all fun j => Gy i != Gy j || i == j) = true := by decide
 exact bY2
def FH (sb lo : Nat) (la : Option Addr) (L : Nd) (lc : Nat) (i : Nat) (w : World) (x : Value) : Prop := match i with
 |0 => x = .agg #[.int .i64 22, .int .i64 0, .string ⟨#[]⟩, .slice none 0 0]
 |1 => LV lo (fun T => T = bX 0 0 ⟨#[]⟩ (aq 22 0 ⟨#[]⟩)) w x
 |2 => TV lo (fun T => T = q8) w x
 |3 => x = .agg #[.int .i64 24, .int .i64 0, .string ⟨#[105]⟩, .slice none 0 0]
 |4 => x = .pointer (some ⟨sb, 0, none⟩)
 |5 => ∃ q : Nat, q < 3 ∧ x = .int .i64 (q : Int)
 |6 => ∃ q : Nat, q < 3 ∧ x = .int .i64 (1 + (q : Int))
 |7 => ∃ q : Nat, q < 3 ∧ x = .agg #[.int .i64 22, .int .i64 (1 + (q : Int)), .string ⟨#[]⟩, .slice none 0 0]
 |8 => LV lo (fun T => ∃ q : Nat, q < 3 ∧ T = dR 0 0 ⟨#[]⟩ (aq 24 0 ⟨#[105]⟩) (aq 22 (1 + (q : Int)) ⟨#[]⟩)) w x
 |9 => TV lo (fun T => ∃ q : Nat, q < 3 ∧ T = mw q) w x
 |10 => x = L.val (.slice la L.len lc)
 |11 => LV lo (fun T => ∃ q : Nat, q < 3 ∧ T = dR 0 0 ⟨#[]⟩ (mw q) L) w x
 |12 => TV lo (fun T => ∃ q : Nat, q < 3 ∧ T = vn q L) w x
 |13 => LV lo (fun T => ∃ q : Nat, q < 3 ∧ T = dR 0 0 ⟨#[]⟩ q8 (vn q L)) w x
 |14 => TV lo (fun T => ∃ q : Nat, q < 3 ∧ T = lh q L) w x
 |_ => True
theorem je {sb lo : Nat} {la : Option Addr} {L : Nd} {lc : Nat} {l : Array Bool} {v v' : World} (h : Wn lo v v') (bD : l.getD 15 false = false) (aM : l.getD 15 false = false) : ∀ j x, l.getD j false = true → FH sb lo la L lc j v x → FH sb lo la L lc j v' x := by
 intro j x hl hx
 match j, hx with
 |0, hx => exact hx
 |1, hx => exact LV.stable h hx
 |2, hx => exact TV.stable h hx
 |3, hx => exact hx
 |4, hx => exact hx
 |5, hx => exact hx
 |6, hx => exact hx
 |7, hx => exact hx
 |8, hx => exact LV.stable h hx
 |9, hx => exact TV.stable h hx
 |10, hx => exact hx
 |11, hx => exact LV.stable h hx
 |12, hx => exact TV.stable h hx
 |13, hx => exact LV.stable h hx
 |14, hx => exact TV.stable h hx
 |15, _ => rw [aM] at hl; cases hl
 |(k + 16), _ => exact trivial
theorem Pf {sb lo : Nat} {la : Option Addr} {L : Nd} {lc : Nat} {v v' : World} (h : Wn lo v v') : ∀ j x, FH sb lo la L lc j v x → FH sb lo la L lc j v' x := by
 intro j x hx
 match j, hx with
 |0, hx => exact hx
 |1, hx => exact LV.stable h hx
 |2, hx => exact TV.stable h hx
 |3, hx => exact hx
 |4, hx => exact hx
 |5, hx => exact hx
 |6, hx => exact hx
 |7, hx => exact hx
 |8, hx => exact LV.stable h hx
 |9, hx => exact TV.stable h hx
 |10, hx => exact hx
 |11, hx => exact LV.stable h hx
 |12, hx => exact TV.stable h hx
 |13, hx => exact LV.stable h hx
 |14, hx => exact TV.stable h hx
 |15, hx => exact hx
 |(k + 16), _ => exact trivial
def zQ (i : Nat) : Nat := [235, 236, 237, 238, 239, 240, 241, 242, 243, 244, 245, 246, 247, 248, 249, 1015].getD i 2000
theorem Kr (i j : Nat) (hi : i < 16) (hj : j < 16) (h : zQ i = zQ j) : i = j := by
 have : ((List.range 16).all fun i => (List.range 16).all fun j => zQ i != zQ j || i == j) = true := by decide
 exact bY2
end
end Go.Proofs.YteaocammohcgoaaGreatDoor
