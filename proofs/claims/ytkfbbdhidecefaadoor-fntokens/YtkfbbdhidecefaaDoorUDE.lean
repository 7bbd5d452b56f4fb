import Derived.Deep.CutRange
import Derived.Test.YtkfbbdhidecefaaDoorUDC
set_option linter.unusedVariables false
set_option maxHeartbeats 16000000
set_option maxRecDepth 100000
namespace Go.Proofs.YtkfbbdhidecefaaDoor
open Go.RowKit
variable {G : Prop}
theorem bK0 (h : G := by
 have pY := aa ((QA.out.calm (bA)).mine (by have := LC.out; omega) (xL Se HN.out Cv.out) yi.out Cz.out)
 have Qv : Hid ((T.nm nm).Fine ∧ (T.nm nm).sOk = true ∧ (T.nm nm).cost ≤ C + 40) := ⟨Nd.nm_fine HT.out.1 (Nd.fine_nums HT.out.1).1 (Nd.fine_nums HT.out.1).2 (by omega), NI HT.out.2.1 h5 HN.out, by have := Nd.nm_cost T nm; have := HT.out.2.2; omega⟩
 clear QA Cw Se Cv yi Cz Eg RJ hint
 obtain ⟨wz, Mf⟩ : ∃ W, W = wm := ⟨_, rfl⟩
 rw [← Mf] at pY ⊢
 clear Mf
 have hobl := pY.out.low
 obtain ⟨o0, o1, o2, o3, of⟩ := aw pY.out.obx
 obtain ⟨b0, b1, b2, b3, bf⟩ := aw pY.out.bsb
 have hoq := qP o3
 have hHT : Hid ((T.nm nm).Fine ∧ (T.nm nm).sOk = true ∧ (T.nm nm).cost ≤ C + 40) := Qv
 have of3 := of 3
 go_wp2_with (at_builtin; refine bE _ rfl _ _ 25 rfl (w1.heap.size + 1) 27 i0 (.agg #[.int .i64 0, .int .i64 0, .string ⟨#[]⟩, .slice none 0 0]) 4 56 Tryd.underlying25 qn qm hZ hQ rfl (by decide) _ j _ rfl (pY.out.gw.own.alloc _) ⟨wz.heap.size, 0, none⟩ 1 1 [.int .i64 (T.nm nm).kind, .int .i64 (T.nm nm).num, .string (T.nm nm).name, .slice (some ⟨g, off, none⟩) (T.nm nm).len uc] rfl rfl (oY _ _ _ _ _ _) (oX _ _ _ _ _ _) (by unfold maxLen; omega) (by omega) (by simp; have := pY.out.int; have := pY.out.lt; omega) ?_; intro v' w9 bK aD iU zC; obtain ⟨sI, sH, xg⟩ := zC.out; subst xg; have SZ : w9.heap[w1.heap.size]? = some (lV 4 0 ⟨#[]⟩ ka j kc) := (aD.out.block w1.heap.size (by simp; have := pY.out.int; have := pY.out.lt; omega) (fun e => by have := (pY.out.gw.own.lt w1.heap.size e.symm).1; omega)).trans ((Below.heap_alloc wz _ w1.heap.size (by have := pY.out.int; have := pY.out.lt; omega)).trans pY.out.obx); obtain ⟨p0, p1, p2, p3, pf⟩ := aw SZ; have pf3 := pf 3; clear SZ)
 exact bK3) : G := h
theorem bK1 (h : G := by
 obtain ⟨_, _, ER, _, _, Mi⟩ := Qn.out.keep (b7 Bs _)
 injection ER with q1 _ q3
 subst q1 q3
 rcases Mi with h0 | ⟨gs, os, rfl, _, _, gS⟩
 ·omega
 obtain ⟨sn, st, sd, hsn, s0, s1, s2⟩ := gS k vW
 have hki : (k : Int) < (n' : Int) := by omega
 have HN := aa il.out
 have IM := aa Bs
 have DG := aa (yr n' wr (by omega))
 obtain ⟨IW, hv2⟩ := NV n'
 have HV := aa IW
 have hsv2 : (cr (gQ 20 n')).size ≤ 1000 := by have := oW 20 n'; rw [qa]; omega
 clear gS il IW Bs
 cases hq : (sn.toList == nm.toList)
 ·exact bK4
 ·by_cases hnk : n ≤ k
  ·have hnki : (n : Int) ≤ (k : Int) := by omega
   go_wp2_with (go_at_call 33; refine DG.out.mono ?_; rintro e wd ⟨rfl, Qb⟩; have Wi := aa (IM.out.trans (Qb.mono IM.out.size)); clear Qb)
   exact ⟨⟨_, k + 1, by omega, rfl, by go_num, HV.out, hv2, Wi.out⟩, by simp [intOf]; omega⟩
  ·have hnki : ¬ (n : Int) ≤ (k : Int) := by omega
   exact bK4) : G := h
theorem bK2 (h : G := by
 have := List.all_eq_true.1 (List.all_eq_true.1 this i (List.mem_range.2 hi)) j (List.mem_range.2 hj)
 simpa [h] using this) : G := h
theorem bK3 (h : G := by
 refine ⟨⟨j + 1, _, _, _, _, sI, sH, _, _, _, by omega, by go_num, rfl, (pY.out.calm (bA)).done (by have := LC.out; omega) hHT.out bK.out aD.out iU.out⟩, by simp [intOf]; omega⟩) : G := h
theorem bK4 (h : G := by
 go_wp2
 exact ⟨⟨nm, k + 1, by omega, rfl, by go_num, HN.out, bP, IM.out⟩, by simp [intOf]; omega⟩) : G := h
theorem bK5 (h : G := by
 obtain rfl : k = n' := by omega
 have QA := aa ((pY.out.calm Bs).name nm)
 have HN := aa il.out
 obtain ⟨b0, b1, b2, b3, bf⟩ := aw (pY.out.calm Bs).bsb
 have bf2 := bf 2
 clear il bf
 go_upto_region 21 with fail
 obtain ⟨wz, Mf⟩ : ∃ W, wr.setCell ⟨w4.heap.size, 2, none⟩ (.string nm) = W := ⟨_, rfl⟩
 rw [Mf] at QA ⊢
 clear Mf pY b0 b1 b2 b3 bf2 Bs
 obtain ⟨f, Cw, Se⟩ := QA.out.sv
 have RJ := QA.out.lt
 have hint := QA.out.int
 first
 |clear k_K5_0
  go_upto_region 22 with (at_builtin; refine bE _ rfl _ _ 68 rfl (w1.heap.size + 1) 83 iv (.agg #[.string ⟨#[]⟩, .int .i64 0, .int .i64 0]) 3 32 Tryd.underlying68 Oj Bh Bg Bf rfl (by decide) _ k _ rfl (Cw.alloc _) ⟨wz.heap.size, 0, none⟩ 1 1 [.string nm, .int .i64 3, .int .i64 0] rfl rfl (p6 _ _ _ _ _) (rp _ _ _) (by unfold maxLen; omega) (by omega) (by simp; omega) ?_; intro v' wm Cv yi Cz Eg; obtain ⟨ma', mc', xg⟩ := Eg.out; subst xg)
  exact bK0
 |clear k_K5_1
  go_upto_region 22 with (at_builtin; refine bE _ rfl _ _ 68 rfl (w1.heap.size + 1) 83 iv (.agg #[.string ⟨#[]⟩, .int .i64 0, .int .i64 0]) 3 32 Tryd.underlying68 Oj Bh Bg Bf rfl (by decide) _ k _ rfl (Cw.alloc _) ⟨wz.heap.size, 0, none⟩ 1 1 [.string nm, .int .i64 2, .int .i64 0] rfl rfl (p6 _ _ _ _ _) (rp _ _ _) (by unfold maxLen; omega) (by omega) (by simp; omega) ?_; intro v' wm Cv yi Cz Eg; obtain ⟨ma', mc', xg⟩ := Eg.out; subst xg)
  exact bK0
 |clear k_K5_2
  go_upto_region 22 with (at_builtin; refine bE _ rfl _ _ 68 rfl (w1.heap.size + 1) 83 iv (.agg #[.string ⟨#[]⟩, .int .i64 0, .int .i64 0]) 3 32 Tryd.underlying68 Oj Bh Bg Bf rfl (by decide) _ k _ rfl (Cw.alloc _) ⟨wz.heap.size, 0, none⟩ 1 1 [.string nm, .int .i64 1, .int .i64 0] rfl rfl (p6 _ _ _ _ _) (rp _ _ _) (by unfold maxLen; omega) (by omega) (by simp; omega) ?_; intro v' wm Cv yi Cz Eg; obtain ⟨ma', mc', xg⟩ := Eg.out; subst xg)
  exact bK0) : G := h
theorem bK6 (h : G := by
 go_wp2_with fail
 go_loopw [16, 17] (fun nv kv wr => ∃ (nm : ByteArray) (k : Nat), k ≤ n' ∧ nv = .string nm ∧ kv = .int .i64 k ∧ Hid (ck nm = true) ∧ nm.size ≤ 40 ∧ Below W5.heap.size W5 wr) (fun _ kv _ => n' - (intOf kv).toNat)
 case atStart => exact ⟨_, 0, by omega, rfl, rfl, M8.out, hnsz, Below.refl _ _⟩
 first
 |clear k_K6_0
  case round =>
   obtain ⟨nm, k, hk, rfl, rfl, il, bP, Bs⟩ := hrel
   by_cases vW : k < n'
   ·exact bK1
   ·have k_K5_0 := kk
    exact bK5
 |clear k_K6_1
  case round =>
   obtain ⟨nm, k, hk, rfl, rfl, il, bP, Bs⟩ := hrel
   by_cases vW : k < n'
   ·exact bK1
   ·have k_K5_1 := kk
    exact bK5
 |clear k_K6_2
  case round =>
   obtain ⟨nm, k, hk, rfl, rfl, il, bP, Bs⟩ := hrel
   by_cases vW : k < n'
   ·exact bK1
   ·have k_K5_2 := kk
    exact bK5) : G := h
structure BI (sb A n C K : Nat) (w : World) (ob j : Nat) (Ts : Nat → Nd) (us : Nat → Value) (s e : Nat → Nat) (ka : Option Addr) (kc n' : Nat) (vm : Value) (W : World) : Prop where
 dw : DW sb (A + j * K) w W
 low : w.heap.size < ob
 obx : W.heap[ob]? = some (lV 4 0 ⟨#[]⟩ ka j kc)
 gw : Gw (ob + 1) Ts us s e j (.slice ka j kc) W
 ok : ∀ i, i < j → (Ts i).Fine ∧ (Ts i).sOk = true ∧ (Ts i).cost ≤ C + 40
 sv : Sv (ob + 1) n' vm W
 few : n' ≤ n + j
 ap : ∀ g, vm.ownBlock = some g → (Value.slice ka j kc).ownBlock ≠ some g ∧ ∀ i, i < j → g < s i ∨ e i ≤ g
structure BM (sb A n C K : Nat) (w : World) (ob j : Nat) (Ts : Nat → Nd) (us : Nat → Value) (s e : Nat → Nat) (ka : Option Addr) (kc n' : Nat) (vm : Value) (lo hi bs : Nat) (T : Nd) (ua : Option Addr) (uc : Nat) (W : World) : Prop where
 dw : DW sb (A + j * K + K) w W
 low : w.heap.size < ob
 obx : W.heap[ob]? = some (lV 4 0 ⟨#[]⟩ ka j kc)
 gw : Gw (ob + 1) Ts us s e j (.slice ka j kc) W
 ok : ∀ i, i < j → (Ts i).Fine ∧ (Ts i).sOk = true ∧ (Ts i).cost ≤ C + 40
 sv : Sv (ob + 1) n' vm W
 few : n' ≤ n + j + 1
 ap : ∀ g, vm.ownBlock = some g → (Value.slice ka j kc).ownBlock ≠ some g ∧ (∀ i, i < j → g < s i ∨ e i ≤ g) ∧ (g < lo ∨ bs < g)
 kg : ∀ g, (Value.slice ka j kc).ownBlock = some g → g < lo
 se : ∀ i, i < j → e i ≤ lo
 int : ob + 1 ≤ lo ∧ lo ≤ hi ∧ hi ≤ bs
 row : Row lo hi W T (.slice ua T.len uc)
 bsb : W.heap[bs]? = some (lV T.kind T.num T.name ua T.len uc)
theorem BM.lt {sb A n C K : Nat} {w : World} {ob j : Nat} {Ts : Nat → Nd} {us : Nat → Value} {s e : Nat → Nat} {ka : Option Addr} {kc n' : Nat} {vm : Value} {lo hi bs : Nat} {T : Nd} {ua : Option Addr} {uc : Nat} {W : World} (h : BM sb A n C K w ob j Ts us s e ka kc n' vm lo hi bs T ua uc W) : bs < W.heap.size := (Array.getElem?_eq_some_iff.1 h.bsb).1
theorem BI.st {sb A n C K : Nat} {w : World} {ob j : Nat} {Ts : Nat → Nd} {us : Nat → Value} {s e : Nat → Nat} {ka : Option Addr} {kc n' : Nat} {vm : Value} {W W4 : World} {T : Nd} {ua : Option Addr} {uc : Nat} {P : Nd → Prop}
  (h : BI sb A n C K w ob j Ts us s e ka kc n' vm W) (d : Drawn sb (A + j * K + K) P C W T (.slice ua T.len uc) W4) :
  BM sb A n C K w ob j Ts us s e ka kc n' vm W.heap.size W4.heap.size W4.heap.size T ua uc (W4.alloc (lV T.kind T.num T.name ua T.len uc)) := by
 have hlw := h.dw.low
 have GZ := (Array.getElem?_eq_some_iff.1 h.obx).1
 have hs : sb < ob + 1 := by have := h.low; omega
 have hz := d.kp.size
 have hG := bO W4 (lV T.kind T.num T.name ua T.len uc)
 refine ⟨(h.dw.step d.src d.kp).calm hG, h.low, ?_, (h.gw.kp hs d.kp).calm hG, h.ok, (h.sv.kp hs d.kp).calm hG, by have := h.few; omega, fun g hg => ?_, fun g hg => (h.gw.own.lt g hg).2, fun i hi => (h.gw.kid i hi).2.2.2, ⟨by omega, hz, Nat.le_refl _⟩, ae hG lr d.row, heap_alloc_new _ _⟩
 ·exact (hG.block ob (by omega)).trans (bG h.obx (by have := h.low; omega) d.kp)
 ·obtain ⟨a, b⟩ := h.ap g hg
  exact ⟨a, b, .inl (h.sv.lt g hg).2⟩
theorem BM.calm {sb A n C K : Nat} {w : World} {ob j : Nat} {Ts : Nat → Nd} {us : Nat → Value} {s e : Nat → Nat} {ka : Option Addr} {kc n' : Nat} {vm : Value} {lo hi bs : Nat} {T : Nd} {ua : Option Addr} {uc : Nat} {W W' : World} (h : BM sb A n C K w ob j Ts us s e ka kc n' vm lo hi bs T ua uc W) (hb : Below W.heap.size W W') : BM sb A n C K w ob j Ts us s e ka kc n' vm lo hi bs T ua uc W' := by
 have hl := h.lt
 have nx := h.int
 exact ⟨h.dw.calm hb, h.low, aZ h.obx hb, h.gw.calm hb, h.ok, h.sv.calm hb, h.few, h.ap, h.kg, h.se, h.int, ae hb (by omega) h.row, aZ h.bsb hb⟩
theorem BM.name {sb A n C K : Nat} {w : World} {ob j : Nat} {Ts : Nat → Nd} {us : Nat → Value} {s e : Nat → Nat} {ka : Option Addr} {kc n' : Nat} {vm : Value} {lo hi bs : Nat} {T : Nd} {ua : Option Addr} {uc : Nat} {W : World} (h : BM sb A n C K w ob j Ts us s e ka kc n' vm lo hi bs T ua uc W) (nm : ByteArray) : BM sb A n C K w ob j Ts us s e ka kc n' vm lo hi bs (T.nm nm) ua uc (W.setCell ⟨bs, 2, none⟩ (.string nm)) := by
 have hl := h.lt
 have nx := h.int
 have sJ := h.low
 have he : ∀ k, k ≠ bs → (W.setCell ⟨bs, 2, none⟩ (.string nm)).heap[k]? = W.heap[k]? := fun k hk => Below.heap_setCell _ _ _ _ (by show k ≠ bs; exact hk)
 refine ⟨h.dw.any rfl rfl rfl (by simp [World.setCell]) (fun k hk => he k (by omega)), h.low, (he ob (by omega)).trans h.obx, h.gw.put (fun e => by have := h.kg _ e; omega) (fun i hi => .inr (by have := h.se i hi; omega)), h.ok, h.sv.keep (fun k hk => he k (by have := (h.ap k hk).2.2; omega)), h.few, h.ap, h.kg, h.se, h.int, ?_, ?_⟩
 ·exact Nd.nm_row (gn lr lr (fun g o h1 h2 => World.cell?_of_block (a := ⟨g, o, none⟩) (he g (by omega))) h.row)
 ·have := heap_setCell_same W bs 2 _ 27 (.string nm) h.bsb
  exact this.trans rfl
theorem BM.mine {sb A n C K : Nat} {w : World} {ob j : Nat} {Ts : Nat → Nd} {us : Nat → Value} {s e : Nat → Nat} {ka : Option Addr} {kc n' : Nat} {vm vm' : Value} {lo hi bs : Nat} {T : Nd} {ua : Option Addr} {uc : Nat} {W W' : World} (h : BM sb A n C K w ob j Ts us s e ka kc n' vm lo hi bs T ua uc W) (hf : n' ≤ n + j)
  (Au : Sv (ob + 1) (n' + 1) vm' W') (aD : W.grownBy W' vm.ownBlock) (iU : vm'.ownBlock = vm.ownBlock ∨ ∃ k, vm'.ownBlock = some k ∧ W.heap.size ≤ k) : BM sb A n C K w ob j Ts us s e ka kc (n' + 1) vm' lo hi bs T ua uc W' := by
 have hl := h.lt
 have nx := h.int
 have sJ := h.low
 have hvb : ∀ k, vm.ownBlock = some k → ob + 1 ≤ k := fun k hk => (h.sv.lt k hk).1
 have he : ∀ k, k < W.heap.size → vm.ownBlock ≠ some k → W'.heap[k]? = W.heap[k]? := fun k hk hn => aD.block k hk (fun e => hn e.symm)
 refine ⟨h.dw.grown aD (fun k hk => by have := hvb k hk; omega), h.low, (he ob (by omega) (fun e => by have := hvb ob e; omega)).trans h.obx, h.gw.other aD (fun k hk => ⟨(h.ap k hk).1, (h.ap k hk).2.1⟩), h.ok, Au, by omega, fun g hg => ?_, h.kg, h.se, h.int, ?_, (he bs hl (fun e => by have := (h.ap bs e).2.2; omega)).trans h.bsb⟩
 ·rcases iU with Ek | ⟨k, hk, P6⟩
  ·exact h.ap g (Ek ▸ hg)
  ·rw [hk] at hg
   obtain rfl := Option.some.inj hg
   exact ⟨fun e => by have := h.kg _ e; omega, fun i hi => .inr (by have := h.se i hi; omega), .inr (by omega)⟩
 ·exact gn lr lr (fun g o h1 h2 => World.cell?_of_block (a := ⟨g, o, none⟩) (he g (by omega) (fun e => by have := (h.ap g e).2.2; omega))) h.row
theorem BM.done {sb A n C K : Nat} {w : World} {ob j : Nat} {Ts : Nat → Nd} {us : Nat → Value} {s e : Nat → Nat} {ka sI : Option Addr} {kc sH n' : Nat} {vm : Value} {lo hi bs : Nat} {T : Nd} {ua : Option Addr} {uc : Nat} {W W' : World} (h : BM sb A n C K w ob j Ts us s e ka kc n' vm lo hi bs T ua uc W) (hf : n' ≤ n + (j + 1)) (hT : T.Fine ∧ T.sOk = true ∧ T.cost ≤ C + 40)
  (bK : W'.ownsRow (ob + 1) 27 4 (.slice sI (j + 1) sH) (j + 1) (fL Ts us j ++ [.int .i64 T.kind, .int .i64 T.num, .string T.name, .slice ua T.len uc])) (aD : W.grownBy W' (Value.slice ka j kc).ownBlock) (iU : (Value.slice sI (j + 1) sH).ownBlock = (Value.slice ka j kc).ownBlock ∨ ∃ k, (Value.slice sI (j + 1) sH).ownBlock = some k ∧ W.heap.size ≤ k) :
  BI sb A n C K w ob (j + 1) (qq Ts j T) (qq us j (.slice ua T.len uc)) (qq s j lo) (qq e j hi) sI sH n' vm (W'.setCell ⟨ob, 3, none⟩ (.slice sI (j + 1) sH)) := by
 have hl := h.lt
 have nx := h.int
 have sJ := h.low
 have Kz : ∀ k, (Value.slice ka j kc).ownBlock = some k → ob + 1 ≤ k := fun k hk => (h.gw.own.lt k hk).1
 have hz := aD.size
 have he : ∀ k, k < W.heap.size → (Value.slice ka j kc).ownBlock ≠ some k → W'.heap[k]? = W.heap[k]? := fun k hk hn => aD.block k hk (fun e => hn e.symm)
 have hs : ∀ k, k ≠ ob → (W'.setCell ⟨ob, 3, none⟩ (.slice sI (j + 1) sH)).heap[k]? = W'.heap[k]? := fun k hk => Below.heap_setCell _ _ _ _ (by show k ≠ ob; exact hk)
 have hob' : W'.heap[ob]? = some (lV 4 0 ⟨#[]⟩ ka j kc) := (he ob (by omega) (fun e => by have := Kz ob e; omega)).trans h.obx
 have mV := h.gw.step h.row nx.1 nx.2.1 (by omega) (fun g hg => .inl (h.kg g hg)) bK aD iU
 have hmul : A + j * K + K = A + (j + 1) * K := by rw [Nat.add_mul]; omega
 refine ⟨?_, h.low, ?_, mV.put (fun e => by have := (mV.own.lt _ e).1; omega) (fun i hi => .inl (by have := (mV.kid i hi).2.1; omega)), fun i hi => ?_, h.sv.keep (fun k hk => ?_), by omega, fun g hg => ?_⟩
 ·rw [← hmul]
  exact (h.dw.grown aD (fun k hk => by have := Kz k hk; omega)).any rfl rfl rfl (by simp [World.setCell]) (fun k hk => hs k (by omega))
 ·have := heap_setCell_same W' ob 3 _ 27 (.slice sI (j + 1) sH) hob'
  exact this.trans rfl
 ·by_cases oA : i = j
  ·subst oA; rw [fP]; exact hT
  ·rw [gy _ _ oA]; exact h.ok i (by omega)
 ·have mP := h.sv.lt k hk
  exact (hs k (by omega)).trans (he k mP.2 (h.ap k hk).1)
 ·obtain ⟨a, b, c⟩ := h.ap g hg
  have SF := h.sv.lt g hg
  refine ⟨fun e => ?_, fun i hi => ?_⟩
  ·rcases iU with Ek | ⟨k, hk, P6⟩
   ·exact a (Ek ▸ e)
   ·rw [hk] at e; obtain rfl := Option.some.inj e; omega
  ·by_cases oA : i = j
   ·subst oA; rw [fP, fP]; omega
   ·rw [gy _ _ oA, gy _ _ oA]; exact b i (by omega)
theorem p6 (w : World) (a b c : Value) (t : TypeId) : ∀ j u, ([a, b, c] : List Value)[j]? = some u → (w.alloc (.cells #[a, b, c] t)).cell? ((⟨w.heap.size, 0, none⟩ : Addr).add j) = some u := by
 intro j u h
 match j, h with
 |0, h => obtain rfl := Option.some.inj h; simp [Addr.add]
 |1, h => obtain rfl := Option.some.inj h; simp [Addr.add]
 |2, h => obtain rfl := Option.some.inj h; simp [Addr.add]
 |j + 3, h => simp at h
theorem rp (s : ByteArray) (a b : Int) : ∀ u ∈ [Value.string s, .int .i64 a, .int .i64 b], u.oneCell' = true := by
 intro u hu; simp at hu; rcases hu with rfl | rfl | rfl <;> rfl
theorem vi (f : Nat → ByteArray × Int × Int) (x : ByteArray × Int × Int) : ∀ {j k : Nat}, j ≤ k → iJ (qq f k x) j = iJ f j
 |0, _, _ => rfl
 |j + 1, k, h => by simp only [iJ]; rw [vi f x (show j ≤ k by omega), gy _ _ (show j ≠ k by omega)]
theorem xL {B n : Nat} {f : Nat → ByteArray × Int × Int} {nm : ByteArray} {t : Int} {v : Value} {w : World} (hf : ∀ i, i < n → ck (f i).1 = true) (hn : ck nm = true) (h : w.ownsRow B 83 3 v (n + 1) (iJ f n ++ [.string nm, .int .i64 t, .int .i64 0])) : Sv B (n + 1) v w := by
 refine ⟨qq f n (nm, t, 0), ?_, fun i hi => ?_⟩
 ·simp only [iJ]
  rw [vi f _ (Nat.le_refl n), fP]
  exact h
 ·by_cases e : i = n
  ·subst e; rw [fP]; exact hn
  ·rw [gy _ _ e]; exact hf i (by omega)
theorem yv (deep : Int) (C K M : Nat) (h0 : 0 ≤ deep) (h9 : deep ≤ 100) (hC : C ≤ 100000000) (hK : K ≤ 100000000) (ST : VJ deep C K M) : LW deep (C + 41) K M := by
 intro sb A n m v loops w hA hnM h hs
 have HD := aa (DW.start h)
 obtain ⟨va, vc, rfl, _⟩ := id hs
 have sL := bO w gZ
 have SC := aa (fun B W (hd : DW sb B w W) => (hs.keep (b7 sL _)).keep hd.kp)
 have sJ : sb < w.heap.size := h.lt
 have STH := aa ST
 obtain ⟨i0, qn, qm, hZ, hQ⟩ := info_parts zv
 obtain ⟨iv, Oj, Bh, Bg, Bf⟩ := info_parts ye
 unfold gZ at *
 clear h sL ST
 go_enter Tryd.func27, Tryd.ntmps27
 go_wp2_with fail
 refine (bM _ _ _ _ _ _ _).mono ?_
 rintro e w1 ⟨rfl, hb⟩
 have qD := aa (HD.out.calm hb)
 have hz1' := qD.out.size
 have GZ := heap_alloc_new w1 (.cells #[.int .i64 4, .int .i64 0, .string ⟨#[]⟩, .slice none 0 0] 27)
 have o6 := aa (qD.out.alloc (.cells #[.int .i64 4, .int .i64 0, .string ⟨#[]⟩, .slice none 0 0] 27))
 obtain ⟨v3, w3, iS, Au, hb3⟩ := sS (B := w1.heap.size + 1) (SC.out _ _ o6.out) (by simp)
 simp only [World.size_alloc] at iS hb3
 obtain ⟨a3, c3, rfl⟩ := Au.shape
 have vG := aa iS
 have lI := aa (o6.out.calm (by simpa using hb3))
 have VS := aa ((hb3.block w1.heap.size (by omega)).trans GZ)
 have MZ := aa Au
 obtain ⟨ob, Sd⟩ : ∃ b, b = w1.heap.size := ⟨_, rfl⟩
 have Wh : Hid (BI sb A n C K w ob 0 (fun _ => .nil) (fun _ => undef) (fun _ => 0) (fun _ => 0) none 0 n (.slice a3 n c3) w3) := by
  subst Sd
  refine ⟨by simpa using lI.out, by omega, VS.out, Gw.start _ _ _ _ (World.ownsRow_nil _ _ _ _), fun i hi => absurd hi (Nat.not_lt_zero _), MZ.out, by omega, fun g hg => ⟨fun e => by simp [Value.ownBlock] at e, fun i hi => absurd hi (Nat.not_lt_zero _)⟩⟩
 clear iS hb HD GZ hb3 Au qD o6 lI VS MZ
 go_wp2_with (at_builtin; refine iL _ rfl _ _ 68 rfl _ _ _ _ rfl rfl vG.out ?_)
 clear vG SC
 subst Sd
 go_loopw [12, 13] (fun mine i wr => ∃ (j : Nat) (Ts : Nat → Nd) (us : Nat → Value) (s e : Nat → Nat) (ka : Option Addr) (kc n' : Nat) (ma : Option Addr) (mc : Nat), j ≤ m ∧ i = .int .i64 j ∧ mine = .slice ma n' mc ∧ BI sb A n C K w w1.heap.size j Ts us s e ka kc n' (.slice ma n' mc) wr) (fun _ i _ => m - (intOf i).toNat)
 case atStart => exact ⟨0, _, _, _, _, _, _, _, _, _, Nat.zero_le _, rfl, rfl, Wh.out⟩
 case round =>
  obtain ⟨j, Ts, us, s, e, ka, kc, n', ma, mc, hj, rfl, rfl, hbi⟩ := hrel
  clear Wh
  have I6 := aa hbi
  have ig := hbi.few
  have hlowob := hbi.low
  clear hbi
  by_cases bm : j < m
  ·have hji : (j : Int) < (m : Int) := by omega
   have hmul : A + j * K + K ≤ A + m * K := by
    have : (j + 1) * K ≤ m * K := Nat.mul_le_mul_right _ bm
    rw [Nat.add_mul] at this; omega
   have Wl := aa (STH.out sb (A + j * K) n' (.slice ma n' mc) loops wr (by omega) (by omega) I6.out.dw.src (I6.out.sv.scp (by omega) (by omega)))
   go_wp2_with fail
   refine Wl.out.mono ?_
   rintro e' w4 ⟨T, u, rfl, hd⟩
   obtain ⟨ua, uc, rfl⟩ := aQ hd.row
   have hTl := Nd.fine_len hd.fine
   have HT : Hid (T.Fine ∧ T.sOk = true ∧ T.cost ≤ C) := ⟨hd.fine, hd.ok, hd.cost⟩
   obtain ⟨lo, lh⟩ : ∃ l, l = wr.heap.size := ⟨_, rfl⟩
   have pY := aa (I6.out.st hd)
   rw [← lh] at pY
   have LC := aa ig
   clear hd Wl I6 lh ig
   unfold Nd.val
   obtain ⟨W5, MK⟩ : ∃ W, w4.alloc (lV T.kind T.num T.name ua T.len uc) = W := ⟨_, rfl⟩
   have VN := aa MK
   rw [MK] at pY
   clear MK
   go_upto_region 7 with fail
   rw [show (w4.alloc (Obj.cells #[.int .i64 T.kind, .int .i64 T.num, .string T.name, .slice ua T.len uc] 27)) = W5 from VN.out]
   clear VN
   obtain ⟨b0, b1, b2, b3, bf⟩ := aw pY.out.bsb
   by_cases h5 : T.kind = 5
   ·have h5b : (T.kind == 5) = true := by rw [h5]; rfl
    obtain ⟨Sm, Of⟩ := J6 HT.out.2.1 h5
    have M8 := aa Of
    have hnsz := gR Of
    have hn6 : n' ≤ 1000 := by have := LC.out; omega
    have Qn := aa (pY.out.sv.scp (sb := sb) (by omega) (by omega))
    obtain ⟨_, _, hue, _, huq⟩ := ar.1 pY.out.row
    injection hue with q1 _ q3
    subst q1 q3
    rcases huq with IU | ⟨g, off, rfl, _, _, vM⟩
    ·omega
    obtain ⟨u0, k0, k1, k2, k3, _⟩ := vM 0 (by omega)
    simp only [Nat.zero_mul, Nat.add_zero] at k0 k1 k2 k3
    have hl1i : (0 : Int) < (T.len : Int) := by omega
    clear Of vM
    by_cases xn : (T.kids 0).kind = 26
    ·have h26b : ((T.kids 0).kind == 26) = true := by rw [xn]; rfl
     have k_K6_0 := kk
     exact bK6
    ·have h26b : ((T.kids 0).kind == 26) = false := bn xn
     by_cases ym : (T.kids 0).kind = 23
     ·have h23b : ((T.kids 0).kind == 23) = true := by rw [ym]; rfl
      have k_K6_1 := kk
      exact bK6
     ·have h23b : ((T.kids 0).kind == 23) = false := bn ym
      have k_K6_2 := kk
      exact bK6
   ·have h5b : (T.kind == 5) = false := bn h5
    have Qv : Hid (T.Fine ∧ T.sOk = true ∧ T.cost ≤ C + 40) := ⟨HT.out.1, HT.out.2.1, by have := HT.out.2.2; omega⟩
    obtain ⟨wz, Mf⟩ : ∃ W, W = W5 := ⟨_, rfl⟩
    have hfw := LC.out
    rw [← Mf] at pY b0 b1 b2 b3 bf ⊢
    clear Mf
    have hobl := pY.out.low
    obtain ⟨o0, o1, o2, o3, of⟩ := aw pY.out.obx
    have hoq := qP o3
    have hHT : Hid (T.Fine ∧ T.sOk = true ∧ T.cost ≤ C + 40) := Qv
    have of3 := of 3
    go_wp2_with (at_builtin; refine bE _ rfl _ _ 25 rfl (w1.heap.size + 1) 27 i0 (.agg #[.int .i64 0, .int .i64 0, .string ⟨#[]⟩, .slice none 0 0]) 4 56 Tryd.underlying25 qn qm hZ hQ rfl (by decide) _ j _ rfl (pY.out.gw.own.alloc _) ⟨wz.heap.size, 0, none⟩ 1 1 [.int .i64 (T).kind, .int .i64 (T).num, .string (T).name, .slice ua (T).len uc] rfl rfl (oY _ _ _ _ _ _) (oX _ _ _ _ _ _) (by unfold maxLen; omega) (by omega) (by simp; have := pY.out.int; have := pY.out.lt; omega) ?_; intro v' w9 bK aD iU zC; obtain ⟨sI, sH, xg⟩ := zC.out; subst xg; have SZ : w9.heap[w1.heap.size]? = some (lV 4 0 ⟨#[]⟩ ka j kc) := (aD.out.block w1.heap.size (by simp; have := pY.out.int; have := pY.out.lt; omega) (fun e => by have := (pY.out.gw.own.lt w1.heap.size e.symm).1; omega)).trans ((Below.heap_alloc wz _ w1.heap.size (by have := pY.out.int; have := pY.out.lt; omega)).trans pY.out.obx); obtain ⟨p0, p1, p2, p3, pf⟩ := aw SZ; have pf3 := pf 3; clear SZ)
    exact bK3
  ·obtain rfl : j = m := by omega
   have hji : ¬ (j : Int) < (j : Int) := by omega
   obtain ⟨o0, o1, o2, o3, of⟩ := aw I6.out.obx
   obtain ⟨f0, f1, f2, f3, ff⟩ := I6.out.dw.cells
   have iT := I6.out.gw.row (lo := w.heap.size + 1) (by omega) 4 0 ⟨#[]⟩
   have yz := aa iT
   have Nb := aa I6.out.dw
   have Qf := I6.out.ok
   have yA := aa Qf
   clear iT Qf I6
   go_wp2
   refine bodyPost_ret (Nb.out.read Tryd.results27 rfl _ _ _ _) rfl ⟨.mk 4 0 ⟨#[]⟩ j Ts, _, rfl, ?_⟩
   exact (Nb.out.fin (P := fun T => T.kind = 4 ∧ T.sOk = true ∧ T.len = j) (C := j * (C + 41)) yz.out ⟨by omega, by omega, by decide, by show j ≤ _; omega, fun i hi => (yA.out i hi).1⟩ ⟨rfl, wR fun i hi => (yA.out i hi).2.1, rfl⟩ (BK fun i hi => (yA.out i hi).2.2)).more (by omega)
section
open Go Go.RowKit
def AV (B b j : Nat) (P : (Nat → Nd) → Prop) (w : World) (x : Value) : Prop := ∃ (Ts : Nat → Nd) (us : Nat → Value) (s e : Nat → Nat) (a : Option Addr) (c : Nat), x = .slice a j c ∧ Gw B Ts us s e j (.slice a j c) w ∧ P Ts ∧ (Value.slice a j c).ownBlock ≠ some b ∧ ∀ i, i < j → b < s i ∨ e i ≤ b
theorem AV.put {B j b o : Nat} {P : (Nat → Nd) → Prop} {w : World} {x y : Value} (h : AV B b j P w x) : AV B b j P (w.setCell ⟨b, o, none⟩ y) x := by
 obtain ⟨Ts, us, s, e, a, c, h1, h2, h3, h4, h5⟩ := h
 exact ⟨Ts, us, s, e, a, c, h1, h2.put h4 h5, h3, h4, h5⟩
def GV (lo : Nat) (P : Nd → Prop) (w : World) (x : Value) : Prop := ∃ (A : Nd) (u : Value) (g : Nat), P A ∧ lo ≤ g ∧ x = .slice (some ⟨g, 0, none⟩) 1 1 ∧ Gw lo (fun _ => A) (fun _ => u) (fun _ => lo) (fun _ => g) 1 (.slice (some ⟨g, 0, none⟩) 1 1) w
theorem GV.stable {lo : Nat} {P : Nd → Prop} {w w' : World} {x : Value} (h : Wn lo w w') (hx : GV lo P w x) : GV lo P w' x := by
 obtain ⟨A, u, g, h1, h2, h3, h4⟩ := hx
 exact ⟨A, u, g, h1, h2, h3, h4.keep h.size fun k k1 k2 _ => h.block k k2 k1⟩
theorem GV.new {lo : Nat} {P : Nd → Prop} {w : World} {A : Nd} {u : Value} (hp : P A) (lh : lo ≤ w.heap.size) (h : Row lo w.heap.size w A u) : GV lo P (w.alloc (.cells #[.int .i64 A.kind, .int .i64 A.num, .string A.name, u] 27)) (.slice (some ⟨w.heap.size, 0, none⟩) 1 1) := by
 refine ⟨A, u, w.heap.size, hp, lh, rfl, ⟨by simp [fL], .inr ⟨w.heap.size, 1, _, rfl, lh, heap_alloc_new w _, Nat.le_refl _, by unfold maxLen; omega, by simp, by simp [fL]⟩⟩, fun i hi => ⟨?_, Nat.le_refl _, lh, by simp⟩, fun i hi g hg => .inr (by simp [Value.ownBlock] at hg; omega)⟩
 exact ae (bO w _) lr h
theorem Gw.two {B : Nat} {W V : World} {A A' : Nd} {u u' : Value} {s0 e0 s1 e1 : Nat} (h : Row s0 e0 W A u) (h' : Row s1 e1 W A' u') (hs : B ≤ s0 ∧ s0 ≤ e0 ∧ e0 ≤ W.heap.size) (P0 : B ≤ s1 ∧ s1 ≤ e1 ∧ e1 ≤ W.heap.size) (hB : B ≤ W.heap.size)
  (hb : Below (W.heap.size + 1) (W.alloc (.cells #[.int .i64 A.kind, .int .i64 A.num, .string A.name, u, .int .i64 A'.kind, .int .i64 A'.num, .string A'.name, u'] 27)) V) :
  Gw B (qq (fun _ => A') 0 A) (qq (fun _ => u') 0 u) (qq (fun _ => s1) 0 s0) (qq (fun _ => e1) 0 e0) 2 (.slice (some ⟨W.heap.size, 0, none⟩) 2 2) V := by
 have hz := hb.size
 simp only [World.size_alloc] at hz
 have hA := bO W (.cells #[.int .i64 A.kind, .int .i64 A.num, .string A.name, u, .int .i64 A'.kind, .int .i64 A'.num, .string A'.name, u'] 27)
 have hAB := hA.trans (hb.mono (Nat.le_succ _))
 refine ⟨⟨by simp [fL], .inr ⟨W.heap.size, 2, _, rfl, hB, (hb.block W.heap.size (Nat.lt_succ_self _)).trans (heap_alloc_new W _), Nat.le_refl _, by unfold maxLen; omega, by simp, by simp [fL, qq]⟩⟩, fun i hi => ?_, fun i hi g hg => ?_⟩
 ·rcases (by omega : i = 0 ∨ i = 1) with rfl | rfl
  ·rw [fP, fP, fP, fP]; exact ⟨ae hAB hs.2.2 h, hs.1, hs.2.1, by omega⟩
  ·rw [gy _ _ (by omega), gy _ _ (by omega), gy _ _ (by omega), gy _ _ (by omega)]; exact ⟨ae hAB P0.2.2 h', P0.1, P0.2.1, by omega⟩
 ·have vY : g = W.heap.size := by simp [Value.ownBlock] at hg; omega
  subst vY
  rcases (by omega : i = 0 ∨ i = 1) with rfl | rfl
  ·rw [fP, fP]; exact .inr hs.2.2
  ·rw [gy _ _ (by omega), gy _ _ (by omega)]; exact .inr P0.2.2
def mo (C : Nat) (T : Nd) : Prop := T.Fine ∧ (T.kind = 4 ∧ T.sOk = true) ∧ T.cost ≤ C
def VL (m C : Nat) (Ts : Nat → Nd) : Prop := ((Ts 0).Fine ∧ (Ts 0).eOk = true ∧ (Ts 0).cost ≤ 700) ∧ ∀ i, 1 ≤ i → i < m → mo C (Ts i)
theorem Ci {k : Int} {s : ByteArray} {m C : Nat} {Ts : Nat → Nd} (hm : m = 2 ∨ m = 3) (h : VL m C Ts) : (Nd.mk 10 0 ⟨#[]⟩ m Ts).sOk = true ∧ (Nd.mk 10 0 ⟨#[]⟩ m Ts).Fine ∧ (Nd.mk 10 0 ⟨#[]⟩ m Ts).cost ≤ 703 + 2 * C := by
 obtain ⟨⟨a1, a2, a3⟩, hb⟩ := h
 have b1 := hb 1 (by omega) (by omega)
 rcases hm with rfl | rfl
 ·refine ⟨?_, ⟨by omega, by omega, by decide, by omega, fun i hi => ?_⟩, ?_⟩
  ·rw [aG]
   show aJ 10 0 ⟨#[]⟩ 2 (fun i => (Ts i).eOk) (fun i => (Ts i).sOk) (fun i => (Ts i).cOk) (Nd.mk 10 0 ⟨#[]⟩ 2 Ts).kk = true
   have k1 : (Nd.mk 10 0 ⟨#[]⟩ 2 Ts).kk 1 = 4 := b1.2.1.1
   simp [aJ, aE, fU, cM, az, ByteArray.size, a2, b1.2.1.2, k1]
  ·rcases (by omega : i = 0 ∨ i = 1) with rfl | rfl
   ·exact a1
   ·exact b1.1
  ·show ByteArray.size ⟨#[]⟩ + (2 + ag (fun i => (Ts i).cost) 2) ≤ _
   have e : ByteArray.size ⟨#[]⟩ = 0 := by decide
   have := b1.2.2
   simp only [ag, e]; omega
 ·have b2 := hb 2 (by omega) (by omega)
  refine ⟨?_, ⟨by omega, by omega, by decide, by omega, fun i hi => ?_⟩, ?_⟩
  ·rw [aG]
   show aJ 10 0 ⟨#[]⟩ 3 (fun i => (Ts i).eOk) (fun i => (Ts i).sOk) (fun i => (Ts i).cOk) (Nd.mk 10 0 ⟨#[]⟩ 3 Ts).kk = true
   have k1 : (Nd.mk 10 0 ⟨#[]⟩ 3 Ts).kk 1 = 4 := b1.2.1.1
   have k2 : (Nd.mk 10 0 ⟨#[]⟩ 3 Ts).kk 2 = 4 := b2.2.1.1
   simp [aJ, aE, fU, cM, az, ByteArray.size, a2, b1.2.1.2, b2.2.1.2, k1, k2]
  ·rcases (by omega : i = 0 ∨ i = 1 ∨ i = 2) with rfl | rfl | rfl
   ·exact a1
   ·exact b1.1
   ·exact b2.1
  ·show ByteArray.size ⟨#[]⟩ + (3 + ag (fun i => (Ts i).cost) 3) ≤ _
   have e : ByteArray.size ⟨#[]⟩ = 0 := by decide
   have := b1.2.2
   have := b2.2.2
   simp only [ag, e]; omega
def IC (sb b lo B C n : Nat) (ka va : Option Addr) (kc vc : Nat) (deep : Int) (loops : Bool) (i : Nat) (w : World) (x : Value) : Prop := match i with
 |0 => x = .pointer (some ⟨b, 3, none⟩)
 |1 => x = .slice ka 2 kc
 |2 => x = .pointer (some ⟨sb, 0, none⟩)
 |3 => x = .slice va n vc
 |4 => x = .int .i64 deep
 |5 => x = .int .i64 (deep - 1)
 |6 => x = .pointer (some ⟨sb, 0, none⟩)
 |7 => ∃ q : Nat, q < 3 ∧ x = .int .i64 (q : Int)
 |8 => x = .bool loops
 |9 => TV lo (mo C) w x
 |10 => LV lo (fun T => ∃ A, mo C A ∧ T = cm 0 0 ⟨#[]⟩ A) w x
 |11 => AV B b 3 (VL 3 C) w x
 |12 => x = .pointer (some ⟨b, 3, none⟩)
 |_ => True
theorem yx {sb b lo B C n : Nat} {ka va : Option Addr} {kc vc : Nat} {deep : Int} {loops : Bool} {l : Array Bool} {v v' : World} (h : Wn lo v v') (bB : l.getD 11 false = false) (aF : l.getD 13 false = false) : ∀ j x, l.getD j false = true → IC sb b lo B C n ka va kc vc deep loops j v x → IC sb b lo B C n ka va kc vc deep loops j v' x := by
 intro j x hl hx
 match j, hx with
 |0, hx => exact hx
 |1, hx => exact hx
 |2, hx => exact hx
 |3, hx => exact hx
 |4, hx => exact hx
 |5, hx => exact hx
 |6, hx => exact hx
 |7, hx => exact hx
 |8, hx => exact hx
 |9, hx => exact TV.stable h hx
 |10, hx => exact LV.stable h hx
 |11, _ => rw [bB] at hl; cases hl
 |12, hx => exact hx
 |13, _ => rw [aF] at hl; cases hl
 |(k + 14), _ => exact trivial
theorem Pn {sb b lo B C n : Nat} {ka va : Option Addr} {kc vc : Nat} {deep : Int} {loops : Bool} {o : Nat} {y : Value} {v : World} (hb : b < lo) : ∀ j x, IC sb b lo B C n ka va kc vc deep loops j v x → IC sb b lo B C n ka va kc vc deep loops j (v.setCell ⟨b, o, none⟩ y) x := by
 intro j x hx
 match j, hx with
 |0, hx => exact hx
 |1, hx => exact hx
 |2, hx => exact hx
 |3, hx => exact hx
 |4, hx => exact hx
 |5, hx => exact hx
 |6, hx => exact hx
 |7, hx => exact hx
 |8, hx => exact hx
 |9, hx => exact TV.stable (Wn.of_set hb) hx
 |10, hx => exact LV.stable (Wn.of_set hb) hx
 |11, hx => exact AV.put hx
 |12, hx => exact hx
 |13, hx => exact hx
 |(k + 14), _ => exact trivial
def yP (i : Nat) : Nat := [146, 147, 148, 149, 150, 151, 152, 153, 154, 155, 156, 157, 158, 1013].getD i 2000
theorem LR (i j : Nat) (hi : i < 14) (hj : j < 14) (h : yP i = yP j) : i = j := by
 have : ((List.range 14).all fun i => (List.range 14).all fun j => yP i != yP j || i == j) = true := by decide
 exact bK2
theorem vy {deep : Int} {C K M : Nat} (BD : LW deep C K M) (sb B n m : Nat) (v : Value) (loops : Bool) (W : World) (hm : m ≤ 2) (hB : B + (2 * K + 10) ≤ 1099511627776) (hn : n + 2 + M ≤ 1000) (hs : Src sb B W) (hv : Scp sb W v n) :
  Calls Tryd.prog 27 #[.pointer (some ⟨sb, 0, none⟩), v, .int .i64 deep, .int .i64 m, .bool loops] W fun e w' => ∃ T u, e = .returned (T.val u) ∧ Drawn sb (B + (2 * K + 10)) (fun T => (T.kind = 4 ∧ T.sOk = true) ∧ T.len ≤ 2) (2 * C) W T u w' := by
 have h1 : m * K ≤ 2 * K := Nat.mul_le_mul_right _ hm
 have h2 : m * C ≤ 2 * C := Nat.mul_le_mul_right _ hm
 refine (BD sb B n m v loops W (by omega) (by omega) hs hv).mono ?_
 rintro e w' ⟨T, u, h3, d⟩
 exact ⟨T, u, h3, ⟨d.row, d.fine, ⟨⟨d.ok.1, d.ok.2.1⟩, by rw [d.ok.2.2]; exact hm⟩, by have := d.cost; omega, d.src.mono (by omega), d.kp⟩⟩
def F36 (sb A B b C : Nat) (w : World) (v : World) : Prop := DW sb A w v ∧ ∃ (Ts : Nat → Nd) (us : Nat → Value) (s e : Nat → Nat) (a : Option Addr) (c : Nat), v.heap[b]? = some (lV 10 0 ⟨#[]⟩ a 3 c) ∧ Gw B Ts us s e 3 (.slice a 3 c) v ∧ VL 3 C Ts
theorem Gw.weak {B B' j : Nat} {Ts : Nat → Nd} {us : Nat → Value} {s e : Nat → Nat} {v : Value} {w : World} (h : Gw B Ts us s e j v w) (hB : B' ≤ B) : Gw B' Ts us s e j v w := by
 refine ⟨⟨h.own.1, ?_⟩, fun i hi => ?_, h.apart⟩
 ·rcases h.own.2 with h1 | ⟨g, cap, cur, h1, h2, h3⟩
  ·exact .inl h1
  ·exact .inr ⟨g, cap, cur, h1, by omega, h3⟩
 ·obtain ⟨k1, k2, k3, k4⟩ := h.kid i hi
  exact ⟨k1, by omega, k3, k4⟩
def ct (A T : Nd) : Nd := .mk T.kind T.num T.name (1 + T.len) (fW (fun _ => A) 1 T.kids)
theorem yW (f g : Nat → Nat) : ∀ m, ag (fW f 1 g) (1 + m) = f 0 + ag g m
 |0 => by simp [ag, fW]
 |m + 1 => by
  rw [← Nat.add_assoc]
  simp only [ag]
  rw [yW f g m, bN _ _ (by omega), show 1 + m - 1 = m by omega]
  omega
theorem sR (A T : Nd) : (ct A T).cost = T.cost + (1 + A.cost) := by
 rw [T.cost_eq]
 show T.name.size + ((1 + T.len) + ag (fun i => (fW (fun _ => A) 1 T.kids i).cost) (1 + T.len)) = _
 have e : (fun i => (fW (fun _ => A) 1 T.kids i).cost) = fW (fun _ => A.cost) 1 (fun i => (T.kids i).cost) := by
  funext i; unfold fW; split <;> rfl
 rw [e, yW]
 omega
theorem xy {A T : Nd} (hA : A.Fine) (hT : T.Fine) (hl : 1 + T.len ≤ 9223372036854775807) : (ct A T).Fine :=
 ⟨(Nd.fine_nums hT).1, (Nd.fine_nums hT).2, Nd.fine_name hT, hl, fun i hi => by
  by_cases h : i < 1
  ·rw [bh _ _ h]; exact hA
  ·rw [bN _ _ (by omega)]; exact Nd.fine_kid hT (by omega)⟩
theorem CX {A T : Nd} (hA : A.sOk = true) (hk : T.kind = 4) (hT : T.sOk = true) : (ct A T).sOk = true := by
 rw [aG, hk] at hT
 rw [aG]
 show aJ T.kind T.num T.name (1 + T.len) (fun i => (fW (fun _ => A) 1 T.kids i).eOk) (fun i => (fW (fun _ => A) 1 T.kids i).sOk) (fun i => (fW (fun _ => A) 1 T.kids i).cOk) (ct A T).kk = true
 rw [hk]
 simp only [aJ, if_true, Bool.and_eq_true] at hT ⊢
 refine ⟨hT.1, iD fun i hi => ?_⟩
 by_cases h : i < 1
 ·rw [bh _ _ h]; exact hA
 ·rw [bN _ _ (by omega)]; exact bD.1 hT.2 (i - 1) (by omega)
def F55 (sb A B b : Nat) (Sx T : Nd) (w : World) (v : World) : Prop := DW sb A w v ∧ ∃ (us : Nat → Value) (s e : Nat → Nat) (a : Option Addr) (c : Nat), v.heap[b]? = some (lV T.kind T.num T.name a (1 + T.len) c) ∧ Gw B (fW (fun _ => Sx) 1 T.kids) us s e (1 + T.len) (.slice a (1 + T.len) c) v
def fJ : Nd := al 7 1 ⟨#[105]⟩
def we : Nd := cm 5 0 ⟨#[105]⟩ (al 22 0 ⟨#[]⟩)
def qz (q : Nat) : Nd := gO 28 0 ⟨#[60]⟩ (al 24 0 ⟨#[105]⟩) (al 22 (1 + (q : Int)) ⟨#[]⟩)
def z6 (q : Nat) (L : Nd) : Nd := gO 11 0 ⟨#[]⟩ (qz q) L
def pF (q : Nat) (L : Nd) : Nd := gO 4 0 ⟨#[]⟩ we (z6 q L)
theorem Wn.of_put {lo b : Nat} {w : World} {k n : Int} {s : ByteArray} {u : Value} (h : b < lo) : Wn lo w (iN w b k n s u) := ⟨by rw [lF]; exact Nat.le_refl _, fun i h1 _ => iA w b k n s u i (by omega)⟩
theorem Kl {q C : Nat} {T : Nd} (hq : q < 3) (h1 : fJ.sOk = true) (h2 : ck ⟨#[105]⟩ = true) (hf : T.Fine) (hk : T.kind = 4) (ho : T.sOk = true) (hc : T.cost ≤ C) (hl : 1 + T.len ≤ 9223372036854775807) : (pF q (ct fJ T)).sOk = true ∧ (pF q (ct fJ T)).Fine ∧ (pF q (ct fJ T)).cost ≤ C + 200 := by
 have hcq : (qz q).eOk = true := rT (by decide) (lS h2) (mQ (by omega))
 have SU : (qz q).Fine := iE (by omega) (by omega) (by decide) (aC (by omega) (by omega) (by decide)) (aC (by omega) (by omega) (by decide))
 have hd : we.sOk = true := qb (.inl rfl) h2 (mQ (by omega))
 have o8 : we.Fine := bF (by omega) (by omega) (by decide) (aC (by omega) (by omega) (by decide))
 have hL := CX h1 hk ho
 have hs : fJ.Fine := aC (by omega) (by omega) (by decide)
 refine ⟨J7 hd (J5 hcq hk hL), iE (by omega) (by omega) (by decide) o8 (iE (by omega) (by omega) (by decide) SU (xy hs hf hl)), ?_⟩
 unfold pF z6 qz we
 rw [iF, iF, iF, cH, bw, bw, bw, sR]
 have e0 : ByteArray.size ⟨#[]⟩ = 0 := by decide
 have e1 : ByteArray.size ⟨#[60]⟩ = 1 := by decide
 have e2 : ByteArray.size ⟨#[105]⟩ = 1 := by decide
 have e3 : fJ.cost = 1 := by decide
 rw [e0, e1, e2, e3]
 omega
def F56 (sb A : Nat) (L : Nd) (w : World) (v : World) : Prop := ∃ (v0 : World) (q : Nat) (a : Option Addr) (c : Nat), DW sb A w v0 ∧ q < 3 ∧ Row (w.heap.size + 1) v0.heap.size v0 (pF q L) (.slice a 2 c) ∧ v = iN v0 w.heap.size 4 0 ⟨#[]⟩ (.slice a 2 c)
def IB (b lo NZ : Nat) (aB : Option Addr) (T : Nd) (cB : Nat) (i : Nat) (w : World) (x : Value) : Prop := match i with
 |0 => x = .agg #[.int .i64 7, .int .i64 1, .string ⟨#[105]⟩, .slice none 0 0]
 |1 => GV lo (fun A => A = fJ) w x
 |2 => x = .pointer (some ⟨b, 3, none⟩)
 |3 => x = .slice aB T.len cB
 |4 => AV NZ b (1 + T.len) (fun Ts => Ts = fW (fun _ => fJ) 1 T.kids) w x
 |5 => x = .pointer (some ⟨b, 3, none⟩)
 |_ => True
theorem BT {b lo NZ : Nat} {aB : Option Addr} {T : Nd} {cB : Nat} {l : Array Bool} {v v' : World} (h : Wn lo v v') (bB : l.getD 4 false = false) (aF : l.getD 6 false = false) : ∀ j x, l.getD j false = true → IB b lo NZ aB T cB j v x → IB b lo NZ aB T cB j v' x := by
 intro j x hl hx
 match j, hx with
 |0, hx => exact hx
 |1, hx => exact GV.stable h hx
 |2, hx => exact hx
 |3, hx => exact hx
 |4, _ => rw [bB] at hl; cases hl
 |5, hx => exact hx
 |6, _ => rw [aF] at hl; cases hl
 |(k + 7), _ => exact trivial
theorem Pm {b lo NZ : Nat} {aB : Option Addr} {T : Nd} {cB : Nat} {o : Nat} {y : Value} {v : World} (hb : b < lo) : ∀ j x, IB b lo NZ aB T cB j v x → IB b lo NZ aB T cB j (v.setCell ⟨b, o, none⟩ y) x := by
 intro j x hx
 match j, hx with
 |0, hx => exact hx
 |1, hx => exact GV.stable (Wn.of_set hb) hx
 |2, hx => exact hx
 |3, hx => exact hx
 |4, hx => exact AV.put hx
 |5, hx => exact hx
 |6, hx => exact hx
 |(k + 7), _ => exact trivial
def Jb (i : Nat) : Nat := [229, 230, 231, 232, 233, 234, 1006].getD i 2000
theorem LQ (i j : Nat) (hi : i < 7) (hj : j < 7) (h : Jb i = Jb j) : i = j := by
 have : ((List.range 7).all fun i => (List.range 7).all fun j => Jb i != Jb j || i == j) = true := by decide
 exact bK2
def IA (sb lo : Nat) (la : Option Addr) (L : Nd) (lc : Nat) (i : Nat) (w : World) (x : Value) : Prop := match i with
 |0 => x = .agg #[.int .i64 22, .int .i64 0, .string ⟨#[]⟩, .slice none 0 0]
 |1 => LV lo (fun T => T = cm 0 0 ⟨#[]⟩ (al 22 0 ⟨#[]⟩)) w x
 |2 => TV lo (fun T => T = we) w x
 |3 => x = .agg #[.int .i64 24, .int .i64 0, .string ⟨#[105]⟩, .slice none 0 0]
 |4 => x = .pointer (some ⟨sb, 0, none⟩)
 |5 => ∃ q : Nat, q < 3 ∧ x = .int .i64 (q : Int)
 |6 => ∃ q : Nat, q < 3 ∧ x = .int .i64 (1 + (q : Int))
 |7 => ∃ q : Nat, q < 3 ∧ x = .agg #[.int .i64 22, .int .i64 (1 + (q : Int)), .string ⟨#[]⟩, .slice none 0 0]
 |8 => LV lo (fun T => ∃ q : Nat, q < 3 ∧ T = gO 0 0 ⟨#[]⟩ (al 24 0 ⟨#[105]⟩) (al 22 (1 + (q : Int)) ⟨#[]⟩)) w x
 |9 => TV lo (fun T => ∃ q : Nat, q < 3 ∧ T = qz q) w x
 |10 => x = L.val (.slice la L.len lc)
 |11 => LV lo (fun T => ∃ q : Nat, q < 3 ∧ T = gO 0 0 ⟨#[]⟩ (qz q) L) w x
 |12 => TV lo (fun T => ∃ q : Nat, q < 3 ∧ T = z6 q L) w x
 |13 => LV lo (fun T => ∃ q : Nat, q < 3 ∧ T = gO 0 0 ⟨#[]⟩ we (z6 q L)) w x
 |14 => TV lo (fun T => ∃ q : Nat, q < 3 ∧ T = pF q L) w x
 |_ => True
theorem nF {sb lo : Nat} {la : Option Addr} {L : Nd} {lc : Nat} {l : Array Bool} {v v' : World} (h : Wn lo v v') (bB : l.getD 15 false = false) (aF : l.getD 15 false = false) : ∀ j x, l.getD j false = true → IA sb lo la L lc j v x → IA sb lo la L lc j v' x := by
 intro j x hl hx
 match j, hx with
 |0, hx => exact hx
 |1, hx => exact LV.stable h hx
 |2, hx => exact TV.stable h hx
 |3, hx => exact hx
 |4, hx => exact hx
 |5, hx => exact hx
 |6, hx => exact hx
 |7, hx => exact hx
 |8, hx => exact LV.stable h hx
 |9, hx => exact TV.stable h hx
 |10, hx => exact hx
 |11, hx => exact LV.stable h hx
 |12, hx => exact TV.stable h hx
 |13, hx => exact LV.stable h hx
 |14, hx => exact TV.stable h hx
 |15, _ => rw [aF] at hl; cases hl
 |(k + 16), _ => exact trivial
theorem Pl {sb lo : Nat} {la : Option Addr} {L : Nd} {lc : Nat} {v v' : World} (h : Wn lo v v') : ∀ j x, IA sb lo la L lc j v x → IA sb lo la L lc j v' x := by
 intro j x hx
 match j, hx with
 |0, hx => exact hx
 |1, hx => exact LV.stable h hx
 |2, hx => exact TV.stable h hx
 |3, hx => exact hx
 |4, hx => exact hx
 |5, hx => exact hx
 |6, hx => exact hx
 |7, hx => exact hx
 |8, hx => exact LV.stable h hx
 |9, hx => exact TV.stable h hx
 |10, hx => exact hx
 |11, hx => exact LV.stable h hx
 |12, hx => exact TV.stable h hx
 |13, hx => exact LV.stable h hx
 |14, hx => exact TV.stable h hx
 |15, hx => exact hx
 |(k + 16), _ => exact trivial
def Da (i : Nat) : Nat := [235, 236, 237, 238, 239, 240, 241, 242, 243, 244, 245, 246, 247, 248, 249, 1015].getD i 2000
theorem LP (i j : Nat) (hi : i < 16) (hj : j < 16) (h : Da i = Da j) : i = j := by
 have : ((List.range 16).all fun i => (List.range 16).all fun j => Da i != Da j || i == j) = true := by decide
 exact bK2
end
end Go.Proofs.YtkfbbdhidecefaaDoor
