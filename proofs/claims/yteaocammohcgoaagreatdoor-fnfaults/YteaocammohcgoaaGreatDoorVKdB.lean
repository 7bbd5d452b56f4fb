import Derived.Test.YteaocammohcgoaaGreatDoorVKdA
import Derived.Deep.RegionLaw
import Derived.Deep.AppendLies
set_option linter.unusedVariables false
set_option maxHeartbeats 16000000
set_option maxRecDepth 100000
namespace Go.Proofs.YteaocammohcgoaaGreatDoor
open Go.RowKit
variable {G : Prop}
theorem bH0 (h : G := by
  have k8' : (wr.drewN nq).cell? ⟨K.cb, 8, none⟩ = some (.int .i64 ((el : Int) + 1)) := k8
  have b8 : K.cb < (wr.drewN nq).heap.size := P0.1
  have hupq : K.up ≤ (wr.drewN nq).heap.size := hKl
  generalize wr.drewN nq = wq at *
  first
  | clear k_H0_0
    go_region_law ((refine step_append_lies _ (by rfl) _ _ 49 (by rfl) K.up 92 i0 (.agg #[.string ⟨#[]⟩, .int .i64 0, .int .i64 0]) 3 32 Tryz.underlying49 lq oQ eT ed rfl (by decide) (.slice a vs.length cap) vs.length (fH vs) (by rfl) (HE.out _).1 ⟨wq.heap.size, 0, none⟩ 1 1 [.string t, .int .i64 ty, .int .i64 ((el : Int) + 1)] (by rfl) rfl (qq wq _ _ _ _) (qp _ _ _) (by decide) (by unfold maxLen; omega) (by omega) (by simp; omega) (wq.heap.size + 1) (by simp) ?_
                    intro g1 yl w1 HW HG HA hlt1
                    have ED : some K.cb ≠ (Value.slice a vs.length cap).ownBlock := by
                      intro e; have := ((HE.out (.cells #[] 0)).1.lt _ e.symm).1; have := hK.cu; omega
                    have q7 : w1.cell? ⟨K.cb, 7, none⟩ = some (.slice a vs.length cap) := HG.cell (HE.out _).2.1 ED
                    have qf : w1.frozen? ⟨K.cb, 7, none⟩ = false := (World.frozen?_of_block (HG.block _ (by simp; omega) ED)).trans (HE.out _).2.2.2.1
                    have HW := aa HW
                    have HG := aa HG
                    have HA := aa HA))
    all_goals (try go_wp2)
    all_goals go_end0
    all_goals exact oJ (l := l) (E := E) hvs hm TE HS.out Pt.out HK'.out FV.out (HE.out _).2.2.2.2 HG.out HW.out HA.out HO.out HC.out HIT.out HPV.out Gp.out h6 h7 hv h9
  | clear k_H0_1
    go_region_law ((refine step_append_lies _ (by rfl) _ _ 49 (by rfl) K.up 92 i0 (.agg #[.string ⟨#[]⟩, .int .i64 0, .int .i64 0]) 3 32 Tryz.underlying49 lq oQ eT ed rfl (by decide) (.slice (some ⟨g, 0, none⟩) vs.length cap) vs.length (fH vs) (by rfl) (HE.out _).1 ⟨wq.heap.size, 0, none⟩ 1 1 [.string t, .int .i64 ty, .int .i64 ((el : Int) + 1)] (by rfl) rfl (qq wq _ _ _ _) (qp _ _ _) (by decide) (by unfold maxLen; omega) (by omega) (by simp; omega) (wq.heap.size + 1) (by simp) ?_
                    intro g1 yl w1 HW HG HA hlt1
                    have ED : some K.cb ≠ (Value.slice (some ⟨g, 0, none⟩) vs.length cap).ownBlock := by
                      intro e; have := ((HE.out (.cells #[] 0)).1.lt _ e.symm).1; have := hK.cu; omega
                    have q7 : w1.cell? ⟨K.cb, 7, none⟩ = some (.slice (some ⟨g, 0, none⟩) vs.length cap) := HG.cell (HE.out _).2.1 ED
                    have qf : w1.frozen? ⟨K.cb, 7, none⟩ = false := (World.frozen?_of_block (HG.block _ (by simp; omega) ED)).trans (HE.out _).2.2.2.1
                    have HW := aa HW
                    have HG := aa HG
                    have HA := aa HA))
    all_goals (try go_wp2)
    all_goals go_end0
    all_goals exact oJ (l := l) (E := E) hvs hm TE HS.out Pt.out HK'.out FV.out (HE.out _).2.2.2.2 HG.out HW.out HA.out HO.out HC.out HIT.out HPV.out Gp.out h6 h7 hv h9) : G := h
theorem GA (l : List (ByteArray × Int)) (d i : Nat) (h : i < l.length) : (jo (l.map fun p => (p.1, p.2, d)) i).2.2 = d := by
 unfold jo
 rw [List.getD_eq_getElem?_getD, List.getElem?_map, List.getElem?_eq_getElem h]; rfl
theorem sI (l : List (ByteArray × Int)) (E : Sc) {i : Nat} (h : (varsOf E).length ≤ i) (h2 : i < (varsOf (l :: E)).length) : (jo (varsOf (l :: E)) i).2.2 = E.length + 1 := by
 unfold varsOf at h2 ⊢
 rw [nM _ _ h, GA]
 rw [List.length_append] at h2; simp at h2 ⊢; omega
theorem LM (E : Sc) : ∀ {i : Nat}, i < (varsOf E).length → (jo (varsOf E) i).2.2 ≤ E.length := by
 induction E with
 |nil => intro i h; exact absurd h (Nat.not_lt_zero _)
 |cons l E ih =>
  intro i h
  by_cases h1 : i < (varsOf E).length
  ·unfold varsOf; rw [pz _ _ h1]; have := ih h1; simp; omega
  ·rw [sI l E (by omega) h]; simp
theorem yJ (l : List (ByteArray × Int)) (E : Sc) {i : Nat} (h : i < (varsOf E).length) : (jo (varsOf (l :: E)) i).2.2 ≤ E.length := by
 unfold varsOf; rw [pz _ _ h]; exact LM E h
theorem A9 (l : List (ByteArray × Int)) (E : Sc) (s : ByteArray) : oC (l :: E) s = true ↔ ∃ i, (varsOf E).length ≤ i ∧ i < (varsOf (l :: E)).length ∧ (jo (varsOf (l :: E)) i).1 = s := by
 have hl : (varsOf (l :: E)).length = (varsOf E).length + l.length := by simp [varsOf]
 have hv : ∀ j, j < l.length → (jo (varsOf (l :: E)) ((varsOf E).length + j)).1 = (l.reverse.getD j (⟨#[]⟩, 0)).1 := by
  intro j hj
  rw [show varsOf (l :: E) = varsOf E ++ l.reverse.map fun p => (p.1, p.2, E.length + 1) from rfl]
  rw [nM _ _ (Nat.le_add_right _ _), Nat.add_sub_cancel_left]
  unfold jo
  rw [List.getD_eq_getElem?_getD, List.getElem?_map, List.getD_eq_getElem?_getD, List.getElem?_eq_getElem (by simpa using hj)]
  rfl
 simp only [oC, List.any_eq_true, decide_eq_true_eq]
 constructor
 ·rintro ⟨p, hp, rfl⟩
  obtain ⟨j, hj, rfl⟩ := List.getElem_of_mem (List.mem_reverse.2 hp)
  simp at hj
  refine ⟨(varsOf E).length + j, Nat.le_add_right _ _, by omega, ?_⟩
  rw [hv j hj, List.getD_eq_getElem?_getD, List.getElem?_eq_getElem (by simpa using hj)]
  rfl
 ·rintro ⟨i, h1, h2, h3⟩
  obtain ⟨j, rfl⟩ : ∃ j, i = (varsOf E).length + j := ⟨i - (varsOf E).length, by omega⟩
  have hj : j < l.length := by omega
  rw [hv j hj, List.getD_eq_getElem?_getD, List.getElem?_eq_getElem (by simpa using hj)] at h3
  refine ⟨_, List.mem_reverse.1 (List.getElem_mem (by simpa using hj)), h3⟩
theorem RH : (Tryz.prog.info? 92).map (fun i => (i.zero, i.size, i.bytes)) = some (some (.agg #[.string ⟨#[]⟩, .int .i64 0, .int .i64 0]), 3, 32) := by kernel_rfl
theorem below_drewN (w : World) (n : Nat) : Below w.heap.size w (w.drewN n) := ⟨rfl, rfl, rfl, Nat.le_refl _, fun _ _ => rfl⟩
theorem qq (w : World) (a b c : Value) (t : TypeId) : ∀ j u, [a, b, c][j]? = some u → (w.alloc (.cells #[a, b, c] t)).cell? ((⟨w.heap.size, 0, none⟩ : Addr).add j) = some u := by
 intro j u h
 rw [iD]
 rcases j with _ | _ | _ | j <;> simp_all
theorem qp (b : ByteArray) (a c : Int) : ∀ u ∈ [Value.string b, .int .i64 a, .int .i64 c], u.oneCell' = true := by
 intro u hu
 simp at hu
 rcases hu with rfl | rfl | rfl <;> rfl
theorem SRaw.putV {K : SK} (hK : K.Ok) {w w1 : World} {vv v1 : Value} {code place deep ret loops outs : Int} {zs : List Int} {vs vs1 : List Vr} (h : SRaw K w vv code place deep ret loops outs zs vs)
  (hg : w.grownBy w1 vv.ownBlock) (ho : w1.ownsRow K.up 92 3 v1 vs1.length (fH vs1)) : SRaw K (w1.setCell ⟨K.cb, 7, none⟩ v1) v1 code place deep ret loops outs zs vs1 := by
 have pY := hK.cu
 have htu := hK.tu
 have hc : w1.heap[K.cb]? = w.heap[K.cb]? := hg.block _ h.lt.1 (fun e => by have := (h.var.lt _ e.symm).1; omega)
 have ht : w1.heap[K.tb]? = w.heap[K.tb]? := hg.block _ h.lt.2 (fun e => by have := (h.var.lt _ e.symm).1; omega)
 refine ⟨?_, ?_, h.len, ownsRow_setCell_below ho (show K.cb < K.up from hK.cu) v1⟩
 ·rw [heap_setCell_same w1 K.cb 7 _ _ v1 (hc.trans h.blk)]; rfl
 ·rw [Below.heap_setCell w1 ⟨K.cb, 7, none⟩ v1 K.tb (fun e => hK.ne e.symm), ht]; exact h.typ
theorem SS.of_raw {K : SK} {w0 : World} {az : Option Nat} {σ σ' : CR CS} {ret loops outs : Int} {w w' : World} (h : SS K w0 az σ ret loops outs w) {vv : Value} {code place deep ret' loops' outs' : Int} {zs : List Int} {vs : List Vr}
  (h1 : SRaw K w' vv code place deep ret' loops' outs' zs vs) (h2 : SIs K σ' code place deep zs vs) (h3 : vv.ownBlock = az ∨ ∃ k, vv.ownBlock = some k ∧ w0.heap.size ≤ k) {own : Option Nat} (ho : own = az ∨ ∃ k, own = some k ∧ w0.heap.size ≤ k) (hk : Kept (K.S own) w w') : SS K w0 az σ' ret' loops' outs' w' := by
 refine ⟨h.ok, ⟨vv, code, place, deep, zs, vs, h1, h2, h3⟩, h.kept.trans hk ?_⟩
 rintro i hi (e | e | e)
 ·exact .inl e
 ·exact .inr (.inl e)
 ·rcases ho with e3 | ⟨k, e3, hk⟩
  ·exact .inr (.inr (e.trans e3))
  ·rw [e3] at e; injection e with e; omega
def ir (s : CS) (t : ByteArray) (ty : Int) (p : Nat) : CR CS := if oC s.1 t = true then .error (6, p) else .ok (fZ s.1 t ty, s.2)
theorem oJ {K : SK} {w0 : World} {az : Option Nat} {X : List Int} {ret loops outs : Int} {w wr wq w1 : World} {l : List (ByteArray × Int)} {E : Sc} {t : ByteArray} {ty : Int} {p m0 el yl cap : Nat} {g1 : Nat} {code place : Int} {zs : List Int} {vs : List Vr} {a : Option Addr} {o : Obj}
  (hvs : varsOf (l :: E) = vs) (hm : (varsOf E).length = m0) (TE : E.length = el)
  (hS : SS K w0 az (.ok (l :: E, X)) ret loops outs w) (hR : SRaw K wr (.slice a vs.length cap) code place ((el : Int) + 1) ret loops outs zs vs) (hk : Kept (fun k => k = K.cb) w wr) (hq : Below wr.heap.size wr wq)
  (hR2 : SRaw K (wq.alloc o) (.slice a vs.length cap) code place ((el : Int) + 1) ret loops outs zs vs)
  (Bn : (wq.alloc o).drew.grownBy w1 (Value.slice a vs.length cap).ownBlock) (hw : w1.ownsRow K.up 92 3 (.slice (some ⟨g1, 0, none⟩) (vs.length + 1) yl) (vs.length + 1) (fH vs ++ [.string t, .int .i64 ty, .int .i64 ((el : Int) + 1)]))
  (IV : (Value.slice a vs.length cap).ownBlock = some g1 ∨ g1 = wq.heap.size + 1) (ho : (Value.slice a vs.length cap).ownBlock = az ∨ ∃ k, (Value.slice a vs.length cap).ownBlock = some k ∧ w0.heap.size ≤ k)
  (hc : (code = 0 ∧ place = 0 ∧ ∀ j, m0 ≤ j → j < vs.length → (jo vs j).1 ≠ t) ∨ (code = 6 ∧ place = (p : Int) ∧ ∃ j, m0 ≤ j ∧ j < vs.length ∧ (jo vs j).1 = t))
  (hit : oC (l :: E) t = true ↔ ∃ i, m0 ≤ i ∧ i < vs.length ∧ (jo vs i).1 = t) (hpv : varsOf (fZ (l :: E) t ty) = vs ++ [(t, ty, el + 1)]) (KW : aN (fZ (l :: E) t ty) = aN (l :: E) + 1 ∧ (fZ (l :: E) t ty).length = (l :: E).length)
  (h6 : zs = X ++ List.replicate (K.N - X.length) 0) (h7 : X.length ≤ K.N) (hv : aN (l :: E) + 1 ≤ X.length) (h9 : (l :: E).length ≤ X.length + 1) :
  Ending.returned (.tuple #[]) = Ending.returned (.tuple #[]) ∧ SS K w0 az (ir (l :: E, X) t ty p) ret loops outs (w1.setCell ⟨K.cb, 7, none⟩ (.slice (some ⟨g1, 0, none⟩) (vs.length + 1) yl)) := by
 have hg : (wq.alloc o).grownBy w1 (Value.slice a vs.length cap).ownBlock := ⟨Bn.os, Bn.tape, Bn.output, Bn.size, Bn.block⟩
 have hK := hS.ok
 have Nx : fH (vs ++ [(t, ty, el + 1)]) = fH vs ++ [.string t, .int .i64 ty, .int .i64 ((el : Int) + 1)] := by rw [tB]; rfl
 have hll : (vs ++ [(t, ty, el + 1)]).length = vs.length + 1 := by simp
 have hP := SRaw.putV (vs1 := vs ++ [(t, ty, el + 1)]) hK hR2 hg (by rw [Nx, hll]; exact hw)
 have ia : Kept (K.S (Value.slice a vs.length cap).ownBlock) w (w1.setCell ⟨K.cb, 7, none⟩ (.slice (some ⟨g1, 0, none⟩) (vs.length + 1) yl)) := by
  have e1 : Kept (K.S (Value.slice a vs.length cap).ownBlock) w wr := ⟨hk.os, hk.tape, hk.output, hk.size, fun k nZ hn => hk.block k nZ (fun e => hn (.inl e))⟩
  have e2 := e1.trans (bG hq (K.S (Value.slice a vs.length cap).ownBlock)) (fun _ _ h => h)
  have e3 := e2.trans (bG ((Below.refl _ _).alloc lr o) (K.S (Value.slice a vs.length cap).ownBlock)) (fun _ _ h => h)
  have e4 := e3.trans (Kept.grown (S := K.S (Value.slice a vs.length cap).ownBlock) hg (fun k h => .inr (.inr h.symm))) (fun _ _ h => h)
  exact e4.trans (Kept.setCell (S := K.S (Value.slice a vs.length cap).ownBlock) ⟨K.cb, 7, none⟩ _ (.inl rfl)) (fun _ _ h => h)
 have b8 := hS.kept.size
 have hsz2 := hk.size
 have hsz3 := hq.size
 have cY : (Value.slice (some ⟨g1, 0, none⟩) (vs.length + 1) yl).ownBlock = az ∨ ∃ k, (Value.slice (some ⟨g1, 0, none⟩) (vs.length + 1) yl).ownBlock = some k ∧ w0.heap.size ≤ k := by
  show some g1 = az ∨ ∃ k, some g1 = some k ∧ w0.heap.size ≤ k
  rcases IV with e | e
  ·rw [← e]; exact ho
  ·exact .inr ⟨g1, rfl, by omega⟩
 refine ⟨rfl, hS.of_raw hP ?_ cY ho ia⟩
 unfold ir
 rcases hc with ⟨rfl, rfl, pV⟩ | ⟨rfl, rfl, hyes⟩
 ·rw [if_neg (by rw [hit]; rintro ⟨i, a1, a2, a3⟩; exact pV i a1 a2 a3)]
  refine ⟨rfl, rfl, ?_, h6, h7, hpv.symm, ?_, ?_⟩
  ·rw [KW.2, ← TE]; simp
  ·show aN (fZ (l :: E) t ty) ≤ X.length
   rw [KW.1]; exact hv
  ·show (fZ (l :: E) t ty).length ≤ X.length + 1
   rw [KW.2]; exact h9
 ·rw [if_pos (hit.2 hyes)]
  exact ⟨rfl, (by decide : (6 : Int) ≠ 0), rfl⟩
theorem lA {K : SK} {w0 : World} {az : Option Nat} {s : CS} {ret loops outs : Int} {w : World} (h : SS K w0 az (.ok s) ret loops outs w) (t : ByteArray) (ty : Int) (p : Nat) (hs : s.1 ≠ []) (hv : aN s.1 + 1 ≤ s.2.length) :
    Calls Tryz.prog 71 #[.pointer (some ⟨K.cb, 0, none⟩), .string t, .int .i64 ty, .int .i64 p] w fun e w' => e = .returned (.tuple #[]) ∧ SS K w0 az (ir s t ty p) ret loops outs w' := by
  obtain ⟨E, X⟩ := s
  cases E with
  | nil => exact absurd rfl hs
  | cons l E =>
  obtain ⟨vv, code, place, deep, zs, vs, h1, ⟨rfl, rfl, rfl, h6, h7, rfl, h8, h9⟩, h3⟩ := h.is
  have hK := h.ok
  have dK := hK.few
  have qV := py (l :: E)
  dsimp only at hv h6 h7 h8 h9
  have hlen : (varsOf (l :: E)).length ≤ 1048576 := by omega
  have S7 : (varsOf E).length ≤ (varsOf (l :: E)).length := by simp [varsOf]
  have hEl : E.length ≤ 1048576 := by simp at h9; omega
  have TH : (((l :: E).length : Nat) : Int) = (E.length : Int) + 1 := by simp
  obtain ⟨i0, lq, oQ, eT, ed⟩ := info_parts RH
  obtain ⟨a, cap, rfl, eM, iG, eU⟩ := h1.vars
  have HT := aa (fun i (a : (varsOf E).length ≤ i) (b : i < (varsOf (l :: E)).length) => sI l E a b)
  have HL := aa (fun i (a : i < (varsOf E).length) => yJ l E a)
  have HIT := aa (A9 l E t)
  have HS := aa h
  have HR := aa h1
  have HO := aa h3
  have HPV : Hid (varsOf (fZ (l :: E) t ty) = varsOf (l :: E) ++ [(t, ty, E.length + 1)]) := by
    unfold Hid; simp [fZ, varsOf]
  have Gp : Hid (aN (fZ (l :: E) t ty) = aN (l :: E) + 1 ∧ (fZ (l :: E) t ty).length = (l :: E).length) := ⟨(lS (by simp) t ty).2.2, (lS (by simp) t ty).2.1⟩
  have HVL := aa qV
  clear h h1 h3 eU hs qV
  rw [TH] at *
  generalize hvs : varsOf (l :: E) = vs at *
  generalize hm : (varsOf E).length = m0 at *
  generalize TE : E.length = el at *
  obtain ⟨k0, k1, k2, k3, k4, k5, k6, k7, k8, k9, qK, pR⟩ := HR.out.cells
  clear k0 k1 k2 k3 k4 k5 k6 k9 qK pR
  go_enter Tryz.func71, Tryz.ntmps71
  go_wp2
  go_loopw [8] (fun i wr => ∃ (n : Nat) (code place : Int), m0 ≤ n ∧ n ≤ vs.length ∧ i = .int .i64 ((n : Int) - 1) ∧ SRaw K wr (.slice a vs.length cap) code place ((el : Int) + 1) ret loops outs zs vs ∧ Kept (fun k => k = K.cb) w wr ∧
    ((code = 0 ∧ place = 0 ∧ ∀ j, n ≤ j → j < vs.length → (jo vs j).1 ≠ t) ∨ (code = 6 ∧ place = (p : Int) ∧ ∃ j, m0 ≤ j ∧ j < vs.length ∧ (jo vs j).1 = t))) (fun i _ => (intOf i + 1).toNat)
  case atStart => exact ⟨vs.length, 0, 0, S7, Nat.le_refl _, rfl, HR.out, Kept.refl _ _, .inl ⟨rfl, rfl, fun j a b => by omega⟩⟩
  case round =>
    obtain ⟨n, code, place, Nn, rU, rfl, kI, rW, kB⟩ := hrel
    have Pt := aa kI
    have HK' := aa rW
    have HC := aa kB
    obtain ⟨a', mQ, hva, _, _, eU⟩ := kI.vars
    injection hva with hva1 hva2 hva3
    subst hva1
    obtain ⟨_, _, _, _, _, k5, k6, k7, k8, _, _, _⟩ := kI.cells
    have bN := kI.lt
    clear kI rW kB hva2 hva3
    by_cases mi : n = m0
    · have uQ : n = 0 ∨ (0 < n ∧ ∃ g, a = some ⟨g, 0, none⟩ ∧ wr.cell? ⟨g, (n - 1) * 3 + 2, none⟩ = some (.int .i64 ((jo vs (n - 1)).2.2 : Nat)) ∧ (jo vs (n - 1)).2.2 ≤ el) := by
        by_cases h0 : n = 0
        · exact .inl h0
        · rcases eU with hc | ⟨g, rfl, hc⟩
          · omega
          · exact .inr ⟨by omega, g, rfl, (hc (n - 1) (by omega)).2.2, HL.out (n - 1) (by omega)⟩
      clear eU
      have Ym : Hid (∀ wq, Below wr.heap.size wr wq → ∀ o : Obj, (wq.alloc o).ownsRow K.up 92 3 (.slice a vs.length cap) vs.length (fH vs) ∧ (wq.alloc o).cell? ⟨K.cb, 7, none⟩ = some (.slice a vs.length cap) ∧ (wq.alloc o).cell? ⟨K.cb, 8, none⟩ = some (.int .i64 ((el : Int) + 1)) ∧ (wq.alloc o).frozen? ⟨K.cb, 7, none⟩ = false ∧ SRaw K (wq.alloc o) (.slice a vs.length cap) code place ((el : Int) + 1) ret loops outs zs vs) := by
        intro wq hq o
        have hr := (Pt.out.calm hq).calm ((Below.refl _ _).alloc lr o)
        exact ⟨hr.var, hr.cells.2.2.2.2.2.2.2.1, hr.cells.2.2.2.2.2.2.2.2.1, hr.free 7, hr⟩
      have P0 := Pt.out.lt
      have hKl := Pt.out.room hK
      subst mi
      rcases uQ with rfl | ⟨iB, g, rfl, hc2', hle⟩
      · go_wp2
        go_quiet (fail)
        go_wp2
        have FV := aa (below_drewN wr nq)
        have HE := aa (Ym.out _ FV.out)
        have k7' : (wr.drewN nq).cell? ⟨K.cb, 7, none⟩ = some (.slice a vs.length cap) := k7
        have k_H0_0 := kk
        exact bH0
      · obtain ⟨n', rfl⟩ : ∃ n', n = n' + 1 := ⟨n - 1, by omega⟩
        have e1 : ((n' + 1 : Nat) : Int) - 1 = n' := by omega
        rw [e1]
        clear e1
        rw [Nat.add_sub_cancel] at hc2' hle
        have dE : (((jo vs n').2.2 : Int) == (el : Int) + 1) = false := bn (by omega)
        go_wp2
        go_quiet (fail)
        go_wp2
        have FV := aa (below_drewN wr nq)
        have HE := aa (Ym.out _ FV.out)
        have k7' : (wr.drewN nq).cell? ⟨K.cb, 7, none⟩ = some (.slice (some ⟨g, 0, none⟩) vs.length cap) := k7
        have k_H0_1 := kk
        exact bH0
    · rcases eU with hc | ⟨g, rfl, hc⟩
      · omega
      obtain ⟨n', rfl⟩ : ∃ n', n = n' + 1 := ⟨n - 1, by omega⟩
      have e1 : ((n' + 1 : Nat) : Int) - 1 = n' := by omega
      rw [e1]
      clear e1
      obtain ⟨c0, c1, c2⟩ := hc n' (by omega)
      have Ny := HT.out n' (by omega) (by omega)
      rw [Ny] at c2
      have Qe : (((el + 1 : Nat) : Int) == (el : Int) + 1) = true := by simp
      clear hc
      by_cases dn : (jo vs n').1 = t
      · have ht : ((jo vs n').1.toList == t.toList) = true := by rw [dn]; exact beq_self_eq_true _
        go_wp2
        go_quiet (fail)
        go_wp2_with (go_at_call 46; refine (E9 hK (Pt.out.calm (below_drewN _ _)) 6 p).mono ?_; rintro e w1 ⟨rfl, fN, jE⟩)
        refine ⟨⟨n', _, _, by omega, by omega, rfl, fN, ?_, ?_⟩, by simp only [intOf]; omega⟩
        · exact (HK'.out.trans (bG (below_drewN wr nq) _) (fun _ _ h => h)).trans jE (fun _ _ h => h)
        · refine .inr ?_
          rcases HC.out with ⟨rfl, rfl, _⟩ | ⟨rfl, rfl, h⟩
          · exact ⟨rfl, rfl, n', by omega, by omega, dn⟩
          · exact ⟨rfl, rfl, h⟩
      · have ht : ((jo vs n').1.toList == t.toList) = false := nP dn
        go_wp2
        go_quiet (fail)
        go_wp2
        go_wp2
        refine ⟨⟨n', code, place, by omega, by omega, rfl, Pt.out.calm (below_drewN _ _), ?_, ?_⟩, by simp only [intOf]; omega⟩
        · exact HK'.out.trans (bG (below_drewN wr nq) _) (fun _ _ h => h)
        · rcases HC.out with ⟨rfl, rfl, h⟩ | h
          · refine .inl ⟨rfl, rfl, fun j a b => ?_⟩
            by_cases e : j = n'
            · subst e; exact dn
            · exact h j (by omega) b
          · exact .inr h
theorem yS {w : World} {base : Nat} {e : TypeId} {size n k cap : Nat} {a : Option Addr} {xs : List Value} (h : w.ownsRow base e size (.slice a n cap) n xs) (hk : k ≤ n) : w.ownsRow base e size (.slice a k cap) k (xs.take (k * size)) := by
 refine ⟨?_, ?_⟩
 ·rw [List.length_take, h.1]; exact Nat.min_eq_left (Nat.mul_le_mul_right _ hk)
 ·rcases h.2 with ⟨h1, h2⟩ | ⟨g, c, cur, h1, h2, h3, h4, h5, h6, h7⟩
  ·injection h1 with e1 e2 e3
   subst e1 e2 e3
   obtain rfl : k = 0 := by omega
   exact .inl ⟨rfl, rfl⟩
  ·injection h1 with e1 e2 e3
   subst e1 e3
   refine .inr ⟨g, cap, cur, rfl, h2, h3, by omega, h5, h6, ?_⟩
   rw [← h7, List.take_take]
   congr 1
   exact (Nat.min_eq_left (Nat.mul_le_mul_right _ hk)).symm
theorem qe : ∀ (vs : List Vr) (k : Nat), (fH vs).take (k * 3) = fH (vs.take k)
 |[], k => by simp [fH]
 |v :: l, 0 => by simp [fH]
 |v :: l, k + 1 => by
  have e : (k + 1) * 3 = k * 3 + 1 + 1 + 1 := by omega
  rw [e]
  simp [fH, qe l k]
theorem tY (l : List (ByteArray × Int)) (E : Sc) : (varsOf (l :: E)).take (varsOf E).length = varsOf E := by
 rw [show varsOf (l :: E) = varsOf E ++ l.reverse.map fun p => (p.1, p.2, E.length + 1) from rfl]
 exact List.take_left
def sW (σ : CR CS) : CR CS := CR.bind σ fun s => .ok (s.1.tail, s.2)
theorem w64 (n : Int) (h : -9223372036854775808 ≤ n ∧ n ≤ 9223372036854775807) : wrap64 n = n := by unfold wrap64; omega
theorem rN {K : SK} {w0 : World} {az : Option Nat} {σ : CR CS} {ret loops outs : Int} {w : World} {a : Option Addr} {cap n q : Nat} {code place deep : Int} {zs : List Int} {vs : List Vr}
  (hS : SS K w0 az σ ret loops outs w) (hR : SRaw K w (.slice a vs.length cap) code place deep ret loops outs zs vs) (hI : SIs K σ code place deep zs vs) (hO : (Value.slice a vs.length cap).ownBlock = az ∨ ∃ k, (Value.slice a vs.length cap).ownBlock = some k ∧ w0.heap.size ≤ k)
  (hN : ∀ s, σ = .ok s → s.1 ≠ []) (hn : n ≤ vs.length) (bl : ∀ j, n ≤ j → j < vs.length → ((jo vs j).2.2 : Int) = deep) (oH : n = 0 ∨ (0 < n ∧ ((jo vs (n - 1)).2.2 : Int) ≠ deep)) :
  Ending.returned (.tuple #[]) = Ending.returned (.tuple #[]) ∧ SS K w0 az (sW σ) ret loops outs (((w.drewN q).setCell ⟨K.cb, 7, none⟩ (.slice a n cap)).setCell ⟨K.cb, 8, none⟩ (.int .i64 (wrap64 (deep - 1)))) := by
 have hK := hS.ok
 have Ez : (Value.slice a n cap).ownBlock = (Value.slice a vs.length cap).ownBlock := by cases a <;> rfl
 have hR1 := hR.calm (below_drewN w q)
 have cY : (w.drewN q).ownsRow K.up 92 3 (.slice a n cap) (vs.take n).length (fH (vs.take n)) := by
  have := yS hR1.var hn
  rw [qe] at this
  rw [show (vs.take n).length = n by rw [List.length_take]; omega]
  exact this
 have hP := SRaw.putV (vs1 := vs.take n) hK hR1 (w1 := w.drewN q) ⟨rfl, rfl, rfl, Nat.le_refl _, fun _ _ _ => rfl⟩ cY
 have hP2 := hP.set hK (i := 8) (u := .int .i64 (wrap64 (deep - 1))) (code' := code) (place' := place) (deep' := wrap64 (deep - 1)) (ret' := ret) (loops' := loops) (outs' := outs) rfl
 refine ⟨rfl, hS.of_raw (own := (Value.slice a vs.length cap).ownBlock) hP2 ?_ (by rw [Ez]; exact hO) hO ?_⟩
 ·cases σ with
  |error e => exact hI
  |ok s =>
   obtain ⟨E, X⟩ := s
   cases E with
   |nil => exact absurd rfl (hN _ rfl)
   |cons l E =>
    obtain ⟨h1, h2, h3, h4, h5, rfl, h7, h8⟩ := hI
    have dK := hK.few
    dsimp only at h3 h4 h5 h7 h8
    have S7 : (varsOf E).length ≤ (varsOf (l :: E)).length := by simp [varsOf]
    have EE : n ≤ (varsOf (l :: E)).length := hn
    have e3 : (((l :: E).length : Nat) : Int) = E.length + 1 := by simp
    have dn : n = (varsOf E).length := by
     rcases Nat.lt_trichotomy n (varsOf E).length with h | h | h
     ·have e1 := bl n lr (show n < (varsOf (l :: E)).length by omega)
      have e2 := yJ l E h
      have e4 : ((jo (varsOf (l :: E)) n).2.2 : Int) = E.length + 1 := e1.trans (h3.trans e3)
      omega
     ·exact h
     ·rcases oH with h0 | ⟨h0, h9⟩
      ·omega
      ·have e2 := sI l E (i := n - 1) (by omega) (by omega)
       exact absurd (by rw [e2, h3]; simp) h9
    refine ⟨h1, h2, ?_, h4, h5, ?_, ?_, ?_⟩
    ·rw [h3, e3, w64 _ (by simp only [List.length_cons] at h8; omega)]
     show (E.length : Int) + 1 - 1 = (E.length : Int)
     omega
    ·rw [dn]; exact tY l E
    ·have : aN (l :: E) = l.length + aN E := by simp [aN]
     show aN E ≤ X.length
     omega
    ·show E.length ≤ X.length + 1
     simp at h8; omega
 ·have e1 : Kept (K.S (Value.slice a vs.length cap).ownBlock) w (w.drewN q) := bG (below_drewN w q) _
  have e2 := e1.trans (Kept.setCell (S := K.S (Value.slice a vs.length cap).ownBlock) ⟨K.cb, 7, none⟩ (.slice a n cap) (.inl rfl)) (fun _ _ h => h)
  exact e2.trans (Kept.setCell (S := K.S (Value.slice a vs.length cap).ownBlock) ⟨K.cb, 8, none⟩ _ (.inl rfl)) (fun _ _ h => h)
theorem rO {K : SK} {w0 : World} {az : Option Nat} {σ : CR CS} {ret loops outs : Int} {w : World} (h : SS K w0 az σ ret loops outs w) (hs : ∀ s, σ = .ok s → s.1 ≠ []) :
  Calls Tryz.prog 129 #[.pointer (some ⟨K.cb, 0, none⟩)] w fun e w' => e = .returned (.tuple #[]) ∧ SS K w0 az (sW σ) ret loops outs w' := by
 obtain ⟨vv, code, place, deep, zs, vs, h1, h2, h3⟩ := h.is
 have hK := h.ok
 obtain ⟨a, cap, rfl, eM, iG, eU⟩ := h1.vars
 have HS := aa h
 have HR := aa h1
 have HO := aa h3
 have HI := aa h2
 have HC := aa eU
 have HN := aa hs
 obtain ⟨k0, k1, k2, k3, k4, k5, k6, k7, k8, k9, qK, pR⟩ := h1.cells
 have f7 := h1.free 7
 have f8 := h1.free 8
 clear k0 k1 k2 k3 k4 k5 k6 k9 qK pR h h1 h2 h3 eU hs
 go_enter Tryz.func129, Tryz.ntmps129
 go_wp2
 go_loopw [2] (fun k wr => ∃ (q n : Nat), wr = w.drewN q ∧ n ≤ vs.length ∧ k = .int .i64 n ∧ ∀ j, n ≤ j → j < vs.length → ((jo vs j).2.2 : Int) = deep) (fun k _ => (intOf k).toNat)
 case atStart => exact ⟨0, vs.length, rfl, Nat.le_refl _, rfl, fun j a b => by omega⟩
 case round =>
  obtain ⟨q, n, rfl, hn, rfl, bl⟩ := hrel
  have HA := aa bl
  clear bl
  by_cases h0 : n = 0
  ·subst h0
   go_wp2
   go_quiet (fail)
   go_wp2
   go_end0
   exact rN HS.out HR.out HI.out HO.out HN.out (Nat.zero_le _) HA.out (.inl rfl)
  ·obtain ⟨n', rfl⟩ : ∃ n', n = n' + 1 := ⟨n - 1, by omega⟩
   rcases HC.out with hc | ⟨g, rfl, hc⟩
   ·omega
   obtain ⟨c0, c1, c2⟩ := hc n' (by omega)
   have e1 : ((n' + 1 : Nat) : Int) - 1 = n' := by omega
   have iB : (((n' + 1 : Nat) : Int) > 0) := by omega
   clear hc
   by_cases hd : ((jo vs n').2.2 : Int) = deep
   ·have Qe : (((jo vs n').2.2 : Int) == deep) = true := by rw [hd]; exact beq_self_eq_true _
    go_wp2
    go_quiet (fail)
    go_wp2
    refine ⟨⟨_, n', rfl, by omega, rfl, fun j a b => ?_⟩, by simp only [intOf]; omega⟩
    by_cases e : j = n'
    ·subst e; exact hd
    ·exact HA.out j (by omega) b
   ·have Qe : (((jo vs n').2.2 : Int) == deep) = false := bn hd
    go_wp2
    go_quiet (fail)
    go_wp2
    go_end0
    exact rN HS.out HR.out HI.out HO.out HN.out (by omega) HA.out (.inr ⟨by omega, by rw [Nat.add_sub_cancel]; exact hd⟩)
def kE (F : Nd) (s : ByteArray) : Int := match findF F s with | some i => (i : Int) | none => -1
theorem lz {F : Nd} {s : ByteArray} : ∀ {n : Nat}, (∀ j, j < n → (F.kids j).name ≠ s) → dp F s n = none
 |0, _ => rfl
 |n + 1, h => by
  simp only [dp, lz (n := n) fun j hj => h j (by omega)]
  rw [if_neg (h n (by omega))]
theorem ly {F : Nd} {s : ByteArray} {i : Nat} (h : ∀ j, j < i → (F.kids j).name ≠ s) (hi : (F.kids i).name = s) : ∀ {n : Nat}, i < n → dp F s n = some i
 |n + 1, hn => by
  by_cases e : i < n
  ·simp only [dp, ly h hi e]
  ·obtain rfl : i = n := by omega
   simp only [dp, lz h]
   rw [if_pos hi]
theorem iq {F : Nd} {s : ByteArray} : ∀ {n i : Nat}, dp F s n = some i → i < n ∧ (F.kids i).name = s
 |n + 1, i, h => by
  simp only [dp] at h
  cases hr : dp F s n with
  |some k => rw [hr] at h; injection h with h; subst h; have := iq hr; exact ⟨by omega, this.2⟩
  |none =>
   rw [hr] at h
   dsimp only at h
   split at h
   ·injection h with h; subst h; exact ⟨by omega, by assumption⟩
   ·cases h
theorem vr (T : Nd) (w : World) (v : Value) (hi : Nat) (s : ByteArray) (hf : T.Fine) (dF : hi ≤ w.heap.size) (hr : Row 0 hi w T v) :
  Calls Tryz.prog 45 #[T.val v, .string s] w fun e w' => e = .returned (.int .i64 (kE T s)) ∧ Below w.heap.size w w' := by
 have hn := T.fine_len hf
 obtain ⟨a, cap, rfl, cr, hq⟩ := aH.1 hr
 have HR := aa hq
 have HS := aa (fun i (h : ∀ j, j < i → (T.kids j).name ≠ s) (hi : (T.kids i).name = s) (hl : i < T.len) => ly h hi hl)
 have HZ := aa (fun (h : ∀ j, j < T.len → (T.kids j).name ≠ s) => lz h)
 clear hr hf hq cr
 unfold Nd.val
 generalize T.kind = tk
 generalize T.num = tn
 generalize T.name = ts
 have fp : Hid (Below w.heap.size w (w.alloc (.cells #[.int .i64 tk, .int .i64 tn, .string ts, .slice a T.len cap] 25))) := bA
 go_enter Tryz.func45, Tryz.ntmps45
 go_wp2
 go_loopw [5] (fun i wr => wr = w.alloc (.cells #[.int .i64 tk, .int .i64 tn, .string ts, .slice a T.len cap] 25) ∧ ∃ j : Nat, j ≤ T.len ∧ i = .int .i64 j ∧ ∀ k, k < j → (T.kids k).name ≠ s) (fun i _ => T.len - (intOf i).toNat)
 case atStart => exact ⟨rfl, 0, Nat.zero_le _, rfl, fun k hk => absurd hk (Nat.not_lt_zero _)⟩
 case round =>
  obtain ⟨rfl, j, hj, rfl, pV⟩ := hrel
  have LF := aa pV
  clear pV
  by_cases bN : j < T.len
  ·rcases HR.out with h0 | ⟨g, off, rfl, h1, h2, h3⟩
   ·omega
   obtain ⟨u, e0, e1, e2, e3, hu⟩ := h3 j bN
   have iM : g < w.heap.size := by omega
   have e2' := (fp.out.cell (p := ⟨g, off + j * 4 + 2, none⟩) iM).trans e2
   clear h3 e0 e1 e2 e3 hu
   by_cases hs : (T.kids j).name = s
   ·have ht : ((T.kids j).name.toList == s.toList) = true := by rw [hs]; exact beq_self_eq_true _
    go_wp2
    go_ret
    refine ⟨ix ?_, fp.out⟩
    unfold kE findF
    rw [HS.out j LF.out hs bN]
   ·have ht : ((T.kids j).name.toList == s.toList) = false := nP hs
    go_wp2
    refine ⟨⟨trivial, j + 1, by omega, by go_num, fun k hk => ?_⟩, by simp only [intOf]; omega⟩
    by_cases e : k = j
    ·subst e; exact hs
    ·exact LF.out k (by omega)
  ·go_wp2
   go_ret
   obtain rfl : j = T.len := by omega
   refine ⟨ix ?_, fp.out⟩
   unfold kE findF
   rw [HZ.out LF.out]
structure SEnv (K : SK) (w : World) : Prop where
 fine : K.F.Fine
 row : Row 0 K.lo w K.F K.fv
 ok : dv K.F = true
structure SNd (K : SK) (w : World) (T : Nd) (v : Value) : Prop where
 fine : T.Fine
 row : Row 0 K.lo w T v
 cost : T.cost ≤ 1048576
def SAt (K : SK) (T : Nd) (σ : CR CS) (p : Nat) : Prop := p ≤ 1048576 ∧ ∀ s, σ = .ok s → p = s.2.length ∧ p + T.size ≤ K.N
def Qo (K : SK) (T : Nd) (σ : CR CS) : CR CS := CR.bind σ fun s => CR.bind (bP K.F T s) fun r => .ok r.2
def j7 (K : SK) (T : Nd) (σ : CR CS) : CR CS := CR.bind σ fun s => CR.bind (cN (bP K.F T) s) fun r => .ok r.2
def cL (K : SK) (T : Nd) (t : Int) (σ : CR CS) : CR CS := CR.bind σ (aE (bP K.F T) t)
def F4 (K : SK) (T : Nd) (σ : CR CS) (t : Int) : Prop := ∀ s r, σ = .ok s → bP K.F T s = .ok r → t = r.1
def vX (T : Nd) : Prop := ∀ (K : SK) (w0 : World) (az : Option Nat) (σ : CR CS) (ret loops outs : Int) (w : World) (v : Value) (p : Nat), SS K w0 az σ ret loops outs w → SEnv K w → SNd K w T v → SAt K T σ p → T.eOk = true →
 Calls Tryz.prog 110 #[.pointer (some ⟨K.cb, 0, none⟩), T.val v, .int .i64 p] w fun e w' => ∃ t, e = .returned (.int .i64 t) ∧ F4 K T σ t ∧ SS K w0 az (Qo K T σ) ret loops outs w'
theorem SEnv.later {K : SK} {w w' : World} (h : SEnv K w) (hb : Below K.lo w w') : SEnv K w' := ⟨h.fine, ah hb lr h.row, h.ok⟩
theorem SNd.later {K : SK} {w w' : World} {T : Nd} {v : Value} (h : SNd K w T v) (hb : Below K.lo w w') : SNd K w' T v := ⟨h.fine, ah hb lr h.row, h.cost⟩
theorem SS.box {K : SK} {w0 : World} {az : Option Nat} {σ : CR CS} {ret loops outs : Int} {w : World} (h : SS K w0 az σ ret loops outs w) (o : Obj) : Below K.lo w (w.alloc o) :=
 (Below.refl _ _).alloc (by have := h.lt; have := h.ok.cl; omega) _
theorem SS.code0 {K : SK} {w0 : World} {az : Option Nat} {s : CS} {ret loops outs : Int} {w : World} (h : SS K w0 az (.ok s) ret loops outs w) : w.cell? ⟨K.cb, 5, none⟩ = some (.int .i64 0) := by
 obtain ⟨vv, code, place, deep, zs, vs, h1, h2, h3⟩ := h.is
 have := h1.cells.2.2.2.2.2.1
 rw [h2.1] at this; exact this
theorem SS.code1 {K : SK} {w0 : World} {az : Option Nat} {e : Int × Nat} {ret loops outs : Int} {w : World} (h : SS K w0 az (.error e) ret loops outs w) : ∃ code, w.cell? ⟨K.cb, 5, none⟩ = some (.int .i64 code) ∧ (code == 0) = false := by
 obtain ⟨vv, code, place, deep, zs, vs, h1, h2, h3⟩ := h.is
 exact ⟨code, h1.cells.2.2.2.2.2.1, bn (by rw [h2.1]; exact h2.2.1)⟩
theorem kU {T : Nd} (hT : vX T) (K : SK) (w0 : World) (az : Option Nat) (σ : CR CS) (ret loops outs : Int) (w : World) (v : Value) (p : Nat) (hS : SS K w0 az σ ret loops outs w) (hE : SEnv K w) (hN : SNd K w T v) (hA : SAt K T σ p) (aS : T.eOk = true) :
  Calls Tryz.prog 107 #[.pointer (some ⟨K.cb, 0, none⟩), T.val v, .int .i64 p] w fun e w' => ∃ t, e = .returned (.int .i64 t) ∧ F4 K T σ t ∧ SS K w0 az (j7 K T σ) ret loops outs w' := by
 have HC := aa (fun o => hT K w0 az σ ret loops outs (w.alloc o) v p (hS.alloc o) (hE.later (hS.box o)) (hN.later (hS.box o)) hA aS)
 have HA := aa hA
 clear hS hE hN hA
 unfold Nd.val at *
 generalize T.kind = tk at *
 generalize T.num = tn at *
 generalize T.name = ts at *
 cases hσ : Qo K T σ with
 |error e0 =>
  have hv : j7 K T σ = .error e0 := by
   unfold Qo at hσ; unfold j7 cN
   cases σ with
   |error x => exact hσ
   |ok s =>
    simp only [CR.bind_ok] at hσ ⊢
    cases hx : bP K.F T s with
    |error y => rw [hx] at hσ; exact hσ
    |ok r => rw [hx] at hσ; cases hσ
  rw [hv]
  rw [hσ] at HC
  clear hσ hv
  go_enter Tryz.func107, Tryz.ntmps107
  go_wp2_with (go_at_call 110; refine (HC.out _).mono ?_; rintro e w1 ⟨t, rfl, hR, hs⟩; obtain ⟨code, k5, hz⟩ := hs.code1; have bh := aa hs; have HR := aa hR; clear hs hR)
  go_ret
  exact ⟨_, rfl, HR.out, bh.out⟩
 |ok s1 =>
  obtain ⟨s, M6, aD⟩ := bt hσ
  obtain ⟨r, dI, fN⟩ := bt aD
  injection fN with fN
  subst fN
  rw [hσ] at HC
  subst M6
  have HX := aa (show ∀ t, F4 K T (.ok s) t → t = r.1 from fun t h => h s r rfl dI)
  have HP : Hid (p = s.2.length) := (HA.out.2 s rfl).1
  clear HA
  by_cases h0 : r.1 = 0
  ·have hv : j7 K T (.ok s) = .error (9, p) := by
    unfold j7 cN; rw [CR.bind_ok, dI, CR.bind_ok, if_pos h0, HP.out]; rfl
   rw [hv]
   have H0 := aa h0
   clear hσ hv dI aD h0
   go_enter Tryz.func107, Tryz.ntmps107
   go_wp2_with (first
    |(go_at_call 110; refine (HC.out _).mono ?_; rintro e w1 ⟨t, rfl, hR, hs⟩; obtain rfl : t = 0 := (HX.out t hR).trans H0.out; have k5 := hs.code0; have bh := aa hs; have HR := aa hR; clear hs hR)
    |(go_at_call 46; refine (dO bh.out 9 (by decide) p).mono ?_; rintro e w2 ⟨rfl, aC⟩; have bR := aa aC; clear aC))
   go_ret
   exact ⟨_, rfl, HR.out, bR.out⟩
  ·have hv : j7 K T (.ok s) = .ok r.2 := by
    unfold j7 cN; rw [CR.bind_ok, dI, CR.bind_ok, if_neg h0]; rfl
   have H0 : Hid ((r.1 == 0) = false) := bn h0
   rw [hv]
   clear hσ hv dI aD h0
   go_enter Tryz.func107, Tryz.ntmps107
   go_wp2_with (go_at_call 110; refine (HC.out _).mono ?_; rintro e w1 ⟨t, rfl, hR, hs⟩; have qd : (t == 0) = false := (congrArg (fun x : Int => x == 0) (HX.out t hR)).trans H0.out; have k5 := hs.code0; have bh := aa hs; have HR := aa hR; clear hs hR)
   go_ret
   exact ⟨_, rfl, HR.out, bh.out⟩
def WtS (T : Nd) : Prop := ∀ (K : SK) (w0 : World) (az : Option Nat) (σ : CR CS) (ret loops outs : Int) (w : World) (v : Value) (p : Nat) (ty : Int), SS K w0 az σ ret loops outs w → SEnv K w → SNd K w T v → SAt K T σ p → T.eOk = true →
 Calls Tryz.prog 109 #[.pointer (some ⟨K.cb, 0, none⟩), T.val v, .int .i64 p, .int .i64 ty] w fun e w' => e = .returned (.tuple #[]) ∧ SS K w0 az (cL K T ty σ) ret loops outs w'
theorem lJ {T : Nd} (hT : vX T) : WtS T := by
 intro K w0 az σ ret loops outs w v p ty hS hE hN hA aS
 have HC := aa (fun o => kU hT K w0 az σ ret loops outs (w.alloc o) v p (hS.alloc o) (hE.later (hS.box o)) (hN.later (hS.box o)) hA aS)
 have HA := aa hA
 clear hS hE hN hA
 unfold Nd.val at *
 generalize T.kind = tk at *
 generalize T.num = tn at *
 generalize T.name = ts at *
 cases hσ : j7 K T σ with
 |error e0 =>
  have hv : cL K T ty σ = .error e0 := by
   unfold j7 at hσ; unfold cL aE
   cases σ with
   |error x => exact hσ
   |ok s =>
    simp only [CR.bind_ok] at hσ ⊢
    cases hx : cN (bP K.F T) s with
    |error y => rw [hx] at hσ; exact hσ
    |ok r => rw [hx] at hσ; cases hσ
  rw [hv]
  rw [hσ] at HC
  clear hσ hv
  go_enter Tryz.func109, Tryz.ntmps109
  go_wp2_with (go_at_call 107; refine (HC.out _).mono ?_; rintro e w1 ⟨t, rfl, hR, hs⟩; obtain ⟨code, k5, hz⟩ := hs.code1; have bh := aa hs; have HR := aa hR; clear hs hR)
  go_end0
  exact ⟨rfl, bh.out⟩
 |ok s1 =>
  obtain ⟨s, M6, aD⟩ := bt hσ
  obtain ⟨r, dI, fN⟩ := bt aD
  injection fN with fN
  subst fN
  rw [hσ] at HC
  subst M6
  have hx := (gV dI).1
  have HX := aa (show ∀ t, F4 K T (.ok s) t → t = r.1 from fun t h => h s r rfl hx)
  have HP : Hid (p = s.2.length) := (HA.out.2 s rfl).1
  clear HA
  by_cases h0 : r.1 = ty
  ·have hv : cL K T ty (.ok s) = .ok r.2 := by
    unfold cL aE; rw [CR.bind_ok, dI, CR.bind_ok, if_pos h0]
   rw [hv]
   have H0 : Hid ((r.1 == ty) = true) := beq_iff_eq.2 h0
   clear hσ hv dI aD h0 hx
   go_enter Tryz.func109, Tryz.ntmps109
   go_wp2_with (go_at_call 107; refine (HC.out _).mono ?_; rintro e w1 ⟨t, rfl, hR, hs⟩; have qd : (t == ty) = true := (congrArg (fun x : Int => x == ty) (HX.out t hR)).trans H0.out; have k5 := hs.code0; have bh := aa hs; clear hs hR)
   go_end0
   exact ⟨rfl, bh.out⟩
  ·have hv : cL K T ty (.ok s) = .error (7, p) := by
    unfold cL aE; rw [CR.bind_ok, dI, CR.bind_ok, if_neg h0, HP.out]
   have H0 : Hid ((r.1 == ty) = false) := bn h0
   rw [hv]
   clear hσ hv dI aD h0 hx
   go_enter Tryz.func109, Tryz.ntmps109
   go_wp2_with (first
    |(go_at_call 107; refine (HC.out _).mono ?_; rintro e w1 ⟨t, rfl, hR, hs⟩; have qd : (t == ty) = false := (congrArg (fun x : Int => x == ty) (HX.out t hR)).trans H0.out; have k5 := hs.code0; have bh := aa hs; clear hs hR)
    |(go_at_call 46; refine (dO bh.out 7 (by decide) p).mono ?_; rintro e w2 ⟨rfl, aC⟩; have bR := aa aC; clear aC))
   go_end0
   exact ⟨rfl, bR.out⟩
def vJ (T : Nd) : Prop := ∀ (K : SK) (w0 : World) (az : Option Nat) (s : CS) (ret loops outs : Int) (w : World) (v : Value), SS K w0 az (.ok (ae s)) ret loops outs w → SEnv K w → SNd K w T v → s.2.length + T.size ≤ K.N → T.eOk = true →
 Calls Tryz.prog 130 #[.pointer (some ⟨K.cb, 0, none⟩), T.val v, .int .i64 s.2.length] w fun e w' => ∃ t, e = .returned (.int .i64 t) ∧ (∀ r, bI K.F T.kind T.name T.len (fun i => bP K.F (T.kids i)) (ae s) s.2.length = .ok r → t = r.1) ∧
  SS K w0 az (CR.bind (bI K.F T.kind T.name T.len (fun i => bP K.F (T.kids i)) (ae s) s.2.length) fun r => .ok r.2) ret loops outs w'
theorem H3 (n : Nat) (h : 0 < n) : List.replicate n (0 : Int) = 0 :: List.replicate (n - 1) 0 := by
 cases n with
 |zero => omega
 |succ n => rfl
theorem SS.take {K : SK} {w0 : World} {az : Option Nat} {s : CS} {ret loops outs : Int} {w : World} (h : SS K w0 az (.ok s) ret loops outs w) (hn : s.2.length + 1 ≤ K.N) : SS K w0 az (.ok (ae s)) ret loops outs w := by
 obtain ⟨vv, code, place, deep, zs, vs, h1, ⟨a1, a2, a3, a4, a5, a6, a7, a8⟩, h3⟩ := h.is
 refine ⟨h.ok, ⟨vv, code, place, deep, zs, vs, h1, ⟨a1, a2, a3, ?_, ?_, a6, ?_, ?_⟩, h3⟩, h.kept⟩
 ·rw [a4, H3 (K.N - s.2.length) (by omega)]
  simp only [ae, List.length_append, List.length_cons, List.length_nil, List.append_assoc, List.cons_append, List.nil_append]
  rw [show K.N - s.2.length - 1 = K.N - (s.2.length + (0 + 1)) by omega]
 ·rw [aP]; exact hn
 ·show aN s.1 ≤ _; rw [aP]; omega
 ·show s.1.length ≤ _; rw [aP]; omega
def Mc (τ : CR CS) (p : Nat) (t : Int) : CR CS := CR.bind τ fun s => .ok (s.1, s.2.set p t)
theorem SS.store {K : SK} {w0 : World} {az : Option Nat} {τ : CR CS} {ret loops outs : Int} {w : World} (h : SS K w0 az τ ret loops outs w) (p : Nat) (t : Int) (hp : ∀ s, τ = .ok s → p < s.2.length) :
  SS K w0 az (Mc τ p t) ret loops outs (w.setCell ⟨K.tb, p, none⟩ (.int .i64 t)) := by
 obtain ⟨vv, code, place, deep, zs, vs, h1, h2, h3⟩ := h.is
 have hr : SRaw K (w.setCell ⟨K.tb, p, none⟩ (.int .i64 t)) vv code place deep ret loops outs (zs.set p t) vs := by
  refine ⟨?_, ?_, by rw [List.length_set]; exact h1.len, ownsRow_setCell_below h1.var (show K.tb < K.up from h.ok.tu) _⟩
  ·rw [Below.heap_setCell w ⟨K.tb, p, none⟩ _ K.cb h.ok.ne]; exact h1.blk
  ·rw [heap_setCell_same w K.tb p _ _ _ h1.typ]
   simp [List.map_set]
 refine h.of_raw (own := az) hr ?_ h3 (.inl rfl) (Kept.setCell (S := K.S az) ⟨K.tb, p, none⟩ _ (.inr (.inl rfl)))
 cases τ with
 |error e => exact h2
 |ok s =>
  obtain ⟨a1, a2, a3, a4, a5, a6, a7, a8⟩ := h2
  refine ⟨a1, a2, a3, ?_, ?_, a6, ?_, ?_⟩
  ·rw [a4, List.set_append_left _ _ (hp s rfl), List.length_set]
  ·rw [List.length_set]; exact a5
  ·rw [List.length_set]; exact a7
  ·rw [List.length_set]; exact a8
theorem SS.typs {K : SK} {w0 : World} {az : Option Nat} {τ : CR CS} {ret loops outs : Int} {w : World} (h : SS K w0 az τ ret loops outs w) (p : Nat) (hp : p < K.N) :
  w.cell? ⟨K.cb, 4, none⟩ = some (.slice (some ⟨K.tb, 0, none⟩) K.N K.N) ∧ w.frozen? ⟨K.tb, p, none⟩ = false ∧ ∃ u, w.cell? ⟨K.tb, p, none⟩ = some u := by
 obtain ⟨vv, code, place, deep, zs, vs, h1, h2, h3⟩ := h.is
 refine ⟨h1.cells.2.2.2.2.1, frozen_of_row w K.tb p _ _ h1.typ, .int .i64 (zs[p]'(by rw [h1.len]; exact hp)), ?_⟩
 have hl := h1.len
 simp [World.cell?, h1.typ, hl, hp]
theorem zx {T : Nd} (hT : vJ T) : vX T := by
 intro K w0 az σ ret loops outs w v p hS hE hN hA aS
 have dK := hS.ok.few
 cases σ with
 |error e0 =>
  have HS := aa (fun o => hS.alloc o)
  obtain ⟨code, k5, hz⟩ := hS.code1
  have bN := hS.lt
  clear hS hE hN hA hT
  unfold Nd.val
  go_enter Tryz.func110, Tryz.ntmps110
  go_wp2
  go_ret
  exact ⟨0, rfl, fun s r h => (by cases h), HS.out _⟩
 |ok s =>
  obtain ⟨rfl, ay⟩ := hA.2 s rfl
  have b8 : 0 < T.size := by rw [T.size_eq]; omega
  have HC := aa (fun o => hT K w0 az s ret loops outs (w.alloc o) v ((hS.alloc o).take (by omega)) (hE.later (hS.box o)) (hN.later (hS.box o)) ay aS)
  have k5 := hS.code0
  have bN := hS.lt
  have hpn : s.2.length < K.N := by omega
  have HP : Hid (∀ r, bI K.F T.kind T.name T.len (fun i => bP K.F (T.kids i)) (ae s) s.2.length = .ok r → s.2.length < r.2.2.length) := by
   intro r hr
   have hx : bP K.F T s = .ok (r.1, (r.2.1, r.2.2.set s.2.length r.1)) := by rw [qk K.F aS]; unfold NZ; rw [hr]; rfl
   have := (ej K.F T aS s _ _ hx).2
   rw [List.length_set] at this; omega
  have TD : ∀ t, (∀ r, bI K.F T.kind T.name T.len (fun i => bP K.F (T.kids i)) (ae s) s.2.length = .ok r → t = r.1) → F4 K T (.ok s) t ∧ Qo K T (.ok s) = Mc (CR.bind (bI K.F T.kind T.name T.len (fun i => bP K.F (T.kids i)) (ae s) s.2.length) fun r => .ok r.2) s.2.length t := by
   intro t ht
   unfold F4 Qo Mc
   rw [qk K.F aS]
   unfold NZ
   cases hr : bI K.F T.kind T.name T.len (fun i => bP K.F (T.kids i)) (ae s) s.2.length with
   |error x => exact ⟨fun s' r' h1 h2 => (by injection h1 with h1; subst h1; rw [hr] at h2; cases h2), (by simp only [CR.bind_ok, hr]; rfl)⟩
   |ok r =>
    obtain rfl := ht r hr
    exact ⟨fun s' r' h1 h2 => (by injection h1 with h1; subst h1; rw [hr] at h2; injection h2 with h2; subst h2; rfl), (by simp only [CR.bind_ok, hr])⟩
  have HX := aa TD
  clear hS hE hN hA hT TD b8 ay aS
  unfold Nd.val at *
  generalize T.kind = tk at *
  generalize T.num = tn at *
  generalize T.name = ts at *
  generalize hτ : bI K.F tk ts T.len (fun i => bP K.F (T.kids i)) (ae s) s.2.length = τ at *
  clear hτ
  generalize hq : s.2.length = q at *
  go_enter Tryz.func110, Tryz.ntmps110
  go_wp2_with (go_at_call 130; refine (HC.out _).mono ?_; rintro e w1 ⟨t, rfl, hR, hs⟩; obtain ⟨k4, f4, u4, c4⟩ := hs.typs q hpn; have bh := aa hs; have HR := aa hR; clear hs hR)
  go_ret
  obtain ⟨b1, b2⟩ := HX.out t HR.out
  refine ⟨t, rfl, b1, ?_⟩
  rw [b2]
  refine bh.out.store q t fun s' P8 => ?_
  obtain ⟨r, fN, jk⟩ := bt P8
  injection jk with jk; subst jk
  exact HP.out r fN
theorem dq {T : Nd} {lo : Nat} {w0 : World} {v : Value} (hr : Row 0 lo w0 T v) (h0 : T.len ≠ 0) : ∃ g off cap, v = .slice (some ⟨g, off, none⟩) T.len cap ∧ g < lo ∧ (T.len ≤ cap ∧ cap ≤ 9223372036854775807) ∧ ∀ i, i < T.len →
    ∃ u, (∀ W, Below lo w0 W → W.cell? ⟨g, off + i * 4, none⟩ = some (.int .i64 (T.kids i).kind) ∧ W.cell? ⟨g, off + i * 4 + 1, none⟩ = some (.int .i64 (T.kids i).num) ∧
        W.cell? ⟨g, off + i * 4 + 2, none⟩ = some (.string (T.kids i).name) ∧ W.cell? ⟨g, off + i * 4 + 3, none⟩ = some u) ∧ Row 0 lo w0 (T.kids i) u := by
  obtain ⟨a, cap, rfl, hc, h⟩ := aH.1 hr
  rcases h with h | ⟨g, off, rfl, _, h2, h3⟩
  · exact absurd h h0
  refine ⟨g, off, cap, rfl, h2, hc, fun i hi => ?_⟩
  obtain ⟨u, e0, e1, e2, e3, hr⟩ := h3 i hi
  refine ⟨u, fun W hb => ?_, hr⟩
  have hc : ∀ o, W.cell? ⟨g, o, none⟩ = w0.cell? ⟨g, o, none⟩ := fun o => hb.cell (p := ⟨g, o, none⟩) h2
  exact ⟨(hc _).trans e0, (hc _).trans e1, (hc _).trans e2, (hc _).trans e3⟩
structure SGo (K : SK) (w w1 : World) (own1 : Option Nat) (b : Nat) (T : Nd) (v u : Value) (p : Nat) : Prop where
 lo : Below K.lo w w1
 box : ∀ W σ r l o, SS K w1 own1 σ r l o W → W.cell? ⟨b, 0, none⟩ = some (.int .i64 T.kind) ∧ W.cell? ⟨b, 1, none⟩ = some (.int .i64 T.num) ∧ W.cell? ⟨b, 2, none⟩ = some (.string T.name) ∧ W.cell? ⟨b, 3, none⟩ = some v
 ats : T.len ≠ 0 → ∃ g off cap, u = .slice (some ⟨g, off, none⟩) T.len cap ∧ (T.len ≤ cap ∧ cap ≤ 9223372036854775807) ∧ ∀ W σ r l o, SS K w1 own1 σ r l o W → ∀ i, i < T.len → W.cell? ⟨g, off + i, none⟩ = some (.int .i64 (aW T p i : Nat))
 below : ∀ W σ r l o, SS K w1 own1 σ r l o W → Below K.lo w W
theorem kZ {K : SK} {w0 : World} {az : Option Nat} {σ : CR CS} {ret loops outs : Int} {w w1 : World} {T : Nd} {v u : Value} {p : Nat} {t : TypeId} (h : SS K w0 az σ ret loops outs w)
  (hb : Below (w.alloc (.cells #[.int .i64 T.kind, .int .i64 T.num, .string T.name, v] t)).heap.size (w.alloc (.cells #[.int .i64 T.kind, .int .i64 T.num, .string T.name, v] t)) w1)
  (ha : Kw w1 (w.alloc (.cells #[.int .i64 T.kind, .int .i64 T.num, .string T.name, v] t)).heap.size u T.len (fun i => (aW T p i : Nat))) :
  ∃ own1, SS K w1 own1 σ ret loops outs w1 ∧ (∀ σ' r l o W, SS K w1 own1 σ' r l o W → SS K w0 az σ' r l o W) ∧ SGo K w w1 own1 w.heap.size T v u p := by
 have h1 := (h.alloc (.cells #[.int .i64 T.kind, .int .i64 T.num, .string T.name, v] t)).calm hb
 obtain ⟨vv, code, place, deep, zs, vs, kI, _⟩ := h.is
 obtain ⟨own, hr, _, _, _⟩ := h.restart
 obtain ⟨own1, g1, g2, g3, g4⟩ := h1.restart
 have bN := h.lt
 have zr := h.ok.cl
 have b8 : (w.alloc (.cells #[.int .i64 T.kind, .int .i64 T.num, .string T.name, v] t)).heap.size = w.heap.size + 1 := by simp
 have aD := hb.size
 rw [b8] at aD
 have fC : Below K.lo w w1 := (h.box _).trans (hb.mono (by rw [b8]; omega))
 have cY : ∀ k, own1 = some k → k < w.heap.size := by
  intro k hk
  obtain ⟨LK, c', p', d', z', s', q1, q2, q3⟩ := g1.is
  rcases q3 with q3 | ⟨j, q3, q4⟩
  ·have e1 := q1.blk
   have e2 := (h1.is)
   have fU : w1.heap[K.cb]? = w.heap[K.cb]? := (hb.block K.cb (by rw [b8]; omega)).trans (Below.heap_alloc w _ K.cb bN.1)
   rw [fU, kI.blk] at e1
   have e3 : LK = vv := by
    injection e1 with e1
    injection e1 with e1
    have := congrArg (fun a : Array Value => a[7]?) e1
    simpa [SK.cells] using this.symm
   rw [e3] at q3
   rw [hk] at q3
   exact (kI.var.lt k q3).2
  ·have := (q1.var.lt j q3).2; omega
 have cz : ∀ W σ r l o, SS K w1 own1 σ r l o W → ∀ k, w.heap.size ≤ k → k < w1.heap.size → W.heap[k]? = w1.heap[k]? := by
  intro W σ r l o hW k jE jL
  exact hW.keep jL (by omega) (by omega) (fun e => by have := cY k e.symm; omega)
 refine ⟨own1, g1, g4, fC, ?_, ?_, ?_⟩
 ·intro W σ r l o hW
  have e1 := cz W σ r l o hW w.heap.size lr (by omega)
  have e2 : w1.heap[w.heap.size]? = some (.cells #[.int .i64 T.kind, .int .i64 T.num, .string T.name, v] t) := (hb.block _ (by rw [b8]; omega)).trans (heap_alloc_new w _)
  rw [e2] at e1
  refine ⟨?_, ?_, ?_, ?_⟩ <;> simp [World.cell?, e1]
 ·intro h0
  obtain ⟨a, cap, e1, e2, e3, e4⟩ := ha
  rcases e4 with e | ⟨g, off, rfl, q1, q2, q3⟩
  ·exact absurd e h0
  refine ⟨g, off, cap, e1, ⟨e2, e3⟩, fun W σ r l o hW i hi => ?_⟩
  rw [b8] at q1
  rw [World.cell?_of_block (a := ⟨g, off + i, none⟩) (cz W σ r l o hW g (by omega) q2)]
  exact q3 i hi
 ·intro W σ r l o hW
  refine fC.trans (hW.below (by omega) (fun k hk => ?_))
  have := (g2 k hk).1
  have := h.ok.cu
  omega
theorem SGo.env {K : SK} {w w1 : World} {own1 : Option Nat} {b : Nat} {T : Nd} {v u : Value} {p : Nat} (h : SGo K w w1 own1 b T v u p) (hE : SEnv K w) {W : World} {σ : CR CS} {r l o : Int} (hW : SS K w1 own1 σ r l o W) : SEnv K W := hE.later (h.below W σ r l o hW)
theorem SNd.kid {K : SK} {w : World} {T : Nd} {v u : Value} (h : SNd K w T v) {i : Nat} (hi : i < T.len) (hr : Row 0 K.lo w (T.kids i) u) : SNd K w (T.kids i) u := ⟨Nd.fine_kid h.fine hi, hr, Nat.le_trans (T.cost_kid hi) h.cost⟩
theorem SAt.kid0 {K : SK} {T : Nd} {s : CS} (ay : s.2.length + T.size ≤ K.N) (hN : K.N ≤ 1048576) (h : 0 < T.len) : SAt K (T.kids 0) (.ok (ae s)) (aW T s.2.length 0) := by
 have := bV T s.2.length h
 refine ⟨by omega, fun s' e => ?_⟩
 injection e with e; subst e
 rw [aP]
 exact ⟨o8 T _, by omega⟩
theorem SAt.next {K : SK} {T : Nd} {σ τ : CR CS} {q i : Nat} (h : SAt K (T.kids i) σ (aW T q i)) (hi : i + 1 < T.len) (ay : q + T.size ≤ K.N) (hN : K.N ≤ 1048576)
  (hτ : ∀ s', τ = .ok s' → ∃ s, σ = .ok s ∧ s'.2.length = s.2.length + (T.kids i).size) : SAt K (T.kids (i + 1)) τ (aW T q (i + 1)) := by
 have := bV T q hi
 refine ⟨by omega, fun s' e => ?_⟩
 obtain ⟨s, h1, h2⟩ := hτ s' e
 have h5 := (h.2 s h1).1
 have h6 := eS T q i
 exact ⟨by omega, by omega⟩
theorem gU {K : SK} {T : Nd} {σ : CR CS} {t : Int} (aS : T.eOk = true) : ∀ s', cL K T t σ = .ok s' → ∃ s, σ = .ok s ∧ s'.2.length = s.2.length + T.size := by
 intro s' e
 obtain ⟨s, h1, h2⟩ := bt e
 exact ⟨s, h1, ((ej K.F T aS).want t s s' h2).2⟩
theorem CI {K : SK} {T : Nd} {σ : CR CS} (aS : T.eOk = true) : ∀ s', j7 K T σ = .ok s' → ∃ s, σ = .ok s ∧ s'.2.length = s.2.length + T.size := by
 intro s' e
 obtain ⟨s, h1, h2⟩ := bt e
 obtain ⟨r, h3, h4⟩ := bt h2
 injection h4 with h4; subst h4
 exact ⟨s, h1, ((ej K.F T aS).value s _ _ h3).2⟩
end Go.Proofs.YteaocammohcgoaaGreatDoor
