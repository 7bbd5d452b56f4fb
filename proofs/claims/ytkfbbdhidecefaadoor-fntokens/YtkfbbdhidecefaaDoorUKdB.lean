import Derived.Test.YtkfbbdhidecefaaDoorUKdA
import Derived.Deep.RegionLaw
import Derived.Deep.AppendLies
set_option linter.unusedVariables false
set_option maxHeartbeats 16000000
set_option maxRecDepth 100000
namespace Go.Proofs.YtkfbbdhidecefaaDoor
open Go.RowKit
variable {G : Prop}
theorem bQ0 (h : G := by
  have k8' : (wr.drewN nq).cell? ⟨K.cb, 8, none⟩ = some (.int .i64 ((el : Int) + 1)) := k8
  have bP : K.cb < (wr.drewN nq).heap.size := hup.1
  have hupq : K.up ≤ (wr.drewN nq).heap.size := hKl
  generalize wr.drewN nq = wq at *
  first
  | clear k_Q0_0
    go_region_law ((refine step_append_lies _ (by rfl) _ _ 68 (by rfl) K.up 83 i0 (.agg #[.string ⟨#[]⟩, .int .i64 0, .int .i64 0]) 3 32 Tryd.underlying68 qn qm hZ hQ rfl (by decide) (.slice a vs.length cap) vs.length (kY vs) (by rfl) (HE.out _).1 ⟨wq.heap.size, 0, none⟩ 1 1 [.string t, .int .i64 ty, .int .i64 ((el : Int) + 1)] (by rfl) rfl (vw wq _ _ _ _) (vu _ _ _) (by decide) (by unfold maxLen; omega) (by omega) (by simp; omega) (wq.heap.size + 1) (by simp) ?_
                    intro g1 BO w1 HW HG HA qV
                    have G9 : some K.cb ≠ (Value.slice a vs.length cap).ownBlock := by
                      intro e; have := ((HE.out (.cells #[] 0)).1.lt _ e.symm).1; have := hK.cu; omega
                    have q7 : w1.cell? ⟨K.cb, 7, none⟩ = some (.slice a vs.length cap) := HG.cell (HE.out _).2.1 G9
                    have qf : w1.frozen? ⟨K.cb, 7, none⟩ = false := (World.frozen?_of_block (HG.block _ (by simp; omega) G9)).trans (HE.out _).2.2.2.1
                    have HW := aa HW
                    have HG := aa HG
                    have HA := aa HA))
    all_goals (try go_wp2)
    all_goals go_end0
    all_goals exact ti (l := l) (E := E) hvs hm SM HS.out Px.out HK'.out IM.out (HE.out _).2.2.2.2 HG.out HW.out HA.out HO.out HC.out HIT.out HPV.out HPL.out h6 h7 hv h9
  | clear k_Q0_1
    go_region_law ((refine step_append_lies _ (by rfl) _ _ 68 (by rfl) K.up 83 i0 (.agg #[.string ⟨#[]⟩, .int .i64 0, .int .i64 0]) 3 32 Tryd.underlying68 qn qm hZ hQ rfl (by decide) (.slice (some ⟨g, 0, none⟩) vs.length cap) vs.length (kY vs) (by rfl) (HE.out _).1 ⟨wq.heap.size, 0, none⟩ 1 1 [.string t, .int .i64 ty, .int .i64 ((el : Int) + 1)] (by rfl) rfl (vw wq _ _ _ _) (vu _ _ _) (by decide) (by unfold maxLen; omega) (by omega) (by simp; omega) (wq.heap.size + 1) (by simp) ?_
                    intro g1 BO w1 HW HG HA qV
                    have G9 : some K.cb ≠ (Value.slice (some ⟨g, 0, none⟩) vs.length cap).ownBlock := by
                      intro e; have := ((HE.out (.cells #[] 0)).1.lt _ e.symm).1; have := hK.cu; omega
                    have q7 : w1.cell? ⟨K.cb, 7, none⟩ = some (.slice (some ⟨g, 0, none⟩) vs.length cap) := HG.cell (HE.out _).2.1 G9
                    have qf : w1.frozen? ⟨K.cb, 7, none⟩ = false := (World.frozen?_of_block (HG.block _ (by simp; omega) G9)).trans (HE.out _).2.2.2.1
                    have HW := aa HW
                    have HG := aa HG
                    have HA := aa HA))
    all_goals (try go_wp2)
    all_goals go_end0
    all_goals exact ti (l := l) (E := E) hvs hm SM HS.out Px.out HK'.out IM.out (HE.out _).2.2.2.2 HG.out HW.out HA.out HO.out HC.out HIT.out HPV.out HPL.out h6 h7 hv h9) : G := h
theorem Jc (l : List (ByteArray × Int)) (d i : Nat) (h : i < l.length) : (nK (l.map fun p => (p.1, p.2, d)) i).2.2 = d := by
 unfold nK
 rw [List.getD_eq_getElem?_getD, List.getElem?_map, List.getElem?_eq_getElem h]; rfl
theorem xG (l : List (ByteArray × Int)) (E : Sc) {i : Nat} (h : (varsOf E).length ≤ i) (h2 : i < (varsOf (l :: E)).length) : (nK (varsOf (l :: E)) i).2.2 = E.length + 1 := by
 unfold varsOf at h2 ⊢
 rw [so _ _ h, Jc]
 rw [List.length_append] at h2; simp at h2 ⊢; omega
theorem Nj (E : Sc) : ∀ {i : Nat}, i < (varsOf E).length → (nK (varsOf E) i).2.2 ≤ E.length := by
 induction E with
 |nil => intro i h; exact absurd h (Nat.not_lt_zero _)
 |cons l E ih =>
  intro i h
  by_cases h1 : i < (varsOf E).length
  ·unfold varsOf; rw [tZ _ _ h1]; have := ih h1; simp; omega
  ·rw [xG l E (by omega) h]; simp
theorem Ca (l : List (ByteArray × Int)) (E : Sc) {i : Nat} (h : i < (varsOf E).length) : (nK (varsOf (l :: E)) i).2.2 ≤ E.length := by
 unfold varsOf; rw [tZ _ _ h]; exact Nj E h
theorem Ea (l : List (ByteArray × Int)) (E : Sc) (s : ByteArray) : xc (l :: E) s = true ↔ ∃ i, (varsOf E).length ≤ i ∧ i < (varsOf (l :: E)).length ∧ (nK (varsOf (l :: E)) i).1 = s := by
 have hl : (varsOf (l :: E)).length = (varsOf E).length + l.length := by simp [varsOf]
 have hv : ∀ j, j < l.length → (nK (varsOf (l :: E)) ((varsOf E).length + j)).1 = (l.reverse.getD j (⟨#[]⟩, 0)).1 := by
  intro j hj
  rw [show varsOf (l :: E) = varsOf E ++ l.reverse.map fun p => (p.1, p.2, E.length + 1) from rfl]
  rw [so _ _ (Nat.le_add_right _ _), Nat.add_sub_cancel_left]
  unfold nK
  rw [List.getD_eq_getElem?_getD, List.getElem?_map, List.getD_eq_getElem?_getD, List.getElem?_eq_getElem (by simpa using hj)]
  rfl
 simp only [xc, List.any_eq_true, decide_eq_true_eq]
 constructor
 ·rintro ⟨p, hp, rfl⟩
  obtain ⟨j, hj, rfl⟩ := List.getElem_of_mem (List.mem_reverse.2 hp)
  simp at hj
  refine ⟨(varsOf E).length + j, Nat.le_add_right _ _, by omega, ?_⟩
  rw [hv j hj, List.getD_eq_getElem?_getD, List.getElem?_eq_getElem (by simpa using hj)]
  rfl
 ·rintro ⟨i, h1, h2, h3⟩
  obtain ⟨j, rfl⟩ : ∃ j, i = (varsOf E).length + j := ⟨i - (varsOf E).length, by omega⟩
  have hj : j < l.length := by omega
  rw [hv j hj, List.getD_eq_getElem?_getD, List.getElem?_eq_getElem (by simpa using hj)] at h3
  refine ⟨_, List.mem_reverse.1 (List.getElem_mem (by simpa using hj)), h3⟩
theorem Rf : (Tryd.prog.info? 83).map (fun i => (i.zero, i.size, i.bytes)) = some (some (.agg #[.string ⟨#[]⟩, .int .i64 0, .int .i64 0]), 3, 32) := by kernel_rfl
theorem below_drewN (w : World) (n : Nat) : Below w.heap.size w (w.drewN n) := ⟨rfl, rfl, rfl, Nat.le_refl _, fun _ _ => rfl⟩
theorem vw (w : World) (a b c : Value) (t : TypeId) : ∀ j u, [a, b, c][j]? = some u → (w.alloc (.cells #[a, b, c] t)).cell? ((⟨w.heap.size, 0, none⟩ : Addr).add j) = some u := by
 intro j u h
 rw [pV]
 rcases j with _ | _ | _ | j <;> simp_all
theorem vu (b : ByteArray) (a c : Int) : ∀ u ∈ [Value.string b, .int .i64 a, .int .i64 c], u.oneCell' = true := by
 intro u hu
 simp at hu
 rcases hu with rfl | rfl | rfl <;> rfl
theorem SRaw.putV {K : SK} (hK : K.Ok) {w w1 : World} {vv v1 : Value} {code place deep ret loops outs : Int} {zs : List Int} {vs vs1 : List Vr} (h : SRaw K w vv code place deep ret loops outs zs vs)
  (hg : w.grownBy w1 vv.ownBlock) (ho : w1.ownsRow K.up 83 3 v1 vs1.length (kY vs1)) : SRaw K (w1.setCell ⟨K.cb, 7, none⟩ v1) v1 code place deep ret loops outs zs vs1 := by
 have hcu := hK.cu
 have htu := hK.tu
 have hc : w1.heap[K.cb]? = w.heap[K.cb]? := hg.block _ h.lt.1 (fun e => by have := (h.var.lt _ e.symm).1; omega)
 have ht : w1.heap[K.tb]? = w.heap[K.tb]? := hg.block _ h.lt.2 (fun e => by have := (h.var.lt _ e.symm).1; omega)
 refine ⟨?_, ?_, h.len, ownsRow_setCell_below ho (show K.cb < K.up from hK.cu) v1⟩
 ·rw [heap_setCell_same w1 K.cb 7 _ _ v1 (hc.trans h.blk)]; rfl
 ·rw [Below.heap_setCell w1 ⟨K.cb, 7, none⟩ v1 K.tb (fun e => hK.ne e.symm), ht]; exact h.typ
theorem SS.of_raw {K : SK} {w0 : World} {ah : Option Nat} {σ σ' : CR CS} {ret loops outs : Int} {w w' : World} (h : SS K w0 ah σ ret loops outs w) {vv : Value} {code place deep ret' loops' outs' : Int} {zs : List Int} {vs : List Vr}
  (h1 : SRaw K w' vv code place deep ret' loops' outs' zs vs) (h2 : SIs K σ' code place deep zs vs) (h3 : vv.ownBlock = ah ∨ ∃ k, vv.ownBlock = some k ∧ w0.heap.size ≤ k) {own : Option Nat} (ho : own = ah ∨ ∃ k, own = some k ∧ w0.heap.size ≤ k) (hk : Kept (K.S own) w w') : SS K w0 ah σ' ret' loops' outs' w' := by
 refine ⟨h.ok, ⟨vv, code, place, deep, zs, vs, h1, h2, h3⟩, h.kept.trans hk ?_⟩
 rintro i hi (e | e | e)
 ·exact .inl e
 ·exact .inr (.inl e)
 ·rcases ho with e3 | ⟨k, e3, hk⟩
  ·exact .inr (.inr (e.trans e3))
  ·rw [e3] at e; injection e with e; omega
def tj (s : CS) (t : ByteArray) (ty : Int) (p : Nat) : CR CS := if xc s.1 t = true then .error (6, p) else .ok (lN s.1 t ty, s.2)
theorem ti {K : SK} {w0 : World} {ah : Option Nat} {X : List Int} {ret loops outs : Int} {w wr wq w1 : World} {l : List (ByteArray × Int)} {E : Sc} {t : ByteArray} {ty : Int} {p m0 el BO cap : Nat} {g1 : Nat} {code place : Int} {zs : List Int} {vs : List Vr} {a : Option Addr} {o : Obj}
  (hvs : varsOf (l :: E) = vs) (hm : (varsOf E).length = m0) (SM : E.length = el)
  (hS : SS K w0 ah (.ok (l :: E, X)) ret loops outs w) (hR : SRaw K wr (.slice a vs.length cap) code place ((el : Int) + 1) ret loops outs zs vs) (hk : Kept (fun k => k = K.cb) w wr) (hq : Below wr.heap.size wr wq)
  (hR2 : SRaw K (wq.alloc o) (.slice a vs.length cap) code place ((el : Int) + 1) ret loops outs zs vs)
  (vY : (wq.alloc o).drew.grownBy w1 (Value.slice a vs.length cap).ownBlock) (hw : w1.ownsRow K.up 83 3 (.slice (some ⟨g1, 0, none⟩) (vs.length + 1) BO) (vs.length + 1) (kY vs ++ [.string t, .int .i64 ty, .int .i64 ((el : Int) + 1)]))
  (KF : (Value.slice a vs.length cap).ownBlock = some g1 ∨ g1 = wq.heap.size + 1) (ho : (Value.slice a vs.length cap).ownBlock = ah ∨ ∃ k, (Value.slice a vs.length cap).ownBlock = some k ∧ w0.heap.size ≤ k)
  (hc : (code = 0 ∧ place = 0 ∧ ∀ j, m0 ≤ j → j < vs.length → (nK vs j).1 ≠ t) ∨ (code = 6 ∧ place = (p : Int) ∧ ∃ j, m0 ≤ j ∧ j < vs.length ∧ (nK vs j).1 = t))
  (hit : xc (l :: E) t = true ↔ ∃ i, m0 ≤ i ∧ i < vs.length ∧ (nK vs i).1 = t) (hpv : varsOf (lN (l :: E) t ty) = vs ++ [(t, ty, el + 1)]) (zF : cy (lN (l :: E) t ty) = cy (l :: E) + 1 ∧ (lN (l :: E) t ty).length = (l :: E).length)
  (h6 : zs = X ++ List.replicate (K.N - X.length) 0) (h7 : X.length ≤ K.N) (hv : cy (l :: E) + 1 ≤ X.length) (h9 : (l :: E).length ≤ X.length + 1) :
  Ending.returned (.tuple #[]) = Ending.returned (.tuple #[]) ∧ SS K w0 ah (tj (l :: E, X) t ty p) ret loops outs (w1.setCell ⟨K.cb, 7, none⟩ (.slice (some ⟨g1, 0, none⟩) (vs.length + 1) BO)) := by
 have hg : (wq.alloc o).grownBy w1 (Value.slice a vs.length cap).ownBlock := ⟨vY.os, vY.tape, vY.output, vY.size, vY.block⟩
 have hK := hS.ok
 have hfl : kY (vs ++ [(t, ty, el + 1)]) = kY vs ++ [.string t, .int .i64 ty, .int .i64 ((el : Int) + 1)] := by rw [yp]; rfl
 have hll : (vs ++ [(t, ty, el + 1)]).length = vs.length + 1 := by simp
 have hP := SRaw.putV (vs1 := vs ++ [(t, ty, el + 1)]) hK hR2 hg (by rw [hfl, hll]; exact hw)
 have mC : Kept (K.S (Value.slice a vs.length cap).ownBlock) w (w1.setCell ⟨K.cb, 7, none⟩ (.slice (some ⟨g1, 0, none⟩) (vs.length + 1) BO)) := by
  have e1 : Kept (K.S (Value.slice a vs.length cap).ownBlock) w wr := ⟨hk.os, hk.tape, hk.output, hk.size, fun k qW hn => hk.block k qW (fun e => hn (.inl e))⟩
  have e2 := e1.trans (b7 hq (K.S (Value.slice a vs.length cap).ownBlock)) (fun _ _ h => h)
  have e3 := e2.trans (b7 ((Below.refl _ _).alloc lr o) (K.S (Value.slice a vs.length cap).ownBlock)) (fun _ _ h => h)
  have e4 := e3.trans (Kept.grown (S := K.S (Value.slice a vs.length cap).ownBlock) hg (fun k h => .inr (.inr h.symm))) (fun _ _ h => h)
  exact e4.trans (Kept.setCell (S := K.S (Value.slice a vs.length cap).ownBlock) ⟨K.cb, 7, none⟩ _ (.inl rfl)) (fun _ _ h => h)
 have bP := hS.kept.size
 have hsz2 := hk.size
 have Ef := hq.size
 have bK : (Value.slice (some ⟨g1, 0, none⟩) (vs.length + 1) BO).ownBlock = ah ∨ ∃ k, (Value.slice (some ⟨g1, 0, none⟩) (vs.length + 1) BO).ownBlock = some k ∧ w0.heap.size ≤ k := by
  show some g1 = ah ∨ ∃ k, some g1 = some k ∧ w0.heap.size ≤ k
  rcases KF with e | e
  ·rw [← e]; exact ho
  ·exact .inr ⟨g1, rfl, by omega⟩
 refine ⟨rfl, hS.of_raw hP ?_ bK ho mC⟩
 unfold tj
 rcases hc with ⟨rfl, rfl, yF⟩ | ⟨rfl, rfl, hyes⟩
 ·rw [if_neg (by rw [hit]; rintro ⟨i, a1, a2, a3⟩; exact yF i a1 a2 a3)]
  refine ⟨rfl, rfl, ?_, h6, h7, hpv.symm, ?_, ?_⟩
  ·rw [zF.2, ← SM]; simp
  ·show cy (lN (l :: E) t ty) ≤ X.length
   rw [zF.1]; exact hv
  ·show (lN (l :: E) t ty).length ≤ X.length + 1
   rw [zF.2]; exact h9
 ·rw [if_pos (hit.2 hyes)]
  exact ⟨rfl, (by decide : (6 : Int) ≠ 0), rfl⟩
theorem pN {K : SK} {w0 : World} {ah : Option Nat} {s : CS} {ret loops outs : Int} {w : World} (h : SS K w0 ah (.ok s) ret loops outs w) (t : ByteArray) (ty : Int) (p : Nat) (hs : s.1 ≠ []) (hv : cy s.1 + 1 ≤ s.2.length) :
    Calls Tryd.prog 72 #[.pointer (some ⟨K.cb, 0, none⟩), .string t, .int .i64 ty, .int .i64 p] w fun e w' => e = .returned (.tuple #[]) ∧ SS K w0 ah (tj s t ty p) ret loops outs w' := by
  obtain ⟨E, X⟩ := s
  cases E with
  | nil => exact absurd rfl hs
  | cons l E =>
  obtain ⟨vv, code, place, deep, zs, vs, h1, ⟨rfl, rfl, rfl, h6, h7, rfl, h8, h9⟩, h3⟩ := h.is
  have hK := h.ok
  have ig := hK.few
  have hvl := tY (l :: E)
  dsimp only at hv h6 h7 h8 h9
  have hlen : (varsOf (l :: E)).length ≤ 1048576 := by omega
  have hm0 : (varsOf E).length ≤ (varsOf (l :: E)).length := by simp [varsOf]
  have hEl : E.length ≤ 1048576 := by simp at h9; omega
  have SO : (((l :: E).length : Nat) : Int) = (E.length : Int) + 1 := by simp
  obtain ⟨i0, qn, qm, hZ, hQ⟩ := info_parts Rf
  obtain ⟨a, cap, rfl, iQ, oC, nA⟩ := h1.vars
  have HT := aa (fun i (a : (varsOf E).length ≤ i) (b : i < (varsOf (l :: E)).length) => xG l E a b)
  have HL := aa (fun i (a : i < (varsOf E).length) => Ca l E a)
  have HIT := aa (Ea l E t)
  have HS := aa h
  have HR := aa h1
  have HO := aa h3
  have HPV : Hid (varsOf (lN (l :: E) t ty) = varsOf (l :: E) ++ [(t, ty, E.length + 1)]) := by
    unfold Hid; simp [lN, varsOf]
  have HPL : Hid (cy (lN (l :: E) t ty) = cy (l :: E) + 1 ∧ (lN (l :: E) t ty).length = (l :: E).length) := ⟨(qd (by simp) t ty).2.2, (qd (by simp) t ty).2.1⟩
  have HVL := aa hvl
  clear h h1 h3 nA hs hvl
  rw [SO] at *
  generalize hvs : varsOf (l :: E) = vs at *
  generalize hm : (varsOf E).length = m0 at *
  generalize SM : E.length = el at *
  obtain ⟨k0, k1, k2, k3, k4, k5, k6, k7, k8, k9, vL, uQ⟩ := HR.out.cells
  clear k0 k1 k2 k3 k4 k5 k6 k9 vL uQ
  go_enter Tryd.func72, Tryd.ntmps72
  go_wp2
  go_loopw [8] (fun i wr => ∃ (n : Nat) (code place : Int), m0 ≤ n ∧ n ≤ vs.length ∧ i = .int .i64 ((n : Int) - 1) ∧ SRaw K wr (.slice a vs.length cap) code place ((el : Int) + 1) ret loops outs zs vs ∧ Kept (fun k => k = K.cb) w wr ∧
    ((code = 0 ∧ place = 0 ∧ ∀ j, n ≤ j → j < vs.length → (nK vs j).1 ≠ t) ∨ (code = 6 ∧ place = (p : Int) ∧ ∃ j, m0 ≤ j ∧ j < vs.length ∧ (nK vs j).1 = t))) (fun i _ => (intOf i + 1).toNat)
  case atStart => exact ⟨vs.length, 0, 0, hm0, Nat.le_refl _, rfl, HR.out, Kept.refl _ _, .inl ⟨rfl, rfl, fun j a b => by omega⟩⟩
  case round =>
    obtain ⟨n, code, place, Ku, zI, rfl, rH, Mx, xm⟩ := hrel
    have Px := aa rH
    have HK' := aa Mx
    have HC := aa xm
    obtain ⟨a', ph, hva, _, _, nA⟩ := rH.vars
    injection hva with hva1 hva2 hva3
    subst hva1
    obtain ⟨_, _, _, _, _, k5, k6, k7, k8, _, _, _⟩ := rH.cells
    have bm := rH.lt
    clear rH Mx xm hva2 hva3
    by_cases oB : n = m0
    · have tw : n = 0 ∨ (0 < n ∧ ∃ g, a = some ⟨g, 0, none⟩ ∧ wr.cell? ⟨g, (n - 1) * 3 + 2, none⟩ = some (.int .i64 ((nK vs (n - 1)).2.2 : Nat)) ∧ (nK vs (n - 1)).2.2 ≤ el) := by
        by_cases h0 : n = 0
        · exact .inl h0
        · rcases nA with hc | ⟨g, rfl, hc⟩
          · omega
          · exact .inr ⟨by omega, g, rfl, (hc (n - 1) (by omega)).2.2, HL.out (n - 1) (by omega)⟩
      clear nA
      have V4 : Hid (∀ wq, Below wr.heap.size wr wq → ∀ o : Obj, (wq.alloc o).ownsRow K.up 83 3 (.slice a vs.length cap) vs.length (kY vs) ∧ (wq.alloc o).cell? ⟨K.cb, 7, none⟩ = some (.slice a vs.length cap) ∧ (wq.alloc o).cell? ⟨K.cb, 8, none⟩ = some (.int .i64 ((el : Int) + 1)) ∧ (wq.alloc o).frozen? ⟨K.cb, 7, none⟩ = false ∧ SRaw K (wq.alloc o) (.slice a vs.length cap) code place ((el : Int) + 1) ret loops outs zs vs) := by
        intro wq hq o
        have hr := (Px.out.calm hq).calm ((Below.refl _ _).alloc lr o)
        exact ⟨hr.var, hr.cells.2.2.2.2.2.2.2.1, hr.cells.2.2.2.2.2.2.2.2.1, hr.free 7, hr⟩
      have hup := Px.out.lt
      have hKl := Px.out.room hK
      subst oB
      rcases tw with rfl | ⟨mB, g, rfl, hc2', hle⟩
      · go_wp2
        go_quiet (fail)
        go_wp2
        have IM := aa (below_drewN wr nq)
        have HE := aa (V4.out _ IM.out)
        have k7' : (wr.drewN nq).cell? ⟨K.cb, 7, none⟩ = some (.slice a vs.length cap) := k7
        have k_Q0_0 := kk
        exact bQ0
      · obtain ⟨n', rfl⟩ : ∃ n', n = n' + 1 := ⟨n - 1, by omega⟩
        have e1 : ((n' + 1 : Nat) : Int) - 1 = n' := by omega
        rw [e1]
        clear e1
        rw [Nat.add_sub_cancel] at hc2' hle
        have fE : (((nK vs n').2.2 : Int) == (el : Int) + 1) = false := bn (by omega)
        go_wp2
        go_quiet (fail)
        go_wp2
        have IM := aa (below_drewN wr nq)
        have HE := aa (V4.out _ IM.out)
        have k7' : (wr.drewN nq).cell? ⟨K.cb, 7, none⟩ = some (.slice (some ⟨g, 0, none⟩) vs.length cap) := k7
        have k_Q0_1 := kk
        exact bQ0
    · rcases nA with hc | ⟨g, rfl, hc⟩
      · omega
      obtain ⟨n', rfl⟩ : ∃ n', n = n' + 1 := ⟨n - 1, by omega⟩
      have e1 : ((n' + 1 : Nat) : Int) - 1 = n' := by omega
      rw [e1]
      clear e1
      obtain ⟨c0, c1, c2⟩ := hc n' (by omega)
      have Oq := HT.out n' (by omega) (by omega)
      rw [Oq] at c2
      have hdd : (((el + 1 : Nat) : Int) == (el : Int) + 1) = true := by simp
      clear hc
      by_cases il : (nK vs n').1 = t
      · have ht : ((nK vs n').1.toList == t.toList) = true := by rw [il]; exact beq_self_eq_true _
        go_wp2
        go_quiet (fail)
        go_wp2_with (go_at_call 52; refine (Hu hK (Px.out.calm (below_drewN _ _)) 6 p).mono ?_; rintro e w1 ⟨rfl, mi, mP⟩)
        refine ⟨⟨n', _, _, by omega, by omega, rfl, mi, ?_, ?_⟩, by simp only [intOf]; omega⟩
        · exact (HK'.out.trans (b7 (below_drewN wr nq) _) (fun _ _ h => h)).trans mP (fun _ _ h => h)
        · refine .inr ?_
          rcases HC.out with ⟨rfl, rfl, _⟩ | ⟨rfl, rfl, h⟩
          · exact ⟨rfl, rfl, n', by omega, by omega, il⟩
          · exact ⟨rfl, rfl, h⟩
      · have ht : ((nK vs n').1.toList == t.toList) = false := sq il
        go_wp2
        go_quiet (fail)
        go_wp2
        go_wp2
        refine ⟨⟨n', code, place, by omega, by omega, rfl, Px.out.calm (below_drewN _ _), ?_, ?_⟩, by simp only [intOf]; omega⟩
        · exact HK'.out.trans (b7 (below_drewN wr nq) _) (fun _ _ h => h)
        · rcases HC.out with ⟨rfl, rfl, h⟩ | h
          · refine .inl ⟨rfl, rfl, fun j a b => ?_⟩
            by_cases e : j = n'
            · subst e; exact il
            · exact h j (by omega) b
          · exact .inr h
theorem Kg {w : World} {base : Nat} {e : TypeId} {size n k cap : Nat} {a : Option Addr} {xs : List Value} (h : w.ownsRow base e size (.slice a n cap) n xs) (hk : k ≤ n) : w.ownsRow base e size (.slice a k cap) k (xs.take (k * size)) := by
 refine ⟨?_, ?_⟩
 ·rw [List.length_take, h.1]; exact Nat.min_eq_left (Nat.mul_le_mul_right _ hk)
 ·rcases h.2 with ⟨h1, h2⟩ | ⟨g, c, cur, h1, h2, h3, h4, h5, h6, h7⟩
  ·injection h1 with e1 e2 e3
   subst e1 e2 e3
   obtain rfl : k = 0 := by omega
   exact .inl ⟨rfl, rfl⟩
  ·injection h1 with e1 e2 e3
   subst e1 e3
   refine .inr ⟨g, cap, cur, rfl, h2, h3, by omega, h5, h6, ?_⟩
   rw [← h7, List.take_take]
   congr 1
   exact (Nat.min_eq_left (Nat.mul_le_mul_right _ hk)).symm
theorem vh : ∀ (vs : List Vr) (k : Nat), (kY vs).take (k * 3) = kY (vs.take k)
 |[], k => by simp [kY]
 |v :: l, 0 => by simp [kY]
 |v :: l, k + 1 => by
  have e : (k + 1) * 3 = k * 3 + 1 + 1 + 1 := by omega
  rw [e]
  simp [kY, vh l k]
theorem yS (l : List (ByteArray × Int)) (E : Sc) : (varsOf (l :: E)).take (varsOf E).length = varsOf E := by
 rw [show varsOf (l :: E) = varsOf E ++ l.reverse.map fun p => (p.1, p.2, E.length + 1) from rfl]
 exact List.take_left
def yc (σ : CR CS) : CR CS := CR.bind σ fun s => .ok (s.1.tail, s.2)
theorem w64 (n : Int) (h : -9223372036854775808 ≤ n ∧ n ≤ 9223372036854775807) : wrap64 n = n := by unfold wrap64; omega
theorem wZ {K : SK} {w0 : World} {ah : Option Nat} {σ : CR CS} {ret loops outs : Int} {w : World} {a : Option Addr} {cap n q : Nat} {code place deep : Int} {zs : List Int} {vs : List Vr}
  (hS : SS K w0 ah σ ret loops outs w) (hR : SRaw K w (.slice a vs.length cap) code place deep ret loops outs zs vs) (hI : SIs K σ code place deep zs vs) (hO : (Value.slice a vs.length cap).ownBlock = ah ∨ ∃ k, (Value.slice a vs.length cap).ownBlock = some k ∧ w0.heap.size ≤ k)
  (hN : ∀ s, σ = .ok s → s.1 ≠ []) (hn : n ≤ vs.length) (aN : ∀ j, n ≤ j → j < vs.length → ((nK vs j).2.2 : Int) = deep) (hlast : n = 0 ∨ (0 < n ∧ ((nK vs (n - 1)).2.2 : Int) ≠ deep)) :
  Ending.returned (.tuple #[]) = Ending.returned (.tuple #[]) ∧ SS K w0 ah (yc σ) ret loops outs (((w.drewN q).setCell ⟨K.cb, 7, none⟩ (.slice a n cap)).setCell ⟨K.cb, 8, none⟩ (.int .i64 (wrap64 (deep - 1)))) := by
 have hK := hS.ok
 have GZ : (Value.slice a n cap).ownBlock = (Value.slice a vs.length cap).ownBlock := by cases a <;> rfl
 have hR1 := hR.calm (below_drewN w q)
 have bK : (w.drewN q).ownsRow K.up 83 3 (.slice a n cap) (vs.take n).length (kY (vs.take n)) := by
  have := Kg hR1.var hn
  rw [vh] at this
  rw [show (vs.take n).length = n by rw [List.length_take]; omega]
  exact this
 have hP := SRaw.putV (vs1 := vs.take n) hK hR1 (w1 := w.drewN q) ⟨rfl, rfl, rfl, Nat.le_refl _, fun _ _ _ => rfl⟩ bK
 have hP2 := hP.set hK (i := 8) (u := .int .i64 (wrap64 (deep - 1))) (code' := code) (place' := place) (deep' := wrap64 (deep - 1)) (ret' := ret) (loops' := loops) (outs' := outs) rfl
 refine ⟨rfl, hS.of_raw (own := (Value.slice a vs.length cap).ownBlock) hP2 ?_ (by rw [GZ]; exact hO) hO ?_⟩
 ·cases σ with
  |error e => exact hI
  |ok s =>
   obtain ⟨E, X⟩ := s
   cases E with
   |nil => exact absurd rfl (hN _ rfl)
   |cons l E =>
    obtain ⟨h1, h2, h3, h4, h5, rfl, h7, h8⟩ := hI
    have ig := hK.few
    dsimp only at h3 h4 h5 h7 h8
    have hm0 : (varsOf E).length ≤ (varsOf (l :: E)).length := by simp [varsOf]
    have Sf : n ≤ (varsOf (l :: E)).length := hn
    have e3 : (((l :: E).length : Nat) : Int) = E.length + 1 := by simp
    have il : n = (varsOf E).length := by
     rcases Nat.lt_trichotomy n (varsOf E).length with h | h | h
     ·have e1 := aN n lr (show n < (varsOf (l :: E)).length by omega)
      have e2 := Ca l E h
      have e4 : ((nK (varsOf (l :: E)) n).2.2 : Int) = E.length + 1 := e1.trans (h3.trans e3)
      omega
     ·exact h
     ·rcases hlast with h0 | ⟨h0, h9⟩
      ·omega
      ·have e2 := xG l E (i := n - 1) (by omega) (by omega)
       exact absurd (by rw [e2, h3]; simp) h9
    refine ⟨h1, h2, ?_, h4, h5, ?_, ?_, ?_⟩
    ·rw [h3, e3, w64 _ (by simp only [List.length_cons] at h8; omega)]
     show (E.length : Int) + 1 - 1 = (E.length : Int)
     omega
    ·rw [il]; exact yS l E
    ·have : cy (l :: E) = l.length + cy E := by simp [cy]
     show cy E ≤ X.length
     omega
    ·show E.length ≤ X.length + 1
     simp at h8; omega
 ·have e1 : Kept (K.S (Value.slice a vs.length cap).ownBlock) w (w.drewN q) := b7 (below_drewN w q) _
  have e2 := e1.trans (Kept.setCell (S := K.S (Value.slice a vs.length cap).ownBlock) ⟨K.cb, 7, none⟩ (.slice a n cap) (.inl rfl)) (fun _ _ h => h)
  exact e2.trans (Kept.setCell (S := K.S (Value.slice a vs.length cap).ownBlock) ⟨K.cb, 8, none⟩ _ (.inl rfl)) (fun _ _ h => h)
theorem xb {K : SK} {w0 : World} {ah : Option Nat} {σ : CR CS} {ret loops outs : Int} {w : World} (h : SS K w0 ah σ ret loops outs w) (hs : ∀ s, σ = .ok s → s.1 ≠ []) :
  Calls Tryd.prog 95 #[.pointer (some ⟨K.cb, 0, none⟩)] w fun e w' => e = .returned (.tuple #[]) ∧ SS K w0 ah (yc σ) ret loops outs w' := by
 obtain ⟨vv, code, place, deep, zs, vs, h1, h2, h3⟩ := h.is
 have hK := h.ok
 obtain ⟨a, cap, rfl, iQ, oC, nA⟩ := h1.vars
 have HS := aa h
 have HR := aa h1
 have HO := aa h3
 have HI := aa h2
 have HC := aa nA
 have HN := aa hs
 obtain ⟨k0, k1, k2, k3, k4, k5, k6, k7, k8, k9, vL, uQ⟩ := h1.cells
 have f7 := h1.free 7
 have f8 := h1.free 8
 clear k0 k1 k2 k3 k4 k5 k6 k9 vL uQ h h1 h2 h3 nA hs
 go_enter Tryd.func95, Tryd.ntmps95
 go_wp2
 go_loopw [2] (fun k wr => ∃ (q n : Nat), wr = w.drewN q ∧ n ≤ vs.length ∧ k = .int .i64 n ∧ ∀ j, n ≤ j → j < vs.length → ((nK vs j).2.2 : Int) = deep) (fun k _ => (intOf k).toNat)
 case atStart => exact ⟨0, vs.length, rfl, Nat.le_refl _, rfl, fun j a b => by omega⟩
 case round =>
  obtain ⟨q, n, rfl, hn, rfl, aN⟩ := hrel
  have HA := aa aN
  clear aN
  by_cases h0 : n = 0
  ·subst h0
   go_wp2
   go_quiet (fail)
   go_wp2
   go_end0
   exact wZ HS.out HR.out HI.out HO.out HN.out (Nat.zero_le _) HA.out (.inl rfl)
  ·obtain ⟨n', rfl⟩ : ∃ n', n = n' + 1 := ⟨n - 1, by omega⟩
   rcases HC.out with hc | ⟨g, rfl, hc⟩
   ·omega
   obtain ⟨c0, c1, c2⟩ := hc n' (by omega)
   have e1 : ((n' + 1 : Nat) : Int) - 1 = n' := by omega
   have mB : (((n' + 1 : Nat) : Int) > 0) := by omega
   clear hc
   by_cases hd : ((nK vs n').2.2 : Int) = deep
   ·have hdd : (((nK vs n').2.2 : Int) == deep) = true := by rw [hd]; exact beq_self_eq_true _
    go_wp2
    go_quiet (fail)
    go_wp2
    refine ⟨⟨_, n', rfl, by omega, rfl, fun j a b => ?_⟩, by simp only [intOf]; omega⟩
    by_cases e : j = n'
    ·subst e; exact hd
    ·exact HA.out j (by omega) b
   ·have hdd : (((nK vs n').2.2 : Int) == deep) = false := bn hd
    go_wp2
    go_quiet (fail)
    go_wp2
    go_end0
    exact wZ HS.out HR.out HI.out HO.out HN.out (by omega) HA.out (.inr ⟨by omega, by rw [Nat.add_sub_cancel]; exact hd⟩)
def pa (F : Nd) (s : ByteArray) : Int := match findF F s with | some i => (i : Int) | none => -1
theorem pJ {F : Nd} {s : ByteArray} : ∀ {n : Nat}, (∀ j, j < n → (F.kids j).name ≠ s) → nZ F s n = none
 |0, _ => rfl
 |n + 1, h => by
  simp only [nZ, pJ (n := n) fun j hj => h j (by omega)]
  rw [if_neg (h n (by omega))]
theorem th {F : Nd} {s : ByteArray} {i : Nat} (h : ∀ j, j < i → (F.kids j).name ≠ s) (hi : (F.kids i).name = s) : ∀ {n : Nat}, i < n → nZ F s n = some i
 |n + 1, hn => by
  by_cases e : i < n
  ·simp only [nZ, th h hi e]
  ·obtain rfl : i = n := by omega
   simp only [nZ, pJ h]
   rw [if_pos hi]
theorem tg {F : Nd} {s : ByteArray} : ∀ {n i : Nat}, nZ F s n = some i → i < n ∧ (F.kids i).name = s
 |n + 1, i, h => by
  simp only [nZ] at h
  cases hr : nZ F s n with
  |some k => rw [hr] at h; injection h with h; subst h; have := tg hr; exact ⟨by omega, this.2⟩
  |none =>
   rw [hr] at h
   dsimp only at h
   split at h
   ·injection h with h; subst h; exact ⟨by omega, by assumption⟩
   ·cases h
theorem Ad (T : Nd) (w : World) (v : Value) (hi : Nat) (s : ByteArray) (hf : T.Fine) (gW : hi ≤ w.heap.size) (hr : Row 0 hi w T v) :
  Calls Tryd.prog 51 #[T.val v, .string s] w fun e w' => e = .returned (.int .i64 (pa T s)) ∧ Below w.heap.size w w' := by
 have hn := T.fine_len hf
 obtain ⟨a, cap, rfl, bQ, hq⟩ := ar.1 hr
 have HR := aa hq
 have HS := aa (fun i (h : ∀ j, j < i → (T.kids j).name ≠ s) (hi : (T.kids i).name = s) (hl : i < T.len) => th h hi hl)
 have HZ := aa (fun (h : ∀ j, j < T.len → (T.kids j).name ≠ s) => pJ h)
 clear hr hf hq bQ
 unfold Nd.val
 generalize T.kind = tk
 generalize T.num = tn
 generalize T.name = ts
 have pw : Hid (Below w.heap.size w (w.alloc (.cells #[.int .i64 tk, .int .i64 tn, .string ts, .slice a T.len cap] 27))) := bA
 go_enter Tryd.func51, Tryd.ntmps51
 go_wp2
 go_loopw [5] (fun i wr => wr = w.alloc (.cells #[.int .i64 tk, .int .i64 tn, .string ts, .slice a T.len cap] 27) ∧ ∃ j : Nat, j ≤ T.len ∧ i = .int .i64 j ∧ ∀ k, k < j → (T.kids k).name ≠ s) (fun i _ => T.len - (intOf i).toNat)
 case atStart => exact ⟨rfl, 0, Nat.zero_le _, rfl, fun k hk => absurd hk (Nat.not_lt_zero _)⟩
 case round =>
  obtain ⟨rfl, j, hj, rfl, yF⟩ := hrel
  have M7 := aa yF
  clear yF
  by_cases bm : j < T.len
  ·rcases HR.out with h0 | ⟨g, off, rfl, h1, h2, h3⟩
   ·omega
   obtain ⟨u, e0, e1, e2, e3, hu⟩ := h3 j bm
   have tf : g < w.heap.size := by omega
   have e2' := (pw.out.cell (p := ⟨g, off + j * 4 + 2, none⟩) tf).trans e2
   clear h3 e0 e1 e2 e3 hu
   by_cases hs : (T.kids j).name = s
   ·have ht : ((T.kids j).name.toList == s.toList) = true := by rw [hs]; exact beq_self_eq_true _
    go_wp2
    go_ret
    refine ⟨nn ?_, pw.out⟩
    unfold pa findF
    rw [HS.out j M7.out hs bm]
   ·have ht : ((T.kids j).name.toList == s.toList) = false := sq hs
    go_wp2
    refine ⟨⟨trivial, j + 1, by omega, by go_num, fun k hk => ?_⟩, by simp only [intOf]; omega⟩
    by_cases e : k = j
    ·subst e; exact hs
    ·exact M7.out k (by omega)
  ·go_wp2
   go_ret
   obtain rfl : j = T.len := by omega
   refine ⟨nn ?_, pw.out⟩
   unfold pa findF
   rw [HZ.out M7.out]
structure SEnv (K : SK) (w : World) : Prop where
 fine : K.F.Fine
 row : Row 0 K.lo w K.F K.fv
 ok : gg K.F = true
structure SNd (K : SK) (w : World) (T : Nd) (v : Value) : Prop where
 fine : T.Fine
 row : Row 0 K.lo w T v
 cost : T.cost ≤ 1048576
def SAt (K : SK) (T : Nd) (σ : CR CS) (p : Nat) : Prop := p ≤ 1048576 ∧ ∀ s, σ = .ok s → p = s.2.length ∧ p + T.size ≤ K.N
def Qi (K : SK) (T : Nd) (σ : CR CS) : CR CS := CR.bind σ fun s => CR.bind (ll K.F T s) fun r => .ok r.2
def oI (K : SK) (T : Nd) (σ : CR CS) : CR CS := CR.bind σ fun s => CR.bind (iz (ll K.F T) s) fun r => .ok r.2
def fC (K : SK) (T : Nd) (t : Int) (σ : CR CS) : CR CS := CR.bind σ (fM (ll K.F T) t)
def IP (K : SK) (T : Nd) (σ : CR CS) (t : Int) : Prop := ∀ s r, σ = .ok s → ll K.F T s = .ok r → t = r.1
def At (T : Nd) : Prop := ∀ (K : SK) (w0 : World) (ah : Option Nat) (σ : CR CS) (ret loops outs : Int) (w : World) (v : Value) (p : Nat), SS K w0 ah σ ret loops outs w → SEnv K w → SNd K w T v → SAt K T σ p → T.eOk = true →
 Calls Tryd.prog 93 #[.pointer (some ⟨K.cb, 0, none⟩), T.val v, .int .i64 p] w fun e w' => ∃ t, e = .returned (.int .i64 t) ∧ IP K T σ t ∧ SS K w0 ah (Qi K T σ) ret loops outs w'
theorem SEnv.later {K : SK} {w w' : World} (h : SEnv K w) (hb : Below K.lo w w') : SEnv K w' := ⟨h.fine, ae hb lr h.row, h.ok⟩
theorem SNd.later {K : SK} {w w' : World} {T : Nd} {v : Value} (h : SNd K w T v) (hb : Below K.lo w w') : SNd K w' T v := ⟨h.fine, ae hb lr h.row, h.cost⟩
theorem SS.box {K : SK} {w0 : World} {ah : Option Nat} {σ : CR CS} {ret loops outs : Int} {w : World} (h : SS K w0 ah σ ret loops outs w) (o : Obj) : Below K.lo w (w.alloc o) :=
 (Below.refl _ _).alloc (by have := h.lt; have := h.ok.cl; omega) _
theorem SS.code0 {K : SK} {w0 : World} {ah : Option Nat} {s : CS} {ret loops outs : Int} {w : World} (h : SS K w0 ah (.ok s) ret loops outs w) : w.cell? ⟨K.cb, 5, none⟩ = some (.int .i64 0) := by
 obtain ⟨vv, code, place, deep, zs, vs, h1, h2, h3⟩ := h.is
 have := h1.cells.2.2.2.2.2.1
 rw [h2.1] at this; exact this
theorem SS.code1 {K : SK} {w0 : World} {ah : Option Nat} {e : Int × Nat} {ret loops outs : Int} {w : World} (h : SS K w0 ah (.error e) ret loops outs w) : ∃ code, w.cell? ⟨K.cb, 5, none⟩ = some (.int .i64 code) ∧ (code == 0) = false := by
 obtain ⟨vv, code, place, deep, zs, vs, h1, h2, h3⟩ := h.is
 exact ⟨code, h1.cells.2.2.2.2.2.1, bn (by rw [h2.1]; exact h2.2.1)⟩
theorem pz {T : Nd} (hT : At T) (K : SK) (w0 : World) (ah : Option Nat) (σ : CR CS) (ret loops outs : Int) (w : World) (v : Value) (p : Nat) (hS : SS K w0 ah σ ret loops outs w) (hE : SEnv K w) (hN : SNd K w T v) (hA : SAt K T σ p) (ax : T.eOk = true) :
  Calls Tryd.prog 90 #[.pointer (some ⟨K.cb, 0, none⟩), T.val v, .int .i64 p] w fun e w' => ∃ t, e = .returned (.int .i64 t) ∧ IP K T σ t ∧ SS K w0 ah (oI K T σ) ret loops outs w' := by
 have HC := aa (fun o => hT K w0 ah σ ret loops outs (w.alloc o) v p (hS.alloc o) (hE.later (hS.box o)) (hN.later (hS.box o)) hA ax)
 have HA := aa hA
 clear hS hE hN hA
 unfold Nd.val at *
 generalize T.kind = tk at *
 generalize T.num = tn at *
 generalize T.name = ts at *
 cases hσ : Qi K T σ with
 |error e0 =>
  have hv : oI K T σ = .error e0 := by
   unfold Qi at hσ; unfold oI iz
   cases σ with
   |error x => exact hσ
   |ok s =>
    simp only [CR.bind_ok] at hσ ⊢
    cases hx : ll K.F T s with
    |error y => rw [hx] at hσ; exact hσ
    |ok r => rw [hx] at hσ; cases hσ
  rw [hv]
  rw [hσ] at HC
  clear hσ hv
  go_enter Tryd.func90, Tryd.ntmps90
  go_wp2_with (go_at_call 93; refine (HC.out _).mono ?_; rintro e w1 ⟨t, rfl, hR, hs⟩; obtain ⟨code, k5, hz⟩ := hs.code1; have gh := aa hs; have HR := aa hR; clear hs hR)
  go_ret
  exact ⟨_, rfl, HR.out, gh.out⟩
 |ok s1 =>
  obtain ⟨s, N6, aY⟩ := bb hσ
  obtain ⟨r, gV, mi⟩ := bb aY
  injection mi with mi
  subst mi
  rw [hσ] at HC
  subst N6
  have HX := aa (show ∀ t, IP K T (.ok s) t → t = r.1 from fun t h => h s r rfl gV)
  have HP : Hid (p = s.2.length) := (HA.out.2 s rfl).1
  clear HA
  by_cases h0 : r.1 = 0
  ·have hv : oI K T (.ok s) = .error (9, p) := by
    unfold oI iz; rw [CR.bind_ok, gV, CR.bind_ok, if_pos h0, HP.out]; rfl
   rw [hv]
   have H0 := aa h0
   clear hσ hv gV aY h0
   go_enter Tryd.func90, Tryd.ntmps90
   go_wp2_with (first
    |(go_at_call 93; refine (HC.out _).mono ?_; rintro e w1 ⟨t, rfl, hR, hs⟩; obtain rfl : t = 0 := (HX.out t hR).trans H0.out; have k5 := hs.code0; have gh := aa hs; have HR := aa hR; clear hs hR)
    |(go_at_call 52; refine (gJ gh.out 9 (by decide) p).mono ?_; rintro e w2 ⟨rfl, bH⟩; have lD := aa bH; clear bH))
   go_ret
   exact ⟨_, rfl, HR.out, lD.out⟩
  ·have hv : oI K T (.ok s) = .ok r.2 := by
    unfold oI iz; rw [CR.bind_ok, gV, CR.bind_ok, if_neg h0]; rfl
   have H0 : Hid ((r.1 == 0) = false) := bn h0
   rw [hv]
   clear hσ hv gV aY h0
   go_enter Tryd.func90, Tryd.ntmps90
   go_wp2_with (go_at_call 93; refine (HC.out _).mono ?_; rintro e w1 ⟨t, rfl, hR, hs⟩; have By : (t == 0) = false := (congrArg (fun x : Int => x == 0) (HX.out t hR)).trans H0.out; have k5 := hs.code0; have gh := aa hs; have HR := aa hR; clear hs hR)
   go_ret
   exact ⟨_, rfl, HR.out, gh.out⟩
def WtS (T : Nd) : Prop := ∀ (K : SK) (w0 : World) (ah : Option Nat) (σ : CR CS) (ret loops outs : Int) (w : World) (v : Value) (p : Nat) (ty : Int), SS K w0 ah σ ret loops outs w → SEnv K w → SNd K w T v → SAt K T σ p → T.eOk = true →
 Calls Tryd.prog 92 #[.pointer (some ⟨K.cb, 0, none⟩), T.val v, .int .i64 p, .int .i64 ty] w fun e w' => e = .returned (.tuple #[]) ∧ SS K w0 ah (fC K T ty σ) ret loops outs w'
theorem p4 {T : Nd} (hT : At T) : WtS T := by
 intro K w0 ah σ ret loops outs w v p ty hS hE hN hA ax
 have HC := aa (fun o => pz hT K w0 ah σ ret loops outs (w.alloc o) v p (hS.alloc o) (hE.later (hS.box o)) (hN.later (hS.box o)) hA ax)
 have HA := aa hA
 clear hS hE hN hA
 unfold Nd.val at *
 generalize T.kind = tk at *
 generalize T.num = tn at *
 generalize T.name = ts at *
 cases hσ : oI K T σ with
 |error e0 =>
  have hv : fC K T ty σ = .error e0 := by
   unfold oI at hσ; unfold fC fM
   cases σ with
   |error x => exact hσ
   |ok s =>
    simp only [CR.bind_ok] at hσ ⊢
    cases hx : iz (ll K.F T) s with
    |error y => rw [hx] at hσ; exact hσ
    |ok r => rw [hx] at hσ; cases hσ
  rw [hv]
  rw [hσ] at HC
  clear hσ hv
  go_enter Tryd.func92, Tryd.ntmps92
  go_wp2_with (go_at_call 90; refine (HC.out _).mono ?_; rintro e w1 ⟨t, rfl, hR, hs⟩; obtain ⟨code, k5, hz⟩ := hs.code1; have gh := aa hs; have HR := aa hR; clear hs hR)
  go_end0
  exact ⟨rfl, gh.out⟩
 |ok s1 =>
  obtain ⟨s, N6, aY⟩ := bb hσ
  obtain ⟨r, gV, mi⟩ := bb aY
  injection mi with mi
  subst mi
  rw [hσ] at HC
  subst N6
  have hx := (nf gV).1
  have HX := aa (show ∀ t, IP K T (.ok s) t → t = r.1 from fun t h => h s r rfl hx)
  have HP : Hid (p = s.2.length) := (HA.out.2 s rfl).1
  clear HA
  by_cases h0 : r.1 = ty
  ·have hv : fC K T ty (.ok s) = .ok r.2 := by
    unfold fC fM; rw [CR.bind_ok, gV, CR.bind_ok, if_pos h0]
   rw [hv]
   have H0 : Hid ((r.1 == ty) = true) := beq_iff_eq.2 h0
   clear hσ hv gV aY h0 hx
   go_enter Tryd.func92, Tryd.ntmps92
   go_wp2_with (go_at_call 90; refine (HC.out _).mono ?_; rintro e w1 ⟨t, rfl, hR, hs⟩; have By : (t == ty) = true := (congrArg (fun x : Int => x == ty) (HX.out t hR)).trans H0.out; have k5 := hs.code0; have gh := aa hs; clear hs hR)
   go_end0
   exact ⟨rfl, gh.out⟩
  ·have hv : fC K T ty (.ok s) = .error (7, p) := by
    unfold fC fM; rw [CR.bind_ok, gV, CR.bind_ok, if_neg h0, HP.out]
   have H0 : Hid ((r.1 == ty) = false) := bn h0
   rw [hv]
   clear hσ hv gV aY h0 hx
   go_enter Tryd.func92, Tryd.ntmps92
   go_wp2_with (first
    |(go_at_call 90; refine (HC.out _).mono ?_; rintro e w1 ⟨t, rfl, hR, hs⟩; have By : (t == ty) = false := (congrArg (fun x : Int => x == ty) (HX.out t hR)).trans H0.out; have k5 := hs.code0; have gh := aa hs; clear hs hR)
    |(go_at_call 52; refine (gJ gh.out 7 (by decide) p).mono ?_; rintro e w2 ⟨rfl, bH⟩; have lD := aa bH; clear bH))
   go_end0
   exact ⟨rfl, lD.out⟩
def Al (T : Nd) : Prop := ∀ (K : SK) (w0 : World) (ah : Option Nat) (s : CS) (ret loops outs : Int) (w : World) (v : Value), SS K w0 ah (.ok (ao s)) ret loops outs w → SEnv K w → SNd K w T v → s.2.length + T.size ≤ K.N → T.eOk = true →
 Calls Tryd.prog 96 #[.pointer (some ⟨K.cb, 0, none⟩), T.val v, .int .i64 s.2.length] w fun e w' => ∃ t, e = .returned (.int .i64 t) ∧ (∀ r, gi K.F T.kind T.name T.len (fun i => ll K.F (T.kids i)) (ao s) s.2.length = .ok r → t = r.1) ∧
  SS K w0 ah (CR.bind (gi K.F T.kind T.name T.len (fun i => ll K.F (T.kids i)) (ao s) s.2.length) fun r => .ok r.2) ret loops outs w'
theorem J8 (n : Nat) (h : 0 < n) : List.replicate n (0 : Int) = 0 :: List.replicate (n - 1) 0 := by
 cases n with
 |zero => omega
 |succ n => rfl
theorem SS.take {K : SK} {w0 : World} {ah : Option Nat} {s : CS} {ret loops outs : Int} {w : World} (h : SS K w0 ah (.ok s) ret loops outs w) (hn : s.2.length + 1 ≤ K.N) : SS K w0 ah (.ok (ao s)) ret loops outs w := by
 obtain ⟨vv, code, place, deep, zs, vs, h1, ⟨a1, a2, a3, a4, a5, a6, a7, a8⟩, h3⟩ := h.is
 refine ⟨h.ok, ⟨vv, code, place, deep, zs, vs, h1, ⟨a1, a2, a3, ?_, ?_, a6, ?_, ?_⟩, h3⟩, h.kept⟩
 ·rw [a4, J8 (K.N - s.2.length) (by omega)]
  simp only [ao, List.length_append, List.length_cons, List.length_nil, List.append_assoc, List.cons_append, List.nil_append]
  rw [show K.N - s.2.length - 1 = K.N - (s.2.length + (0 + 1)) by omega]
 ·rw [b5]; exact hn
 ·show cy s.1 ≤ _; rw [b5]; omega
 ·show s.1.length ≤ _; rw [b5]; omega
def ND (τ : CR CS) (p : Nat) (t : Int) : CR CS := CR.bind τ fun s => .ok (s.1, s.2.set p t)
theorem SS.store {K : SK} {w0 : World} {ah : Option Nat} {τ : CR CS} {ret loops outs : Int} {w : World} (h : SS K w0 ah τ ret loops outs w) (p : Nat) (t : Int) (hp : ∀ s, τ = .ok s → p < s.2.length) :
  SS K w0 ah (ND τ p t) ret loops outs (w.setCell ⟨K.tb, p, none⟩ (.int .i64 t)) := by
 obtain ⟨vv, code, place, deep, zs, vs, h1, h2, h3⟩ := h.is
 have hr : SRaw K (w.setCell ⟨K.tb, p, none⟩ (.int .i64 t)) vv code place deep ret loops outs (zs.set p t) vs := by
  refine ⟨?_, ?_, by rw [List.length_set]; exact h1.len, ownsRow_setCell_below h1.var (show K.tb < K.up from h.ok.tu) _⟩
  ·rw [Below.heap_setCell w ⟨K.tb, p, none⟩ _ K.cb h.ok.ne]; exact h1.blk
  ·rw [heap_setCell_same w K.tb p _ _ _ h1.typ]
   simp [List.map_set]
 refine h.of_raw (own := ah) hr ?_ h3 (.inl rfl) (Kept.setCell (S := K.S ah) ⟨K.tb, p, none⟩ _ (.inr (.inl rfl)))
 cases τ with
 |error e => exact h2
 |ok s =>
  obtain ⟨a1, a2, a3, a4, a5, a6, a7, a8⟩ := h2
  refine ⟨a1, a2, a3, ?_, ?_, a6, ?_, ?_⟩
  ·rw [a4, List.set_append_left _ _ (hp s rfl), List.length_set]
  ·rw [List.length_set]; exact a5
  ·rw [List.length_set]; exact a7
  ·rw [List.length_set]; exact a8
theorem SS.typs {K : SK} {w0 : World} {ah : Option Nat} {τ : CR CS} {ret loops outs : Int} {w : World} (h : SS K w0 ah τ ret loops outs w) (p : Nat) (hp : p < K.N) :
  w.cell? ⟨K.cb, 4, none⟩ = some (.slice (some ⟨K.tb, 0, none⟩) K.N K.N) ∧ w.frozen? ⟨K.tb, p, none⟩ = false ∧ ∃ u, w.cell? ⟨K.tb, p, none⟩ = some u := by
 obtain ⟨vv, code, place, deep, zs, vs, h1, h2, h3⟩ := h.is
 refine ⟨h1.cells.2.2.2.2.1, frozen_of_row w K.tb p _ _ h1.typ, .int .i64 (zs[p]'(by rw [h1.len]; exact hp)), ?_⟩
 have hl := h1.len
 simp [World.cell?, h1.typ, hl, hp]
theorem CJ {T : Nd} (hT : Al T) : At T := by
 intro K w0 ah σ ret loops outs w v p hS hE hN hA ax
 have ig := hS.ok.few
 cases σ with
 |error e0 =>
  have HS := aa (fun o => hS.alloc o)
  obtain ⟨code, k5, hz⟩ := hS.code1
  have bm := hS.lt
  clear hS hE hN hA hT
  unfold Nd.val
  go_enter Tryd.func93, Tryd.ntmps93
  go_wp2
  go_ret
  exact ⟨0, rfl, fun s r h => (by cases h), HS.out _⟩
 |ok s =>
  obtain ⟨rfl, be⟩ := hA.2 s rfl
  have bP : 0 < T.size := by rw [T.size_eq]; omega
  have HC := aa (fun o => hT K w0 ah s ret loops outs (w.alloc o) v ((hS.alloc o).take (by omega)) (hE.later (hS.box o)) (hN.later (hS.box o)) be ax)
  have k5 := hS.code0
  have bm := hS.lt
  have hpn : s.2.length < K.N := by omega
  have HP : Hid (∀ r, gi K.F T.kind T.name T.len (fun i => ll K.F (T.kids i)) (ao s) s.2.length = .ok r → s.2.length < r.2.2.length) := by
   intro r hr
   have hx : ll K.F T s = .ok (r.1, (r.2.1, r.2.2.set s.2.length r.1)) := by rw [BG K.F ax]; unfold Tu; rw [hr]; rfl
   have := (pK K.F T ax s _ _ hx).2
   rw [List.length_set] at this; omega
  have SJ : ∀ t, (∀ r, gi K.F T.kind T.name T.len (fun i => ll K.F (T.kids i)) (ao s) s.2.length = .ok r → t = r.1) → IP K T (.ok s) t ∧ Qi K T (.ok s) = ND (CR.bind (gi K.F T.kind T.name T.len (fun i => ll K.F (T.kids i)) (ao s) s.2.length) fun r => .ok r.2) s.2.length t := by
   intro t ht
   unfold IP Qi ND
   rw [BG K.F ax]
   unfold Tu
   cases hr : gi K.F T.kind T.name T.len (fun i => ll K.F (T.kids i)) (ao s) s.2.length with
   |error x => exact ⟨fun s' r' h1 h2 => (by injection h1 with h1; subst h1; rw [hr] at h2; cases h2), (by simp only [CR.bind_ok, hr]; rfl)⟩
   |ok r =>
    obtain rfl := ht r hr
    exact ⟨fun s' r' h1 h2 => (by injection h1 with h1; subst h1; rw [hr] at h2; injection h2 with h2; subst h2; rfl), (by simp only [CR.bind_ok, hr])⟩
  have HX := aa SJ
  clear hS hE hN hA hT SJ bP be ax
  unfold Nd.val at *
  generalize T.kind = tk at *
  generalize T.num = tn at *
  generalize T.name = ts at *
  generalize hτ : gi K.F tk ts T.len (fun i => ll K.F (T.kids i)) (ao s) s.2.length = τ at *
  clear hτ
  generalize hq : s.2.length = q at *
  go_enter Tryd.func93, Tryd.ntmps93
  go_wp2_with (go_at_call 96; refine (HC.out _).mono ?_; rintro e w1 ⟨t, rfl, hR, hs⟩; obtain ⟨k4, f4, u4, c4⟩ := hs.typs q hpn; have gh := aa hs; have HR := aa hR; clear hs hR)
  go_ret
  obtain ⟨b1, b2⟩ := HX.out t HR.out
  refine ⟨t, rfl, b1, ?_⟩
  rw [b2]
  refine gh.out.store q t fun s' P0 => ?_
  obtain ⟨r, mi, vV⟩ := bb P0
  injection vV with vV; subst vV
  exact HP.out r mi
theorem mJ {T : Nd} {lo : Nat} {w0 : World} {v : Value} (hr : Row 0 lo w0 T v) (h0 : T.len ≠ 0) : ∃ g off cap, v = .slice (some ⟨g, off, none⟩) T.len cap ∧ g < lo ∧ (T.len ≤ cap ∧ cap ≤ 9223372036854775807) ∧ ∀ i, i < T.len →
    ∃ u, (∀ W, Below lo w0 W → W.cell? ⟨g, off + i * 4, none⟩ = some (.int .i64 (T.kids i).kind) ∧ W.cell? ⟨g, off + i * 4 + 1, none⟩ = some (.int .i64 (T.kids i).num) ∧
        W.cell? ⟨g, off + i * 4 + 2, none⟩ = some (.string (T.kids i).name) ∧ W.cell? ⟨g, off + i * 4 + 3, none⟩ = some u) ∧ Row 0 lo w0 (T.kids i) u := by
  obtain ⟨a, cap, rfl, hc, h⟩ := ar.1 hr
  rcases h with h | ⟨g, off, rfl, _, h2, h3⟩
  · exact absurd h h0
  refine ⟨g, off, cap, rfl, h2, hc, fun i hi => ?_⟩
  obtain ⟨u, e0, e1, e2, e3, hr⟩ := h3 i hi
  refine ⟨u, fun W hb => ?_, hr⟩
  have hc : ∀ o, W.cell? ⟨g, o, none⟩ = w0.cell? ⟨g, o, none⟩ := fun o => hb.cell (p := ⟨g, o, none⟩) h2
  exact ⟨(hc _).trans e0, (hc _).trans e1, (hc _).trans e2, (hc _).trans e3⟩
structure SGo (K : SK) (w w1 : World) (own1 : Option Nat) (b : Nat) (T : Nd) (v u : Value) (p : Nat) : Prop where
 lo : Below K.lo w w1
 box : ∀ W σ r l o, SS K w1 own1 σ r l o W → W.cell? ⟨b, 0, none⟩ = some (.int .i64 T.kind) ∧ W.cell? ⟨b, 1, none⟩ = some (.int .i64 T.num) ∧ W.cell? ⟨b, 2, none⟩ = some (.string T.name) ∧ W.cell? ⟨b, 3, none⟩ = some v
 ats : T.len ≠ 0 → ∃ g off cap, u = .slice (some ⟨g, off, none⟩) T.len cap ∧ (T.len ≤ cap ∧ cap ≤ 9223372036854775807) ∧ ∀ W σ r l o, SS K w1 own1 σ r l o W → ∀ i, i < T.len → W.cell? ⟨g, off + i, none⟩ = some (.int .i64 (aP T p i : Nat))
 below : ∀ W σ r l o, SS K w1 own1 σ r l o W → Below K.lo w W
theorem pB {K : SK} {w0 : World} {ah : Option Nat} {σ : CR CS} {ret loops outs : Int} {w w1 : World} {T : Nd} {v u : Value} {p : Nat} {t : TypeId} (h : SS K w0 ah σ ret loops outs w)
  (hb : Below (w.alloc (.cells #[.int .i64 T.kind, .int .i64 T.num, .string T.name, v] t)).heap.size (w.alloc (.cells #[.int .i64 T.kind, .int .i64 T.num, .string T.name, v] t)) w1)
  (ha : LX w1 (w.alloc (.cells #[.int .i64 T.kind, .int .i64 T.num, .string T.name, v] t)).heap.size u T.len (fun i => (aP T p i : Nat))) :
  ∃ own1, SS K w1 own1 σ ret loops outs w1 ∧ (∀ σ' r l o W, SS K w1 own1 σ' r l o W → SS K w0 ah σ' r l o W) ∧ SGo K w w1 own1 w.heap.size T v u p := by
 have h1 := (h.alloc (.cells #[.int .i64 T.kind, .int .i64 T.num, .string T.name, v] t)).calm hb
 obtain ⟨vv, code, place, deep, zs, vs, rH, _⟩ := h.is
 obtain ⟨own, hr, _, _, _⟩ := h.restart
 obtain ⟨own1, g1, g2, g3, g4⟩ := h1.restart
 have bm := h.lt
 have sf := h.ok.cl
 have bP : (w.alloc (.cells #[.int .i64 T.kind, .int .i64 T.num, .string T.name, v] t)).heap.size = w.heap.size + 1 := by simp
 have aY := hb.size
 rw [bP] at aY
 have kU : Below K.lo w w1 := (h.box _).trans (hb.mono (by rw [bP]; omega))
 have bK : ∀ k, own1 = some k → k < w.heap.size := by
  intro k hk
  obtain ⟨Nh, c', p', d', z', s', q1, q2, q3⟩ := g1.is
  rcases q3 with q3 | ⟨j, q3, q4⟩
  ·have e1 := q1.blk
   have e2 := (h1.is)
   have nY : w1.heap[K.cb]? = w.heap[K.cb]? := (hb.block K.cb (by rw [bP]; omega)).trans (Below.heap_alloc w _ K.cb bm.1)
   rw [nY, rH.blk] at e1
   have e3 : Nh = vv := by
    injection e1 with e1
    injection e1 with e1
    have := congrArg (fun a : Array Value => a[7]?) e1
    simpa [SK.cells] using this.symm
   rw [e3] at q3
   rw [hk] at q3
   exact (rH.var.lt k q3).2
  ·have := (q1.var.lt j q3).2; omega
 have cL : ∀ W σ r l o, SS K w1 own1 σ r l o W → ∀ k, w.heap.size ≤ k → k < w1.heap.size → W.heap[k]? = w1.heap[k]? := by
  intro W σ r l o hW k mP oT
  exact hW.keep oT (by omega) (by omega) (fun e => by have := bK k e.symm; omega)
 refine ⟨own1, g1, g4, kU, ?_, ?_, ?_⟩
 ·intro W σ r l o hW
  have e1 := cL W σ r l o hW w.heap.size lr (by omega)
  have e2 : w1.heap[w.heap.size]? = some (.cells #[.int .i64 T.kind, .int .i64 T.num, .string T.name, v] t) := (hb.block _ (by rw [bP]; omega)).trans (heap_alloc_new w _)
  rw [e2] at e1
  refine ⟨?_, ?_, ?_, ?_⟩ <;> simp [World.cell?, e1]
 ·intro h0
  obtain ⟨a, cap, e1, e2, e3, e4⟩ := ha
  rcases e4 with e | ⟨g, off, rfl, q1, q2, q3⟩
  ·exact absurd e h0
  refine ⟨g, off, cap, e1, ⟨e2, e3⟩, fun W σ r l o hW i hi => ?_⟩
  rw [bP] at q1
  rw [World.cell?_of_block (a := ⟨g, off + i, none⟩) (cL W σ r l o hW g (by omega) q2)]
  exact q3 i hi
 ·intro W σ r l o hW
  refine kU.trans (hW.below (by omega) (fun k hk => ?_))
  have := (g2 k hk).1
  have := h.ok.cu
  omega
theorem SGo.env {K : SK} {w w1 : World} {own1 : Option Nat} {b : Nat} {T : Nd} {v u : Value} {p : Nat} (h : SGo K w w1 own1 b T v u p) (hE : SEnv K w) {W : World} {σ : CR CS} {r l o : Int} (hW : SS K w1 own1 σ r l o W) : SEnv K W := hE.later (h.below W σ r l o hW)
theorem SNd.kid {K : SK} {w : World} {T : Nd} {v u : Value} (h : SNd K w T v) {i : Nat} (hi : i < T.len) (hr : Row 0 K.lo w (T.kids i) u) : SNd K w (T.kids i) u := ⟨Nd.fine_kid h.fine hi, hr, Nat.le_trans (T.cost_kid hi) h.cost⟩
theorem SAt.kid0 {K : SK} {T : Nd} {s : CS} (be : s.2.length + T.size ≤ K.N) (hN : K.N ≤ 1048576) (h : 0 < T.len) : SAt K (T.kids 0) (.ok (ao s)) (aP T s.2.length 0) := by
 have := ib T s.2.length h
 refine ⟨by omega, fun s' e => ?_⟩
 injection e with e; subst e
 rw [b5]
 exact ⟨tK T _, by omega⟩
theorem SAt.next {K : SK} {T : Nd} {σ τ : CR CS} {q i : Nat} (h : SAt K (T.kids i) σ (aP T q i)) (hi : i + 1 < T.len) (be : q + T.size ≤ K.N) (hN : K.N ≤ 1048576)
  (hτ : ∀ s', τ = .ok s' → ∃ s, σ = .ok s ∧ s'.2.length = s.2.length + (T.kids i).size) : SAt K (T.kids (i + 1)) τ (aP T q (i + 1)) := by
 have := ib T q hi
 refine ⟨by omega, fun s' e => ?_⟩
 obtain ⟨s, h1, h2⟩ := hτ s' e
 have h5 := (h.2 s h1).1
 have h6 := iC T q i
 exact ⟨by omega, by omega⟩
theorem l5 {K : SK} {T : Nd} {σ : CR CS} {t : Int} (ax : T.eOk = true) : ∀ s', fC K T t σ = .ok s' → ∃ s, σ = .ok s ∧ s'.2.length = s.2.length + T.size := by
 intro s' e
 obtain ⟨s, h1, h2⟩ := bb e
 exact ⟨s, h1, ((pK K.F T ax).want t s s' h2).2⟩
theorem Fe {K : SK} {T : Nd} {σ : CR CS} (ax : T.eOk = true) : ∀ s', oI K T σ = .ok s' → ∃ s, σ = .ok s ∧ s'.2.length = s.2.length + T.size := by
 intro s' e
 obtain ⟨s, h1, h2⟩ := bb e
 obtain ⟨r, h3, h4⟩ := bb h2
 injection h4 with h4; subst h4
 exact ⟨s, h1, ((pK K.F T ax).value s _ _ h3).2⟩
end Go.Proofs.YtkfbbdhidecefaaDoor
