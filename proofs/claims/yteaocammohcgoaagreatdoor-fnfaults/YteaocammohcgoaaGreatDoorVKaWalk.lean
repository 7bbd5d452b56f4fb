import Derived.RangeFuncNested
import Derived.RangeFuncBound
import Derived.Test.YteaocammohcgoaaGreatDoorVKaBase
import Derived.Shelf.RegionOpen
import Derived.Sort.LoopGhostIn
import Derived.OwnWalkIn
import Derived.LoopNIn
set_option linter.unusedVariables false
set_option maxHeartbeats 16000000
set_option maxRecDepth 100000
namespace Go.Proofs.YteaocammohcgoaaGreatDoor
open Go.RowKit
variable {G : Prop}
theorem bC0 (h : G := by
 rw [vZ] at pW fC ⊢
 have hJ1 : J pre w1 := hJ _ _ _ HJr.out fC
 have tf : ∀ u, pre.map key ++ (e.D.kids 0, e.d) :: gB (nj e (e.D.kids 0) u R) = T.pre 0 := fun u => by
  have := BY.out.seq
  rw [nh e R u (.slice none 0 0) HT.out, ni, if_neg h1] at this
  exact this
 have yF := aa pW
 have Yg : Hid ((gB (e :: R)).length = gk) := HK.out.symm
 have mX : Hid (∀ u, gB (e :: R) = (e.D.kids 0, e.d) :: gB (nj e (e.D.kids 0) u R)) := fun u => by
  have := nh e R u (.slice none 0 0) HT.out
  rw [ni, if_neg h1] at this
  exact this
 clear pW fC vZ
 have k_C5_1 := kk
 exact bC5) : G := h
theorem bC1 (h : G := by
 gi_region_with_o ((refine ⟨trivial, ?_⟩; gi_at_call 52; refine (callsIn_wide.2 (DZ _ _ _ _ _ _ _)).mono ?_; rintro e' w' ⟨rfl, cZ⟩))
 all_goals exact ⟨rfl, (Below.refl _ _).drew.trans (by assumption)⟩) : G := h
theorem bC2 (h : G := by
 have hx := ba.out rfl
 clear hb1 ba
 go_simp
 gi_wp2
 exact bodyPost_ret (results_none rfl _ _ _) rfl ⟨⟨_, rfl⟩, .inr ⟨_, trivial, hx⟩⟩) : G := h
theorem bC3 (h : G := by
 gi_region_with_o ((refine Qv.out.mono ?_; rintro e' W' ⟨b, rfl, hb1, ba⟩))
 all_goals exact ⟨_, rfl, by assumption, by assumption⟩) : G := h
theorem bC4 (h : G := by
 have hm : (e.D.kids 0, e.d) ∈ T.pre 0 := by rw [← Pq.out]; simp
 have := ux T 0 _ hm
 simpa using this) : G := h
theorem bC5 (h : G := by
  obtain ⟨ak, ck, hgg, k0, k1, k2, k3, Qd, EJ⟩ := Bu yF.out HV.out
  have hJ2 : J pre w1.drew := hJ _ _ _ hJ1 (Below.refl _ _).drew
  have Pq := aa (tf (.slice ak (e.D.kids 0).len ck))
  have HKR := aa Qd
  have PD := aa EJ
  obtain ⟨fn, tmps, assign, bod, hy, hR⟩ := hY pre ⟨e.D.kids 0, e.d, .slice ak (e.D.kids 0).len ck⟩ w1.drew hJ2 ⟨⟨_, Pq.out⟩, Qd, EJ⟩
  have hR2 := hR.mono (R' := fun e' W' => ∃ b : Bool, e' = .returned (.bool b) ∧ Hid (b = true → J (pre ++ [⟨e.D.kids 0, e.d, .slice ak (e.D.kids 0).len ck⟩]) W' ∧ KeptF (fun k => mine k ∨ k = B + 1) w1.drew W') ∧ Hid (b = false → Jx (pre ++ [⟨e.D.kids 0, e.d, .slice ak (e.D.kids 0).len ck⟩]) W'))
    (fun e' W' h => by
      rcases h with ⟨rfl, h, h'⟩ | ⟨rfl, h⟩
      · exact ⟨true, rfl, (fun _ => ⟨h, h'⟩), (fun h => by cases h)⟩
      · exact ⟨false, rfl, (fun h => by cases h), (fun _ => h)⟩)
  simp only [wv, Nd.val] at hy
  have zk := yF.out.l0
  have wb := yF.out.l1
  rw [HV.out] at zk
  have Qv := aa hR2
  clear Qd EJ hR hR2 tf hJ2 hJ1
  apply CE (R := fun b W' => Hid (b = true → J (pre ++ [⟨e.D.kids 0, e.d, .slice ak (e.D.kids 0).len ck⟩]) W' ∧ KeptF (fun k => mine k ∨ k = B + 1) w1.drew W') ∧ Hid (b = false → Jx (pre ++ [⟨e.D.kids 0, e.d, .slice ak (e.D.kids 0).len ck⟩]) W'))
  case h1 =>
    exact bC3
  first
  | clear k_C5_0
    case h2 =>
      rintro b W' ⟨hb1, ba⟩
      cases b with
      | false =>
        exact bC2
      | true =>
        have k_C6_0 := kk
        exact bC6
  | clear k_C5_1
    case h2 =>
      rintro b W' ⟨hb1, ba⟩
      cases b with
      | false =>
        exact bC2
      | true =>
        have k_C6_1 := kk
        exact bC6) : G := h
theorem bC6 (h : G := by
 obtain ⟨hJ', rW⟩ := hb1.out rfl
 clear hb1 ba
 have K5 := rW.size
 have ia : ∀ k, k < w1.heap.size → (k < B0 ∨ k = bk ∨ B + 2 ≤ k) → W'.heap[k]? = w1.heap[k]? := fun k hk hc => rW.same k hk (fun h => h.elim (fun h => by have := S6 k h; omega) (fun h => by omega))
 have hN := yF.out.size
 have hcg : ∀ o, W'.cell? ⟨g, o, none⟩ = w1.cell? ⟨g, o, none⟩ := fun o => World.cell?_of_block (a := ⟨g, o, none⟩) (ia g (by omega) (by omega))
 rw [← hcg] at k0 k1 k2 k3
 have sD := aa (l4 yF.out EY gE K5 ia)
 have zk := sD.out.l0
 have wb := sD.out.l1
 rw [HV.out] at zk
 have hkfn := sD.out.kf
 have HJ' := aa hJ'
 clear yF Qv hy rW ia hcg hJ'
 go_simp
 gi_wp2
 apply zR (R := fun W2 => Hid (Below W'.heap.size W' W2))
 case h1 =>
  exact bC1
 first
 |clear k_C6_0
  case h2 =>
   have k_C8_0 := kk
   exact bC8
 |clear k_C6_1
  case h2 =>
   have k_C8_1 := kk
   exact bC8) : G := h
theorem bC7 (h : G := by
 rw [nj, if_pos hK] at xy aM
 have LD := aa xy
 have FO := aa aM
 clear xy aM
 go_simp
 gi_wp2_with ((gi_at_builtin; refine wpListIn_append_own _ rfl _ _ 114 rfl (B + 3) 113 i0 (.agg #[.slice none 0 0, .int .i64 0]) 2 32 Tryz.underlying114 lq oQ eT ed rfl (by decide) _ _ _ rfl (vW.out.own.alloc _) ⟨W2.heap.size, 0, none⟩ 1 1 [.slice ak (e.D.kids 0).len ck, .int .i64 ((e.d : Int) + 1)] rfl rfl (yL _ _ _ _) (yK _ _ _ _) (by unfold maxLen; first | omega | (simp; omega)) (by first | omega | (simp; omega)) (by first | omega | (simp; omega)) ?_; intro v'' w4 Ey pa hnil''))
 first
 |clear k_C7_0
  have Bo := uN (T := T) (pre := pre ++ [⟨e.D.kids 0, e.d, .slice ak (e.D.kids 0).len ck⟩]) (d := e.d + 1) (l4 vW.out EY gE (by simp) (fun k hk _ => Below.heap_alloc W2 _ k hk)) EY gE HKR.out PD.out hK pa (fun k e => by have : gv = k := Option.some.inj e; omega) Ey (by have := LD.out; simpa [key] using this)
  have hJ4 := hJ _ _ _ QC.out (((Below.refl _ W2).alloc (by omega) _).grown pa (by simp; omega) (fun k e => by have : gv = k := Option.some.inj e; omega))
  gi_roundg (gB (⟨e.D.kids 0, e.d + 1, .slice ak (e.D.kids 0).len ck⟩ ::(⟨nf e.D, e.d, .slice (some ⟨g, off + 4, none⟩) (e.D.len - 1) (cap - 1)⟩ :: R))).length
  case measure => rw [← Yg.out, FO.out]; simp
  case rel => exact ⟨_, _, rfl, Bo, hJ4⟩
 |clear k_C7_1
  have Bo := uN (T := T) (pre := pre ++ [⟨e.D.kids 0, e.d, .slice ak (e.D.kids 0).len ck⟩]) (d := e.d + 1) (l4 vW.out EY gE (by simp) (fun k hk _ => Below.heap_alloc W2 _ k hk)) EY gE HKR.out PD.out hK pa (fun k e => by have : gs = k := Option.some.inj e; omega) Ey (by have := LD.out; simpa [key] using this)
  have hJ4 := hJ _ _ _ QC.out (((Below.refl _ W2).alloc (by omega) _).grown pa (by simp; omega) (fun k e => by have : gs = k := Option.some.inj e; omega))
  gi_roundg (gB (⟨e.D.kids 0, e.d + 1, .slice ak (e.D.kids 0).len ck⟩ :: R)).length
  case measure => rw [← Yg.out, FO.out]; simp
  case rel => exact ⟨_, _, rfl, Bo, hJ4⟩) : G := h
theorem bC8 (h : G := by
 intro W2 cZ
 have cZ := cZ.out
 have Bp := cZ.size
 have hN2 := sD.out.size
 have vW := aa (l4 sD.out EY gE Bp (fun k hk _ => cZ.block k hk))
 have QC := aa (hJ _ _ _ HJ'.out (cZ.mono (by omega)))
 have wb := vW.out.l1
 have Qe : e.d < T.size := by
  exact bC4
 have xy := Pq.out
 have aM := mX.out (.slice ak (e.D.kids 0).len ck)
 clear sD HJ' cZ k0 k1 k2 k3 zk hkfn
 by_cases hK : 0 < (e.D.kids 0).len
 first
 |clear k_C8_0
  ·have k_C7_0 := kk
   exact bC7
  ·have k_C9_0 := kk
   exact bC9
 |clear k_C8_1
  ·have k_C7_1 := kk
   exact bC7
  ·have k_C9_1 := kk
   exact bC9) : G := h
theorem bC9 (h : G := by
 rw [nj, if_neg hK] at xy aM
 have LD := aa xy
 have FO := aa aM
 clear xy aM
 go_simp
 gi_wp2
 have Bo := Ed (T := T) (pre := pre ++ [⟨e.D.kids 0, e.d, .slice ak (e.D.kids 0).len ck⟩]) vW.out (by have := LD.out; simpa [key] using this)
 first
 |clear k_C9_0
  gi_roundg (gB (⟨nf e.D, e.d, .slice (some ⟨g, off + 4, none⟩) (e.D.len - 1) (cap - 1)⟩ :: R)).length
  case measure => rw [← Yg.out, FO.out]; simp
  case rel => exact ⟨_, _, rfl, Bo, QC.out⟩
 |clear k_C9_1
  gi_roundg (gB R).length
  case measure => rw [← Yg.out, FO.out]; simp
  case rel => exact ⟨_, _, rfl, Bo, QC.out⟩) : G := h
section
structure KeptF (mine : Nat → Prop) (A C : World) : Prop where
 size : A.heap.size ≤ C.heap.size
 same : ∀ k, k < A.heap.size → ¬ mine k → C.heap[k]? = A.heap[k]?
theorem KeptF.trans {m : Nat → Prop} {A B C : World} (h : KeptF m A B) (g : KeptF m B C) : KeptF m A C :=
 ⟨Nat.le_trans h.size g.size, fun k hk hm => (g.same k (Nat.lt_of_lt_of_le hk h.size) hm).trans (h.same k hk hm)⟩
theorem KeptF.refl (m : Nat → Prop) (A : World) : KeptF m A A := ⟨Nat.le_refl _, fun _ _ _ => rfl⟩
def Rt {α : Type} (mine : Nat → Prop) (I : List α → World → Prop) (Ix : Code → List α → World → Prop) (xs : List α) (W3 : World) : Exit → Act → World → Prop
 |.normal, _, W' => KeepsOthers W3 W' ∧ KeptF mine W3 W' ∧ I xs W'
 |.ret, _, W' => KeepsOthers W3 W' ∧ Ix .ret xs W'
 |.exit id, _, W' => KeepsOthers W3 W' ∧ Ix (.exit id) xs W'
 |.goto t, _, W' => KeepsOthers W3 W' ∧ Ix (.goto t) xs W'
 |.panic _, _, _ => False
 |.outgrown, _, _ => False
def jA {β : Type} (B : Nat) (I : β → World → Prop) : Prop := ∀ s A C, I s A → Below B A C → I s C
variable {F : Fence} {n : Nat} {P : Program}
theorem dX {α : Type} {g : Operand} {ps : Array Tmp} {assign body : Code} {Q : Exit → Act → World → Prop} {a : Act} {w : World}
    (hro : F.round = none) (h1 : 1 ≤ n) {gf : Nat} {lb : Array Value} (hg : a.eval g = .func (.func gf) #[] lb) (hFg : F.fn gf) (eg : ∀ args w, (callFunc gf args).run P w = .ok (.enter gf args) w)
    {encs : α → Array Value} {S Sp : List α → Prop} {Came : List α → α → Prop} {mine : Nat → Prop}
    (tf : ∀ (l : Nat) (J Jx : List α → World → Prop) (W : World), W.heap.size = w.heap.size + 2 → Below w.heap.size w W →
      jA (w.heap.size + 2) J → jA (w.heap.size + 2) Jx → (∀ pre A, J pre A → w.heap.size + 2 ≤ A.heap.size) →
      (∀ pre x W1, J pre W1 → Came pre x → YieldAt F (n - 1 - 1) P l (encs x) W1 fun e W' =>
        (e = .returned (.bool true) ∧ J (pre ++ [x]) W' ∧ KeptF (fun k => mine k ∨ k = w.heap.size + 1) W1 W') ∨ (e = .returned (.bool false) ∧ Jx (pre ++ [x]) W')) →
      J [] W → CallsIn F (n - 1) P gf (#[.func (.yield l) #[] #[]] ++ lb) W fun e W' => (∃ v, e = .returned v) ∧ ((∃ xs, S xs ∧ J xs W') ∨ (∃ pre, Sp pre ∧ Jx pre W')))
    (hps : ∀ x, (encs x).size = ps.size)
    (I : List α → World → Prop) (Ix : Code → List α → World → Prop) (hI : jA w.heap.size I) (Uf : ∀ c, jA w.heap.size (Ix c)) (h0 : I [] w) (a₁ : α → World → Act) (box : α → World → World) (xL : ∀ x W, Below W.heap.size W (box x W))
    (IW : ∀ (l : Nat) (pre : List α) (x : α) (W : World) (K : Act → World → Prop), Came pre x → K (a₁ x W) (box x W) →
      assign.wpIn (F.inRound l) (n - 1 - 1) P (Exit.then K (fun _ _ _ => False)) { tmps := (ps.zip (encs x)).foldl (fun t (p, v) => t.setIfInBounds p v) a.tmps, defers := [] } W)
    (TP : ∀ (l : Nat) (pre : List α) (x : α) (W1 W3 : World) (r : Loop), I pre W1 → w.heap.size + 2 ≤ W1.heap.size → Came pre x → W3 = (box x W1).putObj (w.heap.size + 1) (.loop r) → I pre W3 →
      body.wpIn (F.inRound l) (n - 1 - 1) P (Rt mine I Ix (pre ++ [x]) W3) (a₁ x W1) W3)
    (TF : ∀ (D : Nat) (xs : List α) (W : World), w.heap.size ≤ D → S xs → I xs W → W.heap[D]? = some (.deferred (some [])) → Q .normal { a with defers := { target := .collected D, args := #[] } :: a.defers } W)
    (y4 : ∀ (D : Nat) (c : Code) (pre : List α) (W : World), w.heap.size ≤ D → Sp pre → Ix c pre W → W.heap[D]? = some (.deferred (some [])) → c.wpIn F n P Q { a with defers := { target := .collected D, args := #[] } :: a.defers } W) :
    (Code.rangeFunc g ps assign body).wpIn F n P Q a w := by
  refine wpIn_rangeFunc ?_
  intro fn Nw
  rw [hro]
  obtain ⟨rec, cg⟩ : ∃ rec : LoopState → Option Code → Loop, rec = fun st pe => { state := st, pending := pe, fn, tmps := a.tmps, params := ps, assign, body, defers := w.heap.size } := ⟨_, rfl⟩
  obtain ⟨W1, vg⟩ : ∃ W1, (w.alloc (.deferred (some []))).alloc (.loop (rec .ready none)) = W1 := ⟨_, rfl⟩
  have Bx : W1.heap[w.heap.size + 1]? = some (.loop (rec .ready none)) := by
    rw [← vg]; have := World.alloc_heap_new (w.alloc (.deferred (some []))) (.loop (rec .ready none)); rwa [World.size_alloc] at this
  have hK1 : W1.heap[w.heap.size]? = some (.deferred (some [])) := by
    rw [← vg]; exact (Below.heap_alloc _ _ _ (by simp)).trans (World.alloc_heap_new w _)
  have wh : Below w.heap.size w W1 := by rw [← vg]; exact ((Below.refl _ w).alloc lr _).alloc (by simp) _
  have hI1 : I [] W1 := hI _ _ _ h0 wh
  have pT : W1.heap.size = w.heap.size + 2 := by rw [← vg]; simp
  refine ⟨w.heap.size + 1, [{ target := .collected w.heap.size, args := #[] }], W1, { target := .fn (.func gf) lb, args := #[.func (.yield (w.heap.size + 1)) #[] #[]] }, W1, gf,
    #[.func (.yield (w.heap.size + 1)) #[] #[]] ++ lb, W1, ?_, ?_, ?_, ?_, fun _ => h1, ?_⟩
  · rw [← vg, cg]; exact run_enterLoop_outer _ _ _ _ _
  · simp only [resolve, hg]
    simp [go_sem]
  · intro f' hf'; simp [Target.leads] at hf'; subst hf'; exact hFg
  · simp [invoke, go_sem, eg]
  · have wZ : ∀ {β : Type} {I : β → World → Prop} {s : β} {A : World} (o : Obj), jA w.heap.size I → I s A → I s (A.putObj (w.heap.size + 1) o) := fun o hU hi =>
      hU _ _ _ hi ⟨rfl, rfl, rfl, by simp, fun k hk => World.putObj_heap_other (by omega)⟩
    refine (tf (w.heap.size + 1)
      (fun pre W => I pre W ∧ W.heap[w.heap.size + 1]? = some (.loop (rec .ready none)) ∧ W.heap[w.heap.size]? = some (.deferred (some [])))
      (fun pre W => ∃ c, Ix c pre W ∧ W.heap[w.heap.size + 1]? = some (.loop (rec .done (some c))) ∧ W.heap[w.heap.size]? = some (.deferred (some [])))
      W1 pT wh
      (fun s A C hs hb => ⟨hI s A C hs.1 (hb.mono (by omega)), (hb.block _ (by omega)).trans hs.2.1, (hb.block _ (by omega)).trans hs.2.2⟩)
      (fun s A C hs hb => by
        obtain ⟨c, hc, hl, hk⟩ := hs
        exact ⟨c, Uf c s A C hc (hb.mono (by omega)), (hb.block _ (by omega)).trans hl, (hb.block _ (by omega)).trans hk⟩)
      (fun pre A hs => by have := (Array.getElem?_eq_some_iff.1 hs.2.1).1; omega)
      ?_ ⟨hI1, Bx, hK1⟩).mono ?_
    ·
      rintro pre x W ⟨hi, hl, hk⟩ gQ
      have b8 : w.heap.size + 2 ≤ W.heap.size := by have := (Array.getElem?_eq_some_iff.1 hl).1; omega
      have hy := run_yield (P := P) (args := encs x) hl (by rw [cg]; exact hps x)
      rw [cg] at hy
      have fP := xL x W
      have Bp := fP.size
      have Ta : (box x W).heap[w.heap.size + 1]? = some (.loop (rec .ready none)) := (fP.block _ (by omega)).trans hl
      have IF : (box x W).heap[w.heap.size]? = some (.deferred (some [])) := (fP.block _ (by omega)).trans hk
      refine ⟨fn, _, assign, body, hy, roundIn_of_wpIn Nw (IW _ pre x W _ gQ ⟨_, run_beginRound Ta (by rw [cg]), ?_⟩)⟩
      obtain ⟨W3, qa⟩ : ∃ W3, (box x W).putObj (w.heap.size + 1) (.loop { rec .ready none with state := .busy }) = W3 := ⟨_, rfl⟩
      have Te : W3.heap[w.heap.size + 1]? = some (.loop { rec .ready none with state := .busy }) := by rw [← qa]; exact World.putObj_heap_same (by omega)
      have jL : W3.heap[w.heap.size]? = some (.deferred (some [])) := by rw [← qa]; exact (World.putObj_heap_other (by omega)).trans IF
      have jF : I pre W3 := by rw [← qa]; exact wZ _ hI (hI _ _ _ hi (fP.mono (by omega)))
      have bY : (box x W).heap.size ≤ W3.heap.size := by rw [← qa]; simp
      have Q7 : KeptF (fun k => mine k ∨ k = w.heap.size + 1) W W3 := ⟨by omega, fun k bN hm => by
        have dE : k ≠ w.heap.size + 1 := fun e => hm (.inr e)
        rw [← qa]
        exact (World.putObj_heap_other dE).trans (fP.block _ bN)⟩
      rw [qa]
      refine wpIn_mono (TP _ pre x W W3 _ hi b8 gQ qa.symm jF) ?_
      have fin : ∀ (jump : Option Code) (W4 : World), KeepsOthers W3 W4 →
          (Instr.endRound (w.heap.size + 1) jump).run P W4 = .ok (.bool jump.isNone) (W4.putObj (w.heap.size + 1) (.loop (rec (if jump.isNone then .ready else .done) jump))) ∧
          (W4.putObj (w.heap.size + 1) (.loop (rec (if jump.isNone then .ready else .done) jump))).heap[w.heap.size + 1]? = some (.loop (rec (if jump.isNone then .ready else .done) jump)) ∧
          (W4.putObj (w.heap.size + 1) (.loop (rec (if jump.isNone then .ready else .done) jump))).heap[w.heap.size]? = some (.deferred (some [])) := fun jump W4 qL => by
        have hl3 := qL.same _ _ Te rfl
        have := run_endRound (P := P) jump hl3
        rw [cg] at this ⊢
        exact ⟨this, World.putObj_heap_same (Array.getElem?_eq_some_iff.1 hl3).1, (World.putObj_heap_other (by omega)).trans (qL.same _ _ jL rfl)⟩
      rintro e a3 W4 hp
      cases e with
      | normal =>
        obtain ⟨qL, KT, qM⟩ := hp
        obtain ⟨hr, Bm, Nq⟩ := fin none W4 qL
        refine ⟨_, _, hr, .inl ⟨rfl, ⟨wZ _ hI qM, Bm, Nq⟩, Q7.trans ⟨?_, fun k bN hm => ?_⟩⟩⟩
        · have := KT.size; simp; omega
        · exact (World.putObj_heap_other (fun e => hm (.inr e))).trans (KT.same k bN (fun h => hm (.inl h)))
      | ret =>
        obtain ⟨qL, qM⟩ := hp
        obtain ⟨hr, Bm, Nq⟩ := fin (some .ret) W4 qL
        exact ⟨_, _, hr, .inr ⟨rfl, .ret, wZ _ (Uf _) qM, Bm, Nq⟩⟩
      | exit id =>
        obtain ⟨qL, qM⟩ := hp
        obtain ⟨hr, Bm, Nq⟩ := fin (some (.exit id)) W4 qL
        exact ⟨_, _, hr, .inr ⟨rfl, .exit id, wZ _ (Uf _) qM, Bm, Nq⟩⟩
      | goto t =>
        obtain ⟨qL, qM⟩ := hp
        obtain ⟨hr, Bm, Nq⟩ := fin (some (.goto t)) W4 qL
        exact ⟨_, _, hr, .inr ⟨rfl, .goto t, wZ _ (Uf _) qM, Bm, Nq⟩⟩
      | panic ch => exact hp.elim
      | outgrown => exact hp.elim
    ·
      rintro e W2 ⟨⟨v, rfl⟩, (⟨xs, hS, hi, hl, hk⟩ | ⟨pre, hSp, c, hi, hl, hk⟩)⟩
      · exact ⟨none, _, by have := run_endLoop (P := P) hl (by rw [cg]; simp); rw [cg] at this; exact this, TF _ xs _ lr hS (wZ _ hI hi) ((World.putObj_heap_other (by omega)).trans hk)⟩
      · exact ⟨some c, _, by have := run_endLoop (P := P) hl (by rw [cg]; simp); rw [cg] at this; exact this, y4 _ c pre _ lr hSp (wZ _ (Uf c) hi) ((World.putObj_heap_other (by omega)).trans hk)⟩
end
section
open Go.RowKit Go.Shelf
attribute [local go_sem] Oper.semAt_some
def uC (R : Act → World → Prop) : Exit → Act → World → Prop
 |.normal, a, w => R a w
 |_, _, _ => False
theorem CE {F : Fence} {n : Nat} {P : Program} {c : Code} {Q : Exit → Act → World → Prop} {a : Act} {w : World} (A : Bool → Act) (R : Bool → World → Prop)
  (h1 : c.wpIn F n P (uC fun a' W' => ∃ b, a' = A b ∧ R b W') a w) (h2 : ∀ b W', R b W' → Q .normal (A b) W') : c.wpIn F n P Q a w :=
 wpIn_mono h1 fun ex a' W' h => by
  cases ex <;> first | exact h.elim | (obtain ⟨b, rfl, hr⟩ := h; exact h2 b W' hr)
theorem zR {F : Fence} {n : Nat} {P : Program} {c : Code} {Q : Exit → Act → World → Prop} {a : Act} {w : World} (A : Act) (R : World → Prop)
  (h1 : c.wpIn F n P (uC fun a' W' => a' = A ∧ R W') a w) (h2 : ∀ W', R W' → Q .normal A W') : c.wpIn F n P Q a w :=
 wpIn_mono h1 fun ex a' W' h => by
  cases ex <;> first | exact h.elim | (obtain ⟨rfl, hr⟩ := h; exact h2 W' hr)
def wv (x : hH) : Array Value := #[x.D.val x.v, .int .i64 (x.d : Int)]
def key (x : hH) : Nd × Nat := (x.D, x.d)
def zJ (T : Nd) (B0 : Nat) (W0 : World) (pre : List hH) (x : hH) : Prop := (∃ rest, pre.map key ++ key x :: rest = T.pre 0) ∧ Row 0 B0 W0 x.D x.v ∧ x.D.Fine
def BT (T : Nd) (xs : List hH) : Prop := xs.map key = T.pre 0
def sE (B0 r0 : Nat) (W0 wr : World) (e : hH) : Prop :=
 ∃ g off cap, e.v = .slice (some ⟨g, off, none⟩) e.D.len cap ∧ 0 < e.D.len ∧ e.D.len ≤ cap ∧ cap ≤ 9223372036854775807 ∧ (g < B0 ∨ g = r0) ∧ ∀ i, i < e.D.len →
  ∃ u, wr.cell? ⟨g, off + i * 4, none⟩ = some (.int .i64 (e.D.kids i).kind) ∧ wr.cell? ⟨g, off + i * 4 + 1, none⟩ = some (.int .i64 (e.D.kids i).num) ∧
   wr.cell? ⟨g, off + i * 4 + 2, none⟩ = some (.string (e.D.kids i).name) ∧ wr.cell? ⟨g, off + i * 4 + 3, none⟩ = some u ∧ Row 0 B0 W0 (e.D.kids i) u ∧ (e.D.kids i).Fine
structure vI (T : Nd) (B0 B bk : Nat) (W0 : World) (pre S : List hH) (v : Value) (wr : World) : Prop where
 seq : pre.map key ++ gB S = T.pre 0
 own : wr.ownsRow (B + 3) 113 2 v S.length (lx S)
 ents : ∀ e ∈ S, sE B0 (B + 2) W0 wr e
 base : ∀ k, k < B0 → wr.heap[k]? = W0.heap[k]?
 kf : wr.cell? ⟨bk, 0, none⟩ = some (.func (.func 52) #[] #[])
 size : B + 3 ≤ wr.heap.size
theorem zS {T : Nd} {B0 B bk : Nat} {W0 : World} {pre S : List hH} {v : Value} {wr : World} (h : vI T B0 B bk W0 pre S v wr) : S.length ≤ T.size := by
 have h1 := Mg S fun e he => by obtain ⟨_, _, _, _, h, _⟩ := h.ents e he; exact h
 have h2 := congrArg List.length h.seq
 rw [o7, List.length_append] at h2
 omega
theorem Mh {w : World} {base : Nat} {e : TypeId} {size : Nat} {v : Value} {n : Nat} {xs : List Value} (h : w.ownsRow base e size v n xs) : ∃ a c, v = .slice a n c := by
 rcases h.2 with ⟨rfl, rfl⟩ | ⟨g, cap, cur, rfl, _⟩
 ·exact ⟨none, 0, rfl⟩
 ·exact ⟨_, cap, rfl⟩
theorem DC {w : World} {B : Nat} {e : TypeId} {size n : Nat} {v : Value} {xs : List Value} (h : w.ownsRow B e size v (n + 1) xs) : ∃ g cap, v = .slice (some ⟨g, 0, none⟩) (n + 1) cap ∧ n + 1 ≤ cap ∧ cap ≤ 9223372036854775807 ∧ B ≤ g ∧ g < w.heap.size := by
 rcases h.2 with ⟨_, h⟩ | ⟨g, cap, _, hv, hb, hh, hc, hm, _⟩
 ·omega
 ·unfold maxLen at hm; exact ⟨g, cap, hv, hc, hm, hb, (Array.getElem?_eq_some_iff.1 hh).1⟩
theorem zV {w : World} {B g cap : Nat} {e : hH} {R : List hH} (h : w.ownsRow B 113 2 (.slice (some ⟨g, 0, none⟩) (R.length + 1) cap) (R.length + 1) (lx (e :: R))) :
  w.cell? ⟨g, R.length * 2, none⟩ = some e.v ∧ w.cell? ⟨g, R.length * 2 + 1, none⟩ = some (.int .i64 (e.d : Int)) := by
 have hl := so R
 refine ⟨?_, ?_⟩
 ·rw [h.cellAt _ (by omega), hG, List.getElem?_append_right (by omega)]; simp [hl]
 ·rw [h.cellAt _ (by omega), hG, List.getElem?_append_right (by omega)]; simp [hl]
theorem yR {w : World} {B g cap : Nat} {e : hH} {R : List hH} (h : w.ownsRow B 113 2 (.slice (some ⟨g, 0, none⟩) (R.length + 1) cap) (R.length + 1) (lx (e :: R))) :
  w.ownsRow B 113 2 (.slice (some ⟨g, 0, none⟩) R.length cap) R.length (lx R) := by
 have hl := so R
 rcases h.2 with ⟨h', _⟩ | ⟨g', mQ, cur, h', hb, hh, hc, hm, hs, ht⟩
 ·simp at h'
 ·simp only [Value.slice.injEq, Option.some.injEq, Addr.mk.injEq, and_true, true_and] at h'
  obtain ⟨rfl, rfl⟩ := h'
  refine ⟨hl, .inr ⟨g, cap, cur, rfl, hb, hh, by omega, hm, hs, ?_⟩⟩
  have : cur.toList.take (R.length * 2) = (cur.toList.take ((R.length + 1) * 2)).take (R.length * 2) := by rw [List.take_take, Nat.min_eq_left (by omega)]
  rw [this, ht, hG, List.take_append_of_le_length (by omega), List.take_of_length_le (by omega)]
theorem yL (w : World) (a b : Value) (t : TypeId) : ∀ j u, [a, b][j]? = some u → (w.alloc (.cells #[a, b] t)).cell? ((⟨w.heap.size, 0, none⟩ : Addr).add j) = some u := by
 intro j u hj
 match j, hj with
 |0, hj => simp at hj; subst hj; simp [Addr.add]
 |1, hj => simp at hj; subst hj; simp [Addr.add]
 |j + 2, hj => simp at hj
theorem yK (a : Option Addr) (l c : Nat) (d : Int) : ∀ u ∈ [Value.slice a l c, .int .i64 d], u.oneCell' = true := by
 intro u hu
 simp at hu
 rcases hu with rfl | rfl <;> rfl
theorem A8 : (Tryz.prog.info? 113).map (fun i => (i.zero, i.size, i.bytes)) = some (some (.agg #[.slice none 0 0, .int .i64 0]), 2, 32) := by kernel_rfl
theorem wu (T : Nd) (B0 B bk : Nat) (W0 W : World) (au : Option Addr) (cu : Nat) (J : List hH → World → Prop) (hT : T.Fine) (EV : W.heap.size = B + 2) (EY : B0 ≤ B) (gE : bk < B)
  (ja : ∀ k, k < B0 → W.heap[k]? = W0.heap[k]?) (dJ : Row 0 B0 W0 T (.slice au T.len cu)) (hJ : jA (B + 2) J) (h0 : J [] W) (EJ : W.cell? ⟨bk, 0, none⟩ = some (.func (.func 52) #[] #[])) :
  vI T B0 B bk W0 [] [⟨H7 T, 0, .slice (some ⟨B + 2, 0, none⟩) 1 1⟩] (.slice (some ⟨B + 2 + 1, 0, none⟩) 1 1)
   ((W.alloc (nO T (.slice au T.len cu))).alloc (.cells #[.slice (some ⟨B + 2, 0, none⟩) 1 1, .int .i64 0] 113)) ∧
   J [] ((W.alloc (nO T (.slice au T.len cu))).alloc (.cells #[.slice (some ⟨B + 2, 0, none⟩) 1 1, .int .i64 0] 113)) := by
 obtain ⟨V, hV⟩ : ∃ V, W.alloc (nO T (.slice au T.len cu)) = V := ⟨_, rfl⟩
 have hb1 : Below W.heap.size W V := by rw [← hV]; exact bA
 have hVs : V.heap.size = B + 3 := by rw [← hV]; simp; omega
 have ba : Below V.heap.size V (V.alloc (.cells #[.slice (some ⟨B + 2, 0, none⟩) 1 1, .int .i64 0] 113)) := bA
 have hb := hb1.trans (ba.mono hb1.size)
 have bM : V.heap[B + 2]? = some (nO T (.slice au T.len cu)) := by rw [← hV, ← EV]; exact World.alloc_heap_new W _
 rw [hV]
 refine ⟨⟨?_, ?_, ?_, ?_, ?_, ?_⟩, hJ _ _ _ h0 (hb.mono (by omega))⟩
 ·simp [gB, uy]
 ·have := World.ownsRow_lit (base := B + 3) (e := 113) (size := 2) V #[.slice (some ⟨B + 2, 0, none⟩) 1 1, .int .i64 0] 1 (by omega) (by unfold maxLen; omega) rfl
  rw [hVs] at this
  exact this
 ·intro e he
  obtain rfl := List.mem_singleton.1 he
  refine ⟨B + 2, 0, 1, rfl, by show 0 < 1; omega, by show 1 ≤ 1; omega, by omega, .inr rfl, fun i hi => ?_⟩
  obtain rfl : i = 0 := by have : i < 1 := hi; omega
  have hc : ∀ o, (V.alloc (.cells #[.slice (some ⟨B + 2, 0, none⟩) 1 1, .int .i64 0] 113)).cell? ⟨B + 2, o, none⟩ = (#[.int .i64 T.kind, .int .i64 T.num, .string T.name, .slice au T.len cu] : Array Value)[o]? := fun o => by
   rw [ba.cell (p := ⟨B + 2, o, none⟩) (by show B + 2 < _; omega)]
   exact cell_of_row _ _ _ _ _ (0, 0) bM
  exact ⟨_, hc 0, hc 1, hc 2, hc 3, dJ, hT⟩
 ·intro k hk
  rw [hb.block k (by omega)]; exact ja k hk
 ·rw [hb.cell (p := ⟨bk, 0, none⟩) (by show bk < _; omega)]; exact EJ
 ·have := ba.size; omega
theorem fX {B0 r0 : Nat} {W0 w w' : World} {e : hH} (h : sE B0 r0 W0 w e) (hk : ∀ k, (k < B0 ∨ k = r0) → w'.heap[k]? = w.heap[k]?) : sE B0 r0 W0 w' e := by
 obtain ⟨g, off, cap, hv, h0, h1, h2, hg, hc⟩ := h
 refine ⟨g, off, cap, hv, h0, h1, h2, hg, fun i hi => ?_⟩
 obtain ⟨u, e0, e1, e2, e3, r⟩ := hc i hi
 have hb : ∀ o, w'.cell? ⟨g, o, none⟩ = w.cell? ⟨g, o, none⟩ := fun o => World.cell?_of_block (a := ⟨g, o, none⟩) (hk g hg)
 exact ⟨u, by rw [hb]; exact e0, by rw [hb]; exact e1, by rw [hb]; exact e2, by rw [hb]; exact e3, r⟩
theorem DB {w w' : World} {base : Nat} {t : TypeId} {size n : Nat} {v : Value} {xs : List Value} (h : w.ownsRow base t size v n xs) (hk : ∀ k, base ≤ k → k < w.heap.size → w'.heap[k]? = w.heap[k]?) : w'.ownsRow base t size v n xs := by
 obtain ⟨h1, h2⟩ := h
 refine ⟨h1, ?_⟩
 rcases h2 with h2 | ⟨g, cap, cur, hv, hg, hh, r⟩
 ·exact .inl h2
 ·exact .inr ⟨g, cap, cur, hv, hg, by rw [hk g hg (Array.getElem?_eq_some_iff.1 hh).1]; exact hh, r⟩
structure yt (B0 B bk : Nat) (W0 : World) (S : List hH) (v : Value) (N : Nat) (e : hH) (w : World) : Prop where
 own : w.ownsRow (B + 3) 113 2 v S.length (lx S)
 ents : ∀ x ∈ S, sE B0 (B + 2) W0 w x
 self : sE B0 (B + 2) W0 w e
 base : ∀ k, k < B0 → w.heap[k]? = W0.heap[k]?
 kf : w.cell? ⟨bk, 0, none⟩ = some (.func (.func 52) #[] #[])
 size : B + 3 ≤ N ∧ N < w.heap.size
 l0 : w.cell? ⟨N, 0, none⟩ = some e.v
 l1 : w.cell? ⟨N, 1, none⟩ = some (.int .i64 (e.d : Int))
theorem l4 {B0 B bk : Nat} {W0 : World} {S : List hH} {v : Value} {N : Nat} {e : hH} {w w' : World} (h : yt B0 B bk W0 S v N e w) (hB : B0 ≤ B) (gE : bk < B) (hz : w.heap.size ≤ w'.heap.size)
  (hk : ∀ k, k < w.heap.size → (k < B0 ∨ k = bk ∨ B + 2 ≤ k) → w'.heap[k]? = w.heap[k]?) : yt B0 B bk W0 S v N e w' := by
 have hs := h.size
 have he : ∀ k, (k < B0 ∨ k = B + 2) → w'.heap[k]? = w.heap[k]? := fun k nZ => hk k (by omega) (by omega)
 exact ⟨DB h.own fun k h1 h2 => hk k h2 (by omega), fun x hx => fX (h.ents x hx) he, fX h.self he, fun k nZ => (he k (.inl nZ)).trans (h.base k nZ),
  (World.cell?_of_block (a := ⟨bk, 0, none⟩) (hk bk (by omega) (.inr (.inl rfl)))).trans h.kf, ⟨hs.1, by omega⟩,
  (World.cell?_of_block (a := ⟨N, 0, none⟩) (hk N hs.2 (by omega))).trans h.l0, (World.cell?_of_block (a := ⟨N, 1, none⟩) (hk N hs.2 (by omega))).trans h.l1⟩
theorem Bt {T : Nd} {B0 B bk : Nat} {W0 : World} {pre R : List hH} {e : hH} {gs cs g off cap : Nat} {wr w1 : World} {v' : Value} (h : vI T B0 B bk W0 pre (e :: R) (.slice (some ⟨gs, 0, none⟩) (R.length + 1) cs) wr) (hB : B0 ≤ B) (gE : bk < B)
  (hgs : B + 3 ≤ gs) (To : gs < wr.heap.size) (hv : e.v = .slice (some ⟨g, off, none⟩) e.D.len cap) (h1 : 1 < e.D.len)
  (aX : ((wr.alloc (.cells #[.slice (some ⟨g, off, none⟩) e.D.len cap, .int .i64 (e.d : Int)] 113)).alloc (.cells #[.slice (some ⟨g, off + 4, none⟩) (e.D.len - 1) (cap - 1), .int .i64 (e.d : Int)] 113)).grownBy w1 (some gs))
  (cY : w1.ownsRow (B + 3) 113 2 v' (R.length + 1) (lx R ++ [.slice (some ⟨g, off + 4, none⟩) (e.D.len - 1) (cap - 1), .int .i64 (e.d : Int)])) :
  yt B0 B bk W0 (⟨nf e.D, e.d, .slice (some ⟨g, off + 4, none⟩) (e.D.len - 1) (cap - 1)⟩ :: R) v' wr.heap.size e w1 ∧ Below (B + 2) wr w1 := by
 have hs := h.size
 have b8 := aX.size
 simp only [World.size_alloc] at b8
 have hk : ∀ k, k < wr.heap.size → k ≠ gs → w1.heap[k]? = wr.heap[k]? := fun k hk dE => by
  rw [aX.block k (by simp; omega) (fun e => dE (Option.some.inj e)), Below.heap_alloc _ _ _ (by simp; omega), Below.heap_alloc _ _ _ hk]
 have hN : w1.heap[wr.heap.size]? = some (.cells #[.slice (some ⟨g, off, none⟩) e.D.len cap, .int .i64 (e.d : Int)] 113) := by
  rw [aX.block _ (by simp; omega) (fun e => by have := Option.some.inj e; omega), Below.heap_alloc _ _ _ (by simp)]
  exact World.alloc_heap_new wr _
 have he : ∀ k, (k < B0 ∨ k = B + 2) → w1.heap[k]? = wr.heap[k]? := fun k nZ => hk k (by omega) (by omega)
 have KR := fX (h.ents e (List.mem_cons_self ..)) he
 refine ⟨⟨by rw [hG]; exact cY, fun x hx => ?_, KR, fun k nZ => (he k (.inl nZ)).trans (h.base k nZ), (World.cell?_of_block (a := ⟨bk, 0, none⟩) (hk bk (by omega) (by omega))).trans h.kf, ⟨by omega, by omega⟩, ?_, ?_⟩, ?_⟩
 ·rcases List.mem_cons.1 hx with rfl | hx
  ·obtain ⟨g', Ru, mQ, mh, h0, IB, jw, hg, hc⟩ := KR
   rw [hv] at mh
   simp only [Value.slice.injEq, Option.some.injEq, Addr.mk.injEq, and_true, true_and] at mh
   obtain ⟨⟨rfl, rfl⟩, rfl⟩ := mh
   refine ⟨g, off + 4, cap - 1, rfl, by show 0 < e.D.len - 1; omega, by show e.D.len - 1 ≤ cap - 1; omega, by omega, hg, fun i hi => ?_⟩
   have fO : i < e.D.len - 1 := hi
   obtain ⟨u, e0, e1, e2, e3, r⟩ := hc (i + 1) (by omega)
   have ea : off + 4 + i * 4 = off + (i + 1) * 4 := by omega
   rw [ea]
   exact ⟨u, e0, e1, e2, e3, r⟩
  ·exact fX (h.ents x (List.mem_cons_of_mem _ hx)) he
 ·rw [cell_of_row _ _ _ _ _ (0, 0) hN, hv]; rfl
 ·rw [cell_of_row _ _ _ _ _ (0, 0) hN]; rfl
 ·exact (((Below.refl _ wr).alloc (by omega) _).alloc (by simp; omega) _).grown aX (by simp; omega) (fun k e => by have := Option.some.inj e; omega)
theorem r8 {T : Nd} {B0 B bk : Nat} {W0 : World} {pre R : List hH} {e : hH} {gs cs g off cap : Nat} {wr : World} (h : vI T B0 B bk W0 pre (e :: R) (.slice (some ⟨gs, 0, none⟩) (R.length + 1) cs) wr) (hB : B0 ≤ B) (gE : bk < B)
  (hv : e.v = .slice (some ⟨g, off, none⟩) e.D.len cap) :
  yt B0 B bk W0 R (.slice (some ⟨gs, 0, none⟩) R.length cs) wr.heap.size e (wr.alloc (.cells #[.slice (some ⟨g, off, none⟩) e.D.len cap, .int .i64 (e.d : Int)] 113)) ∧
   Below (B + 2) wr (wr.alloc (.cells #[.slice (some ⟨g, off, none⟩) e.D.len cap, .int .i64 (e.d : Int)] 113)) := by
 have hs := h.size
 have hk : ∀ k, k < wr.heap.size → (wr.alloc (.cells #[.slice (some ⟨g, off, none⟩) e.D.len cap, .int .i64 (e.d : Int)] 113)).heap[k]? = wr.heap[k]? := fun k hk => Below.heap_alloc _ _ _ hk
 have hN := World.alloc_heap_new wr (.cells #[.slice (some ⟨g, off, none⟩) e.D.len cap, .int .i64 (e.d : Int)] 113)
 refine ⟨⟨(yR h.own).alloc _, fun x hx => fX (h.ents x (List.mem_cons_of_mem _ hx)) (fun k nZ => hk k (by omega)), fX (h.ents e (List.mem_cons_self ..)) (fun k nZ => hk k (by omega)), fun k nZ => (hk k (by omega)).trans (h.base k nZ),
  (World.cell?_of_block (a := ⟨bk, 0, none⟩) (hk bk (by omega))).trans h.kf, ⟨hs, by simp⟩, ?_, ?_⟩, (Below.refl _ wr).alloc (by omega) _⟩
 ·rw [cell_of_row _ _ _ _ _ (0, 0) hN, hv]; rfl
 ·rw [cell_of_row _ _ _ _ _ (0, 0) hN]; rfl
theorem yd {B0 r0 : Nat} {W0 w : World} {K : Nd} {d : Nat} {u : Value} (hr : Row 0 B0 W0 K u) (hf : K.Fine) (h0 : 0 < K.len) (hb : ∀ k, k < B0 → w.heap[k]? = W0.heap[k]?) : sE B0 r0 W0 w ⟨K, d, u⟩ := by
 obtain ⟨a, cap, hv, hc, hq⟩ := aH.1 hr
 rcases hq with hq | ⟨g, off, rfl, _, hg, hq⟩
 ·omega
 ·refine ⟨g, off, cap, hv, h0, hc.1, hc.2, .inl hg, fun i hi => ?_⟩
  obtain ⟨x, e0, e1, e2, e3, hr⟩ := hq i hi
  have bM : ∀ o, w.cell? ⟨g, o, none⟩ = W0.cell? ⟨g, o, none⟩ := fun o => World.cell?_of_block (a := ⟨g, o, none⟩) (hb g hg)
  exact ⟨x, by rw [bM]; exact e0, by rw [bM]; exact e1, by rw [bM]; exact e2, by rw [bM]; exact e3, hr, Nd.fine_kid hf hi⟩
theorem Ed {T : Nd} {B0 B bk : Nat} {W0 : World} {pre S : List hH} {v : Value} {N : Nat} {e : hH} {w : World} (h : yt B0 B bk W0 S v N e w) (tf : pre.map key ++ gB S = T.pre 0) : vI T B0 B bk W0 pre S v w :=
 ⟨tf, h.own, h.ents, h.base, h.kf, by have := h.size; omega⟩
theorem uN {T : Nd} {B0 B bk : Nat} {W0 : World} {pre S : List hH} {v v' : Value} {N d : Nat} {e : hH} {w w' : World} {K : Nd} {u : Value} {row : Option Nat} (h : yt B0 B bk W0 S v N e w) (hB : B0 ≤ B) (gE : bk < B)
  (hr : Row 0 B0 W0 K u) (hf : K.Fine) (h0 : 0 < K.len) (aX : w.grownBy w' row) (dJ : ∀ k, row = some k → B + 3 ≤ k) (cY : w'.ownsRow (B + 3) 113 2 v' (S.length + 1) (lx S ++ [u, .int .i64 ((d : Nat) : Int)])) (tf : pre.map key ++ gB (⟨K, d, u⟩ :: S) = T.pre 0) :
  vI T B0 B bk W0 pre (⟨K, d, u⟩ :: S) v' w' := by
 have hs := h.size
 have hk : ∀ k, k < B + 3 → w'.heap[k]? = w.heap[k]? := fun k hk => aX.block k (by omega) (fun e => by have := dJ k e.symm; omega)
 have hb : ∀ k, k < B0 → w'.heap[k]? = W0.heap[k]? := fun k nZ => (hk k (by omega)).trans (h.base k nZ)
 refine ⟨tf, by rw [hG]; exact cY, fun x hx => ?_, hb, (World.cell?_of_block (a := ⟨bk, 0, none⟩) (hk bk (by omega))).trans h.kf, by have := aX.size; omega⟩
 rcases List.mem_cons.1 hx with rfl | hx
 ·exact yd hr hf h0 hb
 ·exact fX (h.ents x hx) (fun k nZ => hk k (by omega))
theorem Bu {B0 B bk : Nat} {W0 : World} {S : List hH} {v : Value} {N : Nat} {e : hH} {w : World} {g off cap : Nat} (h : yt B0 B bk W0 S v N e w) (hv : e.v = .slice (some ⟨g, off, none⟩) e.D.len cap) :
  ∃ ak ck, (g < B0 ∨ g = B + 2) ∧ w.cell? ⟨g, off, none⟩ = some (.int .i64 (e.D.kids 0).kind) ∧ w.cell? ⟨g, off + 1, none⟩ = some (.int .i64 (e.D.kids 0).num) ∧ w.cell? ⟨g, off + 2, none⟩ = some (.string (e.D.kids 0).name) ∧
   w.cell? ⟨g, off + 3, none⟩ = some (.slice ak (e.D.kids 0).len ck) ∧ Row 0 B0 W0 (e.D.kids 0) (.slice ak (e.D.kids 0).len ck) ∧ (e.D.kids 0).Fine := by
 obtain ⟨g', Ru, mQ, mh, h0, IB, jw, hg, hc⟩ := h.self
 rw [hv] at mh
 simp only [Value.slice.injEq, Option.some.injEq, Addr.mk.injEq, and_true, true_and] at mh
 obtain ⟨⟨rfl, rfl⟩, rfl⟩ := mh
 obtain ⟨u, e0, e1, e2, e3, hr, hf⟩ := hc 0 h0
 obtain ⟨ak, ck, rfl, _⟩ := aH.1 hr
 simp only [Nat.zero_mul, Nat.add_zero] at e0 e1 e2 e3
 exact ⟨ak, ck, hg, e0, e1, e2, e3, hr, hf⟩
theorem DZ (tk tn : Int) (ts : ByteArray) (a : Option Addr) (l c : Nat) (w : World) :
  Calls Tryz.prog 52 #[.agg #[.int .i64 tk, .int .i64 tn, .string ts, .slice a l c]] w fun e w' => e = .returned (.slice a l c) ∧ Below w.heap.size w w' := by
 go_enter Tryz.func52, Tryz.ntmps52
 go_wp2
 go_ret
 exact ⟨rfl, bA⟩
theorem sH (n : Nat) (hn : 1 ≤ n) (T : Nd) (u : Value) (B0 B br bk l : Nat) (mine : Nat → Prop) (J Jx : List hH → World → Prop) (W0 W : World) (hT : T.Fine) (fr : T.cost ≤ 1048576)
    (EV : W.heap.size = B + 2) (EY : B0 ≤ B) (hbr : br < B) (gE : bk < B) (S6 : ∀ k, mine k → B0 ≤ k ∧ k < B ∧ k ≠ bk) (ja : ∀ k, k < B0 → W.heap[k]? = W0.heap[k]?) (dJ : Row 0 B0 W0 T u)
    (hJ : jA (B + 2) J) (EX : ∀ pre A, J pre A → B + 2 ≤ A.heap.size)
    (hY : ∀ pre x W1, J pre W1 → zJ T B0 W0 pre x → YieldAt Fence.wide (n - 1) Tryz.prog l (wv x) W1 fun e W' =>
      (e = .returned (.bool true) ∧ J (pre ++ [x]) W' ∧ KeptF (fun k => mine k ∨ k = B + 1) W1 W') ∨ (e = .returned (.bool false) ∧ Jx (pre ++ [x]) W'))
    (h0 : J [] W) (r0 : W.cell? ⟨br, 0, none⟩ = some (.int .i64 T.kind)) (r1 : W.cell? ⟨br, 1, none⟩ = some (.int .i64 T.num)) (r2 : W.cell? ⟨br, 2, none⟩ = some (.string T.name)) (r3 : W.cell? ⟨br, 3, none⟩ = some u)
    (EJ : W.cell? ⟨bk, 0, none⟩ = some (.func (.func 52) #[] #[])) :
    CallsIn Fence.wide n Tryz.prog 75 #[.func (.yield l) #[] #[], .pointer (some ⟨br, 0, none⟩), .pointer (some ⟨bk, 0, none⟩)] W fun e W' => (∃ v, e = .returned v) ∧ ((∃ xs, BT T xs ∧ J xs W') ∨ (∃ pre, True ∧ Jx pre W')) := by
  obtain ⟨au, cu, hu, pY, SG⟩ := aH.1 dJ
  subst hu
  have nG := aa dJ
  clear dJ SG
  refine callsIn_of_wp Tryz.func75 rfl trivial ?_ rfl
  simp only [Tryz.ntmps75, List.size_toArray, List.length_cons, List.length_nil, Nat.reduceAdd, Nat.reduceSub, Array.replicate_succ, Array.replicate_zero, List.push_toArray, List.append_toArray, List.nil_append, List.cons_append]
  gi_wp2
  have yv : Hid (vI T B0 B bk W0 [] [⟨H7 T, 0, .slice (some ⟨B + 2, 0, none⟩) 1 1⟩] (.slice (some ⟨B + 2 + 1, 0, none⟩) 1 1)
      ((W.alloc (nO T (.slice au T.len cu))).alloc (.cells #[.slice (some ⟨B + 2, 0, none⟩) 1 1, .int .i64 0] 113)) ∧
      J [] ((W.alloc (nO T (.slice au T.len cu))).alloc (.cells #[.slice (some ⟨B + 2, 0, none⟩) 1 1, .int .i64 0] 113))) :=
    wu T B0 B bk W0 W au cu J hT EV EY gE ja nG.out hJ h0 EJ
  gi_loopg [4] T.size (fun k v wr => ∃ pre S, k = (gB S).length ∧ vI T B0 B bk W0 pre S v wr ∧ J pre wr)
  case atStart =>
    refine ⟨[], _, ?_, yv.out.1, yv.out.2⟩
    simp [gB, uy, o7]
  case round =>
    obtain ⟨pre, S, hk, hinv, hJr⟩ := hrel
    clear yv h0 r0 r1 r2 r3 EJ ja EV nG
    have HK := aa hk
    clear hk
    cases S with
    | nil =>
      obtain ⟨av, cv, rfl⟩ := Mh hinv.own
      have HS : Hid (BT T pre) := by have := hinv.seq; simpa [gB, BT, Hid] using this
      have HJr := aa hJr
      clear hinv hJr
      gi_wp2
      go_end0
      exact ⟨⟨_, rfl⟩, .inl ⟨_, HS.out, HJr.out⟩⟩
    | cons e R =>
      obtain ⟨gs, cs, rfl, wg, hcs2, hgs, To⟩ := DC hinv.own
      obtain ⟨q0, q1⟩ := zV hinv.own
      obtain ⟨g, off, cap, hv, zk, IB, jw, hg, eU⟩ := hinv.ents e (List.mem_cons_self ..)
      have hlen := zS hinv
      have SD := T.size_cost
      simp only [List.length_cons] at hlen wg ⊢
      rw [hv] at q0
      have BY := aa hinv
      have HJr := aa hJr
      have HV := aa hv
      have HT : Hid (0 < e.D.len) := zk
      clear hinv hJr eU hv
      have Tw : Tryz.prog.follows Departure.mixedOrders = true := by kernel_rfl
      obtain ⟨i0, lq, oQ, eT, ed⟩ := info_parts A8
      have HOWN := aa (yR BY.out.own)
      by_cases h1 : 1 < e.D.len
      · gi_wp2_with ((gi_at_builtin; refine wpListIn_append_own _ rfl _ _ 114 rfl (B + 3) 113 i0 (.agg #[.slice none 0 0, .int .i64 0]) 2 32 Tryz.underlying114 lq oQ eT ed rfl (by decide) _ _ _ rfl ((HOWN.out.alloc _).alloc _) ⟨wr.heap.size + 1, 0, none⟩ 1 1 [.slice (some ⟨g, off + 4, none⟩) (e.D.len - 1) (cap - 1), .int .i64 (e.d : Int)] rfl rfl (by rw [← World.size_alloc]; exact yL _ _ _ _) (yK _ _ _ _) (by unfold maxLen; omega) (by omega) (by simp; omega) ?_; intro v' w1 mn aX EB))
        obtain ⟨pW, fC⟩ := Bt BY.out EY gE hgs To HV.out h1 aX mn
        have hJ1 : J pre w1 := hJ _ _ _ HJr.out fC
        obtain ⟨gv, cv, rfl, hcv, hcv2, II, hgv2⟩ := DC mn
        have tf : ∀ u, pre.map key ++ (e.D.kids 0, e.d) :: gB (nj e (e.D.kids 0) u (⟨nf e.D, e.d, .slice (some ⟨g, off + 4, none⟩) (e.D.len - 1) (cap - 1)⟩ :: R)) = T.pre 0 := fun u => by
          have := BY.out.seq
          rw [nh e R u (.slice (some ⟨g, off + 4, none⟩) (e.D.len - 1) (cap - 1)) HT.out, ni, if_pos h1] at this
          exact this
        have yF := aa pW
        have Yg : Hid ((gB (e :: R)).length = gk) := HK.out.symm
        have mX : Hid (∀ u, gB (e :: R) = (e.D.kids 0, e.d) :: gB (nj e (e.D.kids 0) u (⟨nf e.D, e.d, .slice (some ⟨g, off + 4, none⟩) (e.D.len - 1) (cap - 1)⟩ :: R))) := fun u => by
          have := nh e R u (.slice (some ⟨g, off + 4, none⟩) (e.D.len - 1) (cap - 1)) HT.out
          rw [ni, if_pos h1] at this
          exact this
        clear mn aX EB pW fC Tw
        have Tw : Tryz.prog.follows Departure.mixedOrders = true := by kernel_rfl
        have k_C5_0 := kk
        exact bC5
      · have eM : cap = 1 ∨ 1 < cap := by omega
        have wb : e.D.len = 1 := by omega
        have Pz := aa wb
        clear wb
        rcases eM with rfl | eM
        · gi_wp2
          obtain ⟨pW, fC⟩ := r8 BY.out EY gE HV.out
          obtain ⟨w1, vZ⟩ : ∃ w1, wr.alloc (.cells #[.slice (some ⟨g, off, none⟩) e.D.len 1, .int .i64 (e.d : Int)] 113) = w1 := ⟨_, rfl⟩
          exact bC0
        · gi_wp2
          obtain ⟨pW, fC⟩ := r8 BY.out EY gE HV.out
          obtain ⟨w1, vZ⟩ : ∃ w1, wr.alloc (.cells #[.slice (some ⟨g, off, none⟩) e.D.len cap, .int .i64 (e.d : Int)] 113) = w1 := ⟨_, rfl⟩
          exact bC0
end
section
open Go.RowKit Go.Shelf
attribute [local go_sem] Oper.semAt_some
theorem CF (tk tn : Int) (ts : ByteArray) (a : Option Addr) (l c : Nat) (f : Value) (w : World) (hf : f = .func (.func 52) #[] #[]) :
  Calls Tryz.prog 51 #[.agg #[.int .i64 tk, .int .i64 tn, .string ts, .slice a l c], f] w fun e w' => e = .returned (.func (.func 75) #[] #[.pointer (some ⟨w.heap.size, 0, none⟩), .pointer (some ⟨w.heap.size + 1, 0, none⟩)]) ∧
   w' = (w.alloc (.cells #[.int .i64 tk, .int .i64 tn, .string ts, .slice a l c] 25)).alloc (.cells #[.func (.func 52) #[] #[]] 83) := by
 subst hf
 go_enter Tryz.func51, Tryz.ntmps51
 go_wp2
 go_ret
 exact ⟨rfl, rfl⟩
theorem nU (tk tn : Int) (ts : ByteArray) (a : Option Addr) (l c : Nat) (w : World) :
  Calls Tryz.prog 25 #[.agg #[.int .i64 tk, .int .i64 tn, .string ts, .slice a l c]] w fun e w' => e = .returned (.func (.func 75) #[] #[.pointer (some ⟨w.heap.size + 1, 0, none⟩), .pointer (some ⟨w.heap.size + 1 + 1, 0, none⟩)]) ∧
   w' = ((w.alloc (.cells #[.int .i64 tk, .int .i64 tn, .string ts, .slice a l c] 25)).alloc (.cells #[.int .i64 tk, .int .i64 tn, .string ts, .slice a l c] 25)).alloc (.cells #[.func (.func 52) #[] #[]] 83) := by
 go_enter Tryz.func25, Tryz.ntmps25
 go_wp2_with (go_at_call 51; refine (CF _ _ _ _ _ _ _ _ rfl).mono ?_; rintro e w' ⟨rfl, rfl⟩)
 go_ret
 exact ⟨by simp, rfl⟩
end
section
open Go.RowKit Go.Shelf
attribute [local go_sem] Oper.semAt_some
structure SzI (w : World) (pre : List hH) (W : World) : Prop where
 below : Below w.heap.size w W
 res : Boxed W (w.heap.size + 1) 3 (.int .i64 0)
 cnt : Boxed W (w.heap.size + 1 + 1) 3 (.int .i64 (pre.length : Int))
 size : w.heap.size + 3 ≤ W.heap.size
theorem Bb (T : Nd) (w : World) (u : Value) (hf : T.Fine) (hr : Row 0 w.heap.size w T u) (hc : T.cost ≤ 1048576) :
    Calls Tryz.prog 12 #[T.val u] w fun e w' => e = .returned (.int .i64 (T.size : Int)) ∧ Below w.heap.size w w' := by
  obtain ⟨au, cu, hu, _⟩ := aH.1 hr
  subst hu
  refine (callsIn_wide (n := 3)).1 ?_
  refine callsIn_of_wp_marks Tryz.func12 rfl trivial ?_ rfl
  unfold Nd.val
  simp only [Tryz.ntmps12, List.size_toArray, List.length_cons, List.length_nil, Nat.reduceAdd, Nat.reduceSub, Array.replicate_succ, Array.replicate_zero, List.push_toArray, List.append_toArray, List.nil_append, List.cons_append]
  gi_wp2_with ((refine ⟨trivial, ?_⟩; gi_at_call 25; refine (callsIn_wide.2 (nU _ _ _ _ _ _ _)).mono ?_; rintro e w' ⟨rfl, rfl⟩))
  obtain ⟨V, hV⟩ : ∃ V, ((((((w.alloc (nO T (.slice au T.len cu))).alloc (.cells #[.int .i64 0] 3)).alloc (.cells #[.int .i64 0] 3)).alloc (nO T (.slice au T.len cu))).alloc (nO T (.slice au T.len cu))).alloc (.cells #[.func (.func 52) #[] #[]] 83)) = V := ⟨_, rfl⟩
  have b8 : V.heap.size = w.heap.size + 6 := by rw [← hV]; simp
  have ja : Below w.heap.size w V := by
    rw [← hV]
    exact ((((((Below.refl _ w).alloc lr _).alloc (by simp) _).alloc (by simp; omega) _).alloc (by simp; omega) _).alloc (by simp; omega) _).alloc (by simp; omega) _
  have c0 : V.cell? ⟨w.heap.size + 1 + 1 + 1 + 1, 0, none⟩ = some (.int .i64 T.kind) := by rw [← hV]; simp [go_sem]
  have c1 : V.cell? ⟨w.heap.size + 1 + 1 + 1 + 1, 1, none⟩ = some (.int .i64 T.num) := by rw [← hV]; simp [go_sem]
  have c2 : V.cell? ⟨w.heap.size + 1 + 1 + 1 + 1, 2, none⟩ = some (.string T.name) := by rw [← hV]; simp [go_sem]
  have c3 : V.cell? ⟨w.heap.size + 1 + 1 + 1 + 1, 3, none⟩ = some (.slice au T.len cu) := by rw [← hV]; simp [go_sem]
  have c4 : V.cell? ⟨w.heap.size + 1 + 1 + 1 + 1 + 1, 0, none⟩ = some (.func (.func 52) #[] #[]) := by rw [← hV]; simp [go_sem]
  have b1 := Boxed.new (w.alloc (nO T (.slice au T.len cu))) 3 (.int .i64 0)
  have b2 := Boxed.new ((w.alloc (nO T (.slice au T.len cu))).alloc (.cells #[.int .i64 0] 3)) 3 (.int .i64 0)
  simp only [World.size_alloc] at b1 b2
  have vi : SzI w [] V := by
    refine ⟨ja, ?_, ?_, by omega⟩
    · rw [← hV]; exact (((b1.alloc _).alloc _).alloc _).alloc _
    · rw [← hV]; exact ((b2.alloc _).alloc _).alloc _
  have vh : jA V.heap.size (SzI w) := fun pre A C h hb => by
    have hz := h.size
    exact ⟨h.below.trans (hb.mono (by omega)), (hb.block _ (by omega)).trans h.res, (hb.block _ (by omega)).trans h.cnt, by have := hb.size; omega⟩
  rw [hV]
  clear hV b1 b2
  have SD := T.size_cost
  refine dX (α := hH) (encs := wv) (S := BT T) (Sp := fun _ => True) (Came := zJ T w.heap.size w) (mine := fun k => k = w.heap.size + 1 + 1) rfl (by omega) (gf := 75) (lb := #[.pointer (some ⟨w.heap.size + 1 + 1 + 1 + 1, 0, none⟩), .pointer (some ⟨w.heap.size + 1 + 1 + 1 + 1 + 1, 0, none⟩)]) rfl trivial (enters_of Tryz.func75 (by kernel_rfl) rfl)
    (fun l J Jx W EV wh hJ hJx EX hY h0 => by
      have bM : ∀ b o, b < V.heap.size → W.cell? ⟨b, o, none⟩ = V.cell? ⟨b, o, none⟩ := fun b o hb => wh.cell (p := ⟨b, o, none⟩) hb
      exact sH 2 (by omega) T (.slice au T.len cu) w.heap.size V.heap.size (w.heap.size + 1 + 1 + 1 + 1) (w.heap.size + 1 + 1 + 1 + 1 + 1) l (fun k => k = w.heap.size + 1 + 1) J Jx w W hf hc EV (by omega) (by omega) (by omega) (fun k hk => by omega) (fun k hk => ((wh.block k (by omega)).trans (ja.block k hk))) hr hJ EX hY h0
        ((bM _ _ (by omega)).trans c0) ((bM _ _ (by omega)).trans c1) ((bM _ _ (by omega)).trans c2) ((bM _ _ (by omega)).trans c3) ((bM _ _ (by omega)).trans c4))
    (fun _ => rfl) (SzI w) (fun _ _ _ => False) vh (fun _ _ _ _ h _ => h) vi
    (fun x _ => { tmps := #[.agg #[.int .i64 T.kind, .int .i64 T.num, .string T.name, .slice au T.len cu], .pointer (some ⟨w.heap.size, 0, none⟩), .pointer (some ⟨w.heap.size + 1, 0, none⟩), .pointer (some ⟨w.heap.size + 1 + 1, 0, none⟩), undef, .int .i64 (x.d : Int), .agg #[.int .i64 T.kind, .int .i64 T.num, .string T.name, .slice au T.len cu], .func (.func 75) #[] #[.pointer (some ⟨w.heap.size + 1 + 1 + 1 + 1, 0, none⟩), .pointer (some ⟨w.heap.size + 1 + 1 + 1 + 1 + 1, 0, none⟩)], x.D.val x.v, .int .i64 (x.d : Int), undef, undef, undef, undef, undef], defers := [] })
    (fun _ W => W) (fun _ W => Below.refl _ _) ?assign ?body ?done ?stop
  case assign =>
    intro l pre x W K _ hK
    simp only [wv]
    gi_wp2
    exact hK
  case body =>
    rintro l pre x W1 W3 r hi hz ⟨⟨rest, gQ⟩, Gb, PZ⟩ qa jF
    have Qe : x.d < T.size := by
      have hm : key x ∈ T.pre 0 := by rw [← gQ]; simp
      have := ux T 0 _ hm
      simpa [key] using this
    have KW : pre.length < T.size := by
      have := congrArg List.length gQ
      rw [o7] at this
      simp at this; omega
    have q := jF.cnt.cell
    have qf := jF.cnt.frozen
    have HI := aa jF
    clear gQ Gb PZ hi jF qa vi vh c0 c1 c2 c3 c4
    gi_wp2
    refine ⟨KeepsOthers.setCell _ _ _, ⟨by simp [World.setCell], fun k hk hm => Below.heap_setCell _ _ _ _ hm⟩, ?_⟩
    have h := HI.out
    have Cd := h.size
    refine ⟨h.below.setCell (p := ⟨w.heap.size + 1 + 1, 0, none⟩) (by show w.heap.size ≤ w.heap.size + 1 + 1; omega) _, ?_, ?_, by simp [World.setCell]; omega⟩
    · exact (Below.heap_setCell _ _ _ _ (by show w.heap.size + 1 ≠ w.heap.size + 1 + 1; omega)).trans h.res
    · have := h.cnt.set (.int .i64 ((pre ++ [x]).length : Int))
      simpa using this
  case done =>
    rintro D xs W hD hS hi hK
    have hlen : xs.length = T.size := by
      have := congrArg List.length hS
      rw [o7] at this
      simpa using this
    have q := hi.cnt.cell
    have qr := hi.res.cell
    have qrf := hi.res.frozen
    rw [hlen] at q
    have HI := aa hi
    have HK := aa hK
    clear hS hi hK vi vh c0 c1 c2 c3 c4
    gi_wp2
    have h := HI.out
    have r0 := h.res.set (.int .i64 (T.size : Int))
    have IX : (W.setCell ⟨w.heap.size + 1, 0, none⟩ (.int .i64 (T.size : Int))).heap[D]? = some (.deferred (some [])) := (Below.heap_setCell _ _ _ _ (by show D ≠ w.heap.size + 1; omega)).trans HK.out
    have cZ := h.below.setCell (p := ⟨w.heap.size + 1, 0, none⟩) (by show w.heap.size ≤ w.heap.size + 1; omega) (.int .i64 (T.size : Int))
    revert r0 IX cZ
    generalize W.setCell ⟨w.heap.size + 1, 0, none⟩ (.int .i64 (T.size : Int)) = X
    intro r0 IX cZ
    refine ⟨by simp, .inl ⟨_, _, rfl, run_takeDeferred IX, ?_⟩⟩
    have gp := grownBy_putObj' X D (.deferred none)
    have p0 := (r0.kept gp (fun e => by have := Option.some.inj e; omega)).cell
    refine ⟨.int .i64 (T.size : Int), by simp [results, Tryz.results12, go_sem, p0], rfl, ?_⟩
    exact cZ.grown gp (by have := cZ.size; omega) (fun k e => by have := Option.some.inj e; omega)
  case stop =>
    intro D c pre W _ _ hx _
    exact hx.elim
end
end Go.Proofs.YteaocammohcgoaaGreatDoor
