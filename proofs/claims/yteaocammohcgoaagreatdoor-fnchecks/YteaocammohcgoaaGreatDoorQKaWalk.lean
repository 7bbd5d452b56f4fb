import Derived.RangeFuncNested
import Derived.RangeFuncBound
import Derived.Test.YteaocammohcgoaaGreatDoorQKaBase
import Derived.Shelf.RegionOpen
import Derived.Sort.LoopGhostIn
import Derived.OwnWalkIn
import Derived.LoopNIn
set_option linter.unusedVariables false
set_option maxHeartbeats 16000000
set_option maxRecDepth 100000
namespace Go.Proofs.YteaocammohcgoaaGreatDoor
open Go.RowKit
variable {G : Prop}
theorem bC0 (h : G := by
 rw [vC] at pT eJ ⊢
 have hJ1 : J pre w1 := hJ _ _ _ HJr.out eJ
 have sS : ∀ u, pre.map key ++ (e.D.kids 0, e.d) :: gu (nf e (e.D.kids 0) u R) = T.pre 0 := fun u => by
  have := By.out.seq
  rw [mZ e R u (.slice none 0 0) HT.out, nb, if_neg h1] at this
  exact this
 have yl := aa pT
 have VT : Hid ((gu (e :: R)).length = gk) := HK.out.symm
 have mT : Hid (∀ u, gu (e :: R) = (e.D.kids 0, e.d) :: gu (nf e (e.D.kids 0) u R)) := fun u => by
  have := mZ e R u (.slice none 0 0) HT.out
  rw [nb, if_neg h1] at this
  exact this
 clear pT eJ vC
 have k_1 := kk
 exact bC5) : G := h
theorem bC1 (h : G := by
 gi_region_with_o ((refine ⟨trivial, ?_⟩; gi_at_call 52; refine (callsIn_wide.2 (Dy _ _ _ _ _ _ _)).mono ?_; rintro e' w' ⟨rfl, hb3⟩))
 all_goals exact ⟨rfl, (Below.refl _ _).drew.trans (by assumption)⟩) : G := h
theorem bC2 (h : G := by
 have hx := hb2.out rfl
 clear hb1 hb2
 go_simp
 gi_wp2
 exact bodyPost_ret (results_none rfl _ _ _) rfl ⟨⟨_, rfl⟩, .inr ⟨_, trivial, hx⟩⟩) : G := h
theorem bC3 (h : G := by
 gi_region_with_o ((refine OY.out.mono ?_; rintro e' W' ⟨b, rfl, hb1, hb2⟩))
 all_goals exact ⟨_, rfl, by assumption, by assumption⟩) : G := h
theorem bC4 (h : G := by
 have hm : (e.D.kids 0, e.d) ∈ T.pre 0 := by rw [← NS.out]; simp
 have := tV T 0 _ hm
 simpa using this) : G := h
theorem bC5 (h : G := by
  obtain ⟨ak, ck, hgg, k0, k1, k2, k3, OF, Eh⟩ := A9 yl.out HV.out
  have hJ2 : J pre w1.drew := hJ _ _ _ hJ1 (Below.refl _ _).drew
  have NS := aa (sS (.slice ak (e.D.kids 0).len ck))
  have HKR := aa OF
  have N7 := aa Eh
  obtain ⟨fn, tmps, assign, bod, hy, hR⟩ := hY pre ⟨e.D.kids 0, e.d, .slice ak (e.D.kids 0).len ck⟩ w1.drew hJ2 ⟨⟨_, NS.out⟩, OF, Eh⟩
  have hR2 := hR.mono (R' := fun e' W' => ∃ b : Bool, e' = .returned (.bool b) ∧ Hid (b = true → J (pre ++ [⟨e.D.kids 0, e.d, .slice ak (e.D.kids 0).len ck⟩]) W' ∧ KeptF (fun k => mine k ∨ k = B + 1) w1.drew W') ∧ Hid (b = false → Jx (pre ++ [⟨e.D.kids 0, e.d, .slice ak (e.D.kids 0).len ck⟩]) W'))
    (fun e' W' h => by
      rcases h with ⟨rfl, h, h'⟩ | ⟨rfl, h⟩
      · exact ⟨true, rfl, (fun _ => ⟨h, h'⟩), (fun h => by cases h)⟩
      · exact ⟨false, rfl, (fun h => by cases h), (fun _ => h)⟩)
  simp only [vO, Nd.val] at hy
  have yS := yl.out.l0
  have vE := yl.out.l1
  rw [HV.out] at yS
  have OY := aa hR2
  clear OF Eh hR hR2 sS hJ2 hJ1
  apply Cf (R := fun b W' => Hid (b = true → J (pre ++ [⟨e.D.kids 0, e.d, .slice ak (e.D.kids 0).len ck⟩]) W' ∧ KeptF (fun k => mine k ∨ k = B + 1) w1.drew W') ∧ Hid (b = false → Jx (pre ++ [⟨e.D.kids 0, e.d, .slice ak (e.D.kids 0).len ck⟩]) W'))
  case h1 =>
    exact bC3
  first
  | clear k_0
    case h2 =>
      rintro b W' ⟨hb1, hb2⟩
      cases b with
      | false =>
        exact bC2
      | true =>
        have k_0 := kk
        exact bC6
  | clear k_1
    case h2 =>
      rintro b W' ⟨hb1, hb2⟩
      cases b with
      | false =>
        exact bC2
      | true =>
        have k_1 := kk
        exact bC6) : G := h
theorem bC6 (h : G := by
 obtain ⟨hJ', rN⟩ := hb1.out rfl
 clear hb1 hb2
 have BH := rN.size
 have gX : ∀ k, k < w1.heap.size → (k < B0 ∨ k = bk ∨ B + 2 ≤ k) → W'.heap[k]? = w1.heap[k]? := fun k hk hc => rN.same k hk (fun h => h.elim (fun h => by have := Rd k h; omega) (fun h => by omega))
 have hN := yl.out.size
 have hcg : ∀ o, W'.cell? ⟨g, o, none⟩ = w1.cell? ⟨g, o, none⟩ := fun o => World.cell?_of_block (a := ⟨g, o, none⟩) (gX g (by omega) (by omega))
 rw [← hcg] at k0 k1 k2 k3
 have sr := aa (lR yl.out Ew gP BH gX)
 have yS := sr.out.l0
 have vE := sr.out.l1
 rw [HV.out] at yS
 have hkfn := sr.out.kf
 have HJ' := aa hJ'
 clear yl OY hy rN gX hcg hJ'
 go_simp
 gi_wp2
 apply zB (R := fun W2 => Hid (Below W'.heap.size W' W2))
 case h1 =>
  exact bC1
 first
 |clear k_0
  case h2 =>
   have k_0 := kk
   exact bC8
 |clear k_1
  case h2 =>
   have k_1 := kk
   exact bC8) : G := h
theorem bC7 (h : G := by
 rw [nf, if_pos hK] at wW aM
 have KN := aa wW
 have Fj := aa aM
 clear wW aM
 go_simp
 gi_wp2_with ((gi_at_builtin; refine wpListIn_append_own _ rfl _ _ 114 rfl (B + 3) 113 i0 (.agg #[.slice none 0 0, .int .i64 0]) 2 32 Tryz.underlying114 ke nn eZ ec rfl (by decide) _ _ _ rfl (vz.out.own.alloc _) ⟨W2.heap.size, 0, none⟩ 1 1 [.slice ak (e.D.kids 0).len ck, .int .i64 ((e.d : Int) + 1)] rfl rfl (yr _ _ _ _) (yq _ _ _ _) (by unfold maxLen; first | omega | (simp; omega)) (by first | omega | (simp; omega)) (by first | omega | (simp; omega)) ?_; intro v'' w4 D5 o9 hnil''))
 first
 |clear k_0
  have A6 := ux (T := T) (pre := pre ++ [⟨e.D.kids 0, e.d, .slice ak (e.D.kids 0).len ck⟩]) (d := e.d + 1) (lR vz.out Ew gP (by simp) (fun k hk _ => Below.heap_alloc W2 _ k hk)) Ew gP HKR.out N7.out hK o9 (fun k e => by have : gv = k := Option.some.inj e; omega) D5 (by have := KN.out; simpa [key] using this)
  have hJ4 := hJ _ _ _ O8.out (((Below.refl _ W2).alloc (by omega) _).grown o9 (by simp; omega) (fun k e => by have : gv = k := Option.some.inj e; omega))
  gi_roundg (gu (⟨e.D.kids 0, e.d + 1, .slice ak (e.D.kids 0).len ck⟩ ::(⟨mX e.D, e.d, .slice (some ⟨g, off + 4, none⟩) (e.D.len - 1) (cap - 1)⟩ :: R))).length
  case measure => rw [← VT.out, Fj.out]; simp
  case rel => exact ⟨_, _, rfl, A6, hJ4⟩
 |clear k_1
  have A6 := ux (T := T) (pre := pre ++ [⟨e.D.kids 0, e.d, .slice ak (e.D.kids 0).len ck⟩]) (d := e.d + 1) (lR vz.out Ew gP (by simp) (fun k hk _ => Below.heap_alloc W2 _ k hk)) Ew gP HKR.out N7.out hK o9 (fun k e => by have : gs = k := Option.some.inj e; omega) D5 (by have := KN.out; simpa [key] using this)
  have hJ4 := hJ _ _ _ O8.out (((Below.refl _ W2).alloc (by omega) _).grown o9 (by simp; omega) (fun k e => by have : gs = k := Option.some.inj e; omega))
  gi_roundg (gu (⟨e.D.kids 0, e.d + 1, .slice ak (e.D.kids 0).len ck⟩ :: R)).length
  case measure => rw [← VT.out, Fj.out]; simp
  case rel => exact ⟨_, _, rfl, A6, hJ4⟩) : G := h
theorem bC8 (h : G := by
 intro W2 hb3
 have hb3 := hb3.out
 have vI := hb3.size
 have hN2 := sr.out.size
 have vz := aa (lR sr.out Ew gP vI (fun k hk _ => hb3.block k hk))
 have O8 := aa (hJ _ _ _ HJ'.out (hb3.mono (by omega)))
 have vE := vz.out.l1
 have OG : e.d < T.size := by
  exact bC4
 have wW := NS.out
 have aM := mT.out (.slice ak (e.D.kids 0).len ck)
 clear sr HJ' hb3 k0 k1 k2 k3 yS hkfn
 by_cases hK : 0 < (e.D.kids 0).len
 first
 |clear k_0
  ·have k_0 := kk
   exact bC7
  ·have k_0 := kk
   exact bC9
 |clear k_1
  ·have k_1 := kk
   exact bC7
  ·have k_1 := kk
   exact bC9) : G := h
theorem bC9 (h : G := by
 rw [nf, if_neg hK] at wW aM
 have KN := aa wW
 have Fj := aa aM
 clear wW aM
 go_simp
 gi_wp2
 have A6 := DD (T := T) (pre := pre ++ [⟨e.D.kids 0, e.d, .slice ak (e.D.kids 0).len ck⟩]) vz.out (by have := KN.out; simpa [key] using this)
 first
 |clear k_0
  gi_roundg (gu (⟨mX e.D, e.d, .slice (some ⟨g, off + 4, none⟩) (e.D.len - 1) (cap - 1)⟩ :: R)).length
  case measure => rw [← VT.out, Fj.out]; simp
  case rel => exact ⟨_, _, rfl, A6, O8.out⟩
 |clear k_1
  gi_roundg (gu R).length
  case measure => rw [← VT.out, Fj.out]; simp
  case rel => exact ⟨_, _, rfl, A6, O8.out⟩) : G := h
section
structure KeptF (mine : Nat → Prop) (A C : World) : Prop where
 size : A.heap.size ≤ C.heap.size
 same : ∀ k, k < A.heap.size → ¬ mine k → C.heap[k]? = A.heap[k]?
theorem KeptF.trans {m : Nat → Prop} {A B C : World} (h : KeptF m A B) (g : KeptF m B C) : KeptF m A C :=
 ⟨Nat.le_trans h.size g.size, fun k hk hm => (g.same k (Nat.lt_of_lt_of_le hk h.size) hm).trans (h.same k hk hm)⟩
theorem KeptF.refl (m : Nat → Prop) (A : World) : KeptF m A A := ⟨Nat.le_refl _, fun _ _ _ => rfl⟩
def P8 {α : Type} (mine : Nat → Prop) (I : List α → World → Prop) (Ix : Code → List α → World → Prop) (xs : List α) (W3 : World) : Exit → Act → World → Prop
 |.normal, _, W' => KeepsOthers W3 W' ∧ KeptF mine W3 W' ∧ I xs W'
 |.ret, _, W' => KeepsOthers W3 W' ∧ Ix .ret xs W'
 |.exit id, _, W' => KeepsOthers W3 W' ∧ Ix (.exit id) xs W'
 |.goto t, _, W' => KeepsOthers W3 W' ∧ Ix (.goto t) xs W'
 |.panic _, _, _ => False
 |.outgrown, _, _ => False
def jw {β : Type} (B : Nat) (I : β → World → Prop) : Prop := ∀ s A C, I s A → Below B A C → I s C
variable {F : Fence} {n : Nat} {P : Program}
theorem eo {α : Type} {g : Operand} {ps : Array Tmp} {assign body : Code} {Q : Exit → Act → World → Prop} {a : Act} {w : World}
    (hro : F.round = none) (h1 : 1 ≤ n) {gf : Nat} {lb : Array Value} (hg : a.eval g = .func (.func gf) #[] lb) (hFg : F.fn gf) (eg : ∀ args w, (callFunc gf args).run P w = .ok (.enter gf args) w)
    {encs : α → Array Value} {S Sp : List α → Prop} {Came : List α → α → Prop} {mine : Nat → Prop}
    (sS : ∀ (l : Nat) (J Jx : List α → World → Prop) (W : World), W.heap.size = w.heap.size + 2 → Below w.heap.size w W →
      jw (w.heap.size + 2) J → jw (w.heap.size + 2) Jx → (∀ pre A, J pre A → w.heap.size + 2 ≤ A.heap.size) →
      (∀ pre x W1, J pre W1 → Came pre x → YieldAt F (n - 1 - 1) P l (encs x) W1 fun e W' =>
        (e = .returned (.bool true) ∧ J (pre ++ [x]) W' ∧ KeptF (fun k => mine k ∨ k = w.heap.size + 1) W1 W') ∨ (e = .returned (.bool false) ∧ Jx (pre ++ [x]) W')) →
      J [] W → CallsIn F (n - 1) P gf (#[.func (.yield l) #[] #[]] ++ lb) W fun e W' => (∃ v, e = .returned v) ∧ ((∃ xs, S xs ∧ J xs W') ∨ (∃ pre, Sp pre ∧ Jx pre W')))
    (hps : ∀ x, (encs x).size = ps.size)
    (I : List α → World → Prop) (Ix : Code → List α → World → Prop) (hI : jw w.heap.size I) (Si : ∀ c, jw w.heap.size (Ix c)) (h0 : I [] w) (a₁ : α → World → Act) (box : α → World → World) (xr : ∀ x W, Below W.heap.size W (box x W))
    (Ii : ∀ (l : Nat) (pre : List α) (x : α) (W : World) (K : Act → World → Prop), Came pre x → K (a₁ x W) (box x W) →
      assign.wpIn (F.inRound l) (n - 1 - 1) P (Exit.then K (fun _ _ _ => False)) { tmps := (ps.zip (encs x)).foldl (fun t (p, v) => t.setIfInBounds p v) a.tmps, defers := [] } W)
    (RV : ∀ (l : Nat) (pre : List α) (x : α) (W1 W3 : World) (r : Loop), I pre W1 → w.heap.size + 2 ≤ W1.heap.size → Came pre x → W3 = (box x W1).putObj (w.heap.size + 1) (.loop r) → I pre W3 →
      body.wpIn (F.inRound l) (n - 1 - 1) P (P8 mine I Ix (pre ++ [x]) W3) (a₁ x W1) W3)
    (RE : ∀ (D : Nat) (xs : List α) (W : World), w.heap.size ≤ D → S xs → I xs W → W.heap[D]? = some (.deferred (some [])) → Q .normal { a with defers := { target := .collected D, args := #[] } :: a.defers } W)
    (yH : ∀ (D : Nat) (c : Code) (pre : List α) (W : World), w.heap.size ≤ D → Sp pre → Ix c pre W → W.heap[D]? = some (.deferred (some [])) → c.wpIn F n P Q { a with defers := { target := .collected D, args := #[] } :: a.defers } W) :
    (Code.rangeFunc g ps assign body).wpIn F n P Q a w := by
  refine wpIn_rangeFunc ?_
  intro fn MB
  rw [hro]
  obtain ⟨rec, b6⟩ : ∃ rec : LoopState → Option Code → Loop, rec = fun st pe => { state := st, pending := pe, fn, tmps := a.tmps, params := ps, assign, body, defers := w.heap.size } := ⟨_, rfl⟩
  obtain ⟨W1, Eu⟩ : ∃ W1, (w.alloc (.deferred (some []))).alloc (.loop (rec .ready none)) = W1 := ⟨_, rfl⟩
  have yY : W1.heap[w.heap.size + 1]? = some (.loop (rec .ready none)) := by
    rw [← Eu]; have := World.alloc_heap_new (w.alloc (.deferred (some []))) (.loop (rec .ready none)); rwa [World.size_alloc] at this
  have hK1 : W1.heap[w.heap.size]? = some (.deferred (some [])) := by
    rw [← Eu]; exact (Below.heap_alloc _ _ _ (by simp)).trans (World.alloc_heap_new w _)
  have vJ : Below w.heap.size w W1 := by rw [← Eu]; exact ((Below.refl _ w).alloc lr _).alloc (by simp) _
  have hI1 : I [] W1 := hI _ _ _ h0 vJ
  have pP : W1.heap.size = w.heap.size + 2 := by rw [← Eu]; simp
  refine ⟨w.heap.size + 1, [{ target := .collected w.heap.size, args := #[] }], W1, { target := .fn (.func gf) lb, args := #[.func (.yield (w.heap.size + 1)) #[] #[]] }, W1, gf,
    #[.func (.yield (w.heap.size + 1)) #[] #[]] ++ lb, W1, ?_, ?_, ?_, ?_, fun _ => h1, ?_⟩
  · rw [← Eu, b6]; exact run_enterLoop_outer _ _ _ _ _
  · simp only [resolve, hg]
    simp [go_sem]
  · intro f' hf'; simp [Target.leads] at hf'; subst hf'; exact hFg
  · simp [invoke, go_sem, eg]
  · have wg : ∀ {β : Type} {I : β → World → Prop} {s : β} {A : World} (o : Obj), jw w.heap.size I → I s A → I s (A.putObj (w.heap.size + 1) o) := fun o hU hi =>
      hU _ _ _ hi ⟨rfl, rfl, rfl, by simp, fun k hk => World.putObj_heap_other (by omega)⟩
    refine (sS (w.heap.size + 1)
      (fun pre W => I pre W ∧ W.heap[w.heap.size + 1]? = some (.loop (rec .ready none)) ∧ W.heap[w.heap.size]? = some (.deferred (some [])))
      (fun pre W => ∃ c, Ix c pre W ∧ W.heap[w.heap.size + 1]? = some (.loop (rec .done (some c))) ∧ W.heap[w.heap.size]? = some (.deferred (some [])))
      W1 pP vJ
      (fun s A C hs hb => ⟨hI s A C hs.1 (hb.mono (by omega)), (hb.block _ (by omega)).trans hs.2.1, (hb.block _ (by omega)).trans hs.2.2⟩)
      (fun s A C hs hb => by
        obtain ⟨c, hc, hl, hk⟩ := hs
        exact ⟨c, Si c s A C hc (hb.mono (by omega)), (hb.block _ (by omega)).trans hl, (hb.block _ (by omega)).trans hk⟩)
      (fun pre A hs => by have := (Array.getElem?_eq_some_iff.1 hs.2.1).1; omega)
      ?_ ⟨hI1, yY, hK1⟩).mono ?_
    ·
      rintro pre x W ⟨hi, hl, hk⟩ gO
      have bS : w.heap.size + 2 ≤ W.heap.size := by have := (Array.getElem?_eq_some_iff.1 hl).1; omega
      have hy := run_yield (P := P) (args := encs x) hl (by rw [b6]; exact hps x)
      rw [b6] at hy
      have fC := xr x W
      have vI := fC.size
      have Rg : (box x W).heap[w.heap.size + 1]? = some (.loop (rec .ready none)) := (fC.block _ (by omega)).trans hl
      have Ia : (box x W).heap[w.heap.size]? = some (.deferred (some [])) := (fC.block _ (by omega)).trans hk
      refine ⟨fn, _, assign, body, hy, roundIn_of_wpIn MB (Ii _ pre x W _ gO ⟨_, run_beginRound Rg (by rw [b6]), ?_⟩)⟩
      obtain ⟨W3, pZ⟩ : ∃ W3, (box x W).putObj (w.heap.size + 1) (.loop { rec .ready none with state := .busy }) = W3 := ⟨_, rfl⟩
      have Ri : W3.heap[w.heap.size + 1]? = some (.loop { rec .ready none with state := .busy }) := by rw [← pZ]; exact World.putObj_heap_same (by omega)
      have jR : W3.heap[w.heap.size]? = some (.deferred (some [])) := by rw [← pZ]; exact (World.putObj_heap_other (by omega)).trans Ia
      have jA : I pre W3 := by rw [← pZ]; exact wg _ hI (hI _ _ _ hi (fC.mono (by omega)))
      have bW : (box x W).heap.size ≤ W3.heap.size := by rw [← pZ]; simp
      have PH : KeptF (fun k => mine k ∨ k = w.heap.size + 1) W W3 := ⟨by omega, fun k bB hm => by
        have dr : k ≠ w.heap.size + 1 := fun e => hm (.inr e)
        rw [← pZ]
        exact (World.putObj_heap_other dr).trans (fC.block _ bB)⟩
      rw [pZ]
      refine wpIn_mono (RV _ pre x W W3 _ hi bS gO pZ.symm jA) ?_
      have fin : ∀ (jump : Option Code) (W4 : World), KeepsOthers W3 W4 →
          (Instr.endRound (w.heap.size + 1) jump).run P W4 = .ok (.bool jump.isNone) (W4.putObj (w.heap.size + 1) (.loop (rec (if jump.isNone then .ready else .done) jump))) ∧
          (W4.putObj (w.heap.size + 1) (.loop (rec (if jump.isNone then .ready else .done) jump))).heap[w.heap.size + 1]? = some (.loop (rec (if jump.isNone then .ready else .done) jump)) ∧
          (W4.putObj (w.heap.size + 1) (.loop (rec (if jump.isNone then .ready else .done) jump))).heap[w.heap.size]? = some (.deferred (some [])) := fun jump W4 qH => by
        have hl3 := qH.same _ _ Ri rfl
        have := run_endRound (P := P) jump hl3
        rw [b6] at this ⊢
        exact ⟨this, World.putObj_heap_same (Array.getElem?_eq_some_iff.1 hl3).1, (World.putObj_heap_other (by omega)).trans (qH.same _ _ jR rfl)⟩
      rintro e a3 W4 hp
      cases e with
      | normal =>
        obtain ⟨qH, J9, qI⟩ := hp
        obtain ⟨hr, FF, Mv⟩ := fin none W4 qH
        refine ⟨_, _, hr, .inl ⟨rfl, ⟨wg _ hI qI, FF, Mv⟩, PH.trans ⟨?_, fun k bB hm => ?_⟩⟩⟩
        · have := J9.size; simp; omega
        · exact (World.putObj_heap_other (fun e => hm (.inr e))).trans (J9.same k bB (fun h => hm (.inl h)))
      | ret =>
        obtain ⟨qH, qI⟩ := hp
        obtain ⟨hr, FF, Mv⟩ := fin (some .ret) W4 qH
        exact ⟨_, _, hr, .inr ⟨rfl, .ret, wg _ (Si _) qI, FF, Mv⟩⟩
      | exit id =>
        obtain ⟨qH, qI⟩ := hp
        obtain ⟨hr, FF, Mv⟩ := fin (some (.exit id)) W4 qH
        exact ⟨_, _, hr, .inr ⟨rfl, .exit id, wg _ (Si _) qI, FF, Mv⟩⟩
      | goto t =>
        obtain ⟨qH, qI⟩ := hp
        obtain ⟨hr, FF, Mv⟩ := fin (some (.goto t)) W4 qH
        exact ⟨_, _, hr, .inr ⟨rfl, .goto t, wg _ (Si _) qI, FF, Mv⟩⟩
      | panic ch => exact hp.elim
      | outgrown => exact hp.elim
    ·
      rintro e W2 ⟨⟨v, rfl⟩, (⟨xs, hS, hi, hl, hk⟩ | ⟨pre, hSp, c, hi, hl, hk⟩)⟩
      · exact ⟨none, _, by have := run_endLoop (P := P) hl (by rw [b6]; simp); rw [b6] at this; exact this, RE _ xs _ lr hS (wg _ hI hi) ((World.putObj_heap_other (by omega)).trans hk)⟩
      · exact ⟨some c, _, by have := run_endLoop (P := P) hl (by rw [b6]; simp); rw [b6] at this; exact this, yH _ c pre _ lr hSp (wg _ (Si c) hi) ((World.putObj_heap_other (by omega)).trans hk)⟩
end
section
open Go.RowKit Go.Shelf
attribute [local go_sem] Oper.semAt_some
def tY (R : Act → World → Prop) : Exit → Act → World → Prop
 |.normal, a, w => R a w
 |_, _, _ => False
theorem Cf {F : Fence} {n : Nat} {P : Program} {c : Code} {Q : Exit → Act → World → Prop} {a : Act} {w : World} (A : Bool → Act) (R : Bool → World → Prop)
  (h1 : c.wpIn F n P (tY fun a' W' => ∃ b, a' = A b ∧ R b W') a w) (h2 : ∀ b W', R b W' → Q .normal (A b) W') : c.wpIn F n P Q a w :=
 wpIn_mono h1 fun ex a' W' h => by
  cases ex <;> first | exact h.elim | (obtain ⟨b, rfl, hr⟩ := h; exact h2 b W' hr)
theorem zB {F : Fence} {n : Nat} {P : Program} {c : Code} {Q : Exit → Act → World → Prop} {a : Act} {w : World} (A : Act) (R : World → Prop)
  (h1 : c.wpIn F n P (tY fun a' W' => a' = A ∧ R W') a w) (h2 : ∀ W', R W' → Q .normal A W') : c.wpIn F n P Q a w :=
 wpIn_mono h1 fun ex a' W' h => by
  cases ex <;> first | exact h.elim | (obtain ⟨rfl, hr⟩ := h; exact h2 W' hr)
def vO (x : gZ) : Array Value := #[x.D.val x.v, .int .i64 (x.d : Int)]
def key (x : gZ) : Nd × Nat := (x.D, x.d)
def zm (T : Nd) (B0 : Nat) (W0 : World) (pre : List gZ) (x : gZ) : Prop := (∃ rest, pre.map key ++ key x :: rest = T.pre 0) ∧ Row 0 B0 W0 x.D x.v ∧ x.D.Fine
def Bv (T : Nd) (xs : List gZ) : Prop := xs.map key = T.pre 0
def su (B0 r0 : Nat) (W0 wr : World) (e : gZ) : Prop :=
 ∃ g off cap, e.v = .slice (some ⟨g, off, none⟩) e.D.len cap ∧ 0 < e.D.len ∧ e.D.len ≤ cap ∧ cap ≤ 9223372036854775807 ∧ (g < B0 ∨ g = r0) ∧ ∀ i, i < e.D.len →
  ∃ u, wr.cell? ⟨g, off + i * 4, none⟩ = some (.int .i64 (e.D.kids i).kind) ∧ wr.cell? ⟨g, off + i * 4 + 1, none⟩ = some (.int .i64 (e.D.kids i).num) ∧
   wr.cell? ⟨g, off + i * 4 + 2, none⟩ = some (.string (e.D.kids i).name) ∧ wr.cell? ⟨g, off + i * 4 + 3, none⟩ = some u ∧ Row 0 B0 W0 (e.D.kids i) u ∧ (e.D.kids i).Fine
structure vn (T : Nd) (B0 B bk : Nat) (W0 : World) (pre S : List gZ) (v : Value) (wr : World) : Prop where
 seq : pre.map key ++ gu S = T.pre 0
 own : wr.ownsRow (B + 3) 113 2 v S.length (lh S)
 ents : ∀ e ∈ S, su B0 (B + 2) W0 wr e
 base : ∀ k, k < B0 → wr.heap[k]? = W0.heap[k]?
 kf : wr.cell? ⟨bk, 0, none⟩ = some (.func (.func 52) #[] #[])
 size : B + 3 ≤ wr.heap.size
theorem zC {T : Nd} {B0 B bk : Nat} {W0 : World} {pre S : List gZ} {v : Value} {wr : World} (h : vn T B0 B bk W0 pre S v wr) : S.length ≤ T.size := by
 have h1 := Ls S fun e he => by obtain ⟨_, _, _, _, h, _⟩ := h.ents e he; exact h
 have h2 := congrArg List.length h.seq
 rw [o7, List.length_append] at h2
 omega
theorem Lt {w : World} {base : Nat} {e : TypeId} {size : Nat} {v : Value} {n : Nat} {xs : List Value} (h : w.ownsRow base e size v n xs) : ∃ a c, v = .slice a n c := by
 rcases h.2 with ⟨rfl, rfl⟩ | ⟨g, cap, cur, rfl, _⟩
 ·exact ⟨none, 0, rfl⟩
 ·exact ⟨_, cap, rfl⟩
theorem Df {w : World} {B : Nat} {e : TypeId} {size n : Nat} {v : Value} {xs : List Value} (h : w.ownsRow B e size v (n + 1) xs) : ∃ g cap, v = .slice (some ⟨g, 0, none⟩) (n + 1) cap ∧ n + 1 ≤ cap ∧ cap ≤ 9223372036854775807 ∧ B ≤ g ∧ g < w.heap.size := by
 rcases h.2 with ⟨_, h⟩ | ⟨g, cap, _, hv, hb, hh, hc, hm, _⟩
 ·omega
 ·unfold maxLen at hm; exact ⟨g, cap, hv, hc, hm, hb, (Array.getElem?_eq_some_iff.1 hh).1⟩
theorem zF {w : World} {B g cap : Nat} {e : gZ} {R : List gZ} (h : w.ownsRow B 113 2 (.slice (some ⟨g, 0, none⟩) (R.length + 1) cap) (R.length + 1) (lh (e :: R))) :
  w.cell? ⟨g, R.length * 2, none⟩ = some e.v ∧ w.cell? ⟨g, R.length * 2 + 1, none⟩ = some (.int .i64 (e.d : Int)) := by
 have hl := rY R
 refine ⟨?_, ?_⟩
 ·rw [h.cellAt _ (by omega), gY, List.getElem?_append_right (by omega)]; simp [hl]
 ·rw [h.cellAt _ (by omega), gY, List.getElem?_append_right (by omega)]; simp [hl]
theorem yx {w : World} {B g cap : Nat} {e : gZ} {R : List gZ} (h : w.ownsRow B 113 2 (.slice (some ⟨g, 0, none⟩) (R.length + 1) cap) (R.length + 1) (lh (e :: R))) :
  w.ownsRow B 113 2 (.slice (some ⟨g, 0, none⟩) R.length cap) R.length (lh R) := by
 have hl := rY R
 rcases h.2 with ⟨h', _⟩ | ⟨g', l5, cur, h', hb, hh, hc, hm, hs, ht⟩
 ·simp at h'
 ·simp only [Value.slice.injEq, Option.some.injEq, Addr.mk.injEq, and_true, true_and] at h'
  obtain ⟨rfl, rfl⟩ := h'
  refine ⟨hl, .inr ⟨g, cap, cur, rfl, hb, hh, by omega, hm, hs, ?_⟩⟩
  have : cur.toList.take (R.length * 2) = (cur.toList.take ((R.length + 1) * 2)).take (R.length * 2) := by rw [List.take_take, Nat.min_eq_left (by omega)]
  rw [this, ht, gY, List.take_append_of_le_length (by omega), List.take_of_length_le (by omega)]
theorem yr (w : World) (a b : Value) (t : TypeId) : ∀ j u, [a, b][j]? = some u → (w.alloc (.cells #[a, b] t)).cell? ((⟨w.heap.size, 0, none⟩ : Addr).add j) = some u := by
 intro j u hj
 match j, hj with
 |0, hj => simp at hj; subst hj; simp [Addr.add]
 |1, hj => simp at hj; subst hj; simp [Addr.add]
 |j + 2, hj => simp at hj
theorem yq (a : Option Addr) (l c : Nat) (d : Int) : ∀ u ∈ [Value.slice a l c, .int .i64 d], u.oneCell' = true := by
 intro u hu
 simp at hu
 rcases hu with rfl | rfl <;> rfl
theorem AM : (Tryz.prog.info? 113).map (fun i => (i.zero, i.size, i.bytes)) = some (some (.agg #[.slice none 0 0, .int .i64 0]), 2, 32) := by kernel_rfl
theorem vN (T : Nd) (B0 B bk : Nat) (W0 W : World) (au : Option Addr) (cu : Nat) (J : List gZ → World → Prop) (hT : T.Fine) (Et : W.heap.size = B + 2) (Ew : B0 ≤ B) (gP : bk < B)
  (iY : ∀ k, k < B0 → W.heap[k]? = W0.heap[k]?) (dO : Row 0 B0 W0 T (.slice au T.len cu)) (hJ : jw (B + 2) J) (h0 : J [] W) (Eh : W.cell? ⟨bk, 0, none⟩ = some (.func (.func 52) #[] #[])) :
  vn T B0 B bk W0 [] [⟨He T, 0, .slice (some ⟨B + 2, 0, none⟩) 1 1⟩] (.slice (some ⟨B + 2 + 1, 0, none⟩) 1 1)
   ((W.alloc (nO T (.slice au T.len cu))).alloc (.cells #[.slice (some ⟨B + 2, 0, none⟩) 1 1, .int .i64 0] 113)) ∧
   J [] ((W.alloc (nO T (.slice au T.len cu))).alloc (.cells #[.slice (some ⟨B + 2, 0, none⟩) 1 1, .int .i64 0] 113)) := by
 obtain ⟨V, hV⟩ : ∃ V, W.alloc (nO T (.slice au T.len cu)) = V := ⟨_, rfl⟩
 have hb1 : Below W.heap.size W V := by rw [← hV]; exact bA
 have hVs : V.heap.size = B + 3 := by rw [← hV]; simp; omega
 have hb2 : Below V.heap.size V (V.alloc (.cells #[.slice (some ⟨B + 2, 0, none⟩) 1 1, .int .i64 0] 113)) := bA
 have hb := hb1.trans (hb2.mono hb1.size)
 have bV : V.heap[B + 2]? = some (nO T (.slice au T.len cu)) := by rw [← hV, ← Et]; exact World.alloc_heap_new W _
 rw [hV]
 refine ⟨⟨?_, ?_, ?_, ?_, ?_, ?_⟩, hJ _ _ _ h0 (hb.mono (by omega))⟩
 ·simp [gu, tX]
 ·have := World.ownsRow_lit (base := B + 3) (e := 113) (size := 2) V #[.slice (some ⟨B + 2, 0, none⟩) 1 1, .int .i64 0] 1 (by omega) (by unfold maxLen; omega) rfl
  rw [hVs] at this
  exact this
 ·intro e he
  obtain rfl := List.mem_singleton.1 he
  refine ⟨B + 2, 0, 1, rfl, by show 0 < 1; omega, by show 1 ≤ 1; omega, by omega, .inr rfl, fun i hi => ?_⟩
  obtain rfl : i = 0 := by have : i < 1 := hi; omega
  have hc : ∀ o, (V.alloc (.cells #[.slice (some ⟨B + 2, 0, none⟩) 1 1, .int .i64 0] 113)).cell? ⟨B + 2, o, none⟩ = (#[.int .i64 T.kind, .int .i64 T.num, .string T.name, .slice au T.len cu] : Array Value)[o]? := fun o => by
   rw [hb2.cell (p := ⟨B + 2, o, none⟩) (by show B + 2 < _; omega)]
   exact cell_of_row _ _ _ _ _ (0, 0) bV
  exact ⟨_, hc 0, hc 1, hc 2, hc 3, dO, hT⟩
 ·intro k hk
  rw [hb.block k (by omega)]; exact iY k hk
 ·rw [hb.cell (p := ⟨bk, 0, none⟩) (by show bk < _; omega)]; exact Eh
 ·have := hb2.size; omega
theorem fU {B0 r0 : Nat} {W0 w w' : World} {e : gZ} (h : su B0 r0 W0 w e) (hk : ∀ k, (k < B0 ∨ k = r0) → w'.heap[k]? = w.heap[k]?) : su B0 r0 W0 w' e := by
 obtain ⟨g, off, cap, hv, h0, h1, h2, hg, hc⟩ := h
 refine ⟨g, off, cap, hv, h0, h1, h2, hg, fun i hi => ?_⟩
 obtain ⟨u, e0, e1, e2, e3, r⟩ := hc i hi
 have hb : ∀ o, w'.cell? ⟨g, o, none⟩ = w.cell? ⟨g, o, none⟩ := fun o => World.cell?_of_block (a := ⟨g, o, none⟩) (hk g hg)
 exact ⟨u, by rw [hb]; exact e0, by rw [hb]; exact e1, by rw [hb]; exact e2, by rw [hb]; exact e3, r⟩
theorem De {w w' : World} {base : Nat} {t : TypeId} {size n : Nat} {v : Value} {xs : List Value} (h : w.ownsRow base t size v n xs) (hk : ∀ k, base ≤ k → k < w.heap.size → w'.heap[k]? = w.heap[k]?) : w'.ownsRow base t size v n xs := by
 obtain ⟨h1, h2⟩ := h
 refine ⟨h1, ?_⟩
 rcases h2 with h2 | ⟨g, cap, cur, hv, hg, hh, r⟩
 ·exact .inl h2
 ·exact .inr ⟨g, cap, cur, hv, hg, by rw [hk g hg (Array.getElem?_eq_some_iff.1 hh).1]; exact hh, r⟩
structure xW (B0 B bk : Nat) (W0 : World) (S : List gZ) (v : Value) (N : Nat) (e : gZ) (w : World) : Prop where
 own : w.ownsRow (B + 3) 113 2 v S.length (lh S)
 ents : ∀ x ∈ S, su B0 (B + 2) W0 w x
 self : su B0 (B + 2) W0 w e
 base : ∀ k, k < B0 → w.heap[k]? = W0.heap[k]?
 kf : w.cell? ⟨bk, 0, none⟩ = some (.func (.func 52) #[] #[])
 size : B + 3 ≤ N ∧ N < w.heap.size
 l0 : w.cell? ⟨N, 0, none⟩ = some e.v
 l1 : w.cell? ⟨N, 1, none⟩ = some (.int .i64 (e.d : Int))
theorem lR {B0 B bk : Nat} {W0 : World} {S : List gZ} {v : Value} {N : Nat} {e : gZ} {w w' : World} (h : xW B0 B bk W0 S v N e w) (hB : B0 ≤ B) (gP : bk < B) (hz : w.heap.size ≤ w'.heap.size)
  (hk : ∀ k, k < w.heap.size → (k < B0 ∨ k = bk ∨ B + 2 ≤ k) → w'.heap[k]? = w.heap[k]?) : xW B0 B bk W0 S v N e w' := by
 have hs := h.size
 have he : ∀ k, (k < B0 ∨ k = B + 2) → w'.heap[k]? = w.heap[k]? := fun k nX => hk k (by omega) (by omega)
 exact ⟨De h.own fun k h1 h2 => hk k h2 (by omega), fun x hx => fU (h.ents x hx) he, fU h.self he, fun k nX => (he k (.inl nX)).trans (h.base k nX),
  (World.cell?_of_block (a := ⟨bk, 0, none⟩) (hk bk (by omega) (.inr (.inl rfl)))).trans h.kf, ⟨hs.1, by omega⟩,
  (World.cell?_of_block (a := ⟨N, 0, none⟩) (hk N hs.2 (by omega))).trans h.l0, (World.cell?_of_block (a := ⟨N, 1, none⟩) (hk N hs.2 (by omega))).trans h.l1⟩
theorem A8 {T : Nd} {B0 B bk : Nat} {W0 : World} {pre R : List gZ} {e : gZ} {gs cs g off cap : Nat} {wr w1 : World} {v' : Value} (h : vn T B0 B bk W0 pre (e :: R) (.slice (some ⟨gs, 0, none⟩) (R.length + 1) cs) wr) (hB : B0 ≤ B) (gP : bk < B)
  (hgs : B + 3 ≤ gs) (Rs : gs < wr.heap.size) (hv : e.v = .slice (some ⟨g, off, none⟩) e.D.len cap) (h1 : 1 < e.D.len)
  (aX : ((wr.alloc (.cells #[.slice (some ⟨g, off, none⟩) e.D.len cap, .int .i64 (e.d : Int)] 113)).alloc (.cells #[.slice (some ⟨g, off + 4, none⟩) (e.D.len - 1) (cap - 1), .int .i64 (e.d : Int)] 113)).grownBy w1 (some gs))
  (cg : w1.ownsRow (B + 3) 113 2 v' (R.length + 1) (lh R ++ [.slice (some ⟨g, off + 4, none⟩) (e.D.len - 1) (cap - 1), .int .i64 (e.d : Int)])) :
  xW B0 B bk W0 (⟨mX e.D, e.d, .slice (some ⟨g, off + 4, none⟩) (e.D.len - 1) (cap - 1)⟩ :: R) v' wr.heap.size e w1 ∧ Below (B + 2) wr w1 := by
 have hs := h.size
 have bS := aX.size
 simp only [World.size_alloc] at bS
 have hk : ∀ k, k < wr.heap.size → k ≠ gs → w1.heap[k]? = wr.heap[k]? := fun k hk dr => by
  rw [aX.block k (by simp; omega) (fun e => dr (Option.some.inj e)), Below.heap_alloc _ _ _ (by simp; omega), Below.heap_alloc _ _ _ hk]
 have hN : w1.heap[wr.heap.size]? = some (.cells #[.slice (some ⟨g, off, none⟩) e.D.len cap, .int .i64 (e.d : Int)] 113) := by
  rw [aX.block _ (by simp; omega) (fun e => by have := Option.some.inj e; omega), Below.heap_alloc _ _ _ (by simp)]
  exact World.alloc_heap_new wr _
 have he : ∀ k, (k < B0 ∨ k = B + 2) → w1.heap[k]? = wr.heap[k]? := fun k nX => hk k (by omega) (by omega)
 have J7 := fU (h.ents e (List.mem_cons_self ..)) he
 refine ⟨⟨by rw [gY]; exact cg, fun x hx => ?_, J7, fun k nX => (he k (.inl nX)).trans (h.base k nX), (World.cell?_of_block (a := ⟨bk, 0, none⟩) (hk bk (by omega) (by omega))).trans h.kf, ⟨by omega, by omega⟩, ?_, ?_⟩, ?_⟩
 ·rcases List.mem_cons.1 hx with rfl | hx
  ·obtain ⟨g', P9, l5, lZ, h0, Kf, OH, hg, hc⟩ := J7
   rw [hv] at lZ
   simp only [Value.slice.injEq, Option.some.injEq, Addr.mk.injEq, and_true, true_and] at lZ
   obtain ⟨⟨rfl, rfl⟩, rfl⟩ := lZ
   refine ⟨g, off + 4, cap - 1, rfl, by show 0 < e.D.len - 1; omega, by show e.D.len - 1 ≤ cap - 1; omega, by omega, hg, fun i hi => ?_⟩
   have fS : i < e.D.len - 1 := hi
   obtain ⟨u, e0, e1, e2, e3, r⟩ := hc (i + 1) (by omega)
   have ea : off + 4 + i * 4 = off + (i + 1) * 4 := by omega
   rw [ea]
   exact ⟨u, e0, e1, e2, e3, r⟩
  ·exact fU (h.ents x (List.mem_cons_of_mem _ hx)) he
 ·rw [cell_of_row _ _ _ _ _ (0, 0) hN, hv]; rfl
 ·rw [cell_of_row _ _ _ _ _ (0, 0) hN]; rfl
 ·exact (((Below.refl _ wr).alloc (by omega) _).alloc (by simp; omega) _).grown aX (by simp; omega) (fun k e => by have := Option.some.inj e; omega)
theorem rT {T : Nd} {B0 B bk : Nat} {W0 : World} {pre R : List gZ} {e : gZ} {gs cs g off cap : Nat} {wr : World} (h : vn T B0 B bk W0 pre (e :: R) (.slice (some ⟨gs, 0, none⟩) (R.length + 1) cs) wr) (hB : B0 ≤ B) (gP : bk < B)
  (hv : e.v = .slice (some ⟨g, off, none⟩) e.D.len cap) :
  xW B0 B bk W0 R (.slice (some ⟨gs, 0, none⟩) R.length cs) wr.heap.size e (wr.alloc (.cells #[.slice (some ⟨g, off, none⟩) e.D.len cap, .int .i64 (e.d : Int)] 113)) ∧
   Below (B + 2) wr (wr.alloc (.cells #[.slice (some ⟨g, off, none⟩) e.D.len cap, .int .i64 (e.d : Int)] 113)) := by
 have hs := h.size
 have hk : ∀ k, k < wr.heap.size → (wr.alloc (.cells #[.slice (some ⟨g, off, none⟩) e.D.len cap, .int .i64 (e.d : Int)] 113)).heap[k]? = wr.heap[k]? := fun k hk => Below.heap_alloc _ _ _ hk
 have hN := World.alloc_heap_new wr (.cells #[.slice (some ⟨g, off, none⟩) e.D.len cap, .int .i64 (e.d : Int)] 113)
 refine ⟨⟨(yx h.own).alloc _, fun x hx => fU (h.ents x (List.mem_cons_of_mem _ hx)) (fun k nX => hk k (by omega)), fU (h.ents e (List.mem_cons_self ..)) (fun k nX => hk k (by omega)), fun k nX => (hk k (by omega)).trans (h.base k nX),
  (World.cell?_of_block (a := ⟨bk, 0, none⟩) (hk bk (by omega))).trans h.kf, ⟨hs, by simp⟩, ?_, ?_⟩, (Below.refl _ wr).alloc (by omega) _⟩
 ·rw [cell_of_row _ _ _ _ _ (0, 0) hN, hv]; rfl
 ·rw [cell_of_row _ _ _ _ _ (0, 0) hN]; rfl
theorem xJ {B0 r0 : Nat} {W0 w : World} {K : Nd} {d : Nat} {u : Value} (hr : Row 0 B0 W0 K u) (hf : K.Fine) (h0 : 0 < K.len) (hb : ∀ k, k < B0 → w.heap[k]? = W0.heap[k]?) : su B0 r0 W0 w ⟨K, d, u⟩ := by
 obtain ⟨a, cap, hv, hc, hq⟩ := ar.1 hr
 rcases hq with hq | ⟨g, off, rfl, _, hg, hq⟩
 ·omega
 ·refine ⟨g, off, cap, hv, h0, hc.1, hc.2, .inl hg, fun i hi => ?_⟩
  obtain ⟨x, e0, e1, e2, e3, hr⟩ := hq i hi
  have bV : ∀ o, w.cell? ⟨g, o, none⟩ = W0.cell? ⟨g, o, none⟩ := fun o => World.cell?_of_block (a := ⟨g, o, none⟩) (hb g hg)
  exact ⟨x, by rw [bV]; exact e0, by rw [bV]; exact e1, by rw [bV]; exact e2, by rw [bV]; exact e3, hr, Nd.fine_kid hf hi⟩
theorem DD {T : Nd} {B0 B bk : Nat} {W0 : World} {pre S : List gZ} {v : Value} {N : Nat} {e : gZ} {w : World} (h : xW B0 B bk W0 S v N e w) (sS : pre.map key ++ gu S = T.pre 0) : vn T B0 B bk W0 pre S v w :=
 ⟨sS, h.own, h.ents, h.base, h.kf, by have := h.size; omega⟩
theorem ux {T : Nd} {B0 B bk : Nat} {W0 : World} {pre S : List gZ} {v v' : Value} {N d : Nat} {e : gZ} {w w' : World} {K : Nd} {u : Value} {row : Option Nat} (h : xW B0 B bk W0 S v N e w) (hB : B0 ≤ B) (gP : bk < B)
  (hr : Row 0 B0 W0 K u) (hf : K.Fine) (h0 : 0 < K.len) (aX : w.grownBy w' row) (dO : ∀ k, row = some k → B + 3 ≤ k) (cg : w'.ownsRow (B + 3) 113 2 v' (S.length + 1) (lh S ++ [u, .int .i64 ((d : Nat) : Int)])) (sS : pre.map key ++ gu (⟨K, d, u⟩ :: S) = T.pre 0) :
  vn T B0 B bk W0 pre (⟨K, d, u⟩ :: S) v' w' := by
 have hs := h.size
 have hk : ∀ k, k < B + 3 → w'.heap[k]? = w.heap[k]? := fun k hk => aX.block k (by omega) (fun e => by have := dO k e.symm; omega)
 have hb : ∀ k, k < B0 → w'.heap[k]? = W0.heap[k]? := fun k nX => (hk k (by omega)).trans (h.base k nX)
 refine ⟨sS, by rw [gY]; exact cg, fun x hx => ?_, hb, (World.cell?_of_block (a := ⟨bk, 0, none⟩) (hk bk (by omega))).trans h.kf, by have := aX.size; omega⟩
 rcases List.mem_cons.1 hx with rfl | hx
 ·exact xJ hr hf h0 hb
 ·exact fU (h.ents x hx) (fun k nX => hk k (by omega))
theorem A9 {B0 B bk : Nat} {W0 : World} {S : List gZ} {v : Value} {N : Nat} {e : gZ} {w : World} {g off cap : Nat} (h : xW B0 B bk W0 S v N e w) (hv : e.v = .slice (some ⟨g, off, none⟩) e.D.len cap) :
  ∃ ak ck, (g < B0 ∨ g = B + 2) ∧ w.cell? ⟨g, off, none⟩ = some (.int .i64 (e.D.kids 0).kind) ∧ w.cell? ⟨g, off + 1, none⟩ = some (.int .i64 (e.D.kids 0).num) ∧ w.cell? ⟨g, off + 2, none⟩ = some (.string (e.D.kids 0).name) ∧
   w.cell? ⟨g, off + 3, none⟩ = some (.slice ak (e.D.kids 0).len ck) ∧ Row 0 B0 W0 (e.D.kids 0) (.slice ak (e.D.kids 0).len ck) ∧ (e.D.kids 0).Fine := by
 obtain ⟨g', P9, l5, lZ, h0, Kf, OH, hg, hc⟩ := h.self
 rw [hv] at lZ
 simp only [Value.slice.injEq, Option.some.injEq, Addr.mk.injEq, and_true, true_and] at lZ
 obtain ⟨⟨rfl, rfl⟩, rfl⟩ := lZ
 obtain ⟨u, e0, e1, e2, e3, hr, hf⟩ := hc 0 h0
 obtain ⟨ak, ck, rfl, _⟩ := ar.1 hr
 simp only [Nat.zero_mul, Nat.add_zero] at e0 e1 e2 e3
 exact ⟨ak, ck, hg, e0, e1, e2, e3, hr, hf⟩
theorem Dy (tk tn : Int) (ts : ByteArray) (a : Option Addr) (l c : Nat) (w : World) :
  Calls Tryz.prog 52 #[.agg #[.int .i64 tk, .int .i64 tn, .string ts, .slice a l c]] w fun e w' => e = .returned (.slice a l c) ∧ Below w.heap.size w w' := by
 go_enter Tryz.func52, Tryz.ntmps52
 go_wp2
 go_ret
 exact ⟨rfl, bA⟩
theorem sy (n : Nat) (hn : 1 ≤ n) (T : Nd) (u : Value) (B0 B br bk l : Nat) (mine : Nat → Prop) (J Jx : List gZ → World → Prop) (W0 W : World) (hT : T.Fine) (eS : T.cost ≤ 1048576)
    (Et : W.heap.size = B + 2) (Ew : B0 ≤ B) (hbr : br < B) (gP : bk < B) (Rd : ∀ k, mine k → B0 ≤ k ∧ k < B ∧ k ≠ bk) (iY : ∀ k, k < B0 → W.heap[k]? = W0.heap[k]?) (dO : Row 0 B0 W0 T u)
    (hJ : jw (B + 2) J) (Ev : ∀ pre A, J pre A → B + 2 ≤ A.heap.size)
    (hY : ∀ pre x W1, J pre W1 → zm T B0 W0 pre x → YieldAt Fence.wide (n - 1) Tryz.prog l (vO x) W1 fun e W' =>
      (e = .returned (.bool true) ∧ J (pre ++ [x]) W' ∧ KeptF (fun k => mine k ∨ k = B + 1) W1 W') ∨ (e = .returned (.bool false) ∧ Jx (pre ++ [x]) W'))
    (h0 : J [] W) (r0 : W.cell? ⟨br, 0, none⟩ = some (.int .i64 T.kind)) (r1 : W.cell? ⟨br, 1, none⟩ = some (.int .i64 T.num)) (r2 : W.cell? ⟨br, 2, none⟩ = some (.string T.name)) (r3 : W.cell? ⟨br, 3, none⟩ = some u)
    (Eh : W.cell? ⟨bk, 0, none⟩ = some (.func (.func 52) #[] #[])) :
    CallsIn Fence.wide n Tryz.prog 75 #[.func (.yield l) #[] #[], .pointer (some ⟨br, 0, none⟩), .pointer (some ⟨bk, 0, none⟩)] W fun e W' => (∃ v, e = .returned v) ∧ ((∃ xs, Bv T xs ∧ J xs W') ∨ (∃ pre, True ∧ Jx pre W')) := by
  obtain ⟨au, cu, hu, pV, QY⟩ := ar.1 dO
  subst hu
  have nF := aa dO
  clear dO QY
  refine callsIn_of_wp Tryz.func75 rfl trivial ?_ rfl
  simp only [Tryz.ntmps75, List.size_toArray, List.length_cons, List.length_nil, Nat.reduceAdd, Nat.reduceSub, Array.replicate_succ, Array.replicate_zero, List.push_toArray, List.append_toArray, List.nil_append, List.cons_append]
  gi_wp2
  have xY : Hid (vn T B0 B bk W0 [] [⟨He T, 0, .slice (some ⟨B + 2, 0, none⟩) 1 1⟩] (.slice (some ⟨B + 2 + 1, 0, none⟩) 1 1)
      ((W.alloc (nO T (.slice au T.len cu))).alloc (.cells #[.slice (some ⟨B + 2, 0, none⟩) 1 1, .int .i64 0] 113)) ∧
      J [] ((W.alloc (nO T (.slice au T.len cu))).alloc (.cells #[.slice (some ⟨B + 2, 0, none⟩) 1 1, .int .i64 0] 113))) :=
    vN T B0 B bk W0 W au cu J hT Et Ew gP iY nF.out hJ h0 Eh
  gi_loopg [4] T.size (fun k v wr => ∃ pre S, k = (gu S).length ∧ vn T B0 B bk W0 pre S v wr ∧ J pre wr)
  case atStart =>
    refine ⟨[], _, ?_, xY.out.1, xY.out.2⟩
    simp [gu, tX, o7]
  case round =>
    obtain ⟨pre, S, hk, hinv, hJr⟩ := hrel
    clear xY h0 r0 r1 r2 r3 Eh iY Et nF
    have HK := aa hk
    clear hk
    cases S with
    | nil =>
      obtain ⟨av, cv, rfl⟩ := Lt hinv.own
      have HS : Hid (Bv T pre) := by have := hinv.seq; simpa [gu, Bv, Hid] using this
      have HJr := aa hJr
      clear hinv hJr
      gi_wp2
      go_end0
      exact ⟨⟨_, rfl⟩, .inl ⟨_, HS.out, HJr.out⟩⟩
    | cons e R =>
      obtain ⟨gs, cs, rfl, vH, hcs2, hgs, Rs⟩ := Df hinv.own
      obtain ⟨q0, q1⟩ := zF hinv.own
      obtain ⟨g, off, cap, hv, yS, Kf, OH, hg, eX⟩ := hinv.ents e (List.mem_cons_self ..)
      have hlen := zC hinv
      have QW := T.size_cost
      simp only [List.length_cons] at hlen vH ⊢
      rw [hv] at q0
      have By := aa hinv
      have HJr := aa hJr
      have HV := aa hv
      have HT : Hid (0 < e.D.len) := yS
      clear hinv hJr eX hv
      have Rx : Tryz.prog.follows Departure.mixedOrders = true := by kernel_rfl
      obtain ⟨i0, ke, nn, eZ, ec⟩ := info_parts AM
      have HOWN := aa (yx By.out.own)
      by_cases h1 : 1 < e.D.len
      · gi_wp2_with ((gi_at_builtin; refine wpListIn_append_own _ rfl _ _ 114 rfl (B + 3) 113 i0 (.agg #[.slice none 0 0, .int .i64 0]) 2 32 Tryz.underlying114 ke nn eZ ec rfl (by decide) _ _ _ rfl ((HOWN.out.alloc _).alloc _) ⟨wr.heap.size + 1, 0, none⟩ 1 1 [.slice (some ⟨g, off + 4, none⟩) (e.D.len - 1) (cap - 1), .int .i64 (e.d : Int)] rfl rfl (by rw [← World.size_alloc]; exact yr _ _ _ _) (yq _ _ _ _) (by unfold maxLen; omega) (by omega) (by simp; omega) ?_; intro v' w1 ix aX pS))
        obtain ⟨pT, eJ⟩ := A8 By.out Ew gP hgs Rs HV.out h1 aX ix
        have hJ1 : J pre w1 := hJ _ _ _ HJr.out eJ
        obtain ⟨gv, cv, rfl, hcv, hcv2, Ic, hgv2⟩ := Df ix
        have sS : ∀ u, pre.map key ++ (e.D.kids 0, e.d) :: gu (nf e (e.D.kids 0) u (⟨mX e.D, e.d, .slice (some ⟨g, off + 4, none⟩) (e.D.len - 1) (cap - 1)⟩ :: R)) = T.pre 0 := fun u => by
          have := By.out.seq
          rw [mZ e R u (.slice (some ⟨g, off + 4, none⟩) (e.D.len - 1) (cap - 1)) HT.out, nb, if_pos h1] at this
          exact this
        have yl := aa pT
        have VT : Hid ((gu (e :: R)).length = gk) := HK.out.symm
        have mT : Hid (∀ u, gu (e :: R) = (e.D.kids 0, e.d) :: gu (nf e (e.D.kids 0) u (⟨mX e.D, e.d, .slice (some ⟨g, off + 4, none⟩) (e.D.len - 1) (cap - 1)⟩ :: R))) := fun u => by
          have := mZ e R u (.slice (some ⟨g, off + 4, none⟩) (e.D.len - 1) (cap - 1)) HT.out
          rw [nb, if_pos h1] at this
          exact this
        clear ix aX pS pT eJ Rx
        have Rx : Tryz.prog.follows Departure.mixedOrders = true := by kernel_rfl
        have k_0 := kk
        exact bC5
      · have ed : cap = 1 ∨ 1 < cap := by omega
        have vE : e.D.len = 1 := by omega
        have N5 := aa vE
        clear vE
        rcases ed with rfl | ed
        · gi_wp2
          obtain ⟨pT, eJ⟩ := rT By.out Ew gP HV.out
          obtain ⟨w1, vC⟩ : ∃ w1, wr.alloc (.cells #[.slice (some ⟨g, off, none⟩) e.D.len 1, .int .i64 (e.d : Int)] 113) = w1 := ⟨_, rfl⟩
          exact bC0
        · gi_wp2
          obtain ⟨pT, eJ⟩ := rT By.out Ew gP HV.out
          obtain ⟨w1, vC⟩ : ∃ w1, wr.alloc (.cells #[.slice (some ⟨g, off, none⟩) e.D.len cap, .int .i64 (e.d : Int)] 113) = w1 := ⟨_, rfl⟩
          exact bC0
end
section
open Go.RowKit Go.Shelf
attribute [local go_sem] Oper.semAt_some
theorem Cg (tk tn : Int) (ts : ByteArray) (a : Option Addr) (l c : Nat) (f : Value) (w : World) (hf : f = .func (.func 52) #[] #[]) :
  Calls Tryz.prog 51 #[.agg #[.int .i64 tk, .int .i64 tn, .string ts, .slice a l c], f] w fun e w' => e = .returned (.func (.func 75) #[] #[.pointer (some ⟨w.heap.size, 0, none⟩), .pointer (some ⟨w.heap.size + 1, 0, none⟩)]) ∧
   w' = (w.alloc (.cells #[.int .i64 tk, .int .i64 tn, .string ts, .slice a l c] 25)).alloc (.cells #[.func (.func 52) #[] #[]] 83) := by
 subst hf
 go_enter Tryz.func51, Tryz.ntmps51
 go_wp2
 go_ret
 exact ⟨rfl, rfl⟩
theorem nS (tk tn : Int) (ts : ByteArray) (a : Option Addr) (l c : Nat) (w : World) :
  Calls Tryz.prog 25 #[.agg #[.int .i64 tk, .int .i64 tn, .string ts, .slice a l c]] w fun e w' => e = .returned (.func (.func 75) #[] #[.pointer (some ⟨w.heap.size + 1, 0, none⟩), .pointer (some ⟨w.heap.size + 1 + 1, 0, none⟩)]) ∧
   w' = ((w.alloc (.cells #[.int .i64 tk, .int .i64 tn, .string ts, .slice a l c] 25)).alloc (.cells #[.int .i64 tk, .int .i64 tn, .string ts, .slice a l c] 25)).alloc (.cells #[.func (.func 52) #[] #[]] 83) := by
 go_enter Tryz.func25, Tryz.ntmps25
 go_wp2_with (go_at_call 51; refine (Cg _ _ _ _ _ _ _ _ rfl).mono ?_; rintro e w' ⟨rfl, rfl⟩)
 go_ret
 exact ⟨by simp, rfl⟩
end
section
open Go.RowKit Go.Shelf
attribute [local go_sem] Oper.semAt_some
structure SzI (w : World) (pre : List gZ) (W : World) : Prop where
 below : Below w.heap.size w W
 res : Boxed W (w.heap.size + 1) 3 (.int .i64 0)
 cnt : Boxed W (w.heap.size + 1 + 1) 3 (.int .i64 (pre.length : Int))
 size : w.heap.size + 3 ≤ W.heap.size
theorem rJ (T : Nd) (w : World) (u : Value) (hf : T.Fine) (hr : Row 0 w.heap.size w T u) (hc : T.cost ≤ 1048576) :
    Calls Tryz.prog 12 #[T.val u] w fun e w' => e = .returned (.int .i64 (T.size : Int)) ∧ Below w.heap.size w w' := by
  obtain ⟨au, cu, hu, _⟩ := ar.1 hr
  subst hu
  refine (callsIn_wide (n := 3)).1 ?_
  refine callsIn_of_wp_marks Tryz.func12 rfl trivial ?_ rfl
  unfold Nd.val
  simp only [Tryz.ntmps12, List.size_toArray, List.length_cons, List.length_nil, Nat.reduceAdd, Nat.reduceSub, Array.replicate_succ, Array.replicate_zero, List.push_toArray, List.append_toArray, List.nil_append, List.cons_append]
  gi_wp2_with ((refine ⟨trivial, ?_⟩; gi_at_call 25; refine (callsIn_wide.2 (nS _ _ _ _ _ _ _)).mono ?_; rintro e w' ⟨rfl, rfl⟩))
  obtain ⟨V, hV⟩ : ∃ V, ((((((w.alloc (nO T (.slice au T.len cu))).alloc (.cells #[.int .i64 0] 3)).alloc (.cells #[.int .i64 0] 3)).alloc (nO T (.slice au T.len cu))).alloc (nO T (.slice au T.len cu))).alloc (.cells #[.func (.func 52) #[] #[]] 83)) = V := ⟨_, rfl⟩
  have bS : V.heap.size = w.heap.size + 6 := by rw [← hV]; simp
  have iY : Below w.heap.size w V := by
    rw [← hV]
    exact ((((((Below.refl _ w).alloc lr _).alloc (by simp) _).alloc (by simp; omega) _).alloc (by simp; omega) _).alloc (by simp; omega) _).alloc (by simp; omega) _
  have c0 : V.cell? ⟨w.heap.size + 1 + 1 + 1 + 1, 0, none⟩ = some (.int .i64 T.kind) := by rw [← hV]; simp [go_sem]
  have c1 : V.cell? ⟨w.heap.size + 1 + 1 + 1 + 1, 1, none⟩ = some (.int .i64 T.num) := by rw [← hV]; simp [go_sem]
  have c2 : V.cell? ⟨w.heap.size + 1 + 1 + 1 + 1, 2, none⟩ = some (.string T.name) := by rw [← hV]; simp [go_sem]
  have c3 : V.cell? ⟨w.heap.size + 1 + 1 + 1 + 1, 3, none⟩ = some (.slice au T.len cu) := by rw [← hV]; simp [go_sem]
  have c4 : V.cell? ⟨w.heap.size + 1 + 1 + 1 + 1 + 1, 0, none⟩ = some (.func (.func 52) #[] #[]) := by rw [← hV]; simp [go_sem]
  have b1 := Boxed.new (w.alloc (nO T (.slice au T.len cu))) 3 (.int .i64 0)
  have b2 := Boxed.new ((w.alloc (nO T (.slice au T.len cu))).alloc (.cells #[.int .i64 0] 3)) 3 (.int .i64 0)
  simp only [World.size_alloc] at b1 b2
  have uW : SzI w [] V := by
    refine ⟨iY, ?_, ?_, by omega⟩
    · rw [← hV]; exact (((b1.alloc _).alloc _).alloc _).alloc _
    · rw [← hV]; exact ((b2.alloc _).alloc _).alloc _
  have uV : jw V.heap.size (SzI w) := fun pre A C h hb => by
    have hz := h.size
    exact ⟨h.below.trans (hb.mono (by omega)), (hb.block _ (by omega)).trans h.res, (hb.block _ (by omega)).trans h.cnt, by have := hb.size; omega⟩
  rw [hV]
  clear hV b1 b2
  have QW := T.size_cost
  refine eo (α := gZ) (encs := vO) (S := Bv T) (Sp := fun _ => True) (Came := zm T w.heap.size w) (mine := fun k => k = w.heap.size + 1 + 1) rfl (by omega) (gf := 75) (lb := #[.pointer (some ⟨w.heap.size + 1 + 1 + 1 + 1, 0, none⟩), .pointer (some ⟨w.heap.size + 1 + 1 + 1 + 1 + 1, 0, none⟩)]) rfl trivial (enters_of Tryz.func75 (by kernel_rfl) rfl)
    (fun l J Jx W Et vJ hJ hJx Ev hY h0 => by
      have bV : ∀ b o, b < V.heap.size → W.cell? ⟨b, o, none⟩ = V.cell? ⟨b, o, none⟩ := fun b o hb => vJ.cell (p := ⟨b, o, none⟩) hb
      exact sy 2 (by omega) T (.slice au T.len cu) w.heap.size V.heap.size (w.heap.size + 1 + 1 + 1 + 1) (w.heap.size + 1 + 1 + 1 + 1 + 1) l (fun k => k = w.heap.size + 1 + 1) J Jx w W hf hc Et (by omega) (by omega) (by omega) (fun k hk => by omega) (fun k hk => ((vJ.block k (by omega)).trans (iY.block k hk))) hr hJ Ev hY h0
        ((bV _ _ (by omega)).trans c0) ((bV _ _ (by omega)).trans c1) ((bV _ _ (by omega)).trans c2) ((bV _ _ (by omega)).trans c3) ((bV _ _ (by omega)).trans c4))
    (fun _ => rfl) (SzI w) (fun _ _ _ => False) uV (fun _ _ _ _ h _ => h) uW
    (fun x _ => { tmps := #[.agg #[.int .i64 T.kind, .int .i64 T.num, .string T.name, .slice au T.len cu], .pointer (some ⟨w.heap.size, 0, none⟩), .pointer (some ⟨w.heap.size + 1, 0, none⟩), .pointer (some ⟨w.heap.size + 1 + 1, 0, none⟩), undef, .int .i64 (x.d : Int), .agg #[.int .i64 T.kind, .int .i64 T.num, .string T.name, .slice au T.len cu], .func (.func 75) #[] #[.pointer (some ⟨w.heap.size + 1 + 1 + 1 + 1, 0, none⟩), .pointer (some ⟨w.heap.size + 1 + 1 + 1 + 1 + 1, 0, none⟩)], x.D.val x.v, .int .i64 (x.d : Int), undef, undef, undef, undef, undef], defers := [] })
    (fun _ W => W) (fun _ W => Below.refl _ _) ?assign ?body ?done ?stop
  case assign =>
    intro l pre x W K _ hK
    simp only [vO]
    gi_wp2
    exact hK
  case body =>
    rintro l pre x W1 W3 r hi hz ⟨⟨rest, gO⟩, FC, Ou⟩ pZ jA
    have OG : x.d < T.size := by
      have hm : key x ∈ T.pre 0 := by rw [← gO]; simp
      have := tV T 0 _ hm
      simpa [key] using this
    have D2 : pre.length < T.size := by
      have := congrArg List.length gO
      rw [o7] at this
      simp at this; omega
    have q := jA.cnt.cell
    have qf := jA.cnt.frozen
    have HI := aa jA
    clear gO FC Ou hi jA pZ uW uV c0 c1 c2 c3 c4
    gi_wp2
    refine ⟨KeepsOthers.setCell _ _ _, ⟨by simp [World.setCell], fun k hk hm => Below.heap_setCell _ _ _ _ hm⟩, ?_⟩
    have h := HI.out
    have vB := h.size
    refine ⟨h.below.setCell (p := ⟨w.heap.size + 1 + 1, 0, none⟩) (by show w.heap.size ≤ w.heap.size + 1 + 1; omega) _, ?_, ?_, by simp [World.setCell]; omega⟩
    · exact (Below.heap_setCell _ _ _ _ (by show w.heap.size + 1 ≠ w.heap.size + 1 + 1; omega)).trans h.res
    · have := h.cnt.set (.int .i64 ((pre ++ [x]).length : Int))
      simpa using this
  case done =>
    rintro D xs W hD hS hi hK
    have hlen : xs.length = T.size := by
      have := congrArg List.length hS
      rw [o7] at this
      simpa using this
    have q := hi.cnt.cell
    have qr := hi.res.cell
    have qrf := hi.res.frozen
    rw [hlen] at q
    have HI := aa hi
    have HK := aa hK
    clear hS hi hK uW uV c0 c1 c2 c3 c4
    gi_wp2
    have h := HI.out
    have r0 := h.res.set (.int .i64 (T.size : Int))
    have Ij : (W.setCell ⟨w.heap.size + 1, 0, none⟩ (.int .i64 (T.size : Int))).heap[D]? = some (.deferred (some [])) := (Below.heap_setCell _ _ _ _ (by show D ≠ w.heap.size + 1; omega)).trans HK.out
    have hb3 := h.below.setCell (p := ⟨w.heap.size + 1, 0, none⟩) (by show w.heap.size ≤ w.heap.size + 1; omega) (.int .i64 (T.size : Int))
    revert r0 Ij hb3
    generalize W.setCell ⟨w.heap.size + 1, 0, none⟩ (.int .i64 (T.size : Int)) = X
    intro r0 Ij hb3
    refine ⟨by simp, .inl ⟨_, _, rfl, run_takeDeferred Ij, ?_⟩⟩
    have gp := grownBy_putObj' X D (.deferred none)
    have p0 := (r0.kept gp (fun e => by have := Option.some.inj e; omega)).cell
    refine ⟨.int .i64 (T.size : Int), by simp [results, Tryz.results12, go_sem, p0], rfl, ?_⟩
    exact hb3.grown gp (by have := hb3.size; omega) (fun k e => by have := Option.some.inj e; omega)
  case stop =>
    intro D c pre W _ _ hx _
    exact hx.elim
end
end Go.Proofs.YteaocammohcgoaaGreatDoor
