import Derived.RangeFuncNested
import Derived.RangeFuncBound
import Derived.Test.YtkfbbdhidecefaaDoorUTF
import Derived.Shelf.RegionOpen
import Derived.OwnWalkIn
import Derived.LoopNIn
import Derived.LoopIn
set_option linter.unusedVariables false
set_option maxHeartbeats 16000000
set_option maxRecDepth 100000
namespace Go.Proofs.YtkfbbdhidecefaaDoor
open Go.RowKit
variable {G : Prop}
theorem bb0 (h : G := by
 obtain ⟨k0, k1, k2, g0, g1, g2⟩ := yu lh.out
 cases he : fS acc
 ·rw [he, if_neg (by decide)] at aF
  have HR : Hid (Reach s.data.toList (p + 1) acc) := .skip M6.out (by omega) (by rw [he]; exact aF)
  have HE : Hid (mD (iI acc).kind (iI acc).text = false) := by unfold Hid; rw [← xu]; exact he
  clear he aF zO
  generalize (iI acc).kind = lk at *
  generalize (iI acc).text = lt at *
  generalize ((iI acc).place : Int) = lp at *
  gi_wp2_with ((refine ⟨trivial, ?_⟩; gi_at_call 36; refine (callsIn_wide.2 (xd _ _ _ _)).mono ?_; rw [HE.out]; rintro e w1 ⟨rfl, hb1⟩; obtain ⟨iQ, yj⟩ := pT hb1; have hZ := hb1.size; simp only [World.size_alloc] at hZ))
  go_roundw
  case rel => exact ⟨p + 1, acc, HR.out, by omega, by go_num, hJ _ _ _ none HJN.out (kV hb1) (fun r e => by cases e), by omega, xr PF.out hb1 (by simp; omega) hzN⟩
  case measure => simp [intOf]; omega
 ·rw [he, if_pos rfl] at aF
  have HR : Hid (Reach s.data.toList (p + 1) (acc ++ [⟨5, ⟨#[]⟩, p⟩])) := .tok M6.out (by omega) (by rw [he]; exact aF)
  have HC : Hid (Ak s.data.toList (uJ acc) (⟨5, ⟨#[]⟩, p⟩, 0)) := ⟨p, acc, M6.out, rfl, by omega, .inl ⟨5, ⟨#[]⟩, 1, by rw [he]; exact aF, rfl⟩⟩
  have HE : Hid (mD (iI acc).kind (iI acc).text = true) := by unfold Hid; rw [← xu]; exact he
  clear he aF zO
  generalize (iI acc).kind = lk at *
  generalize (iI acc).text = lt at *
  generalize ((iI acc).place : Int) = lp at *
  gi_wp2_with ((refine ⟨trivial, ?_⟩; gi_at_call 36; refine (callsIn_wide.2 (xd _ _ _ _)).mono ?_; rw [HE.out]; rintro e w1 ⟨rfl, hb1⟩; obtain ⟨iQ, yj⟩ := pT hb1; have hZ := hb1.size; simp only [World.size_alloc] at hZ; have zS : Below wr.heap.size wr w1 := HbN.out.trans (hb1.mono (by simp)); obtain ⟨fn, tmps, assign, bod, hy, hR⟩ := hY _ _ wr w1 HJr.out hz zS HC.out; simp only [Db] at hy))
  refine hR.mono ?_
  rintro e W' (⟨rfl, MM, hk⟩ | ⟨rfl, KI⟩)
  ·have hN' := (hk.same wr.heap.size (.inr ⟨Nat.le_refl _, by omega⟩)).trans ((hb1.block wr.heap.size (by simp)).trans (World.alloc_heap_new wr _))
   have hL' := (hk.same (B + 2) (.inl (.inr (.inr rfl)))).trans ((zS.block (B + 2) hz).trans lh.out)
   have k_b4_1 := kk
   exact bb4
  ·clear hR hy k0 k1 k2 g0 g1 g2
   gi_wp2
   rw [Exit.noGoto_normal]
   go_end0
   exact ⟨⟨_, rfl⟩, .inr ⟨_, trivial, KI⟩⟩) : G := h
theorem bb1 (h : G := by
 clear hR hy iQ yj hZ
 gi_wp2
 rw [Exit.noGoto_normal]
 go_end0
 exact ⟨⟨_, rfl⟩, .inr ⟨_, trivial, KI⟩⟩) : G := h
theorem bb2 (h : G := by
 exact hb3.grown gp (by have := hb3.size; omega) (fun k e => by have := Option.some.inj e; omega)) : G := h
theorem bb3 (h : G := by
 have p0 := (r0.kept gp (fun e => by have := Option.some.inj e; omega)).cell
 have p1 := (r1.kept gp (fun e => by have := Option.some.inj e; omega)).cell
 have p2 := (r2.kept gp (fun e => by have := Option.some.inj e; omega)).cell
 first
 |clear k_b3_0
  refine ⟨.tuple #[.slice av xs.length cv, .int .i64 0, .int .i64 0], by simp [results, Tryd.results6, go_sem, p0, p1, p2], ⟨xs.map (·.1), 0, 0⟩, _, HA.out, rfl, ?_, ?_⟩
  ·have e1 : (xs.map (·.1)).length = xs.length := by simp
   show (V.putObj D (.deferred none)).ownsRow w.heap.size 33 3 _ (xs.map (·.1)).length _
   rw [e1]
   exact (ownsRow_putObj ho3 _ hK3 rfl).mono (by omega)
  ·exact bb2
 |clear k_b3_1
  refine ⟨.tuple #[.slice none 0 0, .int .i64 o.code, .int .i64 o.place], by simp [results, Tryd.results6, go_sem, p0, p1, p2], o, _, hA, rfl, ?_, ?_⟩
  ·rw [hl]; exact World.ownsRow_nil _ _ _ _
  ·exact bb2) : G := h
theorem bb4 (h : G := by
 have HA := (show Hid (J _ _ ∧ _) from Ai nR hbt hJ V1.out hz zS MM hk)
 obtain ⟨n0, n1, n2, m0, m1, m2⟩ := yu hN'
 obtain ⟨l0, l1, l2, f0, f1, f2⟩ := yu hL'
 first
 |clear k_b4_0
  clear hN' hL' hk MM hR hy mC iQ yj hZ
  gi_wp2
  have rJ : max 1 (st.size : Int) = (st.size : Int) := by omega
  rw [rJ]
  exact ⟨⟨p + st.size, _, HR.out, by omega, by go_num, HA.out.1, HA.out.2.1, HA.out.2.2⟩, by simp [intOf]; omega⟩
 |clear k_b4_1
  clear hN' hL' hk MM hR hy k0 k1 k2 g0 g1 g2
  gi_wp2
  go_roundw
  case rel => exact ⟨p + 1, _, HR.out, by omega, by go_num, HA.out.1, HA.out.2.1, HA.out.2.2⟩
  case measure => simp [intOf]; omega) : G := h
section
structure IF (keep : Nat → Prop) (W0 W1 W' : World) : Prop where
 size : W1.heap.size ≤ W'.heap.size
 same : ∀ k, (keep k ∨ (W0.heap.size ≤ k ∧ k < W1.heap.size)) → W'.heap[k]? = W1.heap[k]?
def Q9 {α : Type} (keep : Nat → Prop) (I : List α → World → Prop) (Ix : Code → List α → World → Prop) (xs : List α) (W0 W1 W3 : World) : Exit → Act → World → Prop
 |.normal, _, W' => KeepsOthers W3 W' ∧ (∀ k, (keep k ∨ (W0.heap.size ≤ k ∧ k < W1.heap.size)) → W'.heap[k]? = W3.heap[k]?) ∧ I xs W'
 |.ret, _, W' => KeepsOthers W3 W' ∧ Ix .ret xs W'
 |.exit id, _, W' => KeepsOthers W3 W' ∧ Ix (.exit id) xs W'
 |.goto t, _, W' => KeepsOthers W3 W' ∧ Ix (.goto t) xs W'
 |.panic _, _, _ => False
 |.outgrown, _, _ => False
def Apart3 {β : Type} (B : Nat) (I : β → World → Prop) : Prop :=
 ∀ s A C row, I s A → A.grownBy C row → (∀ r, row = some r → B ≤ r ∧ r < B + 3) → I s C
theorem kV {A C : World} (h : Below A.heap.size A C) : A.grownBy C none :=
 ⟨h.os, h.tape, h.output, h.size, fun k hk _ => h.block k hk⟩
theorem Apart3.below {β : Type} {B : Nat} {I : β → World → Prop} (h : Apart3 B I) {s : β} {A C : World} (hs : I s A) (hb : Below A.heap.size A C) : I s C :=
 h s A C none hs (kV hb) (fun r e => by cases e)
theorem Apart3.putObj {β : Type} {B : Nat} {I : β → World → Prop} (h : Apart3 B I) {s : β} {A : World} (hs : I s A) (l : Nat) (o : Obj) (h1 : B ≤ l) (h2 : l < B + 3) : I s (A.putObj l o) :=
 h s A _ (some l) hs (grownBy_putObj' A l o) (fun r e => by cases e; exact ⟨h1, h2⟩)
variable {F : Fence} {n : Nat} {P : Program}
theorem py {α : Type} {g : Operand} {ps : Array Tmp} {assign body : Code} {Q : Exit → Act → World → Prop} {a : Act} {w : World}
    (hro : F.round = none) (h1 : 1 ≤ n) {gf : Nat} {lb : Array Value} (hg : a.eval g = .func (.func gf) #[] lb) (hFg : F.fn gf) (eg : ∀ args w, (callFunc gf args).run P w = .ok (.enter gf args) w)
    {encs : α → Array Value} {S Sp : List α → Prop} {Came : List α → α → Prop} {keep : Nat → Prop} (cL : ∀ k, keep k → k ≠ w.heap.size ∧ k ≠ w.heap.size + 1 ∧ k < w.heap.size + 3)
    (hseq : ∀ (l : Nat) (J Jx : List α → World → Prop) (W : World), W.heap.size = w.heap.size + 2 → Below w.heap.size w W →
      (∀ pre A C row, J pre A → A.grownBy C row → (∀ r, row = some r → r = w.heap.size + 2) → J pre C) → (∀ pre A C row, Jx pre A → A.grownBy C row → (∀ r, row = some r → r = w.heap.size + 2) → Jx pre C) →
      (∀ pre A, J pre A → w.heap.size + 2 ≤ A.heap.size) →
      (∀ pre x W0 W1, J pre W0 → w.heap.size + 2 < W0.heap.size → Below W0.heap.size W0 W1 → Came pre x → YieldAt F (n - 1 - 1) P l (encs x) W1 fun e W' =>
        (e = .returned (.bool true) ∧ J (pre ++ [x]) W' ∧ IF keep W0 W1 W') ∨ (e = .returned (.bool false) ∧ Jx (pre ++ [x]) W')) →
      J [] W → CallsIn F (n - 1) P gf (#[.func (.yield l) #[] #[]] ++ lb) W fun e W' => (∃ v, e = .returned v) ∧ ((∃ xs, S xs ∧ J xs W') ∨ (∃ pre, Sp pre ∧ Jx pre W')))
    (yD : ∀ x, (encs x).size = ps.size)
    (I : List α → World → Prop) (Ix : Code → List α → World → Prop) (hI : Apart3 w.heap.size I) (Te : ∀ c, Apart3 w.heap.size (Ix c)) (h0 : I [] w) (a₁ : α → Nat → Act) (box : α → Obj)
    (KG : ∀ (l : Nat) (x : α) (W : World) (K : Act → World → Prop), K (a₁ x W.heap.size) (W.alloc (box x)) →
      assign.wpIn (F.inRound l) (n - 1 - 1) P (Exit.then K (fun _ _ _ => False)) { tmps := (ps.zip (encs x)).foldl (fun t (p, v) => t.setIfInBounds p v) a.tmps, defers := [] } W)
    (SY : ∀ (l : Nat) (pre : List α) (x : α) (W0 W1 W3 : World) (r : Loop), I pre W0 → w.heap.size + 2 < W0.heap.size → Below W0.heap.size W0 W1 → Came pre x → W3 = (W1.alloc (box x)).putObj (w.heap.size + 1) (.loop r) → I pre W3 →
      body.wpIn (F.inRound l) (n - 1 - 1) P (Q9 keep I Ix (pre ++ [x]) W0 W1 W3) (a₁ x W1.heap.size) W3)
    (SN : ∀ (D : Nat) (xs : List α) (W : World), w.heap.size ≤ D → S xs → I xs W → W.heap[D]? = some (.deferred (some [])) → Q .normal { a with defers := { target := .collected D, args := #[] } :: a.defers } W)
    (RN : ∀ (D : Nat) (c : Code) (pre : List α) (W : World), w.heap.size ≤ D → Sp pre → Ix c pre W → W.heap[D]? = some (.deferred (some [])) → c.wpIn F n P Q { a with defers := { target := .collected D, args := #[] } :: a.defers } W) :
    (Code.rangeFunc g ps assign body).wpIn F n P Q a w := by
  refine wpIn_rangeFunc ?_
  intro fn Om
  rw [hro]
  obtain ⟨rec, pd⟩ : ∃ rec : LoopState → Option Code → Loop, rec = fun st pe => { state := st, pending := pe, fn, tmps := a.tmps, params := ps, assign, body, defers := w.heap.size } := ⟨_, rfl⟩
  obtain ⟨W1, Hm⟩ : ∃ W1, (w.alloc (.deferred (some []))).alloc (.loop (rec .ready none)) = W1 := ⟨_, rfl⟩
  have KH : W1.heap[w.heap.size + 1]? = some (.loop (rec .ready none)) := by
    rw [← Hm]; have := World.alloc_heap_new (w.alloc (.deferred (some []))) (.loop (rec .ready none)); rwa [World.size_alloc] at this
  have hK1 : W1.heap[w.heap.size]? = some (.deferred (some [])) := by
    rw [← Hm]; exact (Below.heap_alloc _ _ _ (by simp)).trans (World.alloc_heap_new w _)
  have Qc : Below w.heap.size w W1 := by rw [← Hm]; exact ((Below.refl _ w).alloc lr _).alloc (by simp) _
  have hI1 : I [] W1 := hI.below h0 Qc
  have vU : W1.heap.size = w.heap.size + 2 := by rw [← Hm]; simp
  refine ⟨w.heap.size + 1, [{ target := .collected w.heap.size, args := #[] }], W1, { target := .fn (.func gf) lb, args := #[.func (.yield (w.heap.size + 1)) #[] #[]] }, W1, gf,
    #[.func (.yield (w.heap.size + 1)) #[] #[]] ++ lb, W1, ?_, ?_, ?_, ?_, fun _ => h1, ?_⟩
  · rw [← Hm, pd]; exact run_enterLoop_outer _ _ _ _ _
  · simp only [resolve, hg]
    simp [go_sem]
  · intro f' hf'; simp [Target.leads] at hf'; subst hf'; exact hFg
  · simp [invoke, go_sem, eg]
  · have tL : ∀ {A C : World} {row : Option Nat} {k : Nat} {o : Obj}, A.grownBy C row → (∀ r, row = some r → r = w.heap.size + 2) → k < w.heap.size + 2 → A.heap[k]? = some o → C.heap[k]? = some o := fun vY hr hk ho => by
      rw [vY.block _ (Array.getElem?_eq_some_iff.1 ho).1 (fun e => by have := hr _ e.symm; omega)]; exact ho
    refine (hseq (w.heap.size + 1)
      (fun pre W => I pre W ∧ W.heap[w.heap.size + 1]? = some (.loop (rec .ready none)) ∧ W.heap[w.heap.size]? = some (.deferred (some [])))
      (fun pre W => ∃ c, Ix c pre W ∧ W.heap[w.heap.size + 1]? = some (.loop (rec .done (some c))) ∧ W.heap[w.heap.size]? = some (.deferred (some [])))
      W1 vU Qc
      (fun s A C row hs vY hr => ⟨hI s A C row hs.1 vY (fun r e => by have := hr r e; omega), tL vY hr (by omega) hs.2.1, tL vY hr (by omega) hs.2.2⟩)
      (fun s A C row hs vY hr => by
        obtain ⟨c, hc, hl, hk⟩ := hs
        exact ⟨c, Te c s A C row hc vY (fun r e => by have := hr r e; omega), tL vY hr (by omega) hl, tL vY hr (by omega) hk⟩)
      (fun pre A hs => by have := (Array.getElem?_eq_some_iff.1 hs.2.1).1; omega)
      ?_ ⟨hI1, KH, hK1⟩).mono ?_
    ·
      rintro pre x W0 W ⟨hi, Ej, zL⟩ qm hb Hj
      have hl : W.heap[w.heap.size + 1]? = some (.loop (rec .ready none)) := (hb.block _ (by omega)).trans Ej
      have hk : W.heap[w.heap.size]? = some (.deferred (some [])) := (hb.block _ (by omega)).trans zL
      have zR := hb.size
      have hy := run_yield (P := P) (args := encs x) hl (by rw [pd]; exact yD x)
      rw [pd] at hy
      have Sj : (W.alloc (box x)).heap[w.heap.size + 1]? = some (.loop (rec .ready none)) := (Below.heap_alloc W _ _ (by omega)).trans hl
      have Sr : (W.alloc (box x)).heap[w.heap.size]? = some (.deferred (some [])) := (Below.heap_alloc W _ _ (by omega)).trans hk
      refine ⟨fn, _, assign, body, hy, roundIn_of_wpIn Om (KG _ x W _ ⟨_, run_beginRound Sj (by rw [pd]), ?_⟩)⟩
      obtain ⟨W3, yk⟩ : ∃ W3, (W.alloc (box x)).putObj (w.heap.size + 1) (.loop { rec .ready none with state := .busy }) = W3 := ⟨_, rfl⟩
      have hl2 : W3.heap[w.heap.size + 1]? = some (.loop { rec .ready none with state := .busy }) := by rw [← yk]; exact World.putObj_heap_same (by rw [World.size_alloc]; omega)
      have oT : W3.heap[w.heap.size]? = some (.deferred (some [])) := by rw [← yk]; exact (World.putObj_heap_other (by omega)).trans Sr
      have EV : I pre W3 := by rw [← yk]; exact hI.putObj (hI.below hi (hb.trans (((Below.refl _ W).alloc lr _).mono zR))) _ _ (by omega) (by omega)
      have fX : W.heap.size ≤ W3.heap.size := by rw [← yk]; simp
      have Q1 : ∀ k, (keep k ∨ (W0.heap.size ≤ k ∧ k < W.heap.size)) → W3.heap[k]? = W.heap[k]? := fun k qW => by
        have fE : k ≠ w.heap.size + 1 := qW.elim (fun h => (cL k h).2.1) (fun h => by omega)
        have bm : k < W.heap.size := qW.elim (fun h => by have := (cL k h).2.2; omega) (fun h => h.2)
        rw [← yk]
        exact (World.putObj_heap_other fE).trans (Below.heap_alloc W _ _ bm)
      rw [yk]
      refine wpIn_mono (SY _ pre x W0 W W3 _ hi qm hb Hj yk.symm EV) ?_
      have fin : ∀ (jump : Option Code) (W4 : World), KeepsOthers W3 W4 →
          (Instr.endRound (w.heap.size + 1) jump).run P W4 = .ok (.bool jump.isNone) (W4.putObj (w.heap.size + 1) (.loop (rec (if jump.isNone then .ready else .done) jump))) ∧
          (W4.putObj (w.heap.size + 1) (.loop (rec (if jump.isNone then .ready else .done) jump))).heap[w.heap.size + 1]? = some (.loop (rec (if jump.isNone then .ready else .done) jump)) ∧
          (W4.putObj (w.heap.size + 1) (.loop (rec (if jump.isNone then .ready else .done) jump))).heap[w.heap.size]? = some (.deferred (some [])) := fun jump W4 vM => by
        have Mt := vM.same _ _ hl2 rfl
        have := run_endRound (P := P) jump Mt
        rw [pd] at this ⊢
        exact ⟨this, World.putObj_heap_same (Array.getElem?_eq_some_iff.1 Mt).1, (World.putObj_heap_other (by omega)).trans (vM.same _ _ oT rfl)⟩
      rintro e a3 W4 hp
      cases e with
      | normal =>
        obtain ⟨vM, RS, Ol⟩ := hp
        obtain ⟨hr, I1, ES⟩ := fin none W4 vM
        refine ⟨_, _, hr, .inl ⟨rfl, ⟨hI.putObj Ol _ _ (by omega) (by omega), I1, ES⟩, ⟨?_, fun k qW => ?_⟩⟩⟩
        · have := vM.size; simp; omega
        · have fE : k ≠ w.heap.size + 1 := qW.elim (fun h => (cL k h).2.1) (fun h => by omega)
          exact (World.putObj_heap_other fE).trans ((RS k qW).trans (Q1 k qW))
      | ret =>
        obtain ⟨vM, Ol⟩ := hp
        obtain ⟨hr, I1, ES⟩ := fin (some .ret) W4 vM
        exact ⟨_, _, hr, .inr ⟨rfl, .ret, (Te _).putObj Ol _ _ (by omega) (by omega), I1, ES⟩⟩
      | exit id =>
        obtain ⟨vM, Ol⟩ := hp
        obtain ⟨hr, I1, ES⟩ := fin (some (.exit id)) W4 vM
        exact ⟨_, _, hr, .inr ⟨rfl, .exit id, (Te _).putObj Ol _ _ (by omega) (by omega), I1, ES⟩⟩
      | goto t =>
        obtain ⟨vM, Ol⟩ := hp
        obtain ⟨hr, I1, ES⟩ := fin (some (.goto t)) W4 vM
        exact ⟨_, _, hr, .inr ⟨rfl, .goto t, (Te _).putObj Ol _ _ (by omega) (by omega), I1, ES⟩⟩
      | panic ch => exact hp.elim
      | outgrown => exact hp.elim
    ·
      rintro e W2 ⟨⟨v, rfl⟩, (⟨xs, hS, hi, hl, hk⟩ | ⟨pre, hSp, c, hi, hl, hk⟩)⟩
      · exact ⟨none, _, by have := run_endLoop (P := P) hl (by rw [pd]; simp); rw [pd] at this; exact this, SN _ xs _ lr hS (hI.putObj hi _ _ (by omega) (by omega)) ((World.putObj_heap_other (by omega)).trans hk)⟩
      · exact ⟨some c, _, by have := run_endLoop (P := P) hl (by rw [pd]; simp); rw [pd] at this; exact this, RN _ c pre _ lr hSp ((Te c).putObj hi _ _ (by omega) (by omega)) ((World.putObj_heap_other (by omega)).trans hk)⟩
end
section
open Go.RowKit Go.Shelf
attribute [local go_sem] Oper.semAt_some
abbrev C2 := Tok × Int
def Db (x : C2) : Array Value := #[.agg #[.int .i64 x.1.kind, .string x.1.text, .int .i64 x.1.place], .int .i64 x.2]
def uJ (acc : List Tok) : List C2 := acc.map fun t => (t, 0)
def Ak (s : List UInt8) (pre : List C2) (x : C2) : Prop :=
 ∃ p acc, Reach s p acc ∧ pre = uJ acc ∧ p ≤ s.length ∧ ((∃ k t d, fB (s.drop p) (fS acc) = .tok k t d ∧ x = (⟨k, t, p⟩, 0)) ∨ (fB (s.drop p) (fS acc) = .bad ∧ x = (⟨0, ⟨#[]⟩, p⟩, 4)))
def Pg (s : List UInt8) (xs : List C2) : Prop := (∃ p acc, Reach s p acc ∧ xs = uJ acc ∧ s.length < p) ∨ ∃ x ∈ xs, x.2 ≠ 0
def iI (acc : List Tok) : Tok := acc.getLast?.getD ⟨0, ⟨#[]⟩, 0⟩
def rD (acc : List Tok) : Obj := .cells #[.int .i64 (iI acc).kind, .string (iI acc).text, .int .i64 (iI acc).place] 33
structure BS (s : ByteArray) (bt B : Nat) (acc : List Tok) (wr : World) : Prop where
 text : wr.cell? ⟨bt, 0, none⟩ = some (.string s)
 words : cg wr 1 aS
 signs : cg wr 0 aH
 last : wr.heap[B + 2]? = some (rD acc)
def B1 (base bt B k : Nat) : Prop := k < base ∨ k = bt ∨ k = B + 2
theorem tv {n : Nat} {P : Program} {c : Code} {Q : Exit → Act → World → Prop} {a : Act} {w : World} (h : c.wpIn Fence.wide n P (Exit.noGoto Q) a w) : (Code.scope c).wpIn Fence.wide n P Q a w :=
 wpIn_wide.2 (wp_scope_straight (wpIn_wide.1 h))
theorem Fj (l : List UInt8) {k : Int} {t : ByteArray} {d : Nat} (h : bp l = .tok k t d) : d = t.size := by
 unfold bp at h
 split at h
 ·cases h; rfl
 split at h
 ·split at h
  ·cases h
  ·cases h; exact (lU l).symm
 split at h
 ·split at h
  ·cases h; exact (lU l).symm
  ·cases h
 split at h
 ·cases h
 ·cases h; rfl
theorem AJ (l : List UInt8) (d : Nat) : bp l ≠ .skip d := by
 intro h
 unfold bp at h
 repeat' (split at h)
 all_goals cases h
theorem AN (l : List UInt8) : (∃ d, bp l = .tok (fI l) (fD l) d ∧ gj l = 0 ∧ d = (fD l).size) ∨ (bp l = .bad ∧ fI l = 0 ∧ fD l = ⟨#[]⟩ ∧ gj l = 4) := by
 cases h : bp l with
 |skip d => exact absurd h (AJ l d)
 |tok k t d =>
  refine .inl ⟨d, ?_, ?_, ?_⟩
  ·unfold fI fD; rw [h]
  ·unfold gj; rw [h]
  ·unfold fD; rw [h]; exact Fj l h
 |bad =>
  refine .inr ⟨rfl, ?_, ?_, ?_⟩
  ·unfold fI; rw [h]
  ·unfold fD; rw [h]
  ·unfold gj; rw [h]
theorem td (s : ByteArray) (k : Nat) (w : World) (hs : s.size ≤ 65536) (hk : k < s.size) (hr : cg w 1 aS) (hg : cg w 0 aH) (hz : 1 < w.heap.size) (hQ : 0 < w.heap.size) :
  Calls Tryd.prog 40 #[.string s, .int .i64 k] w fun e w' => e = .returned (.tuple #[.agg #[.int .i64 (fI (s.data.toList.drop k)), .string (fD (s.data.toList.drop k)), .int .i64 k], .int .i64 (gj (s.data.toList.drop k))]) ∧ Below w.heap.size w w' :=
 Be s k w hs hk hr hg hz hQ
theorem A0 (s : ByteArray) (p : Nat) (hp : p < s.size) (c : Int) (hc : (s[p].toNat : Int) = c) :
  Lib.hasPrefix (s.extract p s.size).data.toList (⟨#[47, 47]⟩ : ByteArray).data.toList = decide (c = 47 ∧ ∃ h : p + 1 < s.size, (s[p + 1].toNat : Int) = 47) := by
 rw [Lib.extract_to_end, kS s p hp]
 have hh := sK s p
 unfold Lib.hasPrefix
 rw [Bool.eq_iff_iff, decide_eq_true_eq, ← hh]
 have zY : (47 : UInt8) = s[p] ↔ c = 47 := by
  constructor
  ·intro e; rw [← hc, ← e]; rfl
  ·intro e
   have : (47 : UInt8).toNat = s[p].toNat := by show 47 = s[p].toNat; omega
   exact UInt8.toNat_inj.1 this
 generalize s.data.toList.drop (p + 1) = r
 cases r with
 |nil => simp [List.isPrefixOf]
 |cons b r =>
  simp only [List.isPrefixOf, Bool.and_true, Bool.and_eq_true, beq_iff_eq, List.head?_cons, Option.some.injEq]
  rw [zY]
  exact ⟨fun ⟨x, y⟩ => ⟨x, y.symm⟩, fun ⟨x, y⟩ => ⟨x, y.symm⟩⟩
theorem xu (acc : List Tok) : fS acc = mD (iI acc).kind (iI acc).text := by
 unfold fS iI
 cases acc.getLast? with
 |none => rfl
 |some t => rfl
theorem D9 (acc : List Tok) (t : Tok) : iI (acc ++ [t]) = t := by simp [iI]
theorem Gf (acc : List Tok) (t : Tok) : uJ (acc ++ [t]) = uJ acc ++ [(t, 0)] := by simp [uJ]
theorem xr {s : ByteArray} {bt B : Nat} {acc : List Tok} {A C : World} (h : BS s bt B acc A) (hb : Below A.heap.size A C) (h1 : bt < A.heap.size) (h2 : B + 2 < A.heap.size) : BS s bt B acc C :=
 ⟨(hb.cell (p := ⟨bt, 0, none⟩) h1).trans h.text, gz h.words hb (by omega), gz h.signs hb (by omega), (hb.block _ h2).trans h.last⟩
theorem yu {W : World} {b : Nat} {x y z : Value} {t : TypeId} (h : W.heap[b]? = some (.cells #[x, y, z] t)) :
  W.cell? ⟨b, 0, none⟩ = some x ∧ W.cell? ⟨b, 1, none⟩ = some y ∧ W.cell? ⟨b, 2, none⟩ = some z ∧ W.frozen? ⟨b, 0, none⟩ = false ∧ W.frozen? ⟨b, 1, none⟩ = false ∧ W.frozen? ⟨b, 2, none⟩ = false := by
 refine ⟨?_, ?_, ?_, ?_, ?_, ?_⟩ <;> simp [World.cell?, World.frozen?, h]
theorem NF {W : World} {b : Nat} {x y z x' y' z' : Value} {t : TypeId} (h : W.heap[b]? = some (.cells #[x, y, z] t)) :
  W.grownBy (((W.setCell ⟨b, 0, none⟩ x').setCell ⟨b, 1, none⟩ y').setCell ⟨b, 2, none⟩ z') (some b) ∧ (((W.setCell ⟨b, 0, none⟩ x').setCell ⟨b, 1, none⟩ y').setCell ⟨b, 2, none⟩ z').heap[b]? = some (.cells #[x', y', z'] t) ∧ (((W.setCell ⟨b, 0, none⟩ x').setCell ⟨b, 1, none⟩ y').setCell ⟨b, 2, none⟩ z').heap.size = W.heap.size := by
 refine ⟨⟨rfl, rfl, rfl, by simp [World.setCell], fun k hk fE => ?_⟩, ?_, by simp [World.setCell]⟩
 ·have Og : k ≠ b := fun e => fE (by rw [e])
  rw [Below.heap_setCell _ _ _ _ Og, Below.heap_setCell _ _ _ _ Og, Below.heap_setCell _ _ _ _ Og]
 ·simp [World.setCell, Array.getElem?_modify, h]
theorem Ai {s : ByteArray} {base bt B : Nat} {J : List C2 → World → Prop} {acc : List Tok} {t : Tok} {W0 W1 W' : World} (nR : 1 < base) (hbt : bt < B) (hJ : ∀ pre A C row, J pre A → A.grownBy C row → (∀ r, row = some r → r = B + 2) → J pre C)
  (vZ : BS s bt B acc W0) (hz : B + 2 < W0.heap.size) (hb : Below W0.heap.size W0 W1) (MM : J (uJ acc ++ [(t, 0)]) W') (hk : IF (B1 base bt B) W0 W1 W') :
  J (uJ (acc ++ [t])) (((W'.setCell ⟨B + 2, 0, none⟩ (.int .i64 t.kind)).setCell ⟨B + 2, 1, none⟩ (.string t.text)).setCell ⟨B + 2, 2, none⟩ (.int .i64 t.place)) ∧ B + 2 < (((W'.setCell ⟨B + 2, 0, none⟩ (.int .i64 t.kind)).setCell ⟨B + 2, 1, none⟩ (.string t.text)).setCell ⟨B + 2, 2, none⟩ (.int .i64 t.place)).heap.size ∧
   BS s bt B (acc ++ [t]) (((W'.setCell ⟨B + 2, 0, none⟩ (.int .i64 t.kind)).setCell ⟨B + 2, 1, none⟩ (.string t.text)).setCell ⟨B + 2, 2, none⟩ (.int .i64 t.place)) := by
 have hL : W'.heap[B + 2]? = some (rD acc) := (hk.same _ (.inl (.inr (.inr rfl)))).trans ((hb.block _ hz).trans vZ.last)
 obtain ⟨hg, hl, bP⟩ := NF (x' := .int .i64 t.kind) (y' := .string t.text) (z' := .int .i64 t.place) hL
 have mC := hk.size
 have hbs := hb.size
 have old : ∀ k, (k < base ∨ k = bt) → k < W0.heap.size → k ≠ B + 2 → (((W'.setCell ⟨B + 2, 0, none⟩ (.int .i64 t.kind)).setCell ⟨B + 2, 1, none⟩ (.string t.text)).setCell ⟨B + 2, 2, none⟩ (.int .i64 t.place)).heap[k]? = W0.heap[k]? := fun k qW bm fE => by
  rw [hg.block k (by omega) (fun e => fE (Option.some.inj e))]
  exact (hk.same k (.inl (qW.elim .inl fun e => .inr (.inl e)))).trans (hb.block k bm)
 refine ⟨?_, by omega, ⟨?_, fun i hi => ?_, fun i hi => ?_, ?_⟩⟩
 ·rw [Gf]; exact hJ _ _ _ _ MM hg (fun r e => (Option.some.inj e).symm)
 ·exact (World.cell?_of_block (old bt (.inr rfl) (by omega) (by omega))).trans vZ.text
 ·exact (World.cell?_of_block (a := ⟨1, i, none⟩) (old 1 (.inl (by omega)) (by omega) (by omega))).trans (vZ.words i hi)
 ·exact (World.cell?_of_block (a := ⟨0, i, none⟩) (old 0 (.inl (by omega)) (by omega) (by omega))).trans (vZ.signs i hi)
 ·unfold rD; rw [D9]; exact hl
theorem Is (n : Nat) (hn : 1 ≤ n) (s : ByteArray) (hs : s.size ≤ 65536) (base bt B l : Nat) (nR : 1 < base) (hbb : base ≤ B) (hbt : bt < B) (J Jx : List C2 → World → Prop) (W : World) (hWs : W.heap.size = B + 2)
    (hJ : ∀ pre A C row, J pre A → A.grownBy C row → (∀ r, row = some r → r = B + 2) → J pre C)
    (hY : ∀ pre x W0 W1, J pre W0 → B + 2 < W0.heap.size → Below W0.heap.size W0 W1 → Ak s.data.toList pre x → YieldAt Fence.wide (n - 1) Tryd.prog l (Db x) W1 fun e W' =>
      (e = .returned (.bool true) ∧ J (pre ++ [x]) W' ∧ IF (B1 base bt B) W0 W1 W') ∨ (e = .returned (.bool false) ∧ Jx (pre ++ [x]) W'))
    (h0 : J [] W) (ht : W.cell? ⟨bt, 0, none⟩ = some (.string s)) (hw : cg W 1 aS) (hg : cg W 0 aH) :
    CallsIn Fence.wide n Tryd.prog 35 #[.func (.yield l) #[] #[], .pointer (some ⟨bt, 0, none⟩)] W fun e W' => (∃ v, e = .returned v) ∧ ((∃ xs, Pg s.data.toList xs ∧ J xs W') ∨ (∃ pre, True ∧ Jx pre W')) := by
  refine callsIn_of_wp Tryd.func35 rfl trivial ?_ rfl
  simp only [Tryd.ntmps35, List.size_toArray, List.length_cons, List.length_nil, Nat.reduceAdd, Nat.reduceSub, Array.replicate_succ, Array.replicate_zero, List.push_toArray, List.append_toArray, List.nil_append, List.cons_append]
  refine tv ?_
  gi_wp2
  refine wpIn_label ?_
  gi_wp2
  gi_loopw [4] (fun i wr => ∃ (p : Nat) (acc : List Tok), Reach s.data.toList p acc ∧ p ≤ s.size + 1 ∧ i = .int .i64 p ∧ J (uJ acc) wr ∧ B + 2 < wr.heap.size ∧ BS s bt B acc wr) (fun i _ => s.size + 2 - (intOf i).toNat)
  case atStart =>
    have sL : Below W.heap.size W (W.alloc (.cells #[.int .i64 0, .string ⟨#[]⟩, .int .i64 0] 33)) := bA
    refine ⟨0, [], .start, by omega, rfl, hJ _ _ _ none h0 (kV sL) (fun r e => by cases e), by simp; omega, ⟨(sL.cell (p := ⟨bt, 0, none⟩) (by show bt < _; omega)).trans ht, gz hw sL (by omega), gz hg sL (by omega), ?_⟩⟩
    have := World.alloc_heap_new W (.cells #[.int .i64 0, .string ⟨#[]⟩, .int .i64 0] 33)
    rw [hWs] at this
    exact this
  case round =>
    obtain ⟨p, acc, cz, hp, rfl, hJr, hz, vZ⟩ := hrel
    clear h0 ht hw hg hWs
    have GG := vZ.text
    have hL : s.data.toList.length = s.size := rfl
    by_cases yD : s.size < p
    · have HS : Hid (Pg s.data.toList (uJ acc)) := .inl ⟨p, acc, cz, rfl, yD⟩
      gi_wp2
      rw [Exit.noGoto_normal]
      go_end0
      exact ⟨⟨_, rfl⟩, .inl ⟨_, HS.out, hJr⟩⟩
    have zF : p ≤ s.size := by omega
    have zR : bt < wr.heap.size := by omega
    have MH : Below wr.heap.size wr (wr.alloc (.cells #[.int .i64 5, .string ⟨#[]⟩, .int .i64 p] 33)) := bA
    have hJN : J (uJ acc) (wr.alloc (.cells #[.int .i64 5, .string ⟨#[]⟩, .int .i64 p] 33)) := hJ _ _ _ none hJr (kV MH) (fun r e => by cases e)
    have MB := xr vZ MH zR hz
    have hzN : B + 2 < (wr.alloc (.cells #[.int .i64 5, .string ⟨#[]⟩, .int .i64 p] 33)).heap.size := by simp; omega
    have HJN := (show Hid (J (uJ acc) _) from hJN)
    have PF := (show Hid (BS s bt B acc _) from MB)
    have V1 := (show Hid (BS s bt B acc wr) from vZ)
    have M6 : Hid (Reach s.data.toList p acc) := cz
    have HJr : Hid (J (uJ acc) wr) := hJr
    have HbN := (show Hid (Below wr.heap.size wr _) from MH)
    have lh : Hid (wr.heap[B + 2]? = some (rD acc)) := vZ.last
    clear vZ MB hJN hJr MH cz
    have xm : ((p : Int) == (s.size : Int)) = true ∨ (((p : Int) == (s.size : Int)) = false ∧ ∃ hp : p < s.size, (s[p].toNat : Int) = 10) ∨ (((p : Int) == (s.size : Int)) = false ∧ ∃ hp : p < s.size, (s[p].toNat : Int) ≠ 10) := by
      by_cases h : p < s.size
      · by_cases h2 : (s[p].toNat : Int) = 10
        · exact .inr (.inl ⟨bn (by omega), h, h2⟩)
        · exact .inr (.inr ⟨bn (by omega), h, h2⟩)
      · exact .inl (beq_iff_eq.2 (by omega))
    have zO : Hid (((p : Int) == (s.size : Int)) = true ∨ (((p : Int) == (s.size : Int)) = false ∧ ∃ hp : p < s.size, (s[p].toNat : Int) = 10) → fB (s.data.toList.drop p) (fS acc) = if fS acc then .tok 5 ⟨#[]⟩ 1 else .skip 1) := fun h => step_end s p _ (by
      rcases h with h | ⟨_, h⟩
      · exact .inl (by have := beq_iff_eq.1 h; omega)
      · exact .inr h)
    rcases xm with hq | ⟨hq, GQ, hc⟩ | ⟨hq, GQ, SV⟩
    · have aF := zO.out (.inl hq)
      exact bb0
    · have aF := zO.out (.inr ⟨hq, GQ, hc⟩)
      exact bb0
    · clear zO lh
      obtain ⟨c, hc⟩ : ∃ c : Int, (s[p].toNat : Int) = c := ⟨_, rfl⟩
      have lA : c ≠ 10 := by rw [← hc]; exact SV
      have e10 : (c == 10) = false := bn lA
      clear SV
      cases mG : b9 c
      · have We : Hid (b9 c = false) := mG
        have Oa : Lib.hasPrefix (s.extract p s.size).data.toList (⟨#[47, 47]⟩ : ByteArray).data.toList = decide (c = 47 ∧ ∃ h : p + 1 < s.size, (s[p + 1].toNat : Int) = 47) := A0 s p GQ c hc
        by_cases uW : c = 47 ∧ ∃ h : p + 1 < s.size, (s[p + 1].toNat : Int) = 47
        · have HPf : Hid (Lib.hasPrefix (s.extract p s.size).data.toList (⟨#[47, 47]⟩ : ByteArray).data.toList = true) := by unfold Hid; rw [Oa]; exact decide_eq_true uW
          have HR : Hid (Reach s.data.toList (p + b6 (s.data.toList.drop p)) acc) := .skip M6.out (by omega) (rs s p _ GQ c hc mG uW.1 uW.2)
          have mB := zp s p GQ c hc uW.1
          have hle := Co (s.data.toList.drop p)
          rw [pM] at hle
          clear Oa uW mG lA
          gi_wp2_with (first | (refine ⟨trivial, ?_⟩; gi_at_call 37; refine (callsIn_wide.2 (oR _ _)).mono ?_; rw [We.out]; rintro e w' ⟨rfl, rfl⟩) | (refine ⟨trivial, ?_⟩; gi_at_call 38; refine (callsIn_wide.2 (Tryd.strings_HasPrefix _ _ _)).mono ?_; rw [HPf.out]; rintro e w' ⟨rfl, rfl⟩) | (refine ⟨trivial, ?_⟩; gi_at_call 39; refine (callsIn_wide.2 (Ee _ _ _ hs zF)).mono ?_; rintro e w' ⟨rfl, rfl⟩))
          go_roundw
          case rel => exact ⟨p + b6 (s.data.toList.drop p), acc, HR.out, by omega, by go_num, HJN.out, hzN, PF.out⟩
          case measure => simp [intOf]; omega
        · have HPf : Hid (Lib.hasPrefix (s.extract p s.size).data.toList (⟨#[47, 47]⟩ : ByteArray).data.toList = false) := by unfold Hid; rw [Oa]; exact decide_eq_false uW
          have aF := yX s p (fS acc) GQ c hc lA mG uW
          clear Oa uW mG lA
          rcases AN (s.data.toList.drop p) with ⟨d, h1, h2, h3⟩ | ⟨h1, h2, h3, h4⟩
          · have hd := (FO (s.data.toList.drop p) (fS acc)).2 _ _ _ (aF.trans h1)
            rw [pM] at hd
            have HR : Hid (Reach s.data.toList (p + d) (acc ++ [⟨fI (s.data.toList.drop p), fD (s.data.toList.drop p), p⟩])) := .tok M6.out (by omega) (aF.trans h1)
            have HC : Hid (Ak s.data.toList (uJ acc) (⟨fI (s.data.toList.drop p), fD (s.data.toList.drop p), p⟩, 0)) := ⟨p, acc, M6.out, rfl, by omega, .inl ⟨_, _, d, aF.trans h1, rfl⟩⟩
            generalize hsk : fI (s.data.toList.drop p) = sk at *
            generalize RM : fD (s.data.toList.drop p) = st at *
            have HK : Hid (fI (s.data.toList.drop p) = sk) := hsk
            have HT : Hid (fD (s.data.toList.drop p) = st) := RM
            have HCo : Hid (gj (s.data.toList.drop p) = 0) := h2
            have Sh : Hid (wr.heap[B + 2]? = some (rD acc)) := V1.out.last
            clear hsk RM aF h1 h2
            subst h3
            obtain ⟨hd1, hd2⟩ := hd
            have hd3 : p + st.size ≤ s.size := by omega
            clear hd2
            gi_wp2_with (first | (refine ⟨trivial, ?_⟩; gi_at_call 37; refine (callsIn_wide.2 (oR _ _)).mono ?_; rw [We.out]; rintro e w' ⟨rfl, rfl⟩) | (refine ⟨trivial, ?_⟩; gi_at_call 38; refine (callsIn_wide.2 (Tryd.strings_HasPrefix _ _ _)).mono ?_; rw [HPf.out]; rintro e w' ⟨rfl, rfl⟩) | (refine ⟨trivial, ?_⟩; gi_at_call 40; refine (callsIn_wide.2 (td _ _ _ hs GQ PF.out.words PF.out.signs (by first | (simp; omega) | simp) (by first | (simp; omega) | simp))).mono ?_; rw [HK.out, HT.out, HCo.out]; rintro e w1 ⟨rfl, hb1⟩; obtain ⟨iQ, yj⟩ := pT hb1; have hZ := hb1.size; simp only [World.size_alloc] at hZ; have ML := (hb1.block wr.heap.size (by simp)).trans (World.alloc_heap_new wr _); obtain ⟨rK, Mt, Ef⟩ := NF (x' := .int .i64 sk) (y' := .string st) (z' := .int .i64 p) ML; have zS : Below wr.heap.size wr (((w1.setCell ⟨wr.heap.size, 0, none⟩ (.int .i64 sk)).setCell ⟨wr.heap.size, 1, none⟩ (.string st)).setCell ⟨wr.heap.size, 2, none⟩ (.int .i64 p)) := (((HbN.out.trans (hb1.mono (by simp))).setCell lr _).setCell lr _).setCell lr _; obtain ⟨fn, tmps, assign, bod, hy, hR⟩ := hY _ _ wr (((w1.setCell ⟨wr.heap.size, 0, none⟩ (.int .i64 sk)).setCell ⟨wr.heap.size, 1, none⟩ (.string st)).setCell ⟨wr.heap.size, 2, none⟩ (.int .i64 p)) HJr.out hz zS HC.out; simp only [Db] at hy; have HL3 := (show Hid (_ = some (Obj.cells _ _ _)) from Mt); have lZ := (show Hid (_ = w1.heap.size) from Ef); clear Mt rK Ef ML))
            refine hR.mono ?_
            rintro e W' (⟨rfl, MM, hk⟩ | ⟨rfl, KI⟩)
            · have mC := lZ.out
              have hN' := (hk.same wr.heap.size (.inr ⟨Nat.le_refl _, by omega⟩)).trans HL3.out
              have hL' := (hk.same (B + 2) (.inl (.inr (.inr rfl)))).trans ((zS.block (B + 2) hz).trans Sh.out)
              have k_b4_0 := kk
              exact bb4
            · exact bb1
          · have HC : Hid (Ak s.data.toList (uJ acc) (⟨0, ⟨#[]⟩, p⟩, 4)) := ⟨p, acc, M6.out, rfl, by omega, .inr ⟨aF.trans h1, rfl⟩⟩
            have HK : Hid (fI (s.data.toList.drop p) = 0) := h2
            have HT : Hid (fD (s.data.toList.drop p) = ⟨#[]⟩) := h3
            have HCo : Hid (gj (s.data.toList.drop p) = 4) := h4
            clear aF h1 h2 h3 h4
            gi_wp2_with (first | (refine ⟨trivial, ?_⟩; gi_at_call 37; refine (callsIn_wide.2 (oR _ _)).mono ?_; rw [We.out]; rintro e w' ⟨rfl, rfl⟩) | (refine ⟨trivial, ?_⟩; gi_at_call 38; refine (callsIn_wide.2 (Tryd.strings_HasPrefix _ _ _)).mono ?_; rw [HPf.out]; rintro e w' ⟨rfl, rfl⟩) | (refine ⟨trivial, ?_⟩; gi_at_call 40; refine (callsIn_wide.2 (td _ _ _ hs GQ PF.out.words PF.out.signs (by first | (simp; omega) | simp) (by first | (simp; omega) | simp))).mono ?_; rw [HK.out, HT.out, HCo.out]; rintro e w1 ⟨rfl, hb1⟩; obtain ⟨iQ, yj⟩ := pT hb1; have hZ := hb1.size; simp only [World.size_alloc] at hZ; have ML := (hb1.block wr.heap.size (by simp)).trans (World.alloc_heap_new wr _); obtain ⟨rK, Mt, Ef⟩ := NF (x' := .int .i64 0) (y' := .string ⟨#[]⟩) (z' := .int .i64 p) ML; have zS : Below wr.heap.size wr (((w1.setCell ⟨wr.heap.size, 0, none⟩ (.int .i64 0)).setCell ⟨wr.heap.size, 1, none⟩ (.string ⟨#[]⟩)).setCell ⟨wr.heap.size, 2, none⟩ (.int .i64 p)) := (((HbN.out.trans (hb1.mono (by simp))).setCell lr _).setCell lr _).setCell lr _; obtain ⟨fn, tmps, assign, bod, hy, hR⟩ := hY _ _ wr (((w1.setCell ⟨wr.heap.size, 0, none⟩ (.int .i64 0)).setCell ⟨wr.heap.size, 1, none⟩ (.string ⟨#[]⟩)).setCell ⟨wr.heap.size, 2, none⟩ (.int .i64 p)) HJr.out hz zS HC.out; simp only [Db] at hy; have HL3 := (show Hid (_ = some (Obj.cells _ _ _)) from Mt); have lZ := (show Hid (_ = w1.heap.size) from Ef); clear Mt rK Ef ML))
            refine hR.mono ?_
            rintro e W' (⟨rfl, MM, hk⟩ | ⟨rfl, KI⟩)
            · clear hk hR hy iQ yj hZ
              gi_wp2
              rw [Exit.noGoto_normal]
              go_end0
              exact ⟨⟨_, rfl⟩, .inl ⟨_, .inr ⟨_, List.mem_append_right _ (List.mem_singleton.2 rfl), by show (4 : Int) ≠ 0; decide⟩, MM⟩⟩
            · exact bb1
      · have HR : Hid (Reach s.data.toList (p + 1) acc) := .skip M6.out (by omega) (um s p (fS acc) GQ c hc lA mG)
        have We : Hid (b9 c = true) := mG
        clear mG lA
        gi_wp2_with ((refine ⟨trivial, ?_⟩; gi_at_call 37; refine (callsIn_wide.2 (oR _ _)).mono ?_; rw [We.out]; rintro e w' ⟨rfl, rfl⟩))
        go_roundw
        case rel => exact ⟨p + 1, acc, HR.out, by omega, by go_num, HJN.out, hzN, PF.out⟩
        case measure => simp [intOf]; omega
end
section
open Go.RowKit Go.Shelf
attribute [local go_sem] Oper.semAt_some
theorem Ez (s : ByteArray) (w : World) : Calls Tryd.prog 12 #[.string s] w fun e w' => e = .returned (.func (.func 35) #[] #[.pointer (some ⟨w.heap.size, 0, none⟩)]) ∧ w' = w.alloc (.cells #[.string s] 9) := by
 go_enter Tryd.func12, Tryd.ntmps12
 go_wp2
 go_ret
 exact ⟨rfl, rfl⟩
theorem Ed (s : ByteArray) (w : World) (hs : 65536 < s.size) (hm : s.size ≤ maxLen) :
  Calls Tryd.prog 6 #[.string s] w fun e w' => e = .returned (.tuple #[.slice none 0 0, .int .i64 2, .int .i64 0]) ∧ Below w.heap.size w w' := by
 unfold maxLen at hm
 go_enter Tryd.func6, Tryd.ntmps6
 go_wp2
 refine bodyPost_ret (v := .tuple #[.slice none 0 0, .int .i64 2, .int .i64 0]) (by simp [results, Tryd.results6, go_sem]) rfl ⟨rfl, ?_⟩
 exact ((bA).alloc (by simp) _).alloc (by simp; omega) _
theorem me {w : World} {B : Nat} {e : TypeId} {size n : Nat} {v : Value} {xs : List Value} (h : w.ownsRow B e size v n xs) : ∃ a c, v = .slice a n c := by
 rcases h.2 with ⟨rfl, rfl⟩ | ⟨g, cap, _, hv, _⟩
 ·exact ⟨_, _, rfl⟩
 ·exact ⟨_, _, hv⟩
theorem Oy {W0 W1 W3 : World} {l : Nat} {o ob : Obj} (hb : Below W0.heap.size W0 W1) (h3 : W3 = (W1.alloc o).putObj l ob) : W0.grownBy W3 (some l) := by
 subst h3
 have zR := hb.size
 refine ⟨hb.os, hb.tape, hb.output, by simp; omega, fun k hk fE => ?_⟩
 rw [World.putObj_heap_other (fun e => fE (by rw [e])), Below.heap_alloc _ _ _ (by omega)]
 exact hb.block k hk
structure TI (w : World) (pre : List C2) (W : World) : Prop where
 ok : ∀ x ∈ pre, x.2 = 0
 few : pre.length ≤ 4000
 list : ∃ v, Boxed W (w.heap.size + 1 + 1 + 1) 29 v ∧ W.ownsRow (w.heap.size + 8) 33 3 v pre.length (flat (pre.map (·.1)))
 r0 : Boxed W w.heap.size 29 (.slice none 0 0)
 r1 : Boxed W (w.heap.size + 1) 3 (.int .i64 0)
 r2 : Boxed W (w.heap.size + 1 + 1) 3 (.int .i64 0)
 below : Below w.heap.size w W
 size : w.heap.size + 5 ≤ W.heap.size
structure TX (s : ByteArray) (w : World) (c : Code) (pre : List C2) (W : World) : Prop where
 ret : c = .ret
 ans : ∃ (o : Outcome), cC s.data.toList o ∧ o.list = [] ∧ Boxed W w.heap.size 29 (.slice none 0 0) ∧ Boxed W (w.heap.size + 1) 3 (.int .i64 o.code) ∧ Boxed W (w.heap.size + 1 + 1) 3 (.int .i64 o.place)
 below : Below w.heap.size w W
 size : w.heap.size + 5 ≤ W.heap.size
theorem FD (w : World) : Apart3 (w.heap.size + 5) (TI w) := by
 intro pre A C row h hg hr
 obtain ⟨v, hv, ho⟩ := h.list
 have fE : ∀ k, k < w.heap.size + 5 → some k ≠ row := fun k hk e => by have := (hr k e.symm).1; omega
 have hz := hg.size
 refine ⟨h.ok, h.few, ⟨v, hv.kept hg (fE _ (by omega)), ho.kept hg ?_⟩, h.r0.kept hg (fE _ (by omega)), h.r1.kept hg (fE _ (by omega)), h.r2.kept hg (fE _ (by omega)), h.below.grown hg (by have := h.size; omega) (fun k e => by have := (hr k e).1; omega), by have := h.size; omega⟩
 cases hb : v.ownBlock with
 |none => exact .inl rfl
 |some g =>
  refine .inr fun e => ?_
  have := (ho.lt g hb).1
  have := (hr g e.symm).2
  omega
theorem Fh (s : ByteArray) (w : World) (c : Code) : Apart3 (w.heap.size + 5) (TX s w c) := by
 intro pre A C row h hg hr
 obtain ⟨o, ha, hl, b0, b1, b2⟩ := h.ans
 have fE : ∀ k, k < w.heap.size + 5 → some k ≠ row := fun k hk e => by have := (hr k e.symm).1; omega
 have hz := hg.size
 exact ⟨h.ret, ⟨o, ha, hl, b0.kept hg (fE _ (by omega)), b1.kept hg (fE _ (by omega)), b2.kept hg (fE _ (by omega))⟩, h.below.grown hg (by have := h.size; omega) (fun k e => by have := (hr k e).1; omega), by have := h.size; omega⟩
theorem wW {s : ByteArray} {w W3 : World} {pre pre' : List C2} (h : TI w pre W3) (code : Int) (place : Nat) (ha : cC s.data.toList ⟨[], code, place⟩) :
  KeepsOthers W3 (((W3.setCell ⟨w.heap.size, 0, none⟩ (.slice none 0 0)).setCell ⟨w.heap.size + 1, 0, none⟩ (.int .i64 code)).setCell ⟨w.heap.size + 1 + 1, 0, none⟩ (.int .i64 place)).drew ∧
   TX s w .ret pre' (((W3.setCell ⟨w.heap.size, 0, none⟩ (.slice none 0 0)).setCell ⟨w.heap.size + 1, 0, none⟩ (.int .i64 code)).setCell ⟨w.heap.size + 1 + 1, 0, none⟩ (.int .i64 place)).drew := by
 have g1 := grownBy_setCell' W3 w.heap.size (.slice none 0 0)
 have g2 := grownBy_setCell' (W3.setCell ⟨w.heap.size, 0, none⟩ (.slice none 0 0)) (w.heap.size + 1) (.int .i64 code)
 have g3 := grownBy_setCell' ((W3.setCell ⟨w.heap.size, 0, none⟩ (.slice none 0 0)).setCell ⟨w.heap.size + 1, 0, none⟩ (.int .i64 code)) (w.heap.size + 1 + 1) (.int .i64 place)
 have r0 := ((h.r0.set (.slice none 0 0)).kept g2 (fun e => by have := Option.some.inj e; omega)).kept g3 (fun e => by have := Option.some.inj e; omega)
 have r1 := ((h.r1.kept g1 (fun e => by have := Option.some.inj e; omega)).set (.int .i64 code)).kept g3 (fun e => by have := Option.some.inj e; omega)
 have r2 := ((h.r2.kept g1 (fun e => by have := Option.some.inj e; omega)).kept g2 (fun e => by have := Option.some.inj e; omega)).set (.int .i64 place)
 have hb := (((h.below.setCell (p := ⟨w.heap.size, 0, none⟩) lr (.slice none 0 0)).setCell (p := ⟨w.heap.size + 1, 0, none⟩) (by show w.heap.size ≤ w.heap.size + 1; omega) (.int .i64 code)).setCell (p := ⟨w.heap.size + 1 + 1, 0, none⟩) (by show w.heap.size ≤ w.heap.size + 1 + 1; omega) (.int .i64 place)).drew
 have bP : w.heap.size + 5 ≤ (((W3.setCell ⟨w.heap.size, 0, none⟩ (.slice none 0 0)).setCell ⟨w.heap.size + 1, 0, none⟩ (.int .i64 code)).setCell ⟨w.heap.size + 1 + 1, 0, none⟩ (.int .i64 place)).heap.size := by
  have := h.size; have := g1.size; have := g2.size; have := g3.size; omega
 exact ⟨(((KeepsOthers.setCell _ _ _).trans (KeepsOthers.setCell _ _ _)).trans (KeepsOthers.setCell _ _ _)).trans (KeepsOthers.drew _), ⟨rfl, ⟨⟨[], code, place⟩, ha, rfl, r0, r1, r2⟩, hb, bP⟩⟩
theorem KO {w V0 W1 W3 w1 : World} {pre : List C2} {t : Tok} {v v' : Value} {tmp : Obj} (h : TI w pre W3) (h4 : pre.length ≠ 4000) (hz : w.heap.size + 7 < V0.heap.size) (SX : V0.heap.size ≤ W1.heap.size) (hg3z : W1.heap.size ≤ W3.heap.size)
  (hv : Boxed W3 (w.heap.size + 1 + 1 + 1) 29 v) (ho : W3.ownsRow (w.heap.size + 8) 33 3 v pre.length (flat (pre.map (·.1)))) (Ej : ∀ k, v.ownBlock = some k → w.heap.size + 8 ≤ k ∧ k < V0.heap.size)
  (gN : w1.ownsRow (w.heap.size + 8) 33 3 v' (pre.length + 1) (flat (pre.map (·.1)) ++ [.int .i64 t.kind, .string t.text, .int .i64 t.place])) (aD : (W3.alloc tmp).grownBy w1 v.ownBlock) :
  KeepsOthers W3 (w1.setCell ⟨w.heap.size + 1 + 1 + 1, 0, none⟩ v') ∧ (∀ k, (B1 w.heap.size (w.heap.size + 1 + 1 + 1 + 1) (w.heap.size + 5) k ∨ (V0.heap.size ≤ k ∧ k < W1.heap.size)) → (w1.setCell ⟨w.heap.size + 1 + 1 + 1, 0, none⟩ v').heap[k]? = W3.heap[k]?) ∧ TI w (pre ++ [(t, 0)]) (w1.setCell ⟨w.heap.size + 1 + 1 + 1, 0, none⟩ v') := by
 have fE : ∀ k, k < w.heap.size + 8 → some k ≠ v.ownBlock := fun k hk e => by have := (Ej k e.symm).1; omega
 have IW : Boxed w1 (w.heap.size + 1 + 1 + 1) 29 v := (hv.alloc tmp).kept aD (fE _ (by omega))
 have hgs := aD.size
 rw [World.size_alloc] at hgs
 have uR := grownBy_setCell' w1 (w.heap.size + 1 + 1 + 1) v'
 refine ⟨((KeepsOthers.alloc W3 tmp).trans (KeepsOthers.of_grownBy aD (fun j o hj hjo => ?_))).trans (KeepsOthers.setCell _ _ _), fun k hk => ?_, ⟨?_, ?_, ⟨v', IW.set v', ?_⟩, ?_, ?_, ?_, ?_, ?_⟩⟩
 ·rcases ho.2 with ⟨e, _⟩ | ⟨g, cap, cur, e, _, hh, _⟩
  ·rw [e] at hj; cases hj
  ·rw [e] at hj
   obtain rfl : g = j := Option.some.inj hj
   rw [Below.heap_alloc _ _ _ (Array.getElem?_eq_some_iff.1 hh).1, hh] at hjo
   cases hjo; rfl
 ·have mP : k ≠ w.heap.size + 1 + 1 + 1 := by rcases hk with (hk | hk | hk) | hk <;> omega
  have oT : some k ≠ v.ownBlock := fun e => by have := Ej k e.symm; rcases hk with (hk | hk | hk) | hk <;> omega
  have vM : k < W3.heap.size := by rcases hk with (hk | hk | hk) | hk <;> omega
  rw [uR.block k (by omega) (fun e => mP (Option.some.inj e)), aD.block k (by rw [World.size_alloc]; omega) oT, Below.heap_alloc _ _ _ vM]
 ·intro x hx
  rcases List.mem_append.1 hx with hx | hx
  ·exact h.ok x hx
  ·rw [List.mem_singleton.1 hx]
 ·have := h.few; simp; omega
 ·have e1 : flat ((pre ++ [((t, 0) : C2)]).map (·.1)) = flat (pre.map (·.1)) ++ [.int .i64 t.kind, .string t.text, .int .i64 t.place] := by rw [List.map_append]; exact sM _ _
  rw [e1]
  have : (pre ++ [((t, 0) : C2)]).length = pre.length + 1 := by simp
  rw [this]
  refine gN.kept uR ?_
  cases hb : v'.ownBlock with
  |none => exact .inl rfl
  |some g => exact .inr fun e => by have := (gN.lt g hb).1; have := Option.some.inj e; omega
 ·exact ((h.r0.alloc tmp).kept aD (fE _ (by omega))).kept uR (fun e => by have := Option.some.inj e; omega)
 ·exact ((h.r1.alloc tmp).kept aD (fE _ (by omega))).kept uR (fun e => by have := Option.some.inj e; omega)
 ·exact ((h.r2.alloc tmp).kept aD (fE _ (by omega))).kept uR (fun e => by have := Option.some.inj e; omega)
 ·exact ((h.below.alloc h.below.size tmp).grown aD (by rw [World.size_alloc]; omega) (fun k e => by have := (Ej k e).1; omega)).setCell (p := ⟨w.heap.size + 1 + 1 + 1, 0, none⟩) (by show w.heap.size ≤ w.heap.size + 1 + 1 + 1; omega) _
 ·have := uR.size; omega
theorem zw (s : ByteArray) (w : World) (hs : s.size ≤ 65536) (h2 : 1 < w.heap.size) (hw : cg w 1 aS) (hg : cg w 0 aH) :
    Calls Tryd.prog 6 #[.string s] w fun e w' => ∃ o v, cC s.data.toList o ∧ e = .returned (.tuple #[v, .int .i64 o.code, .int .i64 o.place]) ∧ w'.ownsRow w.heap.size 33 3 v o.list.length (flat o.list) ∧ Below w.heap.size w w' := by
  refine (callsIn_wide (n := 3)).1 ?_
  refine callsIn_of_wp_marks Tryd.func6 rfl trivial ?_ rfl
  simp only [Tryd.ntmps6, List.size_toArray, List.length_cons, List.length_nil, Nat.reduceAdd, Nat.reduceSub, Array.replicate_succ, Array.replicate_zero, List.push_toArray, List.append_toArray, List.nil_append, List.cons_append]
  gi_wp2_with ((refine ⟨trivial, ?_⟩; gi_at_call 12; refine (callsIn_wide.2 (Ez _ _)).mono ?_; rintro e w' ⟨rfl, rfl⟩))
  obtain ⟨W0, Hn⟩ : ∃ W0, (((((w.alloc (.cells #[.slice none 0 0] 29)).alloc (.cells #[.int .i64 0] 3)).alloc (.cells #[.int .i64 0] 3)).alloc (.cells #[.slice none 0 0] 29)).alloc (.cells #[.string s] 9)) = W0 := ⟨_, rfl⟩
  have bP : W0.heap.size = w.heap.size + 5 := by rw [← Hn]; simp
  have sL : Below w.heap.size w W0 := by
    rw [← Hn]
    exact (((((Below.refl _ w).alloc lr _).alloc (by simp) _).alloc (by simp; omega) _).alloc (by simp; omega) _).alloc (by simp; omega) _
  have b0 := Boxed.new w 29 (.slice none 0 0)
  have b1 := Boxed.new (w.alloc (.cells #[.slice none 0 0] 29)) 3 (.int .i64 0)
  have b2 := Boxed.new ((w.alloc (.cells #[.slice none 0 0] 29)).alloc (.cells #[.int .i64 0] 3)) 3 (.int .i64 0)
  have b3 := Boxed.new (((w.alloc (.cells #[.slice none 0 0] 29)).alloc (.cells #[.int .i64 0] 3)).alloc (.cells #[.int .i64 0] 3)) 29 (.slice none 0 0)
  have b4 := Boxed.new ((((w.alloc (.cells #[.slice none 0 0] 29)).alloc (.cells #[.int .i64 0] 3)).alloc (.cells #[.int .i64 0] 3)).alloc (.cells #[.slice none 0 0] 29)) 9 (.string s)
  simp only [World.size_alloc] at b1 b2 b3 b4
  have hI0 : TI w [] W0 := by
    refine ⟨by simp, by simp, ⟨_, ?_, World.ownsRow_nil _ _ _ _⟩, ?_, ?_, ?_, sL, by omega⟩
    · rw [← Hn]; exact b3.alloc _
    · rw [← Hn]; exact (((b0.alloc _).alloc _).alloc _).alloc _
    · rw [← Hn]; exact ((b1.alloc _).alloc _).alloc _
    · rw [← Hn]; exact (b2.alloc _).alloc _
  have hbt : W0.cell? ⟨w.heap.size + 1 + 1 + 1 + 1, 0, none⟩ = some (.string s) := by rw [← Hn]; exact b4.cell
  have hI3 : Apart3 W0.heap.size (TI w) := by rw [bP]; exact FD w
  have hX3 : ∀ c, Apart3 W0.heap.size (TX s w c) := fun c => by rw [bP]; exact Fh s w c
  rw [Hn]
  clear b0 b1 b2 b3 b4 Hn
  refine py (α := C2) (encs := Db) (S := Pg s.data.toList) (Sp := fun _ => True) (Came := Ak s.data.toList) (keep := B1 w.heap.size (w.heap.size + 1 + 1 + 1 + 1) W0.heap.size) rfl (by omega) (gf := 35) (lb := #[.pointer (some ⟨w.heap.size + 1 + 1 + 1 + 1, 0, none⟩)]) rfl trivial (enters_of Tryd.func35 (by kernel_rfl) rfl)
    (fun k hk => by rcases hk with hk | hk | hk <;> omega)
    (fun l J Jx W hWs Qc hJ hJx hJz hY h0 => Is 2 (by omega) s hs w.heap.size (w.heap.size + 1 + 1 + 1 + 1) W0.heap.size l h2 (by omega) (by omega) J Jx W hWs hJ hY h0 ((Qc.cell (p := ⟨w.heap.size + 1 + 1 + 1 + 1, 0, none⟩) (by show w.heap.size + 1 + 1 + 1 + 1 < W0.heap.size; omega)).trans hbt) (gz (gz hw sL (by omega)) Qc (by omega)) (gz (gz hg sL (by omega)) Qc (by omega)))
    (fun _ => rfl) (TI w) (TX s w) hI3 hX3 hI0
    (fun x m => { tmps := #[.string s, undef, .pointer (some ⟨w.heap.size, 0, none⟩), .pointer (some ⟨w.heap.size + 1, 0, none⟩), .pointer (some ⟨w.heap.size + 1 + 1, 0, none⟩), .pointer (some ⟨w.heap.size + 1 + 1 + 1, 0, none⟩), .pointer (some ⟨m, 0, none⟩), .int .i64 x.2, .string s, .int .i64 s.size, .bool (decide (65536 < (s.size : Int))), .string s, .func (.func 35) #[] #[.pointer (some ⟨w.heap.size + 1 + 1 + 1 + 1, 0, none⟩)], .agg #[.int .i64 x.1.kind, .string x.1.text, .int .i64 x.1.place], .int .i64 x.2, undef, undef, undef, undef, undef, undef, undef, undef, undef, undef, undef, undef, undef, undef, undef], defers := [] })
    (fun x => .cells #[.int .i64 x.1.kind, .string x.1.text, .int .i64 x.1.place] 33) ?assign ?body ?done ?stop
  case assign =>
    intro l x W K hK
    simp only [Db]
    gi_wp2
    exact hK
  case body =>
    rintro l pre ⟨t, code⟩ V0 W1 W3 r hi hz hb Hj yk EV
    have rK := Oy hb yk
    obtain ⟨v, tw, P4⟩ := hi.list
    have Ej : ∀ k, v.ownBlock = some k → w.heap.size + 8 ≤ k ∧ k < V0.heap.size := P4.lt
    have hv := tw.kept rK (fun e => by have := Option.some.inj e; omega)
    have ho := P4.kept rK (by
      cases o9 : v.ownBlock with
      | none => exact .inl rfl
      | some k => exact .inr fun e => by have := (Ej k o9).1; have := Option.some.inj e; omega)
    obtain ⟨av, cv, rfl⟩ := me P4
    have qi : W3.heap[W1.heap.size]? = some (.cells #[.int .i64 t.kind, .string t.text, .int .i64 t.place] 33) := by
      have := hb.size
      rw [yk, World.putObj_heap_other (by omega)]; exact World.alloc_heap_new W1 _
    have SX := hb.size
    have hg3z := rK.size
    have hW3z : W1.heap.size < W3.heap.size := (Array.getElem?_eq_some_iff.1 qi).1
    obtain ⟨x0, x1, x2, y0, y1, y2⟩ := yu qi
    have c3 := hv.cell
    have q0 := EV.r0.cell
    have q0f := EV.r0.frozen
    have q1 := EV.r1.cell
    have q1f := EV.r1.frozen
    have q2 := EV.r2.cell
    have q2f := EV.r2.frozen
    obtain ⟨p, acc, N7, rfl, hp, El⟩ := Hj
    have ig := hi.few
    have Qd : (uJ acc).length = acc.length := by simp [uJ]
    have hBI : Hid (TI w (uJ acc) W3) := EV
    have hfol : Tryd.prog.follows Departure.mixedOrders = true := by kernel_rfl
    have d0 : ¬ W1.heap.size = w.heap.size := by omega
    have d1 : ¬ W1.heap.size = w.heap.size + 1 := by omega
    have d2 : ¬ W1.heap.size = w.heap.size + 1 + 1 := by omega
    have d3 : ¬ w.heap.size = W1.heap.size := by omega
    have d4 : ¬ w.heap.size + 1 = W1.heap.size := by omega
    have d5 : ¬ w.heap.size + 1 + 1 = W1.heap.size := by omega
    rcases El with ⟨k, tt, d, aF, hx⟩ | ⟨aF, hx⟩
    · cases hx
      by_cases h4 : (uJ acc).length = 4000
      · have HA : Hid (cC s.data.toList ⟨[], 13, p⟩) := .many N7 (by omega) hp aF
        rw [h4] at c3
        clear N7 aF hb hi EV P4 tw hv ho qi yk rK Ej Qd h4 ig
        gi_wp2
        gi_region_o
        all_goals gi_wp2
        all_goals exact wW hBI.out 13 p HA.out
      · have e4 : (((uJ acc).length : Int) == 4000) = false := bn (by omega)
        obtain ⟨i0, qn, qm, hZ, hQ⟩ := info_parts (show (Tryd.prog.info? 33).map (fun i => (i.zero, i.size, i.bytes)) = some (some (.agg #[.int .i64 0, .string ⟨#[]⟩, .int .i64 0]), 3, 32) by kernel_rfl)
        have HO0 := (show Hid (W3.ownsRow _ _ _ _ _ _) from ho)
        have Lx := (show Hid (Boxed W3 _ _ _) from hv)
        have HL0 := (show Hid (∀ k, _ = some k → _) from Ej)
        clear N7 aF hb hi EV P4 tw hv ho qi yk rK Ej Qd
        gi_wp2_with ((gi_at_builtin; refine wpListIn_append_own _ rfl _ _ 29 rfl (w.heap.size + 8) 33 i0 (.agg #[.int .i64 0, .string ⟨#[]⟩, .int .i64 0]) 3 32 Tryd.underlying29 qn qm hZ hQ rfl (by decide) _ _ _ rfl (HO0.out.alloc _) ⟨W3.heap.size, 0, none⟩ 1 1 [.int .i64 k, .string tt, .int .i64 p] rfl rfl (gK _ _ _ _ _) (mg _ _ _) (by unfold maxLen; omega) (by omega) (by simp; omega) ?_; intro v' w1 gN aD nu; obtain ⟨g', ph, rfl⟩ := zl gN; have HW := (show Hid (KeepsOthers W3 _ ∧ _) from KO (t := ⟨k, tt, p⟩) hBI.out h4 (by omega) SX (by omega) Lx.out HO0.out HL0.out gN aD); have IW := (Lx.out.alloc _).kept aD (fun e => by have := (HL0.out _ e.symm).1; omega); have iQ := IW.cell; have yj := IW.frozen; clear gN aD nu IW))
        exact HW.out
    · cases hx
      have HA : Hid (cC s.data.toList ⟨[], 4, p⟩) := .bad N7 (by omega) hp aF
      clear N7 aF hb hi EV P4 tw hv ho qi yk rK Ej Qd ig
      gi_wp2
      gi_region_o
      all_goals gi_wp2
      all_goals exact wW hBI.out 4 p HA.out
  case done =>
    rintro D xs W hD hS hi hK
    obtain ⟨v, hv, ho⟩ := hi.list
    have hA : cC s.data.toList ⟨xs.map (·.1), 0, 0⟩ := by
      rcases hS with ⟨p, acc, N7, rfl, hp⟩ | ⟨x, hx, fE⟩
      · have e1 : (uJ acc).map (·.1) = acc := by unfold uJ; rw [List.map_map]; exact List.map_id _
        rw [e1]
        exact .done N7 (by have := hi.few; simpa [uJ] using this) hp
      · exact absurd (hi.ok x hx) fE
    obtain ⟨av, cv, rfl⟩ := me ho
    have c3 := hv.cell
    have q0 := hi.r0.cell
    have q0f := hi.r0.frozen
    have q1 := hi.r1.cell
    have q1f := hi.r1.frozen
    have q2 := hi.r2.cell
    have q2f := hi.r2.frozen
    have HA : Hid (cC s.data.toList ⟨xs.map (·.1), 0, 0⟩) := hA
    have HI : Hid (TI w xs W) := hi
    have HO := (show Hid (W.ownsRow _ _ _ _ _ _) from ho)
    have HK : Hid (W.heap[D]? = some (.deferred (some []))) := hK
    clear hA hi ho hS hv hI3 hX3 hI0 hK
    gi_wp2
    have g1 := grownBy_setCell' W w.heap.size (.slice av xs.length cv)
    have g2 := grownBy_setCell' (W.setCell ⟨w.heap.size, 0, none⟩ (.slice av xs.length cv)) (w.heap.size + 1) (.int .i64 0)
    have g3 := grownBy_setCell' ((W.setCell ⟨w.heap.size, 0, none⟩ (.slice av xs.length cv)).setCell ⟨w.heap.size + 1, 0, none⟩ (.int .i64 0)) (w.heap.size + 1 + 1) (.int .i64 0)
    have r0 := ((HI.out.r0.set (.slice av xs.length cv)).kept g2 (fun e => by have := Option.some.inj e; omega)).kept g3 (fun e => by have := Option.some.inj e; omega)
    have r1 := ((HI.out.r1.kept g1 (fun e => by have := Option.some.inj e; omega)).set (.int .i64 0)).kept g3 (fun e => by have := Option.some.inj e; omega)
    have r2 := ((HI.out.r2.kept g1 (fun e => by have := Option.some.inj e; omega)).kept g2 (fun e => by have := Option.some.inj e; omega)).set (.int .i64 0)
    have hK3 := (((KeepsOthers.setCell W ⟨w.heap.size, 0, none⟩ (.slice av xs.length cv)).trans (KeepsOthers.setCell _ ⟨w.heap.size + 1, 0, none⟩ (.int .i64 0))).trans (KeepsOthers.setCell _ ⟨w.heap.size + 1 + 1, 0, none⟩ (.int .i64 0))).same D _ HK.out rfl
    have ho3 : (((W.setCell ⟨w.heap.size, 0, none⟩ (.slice av xs.length cv)).setCell ⟨w.heap.size + 1, 0, none⟩ (.int .i64 0)).setCell ⟨w.heap.size + 1 + 1, 0, none⟩ (.int .i64 0)).ownsRow (w.heap.size + 8) 33 3 (.slice av xs.length cv) xs.length (flat (xs.map (·.1))) := by
      have fE : ∀ k, k < w.heap.size + 5 → (Value.slice av xs.length cv).ownBlock = none ∨ (Value.slice av xs.length cv).ownBlock ≠ some k := fun k hk => by
        cases hb : (Value.slice av xs.length cv).ownBlock with
        | none => exact .inl rfl
        | some g => exact .inr fun e => by have := (HO.out.lt g hb).1; have := Option.some.inj e; omega
      exact ((HO.out.kept g1 (fE _ (by omega))).kept g2 (fE _ (by omega))).kept g3 (fE _ (by omega))
    have hb3 := (((HI.out.below.setCell (p := ⟨w.heap.size, 0, none⟩) lr (.slice av xs.length cv)).setCell (p := ⟨w.heap.size + 1, 0, none⟩) (by show w.heap.size ≤ w.heap.size + 1; omega) (.int .i64 0)).setCell (p := ⟨w.heap.size + 1 + 1, 0, none⟩) (by show w.heap.size ≤ w.heap.size + 1 + 1; omega) (.int .i64 0))
    revert r0 r1 r2 hK3 ho3 hb3
    generalize (((W.setCell ⟨w.heap.size, 0, none⟩ (.slice av xs.length cv)).setCell ⟨w.heap.size + 1, 0, none⟩ (.int .i64 0)).setCell ⟨w.heap.size + 1 + 1, 0, none⟩ (.int .i64 0)) = V
    intro r0 r1 r2 hK3 ho3 hb3
    refine ⟨by simp, .inl ⟨_, _, rfl, run_takeDeferred hK3, ?_⟩⟩
    have gp := grownBy_putObj' V D (.deferred none)
    have k_b3_0 := kk
    exact bb3
  case stop =>
    rintro D c pre W hD _ hx hK
    obtain rfl := hx.ret
    obtain ⟨o, hA, hl, r0, r1, r2⟩ := hx.ans
    have hb3 := hx.below
    have N5 := hx.size
    clear hx hI3 hX3 hI0
    gi_wp2
    refine ⟨by simp, .inl ⟨_, _, rfl, run_takeDeferred hK, ?_⟩⟩
    have gp := grownBy_putObj' W D (.deferred none)
    have k_b3_1 := kk
    exact bb3
end
end Go.Proofs.YtkfbbdhidecefaaDoor
