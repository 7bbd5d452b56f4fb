/- A range over a function, as in RfFrame; a round that ends the loop tells too what it kept: for an iterator that itself ranges over a function. -/
import Derived.Test.YtdcpmkhebfcfgaaDoorLcC
import Derived.RangeFuncBox
set_option linter.unusedVariables false
namespace Go.Proofs.YtdcpmkhebfcfgaaDoor
open Go.RowKit

def postF2 {α : Type} (mine : Nat → Prop) (I : List α → World → Prop) (Ix : Code → List α → World → Prop) (xs : List α) (W3 : World) : Exit → Act → World → Prop
  | .normal, _, W' => KeptF mine W3 W' ∧ I xs W'
  | .ret, _, W' => KeptF mine W3 W' ∧ Ix .ret xs W'
  | .exit id, _, W' => KeptF mine W3 W' ∧ Ix (.exit id) xs W'
  | .goto t, _, W' => KeptF mine W3 W' ∧ Ix (.goto t) xs W'
  | .panic _, _, _ => False
  | .outgrown, _, _ => False

variable {F : Fence} {n : Nat} {P : Program}

theorem wpIn_rangeFunc_frame2 {α : Type} {g : Operand} {ps : Array Tmp} {assign body : Code} {Q : Exit → Act → World → Prop} {a : Act} {w : World}
    (hro : F.round = none) (h1 : 1 ≤ n) {gf : Nat} {lb : Array Value} (hg : a.eval g = .func (.func gf) #[] lb) (hFg : F.fn gf) (eg : ∀ args w, (callFunc gf args).run P w = .ok (.enter gf args) w)
    {encs : α → Array Value} {S Sp : List α → Prop} {Came : List α → α → Prop} {mine : Nat → Prop}
    (hseq : ∀ (l : Nat) (J Jx : List α → World → Prop) (W : World), W.heap.size = w.heap.size + 2 → Below w.heap.size w W →
      Under (w.heap.size + 2) J → Under (w.heap.size + 2) Jx → (∀ pre A, J pre A → w.heap.size + 2 ≤ A.heap.size) →
      (∀ pre x W1, J pre W1 → Came pre x → YieldAt F (n - 1 - 1) P l (encs x) W1 fun e W' =>
        (e = .returned (.bool true) ∧ J (pre ++ [x]) W' ∧ KeptF (fun k => mine k ∨ k = w.heap.size + 1) W1 W') ∨ (e = .returned (.bool false) ∧ Jx (pre ++ [x]) W' ∧ KeptF (fun k => mine k ∨ k = w.heap.size + 1) W1 W')) →
      J [] W → CallsIn F (n - 1) P gf (#[.func (.yield l) #[] #[]] ++ lb) W fun e W' => (∃ v, e = .returned v) ∧ ((∃ xs, S xs ∧ J xs W') ∨ (∃ pre, Sp pre ∧ Jx pre W')))
    (hm : ∀ k, mine k → k < w.heap.size) (hps : ∀ x, (encs x).size = ps.size)
    (I : List α → World → Prop) (Ix : Code → List α → World → Prop) (hI : Under w.heap.size I) (hIx : ∀ c, Under w.heap.size (Ix c)) (h0 : I [] w) (a₁ : α → World → Act) (box : α → World → World) (hbox : ∀ x W, Below W.heap.size W (box x W))
    (hassign : ∀ (l : Nat) (pre : List α) (x : α) (W : World) (K : Act → World → Prop), Came pre x → K (a₁ x W) (box x W) →
      assign.wpIn (F.inRound l) (n - 1 - 1) P (Exit.then K (fun _ _ _ => False)) { tmps := (ps.zip (encs x)).foldl (fun t (p, v) => t.setIfInBounds p v) a.tmps, defers := [] } W)
    (hbody : ∀ (l : Nat) (pre : List α) (x : α) (W1 W3 : World) (r : Loop), I pre W1 → w.heap.size + 2 ≤ W1.heap.size → Came pre x → W3 = (box x W1).putObj (w.heap.size + 1) (.loop r) → I pre W3 →
      body.wpIn (F.inRound l) (n - 1 - 1) P (postF2 mine I Ix (pre ++ [x]) W3) (a₁ x W1) W3)
    (hdone : ∀ (D : Nat) (xs : List α) (W : World), w.heap.size ≤ D → S xs → I xs W → W.heap[D]? = some (.deferred (some [])) → Q .normal { a with defers := { target := .collected D, args := #[] } :: a.defers } W)
    (hstop : ∀ (D : Nat) (c : Code) (pre : List α) (W : World), w.heap.size ≤ D → Sp pre → Ix c pre W → W.heap[D]? = some (.deferred (some [])) → c.wpIn F n P Q { a with defers := { target := .collected D, args := #[] } :: a.defers } W) :
    (Code.rangeFunc g ps assign body).wpIn F n P Q a w := by
  refine wpIn_rangeFunc ?_
  intro fn hfn
  rw [hro]
  obtain ⟨rec, hrec⟩ : ∃ rec : LoopState → Option Code → Loop, rec = fun st pe => { state := st, pending := pe, fn, tmps := a.tmps, params := ps, assign, body, defers := w.heap.size } := ⟨_, rfl⟩
  obtain ⟨W1, hW1⟩ : ∃ W1, (w.alloc (.deferred (some []))).alloc (.loop (rec .ready none)) = W1 := ⟨_, rfl⟩
  have hL1 : W1.heap[w.heap.size + 1]? = some (.loop (rec .ready none)) := by
    rw [← hW1]; have := World.alloc_heap_new (w.alloc (.deferred (some []))) (.loop (rec .ready none)); rwa [World.size_alloc] at this
  have hK1 : W1.heap[w.heap.size]? = some (.deferred (some [])) := by
    rw [← hW1]; exact (Below.heap_alloc _ _ _ (by simp)).trans (World.alloc_heap_new w _)
  have hbW : Below w.heap.size w W1 := by rw [← hW1]; exact ((Below.refl _ w).alloc (Nat.le_refl _) _).alloc (by simp) _
  have hI1 : I [] W1 := hI _ _ _ h0 hbW
  have hsz1 : W1.heap.size = w.heap.size + 2 := by rw [← hW1]; simp
  refine ⟨w.heap.size + 1, [{ target := .collected w.heap.size, args := #[] }], W1, { target := .fn (.func gf) lb, args := #[.func (.yield (w.heap.size + 1)) #[] #[]] }, W1, gf,
    #[.func (.yield (w.heap.size + 1)) #[] #[]] ++ lb, W1, ?_, ?_, ?_, ?_, fun _ => h1, ?_⟩
  · rw [← hW1, hrec]; exact run_enterLoop_outer _ _ _ _ _
  · simp only [resolve, hg]
    simp [go_sem]
  · intro f' hf'; simp [Target.leads] at hf'; subst hf'; exact hFg
  · simp [invoke, go_sem, eg]
  · have putI : ∀ {β : Type} {I : β → World → Prop} {s : β} {A : World} (o : Obj), Under w.heap.size I → I s A → I s (A.putObj (w.heap.size + 1) o) := fun o hU hi =>
      hU _ _ _ hi ⟨rfl, rfl, rfl, by simp, fun k hk => World.putObj_heap_other (by omega)⟩
    refine (hseq (w.heap.size + 1)
      (fun pre W => I pre W ∧ W.heap[w.heap.size + 1]? = some (.loop (rec .ready none)) ∧ W.heap[w.heap.size]? = some (.deferred (some [])))
      (fun pre W => ∃ c, Ix c pre W ∧ W.heap[w.heap.size + 1]? = some (.loop (rec .done (some c))) ∧ W.heap[w.heap.size]? = some (.deferred (some [])))
      W1 hsz1 hbW
      (fun s A C hs hb => ⟨hI s A C hs.1 (hb.mono (by omega)), (hb.block _ (by omega)).trans hs.2.1, (hb.block _ (by omega)).trans hs.2.2⟩)
      (fun s A C hs hb => by
        obtain ⟨c, hc, hl, hk⟩ := hs
        exact ⟨c, hIx c s A C hc (hb.mono (by omega)), (hb.block _ (by omega)).trans hl, (hb.block _ (by omega)).trans hk⟩)
      (fun pre A hs => by have := (Array.getElem?_eq_some_iff.1 hs.2.1).1; omega)
      ?_ ⟨hI1, hL1, hK1⟩).mono ?_
    · -- ONE ROUND
      rintro pre x W ⟨hi, hl, hk⟩ hcame
      have hsz : w.heap.size + 2 ≤ W.heap.size := by have := (Array.getElem?_eq_some_iff.1 hl).1; omega
      have hy := run_yield (P := P) (args := encs x) hl (by rw [hrec]; exact hps x)
      rw [hrec] at hy
      have hbx := hbox x W
      have hbz := hbx.size
      have hla : (box x W).heap[w.heap.size + 1]? = some (.loop (rec .ready none)) := (hbx.block _ (by omega)).trans hl
      have hka : (box x W).heap[w.heap.size]? = some (.deferred (some [])) := (hbx.block _ (by omega)).trans hk
      refine ⟨fn, _, assign, body, hy, roundIn_of_wpIn hfn (hassign _ pre x W _ hcame ⟨_, run_beginRound hla (by rw [hrec]), ?_⟩)⟩
      obtain ⟨W3, hW3⟩ : ∃ W3, (box x W).putObj (w.heap.size + 1) (.loop { rec .ready none with state := .busy }) = W3 := ⟨_, rfl⟩
      have hl2 : W3.heap[w.heap.size + 1]? = some (.loop { rec .ready none with state := .busy }) := by rw [← hW3]; exact World.putObj_heap_same (by omega)
      have hk2 : W3.heap[w.heap.size]? = some (.deferred (some [])) := by rw [← hW3]; exact (World.putObj_heap_other (by omega)).trans hka
      have hi3 : I pre W3 := by rw [← hW3]; exact putI _ hI (hI _ _ _ hi (hbx.mono (by omega)))
      have hs3 : (box x W).heap.size ≤ W3.heap.size := by rw [← hW3]; simp
      have same3 : KeptF (fun k => mine k ∨ k = w.heap.size + 1) W W3 := ⟨by omega, fun k hlt hm => by
        have hne : k ≠ w.heap.size + 1 := fun e => hm (.inr e)
        rw [← hW3]
        exact (World.putObj_heap_other hne).trans (hbx.block _ hlt)⟩
      rw [hW3]
      refine wpIn_mono (hbody _ pre x W W3 _ hi hsz hcame hW3.symm hi3) ?_
      have fin : ∀ (jump : Option Code) (W4 : World), KeptF mine W3 W4 →
          (Instr.endRound (w.heap.size + 1) jump).run P W4 = .ok (.bool jump.isNone) (W4.putObj (w.heap.size + 1) (.loop (rec (if jump.isNone then .ready else .done) jump))) ∧
          (W4.putObj (w.heap.size + 1) (.loop (rec (if jump.isNone then .ready else .done) jump))).heap[w.heap.size + 1]? = some (.loop (rec (if jump.isNone then .ready else .done) jump)) ∧
          (W4.putObj (w.heap.size + 1) (.loop (rec (if jump.isNone then .ready else .done) jump))).heap[w.heap.size]? = some (.deferred (some [])) := fun jump W4 hk3 => by
        have hl3 := (hk3.same (w.heap.size + 1) (Array.getElem?_eq_some_iff.1 hl2).1 (fun h => by have := hm _ h; omega)).trans hl2
        have := run_endRound (P := P) jump hl3
        rw [hrec] at this ⊢
        exact ⟨this, World.putObj_heap_same (Array.getElem?_eq_some_iff.1 hl3).1, (World.putObj_heap_other (by omega)).trans ((hk3.same w.heap.size (Array.getElem?_eq_some_iff.1 hk2).1 (fun h => by have := hm _ h; omega)).trans hk2)⟩
      rintro e a3 W4 hp
      cases e with
      | normal =>
        obtain ⟨hsame, hi4⟩ := hp
        obtain ⟨hr, hl4, hk4⟩ := fin none W4 hsame
        refine ⟨_, _, hr, .inl ⟨rfl, ⟨putI _ hI hi4, hl4, hk4⟩, same3.trans ⟨?_, fun k hlt hm => ?_⟩⟩⟩
        · have := hsame.size; simp; omega
        · exact (World.putObj_heap_other (fun e => hm (.inr e))).trans (hsame.same k hlt (fun h => hm (.inl h)))
      | ret =>
        obtain ⟨hk3, hi4⟩ := hp
        obtain ⟨hr, hl4, hk4⟩ := fin (some .ret) W4 hk3
        exact ⟨_, _, hr, .inr ⟨rfl, ⟨.ret, putI _ (hIx _) hi4, hl4, hk4⟩, same3.trans ⟨(by have := hk3.size; simp; omega), fun k hlt hm' => (World.putObj_heap_other (fun e => hm' (.inr e))).trans (hk3.same k hlt (fun h => hm' (.inl h)))⟩⟩⟩
      | exit id =>
        obtain ⟨hk3, hi4⟩ := hp
        obtain ⟨hr, hl4, hk4⟩ := fin (some (.exit id)) W4 hk3
        exact ⟨_, _, hr, .inr ⟨rfl, ⟨.exit id, putI _ (hIx _) hi4, hl4, hk4⟩, same3.trans ⟨(by have := hk3.size; simp; omega), fun k hlt hm' => (World.putObj_heap_other (fun e => hm' (.inr e))).trans (hk3.same k hlt (fun h => hm' (.inl h)))⟩⟩⟩
      | goto t =>
        obtain ⟨hk3, hi4⟩ := hp
        obtain ⟨hr, hl4, hk4⟩ := fin (some (.goto t)) W4 hk3
        exact ⟨_, _, hr, .inr ⟨rfl, ⟨.goto t, putI _ (hIx _) hi4, hl4, hk4⟩, same3.trans ⟨(by have := hk3.size; simp; omega), fun k hlt hm' => (World.putObj_heap_other (fun e => hm' (.inr e))).trans (hk3.same k hlt (fun h => hm' (.inl h)))⟩⟩⟩
      | panic ch => exact hp.elim
      | outgrown => exact hp.elim
    · -- BEHIND THE ITERATOR
      rintro e W2 ⟨⟨v, rfl⟩, (⟨xs, hS, hi, hl, hk⟩ | ⟨pre, hSp, c, hi, hl, hk⟩)⟩
      · exact ⟨none, _, by have := run_endLoop (P := P) hl (by rw [hrec]; simp); rw [hrec] at this; exact this, hdone _ xs _ (Nat.le_refl _) hS (putI _ hI hi) ((World.putObj_heap_other (by omega)).trans hk)⟩
      · exact ⟨some c, _, by have := run_endLoop (P := P) hl (by rw [hrec]; simp); rw [hrec] at this; exact this, hstop _ c pre _ (Nat.le_refl _) hSp (putI _ (hIx c) hi) ((World.putObj_heap_other (by omega)).trans hk)⟩
end Go.Proofs.YtdcpmkhebfcfgaaDoor
namespace Go.Proofs.YtdcpmkhebfcfgaaDoor
open Go.RowKit

structure Turn (X : Nat → Prop) (A C : World) : Prop where
  os : C.os = A.os
  tape : C.tape = A.tape
  output : C.output = A.output
  size : A.heap.size ≤ C.heap.size
  same : ∀ k, k < A.heap.size → ¬ X k → C.heap[k]? = A.heap[k]?
def Stab {β : Type} (X : Nat → Prop) (I : β → World → Prop) : Prop := ∀ s A C, I s A → Turn X A C → I s C

variable {F : Fence} {n : Nat} {P : Program}

theorem wpIn_rangeFunc_frame3 {α : Type} {g : Operand} {ps : Array Tmp} {assign body : Code} {Q : Exit → Act → World → Prop} {a : Act} {w : World}
    (m : Nat) (hm2 : 2 ≤ m) (hro : F.round = none) (h1 : 1 ≤ n) {gf : Nat} {lb : Array Value} (hg : a.eval g = .func (.func gf) #[] lb) (hFg : F.fn gf) (eg : ∀ args w, (callFunc gf args).run P w = .ok (.enter gf args) w)
    {encs : α → Array Value} {S Sp : List α → Prop} {Came : List α → α → Prop} {mine : Nat → Prop}
    (hseq : ∀ (l : Nat) (J Jx : List α → World → Prop) (W : World), W.heap.size = w.heap.size + 2 → Below w.heap.size w W →
      Under (w.heap.size + 2) J → Stab (fun k => w.heap.size + 2 ≤ k ∧ k < w.heap.size + m) Jx → (∀ pre A, J pre A → w.heap.size + 2 ≤ A.heap.size) →
      (∀ pre x W1, J pre W1 → Came pre x → w.heap.size + m ≤ W1.heap.size → YieldAt F (n - 1 - 1) P l (encs x) W1 fun e W' =>
        (e = .returned (.bool true) ∧ J (pre ++ [x]) W' ∧ KeptF (fun k => mine k ∨ k = w.heap.size + 1) W1 W') ∨ (e = .returned (.bool false) ∧ Jx (pre ++ [x]) W' ∧ KeptF (fun k => mine k ∨ k = w.heap.size + 1) W1 W')) →
      J [] W → CallsIn F (n - 1) P gf (#[.func (.yield l) #[] #[]] ++ lb) W fun e W' => (∃ v, e = .returned v) ∧ ((∃ xs, S xs ∧ J xs W') ∨ (∃ pre, Sp pre ∧ Jx pre W')))
    (hm : ∀ k, mine k → k < w.heap.size) (hps : ∀ x, (encs x).size = ps.size)
    (I : List α → World → Prop) (Ix : Code → List α → World → Prop) (hI : Under w.heap.size I) (hIx : ∀ c, Stab (fun k => w.heap.size ≤ k ∧ k < w.heap.size + m) (Ix c)) (h0 : I [] w) (a₁ : α → World → Act) (box : α → World → World) (hbox : ∀ x W, Below W.heap.size W (box x W))
    (hassign : ∀ (l : Nat) (pre : List α) (x : α) (W : World) (K : Act → World → Prop), Came pre x → K (a₁ x W) (box x W) →
      assign.wpIn (F.inRound l) (n - 1 - 1) P (Exit.then K (fun _ _ _ => False)) { tmps := (ps.zip (encs x)).foldl (fun t (p, v) => t.setIfInBounds p v) a.tmps, defers := [] } W)
    (hbody : ∀ (l : Nat) (pre : List α) (x : α) (W1 W3 : World) (r : Loop), I pre W1 → w.heap.size + m ≤ W1.heap.size → Came pre x → W3 = (box x W1).putObj (w.heap.size + 1) (.loop r) → I pre W3 →
      body.wpIn (F.inRound l) (n - 1 - 1) P (postF2 mine I Ix (pre ++ [x]) W3) (a₁ x W1) W3)
    (hdone : ∀ (D : Nat) (xs : List α) (W : World), D = w.heap.size → S xs → I xs W → W.heap[D]? = some (.deferred (some [])) → Q .normal { a with defers := { target := .collected D, args := #[] } :: a.defers } W)
    (hstop : ∀ (D : Nat) (c : Code) (pre : List α) (W : World), D = w.heap.size → Sp pre → Ix c pre W → W.heap[D]? = some (.deferred (some [])) → c.wpIn F n P Q { a with defers := { target := .collected D, args := #[] } :: a.defers } W) :
    (Code.rangeFunc g ps assign body).wpIn F n P Q a w := by
  refine wpIn_rangeFunc ?_
  intro fn hfn
  rw [hro]
  obtain ⟨rec, hrec⟩ : ∃ rec : LoopState → Option Code → Loop, rec = fun st pe => { state := st, pending := pe, fn, tmps := a.tmps, params := ps, assign, body, defers := w.heap.size } := ⟨_, rfl⟩
  obtain ⟨W1, hW1⟩ : ∃ W1, (w.alloc (.deferred (some []))).alloc (.loop (rec .ready none)) = W1 := ⟨_, rfl⟩
  have hL1 : W1.heap[w.heap.size + 1]? = some (.loop (rec .ready none)) := by
    rw [← hW1]; have := World.alloc_heap_new (w.alloc (.deferred (some []))) (.loop (rec .ready none)); rwa [World.size_alloc] at this
  have hK1 : W1.heap[w.heap.size]? = some (.deferred (some [])) := by
    rw [← hW1]; exact (Below.heap_alloc _ _ _ (by simp)).trans (World.alloc_heap_new w _)
  have hbW : Below w.heap.size w W1 := by rw [← hW1]; exact ((Below.refl _ w).alloc (Nat.le_refl _) _).alloc (by simp) _
  have hI1 : I [] W1 := hI _ _ _ h0 hbW
  have hsz1 : W1.heap.size = w.heap.size + 2 := by rw [← hW1]; simp
  refine ⟨w.heap.size + 1, [{ target := .collected w.heap.size, args := #[] }], W1, { target := .fn (.func gf) lb, args := #[.func (.yield (w.heap.size + 1)) #[] #[]] }, W1, gf,
    #[.func (.yield (w.heap.size + 1)) #[] #[]] ++ lb, W1, ?_, ?_, ?_, ?_, fun _ => h1, ?_⟩
  · rw [← hW1, hrec]; exact run_enterLoop_outer _ _ _ _ _
  · simp only [resolve, hg]
    simp [go_sem]
  · intro f' hf'; simp [Target.leads] at hf'; subst hf'; exact hFg
  · simp [invoke, go_sem, eg]
  · have putI : ∀ {β : Type} {I : β → World → Prop} {s : β} {A : World} (o : Obj), Under w.heap.size I → I s A → I s (A.putObj (w.heap.size + 1) o) := fun o hU hi =>
      hU _ _ _ hi ⟨rfl, rfl, rfl, by simp, fun k hk => World.putObj_heap_other (by omega)⟩
    have putX : ∀ (c : Code) {s : List α} {A : World} (o : Obj), Ix c s A → Ix c s (A.putObj (w.heap.size + 1) o) := fun c s A o hi =>
      hIx c _ _ _ hi ⟨rfl, rfl, rfl, by simp, fun k _ hk => World.putObj_heap_other (by omega)⟩
    refine (hseq (w.heap.size + 1)
      (fun pre W => I pre W ∧ W.heap[w.heap.size + 1]? = some (.loop (rec .ready none)) ∧ W.heap[w.heap.size]? = some (.deferred (some [])))
      (fun pre W => ∃ c, Ix c pre W ∧ W.heap[w.heap.size + 1]? = some (.loop (rec .done (some c))) ∧ W.heap[w.heap.size]? = some (.deferred (some [])))
      W1 hsz1 hbW
      (fun s A C hs hb => ⟨hI s A C hs.1 (hb.mono (by omega)), (hb.block _ (by omega)).trans hs.2.1, (hb.block _ (by omega)).trans hs.2.2⟩)
      (fun s A C hs hb => by
        obtain ⟨c, hc, hl, hk⟩ := hs
        have hl' := (Array.getElem?_eq_some_iff.1 hl).1
        have hk' := (Array.getElem?_eq_some_iff.1 hk).1
        exact ⟨c, hIx c s A C hc ⟨hb.os, hb.tape, hb.output, hb.size, fun k h1 h2 => hb.same k h1 (by omega)⟩, (hb.same _ hl' (by omega)).trans hl, (hb.same _ hk' (by omega)).trans hk⟩)
      (fun pre A hs => by have := (Array.getElem?_eq_some_iff.1 hs.2.1).1; omega)
      ?_ ⟨hI1, hL1, hK1⟩).mono ?_
    · -- ONE ROUND
      rintro pre x W ⟨hi, hl, hk⟩ hcame hWm
      have hsz : w.heap.size + 2 ≤ W.heap.size := by have := (Array.getElem?_eq_some_iff.1 hl).1; omega
      have hy := run_yield (P := P) (args := encs x) hl (by rw [hrec]; exact hps x)
      rw [hrec] at hy
      have hbx := hbox x W
      have hbz := hbx.size
      have hla : (box x W).heap[w.heap.size + 1]? = some (.loop (rec .ready none)) := (hbx.block _ (by omega)).trans hl
      have hka : (box x W).heap[w.heap.size]? = some (.deferred (some [])) := (hbx.block _ (by omega)).trans hk
      refine ⟨fn, _, assign, body, hy, roundIn_of_wpIn hfn (hassign _ pre x W _ hcame ⟨_, run_beginRound hla (by rw [hrec]), ?_⟩)⟩
      obtain ⟨W3, hW3⟩ : ∃ W3, (box x W).putObj (w.heap.size + 1) (.loop { rec .ready none with state := .busy }) = W3 := ⟨_, rfl⟩
      have hl2 : W3.heap[w.heap.size + 1]? = some (.loop { rec .ready none with state := .busy }) := by rw [← hW3]; exact World.putObj_heap_same (by omega)
      have hk2 : W3.heap[w.heap.size]? = some (.deferred (some [])) := by rw [← hW3]; exact (World.putObj_heap_other (by omega)).trans hka
      have hi3 : I pre W3 := by rw [← hW3]; exact putI _ hI (hI _ _ _ hi (hbx.mono (by omega)))
      have hs3 : (box x W).heap.size ≤ W3.heap.size := by rw [← hW3]; simp
      have same3 : KeptF (fun k => mine k ∨ k = w.heap.size + 1) W W3 := ⟨by omega, fun k hlt hm => by
        have hne : k ≠ w.heap.size + 1 := fun e => hm (.inr e)
        rw [← hW3]
        exact (World.putObj_heap_other hne).trans (hbx.block _ hlt)⟩
      rw [hW3]
      refine wpIn_mono (hbody _ pre x W W3 _ hi hWm hcame hW3.symm hi3) ?_
      have fin : ∀ (jump : Option Code) (W4 : World), KeptF mine W3 W4 →
          (Instr.endRound (w.heap.size + 1) jump).run P W4 = .ok (.bool jump.isNone) (W4.putObj (w.heap.size + 1) (.loop (rec (if jump.isNone then .ready else .done) jump))) ∧
          (W4.putObj (w.heap.size + 1) (.loop (rec (if jump.isNone then .ready else .done) jump))).heap[w.heap.size + 1]? = some (.loop (rec (if jump.isNone then .ready else .done) jump)) ∧
          (W4.putObj (w.heap.size + 1) (.loop (rec (if jump.isNone then .ready else .done) jump))).heap[w.heap.size]? = some (.deferred (some [])) := fun jump W4 hk3 => by
        have hl3 := (hk3.same (w.heap.size + 1) (Array.getElem?_eq_some_iff.1 hl2).1 (fun h => by have := hm _ h; omega)).trans hl2
        have := run_endRound (P := P) jump hl3
        rw [hrec] at this ⊢
        exact ⟨this, World.putObj_heap_same (Array.getElem?_eq_some_iff.1 hl3).1, (World.putObj_heap_other (by omega)).trans ((hk3.same w.heap.size (Array.getElem?_eq_some_iff.1 hk2).1 (fun h => by have := hm _ h; omega)).trans hk2)⟩
      rintro e a3 W4 hp
      cases e with
      | normal =>
        obtain ⟨hsame, hi4⟩ := hp
        obtain ⟨hr, hl4, hk4⟩ := fin none W4 hsame
        refine ⟨_, _, hr, .inl ⟨rfl, ⟨putI _ hI hi4, hl4, hk4⟩, same3.trans ⟨?_, fun k hlt hm => ?_⟩⟩⟩
        · have := hsame.size; simp; omega
        · exact (World.putObj_heap_other (fun e => hm (.inr e))).trans (hsame.same k hlt (fun h => hm (.inl h)))
      | ret =>
        obtain ⟨hk3, hi4⟩ := hp
        obtain ⟨hr, hl4, hk4⟩ := fin (some .ret) W4 hk3
        exact ⟨_, _, hr, .inr ⟨rfl, ⟨.ret, putX _ _ hi4, hl4, hk4⟩, same3.trans ⟨(by have := hk3.size; simp; omega), fun k hlt hm' => (World.putObj_heap_other (fun e => hm' (.inr e))).trans (hk3.same k hlt (fun h => hm' (.inl h)))⟩⟩⟩
      | exit id =>
        obtain ⟨hk3, hi4⟩ := hp
        obtain ⟨hr, hl4, hk4⟩ := fin (some (.exit id)) W4 hk3
        exact ⟨_, _, hr, .inr ⟨rfl, ⟨.exit id, putX _ _ hi4, hl4, hk4⟩, same3.trans ⟨(by have := hk3.size; simp; omega), fun k hlt hm' => (World.putObj_heap_other (fun e => hm' (.inr e))).trans (hk3.same k hlt (fun h => hm' (.inl h)))⟩⟩⟩
      | goto t =>
        obtain ⟨hk3, hi4⟩ := hp
        obtain ⟨hr, hl4, hk4⟩ := fin (some (.goto t)) W4 hk3
        exact ⟨_, _, hr, .inr ⟨rfl, ⟨.goto t, putX _ _ hi4, hl4, hk4⟩, same3.trans ⟨(by have := hk3.size; simp; omega), fun k hlt hm' => (World.putObj_heap_other (fun e => hm' (.inr e))).trans (hk3.same k hlt (fun h => hm' (.inl h)))⟩⟩⟩
      | panic ch => exact hp.elim
      | outgrown => exact hp.elim
    · -- BEHIND THE ITERATOR
      rintro e W2 ⟨⟨v, rfl⟩, (⟨xs, hS, hi, hl, hk⟩ | ⟨pre, hSp, c, hi, hl, hk⟩)⟩
      · exact ⟨none, _, by have := run_endLoop (P := P) hl (by rw [hrec]; simp); rw [hrec] at this; exact this, hdone _ xs _ rfl hS (putI _ hI hi) ((World.putObj_heap_other (by omega)).trans hk)⟩
      · exact ⟨some c, _, by have := run_endLoop (P := P) hl (by rw [hrec]; simp); rw [hrec] at this; exact this, hstop _ c pre _ rfl hSp (putX c _ hi) ((World.putObj_heap_other (by omega)).trans hk)⟩
end Go.Proofs.YtdcpmkhebfcfgaaDoor
namespace Go.Proofs.YtdcpmkhebfcfgaaDoor
open Go.RowKit Go.Shelf
attribute [local go_sem] Oper.semAt_some

theorem yield_wide {P : Program} {m m' l : Nat} {args : Array Value} {W : World} {R : Ending → World → Prop} (h : YieldAt Fence.wide m P l args W R) : YieldAt Fence.wide m' P l args W R := by
  obtain ⟨fn, tmps, assign, body, hy, hr⟩ := h
  exact ⟨fn, tmps, assign, body, hy, hr.1, fun c cs _ => hr.2 c cs (room_wide _)⟩
def numFrom (k : Nat) : List Ent → List (Nat × Ent)
  | [] => []
  | x :: xs => (k, x) :: numFrom (k + 1) xs
theorem numFrom_snoc (x : Ent) : ∀ (xs : List Ent) (k : Nat), numFrom k (xs ++ [x]) = numFrom k xs ++ [(k + xs.length, x)]
  | [], k => by simp [numFrom]
  | y :: ys, k => by
    simp only [List.cons_append, numFrom, numFrom_snoc x ys (k + 1), List.length_cons]
    rw [show k + 1 + ys.length = k + (ys.length + 1) by omega]
theorem numFrom_len : ∀ (xs : List Ent) (k : Nat), (numFrom k xs).length = xs.length
  | [], _ => rfl
  | _ :: ys, k => by simp [numFrom, numFrom_len ys (k + 1)]
theorem numFrom_map : ∀ (xs : List Ent) (k : Nat), (numFrom k xs).map (·.2) = xs
  | [], _ => rfl
  | _ :: ys, k => by simp [numFrom, numFrom_map ys (k + 1)]
def nenc (x : Nat × Ent) : Array Value := #[.int .i64 (x.1 : Int), x.2.D.val x.2.v]
def NCame (T : Nd) (B0 : Nat) (W0 : World) (pre : List (Nat × Ent)) (x : Nat × Ent) : Prop := x.1 = pre.length ∧ WCame T B0 W0 (pre.map (·.2)) x.2

theorem KeptF.wide {m m' : Nat → Prop} {A C : World} (h : KeptF m A C) (hm : ∀ k, m k → m' k) : KeptF m' A C := ⟨h.size, fun k hk hn => h.same k hk fun h' => hn (hm k h')⟩
theorem KeptF.of_below {m : Nat → Prop} {A C : World} (h : Below A.heap.size A C) : KeptF m A C := ⟨h.size, fun k hk _ => h.block k hk⟩

structure NmI (B l : Nat) (J : List (Nat × Ent) → World → Prop) (pre : List Ent) (A : World) : Prop where
  j : J (numFrom 0 pre) A
  yb : Boxed A (B + 2) 63 (.func (.yield l) #[] #[])
  nb : Boxed A (B + 3) 3 (.int .i64 (pre.length : Int))
  size : B + 4 ≤ A.heap.size
theorem NmI.under {B l : Nat} {J : List (Nat × Ent) → World → Prop} (hJ : Under (B + 2) J) : Under (B + 4) (NmI B l J) := fun pre A C h hb =>
  ⟨hJ _ _ _ h.j (hb.mono (by omega)), (hb.block _ (by omega)).trans h.yb, (hb.block _ (by omega)).trans h.nb, Nat.le_trans h.size hb.size⟩

set_option maxHeartbeats 4000000 in
set_option maxRecDepth 100000 in
theorem num_in (n : Nat) (hn : 5 ≤ n) (T : Nd) (u : Value) (B0 B ba br bk l : Nat) (mine : Nat → Prop) (J Jx : List (Nat × Ent) → World → Prop) (W0 W : World) (hT : T.Fine) (hcost : T.cost ≤ 1048576)
    (hWs : W.heap.size = B + 2) (hB0 : B0 ≤ B) (hba : ba < B) (hbr : br < B) (hbk : bk < B) (hmine : ∀ k, mine k → B0 ≤ k ∧ k < B ∧ k ≠ bk) (hb0 : ∀ k, k < B0 → W.heap[k]? = W0.heap[k]?) (hrow : Row 0 B0 W0 T u)
    (hJ : Under (B + 2) J) (hJx : Stab (fun k => B + 2 ≤ k ∧ k < B + 6) Jx)
    (hY : ∀ pre x W1, J pre W1 → NCame T B0 W0 pre x → B + 6 ≤ W1.heap.size → YieldAt Fence.wide (n - 1) Tryd.prog l (nenc x) W1 fun e W' =>
      (e = .returned (.bool true) ∧ J (pre ++ [x]) W' ∧ KeptF (fun k => mine k ∨ k = B + 1) W1 W') ∨ (e = .returned (.bool false) ∧ Jx (pre ++ [x]) W' ∧ KeptF (fun k => mine k ∨ k = B + 1) W1 W'))
    (h0 : J [] W) (ra : W.cell? ⟨ba, 0, none⟩ = some (.func (.func 56) #[] #[.pointer (some ⟨br, 0, none⟩), .pointer (some ⟨bk, 0, none⟩)]))
    (r0 : W.cell? ⟨br, 0, none⟩ = some (.int .i64 T.kind)) (r1 : W.cell? ⟨br, 1, none⟩ = some (.int .i64 T.num)) (r2 : W.cell? ⟨br, 2, none⟩ = some (.string T.name)) (r3 : W.cell? ⟨br, 3, none⟩ = some u)
    (hkf : W.cell? ⟨bk, 0, none⟩ = some (.func (.func 39) #[] #[])) :
    CallsIn Fence.wide n Tryd.prog 47 #[.func (.yield l) #[] #[], .pointer (some ⟨ba, 0, none⟩)] W fun e W' => (∃ v, e = .returned v) ∧ ((∃ xs, WAll T (xs.map (·.2)) ∧ J xs W') ∨ (∃ pre, True ∧ Jx pre W')) := by
  refine callsIn_of_wp_marks Tryd.func47 rfl trivial ?_ rfl
  simp only [Tryd.ntmps47, List.size_toArray, List.length_cons, List.length_nil, Nat.reduceAdd, Nat.reduceSub, Array.replicate_succ, Array.replicate_zero, List.push_toArray, List.append_toArray, List.nil_append, List.cons_append]
  obtain ⟨V, hV⟩ : ∃ V, (W.alloc (.cells #[.func (.yield l) #[] #[]] 63)).alloc (.cells #[.int .i64 0] 3) = V := ⟨_, rfl⟩
  have hb1 : Below W.heap.size W V := by rw [← hV]; exact ((Below.refl _ _).alloc (Nat.le_refl _) _).alloc (by simp) _
  have hVs : V.heap.size = B + 4 := by rw [← hV]; simp; omega
  have hc1 : ∀ b o, b < B + 2 → V.cell? ⟨b, o, none⟩ = W.cell? ⟨b, o, none⟩ := fun b o hb => hb1.cell (p := ⟨b, o, none⟩) (show b < W.heap.size by omega)
  have yb0 : Boxed V (B + 2) 63 (.func (.yield l) #[] #[]) := by
    rw [← hV, ← hWs]; exact (Boxed.new W _ _).alloc _
  have nb0 : Boxed V (B + 3) 3 (.int .i64 0) := by
    rw [← hV]
    have := Boxed.new (W.alloc (.cells #[.func (.yield l) #[] #[]] 63)) 3 (.int .i64 0)
    rw [World.size_alloc, hWs] at this
    exact this
  have hra : ((W.alloc (.cells #[.func (.yield l) #[] #[]] 63)).alloc (.cells #[.int .i64 0] 3)).cell? ⟨ba, 0, none⟩ = some (.func (.func 56) #[] #[.pointer (some ⟨br, 0, none⟩), .pointer (some ⟨bk, 0, none⟩)]) := by
    rw [hV, hc1 _ _ (by omega)]; exact ra
  have HJ := hid_mk hJ
  have HJX := hid_mk hJx
  have HY := hid_mk hY
  have H0 := hid_mk h0
  have HROW := hid_mk hrow
  have HB0 := hid_mk hb0
  have HMI := hid_mk hmine
  have HWS := hid_mk hWs
  have HV := hid_mk hV
  clear hJ hJx hY h0 hrow hb0 hmine hV
  gi_wp2
  rw [HV.out]
  have hI0 : NmI B l J [] V := ⟨HJ.out _ _ _ H0.out (hb1.mono (by have := HWS.out; omega)), yb0, nb0, by omega⟩
  refine wpIn_rangeFunc_frame3 (α := Ent) (encs := wenc) (S := WAll T) (Sp := fun _ => True) (Came := WCame T B0 W0) (mine := fun k => mine k ∨ k = B + 1 ∨ k = B + 3) 2 (by omega) rfl (by omega) (gf := 56) (lb := #[.pointer (some ⟨br, 0, none⟩), .pointer (some ⟨bk, 0, none⟩)]) rfl trivial (enters_of Tryd.func56 (by kernel_rfl) rfl)
    (fun l' J' Jx' X hXs hbX hJ' hJx' hJz' hY' h0' => by
      have hcX : ∀ b o, b < B + 2 → X.cell? ⟨b, o, none⟩ = W.cell? ⟨b, o, none⟩ := fun b o hb => (hbX.cell (p := ⟨b, o, none⟩) (by show b < V.heap.size; omega)).trans (hc1 b o hb)
      refine walk_in (n - 1) (by omega) T u B0 V.heap.size br bk l' (fun k => mine k ∨ k = B + 1 ∨ k = B + 3) J' Jx' W0 X hT hcost hXs (by omega) (by omega) (by omega) (fun k hk => by
          have := HMI.out k
          rcases hk with hk | rfl | rfl
          · have := this hk; omega
          · omega
          · omega) (fun k hk => (hbX.block k (by omega)).trans ((hb1.block k (by have := HWS.out; omega)).trans (HB0.out k hk))) HROW.out hJ' hJz' (fun pre x W1 hj hc => ?_) h0'
        ((hcX _ _ (by omega)).trans r0) ((hcX _ _ (by omega)).trans r1) ((hcX _ _ (by omega)).trans r2) ((hcX _ _ (by omega)).trans r3) ((hcX _ _ (by omega)).trans hkf)
      obtain ⟨fn, tm, as', bd, hy, hr⟩ := hY' pre x W1 hj hc (hJz' pre W1 hj)
      exact ⟨fn, tm, as', bd, hy, hr.mono fun e W' h => h.imp id fun h => ⟨h.1, h.2.1⟩⟩)
    (fun k hk => by
      have := HMI.out k
      rcases hk with hk | rfl | rfl
      · have := this hk; omega
      · omega
      · omega)
    (fun _ => rfl) (NmI B l J) (fun c pre A => c = .ret ∧ Jx (numFrom 0 pre) A) (by rw [hVs]; exact NmI.under HJ.out) (fun c pre A C h hb => ⟨h.1, HJX.out _ _ _ h.2 ⟨hb.os, hb.tape, hb.output, hb.size, fun k k1 k2 => hb.same k k1 (by omega)⟩⟩) hI0
    (fun x X => { tmps := #[.func (.yield l) #[] #[], .pointer (some ⟨ba, 0, none⟩), .pointer (some ⟨B + 2, 0, none⟩), .pointer (some ⟨B + 2 + 1, 0, none⟩), .pointer (some ⟨X.heap.size, 0, none⟩), .func (.func 56) #[] #[.pointer (some ⟨br, 0, none⟩), .pointer (some ⟨bk, 0, none⟩)], x.D.val x.v, .int .i64 (x.d : Int), undef, undef, undef, undef, undef, undef, undef], defers := [] })
    (fun x X => X.alloc (.cells #[.int .i64 x.D.kind, .int .i64 x.D.num, .string x.D.name, x.v] 29)) (fun x X => (Below.refl _ _).alloc (Nat.le_refl _) _) ?assign ?body ?done ?stop
  case assign =>
    intro l' pre x X K hcame hK
    obtain ⟨xa, xc, hxv⟩ : ∃ xa xc, x.v = .slice xa x.D.len xc := by obtain ⟨a', c', h, _⟩ := row_eq.1 hcame.2.1; exact ⟨a', c', h⟩
    have HKK := hid_mk hK
    simp only [wenc, Nd.val] at HKK ⊢
    rw [hxv] at HKK ⊢
    clear hK
    gi_wp2
    exact HKK.out
  case body =>
    rintro l' pre x X1 X3 r hi hz hcame hX3 hi3
    have hz3 := hi3.size
    have q := hi3.yb.cell
    have qn : X3.cell? ⟨B + 2 + 1, 0, none⟩ = some (.int .i64 (pre.length : Int)) := hi3.nb.cell
    obtain ⟨xa, xc, hxv⟩ : ∃ xa xc, x.v = .slice xa x.D.len xc := by obtain ⟨a', c', h, _⟩ := row_eq.1 hcame.2.1; exact ⟨a', c', h⟩
    have hone : X3.heap[X1.heap.size]? = some (.cells #[.int .i64 x.D.kind, .int .i64 x.D.num, .string x.D.name, x.v] 29) := by
      rw [hX3]; exact (World.putObj_heap_other (by have := hVs; omega)).trans (heap_alloc_new X1 _)
    have o0 : X3.cell? ⟨X1.heap.size, 0, none⟩ = some (.int .i64 x.D.kind) := by rw [cell_of_row _ _ _ _ _ (0, 0) hone]; rfl
    have o1 : X3.cell? ⟨X1.heap.size, 1, none⟩ = some (.int .i64 x.D.num) := by rw [cell_of_row _ _ _ _ _ (0, 0) hone]; rfl
    have o2 : X3.cell? ⟨X1.heap.size, 2, none⟩ = some (.string x.D.name) := by rw [cell_of_row _ _ _ _ _ (0, 0) hone]; rfl
    have o3 : X3.cell? ⟨X1.heap.size, 3, none⟩ = some (.slice xa x.D.len xc) := by rw [cell_of_row _ _ _ _ _ (0, 0) hone, hxv]; rfl
    have hpl : pre.length < T.size := by
      obtain ⟨rest, hrest⟩ := hcame.1
      have := congrArg List.length hrest
      rw [pre_len] at this
      simp at this; omega
    have hsc := T.size_cost
    have hnc : NCame T B0 W0 (numFrom 0 pre) (pre.length, x) := ⟨(numFrom_len pre 0).symm, by rw [numFrom_map]; exact hcame⟩
    obtain ⟨fn, tmps, assign, bod, hy, hR⟩ := yield_wide (m' := n - 1 - 1 - 1) (HY.out _ _ X3 hi3.j hnc (by have : (X1.alloc (.cells #[.int .i64 x.D.kind, .int .i64 x.D.num, .string x.D.name, x.v] 29)).heap.size ≤ X3.heap.size := (by rw [hX3]; simp); rw [World.size_alloc] at this; omega))
    simp only [nenc, Nd.val] at hy
    rw [hxv] at hy
    have hsn : numFrom 0 (pre ++ [x]) = numFrom 0 pre ++ [(pre.length, x)] := by rw [numFrom_snoc, Nat.zero_add]
    rw [← hsn] at hR
    have HR := hid_mk (hR.mono (R' := fun e' W' => ∃ b : Bool, e' = .returned (.bool b) ∧ Hid (b = true → J (numFrom 0 (pre ++ [x])) W') ∧ Hid (b = false → Jx (numFrom 0 (pre ++ [x])) W') ∧ Hid (KeptF (fun k => mine k ∨ k = B + 1) X3 W'))
      (fun e' W' h => by
        rcases h with ⟨rfl, h, h'⟩ | ⟨rfl, h, h'⟩
        · exact ⟨true, rfl, (fun _ => h), (fun h => by cases h), h'⟩
        · exact ⟨false, rfl, (fun h => by cases h), (fun _ => h), h'⟩))
    have HI := hid_mk hi3
    simp only [Nd.val]
    rw [hxv]
    clear hR hsn hnc hcame hX3 hone hi hi3 hxv
    gi_wp2_with (fail)
    refine ⟨fun _ => by omega, ?_⟩
    show RoundIn Fence.wide _ _ _ _ _ _ _ _ _
    refine HR.out.mono ?_
    rintro e' W' ⟨b, rfl, hb1, hb2, hb3⟩
    have hno : ∀ k, (k = B + 2 ∨ k = B + 3) → ¬ (mine k ∨ k = B + 1) := fun k hk h => by
      rcases h with h | h
      · have := HMI.out k h; omega
      · omega
    have hyb : Boxed W' (B + 2) 63 (.func (.yield l) #[] #[]) := (hb3.out.same _ (by omega) (hno _ (.inl rfl))).trans HI.out.yb
    have hnb : Boxed W' (B + 3) 3 (.int .i64 (pre.length : Int)) := (hb3.out.same _ (by omega) (hno _ (.inr rfl))).trans HI.out.nb
    have q' : W'.cell? ⟨B + 2 + 1, 0, none⟩ = some (.int .i64 (pre.length : Int)) := hnb.cell
    have qf' : W'.frozen? ⟨B + 2 + 1, 0, none⟩ = false := hnb.frozen
    have HYB := hid_mk hyb
    have HNB := hid_mk hnb
    have hkz := hb3.out.size
    clear hyb hnb q qn o0 o1 o2 o3 HR hy
    cases b with
    | false =>
      gi_wp2
      exact ⟨hb3.out.wide fun k h => h.imp id .inl, rfl, hb2.out (by first | trivial | rfl)⟩
    | true =>
      gi_wp2
      have hnx := HNB.out.set (.int .i64 ((pre ++ [x]).length : Int))
      have hpl1 : (.int .i64 ((pre.length : Int) + 1) : Value) = .int .i64 ((pre ++ [x]).length : Int) := by simp
      rw [hpl1]
      refine ⟨(hb3.out.wide fun k h => h.imp id .inl).trans ⟨by simp [World.setCell], fun k hk hm => Below.heap_setCell _ _ _ _ (by show k ≠ B + 2 + 1; intro e; exact hm (.inr (.inr (by omega))))⟩, ?_⟩
      exact ⟨HJ.out _ _ _ (hb1.out (by first | trivial | rfl)) ((Below.refl _ _).setCell (p := ⟨B + 2 + 1, 0, none⟩) (by show B + 2 ≤ B + 2 + 1; omega) _), (Below.heap_setCell _ _ _ _ (by show B + 2 ≠ B + 2 + 1; omega)).trans HYB.out, hnx, by simp [World.setCell]; omega⟩
  case done =>
    rintro D xs X hD hS hi hK
    have HI := hid_mk hi
    have HK := hid_mk hK
    have HS := hid_mk hS
    clear hi hK hS
    gi_wp2
    have gp := grownBy_putObj' X D (.deferred none)
    have hbD : Below (B + 2) X (X.putObj D (.deferred none)) := (Below.refl _ _).grown gp (by have := HI.out.size; omega) (fun k e => by have := Option.some.inj e; omega)
    refine ⟨by simp, .inl ⟨_, _, rfl, run_takeDeferred HK.out, ?_⟩⟩
    exact ⟨_, results_none rfl _ _ _, ⟨_, rfl⟩, .inl ⟨numFrom 0 xs, by rw [numFrom_map]; exact HS.out, HJ.out _ _ _ HI.out.j hbD⟩⟩
  case stop =>
    rintro D c pre X hD _ ⟨rfl, hx⟩ hK
    have HX := hid_mk hx
    have HK := hid_mk hK
    clear hx hK
    gi_wp2
    have gp := grownBy_putObj' X D (.deferred none)
    have hDl := (Array.getElem?_eq_some_iff.1 HK.out).1
    refine ⟨by simp, .inl ⟨_, _, rfl, run_takeDeferred HK.out, ?_⟩⟩
    exact ⟨_, results_none rfl _ _ _, ⟨_, rfl⟩, .inr ⟨_, trivial, HJX.out _ _ _ HX.out ⟨rfl, rfl, rfl, by simp, fun k _ hk => World.putObj_heap_other (fun e => hk (by rw [e]; omega))⟩⟩⟩
end Go.Proofs.YtdcpmkhebfcfgaaDoor
