/- A range over a function whose iterator keeps a state of its own in a block of cells: the law for the caller. -/
import Derived.RangeFuncNested
import Derived.RangeFuncBound
import Derived.RangeFuncCalls
import Derived.RangeFuncLeaves
import Derived.Below
namespace Go.Proofs.YtnpjnmkmjcpjmaaDoor
open Go.RowKit

/-- What a round keeps for the iterator: some blocks, and those that the iterator has laid since the last round. -/
structure KeptR (keep : Nat → Prop) (W0 W1 W' : World) : Prop where
  size : W1.heap.size ≤ W'.heap.size
  same : ∀ k, (keep k ∨ (W0.heap.size ≤ k ∧ k < W1.heap.size)) → W'.heap[k]? = W1.heap[k]?

/-- How the body of a round may be left. -/
def postR {α : Type} (keep : Nat → Prop) (I : List α → World → Prop) (Ix : Code → List α → World → Prop) (xs : List α) (W0 W1 W3 : World) : Exit → Act → World → Prop
  | .normal, _, W' => KeepsOthers W3 W' ∧ (∀ k, (keep k ∨ (W0.heap.size ≤ k ∧ k < W1.heap.size)) → W'.heap[k]? = W3.heap[k]?) ∧ I xs W'
  | .ret, _, W' => KeepsOthers W3 W' ∧ Ix .ret xs W'
  | .exit id, _, W' => KeepsOthers W3 W' ∧ Ix (.exit id) xs W'
  | .goto t, _, W' => KeepsOthers W3 W' ∧ Ix (.goto t) xs W'
  | .panic _, _, _ => False
  | .outgrown, _, _ => False

/-- What is said of blocks apart from three: the deferred calls', the loop's record, the iterator's own. -/
def Apart3 {β : Type} (B : Nat) (I : β → World → Prop) : Prop :=
  ∀ s A C row, I s A → A.grownBy C row → (∀ r, row = some r → B ≤ r ∧ r < B + 3) → I s C

theorem grownBy_of_below {A C : World} (h : Below A.heap.size A C) : A.grownBy C none :=
  ⟨h.os, h.tape, h.output, h.size, fun k hk _ => h.block k hk⟩
theorem Apart3.below {β : Type} {B : Nat} {I : β → World → Prop} (h : Apart3 B I) {s : β} {A C : World} (hs : I s A) (hb : Below A.heap.size A C) : I s C :=
  h s A C none hs (grownBy_of_below hb) (fun r e => by cases e)
theorem Apart3.putObj {β : Type} {B : Nat} {I : β → World → Prop} (h : Apart3 B I) {s : β} {A : World} (hs : I s A) (l : Nat) (o : Obj) (h1 : B ≤ l) (h2 : l < B + 3) : I s (A.putObj l o) :=
  h s A _ (some l) hs (grownBy_putObj' A l o) (fun r e => by cases e; exact ⟨h1, h2⟩)

variable {F : Fence} {n : Nat} {P : Program}

theorem wpIn_rangeFunc_cells {α : Type} {g : Operand} {ps : Array Tmp} {assign body : Code} {Q : Exit → Act → World → Prop} {a : Act} {w : World}
    (hro : F.round = none) (h1 : 1 ≤ n) {gf : Nat} {lb : Array Value} (hg : a.eval g = .func (.func gf) #[] lb) (hFg : F.fn gf) (eg : ∀ args w, (callFunc gf args).run P w = .ok (.enter gf args) w)
    {encs : α → Array Value} {S Sp : List α → Prop} {Came : List α → α → Prop} {keep : Nat → Prop} (hkeep : ∀ k, keep k → k ≠ w.heap.size ∧ k ≠ w.heap.size + 1 ∧ k < w.heap.size + 3)
    (hseq : ∀ (l : Nat) (J Jx : List α → World → Prop) (W : World), W.heap.size = w.heap.size + 2 → Below w.heap.size w W →
      (∀ pre A C row, J pre A → A.grownBy C row → (∀ r, row = some r → r = w.heap.size + 2) → J pre C) → (∀ pre A C row, Jx pre A → A.grownBy C row → (∀ r, row = some r → r = w.heap.size + 2) → Jx pre C) →
      (∀ pre A, J pre A → w.heap.size + 2 ≤ A.heap.size) →
      (∀ pre x W0 W1, J pre W0 → w.heap.size + 2 < W0.heap.size → Below W0.heap.size W0 W1 → Came pre x → YieldAt F (n - 1 - 1) P l (encs x) W1 fun e W' =>
        (e = .returned (.bool true) ∧ J (pre ++ [x]) W' ∧ KeptR keep W0 W1 W') ∨ (e = .returned (.bool false) ∧ Jx (pre ++ [x]) W')) →
      J [] W → CallsIn F (n - 1) P gf (#[.func (.yield l) #[] #[]] ++ lb) W fun e W' => (∃ v, e = .returned v) ∧ ((∃ xs, S xs ∧ J xs W') ∨ (∃ pre, Sp pre ∧ Jx pre W')))
    (hps : ∀ x, (encs x).size = ps.size)
    (I : List α → World → Prop) (Ix : Code → List α → World → Prop) (hI : Apart3 w.heap.size I) (hIx : ∀ c, Apart3 w.heap.size (Ix c)) (h0 : I [] w) (a₁ : α → Nat → Act) (box : α → Obj)
    (hassign : ∀ (l : Nat) (x : α) (W : World) (K : Act → World → Prop), K (a₁ x W.heap.size) (W.alloc (box x)) →
      assign.wpIn (F.inRound l) (n - 1 - 1) P (Exit.then K (fun _ _ _ => False)) { tmps := (ps.zip (encs x)).foldl (fun t (p, v) => t.setIfInBounds p v) a.tmps, defers := [] } W)
    (hbody : ∀ (l : Nat) (pre : List α) (x : α) (W0 W1 W3 : World) (r : Loop), I pre W0 → w.heap.size + 2 < W0.heap.size → Below W0.heap.size W0 W1 → Came pre x → W3 = (W1.alloc (box x)).putObj (w.heap.size + 1) (.loop r) → I pre W3 →
      body.wpIn (F.inRound l) (n - 1 - 1) P (postR keep I Ix (pre ++ [x]) W0 W1 W3) (a₁ x W1.heap.size) W3)
    (hdone : ∀ (D : Nat) (xs : List α) (W : World), w.heap.size ≤ D → S xs → I xs W → W.heap[D]? = some (.deferred (some [])) → Q .normal { a with defers := { target := .collected D, args := #[] } :: a.defers } W)
    (hstop : ∀ (D : Nat) (c : Code) (pre : List α) (W : World), w.heap.size ≤ D → Sp pre → Ix c pre W → W.heap[D]? = some (.deferred (some [])) → c.wpIn F n P Q { a with defers := { target := .collected D, args := #[] } :: a.defers } W) :
    (Code.rangeFunc g ps assign body).wpIn F n P Q a w := by
  refine wpIn_rangeFunc ?_
  intro fn hfn
  rw [hro]
  obtain ⟨rec, hrec⟩ : ∃ rec : LoopState → Option Code → Loop, rec = fun st pe => { state := st, pending := pe, fn, tmps := a.tmps, params := ps, assign, body, defers := w.heap.size } := ⟨_, rfl⟩
  obtain ⟨W1, hW1⟩ : ∃ W1, (w.alloc (.deferred (some []))).alloc (.loop (rec .ready none)) = W1 := ⟨_, rfl⟩
  have hL1 : W1.heap[w.heap.size + 1]? = some (.loop (rec .ready none)) := by
    rw [← hW1]; have := World.alloc_heap_new (w.alloc (.deferred (some []))) (.loop (rec .ready none)); rwa [World.size_alloc] at this
  have hK1 : W1.heap[w.heap.size]? = some (.deferred (some [])) := by
    rw [← hW1]; exact (Below.heap_alloc _ _ _ (by simp)).trans (World.alloc_heap_new w _)
  have hbW : Below w.heap.size w W1 := by rw [← hW1]; exact ((Below.refl _ w).alloc (Nat.le_refl _) _).alloc (by simp) _
  have hI1 : I [] W1 := hI.below h0 hbW
  have hsz1 : W1.heap.size = w.heap.size + 2 := by rw [← hW1]; simp
  refine ⟨w.heap.size + 1, [{ target := .collected w.heap.size, args := #[] }], W1, { target := .fn (.func gf) lb, args := #[.func (.yield (w.heap.size + 1)) #[] #[]] }, W1, gf,
    #[.func (.yield (w.heap.size + 1)) #[] #[]] ++ lb, W1, ?_, ?_, ?_, ?_, fun _ => h1, ?_⟩
  · rw [← hW1, hrec]; exact run_enterLoop_outer _ _ _ _ _
  · simp only [resolve, hg]
    simp [go_sem]
  · intro f' hf'; simp [Target.leads] at hf'; subst hf'; exact hFg
  · simp [invoke, go_sem, eg]
  · have keepRec : ∀ {A C : World} {row : Option Nat} {k : Nat} {o : Obj}, A.grownBy C row → (∀ r, row = some r → r = w.heap.size + 2) → k < w.heap.size + 2 → A.heap[k]? = some o → C.heap[k]? = some o := fun hg' hr hk ho => by
      rw [hg'.block _ (Array.getElem?_eq_some_iff.1 ho).1 (fun e => by have := hr _ e.symm; omega)]; exact ho
    refine (hseq (w.heap.size + 1)
      (fun pre W => I pre W ∧ W.heap[w.heap.size + 1]? = some (.loop (rec .ready none)) ∧ W.heap[w.heap.size]? = some (.deferred (some [])))
      (fun pre W => ∃ c, Ix c pre W ∧ W.heap[w.heap.size + 1]? = some (.loop (rec .done (some c))) ∧ W.heap[w.heap.size]? = some (.deferred (some [])))
      W1 hsz1 hbW
      (fun s A C row hs hg' hr => ⟨hI s A C row hs.1 hg' (fun r e => by have := hr r e; omega), keepRec hg' hr (by omega) hs.2.1, keepRec hg' hr (by omega) hs.2.2⟩)
      (fun s A C row hs hg' hr => by
        obtain ⟨c, hc, hl, hk⟩ := hs
        exact ⟨c, hIx c s A C row hc hg' (fun r e => by have := hr r e; omega), keepRec hg' hr (by omega) hl, keepRec hg' hr (by omega) hk⟩)
      (fun pre A hs => by have := (Array.getElem?_eq_some_iff.1 hs.2.1).1; omega)
      ?_ ⟨hI1, hL1, hK1⟩).mono ?_
    · -- ONE ROUND
      rintro pre x W0 W ⟨hi, hl0, hk0⟩ hz0 hb hcame
      have hl : W.heap[w.heap.size + 1]? = some (.loop (rec .ready none)) := (hb.block _ (by omega)).trans hl0
      have hk : W.heap[w.heap.size]? = some (.deferred (some [])) := (hb.block _ (by omega)).trans hk0
      have hbz := hb.size
      have hy := run_yield (P := P) (args := encs x) hl (by rw [hrec]; exact hps x)
      rw [hrec] at hy
      have hla : (W.alloc (box x)).heap[w.heap.size + 1]? = some (.loop (rec .ready none)) := (Below.heap_alloc W _ _ (by omega)).trans hl
      have hka : (W.alloc (box x)).heap[w.heap.size]? = some (.deferred (some [])) := (Below.heap_alloc W _ _ (by omega)).trans hk
      refine ⟨fn, _, assign, body, hy, roundIn_of_wpIn hfn (hassign _ x W _ ⟨_, run_beginRound hla (by rw [hrec]), ?_⟩)⟩
      obtain ⟨W3, hW3⟩ : ∃ W3, (W.alloc (box x)).putObj (w.heap.size + 1) (.loop { rec .ready none with state := .busy }) = W3 := ⟨_, rfl⟩
      have hl2 : W3.heap[w.heap.size + 1]? = some (.loop { rec .ready none with state := .busy }) := by rw [← hW3]; exact World.putObj_heap_same (by rw [World.size_alloc]; omega)
      have hk2 : W3.heap[w.heap.size]? = some (.deferred (some [])) := by rw [← hW3]; exact (World.putObj_heap_other (by omega)).trans hka
      have hi3 : I pre W3 := by rw [← hW3]; exact hI.putObj (hI.below hi (hb.trans (((Below.refl _ W).alloc (Nat.le_refl _) _).mono hbz))) _ _ (by omega) (by omega)
      have hs3 : W.heap.size ≤ W3.heap.size := by rw [← hW3]; simp
      have same3 : ∀ k, (keep k ∨ (W0.heap.size ≤ k ∧ k < W.heap.size)) → W3.heap[k]? = W.heap[k]? := fun k hk' => by
        have hne : k ≠ w.heap.size + 1 := hk'.elim (fun h => (hkeep k h).2.1) (fun h => by omega)
        have hlt : k < W.heap.size := hk'.elim (fun h => by have := (hkeep k h).2.2; omega) (fun h => h.2)
        rw [← hW3]
        exact (World.putObj_heap_other hne).trans (Below.heap_alloc W _ _ hlt)
      rw [hW3]
      refine wpIn_mono (hbody _ pre x W0 W W3 _ hi hz0 hb hcame hW3.symm hi3) ?_
      have fin : ∀ (jump : Option Code) (W4 : World), KeepsOthers W3 W4 →
          (Instr.endRound (w.heap.size + 1) jump).run P W4 = .ok (.bool jump.isNone) (W4.putObj (w.heap.size + 1) (.loop (rec (if jump.isNone then .ready else .done) jump))) ∧
          (W4.putObj (w.heap.size + 1) (.loop (rec (if jump.isNone then .ready else .done) jump))).heap[w.heap.size + 1]? = some (.loop (rec (if jump.isNone then .ready else .done) jump)) ∧
          (W4.putObj (w.heap.size + 1) (.loop (rec (if jump.isNone then .ready else .done) jump))).heap[w.heap.size]? = some (.deferred (some [])) := fun jump W4 hk3 => by
        have hl3 := hk3.same _ _ hl2 rfl
        have := run_endRound (P := P) jump hl3
        rw [hrec] at this ⊢
        exact ⟨this, World.putObj_heap_same (Array.getElem?_eq_some_iff.1 hl3).1, (World.putObj_heap_other (by omega)).trans (hk3.same _ _ hk2 rfl)⟩
      rintro e a3 W4 hp
      cases e with
      | normal =>
        obtain ⟨hk3, hsame, hi4⟩ := hp
        obtain ⟨hr, hl4, hk4⟩ := fin none W4 hk3
        refine ⟨_, _, hr, .inl ⟨rfl, ⟨hI.putObj hi4 _ _ (by omega) (by omega), hl4, hk4⟩, ⟨?_, fun k hk' => ?_⟩⟩⟩
        · have := hk3.size; simp; omega
        · have hne : k ≠ w.heap.size + 1 := hk'.elim (fun h => (hkeep k h).2.1) (fun h => by omega)
          exact (World.putObj_heap_other hne).trans ((hsame k hk').trans (same3 k hk'))
      | ret =>
        obtain ⟨hk3, hi4⟩ := hp
        obtain ⟨hr, hl4, hk4⟩ := fin (some .ret) W4 hk3
        exact ⟨_, _, hr, .inr ⟨rfl, .ret, (hIx _).putObj hi4 _ _ (by omega) (by omega), hl4, hk4⟩⟩
      | exit id =>
        obtain ⟨hk3, hi4⟩ := hp
        obtain ⟨hr, hl4, hk4⟩ := fin (some (.exit id)) W4 hk3
        exact ⟨_, _, hr, .inr ⟨rfl, .exit id, (hIx _).putObj hi4 _ _ (by omega) (by omega), hl4, hk4⟩⟩
      | goto t =>
        obtain ⟨hk3, hi4⟩ := hp
        obtain ⟨hr, hl4, hk4⟩ := fin (some (.goto t)) W4 hk3
        exact ⟨_, _, hr, .inr ⟨rfl, .goto t, (hIx _).putObj hi4 _ _ (by omega) (by omega), hl4, hk4⟩⟩
      | panic ch => exact hp.elim
      | outgrown => exact hp.elim
    · -- BEHIND THE ITERATOR
      rintro e W2 ⟨⟨v, rfl⟩, (⟨xs, hS, hi, hl, hk⟩ | ⟨pre, hSp, c, hi, hl, hk⟩)⟩
      · exact ⟨none, _, by have := run_endLoop (P := P) hl (by rw [hrec]; simp); rw [hrec] at this; exact this, hdone _ xs _ (Nat.le_refl _) hS (hI.putObj hi _ _ (by omega) (by omega)) ((World.putObj_heap_other (by omega)).trans hk)⟩
      · exact ⟨some c, _, by have := run_endLoop (P := P) hl (by rw [hrec]; simp); rw [hrec] at this; exact this, hstop _ c pre _ (Nat.le_refl _) hSp ((hIx c).putObj hi _ _ (by omega) (by omega)) ((World.putObj_heap_other (by omega)).trans hk)⟩
end Go.Proofs.YtnpjnmkmjcpjmaaDoor
