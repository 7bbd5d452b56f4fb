/- A range over a function whose iterator lays and writes blocks of its own (a list of what is left): the law for a caller whose rounds write into blocks of a set of its own and into new ones alone. -/
import Derived.RangeFuncNested
import Derived.RangeFuncBound
import Derived.RangeFuncCalls
import Derived.RangeFuncLeaves
import Derived.Below
namespace Go.Proofs.Ytjgbjahcnnjfpaa
open Go.RowKit

/-- What a round keeps: every block that was there, but for some. -/
structure KeptF (mine : Nat → Prop) (A C : World) : Prop where
  size : A.heap.size ≤ C.heap.size
  same : ∀ k, k < A.heap.size → ¬ mine k → C.heap[k]? = A.heap[k]?
theorem KeptF.trans {m : Nat → Prop} {A B C : World} (h : KeptF m A B) (g : KeptF m B C) : KeptF m A C :=
  ⟨Nat.le_trans h.size g.size, fun k hk hm => (g.same k (Nat.lt_of_lt_of_le hk h.size) hm).trans (h.same k hk hm)⟩
theorem KeptF.refl (m : Nat → Prop) (A : World) : KeptF m A A := ⟨Nat.le_refl _, fun _ _ _ => rfl⟩

def postF {α : Type} (mine : Nat → Prop) (I : List α → World → Prop) (Ix : Code → List α → World → Prop) (xs : List α) (W3 : World) : Exit → Act → World → Prop
  | .normal, _, W' => KeepsOthers W3 W' ∧ KeptF mine W3 W' ∧ I xs W'
  | .ret, _, W' => KeepsOthers W3 W' ∧ Ix .ret xs W'
  | .exit id, _, W' => KeepsOthers W3 W' ∧ Ix (.exit id) xs W'
  | .goto t, _, W' => KeepsOthers W3 W' ∧ Ix (.goto t) xs W'
  | .panic _, _, _ => False
  | .outgrown, _, _ => False

/-- What hangs on blocks below B alone. -/
def Under {β : Type} (B : Nat) (I : β → World → Prop) : Prop := ∀ s A C, I s A → Below B A C → I s C

variable {F : Fence} {n : Nat} {P : Program}

theorem wpIn_rangeFunc_frame {α : Type} {g : Operand} {ps : Array Tmp} {assign body : Code} {Q : Exit → Act → World → Prop} {a : Act} {w : World}
    (hro : F.round = none) (h1 : 1 ≤ n) {gf : Nat} {lb : Array Value} (hg : a.eval g = .func (.func gf) #[] lb) (hFg : F.fn gf) (eg : ∀ args w, (callFunc gf args).run P w = .ok (.enter gf args) w)
    {encs : α → Array Value} {S Sp : List α → Prop} {Came : List α → α → Prop} {mine : Nat → Prop}
    (hseq : ∀ (l : Nat) (J Jx : List α → World → Prop) (W : World), W.heap.size = w.heap.size + 2 → Below w.heap.size w W →
      Under (w.heap.size + 2) J → Under (w.heap.size + 2) Jx → (∀ pre A, J pre A → w.heap.size + 2 ≤ A.heap.size) →
      (∀ pre x W1, J pre W1 → Came pre x → YieldAt F (n - 1 - 1) P l (encs x) W1 fun e W' =>
        (e = .returned (.bool true) ∧ J (pre ++ [x]) W' ∧ KeptF (fun k => mine k ∨ k = w.heap.size + 1) W1 W') ∨ (e = .returned (.bool false) ∧ Jx (pre ++ [x]) W')) →
      J [] W → CallsIn F (n - 1) P gf (#[.func (.yield l) #[] #[]] ++ lb) W fun e W' => (∃ v, e = .returned v) ∧ ((∃ xs, S xs ∧ J xs W') ∨ (∃ pre, Sp pre ∧ Jx pre W')))
    (hps : ∀ x, (encs x).size = ps.size)
    (I : List α → World → Prop) (Ix : Code → List α → World → Prop) (hI : Under w.heap.size I) (hIx : ∀ c, Under w.heap.size (Ix c)) (h0 : I [] w) (a₁ : α → World → Act) (box : α → World → World) (hbox : ∀ x W, Below W.heap.size W (box x W))
    (hassign : ∀ (l : Nat) (pre : List α) (x : α) (W : World) (K : Act → World → Prop), Came pre x → K (a₁ x W) (box x W) →
      assign.wpIn (F.inRound l) (n - 1 - 1) P (Exit.then K (fun _ _ _ => False)) { tmps := (ps.zip (encs x)).foldl (fun t (p, v) => t.setIfInBounds p v) a.tmps, defers := [] } W)
    (hbody : ∀ (l : Nat) (pre : List α) (x : α) (W1 W3 : World) (r : Loop), I pre W1 → w.heap.size + 2 ≤ W1.heap.size → Came pre x → W3 = (box x W1).putObj (w.heap.size + 1) (.loop r) → I pre W3 →
      body.wpIn (F.inRound l) (n - 1 - 1) P (postF mine I Ix (pre ++ [x]) W3) (a₁ x W1) W3)
    (hdone : ∀ (D : Nat) (xs : List α) (W : World), w.heap.size ≤ D → S xs → I xs W → W.heap[D]? = some (.deferred (some [])) → Q .normal { a with defers := { target := .collected D, args := #[] } :: a.defers } W)
    (hstop : ∀ (D : Nat) (c : Code) (pre : List α) (W : World), w.heap.size ≤ D → Sp pre → Ix c pre W → W.heap[D]? = some (.deferred (some [])) → c.wpIn F n P Q { a with defers := { target := .collected D, args := #[] } :: a.defers } W) :
    (Code.rangeFunc g ps assign body).wpIn F n P Q a w := by
  refine wpIn_rangeFunc ?_
  intro fn hfn
  rw [hro]
  obtain ⟨rec, hrec⟩ : ∃ rec : LoopState → Option Code → Loop, rec = fun st pe => { state := st, pending := pe, fn, tmps := a.tmps, params := ps, assign, body, defers := w.heap.size } := ⟨_, rfl⟩
  obtain ⟨W1, hW1⟩ : ∃ W1, (w.alloc (.deferred (some []))).alloc (.loop (rec .ready none)) = W1 := ⟨_, rfl⟩
  have hL1 : W1.heap[w.heap.size + 1]? = some (.loop (rec .ready none)) := by
    rw [← hW1]; have := World.alloc_heap_new (w.alloc (.deferred (some []))) (.loop (rec .ready none)); rwa [World.size_alloc] at this
  have hK1 : W1.heap[w.heap.size]? = some (.deferred (some [])) := by
    rw [← hW1]; exact (Below.heap_alloc _ _ _ (by simp)).trans (World.alloc_heap_new w _)
  have hbW : Below w.heap.size w W1 := by rw [← hW1]; exact ((Below.refl _ w).alloc (Nat.le_refl _) _).alloc (by simp) _
  have hI1 : I [] W1 := hI _ _ _ h0 hbW
  have hsz1 : W1.heap.size = w.heap.size + 2 := by rw [← hW1]; simp
  refine ⟨w.heap.size + 1, [{ target := .collected w.heap.size, args := #[] }], W1, { target := .fn (.func gf) lb, args := #[.func (.yield (w.heap.size + 1)) #[] #[]] }, W1, gf,
    #[.func (.yield (w.heap.size + 1)) #[] #[]] ++ lb, W1, ?_, ?_, ?_, ?_, fun _ => h1, ?_⟩
  · rw [← hW1, hrec]; exact run_enterLoop_outer _ _ _ _ _
  · simp only [resolve, hg]
    simp [go_sem]
  · intro f' hf'; simp [Target.leads] at hf'; subst hf'; exact hFg
  · simp [invoke, go_sem, eg]
  · have putI : ∀ {β : Type} {I : β → World → Prop} {s : β} {A : World} (o : Obj), Under w.heap.size I → I s A → I s (A.putObj (w.heap.size + 1) o) := fun o hU hi =>
      hU _ _ _ hi ⟨rfl, rfl, rfl, by simp, fun k hk => World.putObj_heap_other (by omega)⟩
    refine (hseq (w.heap.size + 1)
      (fun pre W => I pre W ∧ W.heap[w.heap.size + 1]? = some (.loop (rec .ready none)) ∧ W.heap[w.heap.size]? = some (.deferred (some [])))
      (fun pre W => ∃ c, Ix c pre W ∧ W.heap[w.heap.size + 1]? = some (.loop (rec .done (some c))) ∧ W.heap[w.heap.size]? = some (.deferred (some [])))
      W1 hsz1 hbW
      (fun s A C hs hb => ⟨hI s A C hs.1 (hb.mono (by omega)), (hb.block _ (by omega)).trans hs.2.1, (hb.block _ (by omega)).trans hs.2.2⟩)
      (fun s A C hs hb => by
        obtain ⟨c, hc, hl, hk⟩ := hs
        exact ⟨c, hIx c s A C hc (hb.mono (by omega)), (hb.block _ (by omega)).trans hl, (hb.block _ (by omega)).trans hk⟩)
      (fun pre A hs => by have := (Array.getElem?_eq_some_iff.1 hs.2.1).1; omega)
      ?_ ⟨hI1, hL1, hK1⟩).mono ?_
    · -- ONE ROUND
      rintro pre x W ⟨hi, hl, hk⟩ hcame
      have hsz : w.heap.size + 2 ≤ W.heap.size := by have := (Array.getElem?_eq_some_iff.1 hl).1; omega
      have hy := run_yield (P := P) (args := encs x) hl (by rw [hrec]; exact hps x)
      rw [hrec] at hy
      have hbx := hbox x W
      have hbz := hbx.size
      have hla : (box x W).heap[w.heap.size + 1]? = some (.loop (rec .ready none)) := (hbx.block _ (by omega)).trans hl
      have hka : (box x W).heap[w.heap.size]? = some (.deferred (some [])) := (hbx.block _ (by omega)).trans hk
      refine ⟨fn, _, assign, body, hy, roundIn_of_wpIn hfn (hassign _ pre x W _ hcame ⟨_, run_beginRound hla (by rw [hrec]), ?_⟩)⟩
      obtain ⟨W3, hW3⟩ : ∃ W3, (box x W).putObj (w.heap.size + 1) (.loop { rec .ready none with state := .busy }) = W3 := ⟨_, rfl⟩
      have hl2 : W3.heap[w.heap.size + 1]? = some (.loop { rec .ready none with state := .busy }) := by rw [← hW3]; exact World.putObj_heap_same (by omega)
      have hk2 : W3.heap[w.heap.size]? = some (.deferred (some [])) := by rw [← hW3]; exact (World.putObj_heap_other (by omega)).trans hka
      have hi3 : I pre W3 := by rw [← hW3]; exact putI _ hI (hI _ _ _ hi (hbx.mono (by omega)))
      have hs3 : (box x W).heap.size ≤ W3.heap.size := by rw [← hW3]; simp
      have same3 : KeptF (fun k => mine k ∨ k = w.heap.size + 1) W W3 := ⟨by omega, fun k hlt hm => by
        have hne : k ≠ w.heap.size + 1 := fun e => hm (.inr e)
        rw [← hW3]
        exact (World.putObj_heap_other hne).trans (hbx.block _ hlt)⟩
      rw [hW3]
      refine wpIn_mono (hbody _ pre x W W3 _ hi hsz hcame hW3.symm hi3) ?_
      have fin : ∀ (jump : Option Code) (W4 : World), KeepsOthers W3 W4 →
          (Instr.endRound (w.heap.size + 1) jump).run P W4 = .ok (.bool jump.isNone) (W4.putObj (w.heap.size + 1) (.loop (rec (if jump.isNone then .ready else .done) jump))) ∧
          (W4.putObj (w.heap.size + 1) (.loop (rec (if jump.isNone then .ready else .done) jump))).heap[w.heap.size + 1]? = some (.loop (rec (if jump.isNone then .ready else .done) jump)) ∧
          (W4.putObj (w.heap.size + 1) (.loop (rec (if jump.isNone then .ready else .done) jump))).heap[w.heap.size]? = some (.deferred (some [])) := fun jump W4 hk3 => by
        have hl3 := hk3.same _ _ hl2 rfl
        have := run_endRound (P := P) jump hl3
        rw [hrec] at this ⊢
        exact ⟨this, World.putObj_heap_same (Array.getElem?_eq_some_iff.1 hl3).1, (World.putObj_heap_other (by omega)).trans (hk3.same _ _ hk2 rfl)⟩
      rintro e a3 W4 hp
      cases e with
      | normal =>
        obtain ⟨hk3, hsame, hi4⟩ := hp
        obtain ⟨hr, hl4, hk4⟩ := fin none W4 hk3
        refine ⟨_, _, hr, .inl ⟨rfl, ⟨putI _ hI hi4, hl4, hk4⟩, same3.trans ⟨?_, fun k hlt hm => ?_⟩⟩⟩
        · have := hsame.size; simp; omega
        · exact (World.putObj_heap_other (fun e => hm (.inr e))).trans (hsame.same k hlt (fun h => hm (.inl h)))
      | ret =>
        obtain ⟨hk3, hi4⟩ := hp
        obtain ⟨hr, hl4, hk4⟩ := fin (some .ret) W4 hk3
        exact ⟨_, _, hr, .inr ⟨rfl, .ret, putI _ (hIx _) hi4, hl4, hk4⟩⟩
      | exit id =>
        obtain ⟨hk3, hi4⟩ := hp
        obtain ⟨hr, hl4, hk4⟩ := fin (some (.exit id)) W4 hk3
        exact ⟨_, _, hr, .inr ⟨rfl, .exit id, putI _ (hIx _) hi4, hl4, hk4⟩⟩
      | goto t =>
        obtain ⟨hk3, hi4⟩ := hp
        obtain ⟨hr, hl4, hk4⟩ := fin (some (.goto t)) W4 hk3
        exact ⟨_, _, hr, .inr ⟨rfl, .goto t, putI _ (hIx _) hi4, hl4, hk4⟩⟩
      | panic ch => exact hp.elim
      | outgrown => exact hp.elim
    · -- BEHIND THE ITERATOR
      rintro e W2 ⟨⟨v, rfl⟩, (⟨xs, hS, hi, hl, hk⟩ | ⟨pre, hSp, c, hi, hl, hk⟩)⟩
      · exact ⟨none, _, by have := run_endLoop (P := P) hl (by rw [hrec]; simp); rw [hrec] at this; exact this, hdone _ xs _ (Nat.le_refl _) hS (putI _ hI hi) ((World.putObj_heap_other (by omega)).trans hk)⟩
      · exact ⟨some c, _, by have := run_endLoop (P := P) hl (by rw [hrec]; simp); rw [hrec] at this; exact this, hstop _ c pre _ (Nat.le_refl _) hSp (putI _ (hIx c) hi) ((World.putObj_heap_other (by omega)).trans hk)⟩
end Go.Proofs.Ytjgbjahcnnjfpaa
