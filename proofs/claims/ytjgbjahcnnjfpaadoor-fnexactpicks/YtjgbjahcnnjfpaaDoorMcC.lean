/- A range over a function whose iterator lays and writes blocks of its own (a list of what is left): the law for a caller whose rounds write into blocks of a set of its own and into new ones alone. -/
import Derived.RangeFuncNested
import Derived.RangeFuncBound
import Derived.RangeFuncCalls
import Derived.RangeFuncLeaves
import Derived.Below
import Derived.Test.YtjgbjahcnnjfpaaDoorMaA
import Derived.Shelf.Abstract
import Derived.Shelf.RegionOpen
import Derived.Sort.LoopGhostIn
import Derived.WalkKit
import Derived.OwnWalk
import Derived.OwnWalkIn
import Derived.TacticsInMore
import Derived.LoopNIn
import Derived.LoopIn
import Derived.WalkSpells
import Derived.WalkSmall
import Derived.WalkMore
import Derived.RangeFuncBox
set_option linter.unusedVariables false
namespace Go.Proofs.YtjgbjahcnnjfpaaDoor
open Go.RowKit

structure KeptF (mine : Nat → Prop) (A C : World) : Prop where
  size : A.heap.size ≤ C.heap.size
  same : ∀ k, k < A.heap.size → ¬ mine k → C.heap[k]? = A.heap[k]?
theorem KeptF.trans {m : Nat → Prop} {A B C : World} (h : KeptF m A B) (g : KeptF m B C) : KeptF m A C :=
  ⟨Nat.le_trans h.size g.size, fun k hk hm => (g.same k (Nat.lt_of_lt_of_le hk h.size) hm).trans (h.same k hk hm)⟩
theorem KeptF.refl (m : Nat → Prop) (A : World) : KeptF m A A := ⟨Nat.le_refl _, fun _ _ _ => rfl⟩

def postF {α : Type} (mine : Nat → Prop) (I : List α → World → Prop) (Ix : Code → List α → World → Prop) (xs : List α) (W3 : World) : Exit → Act → World → Prop
  | .normal, _, W' => KeepsOthers W3 W' ∧ KeptF mine W3 W' ∧ I xs W'
  | .ret, _, W' => KeepsOthers W3 W' ∧ Ix .ret xs W'
  | .exit id, _, W' => KeepsOthers W3 W' ∧ Ix (.exit id) xs W'
  | .goto t, _, W' => KeepsOthers W3 W' ∧ Ix (.goto t) xs W'
  | .panic _, _, _ => False
  | .outgrown, _, _ => False

def Under {β : Type} (B : Nat) (I : β → World → Prop) : Prop := ∀ s A C, I s A → Below B A C → I s C

variable {F : Fence} {n : Nat} {P : Program}

theorem wpIn_rangeFunc_frame {α : Type} {g : Operand} {ps : Array Tmp} {assign body : Code} {Q : Exit → Act → World → Prop} {a : Act} {w : World}
    (hro : F.round = none) (h1 : 1 ≤ n) {gf : Nat} {lb : Array Value} (hg : a.eval g = .func (.func gf) #[] lb) (hFg : F.fn gf) (eg : ∀ args w, (callFunc gf args).run P w = .ok (.enter gf args) w)
    {encs : α → Array Value} {S Sp : List α → Prop} {Came : List α → α → Prop} {mine : Nat → Prop}
    (hseq : ∀ (l : Nat) (J Jx : List α → World → Prop) (W : World), W.heap.size = w.heap.size + 2 → Below w.heap.size w W →
      Under (w.heap.size + 2) J → Under (w.heap.size + 2) Jx → (∀ pre A, J pre A → w.heap.size + 2 ≤ A.heap.size) →
      (∀ pre x W1, J pre W1 → Came pre x → YieldAt F (n - 1 - 1) P l (encs x) W1 fun e W' =>
        (e = .returned (.bool true) ∧ J (pre ++ [x]) W' ∧ KeptF (fun k => mine k ∨ k = w.heap.size + 1) W1 W') ∨ (e = .returned (.bool false) ∧ Jx (pre ++ [x]) W')) →
      J [] W → CallsIn F (n - 1) P gf (#[.func (.yield l) #[] #[]] ++ lb) W fun e W' => (∃ v, e = .returned v) ∧ ((∃ xs, S xs ∧ J xs W') ∨ (∃ pre, Sp pre ∧ Jx pre W')))
    (hps : ∀ x, (encs x).size = ps.size)
    (I : List α → World → Prop) (Ix : Code → List α → World → Prop) (hI : Under w.heap.size I) (hIx : ∀ c, Under w.heap.size (Ix c)) (h0 : I [] w) (a₁ : α → World → Act) (box : α → World → World) (hbox : ∀ x W, Below W.heap.size W (box x W))
    (hassign : ∀ (l : Nat) (pre : List α) (x : α) (W : World) (K : Act → World → Prop), Came pre x → K (a₁ x W) (box x W) →
      assign.wpIn (F.inRound l) (n - 1 - 1) P (Exit.then K (fun _ _ _ => False)) { tmps := (ps.zip (encs x)).foldl (fun t (p, v) => t.setIfInBounds p v) a.tmps, defers := [] } W)
    (hbody : ∀ (l : Nat) (pre : List α) (x : α) (W1 W3 : World) (r : Loop), I pre W1 → w.heap.size + 2 ≤ W1.heap.size → Came pre x → W3 = (box x W1).putObj (w.heap.size + 1) (.loop r) → I pre W3 →
      body.wpIn (F.inRound l) (n - 1 - 1) P (postF mine I Ix (pre ++ [x]) W3) (a₁ x W1) W3)
    (hdone : ∀ (D : Nat) (xs : List α) (W : World), w.heap.size ≤ D → S xs → I xs W → W.heap[D]? = some (.deferred (some [])) → Q .normal { a with defers := { target := .collected D, args := #[] } :: a.defers } W)
    (hstop : ∀ (D : Nat) (c : Code) (pre : List α) (W : World), w.heap.size ≤ D → Sp pre → Ix c pre W → W.heap[D]? = some (.deferred (some [])) → c.wpIn F n P Q { a with defers := { target := .collected D, args := #[] } :: a.defers } W) :
    (Code.rangeFunc g ps assign body).wpIn F n P Q a w := by
  refine wpIn_rangeFunc ?_
  intro fn hfn
  rw [hro]
  obtain ⟨rec, hrec⟩ : ∃ rec : LoopState → Option Code → Loop, rec = fun st pe => { state := st, pending := pe, fn, tmps := a.tmps, params := ps, assign, body, defers := w.heap.size } := ⟨_, rfl⟩
  obtain ⟨W1, hW1⟩ : ∃ W1, (w.alloc (.deferred (some []))).alloc (.loop (rec .ready none)) = W1 := ⟨_, rfl⟩
  have hL1 : W1.heap[w.heap.size + 1]? = some (.loop (rec .ready none)) := by
    rw [← hW1]; have := World.alloc_heap_new (w.alloc (.deferred (some []))) (.loop (rec .ready none)); rwa [World.size_alloc] at this
  have hK1 : W1.heap[w.heap.size]? = some (.deferred (some [])) := by
    rw [← hW1]; exact (Below.heap_alloc _ _ _ (by simp)).trans (World.alloc_heap_new w _)
  have hbW : Below w.heap.size w W1 := by rw [← hW1]; exact ((Below.refl _ w).alloc (Nat.le_refl _) _).alloc (by simp) _
  have hI1 : I [] W1 := hI _ _ _ h0 hbW
  have hsz1 : W1.heap.size = w.heap.size + 2 := by rw [← hW1]; simp
  refine ⟨w.heap.size + 1, [{ target := .collected w.heap.size, args := #[] }], W1, { target := .fn (.func gf) lb, args := #[.func (.yield (w.heap.size + 1)) #[] #[]] }, W1, gf,
    #[.func (.yield (w.heap.size + 1)) #[] #[]] ++ lb, W1, ?_, ?_, ?_, ?_, fun _ => h1, ?_⟩
  · rw [← hW1, hrec]; exact run_enterLoop_outer _ _ _ _ _
  · simp only [resolve, hg]
    simp [go_sem]
  · intro f' hf'; simp [Target.leads] at hf'; subst hf'; exact hFg
  · simp [invoke, go_sem, eg]
  · have putI : ∀ {β : Type} {I : β → World → Prop} {s : β} {A : World} (o : Obj), Under w.heap.size I → I s A → I s (A.putObj (w.heap.size + 1) o) := fun o hU hi =>
      hU _ _ _ hi ⟨rfl, rfl, rfl, by simp, fun k hk => World.putObj_heap_other (by omega)⟩
    refine (hseq (w.heap.size + 1)
      (fun pre W => I pre W ∧ W.heap[w.heap.size + 1]? = some (.loop (rec .ready none)) ∧ W.heap[w.heap.size]? = some (.deferred (some [])))
      (fun pre W => ∃ c, Ix c pre W ∧ W.heap[w.heap.size + 1]? = some (.loop (rec .done (some c))) ∧ W.heap[w.heap.size]? = some (.deferred (some [])))
      W1 hsz1 hbW
      (fun s A C hs hb => ⟨hI s A C hs.1 (hb.mono (by omega)), (hb.block _ (by omega)).trans hs.2.1, (hb.block _ (by omega)).trans hs.2.2⟩)
      (fun s A C hs hb => by
        obtain ⟨c, hc, hl, hk⟩ := hs
        exact ⟨c, hIx c s A C hc (hb.mono (by omega)), (hb.block _ (by omega)).trans hl, (hb.block _ (by omega)).trans hk⟩)
      (fun pre A hs => by have := (Array.getElem?_eq_some_iff.1 hs.2.1).1; omega)
      ?_ ⟨hI1, hL1, hK1⟩).mono ?_
    · -- ONE ROUND
      rintro pre x W ⟨hi, hl, hk⟩ hcame
      have hsz : w.heap.size + 2 ≤ W.heap.size := by have := (Array.getElem?_eq_some_iff.1 hl).1; omega
      have hy := run_yield (P := P) (args := encs x) hl (by rw [hrec]; exact hps x)
      rw [hrec] at hy
      have hbx := hbox x W
      have hbz := hbx.size
      have hla : (box x W).heap[w.heap.size + 1]? = some (.loop (rec .ready none)) := (hbx.block _ (by omega)).trans hl
      have hka : (box x W).heap[w.heap.size]? = some (.deferred (some [])) := (hbx.block _ (by omega)).trans hk
      refine ⟨fn, _, assign, body, hy, roundIn_of_wpIn hfn (hassign _ pre x W _ hcame ⟨_, run_beginRound hla (by rw [hrec]), ?_⟩)⟩
      obtain ⟨W3, hW3⟩ : ∃ W3, (box x W).putObj (w.heap.size + 1) (.loop { rec .ready none with state := .busy }) = W3 := ⟨_, rfl⟩
      have hl2 : W3.heap[w.heap.size + 1]? = some (.loop { rec .ready none with state := .busy }) := by rw [← hW3]; exact World.putObj_heap_same (by omega)
      have hk2 : W3.heap[w.heap.size]? = some (.deferred (some [])) := by rw [← hW3]; exact (World.putObj_heap_other (by omega)).trans hka
      have hi3 : I pre W3 := by rw [← hW3]; exact putI _ hI (hI _ _ _ hi (hbx.mono (by omega)))
      have hs3 : (box x W).heap.size ≤ W3.heap.size := by rw [← hW3]; simp
      have same3 : KeptF (fun k => mine k ∨ k = w.heap.size + 1) W W3 := ⟨by omega, fun k hlt hm => by
        have hne : k ≠ w.heap.size + 1 := fun e => hm (.inr e)
        rw [← hW3]
        exact (World.putObj_heap_other hne).trans (hbx.block _ hlt)⟩
      rw [hW3]
      refine wpIn_mono (hbody _ pre x W W3 _ hi hsz hcame hW3.symm hi3) ?_
      have fin : ∀ (jump : Option Code) (W4 : World), KeepsOthers W3 W4 →
          (Instr.endRound (w.heap.size + 1) jump).run P W4 = .ok (.bool jump.isNone) (W4.putObj (w.heap.size + 1) (.loop (rec (if jump.isNone then .ready else .done) jump))) ∧
          (W4.putObj (w.heap.size + 1) (.loop (rec (if jump.isNone then .ready else .done) jump))).heap[w.heap.size + 1]? = some (.loop (rec (if jump.isNone then .ready else .done) jump)) ∧
          (W4.putObj (w.heap.size + 1) (.loop (rec (if jump.isNone then .ready else .done) jump))).heap[w.heap.size]? = some (.deferred (some [])) := fun jump W4 hk3 => by
        have hl3 := hk3.same _ _ hl2 rfl
        have := run_endRound (P := P) jump hl3
        rw [hrec] at this ⊢
        exact ⟨this, World.putObj_heap_same (Array.getElem?_eq_some_iff.1 hl3).1, (World.putObj_heap_other (by omega)).trans (hk3.same _ _ hk2 rfl)⟩
      rintro e a3 W4 hp
      cases e with
      | normal =>
        obtain ⟨hk3, hsame, hi4⟩ := hp
        obtain ⟨hr, hl4, hk4⟩ := fin none W4 hk3
        refine ⟨_, _, hr, .inl ⟨rfl, ⟨putI _ hI hi4, hl4, hk4⟩, same3.trans ⟨?_, fun k hlt hm => ?_⟩⟩⟩
        · have := hsame.size; simp; omega
        · exact (World.putObj_heap_other (fun e => hm (.inr e))).trans (hsame.same k hlt (fun h => hm (.inl h)))
      | ret =>
        obtain ⟨hk3, hi4⟩ := hp
        obtain ⟨hr, hl4, hk4⟩ := fin (some .ret) W4 hk3
        exact ⟨_, _, hr, .inr ⟨rfl, .ret, putI _ (hIx _) hi4, hl4, hk4⟩⟩
      | exit id =>
        obtain ⟨hk3, hi4⟩ := hp
        obtain ⟨hr, hl4, hk4⟩ := fin (some (.exit id)) W4 hk3
        exact ⟨_, _, hr, .inr ⟨rfl, .exit id, putI _ (hIx _) hi4, hl4, hk4⟩⟩
      | goto t =>
        obtain ⟨hk3, hi4⟩ := hp
        obtain ⟨hr, hl4, hk4⟩ := fin (some (.goto t)) W4 hk3
        exact ⟨_, _, hr, .inr ⟨rfl, .goto t, putI _ (hIx _) hi4, hl4, hk4⟩⟩
      | panic ch => exact hp.elim
      | outgrown => exact hp.elim
    · -- BEHIND THE ITERATOR
      rintro e W2 ⟨⟨v, rfl⟩, (⟨xs, hS, hi, hl, hk⟩ | ⟨pre, hSp, c, hi, hl, hk⟩)⟩
      · exact ⟨none, _, by have := run_endLoop (P := P) hl (by rw [hrec]; simp); rw [hrec] at this; exact this, hdone _ xs _ (Nat.le_refl _) hS (putI _ hI hi) ((World.putObj_heap_other (by omega)).trans hk)⟩
      · exact ⟨some c, _, by have := run_endLoop (P := P) hl (by rw [hrec]; simp); rw [hrec] at this; exact this, hstop _ c pre _ (Nat.le_refl _) hSp (putI _ (hIx c) hi) ((World.putObj_heap_other (by omega)).trans hk)⟩
end Go.Proofs.YtjgbjahcnnjfpaaDoor
namespace Go.Proofs.YtjgbjahcnnjfpaaDoor
open Go.RowKit Go.Shelf
attribute [local go_sem] Oper.semAt_some

def onNormal (R : Act → World → Prop) : Exit → Act → World → Prop
  | .normal, a, w => R a w
  | _, _, _ => False
theorem wpIn_cut {F : Fence} {n : Nat} {P : Program} {c : Code} {Q : Exit → Act → World → Prop} {a : Act} {w : World} (A : Bool → Act) (R : Bool → World → Prop)
    (h1 : c.wpIn F n P (onNormal fun a' W' => ∃ b, a' = A b ∧ R b W') a w) (h2 : ∀ b W', R b W' → Q .normal (A b) W') : c.wpIn F n P Q a w :=
  wpIn_mono h1 fun ex a' W' h => by
    cases ex <;> first | exact h.elim | (obtain ⟨b, rfl, hr⟩ := h; exact h2 b W' hr)
theorem wpIn_cut0 {F : Fence} {n : Nat} {P : Program} {c : Code} {Q : Exit → Act → World → Prop} {a : Act} {w : World} (A : Act) (R : World → Prop)
    (h1 : c.wpIn F n P (onNormal fun a' W' => a' = A ∧ R W') a w) (h2 : ∀ W', R W' → Q .normal A W') : c.wpIn F n P Q a w :=
  wpIn_mono h1 fun ex a' W' h => by
    cases ex <;> first | exact h.elim | (obtain ⟨rfl, hr⟩ := h; exact h2 W' hr)
def wenc (x : Ent) : Array Value := #[x.D.val x.v, .int .i64 (x.d : Int)]
def key (x : Ent) : Nd × Nat := (x.D, x.d)
def WCame (T : Nd) (B0 : Nat) (W0 : World) (pre : List Ent) (x : Ent) : Prop := (∃ rest, pre.map key ++ key x :: rest = T.pre 0) ∧ Row 0 B0 W0 x.D x.v ∧ x.D.Fine
def WAll (T : Nd) (xs : List Ent) : Prop := xs.map key = T.pre 0

def EntIn (B0 r0 : Nat) (W0 wr : World) (e : Ent) : Prop :=
  ∃ g off cap, e.v = .slice (some ⟨g, off, none⟩) e.D.len cap ∧ 0 < e.D.len ∧ e.D.len ≤ cap ∧ cap ≤ 9223372036854775807 ∧ (g < B0 ∨ g = r0) ∧ ∀ i, i < e.D.len →
    ∃ u, wr.cell? ⟨g, off + i * 4, none⟩ = some (.int .i64 (e.D.kids i).kind) ∧ wr.cell? ⟨g, off + i * 4 + 1, none⟩ = some (.int .i64 (e.D.kids i).num) ∧
      wr.cell? ⟨g, off + i * 4 + 2, none⟩ = some (.string (e.D.kids i).name) ∧ wr.cell? ⟨g, off + i * 4 + 3, none⟩ = some u ∧ Row 0 B0 W0 (e.D.kids i) u ∧ (e.D.kids i).Fine

structure WInv (T : Nd) (B0 B bk : Nat) (W0 : World) (pre S : List Ent) (v : Value) (wr : World) : Prop where
  seq : pre.map key ++ remS S = T.pre 0
  own : wr.ownsRow (B + 3) 84 2 v S.length (flatS S)
  ents : ∀ e ∈ S, EntIn B0 (B + 2) W0 wr e
  base : ∀ k, k < B0 → wr.heap[k]? = W0.heap[k]?
  kf : wr.cell? ⟨bk, 0, none⟩ = some (.func (.func 59) #[] #[])
  size : B + 3 ≤ wr.heap.size

theorem winv_lens {T : Nd} {B0 B bk : Nat} {W0 : World} {pre S : List Ent} {v : Value} {wr : World} (h : WInv T B0 B bk W0 pre S v wr) : S.length ≤ T.size := by
  have h1 := rem_ge S fun e he => by obtain ⟨_, _, _, _, h, _⟩ := h.ents e he; exact h
  have h2 := congrArg List.length h.seq
  rw [pre_len, List.length_append] at h2
  omega

theorem own_sh {w : World} {base : Nat} {e : TypeId} {size : Nat} {v : Value} {n : Nat} {xs : List Value} (h : w.ownsRow base e size v n xs) : ∃ a c, v = .slice a n c := by
  rcases h.2 with ⟨rfl, rfl⟩ | ⟨g, cap, cur, rfl, _⟩
  · exact ⟨none, 0, rfl⟩
  · exact ⟨_, cap, rfl⟩
theorem own_fm {w : World} {B : Nat} {e : TypeId} {size n : Nat} {v : Value} {xs : List Value} (h : w.ownsRow B e size v (n + 1) xs) : ∃ g cap, v = .slice (some ⟨g, 0, none⟩) (n + 1) cap ∧ n + 1 ≤ cap ∧ cap ≤ 9223372036854775807 ∧ B ≤ g ∧ g < w.heap.size := by
  rcases h.2 with ⟨_, h⟩ | ⟨g, cap, _, hv, hb, hh, hc, hm, _⟩
  · omega
  · unfold maxLen at hm; exact ⟨g, cap, hv, hc, hm, hb, (Array.getElem?_eq_some_iff.1 hh).1⟩
theorem top_cells {w : World} {B g cap : Nat} {e : Ent} {R : List Ent} (h : w.ownsRow B 84 2 (.slice (some ⟨g, 0, none⟩) (R.length + 1) cap) (R.length + 1) (flatS (e :: R))) :
    w.cell? ⟨g, R.length * 2, none⟩ = some e.v ∧ w.cell? ⟨g, R.length * 2 + 1, none⟩ = some (.int .i64 (e.d : Int)) := by
  have hl := flatS_len R
  refine ⟨?_, ?_⟩
  · rw [h.cellAt _ (by omega), flatS_cons, List.getElem?_append_right (by omega)]; simp [hl]
  · rw [h.cellAt _ (by omega), flatS_cons, List.getElem?_append_right (by omega)]; simp [hl]
theorem own_pop {w : World} {B g cap : Nat} {e : Ent} {R : List Ent} (h : w.ownsRow B 84 2 (.slice (some ⟨g, 0, none⟩) (R.length + 1) cap) (R.length + 1) (flatS (e :: R))) :
    w.ownsRow B 84 2 (.slice (some ⟨g, 0, none⟩) R.length cap) R.length (flatS R) := by
  have hl := flatS_len R
  rcases h.2 with ⟨h', _⟩ | ⟨g', cap', cur, h', hb, hh, hc, hm, hs, ht⟩
  · simp at h'
  · simp only [Value.slice.injEq, Option.some.injEq, Addr.mk.injEq, and_true, true_and] at h'
    obtain ⟨rfl, rfl⟩ := h'
    refine ⟨hl, .inr ⟨g, cap, cur, rfl, hb, hh, by omega, hm, hs, ?_⟩⟩
    have : cur.toList.take (R.length * 2) = (cur.toList.take ((R.length + 1) * 2)).take (R.length * 2) := by rw [List.take_take, Nat.min_eq_left (by omega)]
    rw [this, ht, flatS_cons, List.take_append_of_le_length (by omega), List.take_of_length_le (by omega)]
theorem two_new (w : World) (a b : Value) (t : TypeId) : ∀ j u, [a, b][j]? = some u → (w.alloc (.cells #[a, b] t)).cell? ((⟨w.heap.size, 0, none⟩ : Addr).add j) = some u := by
  intro j u hj
  match j, hj with
  | 0, hj => simp at hj; subst hj; simp [Addr.add]
  | 1, hj => simp at hj; subst hj; simp [Addr.add]
  | j + 2, hj => simp at hj
theorem two_one (a : Option Addr) (l c : Nat) (d : Int) : ∀ u ∈ [Value.slice a l c, .int .i64 d], u.oneCell' = true := by
  intro u hu
  simp at hu
  rcases hu with rfl | rfl <;> rfl
theorem info_rest : (Tryd.prog.info? 84).map (fun i => (i.zero, i.size, i.bytes)) = some (some (.agg #[.slice none 0 0, .int .i64 0]), 2, 32) := by kernel_rfl
theorem winv_start (T : Nd) (B0 B bk : Nat) (W0 W : World) (au : Option Addr) (cu : Nat) (J : List Ent → World → Prop) (hT : T.Fine) (hWs : W.heap.size = B + 2) (hB0 : B0 ≤ B) (hbk : bk < B)
    (hb0 : ∀ k, k < B0 → W.heap[k]? = W0.heap[k]?) (hrow : Row 0 B0 W0 T (.slice au T.len cu)) (hJ : Under (B + 2) J) (h0 : J [] W) (hkf : W.cell? ⟨bk, 0, none⟩ = some (.func (.func 59) #[] #[])) :
    WInv T B0 B bk W0 [] [⟨oneN T, 0, .slice (some ⟨B + 2, 0, none⟩) 1 1⟩] (.slice (some ⟨B + 2 + 1, 0, none⟩) 1 1)
      ((W.alloc (.cells #[.int .i64 T.kind, .int .i64 T.num, .string T.name, .slice au T.len cu] 37)).alloc (.cells #[.slice (some ⟨B + 2, 0, none⟩) 1 1, .int .i64 0] 84)) ∧
      J [] ((W.alloc (.cells #[.int .i64 T.kind, .int .i64 T.num, .string T.name, .slice au T.len cu] 37)).alloc (.cells #[.slice (some ⟨B + 2, 0, none⟩) 1 1, .int .i64 0] 84)) := by
  obtain ⟨V, hV⟩ : ∃ V, W.alloc (.cells #[.int .i64 T.kind, .int .i64 T.num, .string T.name, .slice au T.len cu] 37) = V := ⟨_, rfl⟩
  have hb1 : Below W.heap.size W V := by rw [← hV]; exact (Below.refl _ _).alloc (Nat.le_refl _) _
  have hVs : V.heap.size = B + 3 := by rw [← hV]; simp; omega
  have hb2 : Below V.heap.size V (V.alloc (.cells #[.slice (some ⟨B + 2, 0, none⟩) 1 1, .int .i64 0] 84)) := (Below.refl _ _).alloc (Nat.le_refl _) _
  have hb := hb1.trans (hb2.mono hb1.size)
  have hcell : V.heap[B + 2]? = some (.cells #[.int .i64 T.kind, .int .i64 T.num, .string T.name, .slice au T.len cu] 37) := by rw [← hV, ← hWs]; exact World.alloc_heap_new W _
  rw [hV]
  refine ⟨⟨?_, ?_, ?_, ?_, ?_, ?_⟩, hJ _ _ _ h0 (hb.mono (by omega))⟩
  · simp [remS, preL_one]
  · have := World.ownsRow_lit (base := B + 3) (e := 84) (size := 2) V #[.slice (some ⟨B + 2, 0, none⟩) 1 1, .int .i64 0] 1 (by omega) (by unfold maxLen; omega) rfl
    rw [hVs] at this
    exact this
  · intro e he
    obtain rfl := List.mem_singleton.1 he
    refine ⟨B + 2, 0, 1, rfl, by show 0 < 1; omega, by show 1 ≤ 1; omega, by omega, .inr rfl, fun i hi => ?_⟩
    obtain rfl : i = 0 := by have : i < 1 := hi; omega
    have hc : ∀ o, (V.alloc (.cells #[.slice (some ⟨B + 2, 0, none⟩) 1 1, .int .i64 0] 84)).cell? ⟨B + 2, o, none⟩ = (#[.int .i64 T.kind, .int .i64 T.num, .string T.name, .slice au T.len cu] : Array Value)[o]? := fun o => by
      rw [hb2.cell (p := ⟨B + 2, o, none⟩) (by show B + 2 < _; omega)]
      exact cell_of_row _ _ _ _ _ (0, 0) hcell
    exact ⟨_, hc 0, hc 1, hc 2, hc 3, hrow, hT⟩
  · intro k hk
    rw [hb.block k (by omega)]; exact hb0 k hk
  · rw [hb.cell (p := ⟨bk, 0, none⟩) (by show bk < _; omega)]; exact hkf
  · have := hb2.size; omega

theorem entIn_keep {B0 r0 : Nat} {W0 w w' : World} {e : Ent} (h : EntIn B0 r0 W0 w e) (hk : ∀ k, (k < B0 ∨ k = r0) → w'.heap[k]? = w.heap[k]?) : EntIn B0 r0 W0 w' e := by
  obtain ⟨g, off, cap, hv, h0, h1, h2, hg, hc⟩ := h
  refine ⟨g, off, cap, hv, h0, h1, h2, hg, fun i hi => ?_⟩
  obtain ⟨u, e0, e1, e2, e3, r⟩ := hc i hi
  have hb : ∀ o, w'.cell? ⟨g, o, none⟩ = w.cell? ⟨g, o, none⟩ := fun o => World.cell?_of_block (a := ⟨g, o, none⟩) (hk g hg)
  exact ⟨u, by rw [hb]; exact e0, by rw [hb]; exact e1, by rw [hb]; exact e2, by rw [hb]; exact e3, r⟩
theorem own_keep {w w' : World} {base : Nat} {t : TypeId} {size n : Nat} {v : Value} {xs : List Value} (h : w.ownsRow base t size v n xs) (hk : ∀ k, base ≤ k → k < w.heap.size → w'.heap[k]? = w.heap[k]?) : w'.ownsRow base t size v n xs := by
  obtain ⟨h1, h2⟩ := h
  refine ⟨h1, ?_⟩
  rcases h2 with h2 | ⟨g, cap, cur, hv, hg, hh, r⟩
  · exact .inl h2
  · exact .inr ⟨g, cap, cur, hv, hg, by rw [hk g hg (Array.getElem?_eq_some_iff.1 hh).1]; exact hh, r⟩

structure Half (B0 B bk : Nat) (W0 : World) (S : List Ent) (v : Value) (N : Nat) (e : Ent) (w : World) : Prop where
  own : w.ownsRow (B + 3) 84 2 v S.length (flatS S)
  ents : ∀ x ∈ S, EntIn B0 (B + 2) W0 w x
  self : EntIn B0 (B + 2) W0 w e
  base : ∀ k, k < B0 → w.heap[k]? = W0.heap[k]?
  kf : w.cell? ⟨bk, 0, none⟩ = some (.func (.func 59) #[] #[])
  size : B + 3 ≤ N ∧ N < w.heap.size
  l0 : w.cell? ⟨N, 0, none⟩ = some e.v
  l1 : w.cell? ⟨N, 1, none⟩ = some (.int .i64 (e.d : Int))

theorem half_keep {B0 B bk : Nat} {W0 : World} {S : List Ent} {v : Value} {N : Nat} {e : Ent} {w w' : World} (h : Half B0 B bk W0 S v N e w) (hB : B0 ≤ B) (hbk : bk < B) (hz : w.heap.size ≤ w'.heap.size)
    (hk : ∀ k, k < w.heap.size → (k < B0 ∨ k = bk ∨ B + 2 ≤ k) → w'.heap[k]? = w.heap[k]?) : Half B0 B bk W0 S v N e w' := by
  have hs := h.size
  have he : ∀ k, (k < B0 ∨ k = B + 2) → w'.heap[k]? = w.heap[k]? := fun k hk' => hk k (by omega) (by omega)
  exact ⟨own_keep h.own fun k h1 h2 => hk k h2 (by omega), fun x hx => entIn_keep (h.ents x hx) he, entIn_keep h.self he, fun k hk' => (he k (.inl hk')).trans (h.base k hk'),
    (World.cell?_of_block (a := ⟨bk, 0, none⟩) (hk bk (by omega) (.inr (.inl rfl)))).trans h.kf, ⟨hs.1, by omega⟩,
    (World.cell?_of_block (a := ⟨N, 0, none⟩) (hk N hs.2 (by omega))).trans h.l0, (World.cell?_of_block (a := ⟨N, 1, none⟩) (hk N hs.2 (by omega))).trans h.l1⟩

theorem half_tail {T : Nd} {B0 B bk : Nat} {W0 : World} {pre R : List Ent} {e : Ent} {gs cs g off cap : Nat} {wr w1 : World} {v' : Value} (h : WInv T B0 B bk W0 pre (e :: R) (.slice (some ⟨gs, 0, none⟩) (R.length + 1) cs) wr) (hB : B0 ≤ B) (hbk : bk < B)
    (hgs : B + 3 ≤ gs) (hgs2 : gs < wr.heap.size) (hv : e.v = .slice (some ⟨g, off, none⟩) e.D.len cap) (h1 : 1 < e.D.len)
    (hgrow : ((wr.alloc (.cells #[.slice (some ⟨g, off, none⟩) e.D.len cap, .int .i64 (e.d : Int)] 84)).alloc (.cells #[.slice (some ⟨g, off + 4, none⟩) (e.D.len - 1) (cap - 1), .int .i64 (e.d : Int)] 84)).grownBy w1 (some gs))
    (hown : w1.ownsRow (B + 3) 84 2 v' (R.length + 1) (flatS R ++ [.slice (some ⟨g, off + 4, none⟩) (e.D.len - 1) (cap - 1), .int .i64 (e.d : Int)])) :
    Half B0 B bk W0 (⟨tailN e.D, e.d, .slice (some ⟨g, off + 4, none⟩) (e.D.len - 1) (cap - 1)⟩ :: R) v' wr.heap.size e w1 ∧ Below (B + 2) wr w1 := by
  have hs := h.size
  have hsz := hgrow.size
  simp only [World.size_alloc] at hsz
  have hk : ∀ k, k < wr.heap.size → k ≠ gs → w1.heap[k]? = wr.heap[k]? := fun k hk hne => by
    rw [hgrow.block k (by simp; omega) (fun e => hne (Option.some.inj e)), Below.heap_alloc _ _ _ (by simp; omega), Below.heap_alloc _ _ _ hk]
  have hN : w1.heap[wr.heap.size]? = some (.cells #[.slice (some ⟨g, off, none⟩) e.D.len cap, .int .i64 (e.d : Int)] 84) := by
    rw [hgrow.block _ (by simp; omega) (fun e => by have := Option.some.inj e; omega), Below.heap_alloc _ _ _ (by simp)]
    exact World.alloc_heap_new wr _
  have he : ∀ k, (k < B0 ∨ k = B + 2) → w1.heap[k]? = wr.heap[k]? := fun k hk' => hk k (by omega) (by omega)
  have hself := entIn_keep (h.ents e (List.mem_cons_self ..)) he
  refine ⟨⟨by rw [flatS_cons]; exact hown, fun x hx => ?_, hself, fun k hk' => (he k (.inl hk')).trans (h.base k hk'), (World.cell?_of_block (a := ⟨bk, 0, none⟩) (hk bk (by omega) (by omega))).trans h.kf, ⟨by omega, by omega⟩, ?_, ?_⟩, ?_⟩
  · rcases List.mem_cons.1 hx with rfl | hx
    · obtain ⟨g', off', cap', hv', h0, hlc, hcm, hg, hc⟩ := hself
      rw [hv] at hv'
      simp only [Value.slice.injEq, Option.some.injEq, Addr.mk.injEq, and_true, true_and] at hv'
      obtain ⟨⟨rfl, rfl⟩, rfl⟩ := hv'
      refine ⟨g, off + 4, cap - 1, rfl, by show 0 < e.D.len - 1; omega, by show e.D.len - 1 ≤ cap - 1; omega, by omega, hg, fun i hi => ?_⟩
      have hi' : i < e.D.len - 1 := hi
      obtain ⟨u, e0, e1, e2, e3, r⟩ := hc (i + 1) (by omega)
      have ea : off + 4 + i * 4 = off + (i + 1) * 4 := by omega
      rw [ea]
      exact ⟨u, e0, e1, e2, e3, r⟩
    · exact entIn_keep (h.ents x (List.mem_cons_of_mem _ hx)) he
  · rw [cell_of_row _ _ _ _ _ (0, 0) hN, hv]; rfl
  · rw [cell_of_row _ _ _ _ _ (0, 0) hN]; rfl
  · exact (((Below.refl _ wr).alloc (by omega) _).alloc (by simp; omega) _).grown hgrow (by simp; omega) (fun k e => by have := Option.some.inj e; omega)

theorem half_none {T : Nd} {B0 B bk : Nat} {W0 : World} {pre R : List Ent} {e : Ent} {gs cs g off cap : Nat} {wr : World} (h : WInv T B0 B bk W0 pre (e :: R) (.slice (some ⟨gs, 0, none⟩) (R.length + 1) cs) wr) (hB : B0 ≤ B) (hbk : bk < B)
    (hv : e.v = .slice (some ⟨g, off, none⟩) e.D.len cap) :
    Half B0 B bk W0 R (.slice (some ⟨gs, 0, none⟩) R.length cs) wr.heap.size e (wr.alloc (.cells #[.slice (some ⟨g, off, none⟩) e.D.len cap, .int .i64 (e.d : Int)] 84)) ∧
      Below (B + 2) wr (wr.alloc (.cells #[.slice (some ⟨g, off, none⟩) e.D.len cap, .int .i64 (e.d : Int)] 84)) := by
  have hs := h.size
  have hk : ∀ k, k < wr.heap.size → (wr.alloc (.cells #[.slice (some ⟨g, off, none⟩) e.D.len cap, .int .i64 (e.d : Int)] 84)).heap[k]? = wr.heap[k]? := fun k hk => Below.heap_alloc _ _ _ hk
  have hN := World.alloc_heap_new wr (.cells #[.slice (some ⟨g, off, none⟩) e.D.len cap, .int .i64 (e.d : Int)] 84)
  refine ⟨⟨(own_pop h.own).alloc _, fun x hx => entIn_keep (h.ents x (List.mem_cons_of_mem _ hx)) (fun k hk' => hk k (by omega)), entIn_keep (h.ents e (List.mem_cons_self ..)) (fun k hk' => hk k (by omega)), fun k hk' => (hk k (by omega)).trans (h.base k hk'),
    (World.cell?_of_block (a := ⟨bk, 0, none⟩) (hk bk (by omega))).trans h.kf, ⟨hs, by simp⟩, ?_, ?_⟩, (Below.refl _ wr).alloc (by omega) _⟩
  · rw [cell_of_row _ _ _ _ _ (0, 0) hN, hv]; rfl
  · rw [cell_of_row _ _ _ _ _ (0, 0) hN]; rfl

theorem ent_of_row {B0 r0 : Nat} {W0 w : World} {K : Nd} {d : Nat} {u : Value} (hr : Row 0 B0 W0 K u) (hf : K.Fine) (h0 : 0 < K.len) (hb : ∀ k, k < B0 → w.heap[k]? = W0.heap[k]?) : EntIn B0 r0 W0 w ⟨K, d, u⟩ := by
  obtain ⟨a, cap, hv, hc, hq⟩ := row_eq.1 hr
  rcases hq with hq | ⟨g, off, rfl, _, hg, hq⟩
  · omega
  · refine ⟨g, off, cap, hv, h0, hc.1, hc.2, .inl hg, fun i hi => ?_⟩
    obtain ⟨x, e0, e1, e2, e3, hr⟩ := hq i hi
    have hcell : ∀ o, w.cell? ⟨g, o, none⟩ = W0.cell? ⟨g, o, none⟩ := fun o => World.cell?_of_block (a := ⟨g, o, none⟩) (hb g hg)
    exact ⟨x, by rw [hcell]; exact e0, by rw [hcell]; exact e1, by rw [hcell]; exact e2, by rw [hcell]; exact e3, hr, Nd.fine_kid hf hi⟩

theorem inv_none {T : Nd} {B0 B bk : Nat} {W0 : World} {pre S : List Ent} {v : Value} {N : Nat} {e : Ent} {w : World} (h : Half B0 B bk W0 S v N e w) (hseq : pre.map key ++ remS S = T.pre 0) : WInv T B0 B bk W0 pre S v w :=
  ⟨hseq, h.own, h.ents, h.base, h.kf, by have := h.size; omega⟩
theorem inv_kids {T : Nd} {B0 B bk : Nat} {W0 : World} {pre S : List Ent} {v v' : Value} {N d : Nat} {e : Ent} {w w' : World} {K : Nd} {u : Value} {row : Option Nat} (h : Half B0 B bk W0 S v N e w) (hB : B0 ≤ B) (hbk : bk < B)
    (hr : Row 0 B0 W0 K u) (hf : K.Fine) (h0 : 0 < K.len) (hgrow : w.grownBy w' row) (hrow : ∀ k, row = some k → B + 3 ≤ k) (hown : w'.ownsRow (B + 3) 84 2 v' (S.length + 1) (flatS S ++ [u, .int .i64 ((d : Nat) : Int)])) (hseq : pre.map key ++ remS (⟨K, d, u⟩ :: S) = T.pre 0) :
    WInv T B0 B bk W0 pre (⟨K, d, u⟩ :: S) v' w' := by
  have hs := h.size
  have hk : ∀ k, k < B + 3 → w'.heap[k]? = w.heap[k]? := fun k hk => hgrow.block k (by omega) (fun e => by have := hrow k e.symm; omega)
  have hb : ∀ k, k < B0 → w'.heap[k]? = W0.heap[k]? := fun k hk' => (hk k (by omega)).trans (h.base k hk')
  refine ⟨hseq, by rw [flatS_cons]; exact hown, fun x hx => ?_, hb, (World.cell?_of_block (a := ⟨bk, 0, none⟩) (hk bk (by omega))).trans h.kf, by have := hgrow.size; omega⟩
  rcases List.mem_cons.1 hx with rfl | hx
  · exact ent_of_row hr hf h0 hb
  · exact entIn_keep (h.ents x hx) (fun k hk' => hk k (by omega))

theorem half_head {B0 B bk : Nat} {W0 : World} {S : List Ent} {v : Value} {N : Nat} {e : Ent} {w : World} {g off cap : Nat} (h : Half B0 B bk W0 S v N e w) (hv : e.v = .slice (some ⟨g, off, none⟩) e.D.len cap) :
    ∃ ak ck, (g < B0 ∨ g = B + 2) ∧ w.cell? ⟨g, off, none⟩ = some (.int .i64 (e.D.kids 0).kind) ∧ w.cell? ⟨g, off + 1, none⟩ = some (.int .i64 (e.D.kids 0).num) ∧ w.cell? ⟨g, off + 2, none⟩ = some (.string (e.D.kids 0).name) ∧
      w.cell? ⟨g, off + 3, none⟩ = some (.slice ak (e.D.kids 0).len ck) ∧ Row 0 B0 W0 (e.D.kids 0) (.slice ak (e.D.kids 0).len ck) ∧ (e.D.kids 0).Fine := by
  obtain ⟨g', off', cap', hv', h0, hlc, hcm, hg, hc⟩ := h.self
  rw [hv] at hv'
  simp only [Value.slice.injEq, Option.some.injEq, Addr.mk.injEq, and_true, true_and] at hv'
  obtain ⟨⟨rfl, rfl⟩, rfl⟩ := hv'
  obtain ⟨u, e0, e1, e2, e3, hr, hf⟩ := hc 0 h0
  obtain ⟨ak, ck, rfl, _⟩ := row_eq.1 hr
  simp only [Nat.zero_mul, Nat.add_zero] at e0 e1 e2 e3
  exact ⟨ak, ck, hg, e0, e1, e2, e3, hr, hf⟩

theorem kids_any (tk tn : Int) (ts : ByteArray) (a : Option Addr) (l c : Nat) (w : World) :
    Calls Tryd.prog 59 #[.agg #[.int .i64 tk, .int .i64 tn, .string ts, .slice a l c]] w fun e w' => e = .returned (.slice a l c) ∧ Below w.heap.size w w' := by
  go_enter Tryd.func59, Tryd.ntmps59
  go_wp2
  go_ret
  exact ⟨rfl, (Below.refl _ _).alloc (Nat.le_refl _) _⟩

set_option maxHeartbeats 4000000 in
set_option maxRecDepth 100000 in
theorem walk_in (n : Nat) (hn : 1 ≤ n) (T : Nd) (u : Value) (B0 B br bk l : Nat) (mine : Nat → Prop) (J Jx : List Ent → World → Prop) (W0 W : World) (hT : T.Fine) (hcost : T.cost ≤ 1048576)
    (hWs : W.heap.size = B + 2) (hB0 : B0 ≤ B) (hbr : br < B) (hbk : bk < B) (hmine : ∀ k, mine k → B0 ≤ k ∧ k < B ∧ k ≠ bk) (hb0 : ∀ k, k < B0 → W.heap[k]? = W0.heap[k]?) (hrow : Row 0 B0 W0 T u)
    (hJ : Under (B + 2) J) (hJz : ∀ pre A, J pre A → B + 2 ≤ A.heap.size)
    (hY : ∀ pre x W1, J pre W1 → WCame T B0 W0 pre x → YieldAt Fence.wide (n - 1) Tryd.prog l (wenc x) W1 fun e W' =>
      (e = .returned (.bool true) ∧ J (pre ++ [x]) W' ∧ KeptF (fun k => mine k ∨ k = B + 1) W1 W') ∨ (e = .returned (.bool false) ∧ Jx (pre ++ [x]) W'))
    (h0 : J [] W) (r0 : W.cell? ⟨br, 0, none⟩ = some (.int .i64 T.kind)) (r1 : W.cell? ⟨br, 1, none⟩ = some (.int .i64 T.num)) (r2 : W.cell? ⟨br, 2, none⟩ = some (.string T.name)) (r3 : W.cell? ⟨br, 3, none⟩ = some u)
    (hkf : W.cell? ⟨bk, 0, none⟩ = some (.func (.func 59) #[] #[])) :
    CallsIn Fence.wide n Tryd.prog 69 #[.func (.yield l) #[] #[], .pointer (some ⟨br, 0, none⟩), .pointer (some ⟨bk, 0, none⟩)] W fun e W' => (∃ v, e = .returned v) ∧ ((∃ xs, WAll T xs ∧ J xs W') ∨ (∃ pre, True ∧ Jx pre W')) := by
  obtain ⟨au, cu, hu, hcu, hrow'⟩ := row_eq.1 hrow
  subst hu
  have HROW := hid_mk hrow
  clear hrow hrow'
  refine callsIn_of_wp Tryd.func69 rfl trivial ?_ rfl
  simp only [Tryd.ntmps69, List.size_toArray, List.length_cons, List.length_nil, Nat.reduceAdd, Nat.reduceSub, Array.replicate_succ, Array.replicate_zero, List.push_toArray, List.append_toArray, List.nil_append, List.cons_append]
  gi_wp2
  have HSTART : Hid (WInv T B0 B bk W0 [] [⟨oneN T, 0, .slice (some ⟨B + 2, 0, none⟩) 1 1⟩] (.slice (some ⟨B + 2 + 1, 0, none⟩) 1 1)
      ((W.alloc (.cells #[.int .i64 T.kind, .int .i64 T.num, .string T.name, .slice au T.len cu] 37)).alloc (.cells #[.slice (some ⟨B + 2, 0, none⟩) 1 1, .int .i64 0] 84)) ∧
      J [] ((W.alloc (.cells #[.int .i64 T.kind, .int .i64 T.num, .string T.name, .slice au T.len cu] 37)).alloc (.cells #[.slice (some ⟨B + 2, 0, none⟩) 1 1, .int .i64 0] 84))) :=
    winv_start T B0 B bk W0 W au cu J hT hWs hB0 hbk hb0 HROW.out hJ h0 hkf
  gi_loopg [4] T.size (fun k v wr => ∃ pre S, k = (remS S).length ∧ WInv T B0 B bk W0 pre S v wr ∧ J pre wr)
  case atStart =>
    refine ⟨[], _, ?_, HSTART.out.1, HSTART.out.2⟩
    simp [remS, preL_one, pre_len]
  case round =>
    obtain ⟨pre, S, hk, hinv, hJr⟩ := hrel
    clear HSTART h0 r0 r1 r2 r3 hkf hb0 hWs HROW
    have HK := hid_mk hk
    clear hk
    cases S with
    | nil =>
      obtain ⟨av, cv, rfl⟩ := own_sh hinv.own
      have HS : Hid (WAll T pre) := by have := hinv.seq; simpa [remS, WAll, Hid] using this
      have HJr := hid_mk hJr
      clear hinv hJr
      gi_wp2
      go_end0
      exact ⟨⟨_, rfl⟩, .inl ⟨_, HS.out, HJr.out⟩⟩
    | cons e R =>
      obtain ⟨gs, cs, rfl, hcs, hcs2, hgs, hgs2⟩ := own_fm hinv.own
      obtain ⟨q0, q1⟩ := top_cells hinv.own
      obtain ⟨g, off, cap, hv, hl0, hlc, hcm, hg, hcells⟩ := hinv.ents e (List.mem_cons_self ..)
      have hlen := winv_lens hinv
      have hsc := T.size_cost
      simp only [List.length_cons] at hlen hcs ⊢
      rw [hv] at q0
      have HINV := hid_mk hinv
      have HJr := hid_mk hJr
      have HV := hid_mk hv
      have HT : Hid (0 < e.D.len) := hl0
      clear hinv hJr hcells hv
      have hfol : Tryd.prog.follows Departure.mixedOrders = true := by kernel_rfl
      obtain ⟨i0, hi0, hz0, hz1, hz2⟩ := info_parts info_rest
      have HOWN := hid_mk (own_pop HINV.out.own)
      by_cases h1 : 1 < e.D.len
      · gi_wp2_with ((gi_at_builtin; refine wpListIn_append_own _ rfl _ _ 85 rfl (B + 3) 84 i0 (.agg #[.slice none 0 0, .int .i64 0]) 2 32 Tryd.underlying85 hi0 hz0 hz1 hz2 rfl (by decide) _ _ _ rfl ((HOWN.out.alloc _).alloc _) ⟨wr.heap.size + 1, 0, none⟩ 1 1 [.slice (some ⟨g, off + 4, none⟩) (e.D.len - 1) (cap - 1), .int .i64 (e.d : Int)] rfl rfl (by rw [← World.size_alloc]; exact two_new _ _ _ _) (two_one _ _ _ _) (by unfold maxLen; omega) (by omega) (by simp; omega) ?_; intro v' w1 hown' hgrow hnil'))
        obtain ⟨hhalf, hbw⟩ := half_tail HINV.out hB0 hbk hgs hgs2 HV.out h1 hgrow hown'
        have hJ1 : J pre w1 := hJ _ _ _ HJr.out hbw
        obtain ⟨gv, cv, rfl, hcv, hcv2, hgv, hgv2⟩ := own_fm hown'
        have hseq : ∀ u, pre.map key ++ (e.D.kids 0, e.d) :: remS (pushK e (e.D.kids 0) u (⟨tailN e.D, e.d, .slice (some ⟨g, off + 4, none⟩) (e.D.len - 1) (cap - 1)⟩ :: R)) = T.pre 0 := fun u => by
          have := HINV.out.seq
          rw [rem_step e R u (.slice (some ⟨g, off + 4, none⟩) (e.D.len - 1) (cap - 1)) HT.out, pushT, if_pos h1] at this
          exact this
        have HALF := hid_mk hhalf
        have HME : Hid ((remS (e :: R)).length = gk) := HK.out.symm
        have HST : Hid (∀ u, remS (e :: R) = (e.D.kids 0, e.d) :: remS (pushK e (e.D.kids 0) u (⟨tailN e.D, e.d, .slice (some ⟨g, off + 4, none⟩) (e.D.len - 1) (cap - 1)⟩ :: R))) := fun u => by
          have := rem_step e R u (.slice (some ⟨g, off + 4, none⟩) (e.D.len - 1) (cap - 1)) HT.out
          rw [pushT, if_pos h1] at this
          exact this
        clear hown' hgrow hnil' hhalf hbw hfol
        have hfol : Tryd.prog.follows Departure.mixedOrders = true := by kernel_rfl
        obtain ⟨ak, ck, hgg, k0, k1, k2, k3, hkr, hkf⟩ := half_head HALF.out HV.out
        have hJ2 : J pre w1.drew := hJ _ _ _ hJ1 (Below.refl _ _).drew
        have HSEQ := hid_mk (hseq (.slice ak (e.D.kids 0).len ck))
        have HKR := hid_mk hkr
        have HKF := hid_mk hkf
        obtain ⟨fn, tmps, assign, bod, hy, hR⟩ := hY pre ⟨e.D.kids 0, e.d, .slice ak (e.D.kids 0).len ck⟩ w1.drew hJ2 ⟨⟨_, HSEQ.out⟩, hkr, hkf⟩
        have hR2 := hR.mono (R' := fun e' W' => ∃ b : Bool, e' = .returned (.bool b) ∧ Hid (b = true → J (pre ++ [⟨e.D.kids 0, e.d, .slice ak (e.D.kids 0).len ck⟩]) W' ∧ KeptF (fun k => mine k ∨ k = B + 1) w1.drew W') ∧ Hid (b = false → Jx (pre ++ [⟨e.D.kids 0, e.d, .slice ak (e.D.kids 0).len ck⟩]) W'))
          (fun e' W' h => by
            rcases h with ⟨rfl, h, h'⟩ | ⟨rfl, h⟩
            · exact ⟨true, rfl, (fun _ => ⟨h, h'⟩), (fun h => by cases h)⟩
            · exact ⟨false, rfl, (fun h => by cases h), (fun _ => h)⟩)
        simp only [wenc, Nd.val] at hy
        have hl0 := HALF.out.l0
        have hl1 := HALF.out.l1
        rw [HV.out] at hl0
        have HR2 := hid_mk hR2
        clear hkr hkf hR hR2 hseq hJ2 hJ1
        apply wpIn_cut (R := fun b W' => Hid (b = true → J (pre ++ [⟨e.D.kids 0, e.d, .slice ak (e.D.kids 0).len ck⟩]) W' ∧ KeptF (fun k => mine k ∨ k = B + 1) w1.drew W') ∧ Hid (b = false → Jx (pre ++ [⟨e.D.kids 0, e.d, .slice ak (e.D.kids 0).len ck⟩]) W'))
        case h1 =>
          gi_region_with_o ((refine HR2.out.mono ?_; rintro e' W' ⟨b, rfl, hb1, hb2⟩))
          all_goals exact ⟨_, rfl, by assumption, by assumption⟩
        case h2 =>
          rintro b W' ⟨hb1, hb2⟩
          cases b with
          | false =>
            have hx := hb2.out rfl
            clear hb1 hb2
            go_simp
            gi_wp2
            exact bodyPost_ret (results_none rfl _ _ _) rfl ⟨⟨_, rfl⟩, .inr ⟨_, trivial, hx⟩⟩
          | true =>
            obtain ⟨hJ', hkept⟩ := hb1.out rfl
            clear hb1 hb2
            have hkz := hkept.size
            have hks : ∀ k, k < w1.heap.size → (k < B0 ∨ k = bk ∨ B + 2 ≤ k) → W'.heap[k]? = w1.heap[k]? := fun k hk hc => hkept.same k hk (fun h => h.elim (fun h => by have := hmine k h; omega) (fun h => by omega))
            have hN := HALF.out.size
            have hcg : ∀ o, W'.cell? ⟨g, o, none⟩ = w1.cell? ⟨g, o, none⟩ := fun o => World.cell?_of_block (a := ⟨g, o, none⟩) (hks g (by omega) (by omega))
            rw [← hcg] at k0 k1 k2 k3
            have HALF2 := hid_mk (half_keep HALF.out hB0 hbk hkz hks)
            have hl0 := HALF2.out.l0
            have hl1 := HALF2.out.l1
            rw [HV.out] at hl0
            have hkfn := HALF2.out.kf
            have HJ' := hid_mk hJ'
            clear HALF HR2 hy hkept hks hcg hJ'
            go_simp
            gi_wp2
            apply wpIn_cut0 (R := fun W2 => Hid (Below W'.heap.size W' W2))
            case h1 =>
              gi_region_with_o ((refine ⟨trivial, ?_⟩; gi_at_call 59; refine (callsIn_wide.2 (kids_any _ _ _ _ _ _ _)).mono ?_; rintro e' w' ⟨rfl, hb3⟩))
              all_goals exact ⟨rfl, (Below.refl _ _).drew.trans (by assumption)⟩
            case h2 =>
              intro W2 hb3
              have hb3 := hb3.out
              have hbz := hb3.size
              have hN2 := HALF2.out.size
              have HALF3 := hid_mk (half_keep HALF2.out hB0 hbk hbz (fun k hk _ => hb3.block k hk))
              have HJ3 := hid_mk (hJ _ _ _ HJ'.out (hb3.mono (by omega)))
              have hl1 := HALF3.out.l1
              have hdd : e.d < T.size := by
                have hm : (e.D.kids 0, e.d) ∈ T.pre 0 := by rw [← HSEQ.out]; simp
                have := pre_deep T 0 _ hm
                simpa using this
              have hsq := HSEQ.out
              have hst := HST.out (.slice ak (e.D.kids 0).len ck)
              clear HALF2 HJ' hb3 k0 k1 k2 k3 hl0 hkfn
              by_cases hK : 0 < (e.D.kids 0).len
              · rw [pushK, if_pos hK] at hsq hst
                have HSQ := hid_mk hsq
                have HST2 := hid_mk hst
                clear hsq hst
                go_simp
                gi_wp2_with ((gi_at_builtin; refine wpListIn_append_own _ rfl _ _ 85 rfl (B + 3) 84 i0 (.agg #[.slice none 0 0, .int .i64 0]) 2 32 Tryd.underlying85 hi0 hz0 hz1 hz2 rfl (by decide) _ _ _ rfl (HALF3.out.own.alloc _) ⟨W2.heap.size, 0, none⟩ 1 1 [.slice ak (e.D.kids 0).len ck, .int .i64 ((e.d : Int) + 1)] rfl rfl (two_new _ _ _ _) (two_one _ _ _ _) (by unfold maxLen; first | omega | (simp; omega)) (by first | omega | (simp; omega)) (by first | omega | (simp; omega)) ?_; intro v'' w4 hown'' hgrow'' hnil''))
                have hfin := inv_kids (T := T) (pre := pre ++ [⟨e.D.kids 0, e.d, .slice ak (e.D.kids 0).len ck⟩]) (d := e.d + 1) (half_keep HALF3.out hB0 hbk (by simp) (fun k hk _ => Below.heap_alloc W2 _ k hk)) hB0 hbk HKR.out HKF.out hK hgrow'' (fun k e => by have : gv = k := Option.some.inj e; omega) hown'' (by have := HSQ.out; simpa [key] using this)
                have hJ4 := hJ _ _ _ HJ3.out (((Below.refl _ W2).alloc (by omega) _).grown hgrow'' (by simp; omega) (fun k e => by have : gv = k := Option.some.inj e; omega))
                gi_roundg (remS (⟨e.D.kids 0, e.d + 1, .slice ak (e.D.kids 0).len ck⟩ ::(⟨tailN e.D, e.d, .slice (some ⟨g, off + 4, none⟩) (e.D.len - 1) (cap - 1)⟩ :: R))).length
                case measure => rw [← HME.out, HST2.out]; simp
                case rel => exact ⟨_, _, rfl, hfin, hJ4⟩
              · rw [pushK, if_neg hK] at hsq hst
                have HSQ := hid_mk hsq
                have HST2 := hid_mk hst
                clear hsq hst
                go_simp
                gi_wp2
                have hfin := inv_none (T := T) (pre := pre ++ [⟨e.D.kids 0, e.d, .slice ak (e.D.kids 0).len ck⟩]) HALF3.out (by have := HSQ.out; simpa [key] using this)
                gi_roundg (remS (⟨tailN e.D, e.d, .slice (some ⟨g, off + 4, none⟩) (e.D.len - 1) (cap - 1)⟩ :: R)).length
                case measure => rw [← HME.out, HST2.out]; simp
                case rel => exact ⟨_, _, rfl, hfin, HJ3.out⟩
      · have hc1 : cap = 1 ∨ 1 < cap := by omega
        have hl1 : e.D.len = 1 := by omega
        have HL1 := hid_mk hl1
        clear hl1
        rcases hc1 with rfl | hc1
        · gi_wp2
          obtain ⟨hhalf, hbw⟩ := half_none HINV.out hB0 hbk HV.out
          obtain ⟨w1, hw1⟩ : ∃ w1, wr.alloc (.cells #[.slice (some ⟨g, off, none⟩) e.D.len 1, .int .i64 (e.d : Int)] 84) = w1 := ⟨_, rfl⟩
          rw [hw1] at hhalf hbw ⊢
          have hJ1 : J pre w1 := hJ _ _ _ HJr.out hbw
          have hseq : ∀ u, pre.map key ++ (e.D.kids 0, e.d) :: remS (pushK e (e.D.kids 0) u R) = T.pre 0 := fun u => by
            have := HINV.out.seq
            rw [rem_step e R u (.slice none 0 0) HT.out, pushT, if_neg h1] at this
            exact this
          have HALF := hid_mk hhalf
          have HME : Hid ((remS (e :: R)).length = gk) := HK.out.symm
          have HST : Hid (∀ u, remS (e :: R) = (e.D.kids 0, e.d) :: remS (pushK e (e.D.kids 0) u R)) := fun u => by
            have := rem_step e R u (.slice none 0 0) HT.out
            rw [pushT, if_neg h1] at this
            exact this
          clear hhalf hbw hw1
          obtain ⟨ak, ck, hgg, k0, k1, k2, k3, hkr, hkf⟩ := half_head HALF.out HV.out
          have hJ2 : J pre w1.drew := hJ _ _ _ hJ1 (Below.refl _ _).drew
          have HSEQ := hid_mk (hseq (.slice ak (e.D.kids 0).len ck))
          have HKR := hid_mk hkr
          have HKF := hid_mk hkf
          obtain ⟨fn, tmps, assign, bod, hy, hR⟩ := hY pre ⟨e.D.kids 0, e.d, .slice ak (e.D.kids 0).len ck⟩ w1.drew hJ2 ⟨⟨_, HSEQ.out⟩, hkr, hkf⟩
          have hR2 := hR.mono (R' := fun e' W' => ∃ b : Bool, e' = .returned (.bool b) ∧ Hid (b = true → J (pre ++ [⟨e.D.kids 0, e.d, .slice ak (e.D.kids 0).len ck⟩]) W' ∧ KeptF (fun k => mine k ∨ k = B + 1) w1.drew W') ∧ Hid (b = false → Jx (pre ++ [⟨e.D.kids 0, e.d, .slice ak (e.D.kids 0).len ck⟩]) W'))
            (fun e' W' h => by
              rcases h with ⟨rfl, h, h'⟩ | ⟨rfl, h⟩
              · exact ⟨true, rfl, (fun _ => ⟨h, h'⟩), (fun h => by cases h)⟩
              · exact ⟨false, rfl, (fun h => by cases h), (fun _ => h)⟩)
          simp only [wenc, Nd.val] at hy
          have hl0 := HALF.out.l0
          have hl1 := HALF.out.l1
          rw [HV.out] at hl0
          have HR2 := hid_mk hR2
          clear hkr hkf hR hR2 hseq hJ2 hJ1
          apply wpIn_cut (R := fun b W' => Hid (b = true → J (pre ++ [⟨e.D.kids 0, e.d, .slice ak (e.D.kids 0).len ck⟩]) W' ∧ KeptF (fun k => mine k ∨ k = B + 1) w1.drew W') ∧ Hid (b = false → Jx (pre ++ [⟨e.D.kids 0, e.d, .slice ak (e.D.kids 0).len ck⟩]) W'))
          case h1 =>
            gi_region_with_o ((refine HR2.out.mono ?_; rintro e' W' ⟨b, rfl, hb1, hb2⟩))
            all_goals exact ⟨_, rfl, by assumption, by assumption⟩
          case h2 =>
            rintro b W' ⟨hb1, hb2⟩
            cases b with
            | false =>
              have hx := hb2.out rfl
              clear hb1 hb2
              go_simp
              gi_wp2
              exact bodyPost_ret (results_none rfl _ _ _) rfl ⟨⟨_, rfl⟩, .inr ⟨_, trivial, hx⟩⟩
            | true =>
              obtain ⟨hJ', hkept⟩ := hb1.out rfl
              clear hb1 hb2
              have hkz := hkept.size
              have hks : ∀ k, k < w1.heap.size → (k < B0 ∨ k = bk ∨ B + 2 ≤ k) → W'.heap[k]? = w1.heap[k]? := fun k hk hc => hkept.same k hk (fun h => h.elim (fun h => by have := hmine k h; omega) (fun h => by omega))
              have hN := HALF.out.size
              have hcg : ∀ o, W'.cell? ⟨g, o, none⟩ = w1.cell? ⟨g, o, none⟩ := fun o => World.cell?_of_block (a := ⟨g, o, none⟩) (hks g (by omega) (by omega))
              rw [← hcg] at k0 k1 k2 k3
              have HALF2 := hid_mk (half_keep HALF.out hB0 hbk hkz hks)
              have hl0 := HALF2.out.l0
              have hl1 := HALF2.out.l1
              rw [HV.out] at hl0
              have hkfn := HALF2.out.kf
              have HJ' := hid_mk hJ'
              clear HALF HR2 hy hkept hks hcg hJ'
              go_simp
              gi_wp2
              apply wpIn_cut0 (R := fun W2 => Hid (Below W'.heap.size W' W2))
              case h1 =>
                gi_region_with_o ((refine ⟨trivial, ?_⟩; gi_at_call 59; refine (callsIn_wide.2 (kids_any _ _ _ _ _ _ _)).mono ?_; rintro e' w' ⟨rfl, hb3⟩))
                all_goals exact ⟨rfl, (Below.refl _ _).drew.trans (by assumption)⟩
              case h2 =>
                intro W2 hb3
                have hb3 := hb3.out
                have hbz := hb3.size
                have hN2 := HALF2.out.size
                have HALF3 := hid_mk (half_keep HALF2.out hB0 hbk hbz (fun k hk _ => hb3.block k hk))
                have HJ3 := hid_mk (hJ _ _ _ HJ'.out (hb3.mono (by omega)))
                have hl1 := HALF3.out.l1
                have hdd : e.d < T.size := by
                  have hm : (e.D.kids 0, e.d) ∈ T.pre 0 := by rw [← HSEQ.out]; simp
                  have := pre_deep T 0 _ hm
                  simpa using this
                have hsq := HSEQ.out
                have hst := HST.out (.slice ak (e.D.kids 0).len ck)
                clear HALF2 HJ' hb3 k0 k1 k2 k3 hl0 hkfn
                by_cases hK : 0 < (e.D.kids 0).len
                · rw [pushK, if_pos hK] at hsq hst
                  have HSQ := hid_mk hsq
                  have HST2 := hid_mk hst
                  clear hsq hst
                  go_simp
                  gi_wp2_with ((gi_at_builtin; refine wpListIn_append_own _ rfl _ _ 85 rfl (B + 3) 84 i0 (.agg #[.slice none 0 0, .int .i64 0]) 2 32 Tryd.underlying85 hi0 hz0 hz1 hz2 rfl (by decide) _ _ _ rfl (HALF3.out.own.alloc _) ⟨W2.heap.size, 0, none⟩ 1 1 [.slice ak (e.D.kids 0).len ck, .int .i64 ((e.d : Int) + 1)] rfl rfl (two_new _ _ _ _) (two_one _ _ _ _) (by unfold maxLen; first | omega | (simp; omega)) (by first | omega | (simp; omega)) (by first | omega | (simp; omega)) ?_; intro v'' w4 hown'' hgrow'' hnil''))
                  have hfin := inv_kids (T := T) (pre := pre ++ [⟨e.D.kids 0, e.d, .slice ak (e.D.kids 0).len ck⟩]) (d := e.d + 1) (half_keep HALF3.out hB0 hbk (by simp) (fun k hk _ => Below.heap_alloc W2 _ k hk)) hB0 hbk HKR.out HKF.out hK hgrow'' (fun k e => by have : gs = k := Option.some.inj e; omega) hown'' (by have := HSQ.out; simpa [key] using this)
                  have hJ4 := hJ _ _ _ HJ3.out (((Below.refl _ W2).alloc (by omega) _).grown hgrow'' (by simp; omega) (fun k e => by have : gs = k := Option.some.inj e; omega))
                  gi_roundg (remS (⟨e.D.kids 0, e.d + 1, .slice ak (e.D.kids 0).len ck⟩ :: R)).length
                  case measure => rw [← HME.out, HST2.out]; simp
                  case rel => exact ⟨_, _, rfl, hfin, hJ4⟩
                · rw [pushK, if_neg hK] at hsq hst
                  have HSQ := hid_mk hsq
                  have HST2 := hid_mk hst
                  clear hsq hst
                  go_simp
                  gi_wp2
                  have hfin := inv_none (T := T) (pre := pre ++ [⟨e.D.kids 0, e.d, .slice ak (e.D.kids 0).len ck⟩]) HALF3.out (by have := HSQ.out; simpa [key] using this)
                  gi_roundg (remS R).length
                  case measure => rw [← HME.out, HST2.out]; simp
                  case rel => exact ⟨_, _, rfl, hfin, HJ3.out⟩
        · gi_wp2
          obtain ⟨hhalf, hbw⟩ := half_none HINV.out hB0 hbk HV.out
          obtain ⟨w1, hw1⟩ : ∃ w1, wr.alloc (.cells #[.slice (some ⟨g, off, none⟩) e.D.len cap, .int .i64 (e.d : Int)] 84) = w1 := ⟨_, rfl⟩
          rw [hw1] at hhalf hbw ⊢
          have hJ1 : J pre w1 := hJ _ _ _ HJr.out hbw
          have hseq : ∀ u, pre.map key ++ (e.D.kids 0, e.d) :: remS (pushK e (e.D.kids 0) u R) = T.pre 0 := fun u => by
            have := HINV.out.seq
            rw [rem_step e R u (.slice none 0 0) HT.out, pushT, if_neg h1] at this
            exact this
          have HALF := hid_mk hhalf
          have HME : Hid ((remS (e :: R)).length = gk) := HK.out.symm
          have HST : Hid (∀ u, remS (e :: R) = (e.D.kids 0, e.d) :: remS (pushK e (e.D.kids 0) u R)) := fun u => by
            have := rem_step e R u (.slice none 0 0) HT.out
            rw [pushT, if_neg h1] at this
            exact this
          clear hhalf hbw hw1
          obtain ⟨ak, ck, hgg, k0, k1, k2, k3, hkr, hkf⟩ := half_head HALF.out HV.out
          have hJ2 : J pre w1.drew := hJ _ _ _ hJ1 (Below.refl _ _).drew
          have HSEQ := hid_mk (hseq (.slice ak (e.D.kids 0).len ck))
          have HKR := hid_mk hkr
          have HKF := hid_mk hkf
          obtain ⟨fn, tmps, assign, bod, hy, hR⟩ := hY pre ⟨e.D.kids 0, e.d, .slice ak (e.D.kids 0).len ck⟩ w1.drew hJ2 ⟨⟨_, HSEQ.out⟩, hkr, hkf⟩
          have hR2 := hR.mono (R' := fun e' W' => ∃ b : Bool, e' = .returned (.bool b) ∧ Hid (b = true → J (pre ++ [⟨e.D.kids 0, e.d, .slice ak (e.D.kids 0).len ck⟩]) W' ∧ KeptF (fun k => mine k ∨ k = B + 1) w1.drew W') ∧ Hid (b = false → Jx (pre ++ [⟨e.D.kids 0, e.d, .slice ak (e.D.kids 0).len ck⟩]) W'))
            (fun e' W' h => by
              rcases h with ⟨rfl, h, h'⟩ | ⟨rfl, h⟩
              · exact ⟨true, rfl, (fun _ => ⟨h, h'⟩), (fun h => by cases h)⟩
              · exact ⟨false, rfl, (fun h => by cases h), (fun _ => h)⟩)
          simp only [wenc, Nd.val] at hy
          have hl0 := HALF.out.l0
          have hl1 := HALF.out.l1
          rw [HV.out] at hl0
          have HR2 := hid_mk hR2
          clear hkr hkf hR hR2 hseq hJ2 hJ1
          apply wpIn_cut (R := fun b W' => Hid (b = true → J (pre ++ [⟨e.D.kids 0, e.d, .slice ak (e.D.kids 0).len ck⟩]) W' ∧ KeptF (fun k => mine k ∨ k = B + 1) w1.drew W') ∧ Hid (b = false → Jx (pre ++ [⟨e.D.kids 0, e.d, .slice ak (e.D.kids 0).len ck⟩]) W'))
          case h1 =>
            gi_region_with_o ((refine HR2.out.mono ?_; rintro e' W' ⟨b, rfl, hb1, hb2⟩))
            all_goals exact ⟨_, rfl, by assumption, by assumption⟩
          case h2 =>
            rintro b W' ⟨hb1, hb2⟩
            cases b with
            | false =>
              have hx := hb2.out rfl
              clear hb1 hb2
              go_simp
              gi_wp2
              exact bodyPost_ret (results_none rfl _ _ _) rfl ⟨⟨_, rfl⟩, .inr ⟨_, trivial, hx⟩⟩
            | true =>
              obtain ⟨hJ', hkept⟩ := hb1.out rfl
              clear hb1 hb2
              have hkz := hkept.size
              have hks : ∀ k, k < w1.heap.size → (k < B0 ∨ k = bk ∨ B + 2 ≤ k) → W'.heap[k]? = w1.heap[k]? := fun k hk hc => hkept.same k hk (fun h => h.elim (fun h => by have := hmine k h; omega) (fun h => by omega))
              have hN := HALF.out.size
              have hcg : ∀ o, W'.cell? ⟨g, o, none⟩ = w1.cell? ⟨g, o, none⟩ := fun o => World.cell?_of_block (a := ⟨g, o, none⟩) (hks g (by omega) (by omega))
              rw [← hcg] at k0 k1 k2 k3
              have HALF2 := hid_mk (half_keep HALF.out hB0 hbk hkz hks)
              have hl0 := HALF2.out.l0
              have hl1 := HALF2.out.l1
              rw [HV.out] at hl0
              have hkfn := HALF2.out.kf
              have HJ' := hid_mk hJ'
              clear HALF HR2 hy hkept hks hcg hJ'
              go_simp
              gi_wp2
              apply wpIn_cut0 (R := fun W2 => Hid (Below W'.heap.size W' W2))
              case h1 =>
                gi_region_with_o ((refine ⟨trivial, ?_⟩; gi_at_call 59; refine (callsIn_wide.2 (kids_any _ _ _ _ _ _ _)).mono ?_; rintro e' w' ⟨rfl, hb3⟩))
                all_goals exact ⟨rfl, (Below.refl _ _).drew.trans (by assumption)⟩
              case h2 =>
                intro W2 hb3
                have hb3 := hb3.out
                have hbz := hb3.size
                have hN2 := HALF2.out.size
                have HALF3 := hid_mk (half_keep HALF2.out hB0 hbk hbz (fun k hk _ => hb3.block k hk))
                have HJ3 := hid_mk (hJ _ _ _ HJ'.out (hb3.mono (by omega)))
                have hl1 := HALF3.out.l1
                have hdd : e.d < T.size := by
                  have hm : (e.D.kids 0, e.d) ∈ T.pre 0 := by rw [← HSEQ.out]; simp
                  have := pre_deep T 0 _ hm
                  simpa using this
                have hsq := HSEQ.out
                have hst := HST.out (.slice ak (e.D.kids 0).len ck)
                clear HALF2 HJ' hb3 k0 k1 k2 k3 hl0 hkfn
                by_cases hK : 0 < (e.D.kids 0).len
                · rw [pushK, if_pos hK] at hsq hst
                  have HSQ := hid_mk hsq
                  have HST2 := hid_mk hst
                  clear hsq hst
                  go_simp
                  gi_wp2_with ((gi_at_builtin; refine wpListIn_append_own _ rfl _ _ 85 rfl (B + 3) 84 i0 (.agg #[.slice none 0 0, .int .i64 0]) 2 32 Tryd.underlying85 hi0 hz0 hz1 hz2 rfl (by decide) _ _ _ rfl (HALF3.out.own.alloc _) ⟨W2.heap.size, 0, none⟩ 1 1 [.slice ak (e.D.kids 0).len ck, .int .i64 ((e.d : Int) + 1)] rfl rfl (two_new _ _ _ _) (two_one _ _ _ _) (by unfold maxLen; first | omega | (simp; omega)) (by first | omega | (simp; omega)) (by first | omega | (simp; omega)) ?_; intro v'' w4 hown'' hgrow'' hnil''))
                  have hfin := inv_kids (T := T) (pre := pre ++ [⟨e.D.kids 0, e.d, .slice ak (e.D.kids 0).len ck⟩]) (d := e.d + 1) (half_keep HALF3.out hB0 hbk (by simp) (fun k hk _ => Below.heap_alloc W2 _ k hk)) hB0 hbk HKR.out HKF.out hK hgrow'' (fun k e => by have : gs = k := Option.some.inj e; omega) hown'' (by have := HSQ.out; simpa [key] using this)
                  have hJ4 := hJ _ _ _ HJ3.out (((Below.refl _ W2).alloc (by omega) _).grown hgrow'' (by simp; omega) (fun k e => by have : gs = k := Option.some.inj e; omega))
                  gi_roundg (remS (⟨e.D.kids 0, e.d + 1, .slice ak (e.D.kids 0).len ck⟩ :: R)).length
                  case measure => rw [← HME.out, HST2.out]; simp
                  case rel => exact ⟨_, _, rfl, hfin, hJ4⟩
                · rw [pushK, if_neg hK] at hsq hst
                  have HSQ := hid_mk hsq
                  have HST2 := hid_mk hst
                  clear hsq hst
                  go_simp
                  gi_wp2
                  have hfin := inv_none (T := T) (pre := pre ++ [⟨e.D.kids 0, e.d, .slice ak (e.D.kids 0).len ck⟩]) HALF3.out (by have := HSQ.out; simpa [key] using this)
                  gi_roundg (remS R).length
                  case measure => rw [← HME.out, HST2.out]; simp
                  case rel => exact ⟨_, _, rfl, hfin, HJ3.out⟩
end Go.Proofs.YtjgbjahcnnjfpaaDoor
namespace Go.Proofs.YtjgbjahcnnjfpaaDoor
open Go.RowKit Go.Shelf
attribute [local go_sem] Oper.semAt_some

theorem walk_any (tk tn : Int) (ts : ByteArray) (a : Option Addr) (l c : Nat) (f : Value) (w : World) (hf : f = .func (.func 59) #[] #[]) :
    Calls Tryd.prog 58 #[.agg #[.int .i64 tk, .int .i64 tn, .string ts, .slice a l c], f] w fun e w' => e = .returned (.func (.func 69) #[] #[.pointer (some ⟨w.heap.size, 0, none⟩), .pointer (some ⟨w.heap.size + 1, 0, none⟩)]) ∧
      w' = (w.alloc (.cells #[.int .i64 tk, .int .i64 tn, .string ts, .slice a l c] 37)).alloc (.cells #[.func (.func 59) #[] #[]] 76) := by
  subst hf
  go_enter Tryd.func58, Tryd.ntmps58
  go_wp2
  go_ret
  exact ⟨rfl, rfl⟩

theorem nodes_any (tk tn : Int) (ts : ByteArray) (a : Option Addr) (l c : Nat) (w : World) :
    Calls Tryd.prog 46 #[.agg #[.int .i64 tk, .int .i64 tn, .string ts, .slice a l c]] w fun e w' => e = .returned (.func (.func 69) #[] #[.pointer (some ⟨w.heap.size + 1, 0, none⟩), .pointer (some ⟨w.heap.size + 1 + 1, 0, none⟩)]) ∧
      w' = ((w.alloc (.cells #[.int .i64 tk, .int .i64 tn, .string ts, .slice a l c] 37)).alloc (.cells #[.int .i64 tk, .int .i64 tn, .string ts, .slice a l c] 37)).alloc (.cells #[.func (.func 59) #[] #[]] 76) := by
  go_enter Tryd.func46, Tryd.ntmps46
  go_wp2_with (go_at_call 58; refine (walk_any _ _ _ _ _ _ _ _ rfl).mono ?_; rintro e w' ⟨rfl, rfl⟩)
  go_ret
  exact ⟨by simp, rfl⟩

end Go.Proofs.YtjgbjahcnnjfpaaDoor
