/- The specification's checker: kind by kind. Written by mkck.py. -/
import Derived.Test.YtbjianmjdadehaaGreatDoorKdI
import Derived.Test.YtbjianmjdadehaaGreatDoorKdJ
import Derived.Test.YtbjianmjdadehaaGreatDoorKdK
import Derived.Test.YtbjianmjdadehaaGreatDoorKdL
import Derived.Test.YtbjianmjdadehaaGreatDoorKdM
import Derived.Test.YtbjianmjdadehaaGreatDoorKdN
set_option linter.unusedVariables false
namespace Go.Proofs.YtbjianmjdadehaaGreatDoor
open Go.RowKit

theorem st_all {T : Nd} (hrec : ∀ U : Nd, U.size < T.size → StS U) : StS T := by
  have ih : ∀ i, i < T.len → StS (T.kids i) := fun i hi => hrec _ (by have := kid_size T hi; omega)
  intro K w0 own0 s cx w v hS hE hN hfit hok hsne hlo hou
  rcases so_kind hok with h | h | h | h | h | h | h | h | h | h | h | h | h | h | h | h | h
  · exact st_4 h ih K w0 own0 s cx w v hS hE hN hfit hok hsne hlo hou
  · exact st_5 h K w0 own0 s cx w v hS hE hN hfit hok hsne hlo hou
  · exact st_6 h K w0 own0 s cx w v hS hE hN hfit hok hsne hlo hou
  · exact st_7 h K w0 own0 s cx w v hS hE hN hfit hok hsne hlo hou
  · exact st_8 h K w0 own0 s cx w v hS hE hN hfit hok hsne hlo hou
  · exact st_9 h K w0 own0 s cx w v hS hE hN hfit hok hsne hlo hou
  · exact st_10 h ih K w0 own0 s cx w v hS hE hN hfit hok hsne hlo hou
  · rcases so_11 h hok with ⟨hl, hb⟩ | ⟨hl, he, hb⟩
    · exact st_11a h hl hb ih K w0 own0 s cx w v hS hE hN hfit hok hsne hlo hou
    · exact st_11b h hl he hb ih K w0 own0 s cx w v hS hE hN hfit hok hsne hlo hou
  · exact st_12 h K w0 own0 s cx w v hS hE hN hfit hok hsne hlo hou
  · exact st_13 h K w0 own0 s cx w v hS hE hN hfit hok hsne hlo hou
  · exact st_14 h K w0 own0 s cx w v hS hE hN hfit hok hsne hlo hou
  · exact st_15 h hrec K w0 own0 s cx w v hS hE hN hfit hok hsne hlo hou
  · exact st_17 h K w0 own0 s cx w v hS hE hN hfit hok hsne hlo hou
  · exact st_18 h K w0 own0 s cx w v hS hE hN hfit hok hsne hlo hou
  · exact st_19 h K w0 own0 s cx w v hS hE hN hfit hok hsne hlo hou
  · exact st_20 h K w0 own0 s cx w v hS hE hN hfit hok hsne hlo hou
  · exact st_21 h K w0 own0 s cx w v hS hE hN hfit hok hsne hlo hou
theorem st_every : ∀ T : Nd, StS T := by
  have h : ∀ n : Nat, ∀ T : Nd, T.size ≤ n → StS T := by
    intro n
    induction n with
    | zero => intro T hT; have := T.size_eq; omega
    | succ n ih => intro T hT; exact st_all fun U hU => ih U (by omega)
  exact fun T => h _ T (Nat.le_refl _)
end Go.Proofs.YtbjianmjdadehaaGreatDoor
namespace Go.Proofs.YtbjianmjdadehaaGreatDoor
open Go.RowKit

def freshW (K : SK) (w : World) (r : Int) : World := ((w.setCell ⟨K.cb, 7, none⟩ (.slice none 0 0)).setCell ⟨K.cb, 8, none⟩ (.int .i64 1)).setCell ⟨K.cb, 9, none⟩ (.int .i64 r)
theorem freshW_heap (K : SK) (w : World) (r : Int) (k : Nat) (h : k ≠ K.cb) : (freshW K w r).heap[k]? = w.heap[k]? := by
  unfold freshW
  rw [Below.heap_setCell _ ⟨K.cb, 9, none⟩ _ k h, Below.heap_setCell _ ⟨K.cb, 8, none⟩ _ k h, Below.heap_setCell _ ⟨K.cb, 7, none⟩ _ k h]
theorem freshW_size (K : SK) (w : World) (r : Int) : (freshW K w r).heap.size = w.heap.size := by simp [freshW, World.setCell]
theorem freshW_below (K : SK) (w : World) (r : Int) (h : K.lo ≤ K.cb) : Below K.lo w (freshW K w r) :=
  ⟨by simp [freshW, World.setCell], by simp [freshW, World.setCell], by simp [freshW, World.setCell], by rw [freshW_size]; exact Nat.le_refl _, fun k hk => freshW_heap K w r k (by omega)⟩
theorem SS.fresh {K : SK} {w0 : World} {own0 : Option Nat} {E : Sc} {X : List Int} {ret loops outs : Int} {w : World} (h : SS K w0 own0 (.ok (E, X)) ret loops outs w) (r : Int) : SS K (freshW K w r) none (.ok ([[]], X)) r loops outs (freshW K w r) := by
  obtain ⟨vv, code, place, deep, zs, vs, h1, ⟨a1, a2, a3, a4, a5, a6, a7, a8⟩, h3⟩ := h.is
  refine ⟨h.ok, ⟨.slice none 0 0, code, place, 1, zs, [], ?_, ⟨a1, a2, rfl, a4, a5, rfl, Nat.zero_le _, by simp⟩, .inl rfl⟩, Kept.refl _ _⟩
  refine ⟨?_, ?_, h1.len, World.ownsRow_nil _ _ _ _⟩
  · unfold freshW
    rw [heap_setCell_same _ K.cb 9 _ _ _ (heap_setCell_same _ K.cb 8 _ _ _ (heap_setCell_same _ K.cb 7 _ _ _ h1.blk))]
    rfl
  · rw [freshW_heap K w r K.tb (fun e => h.ok.ne e.symm)]; exact h1.typ

theorem sfresh_of {K : SK} {w0 : World} {own0 : Option Nat} {E : Sc} {X : List Int} {ret loops outs : Int} {w w1 : World} {T : Nd} {v u : Value} {p : Nat} {t : TypeId} (h : SS K w0 own0 (.ok (E, X)) ret loops outs w) (r : Int)
    (hb : Below (w.alloc (.cells #[.int .i64 T.kind, .int .i64 T.num, .string T.name, v] t)).heap.size (w.alloc (.cells #[.int .i64 T.kind, .int .i64 T.num, .string T.name, v] t)) w1)
    (ha : Ats w1 (w.alloc (.cells #[.int .i64 T.kind, .int .i64 T.num, .string T.name, v] t)).heap.size u T.len (fun i => (kidAt T p i : Nat))) :
    SS K (freshW K w1 r) none (.ok ([[]], X)) r loops outs (freshW K w1 r) ∧ SGo K w (freshW K w1 r) none w.heap.size T v u p := by
  have h1 := (h.alloc (.cells #[.int .i64 T.kind, .int .i64 T.num, .string T.name, v] t)).calm hb
  have hlt := h.lt
  have hcl := h.ok.cl
  have hsz : (w.alloc (.cells #[.int .i64 T.kind, .int .i64 T.num, .string T.name, v] t)).heap.size = w.heap.size + 1 := by simp
  have hs1 := hb.size
  rw [hsz] at hs1
  have hbw : Below K.lo w w1 := (h.box _).trans (hb.mono (by rw [hsz]; omega))
  have hbf : Below K.lo w (freshW K w1 r) := hbw.trans (freshW_below K w1 r hcl)
  have hkeep : ∀ W σ r' l o, SS K (freshW K w1 r) none σ r' l o W → ∀ k, w.heap.size ≤ k → k < w1.heap.size → W.heap[k]? = w1.heap[k]? := by
    intro W σ r' l o hW k hk1 hk2
    rw [hW.keep (k := k) (by rw [freshW_size]; exact hk2) (by omega) (by omega) (fun e => by cases e)]
    exact freshW_heap K w1 r k (by omega)
  refine ⟨h1.fresh r, hbf, ?_, ?_, ?_⟩
  · intro W σ r l o hW
    have e1 := hkeep W σ r l o hW w.heap.size (Nat.le_refl _) (by omega)
    have e2 : w1.heap[w.heap.size]? = some (.cells #[.int .i64 T.kind, .int .i64 T.num, .string T.name, v] t) := (hb.block _ (by rw [hsz]; omega)).trans (heap_alloc_new w _)
    rw [e2] at e1
    refine ⟨?_, ?_, ?_, ?_⟩ <;> simp [World.cell?, e1]
  · intro h0
    obtain ⟨a, cap, e1, e2, e3, e4⟩ := ha
    rcases e4 with e | ⟨g, off, rfl, q1, q2, q3⟩
    · exact absurd e h0
    refine ⟨g, off, cap, e1, ⟨e2, e3⟩, fun W σ r l o hW i hi => ?_⟩
    rw [hsz] at q1
    rw [World.cell?_of_block (a := ⟨g, off + i, none⟩) (hkeep W σ r l o hW g (by omega) q2)]
    exact q3 i hi
  · intro W σ r l o hW
    exact hbf.trans (hW.below (by rw [freshW_size]; omega) (fun k hk => by cases hk))
end Go.Proofs.YtbjianmjdadehaaGreatDoor
namespace Go.Proofs.YtbjianmjdadehaaGreatDoor
open Go.RowKit

theorem sat_of {K : SK} {w0 : World} {own0 : Option Nat} {σ : CR CS} {ret loops outs : Int} {w w1 : World} {T : Nd} {u : Value} {p : Nat} (h : SS K w0 own0 σ ret loops outs w) (hb : Below w.heap.size w w1) (ha : Ats w1 w.heap.size u T.len (fun i => (kidAt T p i : Nat))) :
    ∃ own1, SS K w1 own1 σ ret loops outs w1 ∧ (∀ σ' r l o W, SS K w1 own1 σ' r l o W → SS K w0 own0 σ' r l o W) ∧
      (T.len ≠ 0 → ∃ g off cap, u = .slice (some ⟨g, off, none⟩) T.len cap ∧ (T.len ≤ cap ∧ cap ≤ 9223372036854775807) ∧ ∀ W σ r l o, SS K w1 own1 σ r l o W → ∀ i, i < T.len → W.cell? ⟨g, off + i, none⟩ = some (.int .i64 (kidAt T p i : Nat))) ∧
      ∀ W σ r l o, SS K w1 own1 σ r l o W → Below K.lo w W := by
  have h1 := h.calm hb
  obtain ⟨vv, code, place, deep, zs, vs, hraw, _⟩ := h.is
  obtain ⟨own1, g1, g2, g3, g4⟩ := h1.restart
  have hlt := h.lt
  have hcl := h.ok.cl
  have hs1 := hb.size
  have hbw : Below K.lo w w1 := hb.mono (by omega)
  have hown : ∀ k, own1 = some k → k < w.heap.size := by
    intro k hk
    obtain ⟨vv', c', p', d', z', s', q1, q2, q3⟩ := g1.is
    rcases q3 with q3 | ⟨j, q3, q4⟩
    · have e1 := q1.blk
      rw [hb.block K.cb hlt.1, hraw.blk] at e1
      have e3 : vv' = vv := by
        injection e1 with e1
        injection e1 with e1
        have := congrArg (fun a : Array Value => a[7]?) e1
        simpa [SK.cells] using this.symm
      rw [e3, hk] at q3
      exact (hraw.var.lt k q3).2
    · have := (q1.var.lt j q3).2; omega
  have hkeep : ∀ W σ r l o, SS K w1 own1 σ r l o W → ∀ k, w.heap.size ≤ k → k < w1.heap.size → W.heap[k]? = w1.heap[k]? := by
    intro W σ r l o hW k hk1 hk2
    exact hW.keep hk2 (by omega) (by omega) (fun e => by have := hown k e.symm; omega)
  refine ⟨own1, g1, g4, ?_, ?_⟩
  · intro h0
    obtain ⟨a, cap, e1, e2, e3, e4⟩ := ha
    rcases e4 with e | ⟨g, off, rfl, q1, q2, q3⟩
    · exact absurd e h0
    refine ⟨g, off, cap, e1, ⟨e2, e3⟩, fun W σ r l o hW i hi => ?_⟩
    rw [World.cell?_of_block (a := ⟨g, off + i, none⟩) (hkeep W σ r l o hW g q1 q2)]
    exact q3 i hi
  · intro W σ r l o hW
    refine hbw.trans (hW.below (by omega) (fun k hk => ?_))
    have := (g2 k hk).1
    have := h.ok.cu
    omega
theorem slist_sat {K : SK} {w w1 : World} {own1 : Option Nat} {T : Nd} {v u : Value} {p : Nat} {lo : Nat} (hE : SEnv K w) (hN : SNd K w T v) (ha : Ats w1 lo u T.len (fun i => (kidAt T p i : Nat)))
    (hat : T.len ≠ 0 → ∃ g off cap, u = .slice (some ⟨g, off, none⟩) T.len cap ∧ (T.len ≤ cap ∧ cap ≤ 9223372036854775807) ∧ ∀ W σ r l o, SS K w1 own1 σ r l o W → ∀ i, i < T.len → W.cell? ⟨g, off + i, none⟩ = some (.int .i64 (kidAt T p i : Nat)))
    (hbl : ∀ W σ r l o, SS K w1 own1 σ r l o W → Below K.lo w W) : ∃ us, SList K w1 own1 T p 0 T.len v u us := by
  obtain ⟨a, cap, hv, hc, _⟩ := row_eq.1 hN.row
  subst hv
  by_cases h0 : T.len = 0
  · obtain ⟨a', ca, hu, hc1, hc2, _⟩ := ha
    refine ⟨fun _ => .tuple #[], ⟨⟨a, cap, rfl, hc.1, hc.2, a', ca, hu, hc1, hc2, .inl h0⟩, fun W σ r l o hW => hE.later (hbl W σ r l o hW), fun W σ r l o hW i hi => by omega⟩⟩
  · obtain ⟨g, off, cap', hv, hgl, hcap, hkid⟩ := ck_kid hN.row h0
    injection hv with e1 e2 e3
    subst e1
    subst e3
    obtain ⟨ga, oa, ca, rfl, hca, hav⟩ := hat h0
    refine ⟨fun i => if h : i < T.len then (hkid i h).choose else .tuple #[], ⟨⟨_, cap, rfl, hcap.1, hcap.2, _, ca, rfl, hca.1, hca.2, .inr ⟨g, off, ga, oa, rfl, rfl, fun W σ r l o hW i hi => ?_⟩⟩, fun W σ r l o hW => hE.later (hbl W σ r l o hW), fun W σ r l o hW i hi => ?_⟩⟩
    · have hx := (hkid i hi).choose_spec.1 W (hbl W σ r l o hW)
      simp only [Nat.zero_add, hi, dif_pos]
      exact ⟨hav W σ r l o hW i hi, hx⟩
    · have hx := (hkid i hi).choose_spec.2
      simp only [Nat.zero_add, hi, dif_pos]
      exact (hN.kid hi hx).later (hbl W σ r l o hW)

theorem forN_err {σ : Type} {f : Nat → σ → CR σ} {s : σ} {j : Nat} {e : Int × Nat} (h : forN f j s = .error e) : ∀ {n : Nat}, j ≤ n → forN f n s = .error e := by
  intro n hn
  induction hn with
  | refl => exact h
  | step _ ih => simp only [forN, ih]; rfl
end Go.Proofs.YtbjianmjdadehaaGreatDoor
