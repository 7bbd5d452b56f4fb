/- The laws' comparison of two copies of one tree. -/
import Derived.Test.YtjgbjahcnnjfpaaNd
import Derived.RegionTactic
import Derived.BigRegion
import Derived.Deep.RegionWith
import Derived.WalkSpells
import Derived.WalkSmall
set_option linter.unusedVariables false
namespace Go.Proofs.Ytjgbjahcnnjfpaa
open Go.RowKit

def EqC (T : Nd) : Prop := ∀ (w : World) (u v : Value), T.Fine → Row 0 w.heap.size w T u → Row 0 w.heap.size w T v →
  Calls Try.prog 8 #[T.val u, T.val v] w fun e w' => e = .returned (.bool true) ∧ Below w.heap.size w w'
def EqS (T : Nd) : Prop := ∀ (w : World) (u v : Value) (hi : Nat), T.Fine → hi ≤ w.heap.size → Row 0 hi w T u → Row 0 hi w T v →
  Calls Try.prog 13 #[u, v] w fun e w' => e = .returned (.bool true) ∧ Below w.heap.size w w'

set_option maxHeartbeats 1000000 in
theorem eqN_of (T : Nd) (h : EqS T) : EqC T := by
  intro w u v hf hr hr'
  have HS := (show Hid (EqS T) from h)
  have HR := hid_mk hr
  have HR' := hid_mk hr'
  have HF := hid_mk hf
  clear hr hr' h hf
  unfold Nd.val
  generalize T.kind = tk
  generalize T.num = tn
  generalize T.name = ts
  go_enter Try.func8, Try.ntmps8
  have HB : ∀ a b : Obj, Hid (Below w.heap.size w ((w.alloc a).alloc b)) := fun a b => ((Below.refl _ _).alloc (Nat.le_refl _) _).alloc (by simp) _
  go_wp2_with (go_at_call 13; refine (HS.out _ _ _ w.heap.size HF.out (by simp; omega) (row_below (HB _ _).out (Nat.le_refl _) HR.out) (row_below (HB _ _).out (Nat.le_refl _) HR'.out)).mono ?_; rintro e w1 ⟨rfl, hb1⟩)
  go_ret
  exact ⟨rfl, (HB _ _).out.trans (hb1.mono (by simp; omega))⟩

set_option maxHeartbeats 2000000 in
theorem eqS_of (T : Nd) (ih : ∀ i, i < T.len → EqC (T.kids i)) : EqS T := by
  intro w u v hi hf hhi hr hr'
  have hn := T.fine_len hf
  obtain ⟨a, ca, rfl, hcap, hq⟩ := row_eq.1 hr
  clear hcap
  obtain ⟨b, cb, rfl, hcap, hq'⟩ := row_eq.1 hr'
  clear hcap
  have HI := hid_mk ih
  have HF := hid_mk hf
  have HR := hid_mk hq
  have HR' := hid_mk hq'
  clear hr hr' hf ih hq hq'
  go_enter Try.func13, Try.ntmps13
  go_wp2
  go_loopw [5] (fun i wr => ∃ j : Nat, j ≤ T.len ∧ i = .int .i64 j ∧ Below w.heap.size w wr) (fun i _ => T.len - (intOf i).toNat)
  case atStart => exact ⟨0, by omega, rfl, Below.refl _ _⟩
  case round =>
    obtain ⟨j, hj, rfl, hb⟩ := hrel
    by_cases hlt : j < T.len
    · rcases HR.out with h0 | ⟨g, off, rfl, h1, h2, h3⟩
      · omega
      rcases HR'.out with h0 | ⟨g', off', rfl, h1', h2', h3'⟩
      · omega
      obtain ⟨x, e0, e1, e2, e3, hx⟩ := h3 j hlt
      obtain ⟨y, f0, f1, f2, f3, hy⟩ := h3' j hlt
      have hgl : g < w.heap.size := by omega
      have hgl' : g' < w.heap.size := by omega
      rw [← hb.cell (p := ⟨g, _, none⟩) hgl] at e0 e1 e2 e3
      rw [← hb.cell (p := ⟨g', _, none⟩) hgl'] at f0 f1 f2 f3
      have hbz := hb.size
      have HX := hid_mk (row_wide (row_below hb hhi hx) (Nat.le_refl 0) (show hi ≤ wr.heap.size by omega))
      have HY := hid_mk (row_wide (row_below hb hhi hy) (Nat.le_refl 0) (show hi ≤ wr.heap.size by omega))
      have HC := HI.out j hlt
      have HFJ := hid_mk (Nd.fine_kid HF.out hlt)
      unfold EqC Nd.val at HC
      have HCC := hid_mk HC
      clear h3 h3' HC hx hy
      generalize T.kids j = K at *
      generalize K.kind = kk at *
      generalize K.num = kn at *
      generalize K.name = ks at *
      go_wp2_with fail
      go_region_with (go_at_call 8; (refine (HCC.out _ _ _ HFJ.out ?_ ?_).mono ?_; exact row_drew HX.out; exact row_drew HY.out; rintro e w1 ⟨rfl, hb1⟩))
      all_goals go_wp2
      all_goals exact ⟨⟨j + 1, by omega, by go_num, hb.drew.trans (hb1.mono hb.size)⟩, by simp [intOf]; omega⟩
    · go_wp2
      go_ret
      exact ⟨rfl, hb⟩

theorem eq_node (T : Nd) : EqC T := by
  induction T with
  | nil => exact eqN_of _ (eqS_of _ fun i hi => absurd hi (Nat.not_lt_zero i))
  | mk k n s len kids ih => exact eqN_of _ (eqS_of _ fun i _ => ih i)
end Go.Proofs.Ytjgbjahcnnjfpaa
