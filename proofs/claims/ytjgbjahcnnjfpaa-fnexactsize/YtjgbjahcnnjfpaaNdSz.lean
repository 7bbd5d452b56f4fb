/- The laws' budget over a tree. -/
import Derived.Test.YtjgbjahcnnjfpaaNd
import Derived.Test.YtjgbjahcnnjfpaaNdLeft
import Derived.WalkSpells
import Derived.WalkSmall
set_option linter.unusedVariables false
namespace Go.Proofs.Ytjgbjahcnnjfpaa
open Go.RowKit

def SzC (T : Nd) : Prop := ∀ (w : World) (left hi : Nat) (v : Value), T.Fine → hi ≤ w.heap.size → Row 0 hi w T v → left ≤ 1048576 →
  Calls Try.prog 4 #[T.val v, .int .i64 left] w fun e w' => e = .returned (.int .i64 (left' T.cost left)) ∧ Below w.heap.size w w'
def SzS (T : Nd) : Prop := ∀ (w : World) (left hi : Nat) (v : Value), T.Fine → hi ≤ w.heap.size → Row 0 hi w T v → left ≤ 1048576 →
  Calls Try.prog 9 #[v, .int .i64 left] w fun e w' => e = .returned (.int .i64 (left' (T.len + sumTo (fun i => (T.kids i).cost) T.len) left)) ∧ Below w.heap.size w w'

set_option maxHeartbeats 1000000 in
theorem sz_of (T : Nd) (h : SzS T) : SzC T := by
  intro w left hi v hf hhi hr hl
  have hs := T.fine_name hf
  have HC : Hid (T.cost = T.name.size + (T.len + sumTo (fun i => (T.kids i).cost) T.len)) := T.cost_eq
  have HS := (show Hid (SzS T) from h)
  have HR := (show Hid (Row 0 hi w T v) from hr)
  have HF := (show Hid T.Fine from hf)
  clear hr h hf
  unfold Nd.val
  generalize T.kind = tk
  generalize T.num = tn
  go_enter Try.func4, Try.ntmps4
  by_cases hc : T.name.size ≤ left
  · have hlc : ((left - T.name.size : Nat) : Int) = (left : Int) - T.name.size := by omega
    have HX : Hid (left' T.cost left = left' (T.len + sumTo (fun i => (T.kids i).cost) T.len) (left - T.name.size)) := by
      unfold Hid left'; rw [HC.out]; split <;> split <;> omega
    generalize hg : T.len + sumTo (fun i => (T.kids i).cost) T.len = c at *
    go_wp2_with (go_at_call 9; rw [← hlc]; refine (HS.out _ (left - T.name.size) hi _ HF.out (by simp; omega) (row_below ((Below.refl _ _).alloc (Nat.le_refl _) _) hhi HR.out) (by omega)).mono ?_; rintro e w1 ⟨rfl, hb1⟩; rw [hg])
    · go_ret
      have hm : ∀ c l, left' c l < 0 → left' c l = -1 := fun c l h => by unfold left' at h ⊢; split at h <;> omega
      exact ⟨ret_in (by rw [HX.out, hm _ _ (by assumption)]), ((Below.refl _ _).alloc (Nat.le_refl _) _).trans (hb1.mono (by simp))⟩
    · go_ret
      exact ⟨ret_in HX.out.symm, ((Below.refl _ _).alloc (Nat.le_refl _) _).trans (hb1.mono (by simp))⟩
  · have HX : Hid (left' T.cost left = -1) := by
      unfold Hid left'; rw [HC.out, if_neg (by omega)]
    go_wp2
    go_ret
    exact ⟨ret_in HX.out.symm, (Below.refl _ _).alloc (Nat.le_refl _) _⟩

set_option maxHeartbeats 2000000 in
theorem szS_of (T : Nd) (ih : ∀ i, i < T.len → SzC (T.kids i)) : SzS T := by
  intro w left hi v hf hhi hr hl
  have hn := T.fine_len hf
  obtain ⟨a, cap, rfl, hcap, hq⟩ := row_eq.1 hr
  clear hcap
  have hq := hid_mk hq
  have HI := (show Hid (∀ i, i < T.len → SzC (T.kids i)) from ih)
  have HF := (show Hid T.Fine from hf)
  have HR := hq
  clear hr hf ih hq
  have hst : ∀ j, j < T.len → sumTo (fun i => (T.kids i).cost) j + (T.kids j).cost ≤ sumTo (fun i => (T.kids i).cost) T.len := fun j hj => sumTo_at _ hj
  have hss : ∀ j, sumTo (fun i => (T.kids i).cost) (j + 1) = sumTo (fun i => (T.kids i).cost) j + (T.kids j).cost := fun j => rfl
  have h00 : sumTo (fun i => (T.kids i).cost) 0 = 0 := rfl
  generalize sumTo (fun i => (T.kids i).cost) = S at *
  have HST := (show Hid (∀ j, j < T.len → S j + (T.kids j).cost ≤ S T.len) from hst)
  have HSS := (show Hid (∀ j, S (j + 1) = S j + (T.kids j).cost) from hss)
  clear hst hss
  go_enter Try.func9, Try.ntmps9
  by_cases hc : T.len ≤ left
  · go_wp2
    go_loopw [1, 5] (fun l i wr => ∃ (j k : Nat), j ≤ T.len ∧ i = .int .i64 j ∧ l = .int .i64 k ∧ k + (T.len + S j) = left ∧ Below w.heap.size w wr) (fun _ i _ => T.len - (intOf i).toNat)
    case atStart => exact ⟨0, left - T.len, by omega, rfl, by congr 1; omega, by omega, Below.refl _ _⟩
    case round =>
      obtain ⟨j, k, hj, rfl, rfl, hk, hb⟩ := hrel
      by_cases hlt : j < T.len
      · rcases HR.out with h0 | ⟨g, off, rfl, h1, h2, h3⟩
        · omega
        obtain ⟨u, e0, e1, e2, e3, hu⟩ := h3 j hlt
        have hgl : g < w.heap.size := by omega
        rw [← hb.cell (p := ⟨g, _, none⟩) hgl] at e0 e1 e2 e3
        have HU := (show Hid (Row 0 hi wr (T.kids j) u) from row_below hb hhi hu)
        have hbz := hb.size
        have h1' := HST.out j hlt
        have h2' := HSS.out j
        have HC := HI.out j hlt
        have HFJ := (show Hid (T.kids j).Fine from Nd.fine_kid HF.out hlt)
        unfold SzC Nd.val at HC
        have HCC := (show Hid _ from HC)
        clear h3 HC hu
        generalize T.kids j = K at *
        go_wp2_with (go_at_call 4; refine (HCC.out _ k hi _ HFJ.out (by omega) HU.out (by omega)).mono ?_; rintro e w1 ⟨rfl, hb1⟩)
        · go_ret
          have hx := left_neg (by assumption)
          exact ⟨ret_in (by unfold left'; rw [if_neg (by omega)]), hb.trans (hb1.mono (by omega))⟩
        · obtain ⟨hx, hy⟩ := left_pos (by assumption)
          exact ⟨⟨j + 1, k - K.cost, by omega, by go_num, by rw [hy], by omega, hb.trans (hb1.mono (by omega))⟩, by simp [intOf]; omega⟩
      · go_wp2
        go_ret
        obtain rfl : j = T.len := by omega
        exact ⟨ret_in (by unfold left'; rw [if_pos (by omega)]; omega), hb⟩
  · have HX : Hid (left' (T.len + S T.len) left = -1) := by
      unfold Hid left'; rw [if_neg (by omega)]
    go_wp2
    go_ret
    exact ⟨ret_in HX.out.symm, Below.refl _ _⟩

theorem sz_node (T : Nd) : SzC T := by
  induction T with
  | nil => exact sz_of _ (szS_of _ fun i hi => absurd hi (Nat.not_lt_zero i))
  | mk k n s len kids ih => exact sz_of _ (szS_of _ fun i _ => ih i)
end Go.Proofs.Ytjgbjahcnnjfpaa
