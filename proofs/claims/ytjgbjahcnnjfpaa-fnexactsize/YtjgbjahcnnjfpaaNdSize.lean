/- The specification's count of a tree's nodes. -/
import Derived.Test.YtjgbjahcnnjfpaaNd
import Derived.WalkSpells
import Derived.WalkSmall
set_option linter.unusedVariables false
namespace Go.Proofs.Ytjgbjahcnnjfpaa
open Go.RowKit

def SizeC (T : Nd) : Prop := ∀ (w : World) (v : Value) (hi : Nat), T.Fine → hi ≤ w.heap.size → Row 0 hi w T v → T.cost ≤ 1048576 →
  Calls Try.prog 10 #[T.val v] w fun e w' => e = .returned (.int .i64 (T.size : Int)) ∧ Below w.heap.size w w'

set_option maxHeartbeats 2000000 in
theorem l02size_of (T : Nd) (ih : ∀ i, i < T.len → SizeC (T.kids i)) : SizeC T := by
  intro w v hi hf hhi hr hcost
  have hn := T.fine_len hf
  have hz := T.size_cost
  have hze := T.size_eq
  have hck : ∀ j, j < T.len → (T.kids j).cost ≤ 1048576 := fun j hj => Nat.le_trans (T.cost_kid hj) hcost
  obtain ⟨a, cap, rfl, hcap, hq⟩ := row_eq.1 hr
  clear hcap
  have HI := hid_mk ih
  have HF := hid_mk hf
  have HR := hid_mk hq
  have HK := hid_mk hck
  clear hr hf ih hq hck
  have hst : ∀ j, j < T.len → sumTo (fun i => (T.kids i).size) j + (T.kids j).size ≤ sumTo (fun i => (T.kids i).size) T.len := fun j hj => sumTo_at _ hj
  have hss : ∀ j, sumTo (fun i => (T.kids i).size) (j + 1) = sumTo (fun i => (T.kids i).size) j + (T.kids j).size := fun j => rfl
  have h00 : sumTo (fun i => (T.kids i).size) 0 = 0 := rfl
  generalize sumTo (fun i => (T.kids i).size) = S at *
  have HST := hid_mk hst
  have HSS := hid_mk hss
  clear hst hss
  unfold Nd.val
  generalize T.kind = tk
  generalize T.num = tn
  generalize T.name = ts
  have HB : ∀ a : Obj, Hid (Below w.heap.size w (w.alloc a)) := fun a => (Below.refl _ _).alloc (Nat.le_refl _) _
  go_enter Try.func10, Try.ntmps10
  go_wp2
  go_loopw [3, 4] (fun k i wr => ∃ (j : Nat), j ≤ T.len ∧ i = .int .i64 j ∧ k = .int .i64 ((1 + S j : Nat) : Int) ∧ Below (w.heap.size + 1) (w.alloc (.cells #[.int .i64 tk, .int .i64 tn, .string ts, .slice a T.len cap] 29)) wr) (fun _ i _ => T.len - (intOf i).toNat)
  case atStart => exact ⟨0, by omega, rfl, by simp [h00], Below.refl _ _⟩
  case round =>
    obtain ⟨j, hj, rfl, rfl, hb⟩ := hrel
    have k3 : wr.cell? ⟨w.heap.size, 3, none⟩ = some (.slice a T.len cap) := by
      rw [hb.cell (p := ⟨w.heap.size, 3, none⟩) (by show w.heap.size < _; omega)]; simp
    have hbw := (HB (.cells #[.int .i64 tk, .int .i64 tn, .string ts, .slice a T.len cap] 29)).out.trans (hb.mono (by omega))
    have hbz := hbw.size
    by_cases hlt : j < T.len
    · rcases HR.out with h0 | ⟨g, off, rfl, h1, h2, h3⟩
      · omega
      obtain ⟨u, e0, e1, e2, e3, hu⟩ := h3 j hlt
      have hgl : g < w.heap.size := by omega
      rw [← hbw.cell (p := ⟨g, _, none⟩) hgl] at e0 e1 e2 e3
      have HU := hid_mk (row_below hbw hhi hu)
      have h1' := HST.out j hlt
      have h2' := HSS.out j
      have hkc := HK.out j hlt
      have HC := HI.out j hlt
      have HFJ := hid_mk (Nd.fine_kid HF.out hlt)
      unfold SizeC Nd.val at HC
      have HCC := hid_mk HC
      clear h3 HC hu
      generalize T.kids j = K at *
      go_wp2_with (go_at_call 10; refine (HCC.out _ _ hi HFJ.out (by omega) HU.out (by omega)).mono ?_; rintro e w1 ⟨rfl, hb1⟩)
      have hbx : w.heap.size + 1 ≤ wr.heap.size := by have := hb.size; simpa using this
      exact ⟨⟨j + 1, by omega, by go_num, by rw [h2']; congr 1; omega, hb.trans (hb1.mono hbx)⟩, by simp [intOf]; omega⟩
    · go_wp2
      go_ret
      obtain rfl : j = T.len := by omega
      exact ⟨ret_in (by omega), hbw⟩

theorem l02size (T : Nd) : SizeC T := by
  induction T with
  | nil => exact l02size_of _ fun i hi => absurd hi (Nat.not_lt_zero i)
  | mk k n s len kids ih => exact l02size_of _ fun i _ => ih i

theorem spec_size (T : Nd) (w : World) (v : Value) (hi : Nat) (hf : T.Fine) (hhi : hi ≤ w.heap.size) (hr : Row 0 hi w T v) (hc : T.cost ≤ 1048576) :
    Calls Try.prog 5 #[T.val v] w fun e w' => e = .returned (.int .i64 (T.size : Int)) ∧ Below w.heap.size w w' := by
  have HB : ∀ a : Obj, Hid (Below w.heap.size w (w.alloc a)) := fun a => (Below.refl _ _).alloc (Nat.le_refl _) _
  have HC := hid_mk (fun o => l02size T (w.alloc o) v hi hf (by simp; omega) (row_below (HB o).out hhi hr) hc)
  clear hf hr
  unfold Nd.val at *
  go_enter Try.func5, Try.ntmps5
  go_wp2_with (go_at_call 10; refine (HC.out _).mono ?_; rintro e w1 ⟨rfl, hb1⟩)
  go_ret
  exact ⟨rfl, (HB _).out.trans (hb1.mono (by simp))⟩
end Go.Proofs.Ytjgbjahcnnjfpaa
