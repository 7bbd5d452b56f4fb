/- The specification's count down over a tree. -/
import Derived.Test.YtokhcdkhcbcljadDoorNdSz
import Derived.WalkSpells
import Derived.WalkSmall
set_option linter.unusedVariables false
namespace Go.Proofs.YtokhcdkhcbcljadDoor
open Go.RowKit

def LeftC (T : Nd) : Prop := ∀ (w : World) (left : Nat) (v : Value) (hi : Nat), T.Fine → hi ≤ w.heap.size → Row 0 hi w T v → left ≤ 1048576 →
  Calls Tryd.prog 30 #[T.val v, .int .i64 left] w fun e w' => e = .returned (.int .i64 (left' T.size left)) ∧ Below w.heap.size w w'

/-- What is left when j kids have been counted. -/
def leftAt (S : Nat → Nat) (left j : Nat) : Int := if S j + 1 ≤ left then ((left - (S j + 1) : Nat) : Int) else -1

set_option maxHeartbeats 2000000 in
theorem left_of (T : Nd) (ih : ∀ i, i < T.len → LeftC (T.kids i)) : LeftC T := by
  intro w left v hi hf hhi hr hl
  have hn := T.fine_len hf
  have hze := T.size_eq
  obtain ⟨a, cap, rfl, hcap, hq⟩ := row_eq.1 hr
  clear hcap
  have HI := hid_mk ih
  have HF := hid_mk hf
  have HR := hid_mk hq
  clear hr hf ih hq
  have hst : ∀ j, j < T.len → sumTo (fun i => (T.kids i).size) j + (T.kids j).size ≤ sumTo (fun i => (T.kids i).size) T.len := fun j hj => sumTo_at _ hj
  have hss : ∀ j, sumTo (fun i => (T.kids i).size) (j + 1) = sumTo (fun i => (T.kids i).size) j + (T.kids j).size := fun j => rfl
  have h00 : sumTo (fun i => (T.kids i).size) 0 = 0 := rfl
  generalize sumTo (fun i => (T.kids i).size) = S at *
  have HST := hid_mk hst
  have HSS := hid_mk hss
  have HZE := hid_mk hze
  clear hst hss hze
  unfold Nd.val
  generalize T.kind = tk
  generalize T.num = tn
  generalize T.name = ts
  have HB : ∀ a : Obj, Hid (Below w.heap.size w (w.alloc a)) := fun a => (Below.refl _ _).alloc (Nat.le_refl _) _
  go_enter Tryd.func30, Tryd.ntmps30
  go_wp2
  go_loopw [1, 5] (fun k i wr => ∃ (j : Nat), j ≤ T.len ∧ i = .int .i64 j ∧ k = .int .i64 (leftAt S left j) ∧ Below (w.heap.size + 1) (w.alloc (.cells #[.int .i64 tk, .int .i64 tn, .string ts, .slice a T.len cap] 36)) wr) (fun _ i _ => T.len - (intOf i).toNat)
  case atStart => exact ⟨0, by omega, rfl, by unfold leftAt; rw [h00]; congr 1; split <;> omega, Below.refl _ _⟩
  case round =>
    obtain ⟨j, hj, rfl, rfl, hb⟩ := hrel
    have k3 : wr.cell? ⟨w.heap.size, 3, none⟩ = some (.slice a T.len cap) := by
      rw [hb.cell (p := ⟨w.heap.size, 3, none⟩) (by show w.heap.size < _; omega)]; simp
    have hbw := (HB (.cells #[.int .i64 tk, .int .i64 tn, .string ts, .slice a T.len cap] 36)).out.trans (hb.mono (by omega))
    have hbz := hbw.size
    have hbx : w.heap.size + 1 ≤ wr.heap.size := by have := hb.size; simpa using this
    by_cases hlt : j < T.len
    · have h1' := HST.out j hlt
      have h2' := HSS.out j
      by_cases hgo : S j + 1 ≤ left
      · rcases HR.out with h0 | ⟨g, off, rfl, h1, h2, h3⟩
        · omega
        obtain ⟨u, e0, e1, e2, e3, hu⟩ := h3 j hlt
        have hgl : g < w.heap.size := by omega
        rw [← hbw.cell (p := ⟨g, _, none⟩) hgl] at e0 e1 e2 e3
        have HU := hid_mk (row_below hbw hhi hu)
        have HC := HI.out j hlt
        have HFJ := hid_mk (Nd.fine_kid HF.out hlt)
        have hla : leftAt S left j = ((left - (S j + 1) : Nat) : Int) := by unfold leftAt; rw [if_pos hgo]
        have HLN : Hid (left' (T.kids j).size (left - (S j + 1)) = leftAt S left (j + 1)) := by
          unfold Hid left' leftAt; rw [h2']; split <;> split <;> omega
        unfold LeftC Nd.val at HC
        have HCC := hid_mk HC
        clear h3 HC hu h2'
        generalize T.kids j = K at *
        rw [hla]
        go_wp2_with (go_at_call 30; refine (HCC.out _ (left - (S j + 1)) _ hi HFJ.out (by omega) HU.out (by omega)).mono ?_; rw [HLN.out]; rintro e w1 ⟨rfl, hb1⟩)
        exact ⟨⟨j + 1, by omega, by go_num, rfl, hb.trans (hb1.mono hbx)⟩, by simp [intOf]; omega⟩
      · have hla : leftAt S left j = -1 := by unfold leftAt; rw [if_neg hgo]
        rw [hla]
        go_wp2
        go_ret
        exact ⟨ret_in (by unfold left'; rw [HZE.out, if_neg (by omega)]), hbw⟩
    · obtain rfl : j = T.len := by omega
      go_wp2
      go_ret
      exact ⟨ret_in (by unfold left' leftAt; rw [HZE.out]; split <;> split <;> omega), hbw⟩

theorem left_any (T : Nd) : LeftC T := by
  induction T with
  | nil => exact left_of _ fun i hi => absurd hi (Nat.not_lt_zero i)
  | mk k n s len kids ih => exact left_of _ fun i _ => ih i
end Go.Proofs.YtokhcdkhcbcljadDoor
