/- How a sign binds, in the specification. -/
import Derived.Test.YtokhcdkhcbcljadDoorNdOk
import Derived.WalkSpells
import Derived.WalkSmall
set_option linter.unusedVariables false
namespace Go.Proofs.YtokhcdkhcbcljadDoor
open Go.RowKit

theorem lvl_hit {s : ByteArray} {k : Nat} (h1 : 1 ≤ k) (h5 : k ≤ 5) (hb : ∀ j, 1 ≤ j → j < k → hasB (lvWords j) s = false) (h : hasB (lvWords k) s = true) : lvl s = k := by
  have : k = 1 ∨ k = 2 ∨ k = 3 ∨ k = 4 ∨ k = 5 := by omega
  unfold lvl
  rcases this with rfl | rfl | rfl | rfl | rfl
  · simp [h]
  · simp [h, hb 1 (by omega) (by omega)]
  · simp [h, hb 1 (by omega) (by omega), hb 2 (by omega) (by omega)]
  · simp [h, hb 1 (by omega) (by omega), hb 2 (by omega) (by omega), hb 3 (by omega) (by omega)]
  · simp [h, hb 1 (by omega) (by omega), hb 2 (by omega) (by omega), hb 3 (by omega) (by omega), hb 4 (by omega) (by omega)]
theorem lvl_none {s : ByteArray} (hb : ∀ j, 1 ≤ j → j < 6 → hasB (lvWords j) s = false) : lvl s = 0 := by
  unfold lvl
  simp [hb 1 (by omega) (by omega), hb 2 (by omega) (by omega), hb 3 (by omega) (by omega), hb 4 (by omega) (by omega), hb 5 (by omega) (by omega)]

set_option maxHeartbeats 4000000 in
theorem lvl_any (s : ByteArray) (w : World) : Calls Tryd.prog 73 #[.string s] w fun e w' => e = .returned (.int .i64 (lvl s : Int)) ∧ Below w.heap.size w w' := by
  go_enter Tryd.func73, Tryd.ntmps73
  go_wp2
  generalize hV : (((((((w.alloc (Obj.cells #[] 9)).alloc (Obj.cells #[Value.string { data := #[124, 124] }] 9)).alloc (Obj.cells #[Value.string { data := #[38, 38] }] 9)).alloc (Obj.cells #[Value.string { data := #[61, 61] }, Value.string { data := #[33, 61] }, Value.string { data := #[60] }, Value.string { data := #[60, 61] }, Value.string { data := #[62] }, Value.string { data := #[62, 61] }] 9)).alloc (Obj.cells #[Value.string { data := #[43] }, Value.string { data := #[45] }] 9)).alloc (Obj.cells #[Value.string { data := #[42] }, Value.string { data := #[47] }, Value.string { data := #[37] }] 9)).alloc
      (Obj.cells #[Value.slice (some { block := w.heap.size, off := 0 }) 0 0, Value.slice (some { block := w.heap.size + 1, off := 0 }) 1 1, Value.slice (some { block := w.heap.size + 1 + 1, off := 0 }) 1 1, Value.slice (some { block := w.heap.size + 1 + 1 + 1, off := 0 }) 6 6, Value.slice (some { block := w.heap.size + 1 + 1 + 1 + 1, off := 0 }) 2 2, Value.slice (some { block := w.heap.size + 1 + 1 + 1 + 1 + 1, off := 0 }) 3 3] 47)) = V
  have HBV : Hid (Below w.heap.size w V) := by
    unfold Hid
    rw [← hV]
    exact (((((((Below.refl _ w).alloc (Nat.le_refl _) _).alloc (by simp) _).alloc (by simp; omega) _).alloc (by simp; omega) _).alloc (by simp; omega) _).alloc (by simp; omega) _).alloc (by simp; omega) _
  have c1 : V.cell? ⟨w.heap.size + 1 + 1 + 1 + 1 + 1 + 1, 1, none⟩ = some (.slice (some ⟨w.heap.size + 1, 0, none⟩) 1 1) := by rw [← hV]; simp [go_sem]
  have c2 : V.cell? ⟨w.heap.size + 1 + 1 + 1 + 1 + 1 + 1, 2, none⟩ = some (.slice (some ⟨w.heap.size + 1 + 1, 0, none⟩) 1 1) := by rw [← hV]; simp [go_sem]
  have c3 : V.cell? ⟨w.heap.size + 1 + 1 + 1 + 1 + 1 + 1, 3, none⟩ = some (.slice (some ⟨w.heap.size + 1 + 1 + 1, 0, none⟩) 6 6) := by rw [← hV]; simp [go_sem]
  have c4 : V.cell? ⟨w.heap.size + 1 + 1 + 1 + 1 + 1 + 1, 4, none⟩ = some (.slice (some ⟨w.heap.size + 1 + 1 + 1 + 1, 0, none⟩) 2 2) := by rw [← hV]; simp [go_sem]
  have c5 : V.cell? ⟨w.heap.size + 1 + 1 + 1 + 1 + 1 + 1, 5, none⟩ = some (.slice (some ⟨w.heap.size + 1 + 1 + 1 + 1 + 1, 0, none⟩) 3 3) := by rw [← hV]; simp [go_sem]
  have R1 : Hid (StrRow V (w.heap.size + 1) (lvWords 1)) := by
    intro i hi
    have : i = 0 := by have : i < 1 := hi; omega
    rcases this with rfl
    rw [← hV]; simp [go_sem, lvWords]
  have R2 : Hid (StrRow V (w.heap.size + 1 + 1) (lvWords 2)) := by
    intro i hi
    have : i = 0 := by have : i < 1 := hi; omega
    rcases this with rfl
    rw [← hV]; simp [go_sem, lvWords]
  have R3 : Hid (StrRow V (w.heap.size + 1 + 1 + 1) (lvWords 3)) := by
    intro i hi
    have : i = 0 ∨ i = 1 ∨ i = 2 ∨ i = 3 ∨ i = 4 ∨ i = 5 := by have : i < 6 := hi; omega
    rw [← hV]
    rcases this with rfl | rfl | rfl | rfl | rfl | rfl <;> simp [go_sem, lvWords]
  have R4 : Hid (StrRow V (w.heap.size + 1 + 1 + 1 + 1) (lvWords 4)) := by
    intro i hi
    have : i = 0 ∨ i = 1 := by have : i < 2 := hi; omega
    rw [← hV]
    rcases this with rfl | rfl <;> simp [go_sem, lvWords]
  have R5 : Hid (StrRow V (w.heap.size + 1 + 1 + 1 + 1 + 1) (lvWords 5)) := by
    intro i hi
    have : i = 0 ∨ i = 1 ∨ i = 2 := by have : i < 3 := hi; omega
    rw [← hV]
    rcases this with rfl | rfl | rfl <;> simp [go_sem, lvWords]
  clear hV
  go_loop [4] (fun i => ∃ k : Nat, 1 ≤ k ∧ k ≤ 6 ∧ i = .int .i64 k ∧ Hid (∀ j, 1 ≤ j → j < k → hasB (lvWords j) s = false)) (fun i => 6 - (intOf i).toNat)
  case atStart => exact ⟨1, by omega, by omega, rfl, fun j h1 h2 => by omega⟩
  case round =>
    obtain ⟨k, h1, h6, rfl, hno⟩ := hrel
    have HS : ∀ k', k' = k → hasB (lvWords k') s = false → Hid (∀ j, 1 ≤ j → j < k' + 1 → hasB (lvWords j) s = false) := fun k' e h j h1 h2 => by
      by_cases hj : j = k'
      · rw [hj]; exact h
      · exact hno.out j h1 (by omega)
    have HH : ∀ k', k' = k → k' ≤ 5 → hasB (lvWords k') s = true → Hid (lvl s = k') := fun k' e h5 h => by
      subst e; exact lvl_hit h1 h5 hno.out h
    have HS := hid_mk HS
    have HH := hid_mk HH
    have hk : k = 1 ∨ k = 2 ∨ k = 3 ∨ k = 4 ∨ k = 5 ∨ k = 6 := by omega
    rcases hk with rfl | rfl | rfl | rfl | rfl | rfl
    · cases hh : hasB (lvWords 1) s
      all_goals have HX := hid_mk hh
      all_goals go_wp2_with (go_at_call 22; refine (has_any (lvWords 1) _ _ 1 _ R1.out rfl (by omega)).mono ?_; rw [HX.out]; rintro e w' ⟨rfl, rfl⟩)
      · go_round
        case rel => exact ⟨2, by omega, by omega, rfl, HS.out 1 rfl HX.out⟩
        case measure => simp [intOf]
      · go_ret
        exact ⟨ret_in (by rw [(HH.out 1 rfl (by omega) HX.out).out]; rfl), HBV.out⟩
    · cases hh : hasB (lvWords 2) s
      all_goals have HX := hid_mk hh
      all_goals go_wp2_with (go_at_call 22; refine (has_any (lvWords 2) _ _ 1 _ R2.out rfl (by omega)).mono ?_; rw [HX.out]; rintro e w' ⟨rfl, rfl⟩)
      · go_round
        case rel => exact ⟨3, by omega, by omega, rfl, HS.out 2 rfl HX.out⟩
        case measure => simp [intOf]
      · go_ret
        exact ⟨ret_in (by rw [(HH.out 2 rfl (by omega) HX.out).out]; rfl), HBV.out⟩
    · cases hh : hasB (lvWords 3) s
      all_goals have HX := hid_mk hh
      all_goals go_wp2_with (go_at_call 22; refine (has_any (lvWords 3) _ _ 6 _ R3.out rfl (by omega)).mono ?_; rw [HX.out]; rintro e w' ⟨rfl, rfl⟩)
      · go_round
        case rel => exact ⟨4, by omega, by omega, rfl, HS.out 3 rfl HX.out⟩
        case measure => simp [intOf]
      · go_ret
        exact ⟨ret_in (by rw [(HH.out 3 rfl (by omega) HX.out).out]; rfl), HBV.out⟩
    · cases hh : hasB (lvWords 4) s
      all_goals have HX := hid_mk hh
      all_goals go_wp2_with (go_at_call 22; refine (has_any (lvWords 4) _ _ 2 _ R4.out rfl (by omega)).mono ?_; rw [HX.out]; rintro e w' ⟨rfl, rfl⟩)
      · go_round
        case rel => exact ⟨5, by omega, by omega, rfl, HS.out 4 rfl HX.out⟩
        case measure => simp [intOf]
      · go_ret
        exact ⟨ret_in (by rw [(HH.out 4 rfl (by omega) HX.out).out]; rfl), HBV.out⟩
    · cases hh : hasB (lvWords 5) s
      all_goals have HX := hid_mk hh
      all_goals go_wp2_with (go_at_call 22; refine (has_any (lvWords 5) _ _ 3 _ R5.out rfl (by omega)).mono ?_; rw [HX.out]; rintro e w' ⟨rfl, rfl⟩)
      · go_round
        case rel => exact ⟨6, by omega, by omega, rfl, HS.out 5 rfl HX.out⟩
        case measure => simp [intOf]
      · go_ret
        exact ⟨ret_in (by rw [(HH.out 5 rfl (by omega) HX.out).out]; rfl), HBV.out⟩
    · go_wp2
      go_ret
      exact ⟨ret_in (by rw [lvl_none hno.out]; rfl), HBV.out⟩
end Go.Proofs.YtokhcdkhcbcljadDoor
