import Derived.Test.YteaocammohcgoaaGreatDoorVKhA
set_option linter.unusedVariables false
set_option maxHeartbeats 16000000
set_option maxRecDepth 100000
namespace Go.Proofs.YteaocammohcgoaaGreatDoor
open Go.RowKit
theorem wR (T : Nd) (w : World) (u : Value) (hi : Nat) (hf : T.Fine) (dF : hi ≤ w.heap.size) (hr : Row 0 hi w T u) (hc : T.cost ≤ 1048576) :
  Calls Tryz.prog 15 #[T.val u] w fun e w' => e = .returned (.tuple #[.int .i64 (ep T), .int .i64 (eD T)]) ∧ Below w.heap.size w w' := by
 obtain ⟨a, cap, rfl, _⟩ := aH.1 hr
 have ja : Below w.heap.size w (w.alloc (nO T (.slice a T.len cap))) := bA
 have F0 : Hid (∀ W, Below (w.heap.size + 1) (w.alloc (nO T (.slice a T.len cap))) W → W.cell? ⟨w.heap.size, 0, none⟩ = some (.int .i64 T.kind) ∧ W.cell? ⟨w.heap.size, 1, none⟩ = some (.int .i64 T.num) ∧ W.cell? ⟨w.heap.size, 2, none⟩ = some (.string T.name) ∧ W.cell? ⟨w.heap.size, 3, none⟩ = some (.slice a T.len cap)) := by
  intro W h
  have e : ∀ o, W.cell? ⟨w.heap.size, o, none⟩ = (w.alloc (nO T (.slice a T.len cap))).cell? ⟨w.heap.size, o, none⟩ := fun o => h.cell (p := ⟨w.heap.size, o, none⟩) (by show w.heap.size < w.heap.size + 1; omega)
  rw [e, e, e, e]; refine ⟨?_, ?_, ?_, ?_⟩ <;> simp [go_sem]
 have SP := aa (fun W (hW : Below w.heap.size w W) => rD T W (.slice a T.len cap) hi hf (by have := hW.size; omega) (ah hW dF hr))
 have SL := aa (fun (h : dv T = true) W (hW : Below w.heap.size w W) => vG T W (.slice a T.len cap) hi h hf (by have := hW.size; omega) (ah hW dF hr) hc)
 have fp := aa ja
 clear hf hr ja
 unfold Nd.val at *
 cases ht : dv T
 ·have hC : ep T = 1 := by unfold ep; rw [ht]; rfl
  have hP : eD T = 0 := by unfold eD; rw [ht]; rfl
  rw [ht] at SP
  rw [hC, hP]
  clear SL hC hP
  go_enter Tryz.func15, Tryz.ntmps15
  go_wp2_with (go_at_call 17; refine (SP.out _ (by first | exact Below.refl _ _ | exact fp.out)).mono ?_; rintro e w2 ⟨rfl, ba⟩; have jZ := aa ba; clear ba)
  refine bodyPost_ret (v := .tuple #[.int .i64 1, .int .i64 0]) (by simp [results, Tryz.results15, go_sem]) rfl ⟨rfl, ?_⟩
  exact fp.out.trans (jZ.out.mono (by simp))
 ·have hC : ep T = (match dC T with | .ok _ => 0 | .error p => p.1) := by unfold ep; rw [ht]; rfl
  have hP : eD T = (match dC T with | .ok _ => 0 | .error p => (p.2 : Int)) := by unfold eD; rw [ht]; rfl
  have SL := aa (SL.out ht)
  have qR := aa hC
  have Cp := aa hP
  rw [ht] at SP
  clear hC hP
  generalize ep T = cc at *
  generalize eD T = pp at *
  go_enter Tryz.func15, Tryz.ntmps15
  go_wp2_with (first
   |(go_at_call 17; refine (SP.out _ fp.out).mono ?_; rintro e w2 ⟨rfl, ba⟩; have jZ := aa (fp.out.trans (ba.mono (by simp))); have ed := ba.size; obtain ⟨q0, q1, q2, q3⟩ := F0.out _ (ba.mono (by simp)); clear ba)
   |(go_at_call 21; refine (SL.out _ jZ.out).mono ?_; rintro e w3 ⟨cb, rfl, hd⟩; have k5 := hd.code; have k6 := hd.place; have Kg := aa (jZ.out.trans (hd.below.mono (by simp at ed; omega))); replace k5 := k5.trans (congrArg (fun x => some (Value.int .i64 x)) qR.out.symm); replace k6 := k6.trans (congrArg (fun x => some (Value.int .i64 x)) Cp.out.symm); clear hd))
  go_region
  all_goals go_wp2
  all_goals refine bodyPost_ret (v := .tuple #[.int .i64 cc, .int .i64 pp]) (by simp [results, Tryz.results15, go_sem]) rfl ⟨rfl, ?_⟩
  all_goals exact Kg.out.drew
end Go.Proofs.YteaocammohcgoaaGreatDoor
