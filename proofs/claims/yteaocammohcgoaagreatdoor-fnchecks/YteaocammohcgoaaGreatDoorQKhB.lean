import Derived.Test.YteaocammohcgoaaGreatDoorQKhA
import Derived.Test.YteaocammohcgoaaGreatDoorQKbH
set_option linter.unusedVariables false
set_option maxHeartbeats 16000000
set_option maxRecDepth 100000
namespace Go.Proofs.YteaocammohcgoaaGreatDoor
open Go.RowKit
variable {G : Prop}
theorem bZ0 (h : G := by
 intro W h
 have e : ∀ o, W.cell? ⟨w.heap.size, o, none⟩ = (w.alloc (nO T (.slice a T.len cap))).cell? ⟨w.heap.size, o, none⟩ := fun o => h.cell (p := ⟨w.heap.size, o, none⟩) (by show w.heap.size < w.heap.size + 1; omega)
 rw [e, e, e, e]; refine ⟨?_, ?_, ?_, ?_⟩ <;> simp [go_sem]) : G := h
theorem bZ1 (h : G := by
 obtain ⟨a, cap, rfl, _⟩ := ar.1 hr
 have iY : Below w.heap.size w (w.alloc (nO T (.slice a T.len cap))) := bA
 have F0 : Hid (∀ W, Below (w.heap.size + 1) (w.alloc (nO T (.slice a T.len cap))) W → W.cell? ⟨w.heap.size, 0, none⟩ = some (.int .i64 T.kind) ∧ W.cell? ⟨w.heap.size, 1, none⟩ = some (.int .i64 T.num) ∧ W.cell? ⟨w.heap.size, 2, none⟩ = some (.string T.name) ∧ W.cell? ⟨w.heap.size, 3, none⟩ = some (.slice a T.len cap)) := by
  exact bZ0
 have SP := aa (fun W (hW : Below w.heap.size w W) => Au T W (.slice a T.len cap) hi hf (by have := hW.size; omega) (ah hW cY hr))
 have SL := aa (fun (h : dh T = true) W (hW : Below w.heap.size w W) => vj T W (.slice a T.len cap) hi h hf (by have := hW.size; omega) (ah hW cY hr) hc)
 have dY := aa iY
 clear hf hr iY
 unfold Nd.val at *
 cases ht : dh T
 first
 |clear k_Z1_0
  ·have hC : cK T = 1 := by unfold cK; rw [ht]; rfl
   have hP : cQ T = 0 := by unfold cQ; rw [ht]; rfl
   rw [ht] at SP
   rw [hC, hP]
   clear SL hC hP
   go_enter Tryz.func15, Tryz.ntmps15
   go_wp2_with (go_at_call 17; refine (SP.out _ (by first | exact Below.refl _ _ | exact dY.out)).mono ?_; rintro e w2 ⟨rfl, hb2⟩; have fI := aa hb2; clear hb2)
   refine bodyPost_ret (v := .tuple #[.int .i64 1, .int .i64 0]) (by simp [results, Tryz.results15, go_sem]) rfl ⟨rfl, ?_⟩
   exact dY.out.trans (fI.out.mono (by simp))
  ·have hC : cK T = (match dp T with | .ok _ => 0 | .error p => p.1) := by unfold cK; rw [ht]; rfl
   have hP : cQ T = (match dp T with | .ok _ => 0 | .error p => (p.2 : Int)) := by unfold cQ; rw [ht]; rfl
   have SL := aa (SL.out ht)
   have qQ := aa hC
   have BQ := aa hP
   rw [ht] at SP
   clear hC hP
   generalize cK T = cc at *
   generalize cQ T = pp at *
   go_enter Tryz.func15, Tryz.ntmps15
   go_wp2_with (first
    |(go_at_call 17; refine (SP.out _ dY.out).mono ?_; rintro e w2 ⟨rfl, hb2⟩; have fI := aa (dY.out.trans (hb2.mono (by simp))); have ec := hb2.size; obtain ⟨q0, q1, q2, q3⟩ := F0.out _ (hb2.mono (by simp)); clear hb2)
    |(go_at_call 21; refine (SL.out _ fI.out).mono ?_; rintro e w3 ⟨cb, rfl, hd⟩; have k5 := hd.code; have k6 := hd.place; have ou := aa (fI.out.trans (hd.below.mono (by simp at ec; omega))); rw [← qQ.out] at k5; rw [← BQ.out] at k6; clear hd))
   go_region
   all_goals go_wp2
   all_goals refine bodyPost_ret (v := .tuple #[.int .i64 cc, .int .i64 pp]) (by simp [results, Tryz.results15, go_sem]) rfl ⟨rfl, ?_⟩
   all_goals exact ou.out.drew
 |clear k_Z1_1
  ·have hC : cK T = 1 := by unfold cK; rw [ht]; rfl
   have hP : cQ T = 0 := by unfold cQ; rw [ht]; rfl
   rw [ht] at SP
   have hX : di T = [] := by unfold di; rw [ht]; rfl
   rw [hC, hP, hX]
   clear SL hC hP hX
   go_enter Tryz.func8, Tryz.ntmps8
   go_wp2_with (go_at_call 17; refine (SP.out _ (by first | exact Below.refl _ _ | exact dY.out)).mono ?_; rintro e w2 ⟨rfl, hb2⟩; have fI := aa (dY.out.trans (hb2.mono (by simp))); clear hb2)
   refine bodyPost_ret (v := .tuple #[.slice (some ⟨w2.heap.size, 0, none⟩) 0 0, .int .i64 1, .int .i64 0]) (by simp [results, Tryz.results8, go_sem]) rfl ⟨_, rfl, ⟨rfl, .inr ⟨w2.heap.size, 0, #[], rfl, fI.out.size, heap_alloc_new w2 _, Nat.le_refl _, Nat.zero_le _, rfl, rfl⟩⟩, fI.out.alloc fI.out.size _⟩
  ·have SL := aa (SL.out ht)
   rw [ht] at SP
   cases hM : dp T with
   |error p =>
    have hC : cK T = p.1 := by unfold cK; rw [ht, hM]; rfl
    have hP : cQ T = (p.2 : Int) := by unfold cQ; rw [ht, hM]; rfl
    have hX : di T = [] := by unfold di; rw [ht, hM]; rfl
    rw [hC, hP, hX]
    clear hC hP hX
    have HM := aa hM
    clear hM
    go_enter Tryz.func8, Tryz.ntmps8
    go_wp2_with (first
     |(go_at_call 17; refine (SP.out _ dY.out).mono ?_; rintro e w2 ⟨rfl, hb2⟩; have fI := aa (dY.out.trans (hb2.mono (by simp))); have ec := hb2.size; obtain ⟨q0, q1, q2, q3⟩ := F0.out _ (hb2.mono (by simp)); clear hb2)
     |(go_at_call 21; refine (SL.out _ fI.out).mono ?_; rintro e w3 ⟨cb, rfl, hd⟩; have k5 := hd.code; have k6 := hd.place; have ou := aa (fI.out.trans (hd.below.mono (by simp at ec; omega))); rw [HM.out] at k5 k6; have hnz := hd.nz _ HM.out; have Ea : (p.1 != 0) = true := (by simpa using hnz); have k5a : (w3.alloc (.cells #[] 3)).cell? ⟨cb, 5, none⟩ = some (.int .i64 p.1) := ((bO w3 _).cell (p := ⟨cb, 5, none⟩) hd.lt.2).trans k5; have k6a : (w3.alloc (.cells #[] 3)).cell? ⟨cb, 6, none⟩ = some (.int .i64 (p.2 : Int)) := ((bO w3 _).cell (p := ⟨cb, 6, none⟩) hd.lt.2).trans k6; clear hd))
    go_region
    all_goals go_wp2
    all_goals refine bodyPost_ret (v := .tuple #[.slice (some ⟨w3.heap.size, 0, none⟩) 0 0, .int .i64 p.1, .int .i64 (p.2 : Int)]) (by simp [results, Tryz.results8, go_sem]) rfl ⟨_, rfl, ⟨rfl, .inr ⟨w3.heap.size, 0, #[], rfl, ou.out.size, heap_alloc_new w3 _, Nat.le_refl _, Nat.zero_le _, rfl, rfl⟩⟩, (ou.out.alloc ou.out.size _).drew⟩
   |ok X =>
    have hC : cK T = 0 := by unfold cK; rw [ht, hM]; rfl
    have hP : cQ T = 0 := by unfold cQ; rw [ht, hM]; rfl
    have hX : di T = X := by unfold di; rw [ht, hM]; rfl
    rw [hC, hP, hX]
    clear hC hP hX
    have HM := aa hM
    clear hM
    go_enter Tryz.func8, Tryz.ntmps8
    go_wp2_with (first
     |(go_at_call 17; refine (SP.out _ dY.out).mono ?_; rintro e w2 ⟨rfl, hb2⟩; have fI := aa (dY.out.trans (hb2.mono (by simp))); have ec := hb2.size; obtain ⟨q0, q1, q2, q3⟩ := F0.out _ (hb2.mono (by simp)); clear hb2)
     |(go_at_call 21; refine (SL.out _ fI.out).mono ?_; rintro e w3 ⟨cb, rfl, hd⟩; have k5 := hd.code; have k6 := hd.place; have ou := aa (fI.out.trans (hd.below.mono (by simp at ec; omega))); rw [HM.out] at k5 k6; obtain ⟨tb, k4, cg⟩ := hd.types _ HM.out; have zu := aa cg; clear hd cg))
    refine bodyPost_ret (v := .tuple #[.slice (some ⟨tb, 0, none⟩) X.length X.length, .int .i64 0, .int .i64 0]) (by simp [results, Tryz.results8, go_sem]) rfl ⟨_, rfl, kV zu.out fI.out.size, ou.out⟩) : G := h
structure Done (T : Nd) (w w' : World) (cb : Nat) : Prop where
 code : w'.cell? ⟨cb, 5, none⟩ = some (.int .i64 (match dp T with | .ok _ => 0 | .error p => p.1))
 place : w'.cell? ⟨cb, 6, none⟩ = some (.int .i64 (match dp T with | .ok _ => 0 | .error p => (p.2 : Int)))
 nz : ∀ p, dp T = .error p → p.1 ≠ 0
 lt : w.heap.size ≤ cb ∧ cb < w'.heap.size
 types : ∀ X, dp T = .ok X → ∃ tb, w'.cell? ⟨cb, 4, none⟩ = some (.slice (some ⟨tb, 0, none⟩) X.length X.length) ∧ w'.ownsRow w.heap.size 3 1 (.slice (some ⟨tb, 0, none⟩) X.length X.length) X.length (X.map (Value.int .i64))
 below : Below w.heap.size w w'
theorem vj (T : Nd) (w : World) (v : Value) (hi : Nat) (ht : dh T = true) (hf : T.Fine) (cY : hi ≤ w.heap.size) (hr : Row 0 hi w T v) (eS : T.cost ≤ 1048576) :
  Calls Tryz.prog 21 #[T.val v] w fun e w' => ∃ cb, e = .returned (.pointer (some ⟨cb, 0, none⟩)) ∧ Done T w w' cb := by
 refine (Jb T w v hi ht hf cY hr eS).mono ?_
 rintro e w' ⟨K, w2, qU, E, r, rfl, hF, hN, fe, cr, hb⟩
 have pP : T.size ≤ 600 := by unfold dh at ht; simp only [Bool.and_eq_true, decide_eq_true_eq] at ht; exact ht.1.1.1.1
 obtain ⟨vv, code, place, deep, zs, vs, kD, BL, _⟩ := cr.is
 have aN := cr.ok
 have yX := aN.cl
 have Ox := aN.tl
 have bB := cr.lt
 have hc : ∀ o, w'.cell? ⟨K.cb, o, none⟩ = (K.cells vv code place deep r 0 0)[o]? := fun o => cell_of_row _ _ _ _ _ (0, 0) kD.blk
 refine ⟨K.cb, rfl, ?_, ?_, ?_, ⟨by omega, bB.1⟩, ?_, hb⟩
 ·rw [hc]
  cases hM : dp T with
  |ok X => rw [hM] at BL; obtain ⟨h1, _⟩ := BL; subst h1; rfl
  |error p => rw [hM] at BL; obtain ⟨h1, _⟩ := BL; subst h1; rfl
 ·rw [hc]
  cases hM : dp T with
  |ok X => rw [hM] at BL; obtain ⟨_, h1, _⟩ := BL; subst h1; rfl
  |error p => rw [hM] at BL; obtain ⟨_, _, h1⟩ := BL; subst h1; rfl
 ·intro p hM
  rw [hM] at BL
  exact BL.2.1
 ·intro X hM
  have hX : X.length = T.size := by
   have := te ht lr X hM
   rw [this, lO]; omega
  rw [hM] at BL
  obtain ⟨_, _, _, Qy, _⟩ := BL
  have Qx : zs = X := by
   have e : K.N - X.length = 0 := by omega
   have Qw : zs = X ++ List.replicate (K.N - X.length) 0 := Qy
   rw [e] at Qw; simpa using Qw
  have hNX : K.N = X.length := by omega
  refine ⟨K.tb, ?_, by simp, .inr ⟨K.tb, X.length, _, rfl, ?_, kD.typ, Nat.le_refl _, ?_, ?_, ?_⟩⟩
  ·rw [hc, ← hNX]; rfl
  ·omega
  ·have : X.length ≤ 600 := by omega
   exact Nat.le_trans this (by decide)
  ·subst Qx; simp
  ·subst Qx; rw [Nat.mul_one]; exact List.take_of_length_le (by simp)
theorem vX (T : Nd) (w : World) (u : Value) (hi : Nat) (hf : T.Fine) (cY : hi ≤ w.heap.size) (hr : Row 0 hi w T u) (hc : T.cost ≤ 1048576) :
  Calls Tryz.prog 15 #[T.val u] w fun e w' => e = .returned (.tuple #[.int .i64 (cK T), .int .i64 (cQ T)]) ∧ Below w.heap.size w w' := by
 have k_Z1_0 := kk
 exact bZ1
theorem vU (T : Nd) (w : World) (u : Value) (hi : Nat) (hf : T.Fine) (cY : hi ≤ w.heap.size) (hr : Row 0 hi w T u) (hc : T.cost ≤ 1048576) :
  Calls Tryz.prog 8 #[T.val u] w fun e w' => ∃ tv, e = .returned (.tuple #[tv, .int .i64 (cK T), .int .i64 (cQ T)]) ∧ w'.ownsRow w.heap.size 3 1 tv (di T).length ((di T).map (Value.int .i64)) ∧ Below w.heap.size w w' := by
 have k_Z1_1 := kk
 exact bZ1
end Go.Proofs.YteaocammohcgoaaGreatDoor
