/- The specification's Check and TypesOf. -/
import Derived.Test.YtbjianmjdadehaaGreatDoorKhA
import Derived.Test.YtbjianmjdadehaaGreatDoorKdP
import Derived.Test.YtbjianmjdadehaaGreatDoorKbI
set_option linter.unusedVariables false
namespace Go.Proofs.YtbjianmjdadehaaGreatDoor
open Go.RowKit

structure Done (T : Nd) (w w' : World) (cb : Nat) : Prop where
  code : w'.cell? ⟨cb, 5, none⟩ = some (.int .i64 (match checkM T with | .ok _ => 0 | .error p => p.1))
  place : w'.cell? ⟨cb, 6, none⟩ = some (.int .i64 (match checkM T with | .ok _ => 0 | .error p => (p.2 : Int)))
  nz : ∀ p, checkM T = .error p → p.1 ≠ 0
  lt : w.heap.size ≤ cb ∧ cb < w'.heap.size
  types : ∀ X, checkM T = .ok X → ∃ tb, w'.cell? ⟨cb, 4, none⟩ = some (.slice (some ⟨tb, 0, none⟩) X.length X.length) ∧ w'.ownsRow w.heap.size 3 1 (.slice (some ⟨tb, 0, none⟩) X.length X.length) X.length (X.map (Value.int .i64))
  below : Below w.heap.size w w'
theorem all_done (T : Nd) (w : World) (v : Value) (hi : Nat) (ht : treeB T = true) (hf : T.Fine) (hhi : hi ≤ w.heap.size) (hr : Row 0 hi w T v) (hcost : T.cost ≤ 1048576) :
    Calls Tryz.prog 24 #[T.val v] w fun e w' => ∃ cb, e = .returned (.pointer (some ⟨cb, 0, none⟩)) ∧ Done T w w' cb := by
  refine (all_any T w v hi ht hf hhi hr hcost).mono ?_
  rintro e w' ⟨K, w2, own2, E, r, rfl, hF, hN, hlo, hss, hb⟩
  have hsz1 : T.size ≤ 600 := by unfold treeB at ht; simp only [Bool.and_eq_true, decide_eq_true_eq] at ht; exact ht.1.1.1.1
  obtain ⟨vv, code, place, deep, zs, vs, hraw, his, _⟩ := hss.is
  have hok := hss.ok
  have hcl := hok.cl
  have htl := hok.tl
  have hlt := hss.lt
  have hc : ∀ o, w'.cell? ⟨K.cb, o, none⟩ = (K.cells vv code place deep r 0 0)[o]? := fun o => cell_of_row _ _ _ _ _ (0, 0) hraw.blk
  refine ⟨K.cb, rfl, ?_, ?_, ?_, ⟨by omega, hlt.1⟩, ?_, hb⟩
  · rw [hc]
    cases hM : checkM T with
    | ok X => rw [hM] at his; obtain ⟨h1, _⟩ := his; subst h1; rfl
    | error p => rw [hM] at his; obtain ⟨h1, _⟩ := his; subst h1; rfl
  · rw [hc]
    cases hM : checkM T with
    | ok X => rw [hM] at his; obtain ⟨_, h1, _⟩ := his; subst h1; rfl
    | error p => rw [hM] at his; obtain ⟨_, _, h1⟩ := his; subst h1; rfl
  · intro p hM
    rw [hM] at his
    exact his.2.1
  · intro X hM
    have hX : X.length = T.size := by
      have := fnC_at ht (Nat.le_refl _) X hM
      rw [this, kidAt_len]; omega
    rw [hM] at his
    obtain ⟨_, _, _, hzs, _⟩ := his
    have hzs' : zs = X := by
      have e : K.N - X.length = 0 := by omega
      have hzs2 : zs = X ++ List.replicate (K.N - X.length) 0 := hzs
      rw [e] at hzs2; simpa using hzs2
    have hNX : K.N = X.length := by omega
    refine ⟨K.tb, ?_, by simp, .inr ⟨K.tb, X.length, _, rfl, ?_, hraw.typ, Nat.le_refl _, ?_, ?_, ?_⟩⟩
    · rw [hc, ← hNX]; rfl
    · omega
    · have : X.length ≤ 600 := by omega
      exact Nat.le_trans this (by decide)
    · subst hzs'; simp
    · subst hzs'; rw [Nat.mul_one]; exact List.take_of_length_le (by simp)

set_option maxHeartbeats 2000000 in
set_option maxRecDepth 100000 in
theorem spec_check (T : Nd) (w : World) (u : Value) (hi : Nat) (hf : T.Fine) (hhi : hi ≤ w.heap.size) (hr : Row 0 hi w T u) (hc : T.cost ≤ 1048576) :
    Calls Tryz.prog 7 #[T.val u] w fun e w' => e = .returned (.tuple #[.int .i64 (codeC T), .int .i64 (placeC T)]) ∧ Below w.heap.size w w' := by
  obtain ⟨a, cap, rfl, _⟩ := row_eq.1 hr
  have hb0 : Below w.heap.size w (w.alloc (.cells #[.int .i64 T.kind, .int .i64 T.num, .string T.name, .slice a T.len cap] 30)) := (Below.refl _ _).alloc (Nat.le_refl _) _
  have F0 : Hid (∀ W, Below (w.heap.size + 1) (w.alloc (.cells #[.int .i64 T.kind, .int .i64 T.num, .string T.name, .slice a T.len cap] 30)) W → W.cell? ⟨w.heap.size, 0, none⟩ = some (.int .i64 T.kind) ∧ W.cell? ⟨w.heap.size, 1, none⟩ = some (.int .i64 T.num) ∧ W.cell? ⟨w.heap.size, 2, none⟩ = some (.string T.name) ∧ W.cell? ⟨w.heap.size, 3, none⟩ = some (.slice a T.len cap)) := by
    intro W h
    have e : ∀ o, W.cell? ⟨w.heap.size, o, none⟩ = (w.alloc (.cells #[.int .i64 T.kind, .int .i64 T.num, .string T.name, .slice a T.len cap] 30)).cell? ⟨w.heap.size, o, none⟩ := fun o => h.cell (p := ⟨w.heap.size, o, none⟩) (by show w.heap.size < w.heap.size + 1; omega)
    rw [e, e, e, e]; refine ⟨?_, ?_, ?_, ?_⟩ <;> simp [go_sem]
  have SP := hid_mk (fun W (hW : Below w.heap.size w W) => spec_tree T W (.slice a T.len cap) hi hf (by have := hW.size; omega) (row_below hW hhi hr))
  have SL := hid_mk (fun (h : treeB T = true) W (hW : Below w.heap.size w W) => all_done T W (.slice a T.len cap) hi h hf (by have := hW.size; omega) (row_below hW hhi hr) hc)
  have HB0 := hid_mk hb0
  clear hf hr hb0
  unfold Nd.val at *
  cases ht : treeB T
  · have hC : codeC T = 1 := by unfold codeC; rw [ht]; rfl
    have hP : placeC T = 0 := by unfold placeC; rw [ht]; rfl
    rw [ht] at SP
    rw [hC, hP]
    clear SL hC hP
    go_enter Tryz.func7, Tryz.ntmps7
    go_wp2_with (go_at_call 23; refine (SP.out _ (by first | exact Below.refl _ _ | exact HB0.out)).mono ?_; rintro e w2 ⟨rfl, hb2⟩; have HB2 := hid_mk hb2; clear hb2)
    refine bodyPost_ret (v := .tuple #[.int .i64 1, .int .i64 0]) (by simp [results, Tryz.results7, go_sem]) rfl ⟨rfl, ?_⟩
    exact HB0.out.trans (HB2.out.mono (by simp))
  · have hC : codeC T = (match checkM T with | .ok _ => 0 | .error p => p.1) := by unfold codeC; rw [ht]; rfl
    have hP : placeC T = (match checkM T with | .ok _ => 0 | .error p => (p.2 : Int)) := by unfold placeC; rw [ht]; rfl
    have SL := hid_mk (SL.out ht)
    have HCC := hid_mk hC
    have HPP := hid_mk hP
    rw [ht] at SP
    clear hC hP
    generalize codeC T = cc at *
    generalize placeC T = pp at *
    go_enter Tryz.func7, Tryz.ntmps7
    go_wp2_with (first
      | (go_at_call 23; refine (SP.out _ HB0.out).mono ?_; rintro e w2 ⟨rfl, hb2⟩; have HB2 := hid_mk (HB0.out.trans (hb2.mono (by simp))); have hz2 := hb2.size; obtain ⟨q0, q1, q2, q3⟩ := F0.out _ (hb2.mono (by simp)); clear hb2)
      | (go_at_call 24; refine (SL.out _ HB2.out).mono ?_; rintro e w3 ⟨cb, rfl, hd⟩; have k5 := hd.code; have k6 := hd.place; have HB3 := hid_mk (HB2.out.trans (hd.below.mono (by simp at hz2; omega))); rw [← HCC.out] at k5; rw [← HPP.out] at k6; clear hd))
    go_region
    all_goals go_wp2
    all_goals refine bodyPost_ret (v := .tuple #[.int .i64 cc, .int .i64 pp]) (by simp [results, Tryz.results7, go_sem]) rfl ⟨rfl, ?_⟩
    all_goals exact HB3.out.drew
set_option maxHeartbeats 2000000 in
set_option maxRecDepth 100000 in
theorem spec_types (T : Nd) (w : World) (u : Value) (hi : Nat) (hf : T.Fine) (hhi : hi ≤ w.heap.size) (hr : Row 0 hi w T u) (hc : T.cost ≤ 1048576) :
    Calls Tryz.prog 11 #[T.val u] w fun e w' => ∃ tv, e = .returned (.tuple #[tv, .int .i64 (codeC T), .int .i64 (placeC T)]) ∧ w'.ownsRow w.heap.size 3 1 tv (typesT T).length ((typesT T).map (Value.int .i64)) ∧ Below w.heap.size w w' := by
  obtain ⟨a, cap, rfl, _⟩ := row_eq.1 hr
  have hb0 : Below w.heap.size w (w.alloc (.cells #[.int .i64 T.kind, .int .i64 T.num, .string T.name, .slice a T.len cap] 30)) := (Below.refl _ _).alloc (Nat.le_refl _) _
  have F0 : Hid (∀ W, Below (w.heap.size + 1) (w.alloc (.cells #[.int .i64 T.kind, .int .i64 T.num, .string T.name, .slice a T.len cap] 30)) W → W.cell? ⟨w.heap.size, 0, none⟩ = some (.int .i64 T.kind) ∧ W.cell? ⟨w.heap.size, 1, none⟩ = some (.int .i64 T.num) ∧ W.cell? ⟨w.heap.size, 2, none⟩ = some (.string T.name) ∧ W.cell? ⟨w.heap.size, 3, none⟩ = some (.slice a T.len cap)) := by
    intro W h
    have e : ∀ o, W.cell? ⟨w.heap.size, o, none⟩ = (w.alloc (.cells #[.int .i64 T.kind, .int .i64 T.num, .string T.name, .slice a T.len cap] 30)).cell? ⟨w.heap.size, o, none⟩ := fun o => h.cell (p := ⟨w.heap.size, o, none⟩) (by show w.heap.size < w.heap.size + 1; omega)
    rw [e, e, e, e]; refine ⟨?_, ?_, ?_, ?_⟩ <;> simp [go_sem]
  have SP := hid_mk (fun W (hW : Below w.heap.size w W) => spec_tree T W (.slice a T.len cap) hi hf (by have := hW.size; omega) (row_below hW hhi hr))
  have SL := hid_mk (fun (h : treeB T = true) W (hW : Below w.heap.size w W) => all_done T W (.slice a T.len cap) hi h hf (by have := hW.size; omega) (row_below hW hhi hr) hc)
  have HB0 := hid_mk hb0
  clear hf hr hb0
  unfold Nd.val at *
  cases ht : treeB T
  · have hC : codeC T = 1 := by unfold codeC; rw [ht]; rfl
    have hP : placeC T = 0 := by unfold placeC; rw [ht]; rfl
    rw [ht] at SP
    have hX : typesT T = [] := by unfold typesT; rw [ht]; rfl
    rw [hC, hP, hX]
    clear SL hC hP hX
    go_enter Tryz.func11, Tryz.ntmps11
    go_wp2_with (go_at_call 23; refine (SP.out _ (by first | exact Below.refl _ _ | exact HB0.out)).mono ?_; rintro e w2 ⟨rfl, hb2⟩; have HB2 := hid_mk (HB0.out.trans (hb2.mono (by simp))); clear hb2)
    refine bodyPost_ret (v := .tuple #[.slice (some ⟨w2.heap.size, 0, none⟩) 0 0, .int .i64 1, .int .i64 0]) (by simp [results, Tryz.results11, go_sem]) rfl ⟨_, rfl, ⟨rfl, .inr ⟨w2.heap.size, 0, #[], rfl, HB2.out.size, heap_alloc_new w2 _, Nat.le_refl _, Nat.zero_le _, rfl, rfl⟩⟩, HB2.out.alloc HB2.out.size _⟩
  · have SL := hid_mk (SL.out ht)
    rw [ht] at SP
    cases hM : checkM T with
    | error p =>
      have hC : codeC T = p.1 := by unfold codeC; rw [ht, hM]; rfl
      have hP : placeC T = (p.2 : Int) := by unfold placeC; rw [ht, hM]; rfl
      have hX : typesT T = [] := by unfold typesT; rw [ht, hM]; rfl
      rw [hC, hP, hX]
      clear hC hP hX
      have HM := hid_mk hM
      clear hM
      go_enter Tryz.func11, Tryz.ntmps11
      go_wp2_with (first
        | (go_at_call 23; refine (SP.out _ HB0.out).mono ?_; rintro e w2 ⟨rfl, hb2⟩; have HB2 := hid_mk (HB0.out.trans (hb2.mono (by simp))); have hz2 := hb2.size; obtain ⟨q0, q1, q2, q3⟩ := F0.out _ (hb2.mono (by simp)); clear hb2)
        | (go_at_call 24; refine (SL.out _ HB2.out).mono ?_; rintro e w3 ⟨cb, rfl, hd⟩; have k5 := hd.code; have k6 := hd.place; have HB3 := hid_mk (HB2.out.trans (hd.below.mono (by simp at hz2; omega))); rw [HM.out] at k5 k6; have hnz := hd.nz _ HM.out; have hnb : (p.1 != 0) = true := (by simpa using hnz); have k5a : (w3.alloc (.cells #[] 3)).cell? ⟨cb, 5, none⟩ = some (.int .i64 p.1) := (((Below.refl w3.heap.size w3).alloc (Nat.le_refl _) _).cell (p := ⟨cb, 5, none⟩) hd.lt.2).trans k5; have k6a : (w3.alloc (.cells #[] 3)).cell? ⟨cb, 6, none⟩ = some (.int .i64 (p.2 : Int)) := (((Below.refl w3.heap.size w3).alloc (Nat.le_refl _) _).cell (p := ⟨cb, 6, none⟩) hd.lt.2).trans k6; clear hd))
      go_region
      all_goals go_wp2
      all_goals refine bodyPost_ret (v := .tuple #[.slice (some ⟨w3.heap.size, 0, none⟩) 0 0, .int .i64 p.1, .int .i64 (p.2 : Int)]) (by simp [results, Tryz.results11, go_sem]) rfl ⟨_, rfl, ⟨rfl, .inr ⟨w3.heap.size, 0, #[], rfl, HB3.out.size, heap_alloc_new w3 _, Nat.le_refl _, Nat.zero_le _, rfl, rfl⟩⟩, (HB3.out.alloc HB3.out.size _).drew⟩
    | ok X =>
      have hC : codeC T = 0 := by unfold codeC; rw [ht, hM]; rfl
      have hP : placeC T = 0 := by unfold placeC; rw [ht, hM]; rfl
      have hX : typesT T = X := by unfold typesT; rw [ht, hM]; rfl
      rw [hC, hP, hX]
      clear hC hP hX
      have HM := hid_mk hM
      clear hM
      go_enter Tryz.func11, Tryz.ntmps11
      go_wp2_with (first
        | (go_at_call 23; refine (SP.out _ HB0.out).mono ?_; rintro e w2 ⟨rfl, hb2⟩; have HB2 := hid_mk (HB0.out.trans (hb2.mono (by simp))); have hz2 := hb2.size; obtain ⟨q0, q1, q2, q3⟩ := F0.out _ (hb2.mono (by simp)); clear hb2)
        | (go_at_call 24; refine (SL.out _ HB2.out).mono ?_; rintro e w3 ⟨cb, rfl, hd⟩; have k5 := hd.code; have k6 := hd.place; have HB3 := hid_mk (HB2.out.trans (hd.below.mono (by simp at hz2; omega))); rw [HM.out] at k5 k6; obtain ⟨tb, k4, hown⟩ := hd.types _ HM.out; have HO3 := hid_mk hown; clear hd hown))
      refine bodyPost_ret (v := .tuple #[.slice (some ⟨tb, 0, none⟩) X.length X.length, .int .i64 0, .int .i64 0]) (by simp [results, Tryz.results11, go_sem]) rfl ⟨_, rfl, own_base HO3.out HB2.out.size, HB3.out⟩
end Go.Proofs.YtbjianmjdadehaaGreatDoor
