import Derived.Test.YteaocammohcgoaaGreatDoorVKaAs
import Derived.Test.YteaocammohcgoaaGreatDoorVKcB
import Derived.Test.YteaocammohcgoaaGreatDoorVKgC
set_option linter.unusedVariables false
set_option maxHeartbeats 16000000
set_option maxRecDepth 100000
namespace Go.Proofs.YteaocammohcgoaaGreatDoor
open Go.RowKit
variable {G : Prop}
theorem bT0 (h : G := by
 obtain ⟨a, cap, rfl, _⟩ := aH.1 hr
 have fp := aa (bO w (nO T (.slice a T.len cap)))
 have CK := aa (fun W (hW : Below w.heap.size w W) => sZ T W (.slice a T.len cap) hf (aO (ah hW lr hr) lr hW.size) hc (eR ht hW) (hg.later hW))
 clear hf hr ht hg
 unfold Nd.val at *
 generalize ep T = cc at *
 generalize eD T = pp at *
 first
 |clear k_T0_0
  go_enter Tryz.func6, Tryz.ntmps6
  go_wp2_with (go_at_call 20; refine (CK.out _ fp.out).mono ?_; rintro e w2 ⟨tv, rfl, cY, ba⟩; obtain ⟨ta, tc, rfl, _, _⟩ := gg cY; have jZ := aa (fp.out.trans (ba.mono (by simp))); clear ba cY)
  go_region
  all_goals go_wp2
  all_goals refine bodyPost_ret (v := .tuple #[.int .i64 cc, .int .i64 pp]) (by simp [results, Tryz.results6, go_sem]) rfl ⟨rfl, ?_⟩
  all_goals exact (jZ.out.alloc jZ.out.size _).drew
 |clear k_T0_1
  go_enter Tryz.func7, Tryz.ntmps7
  go_wp2_with (go_at_call 20; refine (CK.out _ fp.out).mono ?_; rintro e w2 ⟨tv, rfl, cY, ba⟩; obtain ⟨ta, tc, rfl, _, _⟩ := gg cY; have jZ := aa (fp.out.trans (ba.mono (by simp))); have Gq := aa cY; clear ba cY)
  go_region
  all_goals go_wp2
  all_goals refine bodyPost_ret (v := .tuple #[.slice ta (fI T).length tc, .int .i64 cc, .int .i64 pp]) (by simp [results, Tryz.results7, go_sem]) rfl ⟨_, rfl, ?_, ?_⟩
  ·exact (uz (dM Gq.out fun k hk => (bO w2 _).block k (Gq.out.lt k hk).2) (by simp)).drew
  ·exact (jZ.out.alloc jZ.out.size _).drew) : G := h
theorem bT1 (h : G := by
 have hmm := @run_makeMap Tryz.prog
 have HFF := aa (fun w2 (hb : Below w.heap.size w w2) => by have := ya yC.out T w w2 (.slice a T.len cap) HF.out HR.out hb HBT.out hc; rw [HM.out] at this; unfold Nd.val at this; exact this)
 go_enter_defers Tryz.func20, Tryz.ntmps20
 first
 |clear k_T1_0
  go_wp2_with (first
   |(go_at_call 16; refine (IM.out _ fp.out).mono ?_; rintro e w2 ⟨rfl, ba⟩; have jZ := aa (fp.out.trans (ba.mono (by simp; omega))); have ed := ba.size; have Cs := aa (J6.out.keep ba (by simp)); have HV := aa ((bO w2 (.map #[] 0)).alloc (by simp) (.cells #[.map (some w2.heap.size), .slice none 0 0, .slice none 0 0, .int .i64 0, .int .i64 0, .string ⟨#[]⟩, .slice none 0 0, .int .i64 0, .int .i64 0] 76)); obtain ⟨n0, n1, n2, n3, t0, f0, f1, zt, z0, z1⟩ := Cs.out.keep HV.out (by simp at ed; omega); have Yi := aa (HFF.out _ jZ.out); clear ba J6 fp IM)
   |(go_at_call 42; refine Yi.out.mono ?_; rintro e w4 ⟨rfl, kL, ta, tc, h2c, cY⟩; have FX := aa (jZ.out.trans ((HV.out.trans kL).mono (by simp at ed; omega))); have HO4 := aa cY; obtain ⟨n0, n1, n2, n3, t0, f0, f1, zt, z0, z1⟩ := (Cs.out.keep (HV.out.trans kL) (by simp at ed; omega)); clear kL cY Yi))
  refine leaves_cons (f := 40) (args := #[.pointer (some ⟨w.heap.size + 1 + 1, 0, none⟩), .pointer (some ⟨w.heap.size + 1, 0, none⟩)]) (by simp) (by simp [go_sem]) ?_
  refine (yk _ _ _).mono ?_
  rintro e u' w'' ⟨rfl, rfl, rfl⟩
  obtain ⟨q0, q1, q2⟩ := jq w4 w.heap.size (.slice ta X.length tc) (.int .i64 0) (.int .i64 0) _ _ _ t0 f0 f1
  refine ⟨_, iy _ w.heap.size _ _ _ _ rfl rfl q0 q1 q2, _, rfl, ?_, ?_⟩
  ·have hzz : w.heap.size + 3 ≤ w2.heap.size := by simp at ed; omega
   refine uz (dM HO4.out fun k hk => ?_) (by omega)
   have := (HO4.out.lt k hk).1
   rw [Below.heap_setCell _ _ _ _ (by show k ≠ w.heap.size + 1 + 1; omega), Below.heap_setCell _ _ _ _ (by show k ≠ w.heap.size + 1 + 1; omega), Below.heap_setCell _ _ _ _ (by show k ≠ w.heap.size + 1; omega)]
  ·exact ((FX.out.setCell (p := ⟨w.heap.size + 1, 0, none⟩) (by show w.heap.size ≤ w.heap.size + 1; omega) _).setCell (p := ⟨w.heap.size + 1 + 1, 0, none⟩) (by show w.heap.size ≤ w.heap.size + 1 + 1; omega) _).setCell (p := ⟨w.heap.size + 1 + 1, 1, none⟩) (by show w.heap.size ≤ w.heap.size + 1 + 1; omega) _
 |clear k_T1_1
  go_wp2_with (first
   |(go_at_call 16; refine (IM.out _ fp.out).mono ?_; rintro e w2 ⟨rfl, ba⟩; have jZ := aa (fp.out.trans (ba.mono (by simp; omega))); have ed := ba.size; have Cs := aa (J6.out.keep ba (by simp)); have HV := aa ((bO w2 (.map #[] 0)).alloc (by simp) (.cells #[.map (some w2.heap.size), .slice none 0 0, .slice none 0 0, .int .i64 0, .int .i64 0, .string ⟨#[]⟩, .slice none 0 0, .int .i64 0, .int .i64 0] 76)); obtain ⟨n0, n1, n2, n3, t0, f0, f1, zt, z0, z1⟩ := Cs.out.keep HV.out (by simp at ed; omega); have Yi := aa (HFF.out _ jZ.out); clear ba J6 fp IM)
   |(go_at_call 42; refine Yi.out.mono ?_; rintro e w4 ⟨rfl, kL⟩; have FX := aa (jZ.out.trans ((HV.out.trans kL).mono (by simp at ed; omega))); have HL4 := aa (Cs.out.keep (HV.out.trans kL) (by simp at ed; omega)); have HV4 : Hid (w.heap.size + 3 ≤ w4.heap.size) := (by have := (HV.out.trans kL).size; simp at ed; unfold Hid; omega); clear kL Yi))
  refine leaves_cons (f := 40) (args := #[.pointer (some ⟨w.heap.size + 1 + 1, 0, none⟩), .pointer (some ⟨w.heap.size + 1, 0, none⟩)]) (by simp) (by simp [go_sem]) ?_
  have NN := HL4.out
  refine (oV (w.heap.size + 1 + 1) (w.heap.size + 1) p.1 (p.2 : Int) _ _ _ [] _ ((FX.out.cell (p := ⟨0, 0, none⟩) (iV HG.out)).trans HG.out) NN.f0 NN.f1 NN.t0 NN.z0 NN.z1 NN.zt (by omega)).mono ?_
  rintro e u' w'' ⟨rfl, rfl, W, wh, rfl⟩
  have KL : w.heap.size + 3 ≤ w4.heap.size := by have := HV4.out; omega
  have hLW := NN.keep wh KL
  obtain ⟨q0, q1, q2⟩ := sK W w.heap.size (.slice none 0 0) (.int .i64 p.1) (.int .i64 (p.2 : Int)) _ _ _ hLW.t0 hLW.f0 hLW.f1
  refine ⟨_, iy _ w.heap.size _ _ _ _ rfl rfl q0 q1 q2, _, rfl, ⟨rfl, .inl ⟨rfl, rfl⟩⟩, ?_⟩
  exact (((FX.out.trans (wh.mono (by omega))).setCell (p := ⟨w.heap.size + 1 + 1, 0, none⟩) (by show w.heap.size ≤ w.heap.size + 1 + 1; omega) _).setCell (p := ⟨w.heap.size + 1 + 1, 1, none⟩) (by show w.heap.size ≤ w.heap.size + 1 + 1; omega) _).setCell (p := ⟨w.heap.size + 1, 0, none⟩) (by show w.heap.size ≤ w.heap.size + 1; omega) _) : G := h
theorem bT2 (h : G := by
 have fp := aa (((bO w (nO T (.slice a T.len cap))).alloc (by simp) (.cells #[.slice none 0 0] 29)).alloc (by simp; omega) (.cells #[.int .i64 0, .int .i64 0] 44))
 have J6 := aa (uH w T (.slice a T.len cap))
 first
 |clear k_T2_0
  cases hM : dC T with
  |ok X =>
   have hX : fI T = X := by unfold fI; rw [if_pos xK, hM]
   have hC : ep T = 0 := by unfold ep; rw [if_pos xK, hM]
   have hP : eD T = 0 := by unfold eD; rw [if_pos xK, hM]
   rw [hX, hC, hP]
   have HBT := aa xK
   have HM := aa hM
   clear hX hC hP HG hM xK
   have k_T1_0 := kk
   exact bT1
  |error p =>
   have hX : fI T = [] := by unfold fI; rw [if_pos xK, hM]
   have hC : ep T = p.1 := by unfold ep; rw [if_pos xK, hM]
   have hP : eD T = (p.2 : Int) := by unfold eD; rw [if_pos xK, hM]
   rw [hX, hC, hP]
   have HBT := aa xK
   have HM := aa hM
   clear hX hC hP hM xK
   have k_T1_1 := kk
   exact bT1
 |clear k_T2_1
  go_wp2_with (go_at_call 16; refine (IM.out _ fp.out).mono ?_; rintro e w2 ⟨rfl, ba⟩; have jZ := aa (fp.out.trans (ba.mono (by simp; omega))); obtain ⟨n0, n1, n2, n3, t0, f0, f1, zt, z0, z1⟩ := J6.out.keep ba (by simp); clear ba J6 fp IM)
  refine ⟨_, iy _ w.heap.size _ (.slice none 0 0) (.int .i64 1) (.int .i64 0) rfl rfl ?_ ?_ ?_, _, rfl, ⟨rfl, .inl ⟨rfl, rfl⟩⟩, ?_⟩
  ·exact (jq w2 w.heap.size _ _ _ _ _ _ t0 f0 f1).1
  ·exact (jq w2 w.heap.size _ _ _ _ _ _ t0 f0 f1).2.1
  ·exact (jq w2 w.heap.size _ _ _ _ _ _ t0 f0 f1).2.2
  ·exact ((jZ.out.setCell (p := ⟨w.heap.size + 1, 0, none⟩) (by show w.heap.size ≤ w.heap.size + 1; omega) _).setCell (p := ⟨w.heap.size + 1 + 1, 0, none⟩) (by show w.heap.size ≤ w.heap.size + 1 + 1; omega) _).setCell (p := ⟨w.heap.size + 1 + 1, 1, none⟩) (by show w.heap.size ≤ w.heap.size + 1 + 1; omega) _) : G := h
def ou : Prop := ∀ (T : Nd) (u : Value) (W : World) (B : Nat), W.heap.size = B + 2 → W.heap[B]? = some (.map #[] 0) →
 W.heap[B + 1]? = some (.cells #[.map (some B), .slice none 0 0, .slice none 0 0, .int .i64 0, .int .i64 0, .string ⟨#[]⟩, .slice none 0 0, .int .i64 0, .int .i64 0] 76 (0, 0)) →
 T.Fine → Row 0 B W T u → dv T = true → T.cost ≤ 1048576 →
 Calls Tryz.prog 42 #[.pointer (some ⟨B + 1, 0, none⟩), T.val u] W fun e w' => match dC T with
  |.ok X => e = .returned (.tuple #[]) ∧ Below B W w' ∧ ∃ a c, w'.cell? ⟨B + 1, 2, none⟩ = some (.slice a X.length c) ∧ w'.ownsRow (B + 2) 3 1 (.slice a X.length c) X.length (X.map (Value.int .i64))
  |.error p => e = .panicked [{ v := q6 p, recovered := false }] ∧ Below B W w'
structure Laid3 (w W : World) (T : Nd) (v tv x y : Value) : Prop where
 n0 : W.cell? ⟨w.heap.size, 0, none⟩ = some (.int .i64 T.kind)
 n1 : W.cell? ⟨w.heap.size, 1, none⟩ = some (.int .i64 T.num)
 n2 : W.cell? ⟨w.heap.size, 2, none⟩ = some (.string T.name)
 n3 : W.cell? ⟨w.heap.size, 3, none⟩ = some v
 t0 : W.cell? ⟨w.heap.size + 1, 0, none⟩ = some tv
 f0 : W.cell? ⟨w.heap.size + 1 + 1, 0, none⟩ = some x
 f1 : W.cell? ⟨w.heap.size + 1 + 1, 1, none⟩ = some y
 zt : W.frozen? ⟨w.heap.size + 1, 0, none⟩ = false
 z0 : W.frozen? ⟨w.heap.size + 1 + 1, 0, none⟩ = false
 z1 : W.frozen? ⟨w.heap.size + 1 + 1, 1, none⟩ = false
theorem uH (w : World) (T : Nd) (v : Value) : Laid3 w (((w.alloc (.cells #[.int .i64 T.kind, .int .i64 T.num, .string T.name, v] 25)).alloc (.cells #[.slice none 0 0] 29)).alloc (.cells #[.int .i64 0, .int .i64 0] 44)) T v (.slice none 0 0) (.int .i64 0) (.int .i64 0) := by
 have hb := ((Below.refl _ (w.alloc (.cells #[.int .i64 T.kind, .int .i64 T.num, .string T.name, v] 25))).alloc lr (.cells #[.slice none 0 0] 29)).alloc (by simp) (.cells #[.int .i64 0, .int .i64 0] 44)
 have ba := ((Below.refl _ ((w.alloc (.cells #[.int .i64 T.kind, .int .i64 T.num, .string T.name, v] 25)).alloc (.cells #[.slice none 0 0] 29)))).alloc lr (.cells #[.int .i64 0, .int .i64 0] 44)
 have e1 := fun o => hb.cell (p := ⟨w.heap.size, o, none⟩) (by simp)
 have e2 := fun o => ba.cell (p := ⟨w.heap.size + 1, o, none⟩) (by simp)
 have e3 := fun o => ba.frozen (p := ⟨w.heap.size + 1, o, none⟩) (by simp)
 refine ⟨(e1 0).trans ?_, (e1 1).trans ?_, (e1 2).trans ?_, (e1 3).trans ?_, (e2 0).trans ?_, ?_, ?_, (e3 0).trans ?_, ?_, ?_⟩ <;> simp [go_sem]
theorem Laid3.keep {w W W' : World} {T : Nd} {v tv x y : Value} (h : Laid3 w W T v tv x y) {B : Nat} (hb : Below B W W') (hB : w.heap.size + 3 ≤ B) : Laid3 w W' T v tv x y := by
 have e0 := fun o => hb.cell (p := ⟨w.heap.size, o, none⟩) (by show w.heap.size < B; omega)
 have e1 := fun o => hb.cell (p := ⟨w.heap.size + 1, o, none⟩) (by show w.heap.size + 1 < B; omega)
 have e2 := fun o => hb.cell (p := ⟨w.heap.size + 1 + 1, o, none⟩) (by show w.heap.size + 1 + 1 < B; omega)
 have g1 := fun o => hb.frozen (p := ⟨w.heap.size + 1, o, none⟩) (by show w.heap.size + 1 < B; omega)
 have g2 := fun o => hb.frozen (p := ⟨w.heap.size + 1 + 1, o, none⟩) (by show w.heap.size + 1 + 1 < B; omega)
 exact ⟨(e0 _).trans h.n0, (e0 _).trans h.n1, (e0 _).trans h.n2, (e0 _).trans h.n3, (e1 _).trans h.t0, (e2 _).trans h.f0, (e2 _).trans h.f1, (g1 _).trans h.zt, (g2 _).trans h.z0, (g2 _).trans h.z1⟩
theorem uz {w : World} {A B : Nat} {e : TypeId} {size n : Nat} {v : Value} {xs : List Value} (h : w.ownsRow B e size v n xs) (hA : A ≤ B) : w.ownsRow A e size v n xs := by
 obtain ⟨h1, h2⟩ := h
 refine ⟨h1, ?_⟩
 rcases h2 with h2 | ⟨g, cap, cur, e1, e2, h3⟩
 ·exact .inl h2
 ·exact .inr ⟨g, cap, cur, e1, by omega, h3⟩
theorem iy (tmps : Array Value) (b : Nat) (W : World) (tv x y : Value) (h2 : tmps[2]?.getD undef = .pointer (some ⟨b + 1, 0, none⟩)) (h3 : tmps[3]?.getD undef = .pointer (some ⟨b + 1 + 1, 0, none⟩)) (ht : W.cell? ⟨b + 1, 0, none⟩ = some tv) (hx : W.cell? ⟨b + 1 + 1, 0, none⟩ = some x) (hy : W.cell? ⟨b + 1 + 1, 1, none⟩ = some y) :
  (results Tryz.f20 tmps).run Tryz.prog W = .ok (.tuple #[tv, .agg #[x, y]]) W := by
 have hl := Ra.loadF (b + 1 + 1) x y W hx hy
 have h34 : (loadVar 29 ⟨b + 1, 0, none⟩).run Tryz.prog W = .ok tv W := by simp [loadVar, isAgg, underlying, Tryz.underlying29, ht, Result.andThen]
 unfold results
 rw [Tryz.results20]
 simp [asAddr, h2, h3, hl, h34, Result.andThen]
theorem jq (W : World) (b : Nat) (tv x y a0 a1 a2 : Value) (t0 : W.cell? ⟨b + 1, 0, none⟩ = some a0) (f0 : W.cell? ⟨b + 1 + 1, 0, none⟩ = some a1) (f1 : W.cell? ⟨b + 1 + 1, 1, none⟩ = some a2) :
  (((W.setCell ⟨b + 1, 0, none⟩ tv).setCell ⟨b + 1 + 1, 0, none⟩ x).setCell ⟨b + 1 + 1, 1, none⟩ y).cell? ⟨b + 1, 0, none⟩ = some tv ∧ (((W.setCell ⟨b + 1, 0, none⟩ tv).setCell ⟨b + 1 + 1, 0, none⟩ x).setCell ⟨b + 1 + 1, 1, none⟩ y).cell? ⟨b + 1 + 1, 0, none⟩ = some x ∧
   (((W.setCell ⟨b + 1, 0, none⟩ tv).setCell ⟨b + 1 + 1, 0, none⟩ x).setCell ⟨b + 1 + 1, 1, none⟩ y).cell? ⟨b + 1 + 1, 1, none⟩ = some y := by
 have s0 : (W.setCell ⟨b + 1, 0, none⟩ tv).cell? ⟨b + 1 + 1, 0, none⟩ = some a1 := by rw [bq W _ _ _ t0, if_neg (by omega)]; exact f0
 have s1 : ((W.setCell ⟨b + 1, 0, none⟩ tv).setCell ⟨b + 1 + 1, 0, none⟩ x).cell? ⟨b + 1 + 1, 1, none⟩ = some a2 := by rw [bq _ _ _ _ s0, if_neg (by omega), bq W _ _ _ t0, if_neg (by omega)]; exact f1
 refine ⟨?_, ?_, ?_⟩
 ·rw [bq _ _ _ _ s1, if_neg (by omega), bq _ _ _ _ s0, if_neg (by omega), bq W _ _ _ t0, if_pos ⟨rfl, rfl⟩]
 ·rw [bq _ _ _ _ s1, if_neg (by omega), bq _ _ _ _ s0, if_pos ⟨rfl, rfl⟩]
 ·rw [bq _ _ _ _ s1, if_pos ⟨rfl, rfl⟩]
theorem sK (W : World) (b : Nat) (tv x y a0 a1 a2 : Value) (t0 : W.cell? ⟨b + 1, 0, none⟩ = some a0) (f0 : W.cell? ⟨b + 1 + 1, 0, none⟩ = some a1) (f1 : W.cell? ⟨b + 1 + 1, 1, none⟩ = some a2) :
  (((W.setCell ⟨b + 1 + 1, 0, none⟩ x).setCell ⟨b + 1 + 1, 1, none⟩ y).setCell ⟨b + 1, 0, none⟩ tv).cell? ⟨b + 1, 0, none⟩ = some tv ∧ (((W.setCell ⟨b + 1 + 1, 0, none⟩ x).setCell ⟨b + 1 + 1, 1, none⟩ y).setCell ⟨b + 1, 0, none⟩ tv).cell? ⟨b + 1 + 1, 0, none⟩ = some x ∧
   (((W.setCell ⟨b + 1 + 1, 0, none⟩ x).setCell ⟨b + 1 + 1, 1, none⟩ y).setCell ⟨b + 1, 0, none⟩ tv).cell? ⟨b + 1 + 1, 1, none⟩ = some y := by
 have s1 : (W.setCell ⟨b + 1 + 1, 0, none⟩ x).cell? ⟨b + 1 + 1, 1, none⟩ = some a2 := by rw [bq W _ _ _ f0, if_neg (by omega)]; exact f1
 have s2 : ((W.setCell ⟨b + 1 + 1, 0, none⟩ x).setCell ⟨b + 1 + 1, 1, none⟩ y).cell? ⟨b + 1, 0, none⟩ = some a0 := by rw [bq _ _ _ _ s1, if_neg (by omega), bq W _ _ _ f0, if_neg (by omega)]; exact t0
 refine ⟨?_, ?_, ?_⟩
 ·rw [bq _ _ _ _ s2, if_pos ⟨rfl, rfl⟩]
 ·rw [bq _ _ _ _ s2, if_neg (by omega), bq _ _ _ _ s1, if_neg (by omega), bq W _ _ _ f0, if_pos ⟨rfl, rfl⟩]
 ·rw [bq _ _ _ _ s2, if_neg (by omega), bq _ _ _ _ s1, if_pos ⟨rfl, rfl⟩]
theorem ya (zu : ou) (T : Nd) (w w2 : World) (u : Value) (hf : T.Fine) (hr : Row 0 w.heap.size w T u) (hb : Below w.heap.size w w2) (ht : dv T = true) (hc : T.cost ≤ 1048576) :
  Calls Tryz.prog 42 #[.pointer (some ⟨w2.heap.size + 1, 0, none⟩), T.val u] ((w2.alloc (.map #[] 0)).alloc (.cells #[.map (some w2.heap.size), .slice none 0 0, .slice none 0 0, .int .i64 0, .int .i64 0, .string ⟨#[]⟩, .slice none 0 0, .int .i64 0, .int .i64 0] 76)) fun e w' => match dC T with
  |.ok X => e = .returned (.tuple #[]) ∧ Below w2.heap.size ((w2.alloc (.map #[] 0)).alloc (.cells #[.map (some w2.heap.size), .slice none 0 0, .slice none 0 0, .int .i64 0, .int .i64 0, .string ⟨#[]⟩, .slice none 0 0, .int .i64 0, .int .i64 0] 76)) w' ∧ ∃ a c, w'.cell? ⟨w2.heap.size + 1, 2, none⟩ = some (.slice a X.length c) ∧ w'.ownsRow (w2.heap.size + 2) 3 1 (.slice a X.length c) X.length (X.map (Value.int .i64))
  |.error p => e = .panicked [{ v := q6 p, recovered := false }] ∧ Below w2.heap.size ((w2.alloc (.map #[] 0)).alloc (.cells #[.map (some w2.heap.size), .slice none 0 0, .slice none 0 0, .int .i64 0, .int .i64 0, .string ⟨#[]⟩, .slice none 0 0, .int .i64 0, .int .i64 0] 76)) w' := by
 have hbV : Below w2.heap.size w2 ((w2.alloc (.map #[] 0)).alloc (.cells #[.map (some w2.heap.size), .slice none 0 0, .slice none 0 0, .int .i64 0, .int .i64 0, .string ⟨#[]⟩, .slice none 0 0, .int .i64 0, .int .i64 0] 76)) := (bA).alloc (by simp) _
 refine zu T u _ w2.heap.size (by simp) ?_ ?_ hf (aO (ah (hb.trans (hbV.mono hb.size)) lr hr) lr hb.size) ht hc
 ·rw [show ((w2.alloc (.map #[] 0)).alloc (.cells #[.map (some w2.heap.size), .slice none 0 0, .slice none 0 0, .int .i64 0, .int .i64 0, .string ⟨#[]⟩, .slice none 0 0, .int .i64 0, .int .i64 0] 76)).heap[w2.heap.size]? = (w2.alloc (.map #[] 0)).heap[w2.heap.size]? from (bA).block _ (by simp)]
  exact heap_alloc_new w2 _
 ·have := heap_alloc_new (w2.alloc (.map #[] 0)) (.cells #[.map (some w2.heap.size), .slice none 0 0, .slice none 0 0, .int .i64 0, .int .i64 0, .string ⟨#[]⟩, .slice none 0 0, .int .i64 0, .int .i64 0] 76)
  simpa using this
theorem yj (zu : ou) (T : Nd) (w : World) (u : Value) (hf : T.Fine) (hr : Row 0 w.heap.size w T u) (hc : T.cost ≤ 1048576) (ht : qD w) (hg : w.cell? ⟨0, 0, none⟩ = some (Value.iface 126 (.agg #[Value.pointer (some ⟨4, 69, none⟩)]))) :
  Calls Tryz.prog 20 #[T.val u] w fun e w' => ∃ tv : Value, e = .returned (.tuple #[tv, .agg #[.int .i64 (ep T), .int .i64 (eD T)]]) ∧ w'.ownsRow w.heap.size 3 1 tv (fI T).length ((fI T).map (Value.int .i64)) ∧ Below w.heap.size w w' := by
 obtain ⟨a, cap, rfl, _⟩ := aH.1 hr
 have hmf : ∀ (fn : Fn) (first cap : Array Value) (w : World), (Instr.makeFunc fn first cap).run Tryz.prog w = .ok (.func fn first cap) w := fun _ _ _ _ => rfl
 have IM := aa (fun W (hW : Below w.heap.size w W) => by have := rP T W (.slice a T.len cap) hf (aO (ah hW lr hr) lr hW.size) hc (eR ht hW); rw [ue] at this; exact this)
 have HF := aa hf
 have HR := aa hr
 have HG := aa hg
 have yC := aa zu
 clear hf hr ht hg zu
 unfold Nd.val at *
 by_cases xK : dv T = true
 ·rw [xK] at IM
  have k_T2_0 := kk
  exact bT2
 ·have hbt' : dv T = false := by simpa using xK
  rw [hbt'] at IM
  have hX : fI T = [] := by unfold fI; rw [if_neg xK]
  have hC : ep T = 1 := by unfold ep; rw [if_neg xK]
  have hP : eD T = 0 := by unfold eD; rw [if_neg xK]
  rw [hX, hC, hP]
  clear hX hC hP yC HG
  go_enter_defers Tryz.func20, Tryz.ntmps20
  have k_T2_1 := kk
  exact bT2
theorem D0 {T : Nd} {lo : Nat} {w : World} {a : Option Addr} {cap : Nat} (hr : Row 0 lo w T (.slice a T.len cap)) : ∃ uf : Nat → Value, (∀ j, j < T.len → Row 0 lo w (T.kids j) (uf j)) ∧
    (T.len ≠ 0 → ∃ g off, a = some ⟨g, off, none⟩ ∧ g < lo ∧ T.len ≤ cap ∧ ∀ i, i < T.len → (∃ au qu, uf i = .slice au (T.kids i).len qu) ∧ Row 0 lo w (T.kids i) (uf i) ∧ ∀ W, Below lo w W → W.cell? ⟨g, off + i * 4, none⟩ = some (.int .i64 (T.kids i).kind) ∧ W.cell? ⟨g, off + i * 4 + 1, none⟩ = some (.int .i64 (T.kids i).num) ∧
        W.cell? ⟨g, off + i * 4 + 2, none⟩ = some (.string (T.kids i).name) ∧ W.cell? ⟨g, off + i * 4 + 3, none⟩ = some (uf i)) := by
  by_cases h0 : T.len = 0
  · exact ⟨fun _ => .nilIface, fun j hj => absurd hj (by omega), fun h => absurd h0 h⟩
  · obtain ⟨g, off, mQ, hv, hg, cr, hk⟩ := dq hr h0
    injection hv with e1 _ e3
    subst e1
    subst e3
    have bl : ∀ i, ∃ u, i < T.len → (∀ W, Below lo w W → W.cell? ⟨g, off + i * 4, none⟩ = some (.int .i64 (T.kids i).kind) ∧ W.cell? ⟨g, off + i * 4 + 1, none⟩ = some (.int .i64 (T.kids i).num) ∧
        W.cell? ⟨g, off + i * 4 + 2, none⟩ = some (.string (T.kids i).name) ∧ W.cell? ⟨g, off + i * 4 + 3, none⟩ = some u) ∧ Row 0 lo w (T.kids i) u := fun i => by
      by_cases hi : i < T.len
      · obtain ⟨u, h⟩ := hk i hi; exact ⟨u, fun _ => h⟩
      · exact ⟨.nilIface, fun h => absurd h hi⟩
    refine ⟨fun i => (bl i).choose, fun j hj => ((bl j).choose_spec hj).2, fun _ => ⟨g, off, rfl, hg, cr.1, fun i hi => ⟨?_, ((bl i).choose_spec hi).2, ((bl i).choose_spec hi).1⟩⟩⟩
    obtain ⟨au, qu, e, _⟩ := aH.1 ((bl i).choose_spec hi).2
    exact ⟨au, qu, e⟩
theorem xZ : ou := by
 intro T u W B hz nr fU hf hr ht hc
 have pT : T.size ≤ 600 := by unfold dv at ht; simp only [Bool.and_eq_true, decide_eq_true_eq] at ht; exact ht.1.1.1.1
 obtain ⟨a, cap, rfl, cr, _⟩ := aH.1 hr
 obtain ⟨uf, Sn, Iq⟩ := D0 hr
 have hS : IS (IK.bare ⟨B + 1, B, B, B + 2, 600, T, .slice a T.len cap, uf⟩) W (fun _ => False) ([], []) 0 0 0 W := by
  refine ⟨⟨by show B ≤ B + 1; omega, by show B ≤ B; omega, by show B + 1 < B + 2; omega, by show B < B + 2; omega, by show B + 1 ≠ B; omega, by show 600 ≤ 1048576; omega, .inl (by show B + 2 ≤ B + 1 + 1; omega)⟩, ⟨.slice none 0 0, .slice none 0 0, [], ⟨⟨_, _, _, fU⟩, ⟨rfl, .inl ⟨rfl, rfl⟩⟩, ⟨rfl, .inl ⟨rfl, rfl⟩⟩, trivial⟩, ?_⟩, ?_, ⟨?_, ?_, ?_, ?_⟩, ⟨by show B < W.heap.size; omega, fun h => h⟩, Kept.refl _ _⟩
  ·rintro k (h | h | h) <;> cases h
  ·obtain ⟨es, clock, h1, h2⟩ := World.ownsMap_made W Tryz.prog 9 hv
   have h3 : (W.alloc (.map #[] 0)).heap[W.heap.size]? = some (.map #[] 0) := heap_alloc_new W _
   rw [h3] at h1
   injection h1 with h1
   injection h1 with h1 E3
   subst h1
   subst E3
   exact ⟨.map [], ⟨#[], 0, nr, h2⟩, Maps.isMap_empty, fun s => ⟨fun z => rfl, rfl⟩⟩
  ·exact Nat.le_refl _
  ·exact Nat.zero_le _
  ·exact Nat.zero_le _
  ·intro l hl; cases hl
 have hE : IEnv ⟨B + 1, B, B, B + 2, 600, T, .slice a T.len cap, uf⟩ W := ⟨hf, hr, ht, Sn⟩
 have h := I4 ⟨B + 1, B, B, B + 2, 600, T, .slice a T.len cap, uf⟩ W _ W a cap rfl cr.2 hS hE hc pT Iq
 refine h.mono ?_
 intro e w' h'
 unfold kQ at h'
 cases hM : dC T with
 |error p =>
  simp only [hM] at h'
  exact h'
 |ok X =>
  simp only [hM] at h'
  obtain ⟨h1, h2, w2, O2, ret, hs⟩ := h'
  refine ⟨h1, h2, ?_⟩
  obtain ⟨sv, tv, bs, kI, _⟩ := hs.is
  obtain ⟨ta, tc, e, _, _⟩ := gg kI.ty
  refine ⟨ta, tc, ?_, ?_⟩
  ·obtain ⟨x0, x2, x3, hb⟩ := kI.blk
   rw [World.cell?, hb, e]
   rfl
  ·rw [← e]; exact kI.ty
theorem sZ (T : Nd) (w : World) (u : Value) (hf : T.Fine) (hr : Row 0 w.heap.size w T u) (hc : T.cost ≤ 1048576) (ht : qD w) (hg : w.cell? ⟨0, 0, none⟩ = some (Value.iface 126 (.agg #[Value.pointer (some ⟨4, 69, none⟩)]))) :
  Calls Tryz.prog 20 #[T.val u] w fun e w' => ∃ tv : Value, e = .returned (.tuple #[tv, .agg #[.int .i64 (ep T), .int .i64 (eD T)]]) ∧ w'.ownsRow w.heap.size 3 1 tv (fI T).length ((fI T).map (Value.int .i64)) ∧ Below w.heap.size w w' :=
 yj xZ T w u hf hr hc ht hg
def ErrG (w : World) : Prop := w.cell? ⟨0, 0, none⟩ = some (Value.iface 126 (.agg #[Value.pointer (some ⟨4, 69, none⟩)]))
theorem ErrG.later {w w' : World} (h : ErrG w) (hb : Below w.heap.size w w') : ErrG w' := (hb.cell (p := ⟨0, 0, none⟩) (iV h)).trans h
theorem xt (T : Nd) (w : World) (u : Value) (hf : T.Fine) (hr : Row 0 w.heap.size w T u) (hc : T.cost ≤ 1048576) (ht : qD w) (hg : ErrG w) :
  Calls Tryz.prog 6 #[T.val u] w fun e w' => e = .returned (.tuple #[.int .i64 (ep T), .int .i64 (eD T)]) ∧ Below w.heap.size w w' := by
 have k_T0_0 := kk
 exact bT0
theorem xq (T : Nd) (w : World) (u : Value) (hf : T.Fine) (hr : Row 0 w.heap.size w T u) (hc : T.cost ≤ 1048576) (ht : qD w) (hg : ErrG w) :
  Calls Tryz.prog 7 #[T.val u] w fun e w' => ∃ tv, e = .returned (.tuple #[tv, .int .i64 (ep T), .int .i64 (eD T)]) ∧ w'.ownsRow w.heap.size 3 1 tv (fI T).length ((fI T).map (Value.int .i64)) ∧ Below w.heap.size w w' := by
 have k_T0_1 := kk
 exact bT0
end Go.Proofs.YteaocammohcgoaaGreatDoor
