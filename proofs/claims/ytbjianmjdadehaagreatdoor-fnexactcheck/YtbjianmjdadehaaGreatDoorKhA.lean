/- The program's checker: checked, given what file does from its start. -/
import Derived.Test.YtbjianmjdadehaaGreatDoorKaAs
import Derived.Test.YtbjianmjdadehaaGreatDoorKeA
import Derived.Test.YtbjianmjdadehaaGreatDoorKcB
import Derived.Test.YtbjianmjdadehaaGreatDoorKaMark
import Derived.Test.YtbjianmjdadehaaGreatDoorKgC
import Derived.OwnWalk
set_option linter.unusedVariables false
namespace Go.Proofs.YtbjianmjdadehaaGreatDoor
open Go.RowKit

def FileStart : Prop := ∀ (T : Nd) (u : Value) (W : World) (B : Nat), W.heap.size = B + 2 → W.heap[B]? = some (.map #[] 0) →
  W.heap[B + 1]? = some (.cells #[.map (some B), .slice none 0 0, .slice none 0 0, .int .i64 0, .int .i64 0, .string ⟨#[]⟩, .slice none 0 0, .int .i64 0, .int .i64 0] 74 (0, 0)) →
  T.Fine → Row 0 B W T u → treeB T = true → T.cost ≤ 1048576 →
  Calls Tryz.prog 43 #[.pointer (some ⟨B + 1, 0, none⟩), T.val u] W fun e w' => match checkM T with
    | .ok X => e = .returned (.tuple #[]) ∧ Below B W w' ∧ ∃ a c, w'.cell? ⟨B + 1, 2, none⟩ = some (.slice a X.length c) ∧ w'.ownsRow (B + 2) 3 1 (.slice a X.length c) X.length (X.map (Value.int .i64))
    | .error p => e = .panicked [{ v := fltV p, recovered := false }] ∧ Below B W w'
structure Laid3 (w W : World) (T : Nd) (v tv x y : Value) : Prop where
  n0 : W.cell? ⟨w.heap.size, 0, none⟩ = some (.int .i64 T.kind)
  n1 : W.cell? ⟨w.heap.size, 1, none⟩ = some (.int .i64 T.num)
  n2 : W.cell? ⟨w.heap.size, 2, none⟩ = some (.string T.name)
  n3 : W.cell? ⟨w.heap.size, 3, none⟩ = some v
  t0 : W.cell? ⟨w.heap.size + 1, 0, none⟩ = some tv
  f0 : W.cell? ⟨w.heap.size + 1 + 1, 0, none⟩ = some x
  f1 : W.cell? ⟨w.heap.size + 1 + 1, 1, none⟩ = some y
  zt : W.frozen? ⟨w.heap.size + 1, 0, none⟩ = false
  z0 : W.frozen? ⟨w.heap.size + 1 + 1, 0, none⟩ = false
  z1 : W.frozen? ⟨w.heap.size + 1 + 1, 1, none⟩ = false
theorem laid3_start (w : World) (T : Nd) (v : Value) : Laid3 w (((w.alloc (.cells #[.int .i64 T.kind, .int .i64 T.num, .string T.name, v] 30)).alloc (.cells #[.slice none 0 0] 34)).alloc (.cells #[.int .i64 0, .int .i64 0] 54)) T v (.slice none 0 0) (.int .i64 0) (.int .i64 0) := by
  have hb := ((Below.refl _ (w.alloc (.cells #[.int .i64 T.kind, .int .i64 T.num, .string T.name, v] 30))).alloc (Nat.le_refl _) (.cells #[.slice none 0 0] 34)).alloc (by simp) (.cells #[.int .i64 0, .int .i64 0] 54)
  have hb2 := ((Below.refl _ ((w.alloc (.cells #[.int .i64 T.kind, .int .i64 T.num, .string T.name, v] 30)).alloc (.cells #[.slice none 0 0] 34)))).alloc (Nat.le_refl _) (.cells #[.int .i64 0, .int .i64 0] 54)
  have e1 := fun o => hb.cell (p := ⟨w.heap.size, o, none⟩) (by simp)
  have e2 := fun o => hb2.cell (p := ⟨w.heap.size + 1, o, none⟩) (by simp)
  have e3 := fun o => hb2.frozen (p := ⟨w.heap.size + 1, o, none⟩) (by simp)
  refine ⟨(e1 0).trans ?_, (e1 1).trans ?_, (e1 2).trans ?_, (e1 3).trans ?_, (e2 0).trans ?_, ?_, ?_, (e3 0).trans ?_, ?_, ?_⟩ <;> simp [go_sem]
theorem Laid3.keep {w W W' : World} {T : Nd} {v tv x y : Value} (h : Laid3 w W T v tv x y) {B : Nat} (hb : Below B W W') (hB : w.heap.size + 3 ≤ B) : Laid3 w W' T v tv x y := by
  have e0 := fun o => hb.cell (p := ⟨w.heap.size, o, none⟩) (by show w.heap.size < B; omega)
  have e1 := fun o => hb.cell (p := ⟨w.heap.size + 1, o, none⟩) (by show w.heap.size + 1 < B; omega)
  have e2 := fun o => hb.cell (p := ⟨w.heap.size + 1 + 1, o, none⟩) (by show w.heap.size + 1 + 1 < B; omega)
  have g1 := fun o => hb.frozen (p := ⟨w.heap.size + 1, o, none⟩) (by show w.heap.size + 1 < B; omega)
  have g2 := fun o => hb.frozen (p := ⟨w.heap.size + 1 + 1, o, none⟩) (by show w.heap.size + 1 + 1 < B; omega)
  exact ⟨(e0 _).trans h.n0, (e0 _).trans h.n1, (e0 _).trans h.n2, (e0 _).trans h.n3, (e1 _).trans h.t0, (e2 _).trans h.f0, (e2 _).trans h.f1, (g1 _).trans h.zt, (g2 _).trans h.z0, (g2 _).trans h.z1⟩
theorem own_base {w : World} {A B : Nat} {e : TypeId} {size n : Nat} {v : Value} {xs : List Value} (h : w.ownsRow B e size v n xs) (hA : A ≤ B) : w.ownsRow A e size v n xs := by
  obtain ⟨h1, h2⟩ := h
  refine ⟨h1, ?_⟩
  rcases h2 with h2 | ⟨g, cap, cur, e1, e2, h3⟩
  · exact .inl h2
  · exact .inr ⟨g, cap, cur, e1, by omega, h3⟩

theorem results_checked (tmps : Array Value) (b : Nat) (W : World) (tv x y : Value) (h2 : tmps[2]?.getD undef = .pointer (some ⟨b + 1, 0, none⟩)) (h3 : tmps[3]?.getD undef = .pointer (some ⟨b + 1 + 1, 0, none⟩)) (ht : W.cell? ⟨b + 1, 0, none⟩ = some tv) (hx : W.cell? ⟨b + 1 + 1, 0, none⟩ = some x) (hy : W.cell? ⟨b + 1 + 1, 1, none⟩ = some y) :
    (results Tryz.f26 tmps).run Tryz.prog W = .ok (.tuple #[tv, .agg #[x, y]]) W := by
  have hl := Ra.loadF (b + 1 + 1) x y W hx hy
  have h34 : (loadVar 34 ⟨b + 1, 0, none⟩).run Tryz.prog W = .ok tv W := by simp [loadVar, isAgg, underlying, Tryz.underlying34, ht, Result.andThen]
  unfold results
  rw [Tryz.results26]
  simp [asAddr, h2, h3, hl, h34, Result.andThen]
theorem three_cells (W : World) (b : Nat) (tv x y a0 a1 a2 : Value) (t0 : W.cell? ⟨b + 1, 0, none⟩ = some a0) (f0 : W.cell? ⟨b + 1 + 1, 0, none⟩ = some a1) (f1 : W.cell? ⟨b + 1 + 1, 1, none⟩ = some a2) :
    (((W.setCell ⟨b + 1, 0, none⟩ tv).setCell ⟨b + 1 + 1, 0, none⟩ x).setCell ⟨b + 1 + 1, 1, none⟩ y).cell? ⟨b + 1, 0, none⟩ = some tv ∧ (((W.setCell ⟨b + 1, 0, none⟩ tv).setCell ⟨b + 1 + 1, 0, none⟩ x).setCell ⟨b + 1 + 1, 1, none⟩ y).cell? ⟨b + 1 + 1, 0, none⟩ = some x ∧
      (((W.setCell ⟨b + 1, 0, none⟩ tv).setCell ⟨b + 1 + 1, 0, none⟩ x).setCell ⟨b + 1 + 1, 1, none⟩ y).cell? ⟨b + 1 + 1, 1, none⟩ = some y := by
  have s0 : (W.setCell ⟨b + 1, 0, none⟩ tv).cell? ⟨b + 1 + 1, 0, none⟩ = some a1 := by rw [cell_set W _ _ _ t0, if_neg (by omega)]; exact f0
  have s1 : ((W.setCell ⟨b + 1, 0, none⟩ tv).setCell ⟨b + 1 + 1, 0, none⟩ x).cell? ⟨b + 1 + 1, 1, none⟩ = some a2 := by rw [cell_set _ _ _ _ s0, if_neg (by omega), cell_set W _ _ _ t0, if_neg (by omega)]; exact f1
  refine ⟨?_, ?_, ?_⟩
  · rw [cell_set _ _ _ _ s1, if_neg (by omega), cell_set _ _ _ _ s0, if_neg (by omega), cell_set W _ _ _ t0, if_pos ⟨rfl, rfl⟩]
  · rw [cell_set _ _ _ _ s1, if_neg (by omega), cell_set _ _ _ _ s0, if_pos ⟨rfl, rfl⟩]
  · rw [cell_set _ _ _ _ s1, if_pos ⟨rfl, rfl⟩]
theorem three_cells' (W : World) (b : Nat) (tv x y a0 a1 a2 : Value) (t0 : W.cell? ⟨b + 1, 0, none⟩ = some a0) (f0 : W.cell? ⟨b + 1 + 1, 0, none⟩ = some a1) (f1 : W.cell? ⟨b + 1 + 1, 1, none⟩ = some a2) :
    (((W.setCell ⟨b + 1 + 1, 0, none⟩ x).setCell ⟨b + 1 + 1, 1, none⟩ y).setCell ⟨b + 1, 0, none⟩ tv).cell? ⟨b + 1, 0, none⟩ = some tv ∧ (((W.setCell ⟨b + 1 + 1, 0, none⟩ x).setCell ⟨b + 1 + 1, 1, none⟩ y).setCell ⟨b + 1, 0, none⟩ tv).cell? ⟨b + 1 + 1, 0, none⟩ = some x ∧
      (((W.setCell ⟨b + 1 + 1, 0, none⟩ x).setCell ⟨b + 1 + 1, 1, none⟩ y).setCell ⟨b + 1, 0, none⟩ tv).cell? ⟨b + 1 + 1, 1, none⟩ = some y := by
  have s1 : (W.setCell ⟨b + 1 + 1, 0, none⟩ x).cell? ⟨b + 1 + 1, 1, none⟩ = some a2 := by rw [cell_set W _ _ _ f0, if_neg (by omega)]; exact f1
  have s2 : ((W.setCell ⟨b + 1 + 1, 0, none⟩ x).setCell ⟨b + 1 + 1, 1, none⟩ y).cell? ⟨b + 1, 0, none⟩ = some a0 := by rw [cell_set _ _ _ _ s1, if_neg (by omega), cell_set W _ _ _ f0, if_neg (by omega)]; exact t0
  refine ⟨?_, ?_, ?_⟩
  · rw [cell_set _ _ _ _ s2, if_pos ⟨rfl, rfl⟩]
  · rw [cell_set _ _ _ _ s2, if_neg (by omega), cell_set _ _ _ _ s1, if_neg (by omega), cell_set W _ _ _ f0, if_pos ⟨rfl, rfl⟩]
  · rw [cell_set _ _ _ _ s2, if_neg (by omega), cell_set _ _ _ _ s1, if_pos ⟨rfl, rfl⟩]

theorem file_first (hFile : FileStart) (T : Nd) (w w2 : World) (u : Value) (hf : T.Fine) (hr : Row 0 w.heap.size w T u) (hb : Below w.heap.size w w2) (ht : treeB T = true) (hc : T.cost ≤ 1048576) :
    Calls Tryz.prog 43 #[.pointer (some ⟨w2.heap.size + 1, 0, none⟩), T.val u] ((w2.alloc (.map #[] 0)).alloc (.cells #[.map (some w2.heap.size), .slice none 0 0, .slice none 0 0, .int .i64 0, .int .i64 0, .string ⟨#[]⟩, .slice none 0 0, .int .i64 0, .int .i64 0] 74)) fun e w' => match checkM T with
    | .ok X => e = .returned (.tuple #[]) ∧ Below w2.heap.size ((w2.alloc (.map #[] 0)).alloc (.cells #[.map (some w2.heap.size), .slice none 0 0, .slice none 0 0, .int .i64 0, .int .i64 0, .string ⟨#[]⟩, .slice none 0 0, .int .i64 0, .int .i64 0] 74)) w' ∧ ∃ a c, w'.cell? ⟨w2.heap.size + 1, 2, none⟩ = some (.slice a X.length c) ∧ w'.ownsRow (w2.heap.size + 2) 3 1 (.slice a X.length c) X.length (X.map (Value.int .i64))
    | .error p => e = .panicked [{ v := fltV p, recovered := false }] ∧ Below w2.heap.size ((w2.alloc (.map #[] 0)).alloc (.cells #[.map (some w2.heap.size), .slice none 0 0, .slice none 0 0, .int .i64 0, .int .i64 0, .string ⟨#[]⟩, .slice none 0 0, .int .i64 0, .int .i64 0] 74)) w' := by
  have hbV : Below w2.heap.size w2 ((w2.alloc (.map #[] 0)).alloc (.cells #[.map (some w2.heap.size), .slice none 0 0, .slice none 0 0, .int .i64 0, .int .i64 0, .string ⟨#[]⟩, .slice none 0 0, .int .i64 0, .int .i64 0] 74)) := ((Below.refl _ _).alloc (Nat.le_refl _) _).alloc (by simp) _
  refine hFile T u _ w2.heap.size (by simp) ?_ ?_ hf (row_wide (row_below (hb.trans (hbV.mono hb.size)) (Nat.le_refl _) hr) (Nat.le_refl _) hb.size) ht hc
  · rw [show ((w2.alloc (.map #[] 0)).alloc (.cells #[.map (some w2.heap.size), .slice none 0 0, .slice none 0 0, .int .i64 0, .int .i64 0, .string ⟨#[]⟩, .slice none 0 0, .int .i64 0, .int .i64 0] 74)).heap[w2.heap.size]? = (w2.alloc (.map #[] 0)).heap[w2.heap.size]? from ((Below.refl _ _).alloc (Nat.le_refl _) _).block _ (by simp)]
    exact heap_alloc_new w2 _
  · have := heap_alloc_new (w2.alloc (.map #[] 0)) (.cells #[.map (some w2.heap.size), .slice none 0 0, .slice none 0 0, .int .i64 0, .int .i64 0, .string ⟨#[]⟩, .slice none 0 0, .int .i64 0, .int .i64 0] 74)
    simpa using this

def typesT (T : Nd) : List Int := if treeB T then (match checkM T with | .ok X => X | .error _ => []) else []
def codeC (T : Nd) : Int := if treeB T then (match checkM T with | .ok _ => 0 | .error p => p.1) else 1
def placeC (T : Nd) : Int := if treeB T then (match checkM T with | .ok _ => 0 | .error p => (p.2 : Int)) else 0

set_option maxHeartbeats 4000000 in
set_option maxRecDepth 100000 in
theorem checked_of (hFile : FileStart) (T : Nd) (w : World) (u : Value) (hf : T.Fine) (hr : Row 0 w.heap.size w T u) (hc : T.cost ≤ 1048576) (ht : Tabs w) (hg : w.cell? ⟨0, 0, none⟩ = some (Value.iface 110 (.agg #[Value.pointer (some ⟨4, 67, none⟩)]))) :
    Calls Tryz.prog 26 #[T.val u] w fun e w' => ∃ tv : Value, e = .returned (.tuple #[tv, .agg #[.int .i64 (codeC T), .int .i64 (placeC T)]]) ∧ w'.ownsRow w.heap.size 3 1 tv (typesT T).length ((typesT T).map (Value.int .i64)) ∧ Below w.heap.size w w' := by
  obtain ⟨a, cap, rfl, _⟩ := row_eq.1 hr
  have hmf : ∀ (fn : Fn) (first cap : Array Value) (w : World), (Instr.makeFunc fn first cap).run Tryz.prog w = .ok (.func fn first cap) w := fun _ _ _ _ => rfl
  have IM := hid_mk (fun W (hW : Below w.heap.size w W) => by have := impl_tree T W (.slice a T.len cap) hf (row_wide (row_below hW (Nat.le_refl _) hr) (Nat.le_refl _) hW.size) hc (tabs_below ht hW); rw [tree_one] at this; exact this)
  have HF := hid_mk hf
  have HR := hid_mk hr
  have HG := hid_mk hg
  have HFI := hid_mk hFile
  clear hf hr ht hg hFile
  unfold Nd.val at *
  by_cases hbt : treeB T = true
  · rw [hbt] at IM
    have HB0 := hid_mk ((((Below.refl w.heap.size w).alloc (Nat.le_refl _) (.cells #[.int .i64 T.kind, .int .i64 T.num, .string T.name, .slice a T.len cap] 30)).alloc (by simp) (.cells #[.slice none 0 0] 34)).alloc (by simp; omega) (.cells #[.int .i64 0, .int .i64 0] 54))
    have HL0 := hid_mk (laid3_start w T (.slice a T.len cap))
    cases hM : checkM T with
    | ok X =>
      have hX : typesT T = X := by unfold typesT; rw [if_pos hbt, hM]
      have hC : codeC T = 0 := by unfold codeC; rw [if_pos hbt, hM]
      have hP : placeC T = 0 := by unfold placeC; rw [if_pos hbt, hM]
      rw [hX, hC, hP]
      have HBT := hid_mk hbt
      have HM := hid_mk hM
      clear hX hC hP HG hM hbt
      have hmm := @run_makeMap Tryz.prog
      have HFF := hid_mk (fun w2 (hb : Below w.heap.size w w2) => by have := file_first HFI.out T w w2 (.slice a T.len cap) HF.out HR.out hb HBT.out hc; rw [HM.out] at this; unfold Nd.val at this; exact this)
      go_enter_defers Tryz.func26, Tryz.ntmps26
      go_wp2_with (first
        | (go_at_call 40; refine (IM.out _ HB0.out).mono ?_; rintro e w2 ⟨rfl, hb2⟩; have HB2 := hid_mk (HB0.out.trans (hb2.mono (by simp; omega))); have hz2 := hb2.size; have HL2 := hid_mk (HL0.out.keep hb2 (by simp)); have HV := hid_mk (((Below.refl w2.heap.size w2).alloc (Nat.le_refl _) (.map #[] 0)).alloc (by simp) (.cells #[.map (some w2.heap.size), .slice none 0 0, .slice none 0 0, .int .i64 0, .int .i64 0, .string ⟨#[]⟩, .slice none 0 0, .int .i64 0, .int .i64 0] 74)); obtain ⟨n0, n1, n2, n3, t0, f0, f1, zt, z0, z1⟩ := HL2.out.keep HV.out (by simp at hz2; omega); have HFL := hid_mk (HFF.out _ HB2.out); clear hb2 HL0 HB0 IM)
        | (go_at_call 43; refine HFL.out.mono ?_; rintro e w4 ⟨rfl, hb4, ta, tc, h2c, hown⟩; have HB4 := hid_mk (HB2.out.trans ((HV.out.trans hb4).mono (by simp at hz2; omega))); have HO4 := hid_mk hown; obtain ⟨n0, n1, n2, n3, t0, f0, f1, zt, z0, z1⟩ := (HL2.out.keep (HV.out.trans hb4) (by simp at hz2; omega)); clear hb4 hown HFL))
      refine leaves_cons (f := 41) (args := #[.pointer (some ⟨w.heap.size + 1 + 1, 0, none⟩), .pointer (some ⟨w.heap.size + 1, 0, none⟩)]) (by simp) (by simp [go_sem]) ?_
      refine (catch_idle _ _ _).mono ?_
      rintro e u' w'' ⟨rfl, rfl, rfl⟩
      obtain ⟨q0, q1, q2⟩ := three_cells w4 w.heap.size (.slice ta X.length tc) (.int .i64 0) (.int .i64 0) _ _ _ t0 f0 f1
      refine ⟨_, results_checked _ w.heap.size _ _ _ _ rfl rfl q0 q1 q2, _, rfl, ?_, ?_⟩
      · have hzz : w.heap.size + 3 ≤ w2.heap.size := by simp at hz2; omega
        refine own_base (own_calm HO4.out fun k hk => ?_) (by omega)
        have := (HO4.out.lt k hk).1
        rw [Below.heap_setCell _ _ _ _ (by show k ≠ w.heap.size + 1 + 1; omega), Below.heap_setCell _ _ _ _ (by show k ≠ w.heap.size + 1 + 1; omega), Below.heap_setCell _ _ _ _ (by show k ≠ w.heap.size + 1; omega)]
      · exact ((HB4.out.setCell (p := ⟨w.heap.size + 1, 0, none⟩) (by show w.heap.size ≤ w.heap.size + 1; omega) _).setCell (p := ⟨w.heap.size + 1 + 1, 0, none⟩) (by show w.heap.size ≤ w.heap.size + 1 + 1; omega) _).setCell (p := ⟨w.heap.size + 1 + 1, 1, none⟩) (by show w.heap.size ≤ w.heap.size + 1 + 1; omega) _
    | error p =>
      have hX : typesT T = [] := by unfold typesT; rw [if_pos hbt, hM]
      have hC : codeC T = p.1 := by unfold codeC; rw [if_pos hbt, hM]
      have hP : placeC T = (p.2 : Int) := by unfold placeC; rw [if_pos hbt, hM]
      rw [hX, hC, hP]
      have HBT := hid_mk hbt
      have HM := hid_mk hM
      clear hX hC hP hM hbt
      have hmm := @run_makeMap Tryz.prog
      have HFF := hid_mk (fun w2 (hb : Below w.heap.size w w2) => by have := file_first HFI.out T w w2 (.slice a T.len cap) HF.out HR.out hb HBT.out hc; rw [HM.out] at this; unfold Nd.val at this; exact this)
      go_enter_defers Tryz.func26, Tryz.ntmps26
      go_wp2_with (first
        | (go_at_call 40; refine (IM.out _ HB0.out).mono ?_; rintro e w2 ⟨rfl, hb2⟩; have HB2 := hid_mk (HB0.out.trans (hb2.mono (by simp; omega))); have hz2 := hb2.size; have HL2 := hid_mk (HL0.out.keep hb2 (by simp)); have HV := hid_mk (((Below.refl w2.heap.size w2).alloc (Nat.le_refl _) (.map #[] 0)).alloc (by simp) (.cells #[.map (some w2.heap.size), .slice none 0 0, .slice none 0 0, .int .i64 0, .int .i64 0, .string ⟨#[]⟩, .slice none 0 0, .int .i64 0, .int .i64 0] 74)); obtain ⟨n0, n1, n2, n3, t0, f0, f1, zt, z0, z1⟩ := HL2.out.keep HV.out (by simp at hz2; omega); have HFL := hid_mk (HFF.out _ HB2.out); clear hb2 HL0 HB0 IM)
        | (go_at_call 43; refine HFL.out.mono ?_; rintro e w4 ⟨rfl, hb4⟩; have HB4 := hid_mk (HB2.out.trans ((HV.out.trans hb4).mono (by simp at hz2; omega))); have HL4 := hid_mk (HL2.out.keep (HV.out.trans hb4) (by simp at hz2; omega)); have HV4 : Hid (w.heap.size + 3 ≤ w4.heap.size) := (by have := (HV.out.trans hb4).size; simp at hz2; unfold Hid; omega); clear hb4 HFL))
      refine leaves_cons (f := 41) (args := #[.pointer (some ⟨w.heap.size + 1 + 1, 0, none⟩), .pointer (some ⟨w.heap.size + 1, 0, none⟩)]) (by simp) (by simp [go_sem]) ?_
      have hL4 := HL4.out
      refine (catch_panicking (w.heap.size + 1 + 1) (w.heap.size + 1) p.1 (p.2 : Int) _ _ _ [] _ ((HB4.out.cell (p := ⟨0, 0, none⟩) (lt_of_cell HG.out)).trans HG.out) hL4.f0 hL4.f1 hL4.t0 hL4.z0 hL4.z1 hL4.zt (by omega)).mono ?_
      rintro e u' w'' ⟨rfl, rfl, W, hbW, rfl⟩
      have hz4 : w.heap.size + 3 ≤ w4.heap.size := by have := HV4.out; omega
      have hLW := hL4.keep hbW hz4
      obtain ⟨q0, q1, q2⟩ := three_cells' W w.heap.size (.slice none 0 0) (.int .i64 p.1) (.int .i64 (p.2 : Int)) _ _ _ hLW.t0 hLW.f0 hLW.f1
      refine ⟨_, results_checked _ w.heap.size _ _ _ _ rfl rfl q0 q1 q2, _, rfl, ⟨rfl, .inl ⟨rfl, rfl⟩⟩, ?_⟩
      exact (((HB4.out.trans (hbW.mono (by omega))).setCell (p := ⟨w.heap.size + 1 + 1, 0, none⟩) (by show w.heap.size ≤ w.heap.size + 1 + 1; omega) _).setCell (p := ⟨w.heap.size + 1 + 1, 1, none⟩) (by show w.heap.size ≤ w.heap.size + 1 + 1; omega) _).setCell (p := ⟨w.heap.size + 1, 0, none⟩) (by show w.heap.size ≤ w.heap.size + 1; omega) _
  · have hbt' : treeB T = false := by simpa using hbt
    rw [hbt'] at IM
    have hX : typesT T = [] := by unfold typesT; rw [if_neg hbt]
    have hC : codeC T = 1 := by unfold codeC; rw [if_neg hbt]
    have hP : placeC T = 0 := by unfold placeC; rw [if_neg hbt]
    rw [hX, hC, hP]
    clear hX hC hP HFI HG
    go_enter_defers Tryz.func26, Tryz.ntmps26
    have HB0 := hid_mk ((((Below.refl w.heap.size w).alloc (Nat.le_refl _) (.cells #[.int .i64 T.kind, .int .i64 T.num, .string T.name, .slice a T.len cap] 30)).alloc (by simp) (.cells #[.slice none 0 0] 34)).alloc (by simp; omega) (.cells #[.int .i64 0, .int .i64 0] 54))
    have HL0 := hid_mk (laid3_start w T (.slice a T.len cap))
    go_wp2_with (go_at_call 40; refine (IM.out _ HB0.out).mono ?_; rintro e w2 ⟨rfl, hb2⟩; have HB2 := hid_mk (HB0.out.trans (hb2.mono (by simp; omega))); obtain ⟨n0, n1, n2, n3, t0, f0, f1, zt, z0, z1⟩ := HL0.out.keep hb2 (by simp); clear hb2 HL0 HB0 IM)
    refine ⟨_, results_checked _ w.heap.size _ (.slice none 0 0) (.int .i64 1) (.int .i64 0) rfl rfl ?_ ?_ ?_, _, rfl, ⟨rfl, .inl ⟨rfl, rfl⟩⟩, ?_⟩
    · exact (three_cells w2 w.heap.size _ _ _ _ _ _ t0 f0 f1).1
    · exact (three_cells w2 w.heap.size _ _ _ _ _ _ t0 f0 f1).2.1
    · exact (three_cells w2 w.heap.size _ _ _ _ _ _ t0 f0 f1).2.2
    · exact ((HB2.out.setCell (p := ⟨w.heap.size + 1, 0, none⟩) (by show w.heap.size ≤ w.heap.size + 1; omega) _).setCell (p := ⟨w.heap.size + 1 + 1, 0, none⟩) (by show w.heap.size ≤ w.heap.size + 1 + 1; omega) _).setCell (p := ⟨w.heap.size + 1 + 1, 1, none⟩) (by show w.heap.size ≤ w.heap.size + 1 + 1; omega) _
end Go.Proofs.YtbjianmjdadehaaGreatDoor
namespace Go.Proofs.YtbjianmjdadehaaGreatDoor
open Go.RowKit

theorem kid_vals {T : Nd} {lo : Nat} {w : World} {a : Option Addr} {cap : Nat} (hr : Row 0 lo w T (.slice a T.len cap)) : ∃ uf : Nat → Value, (∀ j, j < T.len → Row 0 lo w (T.kids j) (uf j)) ∧
    (T.len ≠ 0 → ∃ g off, a = some ⟨g, off, none⟩ ∧ g < lo ∧ T.len ≤ cap ∧ ∀ i, i < T.len → (∃ au qu, uf i = .slice au (T.kids i).len qu) ∧ Row 0 lo w (T.kids i) (uf i) ∧ ∀ W, Below lo w W → W.cell? ⟨g, off + i * 4, none⟩ = some (.int .i64 (T.kids i).kind) ∧ W.cell? ⟨g, off + i * 4 + 1, none⟩ = some (.int .i64 (T.kids i).num) ∧
        W.cell? ⟨g, off + i * 4 + 2, none⟩ = some (.string (T.kids i).name) ∧ W.cell? ⟨g, off + i * 4 + 3, none⟩ = some (uf i)) := by
  by_cases h0 : T.len = 0
  · exact ⟨fun _ => .nilIface, fun j hj => absurd hj (by omega), fun h => absurd h0 h⟩
  · obtain ⟨g, off, cap', hv, hg, hcap, hk⟩ := ck_kid hr h0
    injection hv with e1 _ e3
    subst e1
    subst e3
    have hall : ∀ i, ∃ u, i < T.len → (∀ W, Below lo w W → W.cell? ⟨g, off + i * 4, none⟩ = some (.int .i64 (T.kids i).kind) ∧ W.cell? ⟨g, off + i * 4 + 1, none⟩ = some (.int .i64 (T.kids i).num) ∧
        W.cell? ⟨g, off + i * 4 + 2, none⟩ = some (.string (T.kids i).name) ∧ W.cell? ⟨g, off + i * 4 + 3, none⟩ = some u) ∧ Row 0 lo w (T.kids i) u := fun i => by
      by_cases hi : i < T.len
      · obtain ⟨u, h⟩ := hk i hi; exact ⟨u, fun _ => h⟩
      · exact ⟨.nilIface, fun h => absurd h hi⟩
    refine ⟨fun i => (hall i).choose, fun j hj => ((hall j).choose_spec hj).2, fun _ => ⟨g, off, rfl, hg, hcap.1, fun i hi => ⟨?_, ((hall i).choose_spec hi).2, ((hall i).choose_spec hi).1⟩⟩⟩
    obtain ⟨au, qu, e, _⟩ := row_eq.1 ((hall i).choose_spec hi).2
    exact ⟨au, qu, e⟩

theorem file_start : FileStart := by
  intro T u W B hz hmap hblk hf hr ht hc
  have hsz1 : T.size ≤ 600 := by unfold treeB at ht; simp only [Bool.and_eq_true, decide_eq_true_eq] at ht; exact ht.1.1.1.1
  obtain ⟨a, cap, rfl, hcap, _⟩ := row_eq.1 hr
  obtain ⟨uf, hu1, hu2⟩ := kid_vals hr
  have hS : IS (IK.bare ⟨B + 1, B, B, B + 2, 600, T, .slice a T.len cap, uf⟩) W (fun _ => False) ([], []) 0 0 0 W := by
    refine ⟨⟨by show B ≤ B + 1; omega, by show B ≤ B; omega, by show B + 1 < B + 2; omega, by show B < B + 2; omega, by show B + 1 ≠ B; omega, by show 600 ≤ 1048576; omega, .inl (by show B + 2 ≤ B + 1 + 1; omega)⟩, ⟨.slice none 0 0, .slice none 0 0, [], ⟨⟨_, _, _, hblk⟩, ⟨rfl, .inl ⟨rfl, rfl⟩⟩, ⟨rfl, .inl ⟨rfl, rfl⟩⟩, trivial⟩, ?_⟩, ?_, ⟨?_, ?_, ?_, ?_⟩, ⟨by show B < W.heap.size; omega, fun h => h⟩, Kept.refl _ _⟩
    · rintro k (h | h | h) <;> cases h
    · obtain ⟨es, clock, h1, h2⟩ := World.ownsMap_made W Tryz.prog 9 hv
      have h3 : (W.alloc (.map #[] 0)).heap[W.heap.size]? = some (.map #[] 0) := heap_alloc_new W _
      rw [h3] at h1
      injection h1 with h1
      injection h1 with h1 h1'
      subst h1
      subst h1'
      exact ⟨.map [], ⟨#[], 0, hmap, h2⟩, Maps.isMap_empty, fun s => ⟨fun z => rfl, rfl⟩⟩
    · exact Nat.le_refl _
    · exact Nat.zero_le _
    · exact Nat.zero_le _
    · intro l hl; cases hl
  have hE : IEnv ⟨B + 1, B, B, B + 2, 600, T, .slice a T.len cap, uf⟩ W := ⟨hf, hr, ht, hu1⟩
  have h := file_of ⟨B + 1, B, B, B + 2, 600, T, .slice a T.len cap, uf⟩ W _ W a cap rfl hcap.2 hS hE hc hsz1 hu2
  refine h.mono ?_
  intro e w' h'
  unfold Ans at h'
  cases hM : checkM T with
  | error p =>
    simp only [hM] at h'
    exact h'
  | ok X =>
    simp only [hM] at h'
    obtain ⟨h1, h2, w2, O2, ret, hs⟩ := h'
    refine ⟨h1, h2, ?_⟩
    obtain ⟨sv, tv, bs, hraw, _⟩ := hs.is
    obtain ⟨ta, tc, e, _, _⟩ := own_shape hraw.ty
    refine ⟨ta, tc, ?_, ?_⟩
    · obtain ⟨x0, x2, x3, hb⟩ := hraw.blk
      rw [World.cell?, hb, e]
      rfl
    · rw [← e]; exact hraw.ty
theorem impl_checked (T : Nd) (w : World) (u : Value) (hf : T.Fine) (hr : Row 0 w.heap.size w T u) (hc : T.cost ≤ 1048576) (ht : Tabs w) (hg : w.cell? ⟨0, 0, none⟩ = some (Value.iface 110 (.agg #[Value.pointer (some ⟨4, 67, none⟩)]))) :
    Calls Tryz.prog 26 #[T.val u] w fun e w' => ∃ tv : Value, e = .returned (.tuple #[tv, .agg #[.int .i64 (codeC T), .int .i64 (placeC T)]]) ∧ w'.ownsRow w.heap.size 3 1 tv (typesT T).length ((typesT T).map (Value.int .i64)) ∧ Below w.heap.size w w' :=
  checked_of file_start T w u hf hr hc ht hg
end Go.Proofs.YtbjianmjdadehaaGreatDoor
namespace Go.Proofs.YtbjianmjdadehaaGreatDoor
open Go.RowKit

def ErrG (w : World) : Prop := w.cell? ⟨0, 0, none⟩ = some (Value.iface 110 (.agg #[Value.pointer (some ⟨4, 67, none⟩)]))
theorem ErrG.later {w w' : World} (h : ErrG w) (hb : Below w.heap.size w w') : ErrG w' := (hb.cell (p := ⟨0, 0, none⟩) (lt_of_cell h)).trans h

set_option maxHeartbeats 2000000 in
set_option maxRecDepth 100000 in
theorem impl_check (T : Nd) (w : World) (u : Value) (hf : T.Fine) (hr : Row 0 w.heap.size w T u) (hc : T.cost ≤ 1048576) (ht : Tabs w) (hg : ErrG w) :
    Calls Tryz.prog 9 #[T.val u] w fun e w' => e = .returned (.tuple #[.int .i64 (codeC T), .int .i64 (placeC T)]) ∧ Below w.heap.size w w' := by
  obtain ⟨a, cap, rfl, _⟩ := row_eq.1 hr
  have HB0 := hid_mk ((Below.refl w.heap.size w).alloc (Nat.le_refl _) (.cells #[.int .i64 T.kind, .int .i64 T.num, .string T.name, .slice a T.len cap] 30))
  have CK := hid_mk (fun W (hW : Below w.heap.size w W) => impl_checked T W (.slice a T.len cap) hf (row_wide (row_below hW (Nat.le_refl _) hr) (Nat.le_refl _) hW.size) hc (tabs_below ht hW) (hg.later hW))
  clear hf hr ht hg
  unfold Nd.val at *
  generalize codeC T = cc at *
  generalize placeC T = pp at *
  go_enter Tryz.func9, Tryz.ntmps9
  go_wp2_with (go_at_call 26; refine (CK.out _ HB0.out).mono ?_; rintro e w2 ⟨tv, rfl, hown, hb2⟩; obtain ⟨ta, tc, rfl, _, _⟩ := own_shape hown; have HB2 := hid_mk (HB0.out.trans (hb2.mono (by simp))); clear hb2 hown)
  go_region
  all_goals go_wp2
  all_goals refine bodyPost_ret (v := .tuple #[.int .i64 cc, .int .i64 pp]) (by simp [results, Tryz.results9, go_sem]) rfl ⟨rfl, ?_⟩
  all_goals exact (HB2.out.alloc HB2.out.size _).drew

set_option maxHeartbeats 2000000 in
set_option maxRecDepth 100000 in
theorem impl_types (T : Nd) (w : World) (u : Value) (hf : T.Fine) (hr : Row 0 w.heap.size w T u) (hc : T.cost ≤ 1048576) (ht : Tabs w) (hg : ErrG w) :
    Calls Tryz.prog 12 #[T.val u] w fun e w' => ∃ tv, e = .returned (.tuple #[tv, .int .i64 (codeC T), .int .i64 (placeC T)]) ∧ w'.ownsRow w.heap.size 3 1 tv (typesT T).length ((typesT T).map (Value.int .i64)) ∧ Below w.heap.size w w' := by
  obtain ⟨a, cap, rfl, _⟩ := row_eq.1 hr
  have HB0 := hid_mk ((Below.refl w.heap.size w).alloc (Nat.le_refl _) (.cells #[.int .i64 T.kind, .int .i64 T.num, .string T.name, .slice a T.len cap] 30))
  have CK := hid_mk (fun W (hW : Below w.heap.size w W) => impl_checked T W (.slice a T.len cap) hf (row_wide (row_below hW (Nat.le_refl _) hr) (Nat.le_refl _) hW.size) hc (tabs_below ht hW) (hg.later hW))
  clear hf hr ht hg
  unfold Nd.val at *
  generalize codeC T = cc at *
  generalize placeC T = pp at *
  go_enter Tryz.func12, Tryz.ntmps12
  go_wp2_with (go_at_call 26; refine (CK.out _ HB0.out).mono ?_; rintro e w2 ⟨tv, rfl, hown, hb2⟩; obtain ⟨ta, tc, rfl, _, _⟩ := own_shape hown; have HB2 := hid_mk (HB0.out.trans (hb2.mono (by simp))); have HO2 := hid_mk hown; clear hb2 hown)
  go_region
  all_goals go_wp2
  all_goals refine bodyPost_ret (v := .tuple #[.slice ta (typesT T).length tc, .int .i64 cc, .int .i64 pp]) (by simp [results, Tryz.results12, go_sem]) rfl ⟨_, rfl, ?_, ?_⟩
  · exact (own_base (own_calm HO2.out fun k hk => ((Below.refl w2.heap.size w2).alloc (Nat.le_refl _) _).block k (HO2.out.lt k hk).2) (by simp)).drew
  · exact (HB2.out.alloc HB2.out.size _).drew
end Go.Proofs.YtbjianmjdadehaaGreatDoor
