/- The program's comparison of what was seen. -/
import Derived.Test.YtjgbjahcnnjfpaaDoorSeState
import Derived.RegionTactic
import Derived.BigRegion
import Derived.Deep.RegionWith
import Derived.Laws.StructEq
set_option linter.unusedVariables false
namespace Go.Proofs.YtjgbjahcnnjfpaaDoor
open Go.RowKit

set_option maxRecDepth 100000 in
theorem eq_state (a b c : Int) (s : ByteArray) (a' b' c' : Int) (s' : ByteArray) (w : World) :
    (Op.equalIn 10000 51 (.agg #[.int .i64 a, .int .i64 b, .int .i64 c, .string s]) (.agg #[.int .i64 a', .int .i64 b', .int .i64 c', .string s'])).run Tryd.prog w = .ok (decide (a = a' ∧ b = b' ∧ c = c' ∧ s = s')) w := by
  have u3 := Tryd.underlying3
  have a3 := Tryd.isAgg3
  have z3 := Tryd.sizeOf3
  have u9 := Tryd.underlying9
  have a9 := Tryd.isAgg9
  have z9 := Tryd.sizeOf9
  have hS : Tryd.prog.underlying 51 = some (.struct (Tryd.prog.fieldsOf 51)) := by kernel_rfl
  have hp : Tryd.prog.stoodInHeld 51 = false := by kernel_rfl
  have hq : (s.toList == s'.toList) = decide (s = s') := by
    by_cases h : s = s'
    · subst h; simp
    · rw [decide_eq_false h, beq_eq_false_iff_ne]
      intro e
      rw [ByteArray.toList_eq, ByteArray.toList_eq] at e
      exact h (by cases s; cases s'; simp only at e; congr; exact Array.ext' e)
  rw [show (10000 : Nat) = 9999 + 1 from rfl, run_equalIn_agg w 9999 51 _ _ hS hp]
  simp only [Program.fieldsOf, Tryd.underlying51]
  go_simp
  by_cases h1 : a = a' <;> by_cases h2 : b = b' <;> by_cases h3 : c = c' <;> by_cases h4 : s = s' <;> simp [h1, h2, h3, h4]


set_option maxHeartbeats 8000000 in
set_option maxRecDepth 100000 in
theorem impl_same (s t : Sn) (va vb ua ub : Value) (la ha lb hb : Nat) (w : World) (hs : s.Ok) (ht : t.Ok) (hc : s.cost ≤ 1048576) (hd : t.cost ≤ 1048576) (hha : ha ≤ w.heap.size) (hhb : hb ≤ w.heap.size) (h : At la ha w s va vb) (h' : At lb hb w t ua ub) (hT : Tab w) :
    Calls Tryd.prog 10 #[s.val va vb, t.val ua ub] w fun e w' => e = .returned (.bool (sameB s t)) ∧ Below w.heap.size w w' := by
  obtain ⟨aa, ca, rfl⟩ := h.1.shape
  obtain ⟨ab, cb, rfl⟩ := h.2.shape
  obtain ⟨ba, da, rfl⟩ := h'.1.shape
  obtain ⟨bb, db, rfl⟩ := h'.2.shape
  have C1 := hid_mk (fun W (hb' : Below w.heap.size w W) => state_of s _ _ la ha W hs hc (by have := hb'.size; omega) (h.below hb' hha) (Tab.later (B := 0) hT hb'))
  have C2 := hid_mk (fun W (hb' : Below w.heap.size w W) => state_of t _ _ lb hb W ht hd (by have := hb'.size; omega) (h'.below hb' hhb) (Tab.later (B := 0) hT hb'))
  clear h h' hT
  unfold Sn.val Sn.key at *
  have HS : Hid (∀ b, (b = true ↔ s.k = t.k ∧ s.c = t.c ∧ s.v = t.v ∧ traceS s.tr = traceS t.tr) → b = sameB s t) := by
    intro b hb
    unfold sameB
    cases b with
    | true =>
      obtain ⟨h1, h2, h3, h4⟩ := hb.1 rfl
      rw [decide_eq_true ⟨h1, h2, h3, traceS_inj h4⟩]
    | false =>
      rw [decide_eq_false]
      rintro ⟨h1, h2, h3, h4⟩
      exact absurd (hb.2 ⟨h1, h2, h3, by rw [h4]⟩) (by simp)
  generalize sameB s t = bq at *
  generalize traceS s.tr = st at *
  generalize traceS t.tr = tt at *
  generalize s.k = sk at *
  generalize s.c = sc at *
  generalize s.v = sv at *
  generalize t.k = tk at *
  generalize t.c = tc at *
  generalize t.v = tv at *
  have heq := fun W => eq_state sk sc sv st tk tc tv tt W
  rw [HS.out (decide (sk = tk ∧ sc = tc ∧ sv = tv ∧ st = tt)) (by simp)] at heq
  clear HS
  have HB : ∀ a b : Obj, Hid (Below w.heap.size w ((w.alloc a).alloc b)) := fun a b => ((Below.refl _ _).alloc (Nat.le_refl _) _).alloc (by simp) _
  have P0 : Hid (Five ((w.alloc (.cells #[.int .i64 sk, .int .i64 sc, .int .i64 sv, .slice aa s.tr.length ca, .slice ab s.sc.length cb] 27)).alloc (.cells #[.int .i64 tk, .int .i64 tc, .int .i64 tv, .slice ba t.tr.length da, .slice bb t.sc.length db] 27)) w.heap.size 0 (.int .i64 sk) (.int .i64 sc) (.int .i64 sv) (.slice aa s.tr.length ca) (.slice ab s.sc.length cb)) := by
    unfold Hid Five; simp [go_sem]
  have Q0 : Hid (Five ((w.alloc (.cells #[.int .i64 sk, .int .i64 sc, .int .i64 sv, .slice aa s.tr.length ca, .slice ab s.sc.length cb] 27)).alloc (.cells #[.int .i64 tk, .int .i64 tc, .int .i64 tv, .slice ba t.tr.length da, .slice bb t.sc.length db] 27)) (w.heap.size + 1) 0 (.int .i64 tk) (.int .i64 tc) (.int .i64 tv) (.slice ba t.tr.length da) (.slice bb t.sc.length db)) := by
    unfold Hid Five; simp [go_sem]
  have B0 := hid_mk ((HB (.cells #[.int .i64 sk, .int .i64 sc, .int .i64 sv, .slice aa s.tr.length ca, .slice ab s.sc.length cb] 27) (.cells #[.int .i64 tk, .int .i64 tc, .int .i64 tv, .slice ba t.tr.length da, .slice bb t.sc.length db] 27)).out)
  have hsz : w.heap.size + 2 ≤ ((w.alloc (.cells #[.int .i64 sk, .int .i64 sc, .int .i64 sv, .slice aa s.tr.length ca, .slice ab s.sc.length cb] 27)).alloc (.cells #[.int .i64 tk, .int .i64 tc, .int .i64 tv, .slice ba t.tr.length da, .slice bb t.sc.length db] 27)).heap.size := by simp
  go_enter Tryd.func10, Tryd.ntmps10
  go_wp2_with fail
  revert P0 Q0 B0 hsz
  generalize ((w.alloc (.cells #[.int .i64 sk, .int .i64 sc, .int .i64 sv, .slice aa s.tr.length ca, .slice ab s.sc.length cb] 27)).alloc (.cells #[.int .i64 tk, .int .i64 tc, .int .i64 tv, .slice ba t.tr.length da, .slice bb t.sc.length db] 27)) = W
  intro P0 Q0 B0 hsz
  obtain ⟨x0, x1, x2, x3, x4⟩ := P0.out
  obtain ⟨y0, y1, y2, y3, y4⟩ := Q0.out
  simp only [Nat.zero_add] at x1 x2 x3 x4 y1 y2 y3 y4
  have D0 : Hid (Below w.heap.size w W.drew) := B0.out.drew
  have DW : Hid (Below W.heap.size W W.drew) := (Below.refl _ _).drew
  go_region_with (first | (go_at_call 26; refine (C1.out _ D0.out).mono ?_; rintro e w1 ⟨rfl, hb1⟩; have hz1 : W.heap.size ≤ w1.heap.size := hb1.size; have B1 := hid_mk (D0.out.trans (hb1.mono (by show w.heap.size ≤ W.heap.size; omega))); obtain ⟨z0, z1, z2, z3, z4⟩ := (show Five W.drew _ _ _ _ _ _ _ from Q0.out).keep hb1 (by show w.heap.size + 1 < W.heap.size; omega); simp only [Nat.zero_add] at z1 z2 z3 z4; clear C1 hb1) | (go_at_call 26; refine (C2.out _ B1.out).mono ?_; rintro e w2 ⟨rfl, hb2⟩; have B2 := hid_mk (B1.out.trans (hb2.mono (by omega))); clear C2 hb2))
  all_goals go_wp2
  all_goals go_ret
  all_goals exact ⟨rfl, B2.out⟩
end Go.Proofs.YtjgbjahcnnjfpaaDoor
