/- The laws' comparison of two copies of what was seen; the specification's comparison. -/
import Derived.Test.YtjgbjahcnnjfpaaDoorSeEq
set_option linter.unusedVariables false
namespace Go.Proofs.YtjgbjahcnnjfpaaDoor
open Go.RowKit

set_option maxHeartbeats 4000000 in
theorem eq_seen (s : Sn) (va vb ua ub : Value) (la ha lb hb : Nat) (w : World) (hc : s.cost ≤ 1048576) (hha : ha ≤ w.heap.size) (hhb : hb ≤ w.heap.size) (h : At la ha w s va vb) (h' : At lb hb w s ua ub) :
    Calls Tryd.prog 11 #[s.val va vb, s.val ua ub] w fun e w' => e = .returned (.bool true) ∧ Below w.heap.size w w' := by
  unfold Sn.cost at hc
  obtain ⟨aa, ca, rfl⟩ := h.1.shape
  obtain ⟨ab, cb, rfl⟩ := h.2.shape
  obtain ⟨ba, da, rfl⟩ := h'.1.shape
  obtain ⟨bb, db, rfl⟩ := h'.2.shape
  have E1 := hid_mk (fun W (hb' : Below w.heap.size w W) => eq_ints s.tr _ _ la ha lb hb W (by omega) (by have := hb'.size; omega) (by have := hb'.size; omega) (h.1.below hb' hha) (h'.1.below hb' hhb))
  have E2 := hid_mk (fun W (hb' : Below w.heap.size w W) => eq_ints s.sc _ _ la ha lb hb W (by omega) (by have := hb'.size; omega) (by have := hb'.size; omega) (h.2.below hb' hha) (h'.2.below hb' hhb))
  clear h h'
  unfold Sn.val
  generalize s.k = sk
  generalize s.c = sc
  generalize s.v = sv
  have k1 : (sk != sk) = false := by simp
  have k2 : (sc != sc) = false := by simp
  have k3 : (sv != sv) = false := by simp
  have HB : ∀ a b : Obj, Hid (Below w.heap.size w ((w.alloc a).alloc b)) := fun a b => ((Below.refl _ _).alloc (Nat.le_refl _) _).alloc (by simp) _
  have P0 : Hid (Five ((w.alloc (.cells #[.int .i64 sk, .int .i64 sc, .int .i64 sv, .slice aa s.tr.length ca, .slice ab s.sc.length cb] 27)).alloc (.cells #[.int .i64 sk, .int .i64 sc, .int .i64 sv, .slice ba s.tr.length da, .slice bb s.sc.length db] 27)) w.heap.size 0 (.int .i64 sk) (.int .i64 sc) (.int .i64 sv) (.slice aa s.tr.length ca) (.slice ab s.sc.length cb)) := by
    unfold Hid Five; simp [go_sem]
  have Q0 : Hid (Five ((w.alloc (.cells #[.int .i64 sk, .int .i64 sc, .int .i64 sv, .slice aa s.tr.length ca, .slice ab s.sc.length cb] 27)).alloc (.cells #[.int .i64 sk, .int .i64 sc, .int .i64 sv, .slice ba s.tr.length da, .slice bb s.sc.length db] 27)) (w.heap.size + 1) 0 (.int .i64 sk) (.int .i64 sc) (.int .i64 sv) (.slice ba s.tr.length da) (.slice bb s.sc.length db)) := by
    unfold Hid Five; simp [go_sem]
  go_enter Tryd.func11, Tryd.ntmps11
  go_wp2_with fail
  refine (E1.out _ (HB _ _).out).mono ?_
  rintro e w1 ⟨rfl, hb1⟩
  have P1 := P0.out.keep hb1 (by simp; omega)
  have Q1 := Q0.out.keep hb1 (by simp)
  obtain ⟨x0, x1, x2, x3, x4⟩ := P1
  obtain ⟨y0, y1, y2, y3, y4⟩ := Q1
  have B1 := hid_mk ((HB _ _).out.trans (hb1.mono (by simp; omega)))
  clear P0 Q0 hb1 E1
  go_wp2_with fail
  refine (E2.out _ B1.out).mono ?_
  rintro e w2 ⟨rfl, hb2⟩
  have B2 := hid_mk (B1.out.trans (hb2.mono B1.out.size))
  clear hb2 E2
  go_wp2
  go_ret
  exact ⟨rfl, B2.out⟩
end Go.Proofs.YtjgbjahcnnjfpaaDoor
