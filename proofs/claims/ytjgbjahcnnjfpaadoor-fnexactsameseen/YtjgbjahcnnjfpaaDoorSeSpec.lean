/- The specification's comparison of what was seen. -/
import Derived.Test.YtjgbjahcnnjfpaaDoorSeEq
set_option linter.unusedVariables false
namespace Go.Proofs.YtjgbjahcnnjfpaaDoor
open Go.RowKit

set_option maxHeartbeats 8000000 in
theorem spec_same (s t : Sn) (va vb ua ub : Value) (la ha lb hb : Nat) (w : World) (hc : s.cost ≤ 1048576) (hd : t.cost ≤ 1048576) (hha : ha ≤ w.heap.size) (hhb : hb ≤ w.heap.size) (h : At la ha w s va vb) (h' : At lb hb w t ua ub) :
    Calls Tryd.prog 8 #[s.val va vb, t.val ua ub] w fun e w' => e = .returned (.bool (sameB s t)) ∧ Below w.heap.size w w' := by
  unfold Sn.cost at hc hd
  obtain ⟨aa, ca, rfl⟩ := h.1.shape
  obtain ⟨ab, cb, rfl⟩ := h.2.shape
  obtain ⟨ba, da, rfl⟩ := h'.1.shape
  obtain ⟨bb, db, rfl⟩ := h'.2.shape
  have E1 := hid_mk (fun W (hb' : Below w.heap.size w W) => same_ints s.tr t.tr _ _ la ha lb hb W (by omega) (by omega) (by have := hb'.size; omega) (by have := hb'.size; omega) (h.1.below hb' hha) (h'.1.below hb' hhb))
  clear h h'
  unfold Sn.val sameB
  generalize s.k = sk
  generalize s.c = sc
  generalize s.v = sv
  generalize t.k = tk
  generalize t.c = tc
  generalize t.v = tv
  have HB : ∀ a b : Obj, Hid (Below w.heap.size w ((w.alloc a).alloc b)) := fun a b => ((Below.refl _ _).alloc (Nat.le_refl _) _).alloc (by simp) _
  by_cases k1 : sk = tk
  · by_cases k2 : sc = tc
    · by_cases k3 : sv = tv
      · subst k1 k2 k3
        have k1 : (sk == sk) = true := by simp
        have k2 : (sc == sc) = true := by simp
        have k3 : (sv == sv) = true := by simp
        have e : decide (sk = sk ∧ sc = sc ∧ sv = sv ∧ s.tr = t.tr) = decide (s.tr = t.tr) := by simp
        rw [e]
        clear e
        go_enter Tryd.func8, Tryd.ntmps8
        go_wp2_with fail
        refine (E1.out _ (HB _ _).out).mono ?_
        generalize hq : decide (s.tr = t.tr) = bq
        have HQ := hid_mk hq
        clear hq
        rintro e w1 ⟨rfl, hb1⟩
        have B1 := hid_mk ((HB _ _).out.trans (hb1.mono (by simp; omega)))
        clear hb1 E1
        go_wp2
        go_ret
        refine ⟨?_, B1.out⟩
        rw [HQ.out]; rfl
      · have e : decide (sk = tk ∧ sc = tc ∧ sv = tv ∧ s.tr = t.tr) = false := by simp [k3]
        have k3 : (sv == tv) = false := by simp [k3]
        subst k1 k2
        have k1 : (sk == sk) = true := by simp
        have k2 : (sc == sc) = true := by simp
        rw [e]
        clear e E1
        go_enter Tryd.func8, Tryd.ntmps8
        go_wp2
        go_ret
        exact ⟨rfl, (HB _ _).out⟩
    · have e : decide (sk = tk ∧ sc = tc ∧ sv = tv ∧ s.tr = t.tr) = false := by simp [k2]
      have k2 : (sc == tc) = false := by simp [k2]
      subst k1
      have k1 : (sk == sk) = true := by simp
      rw [e]
      clear e E1
      go_enter Tryd.func8, Tryd.ntmps8
      go_wp2
      go_ret
      exact ⟨rfl, (HB _ _).out⟩
  · have e : decide (sk = tk ∧ sc = tc ∧ sv = tv ∧ s.tr = t.tr) = false := by simp [k1]
    have k1 : (sk == tk) = false := by simp [k1]
    rw [e]
    clear e E1
    go_enter Tryd.func8, Tryd.ntmps8
    go_wp2
    go_ret
    exact ⟨rfl, (HB _ _).out⟩
end Go.Proofs.YtjgbjahcnnjfpaaDoor
