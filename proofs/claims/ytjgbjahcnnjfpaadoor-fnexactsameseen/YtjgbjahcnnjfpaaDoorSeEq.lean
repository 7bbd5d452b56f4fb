/- The laws' comparison of two copies, and the specification's of two lists. -/
import Derived.Test.YtjgbjahcnnjfpaaDoorSeIl
import Derived.RegionTactic
import Derived.BigRegion
import Derived.Deep.RegionWith
import Derived.WalkSpells
import Derived.WalkSmall
set_option linter.unusedVariables false
namespace Go.Proofs.YtjgbjahcnnjfpaaDoor
open Go.RowKit

set_option maxHeartbeats 4000000 in
theorem eq_ints (xs : List Int) (va vb : Value) (la ha lb hb : Nat) (w : World) (hl : xs.length ≤ 1099511627776) (hha : ha ≤ w.heap.size) (hhb : hb ≤ w.heap.size) (h1 : Il la ha w xs va) (h2 : Il lb hb w xs vb) :
    Calls Tryd.prog 27 #[va, vb] w fun e w' => e = .returned (.bool true) ∧ Below w.heap.size w w' := by
  obtain ⟨a, ca, rfl, q1⟩ := h1
  obtain ⟨b, cb, rfl, q2⟩ := h2
  have HA := hid_mk q1
  have HB := hid_mk q2
  clear q1 q2
  go_enter Tryd.func27, Tryd.ntmps27
  go_wp2
  go_loopw [5] (fun i wr => ∃ k : Nat, k ≤ xs.length ∧ i = .int .i64 k ∧ Below w.heap.size w wr) (fun i _ => xs.length - (intOf i).toNat)
  case atStart => exact ⟨0, by omega, rfl, Below.refl _ _⟩
  case round =>
    obtain ⟨k, hk, rfl, hbw⟩ := hrel
    by_cases hlt : k < xs.length
    · rcases HA.out with h0 | ⟨ga, oa, rfl, _, hga, h3⟩
      · omega
      rcases HB.out with h0 | ⟨gb, ob, rfl, _, hgb, h4⟩
      · omega
      have a0 := h3 k hlt
      have b0 := h4 k hlt
      rw [← hbw.cell (p := ⟨ga, _, none⟩) (by show ga < w.heap.size; omega)] at a0
      rw [← hbw.cell (p := ⟨gb, _, none⟩) (by show gb < w.heap.size; omega)] at b0
      clear h3 h4
      generalize xs[k] = tk at *
      have hbb : (tk != tk) = false := by simp
      have hki : (k : Int) < (xs.length : Int) := by omega
      have HBD := hid_mk hbw.drew
      go_wp2
      go_region
      all_goals go_wp2
      all_goals exact ⟨⟨k + 1, by omega, by go_num, by first | exact hbw | exact HBD.out⟩, by simp [intOf]; omega⟩
    · go_wp2
      go_ret
      exact ⟨rfl, hbw⟩

theorem take_ne {xs ys : List Int} (k : Nat) (hk : k < xs.length) (hk' : k < ys.length) (h : xs[k] ≠ ys[k]) : xs ≠ ys := by
  intro e; subst e; exact h rfl
theorem take_succ {xs ys : List Int} (k : Nat) (hk : k < xs.length) (hk' : k < ys.length) (h : xs[k] = ys[k]) (ht : xs.take k = ys.take k) : xs.take (k + 1) = ys.take (k + 1) := by
  rw [List.take_succ_eq_append_getElem hk, List.take_succ_eq_append_getElem hk', ht, h]

set_option maxHeartbeats 4000000 in
theorem same_ints (xs ys : List Int) (va vb : Value) (la ha lb hb : Nat) (w : World) (hlx : xs.length ≤ 1099511627776) (hly : ys.length ≤ 1099511627776) (hha : ha ≤ w.heap.size) (hhb : hb ≤ w.heap.size) (h1 : Il la ha w xs va) (h2 : Il lb hb w ys vb) :
    Calls Tryd.prog 24 #[va, vb] w fun e w' => e = .returned (.bool (decide (xs = ys))) ∧ Below w.heap.size w w' := by
  obtain ⟨a, ca, rfl, q1⟩ := h1
  obtain ⟨b, cb, rfl, q2⟩ := h2
  have HA := hid_mk q1
  have HB := hid_mk q2
  clear q1 q2
  by_cases hlen : xs.length = ys.length
  · go_enter Tryd.func24, Tryd.ntmps24
    have hln : ((xs.length : Int) != (ys.length : Int)) = false := by simp [hlen]
    have HL := hid_mk hlen
    clear hlen
    go_wp2
    go_loopw [5] (fun i wr => ∃ k : Nat, k ≤ xs.length ∧ i = .int .i64 k ∧ Below w.heap.size w wr ∧ Hid (xs.take k = ys.take k)) (fun i _ => xs.length - (intOf i).toNat)
    case atStart => exact ⟨0, by omega, rfl, Below.refl _ _, by simp [Hid]⟩
    case round =>
      obtain ⟨k, hk, rfl, hbw, htk⟩ := hrel
      clear hln
      by_cases hlt : k < xs.length
      · have hlt' : k < ys.length := by rw [← HL.out]; exact hlt
        rcases HA.out with h0 | ⟨ga, oa, rfl, _, hga, h3⟩
        · omega
        rcases HB.out with h0 | ⟨gb, ob, rfl, _, hgb, h4⟩
        · omega
        have a0 := h3 k hlt
        have b0 := h4 k hlt'
        rw [← hbw.cell (p := ⟨ga, _, none⟩) (by show ga < w.heap.size; omega)] at a0
        rw [← hbw.cell (p := ⟨gb, _, none⟩) (by show gb < w.heap.size; omega)] at b0
        clear h3 h4
        have hki : (k : Int) < (xs.length : Int) := by omega
        have hki' : (k : Int) < (ys.length : Int) := by omega
        have HBD := hid_mk hbw.drew
        by_cases hx : xs[k] = ys[k]
        · have HT := hid_mk (take_succ k hlt hlt' hx htk.out)
          rw [hx] at a0
          clear hx htk
          generalize ys[k] = tk at *
          have hbb : (tk != tk) = false := by simp
          go_wp2
          go_region
          all_goals go_wp2
          all_goals exact ⟨⟨k + 1, by omega, by go_num, by first | exact hbw | exact HBD.out, HT.out⟩, by simp [intOf]; omega⟩
        · have HN := hid_mk (take_ne k hlt hlt' hx)
          have hbb : (xs[k] != ys[k]) = true := by simp [hx]
          clear hx htk
          generalize xs[k] = ta at *
          generalize ys[k] = tb at *
          go_wp2
          go_region
          all_goals go_wp2
          all_goals go_ret
          all_goals exact ⟨by rw [decide_eq_false HN.out]; rfl, by first | exact hbw | exact HBD.out⟩
      · go_wp2
        go_ret
        have hkk : k = xs.length := by omega
        refine ⟨?_, hbw⟩
        have := htk.out
        rw [hkk, List.take_length] at this
        rw [HL.out, List.take_length] at this
        rw [decide_eq_true this]; rfl
  · have hd : decide (xs = ys) = false := decide_eq_false (fun e => hlen (by rw [e]))
    rw [hd]
    have hln : ((xs.length : Int) != (ys.length : Int)) = true := by simp; omega
    clear hd
    go_enter Tryd.func24, Tryd.ntmps24
    go_wp2
    go_ret
    exact ⟨rfl, Below.refl _ _⟩
end Go.Proofs.YtjgbjahcnnjfpaaDoor
