/- The laws' comparison of two copies of a list of what was seen. -/
import Derived.Test.YtnjidekfmmebiaaDoorSwRow
import Derived.Test.YtnjidekfmmebiaaDoorSeEq2
set_option linter.unusedVariables false
namespace Go.Proofs.YtnjidekfmmebiaaDoor
open Go.RowKit

set_option maxHeartbeats 4000000 in
theorem eq_seens (ss : List Sn) (u v : Value) (la ha lb hb : Nat) (w : World) (hc : costS ss ≤ 1048576) (hha : ha ≤ w.heap.size) (hhb : hb ≤ w.heap.size) (h : Rw la ha w ss u) (h' : Rw lb hb w ss v) :
    Calls Tryd.prog 9 #[u, v] w fun e w' => e = .returned (.bool true) ∧ Below w.heap.size w w' := by
  obtain ⟨a, ca, rfl, hq⟩ := h
  obtain ⟨b, cb, rfl, hq'⟩ := h'
  have hl20 : ss.length ≤ 1048576 := Nat.le_trans (len_cost ss) hc
  have HQ := hid_mk hq
  have HQ' := hid_mk hq'
  have HC := hid_mk (fun i (hi : i < ss.length) => Nat.le_trans (cost_at ss i hi) hc)
  clear hq hq' hc
  go_enter Tryd.func9, Tryd.ntmps9
  go_wp2
  go_loopw [5] (fun i wr => ∃ j : Nat, j ≤ ss.length ∧ i = .int .i64 j ∧ Below w.heap.size w wr) (fun i _ => ss.length - (intOf i).toNat)
  case atStart => exact ⟨0, by omega, rfl, Below.refl _ _⟩
  case round =>
    obtain ⟨j, hj, rfl, hbw⟩ := hrel
    by_cases hlt : j < ss.length
    · rcases HQ.out with h0 | ⟨g, off, rfl, _, hg, h3⟩
      · omega
      rcases HQ'.out with h0 | ⟨g', off', rfl, _, hg', h3'⟩
      · omega
      obtain ⟨x, y, hf, hat⟩ := h3 j hlt
      obtain ⟨x', y', hf', hat'⟩ := h3' j hlt
      obtain ⟨f0, f1, f2, f3, f4⟩ := hf.keep hbw (by omega)
      obtain ⟨k0, k1, k2, k3, k4⟩ := hf'.keep hbw (by omega)
      obtain ⟨xa, xc, rfl⟩ := hat.1.shape
      obtain ⟨ya, yc, rfl⟩ := hat.2.shape
      obtain ⟨xb, xd, rfl⟩ := hat'.1.shape
      obtain ⟨yb, yd, rfl⟩ := hat'.2.shape
      have hbz := hbw.size
      have C := hid_mk (eq_seen ss[j] _ _ _ _ la ha lb hb wr.drew (HC.out j hlt) (by show ha ≤ wr.heap.size; omega) (by show hb ≤ wr.heap.size; omega) (hat.below hbw hha).drew (hat'.below hbw hhb).drew)
      clear h3 h3' hf hf' hat hat'
      unfold Sn.val at C
      have hji : (j : Int) < (ss.length : Int) := by omega
      generalize ss[j] = s at *
      go_wp2_with fail
      go_region_with (go_at_call 23; refine C.out.mono ?_; rintro e w1 ⟨rfl, hb1⟩; have B1 := hid_mk (hbw.drew.trans (hb1.mono hbw.size)); clear hb1)
      all_goals go_wp2
      all_goals exact ⟨⟨j + 1, by omega, by go_num, B1.out⟩, by simp [intOf]; omega⟩
    · go_wp2
      go_ret
      exact ⟨rfl, hbw⟩
end Go.Proofs.YtnjidekfmmebiaaDoor
