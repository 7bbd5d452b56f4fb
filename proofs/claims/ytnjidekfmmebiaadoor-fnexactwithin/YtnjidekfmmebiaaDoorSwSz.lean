/- The laws' budget of a list of what was seen. -/
import Derived.Test.YtnjidekfmmebiaaDoorSwRow
import Derived.Test.YtnjidekfmmebiaaDoorSeSz
set_option linter.unusedVariables false
namespace Go.Proofs.YtnjidekfmmebiaaDoor
open Go.RowKit

set_option maxHeartbeats 4000000 in
theorem sz_seens (ss : List Sn) (v : Value) (hi l : Nat) (w : World) (hs : OkS ss) (hhi : hi ≤ w.heap.size) (h : Rw 0 hi w ss v) (hl : l ≤ 1048576) :
    Calls Tryd.prog 5 #[v, .int .i64 l] w fun e w' => e = .returned (.int .i64 (left' (costS ss) l)) ∧ Below w.heap.size w w' := by
  obtain ⟨a, cap, rfl, hq⟩ := h
  have hn := hs.1
  have hw : IntKind.i64.wrap ((l : Int) - (ss.length : Int)) = (l : Int) - (ss.length : Int) := by simp [IntKind.wrap, IntKind.bits, IntKind.signed]; omega
  by_cases h0 : ss.length ≤ l
  · have e0 : (l : Int) - (ss.length : Int) = ((l - ss.length : Nat) : Int) := by omega
    rw [e0] at hw
    have HE := hid_mk e0
    have HQ := hid_mk hq
    have HO := hid_mk hs
    clear hq hs
    go_enter Tryd.func5, Tryd.ntmps5
    go_wp2
    go_loopw [1, 5] (fun q i wr => ∃ j : Nat, j ≤ ss.length ∧ i = .int .i64 j ∧ Hid (costTo ss j ≤ l) ∧ q = .int .i64 ((l - costTo ss j : Nat) : Int) ∧ Below w.heap.size w wr) (fun _ i _ => ss.length - (intOf i).toNat)
    case atStart => exact ⟨0, by omega, rfl, h0, by first | rfl | (simp only [costTo]; rw [← HE.out]), Below.refl _ _⟩
    case round =>
      obtain ⟨j, hj, rfl, hcj, rfl, hb⟩ := hrel
      clear e0 hw
      by_cases hlt : j < ss.length
      · rcases HQ.out with h1 | ⟨g, off, rfl, _, hg, h3⟩
        · omega
        obtain ⟨x, y, hf, hat⟩ := h3 j hlt
        have hf' := hf.keep hb (by omega)
        have hat' := hat.below hb hhi
        obtain ⟨xa, xc, rfl⟩ := hat.1.shape
        obtain ⟨ya, yc, rfl⟩ := hat.2.shape
        obtain ⟨f0, f1, f2, f3, f4⟩ := hf'
        have hsucc := hid_mk (costTo_succ ss j hlt)
        have C := hid_mk (sz_seen ss[j] _ _ 0 hi (l - costTo ss j) wr (HO.out.at j hlt) hat' (by omega))
        have hmono := hid_mk (costTo_mono ss (show j + 1 ≤ ss.length from hlt))
        have HC := hid_mk (show costTo ss j ≤ l from hcj.out)
        clear h3 hf hat hat' hcj
        unfold Sn.val at C
        have hji : (j : Int) < (ss.length : Int) := by omega
        generalize ss[j] = s at *
        by_cases hc : s.cost ≤ l - costTo ss j
        · have e1 : left' s.cost (l - costTo ss j) = ((l - costTo ss (j + 1) : Nat) : Int) := by
            unfold left'; rw [if_pos hc]; have := hsucc.out; omega
          rw [e1] at C
          have HN : Hid (costTo ss (j + 1) ≤ l) := by have := hsucc.out; have := HC.out; unfold Hid; omega
          clear e1 hc hsucc HC hmono
          generalize l - costTo ss j = q1 at *
          have hq2 : ¬ (((l - costTo ss (j + 1) : Nat) : Int) < 0) := by omega
          go_wp2_with fail
          refine C.out.mono ?_
          rintro e w1 ⟨rfl, hb1⟩
          have B1 := hid_mk (hb.trans (hb1.mono hb.size))
          clear hb1 C f0 f1 f2 f3 f4
          go_wp2
          exact ⟨⟨j + 1, by omega, by go_num, HN, rfl, B1.out⟩, by simp [intOf]; omega⟩
        · have e1 : left' s.cost (l - costTo ss j) = -1 := by unfold left'; rw [if_neg hc]
          have e2 : left' (costS ss) l = -1 := by unfold left' costS; rw [if_neg (by have := hsucc.out; have := hmono.out; have := HC.out; omega)]
          rw [e1] at C
          have HE2 := hid_mk e2
          clear e1 e2 hc hsucc HC hmono
          generalize l - costTo ss j = q1 at *
          go_wp2_with fail
          refine C.out.mono ?_
          rintro e w1 ⟨rfl, hb1⟩
          have B1 := hid_mk (hb.trans (hb1.mono hb.size))
          clear hb1 C f0 f1 f2 f3 f4
          go_wp2
          go_ret
          exact ⟨by rw [HE2.out]; rfl, B1.out⟩
      · obtain rfl : j = ss.length := by omega
        have e2 : left' (costS ss) l = ((l - costTo ss ss.length : Nat) : Int) := by unfold left' costS; rw [if_pos hcj.out]
        have HE2 := hid_mk e2
        clear e2 hcj
        generalize l - costTo ss ss.length = q1 at *
        go_wp2
        go_ret
        exact ⟨by rw [HE2.out]; rfl, hb⟩
  · have e2 : left' (costS ss) l = -1 := by unfold left'; rw [if_neg (by have := len_cost ss; omega)]
    rw [e2]
    clear e2 hq hs
    go_enter Tryd.func5, Tryd.ntmps5
    go_wp2
    go_ret
    exact ⟨rfl, Below.refl _ _⟩
end Go.Proofs.YtnjidekfmmebiaaDoor
