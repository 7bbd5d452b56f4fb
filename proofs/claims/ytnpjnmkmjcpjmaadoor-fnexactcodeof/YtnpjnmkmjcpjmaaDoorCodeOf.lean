/- The contracts of CodeOf, in the program and in the specification. -/
import Derived.Test.YtnpjnmkmjcpjmaaDoorChars
import Derived.Test.YtnpjnmkmjcpjmaaDoorCwSpec
namespace Go.Proofs.YtnpjnmkmjcpjmaaDoor
open Go.RowKit

/-- The place of a text among some; -1 if it is not there. -/
def cofI (ss : List ByteArray) (t : ByteArray) : Int := if hasB ss t then ((ss.findIdx fun s => decide (s = t) : Nat) : Int) else -1

theorem cof_hit {ss : List ByteArray} {t : ByteArray} {k : Nat} (hk : k < ss.length) (h : t ∉ ss.take k) (hn : (ss[k].toList == t.toList) = true) : (k : Int) = cofI ss t := by
  rw [beq_bytes, decide_eq_true_eq] at hn
  unfold cofI
  rw [(hasB_iff ss t).2 (hn ▸ List.getElem_mem hk)]
  have : (ss.findIdx fun s => decide (s = t)) = k := by
    rw [List.findIdx_eq hk]
    refine ⟨by simpa using hn, fun j hj => ?_⟩
    simp only [decide_eq_false_iff_not]
    intro e
    exact h (List.mem_take_iff_getElem.2 ⟨j, by omega, e⟩)
  simp [this]
theorem cof_end {ss : List ByteArray} {t : ByteArray} {k : Nat} (hk : ss.length ≤ k) (h : t ∉ ss.take k) : (-1 : Int) = cofI ss t := by
  unfold cofI
  rw [← contains_end hk h]
  rfl

set_option maxHeartbeats 1000000 in
theorem impl_cof (t : ByteArray) (w : World) (hr : StrRow w 0 cwWords) :
    Calls Tryd.prog 12 #[.string t] w fun e w' => e = .returned (.int .i64 (cofI cwWords t)) ∧ w' = w := by
  have hload : Hid (w.rangeAt 0 0 (cwWords.map Value.string)) := range_strs hr
  have HZ : Hid ((Tryd.prog.info? 35).map (·.size) = some (cwWords.map Value.string).length) := by unfold Hid; kernel_rfl
  have hsz9 : (Tryd.prog.info? 9).map (·.size) = some 1 := by kernel_rfl
  have hix : Hid (∀ k : Nat, k < 15 → (Instr.index 35 (.agg (cwWords.map Value.string).toArray) (.int .i64 k)).run Tryd.prog w = .ok (.string (cwWords.getD k ⟨#[]⟩)) w) :=
    fun k hk => run_index_strs w cwWords k Tryd.underlying35 Tryd.underlying9 hsz9 hk rfl
  clear hr hsz9
  generalize hkw : cwWords = ss at *
  have hlen : Hid (ss.length = 15) := by rw [← hkw]; rfl
  clear hkw
  go_enter Tryd.func12, Tryd.ntmps12
  go_wp2_with (refine wpList_load_mid rfl 35 _ rfl 0 0 rfl _ _ hload.out Tryd.underlying35 rfl HZ.out ?_)
  go_loop [6] (fun i => ∃ k : Nat, k ≤ 15 ∧ i = .int .i64 k ∧ Hid (t ∉ ss.take k)) (fun i => 15 - (intOf i).toNat)
  case atStart => exact ⟨0, Nat.zero_le _, rfl, by simp [Hid]⟩
  case round =>
    obtain ⟨k, hk, rfl, hall⟩ := hrel
    by_cases hlt : k < 15
    · have hi := hix.out k hlt
      have hkl : k < ss.length := by rw [hlen.out]; exact hlt
      go_wp2
      · go_ret
        exact ⟨ret_int (cof_hit hkl hall.out ‹_›), rfl⟩
      · exact ⟨⟨k + 1, by omega, by go_num, contains_snoc hkl hall.out ‹_›⟩, by simp [intOf]; omega⟩
    · go_wp2
      go_ret
      exact ⟨ret_int (cof_end (by rw [hlen.out]; omega) hall.out), rfl⟩

set_option maxHeartbeats 1000000 in
theorem spec_cof (t : ByteArray) (w : World) :
    Calls Tryd.prog 11 #[.string t] w fun e w' => e = .returned (.int .i64 (cofI cwWords t)) ∧ Below w.heap.size w w' := by
  go_enter Tryd.func11, Tryd.ntmps11
  go_wp2
  go_loopw [3] (fun i wr => ∃ k : Nat, k ≤ 15 ∧ i = .int .i64 k ∧ Hid (t ∉ cwWords.take k) ∧ Below w.heap.size w wr) (fun i _ => 15 - (intOf i).toNat)
  case atStart => exact ⟨0, Nat.zero_le _, rfl, by simp [Hid], Below.refl _ _⟩
  case round =>
    obtain ⟨k, hk, rfl, hall, hb⟩ := hrel
    by_cases hlt : k < 15
    · have hkl : k < cwWords.length := hlt
      generalize hs : cwWords.getD k ⟨#[]⟩ = s
      have HS : Hid (cwWords.getD k ⟨#[]⟩ = s) := hs
      have HS2 : Hid (cwWords[k] = s) := by unfold Hid; rw [← hs]; simp [List.getD, hkl]
      clear hs
      go_wp2_with (go_at_call 9; refine (spec_cw_in _ _ hlt).mono ?_; rw [HS.out]; rintro e w1 ⟨rfl, hb1⟩)
      · go_ret
        exact ⟨ret_int (cof_hit hkl hall.out (by rw [HS2.out]; assumption)), hb.trans (hb1.mono hb.size)⟩
      · go_roundw
        case rel => exact ⟨k + 1, by omega, by go_num, contains_snoc hkl hall.out (by rw [HS2.out]; assumption), hb.trans (hb1.mono hb.size)⟩
        case measure => simp [intOf]; omega
    · go_wp2
      go_ret
      exact ⟨ret_int (cof_end (by show 15 ≤ k; omega) hall.out), hb⟩
end Go.Proofs.YtnpjnmkmjcpjmaaDoor
