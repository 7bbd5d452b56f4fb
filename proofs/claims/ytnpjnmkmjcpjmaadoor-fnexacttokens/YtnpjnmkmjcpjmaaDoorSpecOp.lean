/- The contract of l01Op: the sign at a place. -/
import Derived.Test.YtnpjnmkmjcpjmaaDoorLex
import Derived.Test.YtnpjnmkmjcpjmaaDoorLeafSpec
import Derived.WalkSpells
import Derived.WalkSmall
import Derived.Deep.QuietTactic
import Derived.BigQuiet
namespace Go.Proofs.YtnpjnmkmjcpjmaaDoor
open Go.RowKit

theorem pre_of_eq (s g : ByteArray) (k : Nat) (h : ((s.extract k (k + g.size)).toList == g.toList) = true) : g.data.toList.isPrefixOf (s.data.toList.drop k) = true := by
  rw [beq_bytes, decide_eq_true_eq] at h
  have := congrArg (fun b => b.data.toList) h
  simp only [Lib.extract_data, Nat.add_sub_cancel_left] at this
  rw [List.isPrefixOf_iff_prefix, ← this]
  exact List.take_prefix _ _
theorem pre_of_ne (s g : ByteArray) (k : Nat) (h : ((s.extract k (k + g.size)).toList == g.toList) = false) : g.data.toList.isPrefixOf (s.data.toList.drop k) = false := by
  rw [beq_bytes, decide_eq_false_iff_not] at h
  rw [Bool.eq_false_iff]
  intro hp
  rw [List.isPrefixOf_iff_prefix] at hp
  apply h
  apply bytes_eq
  rw [Lib.extract_data, Nat.add_sub_cancel_left]
  exact (List.prefix_iff_eq_take.1 hp).symm
theorem pre_long (s g : ByteArray) (k : Nat) (hk : k ≤ s.size) (h : ¬ k + g.size ≤ s.size) : g.data.toList.isPrefixOf (s.data.toList.drop k) = false := by
  rw [Bool.eq_false_iff]
  intro hp
  rw [List.isPrefixOf_iff_prefix] at hp
  have := hp.length_le
  rw [List.length_drop] at this
  have h1 : g.data.toList.length = g.size := rfl
  have h2 : s.data.toList.length = s.size := rfl
  omega
theorem sg_small (g : ByteArray) (hg : g ∈ sgWords) : g.size ≤ 2 := by
  have : (sgWords.all fun g => decide (g.size ≤ 2)) = true := by decide
  simpa using List.all_eq_true.1 this g hg

set_option maxHeartbeats 2000000 in
theorem spec_op (s : ByteArray) (k : Nat) (w : World) (hs : s.size ≤ 65536) (hk : k ≤ s.size) :
    Calls Tryd.prog 28 #[.string s, .int .i64 k] w fun e w' => e = .returned (.string (signAt (s.data.toList.drop k))) ∧ Below w.heap.size w w' := by
  have hdef : Hid (signAt (s.data.toList.drop k) = (sgWords.find? fun g => g.data.toList.isPrefixOf (s.data.toList.drop k)).getD ⟨#[]⟩) := rfl
  generalize signAt (s.data.toList.drop k) = r at *
  go_enter Tryd.func28, Tryd.ntmps28
  go_wp2_with (go_at_call 33; refine (ops_any _).mono ?_; rintro e w1 ⟨rfl, hb1, hrow1, hsz1⟩; have HR1 : Hid (StrRow w1 w.heap.size sgWords) := hrow1; clear hrow1)
  go_loopw [6] (fun i wr => ∃ j : Nat, j ≤ 25 ∧ i = .int .i64 j ∧ Hid (∀ g ∈ sgWords.take j, g.data.toList.isPrefixOf (s.data.toList.drop k) = false) ∧ Hid (StrRow wr w.heap.size sgWords) ∧ Below w.heap.size w wr) (fun i _ => 25 - (intOf i).toNat)
  case atStart => exact ⟨0, Nat.zero_le _, rfl, by simp [Hid], HR1, hb1⟩
  case round =>
    obtain ⟨j, hj, rfl, hall, hrow, hb⟩ := hrel
    clear HR1 hb1 hsz1
    by_cases hlt : j < 25
    · have hjl : j < sgWords.length := hlt
      have hc := hrow.out j hjl
      have hgm : sgWords.getD j ⟨#[]⟩ ∈ sgWords := by
        have : sgWords.getD j ⟨#[]⟩ = sgWords[j] := by simp [List.getD, hjl]
        rw [this]; exact List.getElem_mem hjl
      have hg2 := sg_small _ hgm
      clear hgm
      have HG0 : Hid (sgWords[j] = sgWords.getD j ⟨#[]⟩) := by unfold Hid; simp [List.getD, hjl]
      generalize sgWords.getD j ⟨#[]⟩ = g at *
      have hrow2 : ∀ n, Hid (StrRow (wr.drewN n) w.heap.size sgWords) := fun n i hi => by have := hrow.out i hi; simpa using this
      have HN : Hid (g.data.toList.isPrefixOf (s.data.toList.drop k) = false → ∀ y ∈ sgWords.take (j + 1), y.data.toList.isPrefixOf (s.data.toList.drop k) = false) := fun hf y hy => by
        rw [List.take_succ_eq_append_getElem hjl, List.mem_append] at hy
        rcases hy with hy | hy
        · exact hall.out y hy
        · rw [List.mem_singleton.1 hy, HG0.out]; exact hf
      by_cases hle : k + g.size ≤ s.size
      · have hle' : (k : Int) + (g.size : Int) ≤ (s.size : Int) := by omega
        go_wp2_with fail
        go_quiet (fail)
        go_wp2
        · have HF : r = g := by
            rw [hdef.out]
            have : sgWords.find? (fun g => g.data.toList.isPrefixOf (s.data.toList.drop k)) = some sgWords[j] := by
              rw [List.find?_eq_some_iff_getElem]
              refine ⟨by rw [HG0.out]; exact pre_of_eq s g k ‹_›, j, hjl, rfl, fun i hi => ?_⟩
              have := hall.out sgWords[i] (List.mem_take_iff_getElem.2 ⟨i, by omega, rfl⟩)
              simp [this]
            rw [this, HG0.out]; rfl
          go_ret
          exact ⟨ret_str HF.symm, below_drewN hb _⟩
        · exact ⟨⟨j + 1, by omega, by go_num, HN.out (pre_of_ne s g k ‹_›), hrow2 _, below_drewN hb _⟩, by simp [intOf]; omega⟩
      · have hle' : decide ((k : Int) + (g.size : Int) ≤ (s.size : Int)) = false := by simp; omega
        have HN2 := HN.out (pre_long s g k hk hle)
        have HN3 : Hid (∀ y ∈ sgWords.take (j + 1), y.data.toList.isPrefixOf (s.data.toList.drop k) = false) := HN2
        clear HN2 hle
        go_wp2_with fail
        go_quiet (fail)
        go_wp2
        exact ⟨⟨j + 1, by omega, by go_num, HN3, hrow2 _, below_drewN hb _⟩, by simp [intOf]; omega⟩
    · have HF : Hid (r = ⟨#[]⟩) := by
        unfold Hid
        rw [hdef.out]
        have : sgWords.find? (fun g => g.data.toList.isPrefixOf (s.data.toList.drop k)) = none := by
          rw [List.find?_eq_none]
          intro x hx
          have := hall.out x (by rw [List.take_of_length_le (show sgWords.length ≤ j from by show 25 ≤ j; omega)]; exact hx)
          simp [this]
        rw [this]; rfl
      go_wp2
      go_ret
      exact ⟨ret_str HF.out.symm, hb⟩
end Go.Proofs.YtnpjnmkmjcpjmaaDoor
