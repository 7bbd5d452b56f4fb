/- Names, by the program. -/
import Derived.Test.YtnpjnmkmjcpjmaaDoorNamesS
set_option linter.unusedVariables false
namespace Go.Proofs.YtnpjnmkmjcpjmaaDoor
open Go.RowKit

set_option maxHeartbeats 400000 in
theorem impl_name (s : ByteArray) (w : World) (hs : s.size ≤ maxLen) (hr : StrRow w 1 kwWords) :
    Calls Tryd.prog 8 #[.string s] w fun e w' => e = .returned (.bool (nameB s)) ∧ w' = w := by
  have HS : Hid (s.size ≤ maxLen) := hs
  have HR : Hid (StrRow w 1 kwWords) := hr
  unfold maxLen at hs
  clear hr
  by_cases h1 : s.size = 0
  · have hb : Hid (nameB s = false) := by simp [Hid, nameB, wordOkB]; omega
    have he : s.toList.isEmpty = true := by rw [ByteArray.toList_eq, List.isEmpty_iff]; exact List.eq_nil_of_length_eq_zero (by simpa using h1)
    clear h1
    go_enter Tryd.func8, Tryd.ntmps8
    go_wp2
    go_ret
    exact ⟨ret_bool hb.out.symm, rfl⟩
  have he : s.toList.isEmpty = false := by
    rw [ByteArray.toList_eq, List.isEmpty_eq_false_iff]
    intro h
    have := congrArg List.length h
    simp at this
    exact h1 (by simp [ByteArray.size, this])
  by_cases h2 : 40 < s.size
  · have hb : Hid (nameB s = false) := by simp [Hid, nameB, wordOkB]; omega
    go_enter Tryd.func8, Tryd.ntmps8
    go_wp2
    go_ret
    exact ⟨ret_bool hb.out.symm, rfl⟩
  have h0 : 0 < s.size := by omega
  have hh := head_at s h0
  cases hl : letterB s[0].toNat
  · have hb : Hid (nameB s = false) := by unfold Hid nameB wordOkB; rw [hh, hl]; simp
    clear hh
    go_enter Tryd.func8, Tryd.ntmps8
    go_wp2_with (go_at_call 21; refine (impl_letter _ _).mono ?_; rintro e w' ⟨rfl, rfl⟩)
    go_ret
    exact ⟨ret_bool hb.out.symm, rfl⟩
  · have hb : Hid (wordOkB s = decide (wlen s.data.toList = s.size)) := by
      have : 1 ≤ s.size ∧ s.size ≤ 40 := by omega
      unfold Hid wordOkB; rw [hh, hl]; simp [this]
    clear hh h1
    generalize hn : wlen s.data.toList = n at hb
    have HN : Hid (wlen s.data.toList = n) := hn
    clear hn
    by_cases hW : n = s.size
    · subst hW
      have hb2 : Hid (nameB s = !hasB kwWords s) := by simp [Hid, nameB, hb.out]
      go_enter Tryd.func8, Tryd.ntmps8
      go_wp2_with (first | (go_at_call 21; refine (impl_letter _ _).mono ?_; rintro e w' ⟨rfl, rfl⟩) | (go_at_call 22; refine (impl_wlen _ _ HS.out).mono ?_; rw [HN.out]; rintro e w' ⟨rfl, rfl⟩) | (go_at_call 23; refine (taken_any _ _ HR.out).mono ?_; rintro e w' ⟨rfl, rfl⟩))
      go_ret
      exact ⟨ret_bool hb2.out.symm, rfl⟩
    · have hb2 : Hid (nameB s = false) := by simp [Hid, nameB, hb.out, hW]
      have hne : ((n : Int) == (s.size : Int)) = false := by simp; omega
      go_enter Tryd.func8, Tryd.ntmps8
      go_wp2_with (first | (go_at_call 21; refine (impl_letter _ _).mono ?_; rintro e w' ⟨rfl, rfl⟩) | (go_at_call 22; refine (impl_wlen _ _ HS.out).mono ?_; rw [HN.out]; rintro e w' ⟨rfl, rfl⟩) | (go_at_call 23; refine (taken_any _ _ HR.out).mono ?_; rintro e w' ⟨rfl, rfl⟩))
      go_ret
      exact ⟨ret_bool hb2.out.symm, rfl⟩
end Go.Proofs.YtnpjnmkmjcpjmaaDoor
