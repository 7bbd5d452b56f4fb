/- The program's tests of a node's number, name, and of the sort of a kid. -/
import Derived.Test.YtokhcdkhcbcljadDoorSpBits
import Derived.WalkSpells
import Derived.WalkSmall
import Derived.Deep.LoopGhost
set_option linter.unusedVariables false
namespace Go.Proofs.YtokhcdkhcbcljadDoor
open Go.RowKit

theorem dec_lst (t : ByteArray) (l : List UInt8) : decide ((⟨l.toArray⟩ : ByteArray) = t) = (t.toList == l) := by
  rw [Bool.eq_iff_iff, ByteArray.toList_eq]
  simp only [decide_eq_true_eq, beq_iff_eq]
  constructor
  · intro h; rw [← h]
  · intro h; cases t; simp only at h; rw [← h]
theorem lvl_eq (s : ByteArray) : lvl s = if s.toList == [124, 124] then 1 else if s.toList == [38, 38] then 2 else
    if (s.toList == [61, 61] || s.toList == [33, 61] || s.toList == [60] || s.toList == [60, 61] || s.toList == [62] || s.toList == [62, 61]) then 3 else
    if (s.toList == [43] || s.toList == [45]) then 4 else if (s.toList == [42] || s.toList == [47] || s.toList == [37]) then 5 else 0 := by
  unfold lvl
  simp only [lvWords, hasB, List.any_cons, List.any_nil, Bool.or_false, dec_lst, Bool.or_assoc]

set_option maxHeartbeats 2000000 in
theorem binding_any (s : ByteArray) (w : World) : Calls Tryd.prog 63 #[.string s] w fun e w' => e = .returned (.int .i64 (lvl s : Int)) ∧ w' = w := by
  have HE := hid_mk (lvl_eq s)
  go_enter Tryd.func63, Tryd.ntmps63
  go_wp2
  all_goals go_ret
  all_goals refine ⟨ret_in ?_, rfl⟩
  all_goals rw [HE.out]
  all_goals simp_all

/-- A kid's Kind is of a letter's sort. -/
def ofB (k : Int) (c : Nat) : Bool :=
  if c = 102 then decide (k = 2) else if c = 112 then decide (k = 3) else if c = 98 then decide (k = 4)
  else if c = 115 then decide (4 ≤ k) && decide (k ≤ 21) && !decide (k = 16) else if c = 101 then decide (22 ≤ k) && decide (k ≤ 29)
  else if c = 97 then decide (k = 25) || decide (k = 29) else if c = 99 then decide (k = 25) else if c = 111 then decide (k = 4) || decide (k = 10) else if c = 119 then decide (k = 16) else false

set_option maxHeartbeats 2000000 in
theorem isof_any (k : Int) (c : Nat) (w : World) : Calls Tryd.prog 70 #[.int .i64 k, .int .u8 (c : Int)] w fun e w' => e = .returned (.bool (ofB k c)) ∧ w' = w := by
  by_cases c102 : c = 102
  · subst c102
    go_enter Tryd.func70, Tryd.ntmps70
    go_wp2
    all_goals go_ret
    all_goals refine ⟨ret_bool ?_, rfl⟩
    all_goals (rw [Bool.eq_iff_iff]; simp [ofB])
    all_goals omega
  by_cases c112 : c = 112
  · subst c112
    go_enter Tryd.func70, Tryd.ntmps70
    go_wp2
    all_goals go_ret
    all_goals refine ⟨ret_bool ?_, rfl⟩
    all_goals (rw [Bool.eq_iff_iff]; simp [ofB])
    all_goals omega
  by_cases c98 : c = 98
  · subst c98
    go_enter Tryd.func70, Tryd.ntmps70
    go_wp2
    all_goals go_ret
    all_goals refine ⟨ret_bool ?_, rfl⟩
    all_goals (rw [Bool.eq_iff_iff]; simp [ofB])
    all_goals omega
  by_cases c115 : c = 115
  · subst c115
    go_enter Tryd.func70, Tryd.ntmps70
    go_wp2
    all_goals go_ret
    all_goals refine ⟨ret_bool ?_, rfl⟩
    all_goals (rw [Bool.eq_iff_iff]; simp [ofB])
    all_goals omega
  by_cases c101 : c = 101
  · subst c101
    go_enter Tryd.func70, Tryd.ntmps70
    go_wp2
    all_goals go_ret
    all_goals refine ⟨ret_bool ?_, rfl⟩
    all_goals (rw [Bool.eq_iff_iff]; simp [ofB])
    all_goals omega
  by_cases c97 : c = 97
  · subst c97
    go_enter Tryd.func70, Tryd.ntmps70
    go_wp2
    all_goals go_ret
    all_goals refine ⟨ret_bool ?_, rfl⟩
    all_goals (rw [Bool.eq_iff_iff]; simp [ofB])
    all_goals omega
  by_cases c99 : c = 99
  · subst c99
    go_enter Tryd.func70, Tryd.ntmps70
    go_wp2
    all_goals go_ret
    all_goals refine ⟨ret_bool ?_, rfl⟩
    all_goals (rw [Bool.eq_iff_iff]; simp [ofB])
    all_goals omega
  by_cases c111 : c = 111
  · subst c111
    go_enter Tryd.func70, Tryd.ntmps70
    go_wp2
    all_goals go_ret
    all_goals refine ⟨ret_bool ?_, rfl⟩
    all_goals (rw [Bool.eq_iff_iff]; simp [ofB])
    all_goals omega
  by_cases c119 : c = 119
  · subst c119
    go_enter Tryd.func70, Tryd.ntmps70
    go_wp2
    all_goals go_ret
    all_goals refine ⟨ret_bool ?_, rfl⟩
    all_goals (rw [Bool.eq_iff_iff]; simp [ofB])
    all_goals omega
  have HO : Hid (ofB k c = false) := by unfold Hid ofB; simp [c102, c112, c98, c115, c101, c97, c99, c111, c119]
  have n102 : ((c : Int) == 102) = false := beq_eq_false_iff_ne.2 (by omega)
  have n112 : ((c : Int) == 112) = false := beq_eq_false_iff_ne.2 (by omega)
  have n98 : ((c : Int) == 98) = false := beq_eq_false_iff_ne.2 (by omega)
  have n115 : ((c : Int) == 115) = false := beq_eq_false_iff_ne.2 (by omega)
  have n101 : ((c : Int) == 101) = false := beq_eq_false_iff_ne.2 (by omega)
  have n97 : ((c : Int) == 97) = false := beq_eq_false_iff_ne.2 (by omega)
  have n99 : ((c : Int) == 99) = false := beq_eq_false_iff_ne.2 (by omega)
  have n111 : ((c : Int) == 111) = false := beq_eq_false_iff_ne.2 (by omega)
  have n119 : ((c : Int) == 119) = false := beq_eq_false_iff_ne.2 (by omega)
  clear c102 c112 c98 c115 c101 c97 c99 c111 c119
  go_enter Tryd.func70, Tryd.ntmps70
  go_wp2
  go_ret
  exact ⟨ret_bool HO.out.symm, rfl⟩

def numB (k n : Int) : Bool :=
  if k = 2 then decide (0 ≤ n) && decide (n ≤ 3) else if k = 3 then decide (1 ≤ n) && decide (n ≤ 3) else if k = 7 then decide (n = 1) || decide (n = -1) else if k = 16 then decide (0 ≤ n) && decide (n ≤ 2)
  else if k = 22 then decide (0 ≤ n) && decide (n ≤ 999999999999999999) else if k = 23 then decide (n = 0) || decide (n = 1) else decide (n = 0)
def nmB (k n : Int) (s : ByteArray) : Bool :=
  if k = 2 ∨ k = 3 ∨ k = 5 ∨ k = 6 ∨ k = 7 ∨ k = 24 ∨ k = 25 then nameB s else if k = 16 then emptyB s || (decide (n = 1) && nameB s)
  else if k = 27 then s.toList == [45] || s.toList == [33] else if k = 28 then decide (0 < lvl s) else emptyB s

set_option maxHeartbeats 2000000 in
theorem num_any (k n : Int) (s : ByteArray) (a : Option Addr) (l c : Nat) (w : World) : Calls Tryd.prog 47 #[.agg #[.int .i64 k, .int .i64 n, .string s, .slice a l c]] w fun e w' => e = .returned (.bool (numB k n)) ∧ Below w.heap.size w w' := by
  have HB : ∀ o : Obj, Hid (Below w.heap.size w (w.alloc o)) := fun o => (Below.refl _ _).alloc (Nat.le_refl _) _
  by_cases c2 : k = 2
  · subst c2
    go_enter Tryd.func47, Tryd.ntmps47
    go_wp2
    all_goals go_ret
    all_goals refine ⟨ret_bool ?_, (HB _).out⟩
    all_goals (rw [Bool.eq_iff_iff]; simp [numB])
    all_goals omega
  by_cases c3 : k = 3
  · subst c3
    go_enter Tryd.func47, Tryd.ntmps47
    go_wp2
    all_goals go_ret
    all_goals refine ⟨ret_bool ?_, (HB _).out⟩
    all_goals (rw [Bool.eq_iff_iff]; simp [numB])
    all_goals omega
  by_cases c7 : k = 7
  · subst c7
    go_enter Tryd.func47, Tryd.ntmps47
    go_wp2
    all_goals go_ret
    all_goals refine ⟨ret_bool ?_, (HB _).out⟩
    all_goals (rw [Bool.eq_iff_iff]; simp [numB])
    all_goals omega
  by_cases c16 : k = 16
  · subst c16
    go_enter Tryd.func47, Tryd.ntmps47
    go_wp2
    all_goals go_ret
    all_goals refine ⟨ret_bool ?_, (HB _).out⟩
    all_goals (rw [Bool.eq_iff_iff]; simp [numB])
    all_goals omega
  by_cases c22 : k = 22
  · subst c22
    go_enter Tryd.func47, Tryd.ntmps47
    go_wp2
    all_goals go_ret
    all_goals refine ⟨ret_bool ?_, (HB _).out⟩
    all_goals (rw [Bool.eq_iff_iff]; simp [numB])
    all_goals omega
  by_cases c23 : k = 23
  · subst c23
    go_enter Tryd.func47, Tryd.ntmps47
    go_wp2
    all_goals go_ret
    all_goals refine ⟨ret_bool ?_, (HB _).out⟩
    all_goals (rw [Bool.eq_iff_iff]; simp [numB])
    all_goals omega
  have HO : Hid (numB k n = decide (n = 0)) := by unfold Hid numB; simp [c2, c3, c7, c16, c22, c23]
  have n2 : (k == 2) = false := beq_eq_false_iff_ne.2 c2
  have n3 : (k == 3) = false := beq_eq_false_iff_ne.2 c3
  have n7 : (k == 7) = false := beq_eq_false_iff_ne.2 c7
  have n16 : (k == 16) = false := beq_eq_false_iff_ne.2 c16
  have n22 : (k == 22) = false := beq_eq_false_iff_ne.2 c22
  have n23 : (k == 23) = false := beq_eq_false_iff_ne.2 c23
  clear c2 c3 c7 c16 c22 c23
  go_enter Tryd.func47, Tryd.ntmps47
  go_wp2
  go_ret
  exact ⟨ret_bool (by rw [HO.out, Bool.eq_iff_iff]; simp), (HB _).out⟩

set_option maxHeartbeats 4000000 in
theorem nm_any (k n : Int) (s : ByteArray) (a : Option Addr) (l c : Nat) (w : World) (hs : s.size ≤ maxLen) (hg : 4 < w.heap.size) (hr : StrRow w 4 kwWords) :
    Calls Tryd.prog 48 #[.agg #[.int .i64 k, .int .i64 n, .string s, .slice a l c]] w fun e w' => e = .returned (.bool (nmB k n s)) ∧ Below w.heap.size w w' := by
  have HB : ∀ o : Obj, Hid (Below w.heap.size w (w.alloc o)) := fun o => (Below.refl _ _).alloc (Nat.le_refl _) _
  have HS := hid_mk hs
  have HR : ∀ o : Obj, Hid (StrRow (w.alloc o) 4 kwWords) := fun o i hi => ((HB o).out.cell (p := ⟨4, i, none⟩) hg).trans (hr i hi)
  clear hs hr hg
  by_cases c2 : k = 2
  · subst c2
    cases hnm : nameB s
    all_goals go_enter Tryd.func48, Tryd.ntmps48
    all_goals go_wp2_with (go_at_call 62; refine (impl_name _ _ HS.out (HR _).out).mono ?_; rw [hnm]; rintro e w1 ⟨rfl, rfl⟩)
    all_goals go_ret
    all_goals exact ⟨ret_bool (by unfold nmB; simp [hnm]), (HB _).out⟩
  by_cases c3 : k = 3
  · subst c3
    cases hnm : nameB s
    all_goals go_enter Tryd.func48, Tryd.ntmps48
    all_goals go_wp2_with (go_at_call 62; refine (impl_name _ _ HS.out (HR _).out).mono ?_; rw [hnm]; rintro e w1 ⟨rfl, rfl⟩)
    all_goals go_ret
    all_goals exact ⟨ret_bool (by unfold nmB; simp [hnm]), (HB _).out⟩
  by_cases c5 : k = 5
  · subst c5
    cases hnm : nameB s
    all_goals go_enter Tryd.func48, Tryd.ntmps48
    all_goals go_wp2_with (go_at_call 62; refine (impl_name _ _ HS.out (HR _).out).mono ?_; rw [hnm]; rintro e w1 ⟨rfl, rfl⟩)
    all_goals go_ret
    all_goals exact ⟨ret_bool (by unfold nmB; simp [hnm]), (HB _).out⟩
  by_cases c6 : k = 6
  · subst c6
    cases hnm : nameB s
    all_goals go_enter Tryd.func48, Tryd.ntmps48
    all_goals go_wp2_with (go_at_call 62; refine (impl_name _ _ HS.out (HR _).out).mono ?_; rw [hnm]; rintro e w1 ⟨rfl, rfl⟩)
    all_goals go_ret
    all_goals exact ⟨ret_bool (by unfold nmB; simp [hnm]), (HB _).out⟩
  by_cases c7 : k = 7
  · subst c7
    cases hnm : nameB s
    all_goals go_enter Tryd.func48, Tryd.ntmps48
    all_goals go_wp2_with (go_at_call 62; refine (impl_name _ _ HS.out (HR _).out).mono ?_; rw [hnm]; rintro e w1 ⟨rfl, rfl⟩)
    all_goals go_ret
    all_goals exact ⟨ret_bool (by unfold nmB; simp [hnm]), (HB _).out⟩
  by_cases c24 : k = 24
  · subst c24
    cases hnm : nameB s
    all_goals go_enter Tryd.func48, Tryd.ntmps48
    all_goals go_wp2_with (go_at_call 62; refine (impl_name _ _ HS.out (HR _).out).mono ?_; rw [hnm]; rintro e w1 ⟨rfl, rfl⟩)
    all_goals go_ret
    all_goals exact ⟨ret_bool (by unfold nmB; simp [hnm]), (HB _).out⟩
  by_cases c25 : k = 25
  · subst c25
    cases hnm : nameB s
    all_goals go_enter Tryd.func48, Tryd.ntmps48
    all_goals go_wp2_with (go_at_call 62; refine (impl_name _ _ HS.out (HR _).out).mono ?_; rw [hnm]; rintro e w1 ⟨rfl, rfl⟩)
    all_goals go_ret
    all_goals exact ⟨ret_bool (by unfold nmB; simp [hnm]), (HB _).out⟩
  by_cases c16 : k = 16
  · subst c16
    cases hnm : nameB s
    all_goals cases he : s.toList.isEmpty
    all_goals cases h1 : (n == 1)
    all_goals go_enter Tryd.func48, Tryd.ntmps48
    all_goals go_wp2_with (go_at_call 62; refine (impl_name _ _ HS.out (HR _).out).mono ?_; rw [hnm]; rintro e w1 ⟨rfl, rfl⟩)
    all_goals go_ret
    all_goals exact ⟨ret_bool (by unfold nmB; simp only [emptyB, hnm, he, num_b h1]; rfl), (HB _).out⟩
  by_cases c27 : k = 27
  · subst c27
    cases h1 : (s.toList == [45])
    all_goals cases h2 : (s.toList == [33])
    all_goals go_enter Tryd.func48, Tryd.ntmps48
    all_goals go_wp2
    all_goals go_ret
    all_goals exact ⟨ret_bool (by unfold nmB; simp only [h1, h2]; rfl), (HB _).out⟩
  by_cases c28 : k = 28
  · subst c28
    cases h1 : decide (0 < lvl s)
    all_goals go_enter Tryd.func48, Tryd.ntmps48
    all_goals go_wp2_with (go_at_call 63; refine (binding_any _ _).mono ?_; rintro e w1 ⟨rfl, rfl⟩)
    all_goals go_ret
    all_goals exact ⟨ret_bool (by unfold nmB; simp_all), (HB _).out⟩
  have HO : Hid (nmB k n s = emptyB s) := by unfold Hid nmB; simp [c2, c3, c5, c6, c7, c24, c25, c16, c27, c28]
  have n2 : (k == 2) = false := beq_eq_false_iff_ne.2 c2
  have n3 : (k == 3) = false := beq_eq_false_iff_ne.2 c3
  have n5 : (k == 5) = false := beq_eq_false_iff_ne.2 c5
  have n6 : (k == 6) = false := beq_eq_false_iff_ne.2 c6
  have n7 : (k == 7) = false := beq_eq_false_iff_ne.2 c7
  have n24 : (k == 24) = false := beq_eq_false_iff_ne.2 c24
  have n25 : (k == 25) = false := beq_eq_false_iff_ne.2 c25
  have n16 : (k == 16) = false := beq_eq_false_iff_ne.2 c16
  have n27 : (k == 27) = false := beq_eq_false_iff_ne.2 c27
  have n28 : (k == 28) = false := beq_eq_false_iff_ne.2 c28
  clear c2 c3 c5 c6 c7 c24 c25 c16 c27 c28
  cases he : s.toList.isEmpty
  all_goals go_enter Tryd.func48, Tryd.ntmps48
  all_goals go_wp2
  all_goals go_ret
  all_goals exact ⟨ret_bool (by rw [HO.out]; simp [emptyB, he]), (HB _).out⟩
end Go.Proofs.YtokhcdkhcbcljadDoor
