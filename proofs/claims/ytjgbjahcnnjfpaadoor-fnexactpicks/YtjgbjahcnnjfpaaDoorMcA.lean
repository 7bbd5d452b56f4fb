/- The program's tests of a node's number, name, and of the sort of a kid. -/
import Derived.Test.YtjgbjahcnnjfpaaDoorMaB
import Derived.Test.YtjgbjahcnnjfpaaDoorMbA
import Derived.WalkSpells
import Derived.WalkSmall
import Derived.Deep.LoopGhost
import Derived.Deep.QuietTactic
import Derived.BigQuiet
import Derived.Lib.Strings
import Derived.RegionTactic
import Derived.BigRegion
import Derived.Deep.RegionWith
import Derived.Test.YtjgbjahcnnjfpaaDoorMaA
set_option linter.unusedVariables false
namespace Go.Proofs.YtjgbjahcnnjfpaaDoor
open Go.RowKit

theorem dec_lst (t : ByteArray) (l : List UInt8) : decide ((⟨l.toArray⟩ : ByteArray) = t) = (t.toList == l) := by
  rw [Bool.eq_iff_iff, ByteArray.toList_eq]
  simp only [decide_eq_true_eq, beq_iff_eq]
  constructor
  · intro h; rw [← h]
  · intro h; cases t; simp only at h; rw [← h]
theorem lvl_eq (s : ByteArray) : lvl s = if s.toList == [124, 124] then 1 else if s.toList == [38, 38] then 2 else
    if (s.toList == [61, 61] || s.toList == [33, 61] || s.toList == [60] || s.toList == [60, 61] || s.toList == [62] || s.toList == [62, 61]) then 3 else
    if (s.toList == [43] || s.toList == [45]) then 4 else if (s.toList == [42] || s.toList == [47] || s.toList == [37]) then 5 else 0 := by
  unfold lvl
  simp only [lvWords, hasB, List.any_cons, List.any_nil, Bool.or_false, dec_lst, Bool.or_assoc]

set_option maxHeartbeats 2000000 in
theorem binding_any (s : ByteArray) (w : World) : Calls Tryd.prog 81 #[.string s] w fun e w' => e = .returned (.int .i64 (lvl s : Int)) ∧ w' = w := by
  have HE := hid_mk (lvl_eq s)
  go_enter Tryd.func81, Tryd.ntmps81
  go_wp2
  all_goals go_ret
  all_goals refine ⟨ret_in ?_, rfl⟩
  all_goals rw [HE.out]
  all_goals simp_all

def ofB (k : Int) (c : Nat) : Bool :=
  if c = 102 then decide (k = 2) else if c = 112 then decide (k = 3) else if c = 98 then decide (k = 4)
  else if c = 115 then decide (4 ≤ k) && decide (k ≤ 21) && !decide (k = 16) else if c = 101 then decide (22 ≤ k) && decide (k ≤ 29)
  else if c = 97 then decide (k = 25) || decide (k = 29) else if c = 99 then decide (k = 25) else if c = 111 then decide (k = 4) || decide (k = 10) else if c = 119 then decide (k = 16) else false

set_option maxHeartbeats 2000000 in
theorem isof_any (k : Int) (c : Nat) (w : World) : Calls Tryd.prog 94 #[.int .i64 k, .int .u8 (c : Int)] w fun e w' => e = .returned (.bool (ofB k c)) ∧ w' = w := by
  by_cases c102 : c = 102
  · subst c102
    go_enter Tryd.func94, Tryd.ntmps94
    go_wp2
    all_goals go_ret
    all_goals refine ⟨ret_bool ?_, rfl⟩
    all_goals (rw [Bool.eq_iff_iff]; simp [ofB])
    all_goals omega
  by_cases c112 : c = 112
  · subst c112
    go_enter Tryd.func94, Tryd.ntmps94
    go_wp2
    all_goals go_ret
    all_goals refine ⟨ret_bool ?_, rfl⟩
    all_goals (rw [Bool.eq_iff_iff]; simp [ofB])
    all_goals omega
  by_cases c98 : c = 98
  · subst c98
    go_enter Tryd.func94, Tryd.ntmps94
    go_wp2
    all_goals go_ret
    all_goals refine ⟨ret_bool ?_, rfl⟩
    all_goals (rw [Bool.eq_iff_iff]; simp [ofB])
    all_goals omega
  by_cases c115 : c = 115
  · subst c115
    go_enter Tryd.func94, Tryd.ntmps94
    go_wp2
    all_goals go_ret
    all_goals refine ⟨ret_bool ?_, rfl⟩
    all_goals (rw [Bool.eq_iff_iff]; simp [ofB])
    all_goals omega
  by_cases c101 : c = 101
  · subst c101
    go_enter Tryd.func94, Tryd.ntmps94
    go_wp2
    all_goals go_ret
    all_goals refine ⟨ret_bool ?_, rfl⟩
    all_goals (rw [Bool.eq_iff_iff]; simp [ofB])
    all_goals omega
  by_cases c97 : c = 97
  · subst c97
    go_enter Tryd.func94, Tryd.ntmps94
    go_wp2
    all_goals go_ret
    all_goals refine ⟨ret_bool ?_, rfl⟩
    all_goals (rw [Bool.eq_iff_iff]; simp [ofB])
    all_goals omega
  by_cases c99 : c = 99
  · subst c99
    go_enter Tryd.func94, Tryd.ntmps94
    go_wp2
    all_goals go_ret
    all_goals refine ⟨ret_bool ?_, rfl⟩
    all_goals (rw [Bool.eq_iff_iff]; simp [ofB])
    all_goals omega
  by_cases c111 : c = 111
  · subst c111
    go_enter Tryd.func94, Tryd.ntmps94
    go_wp2
    all_goals go_ret
    all_goals refine ⟨ret_bool ?_, rfl⟩
    all_goals (rw [Bool.eq_iff_iff]; simp [ofB])
    all_goals omega
  by_cases c119 : c = 119
  · subst c119
    go_enter Tryd.func94, Tryd.ntmps94
    go_wp2
    all_goals go_ret
    all_goals refine ⟨ret_bool ?_, rfl⟩
    all_goals (rw [Bool.eq_iff_iff]; simp [ofB])
    all_goals omega
  have HO : Hid (ofB k c = false) := by unfold Hid ofB; simp [c102, c112, c98, c115, c101, c97, c99, c111, c119]
  have n102 : ((c : Int) == 102) = false := beq_eq_false_iff_ne.2 (by omega)
  have n112 : ((c : Int) == 112) = false := beq_eq_false_iff_ne.2 (by omega)
  have n98 : ((c : Int) == 98) = false := beq_eq_false_iff_ne.2 (by omega)
  have n115 : ((c : Int) == 115) = false := beq_eq_false_iff_ne.2 (by omega)
  have n101 : ((c : Int) == 101) = false := beq_eq_false_iff_ne.2 (by omega)
  have n97 : ((c : Int) == 97) = false := beq_eq_false_iff_ne.2 (by omega)
  have n99 : ((c : Int) == 99) = false := beq_eq_false_iff_ne.2 (by omega)
  have n111 : ((c : Int) == 111) = false := beq_eq_false_iff_ne.2 (by omega)
  have n119 : ((c : Int) == 119) = false := beq_eq_false_iff_ne.2 (by omega)
  clear c102 c112 c98 c115 c101 c97 c99 c111 c119
  go_enter Tryd.func94, Tryd.ntmps94
  go_wp2
  go_ret
  exact ⟨ret_bool HO.out.symm, rfl⟩

def numB (k n : Int) : Bool :=
  if k = 2 then decide (0 ≤ n) && decide (n ≤ 3) else if k = 3 then decide (1 ≤ n) && decide (n ≤ 3) else if k = 7 then decide (n = 1) || decide (n = -1) else if k = 16 then decide (0 ≤ n) && decide (n ≤ 2)
  else if k = 22 then decide (0 ≤ n) && decide (n ≤ 999999999999999999) else if k = 23 then decide (n = 0) || decide (n = 1) else decide (n = 0)
def nmB (k n : Int) (s : ByteArray) : Bool :=
  if k = 2 ∨ k = 3 ∨ k = 5 ∨ k = 6 ∨ k = 7 ∨ k = 24 ∨ k = 25 then nameB s else if k = 16 then emptyB s || (decide (n = 1) && nameB s)
  else if k = 27 then s.toList == [45] || s.toList == [33] else if k = 28 then decide (0 < lvl s) else emptyB s

set_option maxHeartbeats 2000000 in
theorem num_any (k n : Int) (s : ByteArray) (a : Option Addr) (l c : Nat) (w : World) : Calls Tryd.prog 70 #[.agg #[.int .i64 k, .int .i64 n, .string s, .slice a l c]] w fun e w' => e = .returned (.bool (numB k n)) ∧ Below w.heap.size w w' := by
  have HB : ∀ o : Obj, Hid (Below w.heap.size w (w.alloc o)) := fun o => (Below.refl _ _).alloc (Nat.le_refl _) _
  by_cases c2 : k = 2
  · subst c2
    go_enter Tryd.func70, Tryd.ntmps70
    go_wp2
    all_goals go_ret
    all_goals refine ⟨ret_bool ?_, (HB _).out⟩
    all_goals (rw [Bool.eq_iff_iff]; simp [numB])
    all_goals omega
  by_cases c3 : k = 3
  · subst c3
    go_enter Tryd.func70, Tryd.ntmps70
    go_wp2
    all_goals go_ret
    all_goals refine ⟨ret_bool ?_, (HB _).out⟩
    all_goals (rw [Bool.eq_iff_iff]; simp [numB])
    all_goals omega
  by_cases c7 : k = 7
  · subst c7
    go_enter Tryd.func70, Tryd.ntmps70
    go_wp2
    all_goals go_ret
    all_goals refine ⟨ret_bool ?_, (HB _).out⟩
    all_goals (rw [Bool.eq_iff_iff]; simp [numB])
    all_goals omega
  by_cases c16 : k = 16
  · subst c16
    go_enter Tryd.func70, Tryd.ntmps70
    go_wp2
    all_goals go_ret
    all_goals refine ⟨ret_bool ?_, (HB _).out⟩
    all_goals (rw [Bool.eq_iff_iff]; simp [numB])
    all_goals omega
  by_cases c22 : k = 22
  · subst c22
    go_enter Tryd.func70, Tryd.ntmps70
    go_wp2
    all_goals go_ret
    all_goals refine ⟨ret_bool ?_, (HB _).out⟩
    all_goals (rw [Bool.eq_iff_iff]; simp [numB])
    all_goals omega
  by_cases c23 : k = 23
  · subst c23
    go_enter Tryd.func70, Tryd.ntmps70
    go_wp2
    all_goals go_ret
    all_goals refine ⟨ret_bool ?_, (HB _).out⟩
    all_goals (rw [Bool.eq_iff_iff]; simp [numB])
    all_goals omega
  have HO : Hid (numB k n = decide (n = 0)) := by unfold Hid numB; simp [c2, c3, c7, c16, c22, c23]
  have n2 : (k == 2) = false := beq_eq_false_iff_ne.2 c2
  have n3 : (k == 3) = false := beq_eq_false_iff_ne.2 c3
  have n7 : (k == 7) = false := beq_eq_false_iff_ne.2 c7
  have n16 : (k == 16) = false := beq_eq_false_iff_ne.2 c16
  have n22 : (k == 22) = false := beq_eq_false_iff_ne.2 c22
  have n23 : (k == 23) = false := beq_eq_false_iff_ne.2 c23
  clear c2 c3 c7 c16 c22 c23
  go_enter Tryd.func70, Tryd.ntmps70
  go_wp2
  go_ret
  exact ⟨ret_bool (by rw [HO.out, Bool.eq_iff_iff]; simp), (HB _).out⟩

set_option maxHeartbeats 4000000 in
theorem nm_any (k n : Int) (s : ByteArray) (a : Option Addr) (l c : Nat) (w : World) (hs : s.size ≤ maxLen) (hg : 3 < w.heap.size) (hr : StrRow w 3 kwWords) :
    Calls Tryd.prog 71 #[.agg #[.int .i64 k, .int .i64 n, .string s, .slice a l c]] w fun e w' => e = .returned (.bool (nmB k n s)) ∧ Below w.heap.size w w' := by
  have HB : ∀ o : Obj, Hid (Below w.heap.size w (w.alloc o)) := fun o => (Below.refl _ _).alloc (Nat.le_refl _) _
  have HS := hid_mk hs
  have HR : ∀ o : Obj, Hid (StrRow (w.alloc o) 3 kwWords) := fun o i hi => ((HB o).out.cell (p := ⟨3, i, none⟩) hg).trans (hr i hi)
  clear hs hr hg
  by_cases c2 : k = 2
  · subst c2
    cases hnm : nameB s
    all_goals go_enter Tryd.func71, Tryd.ntmps71
    all_goals go_wp2_with (go_at_call 80; refine (impl_name _ _ HS.out (HR _).out).mono ?_; rw [hnm]; rintro e w1 ⟨rfl, rfl⟩)
    all_goals go_ret
    all_goals exact ⟨ret_bool (by unfold nmB; simp [hnm]), (HB _).out⟩
  by_cases c3 : k = 3
  · subst c3
    cases hnm : nameB s
    all_goals go_enter Tryd.func71, Tryd.ntmps71
    all_goals go_wp2_with (go_at_call 80; refine (impl_name _ _ HS.out (HR _).out).mono ?_; rw [hnm]; rintro e w1 ⟨rfl, rfl⟩)
    all_goals go_ret
    all_goals exact ⟨ret_bool (by unfold nmB; simp [hnm]), (HB _).out⟩
  by_cases c5 : k = 5
  · subst c5
    cases hnm : nameB s
    all_goals go_enter Tryd.func71, Tryd.ntmps71
    all_goals go_wp2_with (go_at_call 80; refine (impl_name _ _ HS.out (HR _).out).mono ?_; rw [hnm]; rintro e w1 ⟨rfl, rfl⟩)
    all_goals go_ret
    all_goals exact ⟨ret_bool (by unfold nmB; simp [hnm]), (HB _).out⟩
  by_cases c6 : k = 6
  · subst c6
    cases hnm : nameB s
    all_goals go_enter Tryd.func71, Tryd.ntmps71
    all_goals go_wp2_with (go_at_call 80; refine (impl_name _ _ HS.out (HR _).out).mono ?_; rw [hnm]; rintro e w1 ⟨rfl, rfl⟩)
    all_goals go_ret
    all_goals exact ⟨ret_bool (by unfold nmB; simp [hnm]), (HB _).out⟩
  by_cases c7 : k = 7
  · subst c7
    cases hnm : nameB s
    all_goals go_enter Tryd.func71, Tryd.ntmps71
    all_goals go_wp2_with (go_at_call 80; refine (impl_name _ _ HS.out (HR _).out).mono ?_; rw [hnm]; rintro e w1 ⟨rfl, rfl⟩)
    all_goals go_ret
    all_goals exact ⟨ret_bool (by unfold nmB; simp [hnm]), (HB _).out⟩
  by_cases c24 : k = 24
  · subst c24
    cases hnm : nameB s
    all_goals go_enter Tryd.func71, Tryd.ntmps71
    all_goals go_wp2_with (go_at_call 80; refine (impl_name _ _ HS.out (HR _).out).mono ?_; rw [hnm]; rintro e w1 ⟨rfl, rfl⟩)
    all_goals go_ret
    all_goals exact ⟨ret_bool (by unfold nmB; simp [hnm]), (HB _).out⟩
  by_cases c25 : k = 25
  · subst c25
    cases hnm : nameB s
    all_goals go_enter Tryd.func71, Tryd.ntmps71
    all_goals go_wp2_with (go_at_call 80; refine (impl_name _ _ HS.out (HR _).out).mono ?_; rw [hnm]; rintro e w1 ⟨rfl, rfl⟩)
    all_goals go_ret
    all_goals exact ⟨ret_bool (by unfold nmB; simp [hnm]), (HB _).out⟩
  by_cases c16 : k = 16
  · subst c16
    cases hnm : nameB s
    all_goals cases he : s.toList.isEmpty
    all_goals cases h1 : (n == 1)
    all_goals go_enter Tryd.func71, Tryd.ntmps71
    all_goals go_wp2_with (go_at_call 80; refine (impl_name _ _ HS.out (HR _).out).mono ?_; rw [hnm]; rintro e w1 ⟨rfl, rfl⟩)
    all_goals go_ret
    all_goals exact ⟨ret_bool (by unfold nmB; simp only [emptyB, hnm, he, num_b h1]; rfl), (HB _).out⟩
  by_cases c27 : k = 27
  · subst c27
    cases h1 : (s.toList == [45])
    all_goals cases h2 : (s.toList == [33])
    all_goals go_enter Tryd.func71, Tryd.ntmps71
    all_goals go_wp2
    all_goals go_ret
    all_goals exact ⟨ret_bool (by unfold nmB; simp only [h1, h2]; rfl), (HB _).out⟩
  by_cases c28 : k = 28
  · subst c28
    cases h1 : decide (0 < lvl s)
    all_goals go_enter Tryd.func71, Tryd.ntmps71
    all_goals go_wp2_with (go_at_call 81; refine (binding_any _ _).mono ?_; rintro e w1 ⟨rfl, rfl⟩)
    all_goals go_ret
    all_goals exact ⟨ret_bool (by unfold nmB; simp_all), (HB _).out⟩
  have HO : Hid (nmB k n s = emptyB s) := by unfold Hid nmB; simp [c2, c3, c5, c6, c7, c24, c25, c16, c27, c28]
  have n2 : (k == 2) = false := beq_eq_false_iff_ne.2 c2
  have n3 : (k == 3) = false := beq_eq_false_iff_ne.2 c3
  have n5 : (k == 5) = false := beq_eq_false_iff_ne.2 c5
  have n6 : (k == 6) = false := beq_eq_false_iff_ne.2 c6
  have n7 : (k == 7) = false := beq_eq_false_iff_ne.2 c7
  have n24 : (k == 24) = false := beq_eq_false_iff_ne.2 c24
  have n25 : (k == 25) = false := beq_eq_false_iff_ne.2 c25
  have n16 : (k == 16) = false := beq_eq_false_iff_ne.2 c16
  have n27 : (k == 27) = false := beq_eq_false_iff_ne.2 c27
  have n28 : (k == 28) = false := beq_eq_false_iff_ne.2 c28
  clear c2 c3 c5 c6 c7 c24 c25 c16 c27 c28
  cases he : s.toList.isEmpty
  all_goals go_enter Tryd.func71, Tryd.ntmps71
  all_goals go_wp2
  all_goals go_ret
  all_goals exact ⟨ret_bool (by rw [HO.out]; simp [emptyB, he]), (HB _).out⟩
end Go.Proofs.YtjgbjahcnnjfpaaDoor
namespace Go.Proofs.YtjgbjahcnnjfpaaDoor
open Go.RowKit

def twF (kk : Nat → Int) (c : Nat) : Nat → Nat → Nat
  | 0, _ => 0
  | m + 1, d => if ofB (kk d) c then twF kk c m (d + 1) + 1 else 0
def fitsF (kk : Nat → Int) (len : Nat) : Nat → List UInt8 → Nat → Bool
  | 0, _, d => decide (d = len)
  | f + 1, [], d => decide (d = len)
  | f + 1, c :: r, d =>
    if r.head? = some 63 then fitsF kk len f r.tail (d + twF kk c.toNat (min 1 (len - d)) d)
    else if r.head? = some 42 then fitsF kk len f r.tail (d + twF kk c.toNat (len - d) d)
    else if twF kk c.toNat (min 1 (len - d)) d < 1 then false else fitsF kk len f r (d + twF kk c.toNat (min 1 (len - d)) d)

theorem size_list' (s : ByteArray) : s.data.toList.length = s.size := rfl
theorem ext_list (s : ByteArray) (a b : Nat) : (s.extract a b).data.toList = (s.data.toList.drop a).take (b - a) := Lib.extract_data s a b
theorem tail_list (s : ByteArray) : (s.extract 1 s.size).data.toList = s.data.toList.tail := by
  rw [ext_list, List.take_of_length_le (by rw [List.length_drop, size_list']; omega), List.drop_one]
theorem size_list (s : ByteArray) : s.data.toList.length = s.size := rfl
theorem empty_list (s : ByteArray) : s.toList.isEmpty = s.data.toList.isEmpty := by rw [ByteArray.toList_eq]

set_option maxHeartbeats 1000000 in
theorem hp_slite (s : ByteArray) (c : UInt8) (w : World) (hs : s.size ≤ 100) :
    Calls Tryd.prog 98 #[.string s, .string ⟨#[c]⟩] w fun e w' => e = .returned (.bool (decide (s.data.toList.head? = some c))) ∧ w' = w := by
  have HL := hid_mk (ext_list s 0 1)
  have HZ := hid_mk (size_list s)
  go_enter Tryd.func98, Tryd.ntmps98
  go_wp2
  all_goals go_ret
  · refine ⟨ret_bool ?_, rfl⟩
    rw [ByteArray.toList_eq, HL.out]
    cases h : s.data.toList with
    | nil => rw [Bool.eq_iff_iff]; simp
    | cons x l => rw [Bool.eq_iff_iff]; simp
  · refine ⟨ret_bool ?_, rfl⟩
    cases h : s.data.toList with
    | nil => simp
    | cons x l => have := HZ.out; rw [h] at this; simp at this; omega
theorem hp_any (s : ByteArray) (c : UInt8) (w : World) (hs : s.size ≤ 100) :
    Calls Tryd.prog 93 #[.string s, .string ⟨#[c]⟩] w fun e w' => e = .returned (.bool (decide (s.data.toList.head? = some c))) ∧ w' = w := by
  have HC := hid_mk (fun w => hp_slite s c w hs)
  go_enter Tryd.func93, Tryd.ntmps93
  go_wp2_with (go_at_call 98; refine (HC.out _).mono ?_; rintro e w' ⟨rfl, rfl⟩)
  go_ret
  exact ⟨rfl, rfl⟩

theorem tw_of {kk : Nat → Int} {c : Nat} : ∀ {m t d : Nat}, (∀ i, i < t → ofB (kk (d + i)) c = true) → t ≤ m → (t = m ∨ ofB (kk (d + t)) c = false) → twF kk c m d = t
  | 0, t, d, _, h, _ => by simp [twF]; omega
  | m + 1, 0, d, _, _, h => by
    have h' : ofB (kk d) c = false := by rcases h with h | h; omega; simpa using h
    simp [twF, h']
  | m + 1, t + 1, d, ha, hm, h => by
    have h0 : ofB (kk d) c = true := by simpa using ha 0 (by omega)
    have := tw_of (kk := kk) (c := c) (m := m) (t := t) (d := d + 1) (fun i hi => by have := ha (i + 1) (by omega); rwa [show d + (i + 1) = d + 1 + i by omega] at this) (by omega)
      (by rcases h with h | h
          · exact .inl (by omega)
          · exact .inr (by rwa [show d + (t + 1) = d + 1 + t by omega] at h))
    simp [twF, h0, this]
theorem fits_cons {kk : Nat → Int} {len d : Nat} {s : ByteArray} {c : UInt8} {r : List UInt8} (h : s.data.toList = c :: r) : fitsF kk len s.size s.data.toList d =
    if r.head? = some 63 then fitsF kk len r.length r.tail (d + twF kk c.toNat (min 1 (len - d)) d)
    else if r.head? = some 42 then fitsF kk len r.length r.tail (d + twF kk c.toNat (len - d) d)
    else if twF kk c.toNat (min 1 (len - d)) d < 1 then false else fitsF kk len r.length r (d + twF kk c.toNat (min 1 (len - d)) d) := by
  have hz : s.size = r.length + 1 := by rw [← size_list', h]; rfl
  rw [hz, h]; rfl
theorem fits_more {kk : Nat → Int} {len : Nat} : ∀ (f : Nat) (l : List UInt8) (d : Nat), l.length ≤ f → fitsF kk len f l d = fitsF kk len l.length l d
  | 0, l, d, h => by
    have : l = [] := List.eq_nil_of_length_eq_zero (by omega)
    subst this; rfl
  | f + 1, [], d, _ => rfl
  | f + 1, c :: r, d, h => by
    simp only [List.length_cons] at h ⊢
    simp only [fitsF]
    rw [fits_more f r.tail _ (by rw [List.length_tail]; omega), fits_more f r.tail _ (by rw [List.length_tail]; omega), fits_more f r _ (by omega),
      fits_more r.length r.tail _ (by rw [List.length_tail]; omega), fits_more r.length r.tail _ (by rw [List.length_tail]; omega)]

theorem below_drewI (B : Nat) (w : World) (n : Nat) : Below B w (w.drewN n) := ⟨rfl, rfl, rfl, Nat.le_refl _, fun _ _ => rfl⟩

def Rest (w : World) (kk : Nat → Int) (len g off d : Nat) (v : Value) : Prop :=
  ∃ a cap, v = .slice a (len - d) cap ∧ len - d ≤ cap ∧ cap ≤ 9223372036854775807 ∧ (d < len → a = some ⟨g, off + d * 4, none⟩) ∧ ∀ i, d ≤ i → i < len → w.cell? ⟨g, off + i * 4, none⟩ = some (.int .i64 (kk i))

theorem rest_next {w : World} {kk : Nat → Int} {len g off d t cap : Nat} {a : Option Addr} (hc : ∀ i, d ≤ i → i < len → w.cell? ⟨g, off + i * 4, none⟩ = some (.int .i64 (kk i))) (h1 : t ≤ len - d) (h2 : len - d ≤ cap) (h3 : cap ≤ 9223372036854775807)
    (ha : d + t < len → a = some ⟨g, off + d * 4 + t * 4, none⟩) : Rest w kk len g off (d + t) (.slice a (len - d - t) (cap - t)) := by
  refine ⟨a, cap - t, by rw [show len - (d + t) = len - d - t by omega], by omega, by omega, fun h => ?_, fun i hi => hc i (by omega)⟩
  rw [ha h, show off + (d + t) * 4 = off + d * 4 + t * 4 by omega]
theorem rest_any {w : World} {kk : Nat → Int} {len g off d t l cap : Nat} {a : Option Addr} (hc : ∀ i, d ≤ i → i < len → w.cell? ⟨g, off + i * 4, none⟩ = some (.int .i64 (kk i))) (hl : l = len - (d + t)) (h2 : l ≤ cap) (h3 : cap ≤ 9223372036854775807)
    (ha : d + t < len → a = some ⟨g, off + d * 4 + t * 4, none⟩) : Rest w kk len g off (d + t) (.slice a l cap) := by
  refine ⟨a, cap, by rw [hl], by omega, by omega, fun h => ?_, fun i hi => hc i (by omega)⟩
  rw [ha h, show off + (d + t) * 4 = off + d * 4 + t * 4 by omega]
theorem rest_end {w : World} {kk : Nat → Int} {len g off l cap : Nat} {a : Option Addr} (hl : l = 0) (h3 : cap ≤ 9223372036854775807) : Rest w kk len g off len (.slice a l cap) := by
  subst hl
  exact ⟨a, cap, by rw [Nat.sub_self], by omega, h3, fun h => by omega, fun i h1 h2 => by omega⟩
theorem fits_of {kk : Nat → Int} {len d : Nat} {s : ByteArray} {l : List UInt8} (h : s.data.toList = l) : fitsF kk len s.size s.data.toList d = fitsF kk len l.length l d := by
  subst h; rfl

set_option maxHeartbeats 4000000 in
set_option maxRecDepth 100000 in
theorem list_any (kk : Nat → Int) (len g off : Nat) (form : ByteArray) (v : Value) (w : World) (hl : len ≤ 9223372036854775807) (hs : form.size ≤ 100) (hg : g < w.heap.size) (hr : Rest w kk len g off 0 v) :
    Calls Tryd.prog 82 #[v, .string form] w fun e w' => e = .returned (.bool (fitsF kk len form.size form.data.toList 0)) ∧ Below w.heap.size w w' := by
  obtain ⟨a0, cap0, rfl, hrest⟩ := hr
  have HR := hid_mk hrest
  generalize hres : fitsF kk len form.size form.data.toList 0 = res
  have HRES := hid_mk hres
  clear hrest hres
  go_enter Tryd.func82, Tryd.ntmps82
  go_wp2
  go_loopg [0, 1] form.size (fun gk kids f wr => ∃ (d : Nat) (s : ByteArray), gk = s.size ∧ s.size ≤ 100 ∧ f = .string s ∧ d ≤ len ∧ Rest w kk len g off d kids ∧ Hid (fitsF kk len s.size s.data.toList d = res) ∧ Below w.heap.size w wr)
  case atStart => exact ⟨0, form, rfl, hs, rfl, by omega, ⟨a0, cap0, rfl, HR.out⟩, HRES.out, Below.refl _ _⟩
  case round =>
    obtain ⟨d, s, hgk, hs1, rfl, hd, ⟨a, cap, rfl, hlc, hcm, ha, hcell⟩, hfit, hb⟩ := hrel
    clear HR HRES hs
    cases hz : s.toList.isEmpty
    · obtain ⟨c, r, hl0⟩ : ∃ c r, s.data.toList = c :: r := by
        cases h : s.data.toList with
        | nil => rw [empty_list, h] at hz; cases hz
        | cons c r => exact ⟨c, r, rfl⟩
      have hsz : s.size = r.length + 1 := by rw [← size_list', hl0]; rfl
      have h1s : (1 : Int) ≤ (s.size : Int) := by omega
      have h0s : 0 < s.size := by omega
      have hc0 : s[0]'h0s = c := by
        have : s.data.toList[0]'(by rw [hl0]; simp) = c := by simp [hl0]
        rw [← this]; rfl
      subst hc0
      have HL1 : Hid ((s.extract 1 s.size).data.toList = r) := by unfold Hid; rw [tail_list, hl0]; rfl
      have HFIT := hid_mk (hfit.out ▸ fits_cons hl0)
      have HL0 := hid_mk hl0
      have HSZ := hid_mk hsz
      have HGK := hid_mk hgk
      clear hfit hl0 hsz hgk
      have hhp : ∀ (x : UInt8) (W : World), Hid (Calls Tryd.prog 93 #[.string (s.extract 1 s.size), .string ⟨#[x]⟩] W fun e w' => e = .returned (.bool (decide (r.head? = some x))) ∧ w' = W) := fun x W => by
        have := hp_any (s.extract 1 s.size) x W (by rw [← size_list', HL1.out]; have := HSZ.out; omega)
        rw [HL1.out] at this
        exact this
      by_cases q63 : r.head? = some 63
      · have HQ := hid_mk q63
        clear q63
        go_wp2_with (go_at_call 93; refine (hhp _ _).out.mono ?_; rw [decide_eq_true HQ.out]; rintro e _ ⟨rfl, rfl⟩)
        have HFT : Hid (res = fitsF kk len r.length r.tail (d + twF kk s[0].toNat (min 1 (len - d)) d)) := by have := HFIT.out; rw [if_pos HQ.out] at this; exact this
        have hrz : 1 ≤ r.length := by
          have := HQ.out
          cases r with
          | nil => cases this
          | cons => simp
        have HT2 : Hid (((s.extract 1 s.size).extract 1 (s.extract 1 s.size).size).data.toList = r.tail) := by unfold Hid; rw [tail_list, HL1.out]
        have hz1 : (s.extract 1 s.size).size = r.length := by rw [← size_list', HL1.out]
        have hi1 : (1 : Int) ≤ ((s.extract 1 s.size).size : Int) := by omega
        have HZ1 := hid_mk hz1
        have HS2 : Hid (((s.extract 1 s.size).extract 1 (s.extract 1 s.size).size).size + 2 ≤ s.size ∧ s.size ≤ 100) := by
          unfold Hid; rw [← size_list', HT2.out, List.length_tail]; have := HSZ.out; omega
        clear hz1 HFIT
        generalize s.extract 1 s.size = s1 at *
        go_quiet (fail)
        go_wp2
        clear hhp HL0
        have hmn : ∃ m : Nat, m = min 1 (len - d) := ⟨_, rfl⟩
        obtain ⟨m, hm⟩ := hmn
        have hml : m ≤ len - d := by omega
        have hm1 : (min 1 ((len - d : Nat) : Int) : Int) = (m : Int) := by omega
        rw [← hm] at HFT
        have HM := hid_mk hm
        clear hm
        go_loopg [8] m (fun k2 i wx => ∃ (t : Nat), k2 = m - t ∧ t ≤ m ∧ i = .int .i64 t ∧ Hid (∀ i, i < t → ofB (kk (d + i)) s[0].toNat = true) ∧ Below w.heap.size w wx)
        case atStart => exact ⟨0, by omega, by omega, rfl, (fun i hi => by omega), (show Below w.heap.size w _ from (hb.trans (show Below w.heap.size _ _ from below_drewI _ _ _)))⟩
        case round =>
          obtain ⟨t, hgk2, ht, rfl, hall, hbx⟩ := hrel
          have HG2 := hid_mk hgk2
          clear hgk2
          have leave : ∀ hstop : t = m ∨ ofB (kk (d + t)) s[0].toNat = false, twF kk s[0].toNat m d = t := fun hstop => tw_of hall.out ht hstop
          have HLV := hid_mk leave
          clear leave
          by_cases hlt : t < m
          · obtain rfl := ha (by omega)
            have hcl : wr.cell? ⟨g, off + d * 4 + t * 4, none⟩ = some (.int .i64 (kk (d + t))) := by
              rw [hbx.cell (p := ⟨g, _, none⟩) hg, show off + d * 4 + t * 4 = off + (d + t) * 4 by omega]; exact hcell (d + t) (by omega) (by omega)
            have HY : Hid (ofB (kk (d + t)) s[0].toNat = true → ∀ i, i < t + 1 → ofB (kk (d + i)) s[0].toNat = true) := fun h i hi => by
              by_cases e : i = t
              · subst e; exact h
              · exact hall.out i (by omega)
            clear hall
            cases ho : ofB (kk (d + t)) s[0].toNat
            all_goals have HO := hid_mk ho
            all_goals clear ho
            all_goals go_wp2_with (go_at_call 94; refine (isof_any _ _ _).mono ?_; rw [HO.out]; rintro e _ ⟨rfl, rfl⟩)
            · go_roundg (s1.extract 1 s1.size).size
              case rel => exact ⟨d + t, _, rfl, by have := HS2.out; omega, rfl, by omega, rest_next hcell (by omega) (by omega) (by omega) (fun h => by first | rfl | omega), (by rw [fits_of HT2.out, HFT.out, HLV.out (.inr HO.out)]; exact (fits_more _ _ _ (by rw [List.length_tail]; omega)).symm), hbx⟩
              case measure => have := HS2.out; have := HGK.out; omega
            · go_roundg (m - (t + 1))
              case rel => exact ⟨t + 1, rfl, by omega, by go_num, HY.out HO.out, hbx⟩
              case measure => have := HG2.out; omega
          · have htm : t = m := by omega
            have HLT := HLV.out (.inl htm)
            have HLTH := hid_mk HLT
            clear HLT HLV hall
            by_cases hdl : d < len
            · obtain rfl := ha hdl
              subst htm
              go_wp2
              · go_roundg (s1.extract 1 s1.size).size
                case rel => exact ⟨d + t, _, rfl, by have := HS2.out; omega, rfl, by omega, rest_any hcell (by omega) (by omega) (by omega) (fun h => by first | rfl | omega), (by rw [fits_of HT2.out, HFT.out, HLTH.out]; exact (fits_more _ _ _ (by rw [List.length_tail]; omega)).symm), hbx⟩
                case measure => have := HS2.out; have := HGK.out; omega
              · go_roundg (s1.extract 1 s1.size).size
                case rel => exact ⟨d + t, _, rfl, by have := HS2.out; omega, rfl, by omega, rest_any hcell (by omega) (by omega) (by omega) (fun h => by first | rfl | omega), (by rw [fits_of HT2.out, HFT.out, HLTH.out]; exact (fits_more _ _ _ (by rw [List.length_tail]; omega)).symm), hbx⟩
                case measure => have := HS2.out; have := HGK.out; omega
            · obtain rfl : d = len := by omega
              obtain rfl : m = 0 := by omega
              obtain rfl : t = 0 := by omega
              clear htm
              cases a
              · go_wp2
                go_roundg (s1.extract 1 s1.size).size
                case rel => exact ⟨d, _, rfl, by have := HS2.out; omega, rfl, by omega, rest_end (by omega) (by omega), (by rw [fits_of HT2.out, HFT.out, HLTH.out, Nat.add_zero]; exact (fits_more _ _ _ (by rw [List.length_tail]; omega)).symm), hbx⟩
                case measure => have := HS2.out; have := HGK.out; omega
              · go_wp2
                go_roundg (s1.extract 1 s1.size).size
                case rel => exact ⟨d, _, rfl, by have := HS2.out; omega, rfl, by omega, rest_end (by omega) (by omega), (by rw [fits_of HT2.out, HFT.out, HLTH.out, Nat.add_zero]; exact (fits_more _ _ _ (by rw [List.length_tail]; omega)).symm), hbx⟩
                case measure => have := HS2.out; have := HGK.out; omega
      by_cases q42 : r.head? = some 42
      · have HQ := hid_mk q42
        have HQ0 := hid_mk q63
        clear q42 q63
        have P1 : Hid True := trivial
        go_wp2_with (go_at_call 93; first | (clear P1; refine (hhp 63 _).out.mono ?_; rw [decide_eq_false HQ0.out]; rintro e _ ⟨rfl, rfl⟩) | (refine (hhp 42 _).out.mono ?_; rw [decide_eq_true HQ.out]; rintro e _ ⟨rfl, rfl⟩))
        have HFT : Hid (res = fitsF kk len r.length r.tail (d + twF kk s[0].toNat (len - d) d)) := by have := HFIT.out; rw [if_neg HQ0.out, if_pos HQ.out] at this; exact this
        have hrz : 1 ≤ r.length := by
          have := HQ.out
          cases r with
          | nil => cases this
          | cons => simp
        have HT2 : Hid (((s.extract 1 s.size).extract 1 (s.extract 1 s.size).size).data.toList = r.tail) := by unfold Hid; rw [tail_list, HL1.out]
        have hz1 : (s.extract 1 s.size).size = r.length := by rw [← size_list', HL1.out]
        have hi1 : (1 : Int) ≤ ((s.extract 1 s.size).size : Int) := by omega
        have HZ1 := hid_mk hz1
        have HS2 : Hid (((s.extract 1 s.size).extract 1 (s.extract 1 s.size).size).size + 2 ≤ s.size ∧ s.size ≤ 100) := by
          unfold Hid; rw [← size_list', HT2.out, List.length_tail]; have := HSZ.out; omega
        clear hz1 HFIT
        generalize s.extract 1 s.size = s1 at *
        go_quiet (fail)
        go_wp2
        clear hhp HL0
        have hmn : ∃ m : Nat, m = len - d := ⟨_, rfl⟩
        obtain ⟨m, hm⟩ := hmn
        have hml : m ≤ len - d := by omega
        have hml2 : len - d ≤ m := by omega
        rw [← hm] at HFT
        have HM := hid_mk hm
        clear hm
        go_loopg [8] m (fun k2 i wx => ∃ (t : Nat), k2 = m - t ∧ t ≤ m ∧ i = .int .i64 t ∧ Hid (∀ i, i < t → ofB (kk (d + i)) s[0].toNat = true) ∧ Below w.heap.size w wx)
        case atStart => exact ⟨0, by omega, by omega, rfl, (fun i hi => by omega), (show Below w.heap.size w _ from (hb.trans (show Below w.heap.size _ _ from below_drewI _ _ _)))⟩
        case round =>
          obtain ⟨t, hgk2, ht, rfl, hall, hbx⟩ := hrel
          have HG2 := hid_mk hgk2
          clear hgk2
          have leave : ∀ hstop : t = m ∨ ofB (kk (d + t)) s[0].toNat = false, twF kk s[0].toNat m d = t := fun hstop => tw_of hall.out ht hstop
          have HLV := hid_mk leave
          clear leave
          by_cases hlt : t < m
          · obtain rfl := ha (by omega)
            have hcl : wr.cell? ⟨g, off + d * 4 + t * 4, none⟩ = some (.int .i64 (kk (d + t))) := by
              rw [hbx.cell (p := ⟨g, _, none⟩) hg, show off + d * 4 + t * 4 = off + (d + t) * 4 by omega]; exact hcell (d + t) (by omega) (by omega)
            have HY : Hid (ofB (kk (d + t)) s[0].toNat = true → ∀ i, i < t + 1 → ofB (kk (d + i)) s[0].toNat = true) := fun h i hi => by
              by_cases e : i = t
              · subst e; exact h
              · exact hall.out i (by omega)
            clear hall
            cases ho : ofB (kk (d + t)) s[0].toNat
            all_goals have HO := hid_mk ho
            all_goals clear ho
            all_goals go_wp2_with (go_at_call 94; refine (isof_any _ _ _).mono ?_; rw [HO.out]; rintro e _ ⟨rfl, rfl⟩)
            · go_roundg (s1.extract 1 s1.size).size
              case rel => exact ⟨d + t, _, rfl, by have := HS2.out; omega, rfl, by omega, rest_next hcell (by omega) (by omega) (by omega) (fun h => by first | rfl | omega), (by rw [fits_of HT2.out, HFT.out, HLV.out (.inr HO.out)]; exact (fits_more _ _ _ (by rw [List.length_tail]; omega)).symm), hbx⟩
              case measure => have := HS2.out; have := HGK.out; omega
            · go_roundg (m - (t + 1))
              case rel => exact ⟨t + 1, rfl, by omega, by go_num, HY.out HO.out, hbx⟩
              case measure => have := HG2.out; omega
          · have htm : t = m := by omega
            have HLT := HLV.out (.inl htm)
            have HLTH := hid_mk HLT
            clear HLT HLV hall
            by_cases hdl : d < len
            · obtain rfl := ha hdl
              subst htm
              go_wp2
              · go_roundg (s1.extract 1 s1.size).size
                case rel => exact ⟨d + t, _, rfl, by have := HS2.out; omega, rfl, by omega, rest_any hcell (by omega) (by omega) (by omega) (fun h => by first | rfl | omega), (by rw [fits_of HT2.out, HFT.out, HLTH.out]; exact (fits_more _ _ _ (by rw [List.length_tail]; omega)).symm), hbx⟩
                case measure => have := HS2.out; have := HGK.out; omega
              · go_roundg (s1.extract 1 s1.size).size
                case rel => exact ⟨d + t, _, rfl, by have := HS2.out; omega, rfl, by omega, rest_any hcell (by omega) (by omega) (by omega) (fun h => by first | rfl | omega), (by rw [fits_of HT2.out, HFT.out, HLTH.out]; exact (fits_more _ _ _ (by rw [List.length_tail]; omega)).symm), hbx⟩
                case measure => have := HS2.out; have := HGK.out; omega
            · obtain rfl : d = len := by omega
              obtain rfl : m = 0 := by omega
              obtain rfl : t = 0 := by omega
              clear htm
              cases a
              · go_wp2
                go_roundg (s1.extract 1 s1.size).size
                case rel => exact ⟨d, _, rfl, by have := HS2.out; omega, rfl, by omega, rest_end (by omega) (by omega), (by rw [fits_of HT2.out, HFT.out, HLTH.out, Nat.add_zero]; exact (fits_more _ _ _ (by rw [List.length_tail]; omega)).symm), hbx⟩
                case measure => have := HS2.out; have := HGK.out; omega
              · go_wp2
                go_roundg (s1.extract 1 s1.size).size
                case rel => exact ⟨d, _, rfl, by have := HS2.out; omega, rfl, by omega, rest_end (by omega) (by omega), (by rw [fits_of HT2.out, HFT.out, HLTH.out, Nat.add_zero]; exact (fits_more _ _ _ (by rw [List.length_tail]; omega)).symm), hbx⟩
                case measure => have := HS2.out; have := HGK.out; omega
      have HQ0 := hid_mk q63
      have HQ := hid_mk q42
      clear q42 q63
      have P1 : Hid True := trivial
      go_wp2_with (go_at_call 93; first | (clear P1; refine (hhp 63 _).out.mono ?_; rw [decide_eq_false HQ0.out]; rintro e _ ⟨rfl, rfl⟩) | (refine (hhp 42 _).out.mono ?_; rw [decide_eq_false HQ.out]; rintro e _ ⟨rfl, rfl⟩))
      have HFT : Hid (res = if twF kk s[0].toNat (min 1 (len - d)) d < 1 then false else fitsF kk len r.length r (d + twF kk s[0].toNat (min 1 (len - d)) d)) := by have := HFIT.out; rw [if_neg HQ0.out, if_neg HQ.out] at this; exact this
      have hz1 : (s.extract 1 s.size).size = r.length := by rw [← size_list', HL1.out]
      have HS2 : Hid ((s.extract 1 s.size).size + 1 ≤ s.size ∧ s.size ≤ 100) := by unfold Hid; have := HSZ.out; omega
      clear hz1 HFIT hhp HL0
      generalize s.extract 1 s.size = s1 at *
      obtain ⟨m, hm⟩ : ∃ m : Nat, m = min 1 (len - d) := ⟨_, rfl⟩
      have hml : m ≤ len - d := by omega
      have hm1 : (min 1 ((len - d : Nat) : Int) : Int) = (m : Int) := by omega
      rw [← hm] at HFT
      have hm2 : m ≤ 1 := by omega
      have HM := hid_mk hm
      clear hm
      go_loopg [8] m (fun k2 i wx => ∃ (t : Nat), k2 = m - t ∧ t ≤ m ∧ i = .int .i64 t ∧ Hid (∀ i, i < t → ofB (kk (d + i)) s[0].toNat = true) ∧ Below w.heap.size w wx)
      case atStart => exact ⟨0, by omega, by omega, rfl, (fun i hi => by omega), hb⟩
      case round =>
        obtain ⟨t, hgk2, ht, rfl, hall, hbx⟩ := hrel
        have HG2 := hid_mk hgk2
        clear hgk2
        have leave : ∀ hstop : t = m ∨ ofB (kk (d + t)) s[0].toNat = false, twF kk s[0].toNat m d = t := fun hstop => tw_of hall.out ht hstop
        have HLV := hid_mk leave
        clear leave
        by_cases hlt : t < m
        · obtain rfl := ha (by omega)
          have hcl : wr.cell? ⟨g, off + d * 4 + t * 4, none⟩ = some (.int .i64 (kk (d + t))) := by
            rw [hbx.cell (p := ⟨g, _, none⟩) hg, show off + d * 4 + t * 4 = off + (d + t) * 4 by omega]; exact hcell (d + t) (by omega) (by omega)
          have HY : Hid (ofB (kk (d + t)) s[0].toNat = true → ∀ i, i < t + 1 → ofB (kk (d + i)) s[0].toNat = true) := fun h i hi => by
            by_cases e : i = t
            · subst e; exact h
            · exact hall.out i (by omega)
          clear hall
          have ht1 : t < 1 := by omega
          cases ho : ofB (kk (d + t)) s[0].toNat
          all_goals have HO := hid_mk ho
          all_goals clear ho
          all_goals go_wp2_with (go_at_call 94; refine (isof_any _ _ _).mono ?_; rw [HO.out]; rintro e _ ⟨rfl, rfl⟩)
          · go_ret
            exact ⟨ret_bool (by rw [HFT.out, HLV.out (.inr HO.out), if_pos ht1]), hbx⟩
          · go_roundg (m - (t + 1))
            case rel => exact ⟨t + 1, rfl, by omega, by go_num, HY.out HO.out, hbx⟩
            case measure => have := HG2.out; omega
        · have htm : t = m := by omega
          have HLT := HLV.out (.inl htm)
          have HLTH := hid_mk HLT
          clear HLT HLV hall
          by_cases hdl : d < len
          · obtain rfl := ha hdl
            subst htm
            obtain rfl : t = 1 := by have := HM.out; omega
            go_wp2
            · go_roundg s1.size
              case rel => exact ⟨d + 1, _, rfl, by have := HS2.out; omega, rfl, by omega, rest_any (t := 1) hcell (by omega) (by omega) (by omega) (fun h => by first | rfl | omega), (show fitsF kk len s1.size s1.data.toList (d + 1) = res by rw [fits_of HL1.out, HFT.out, HLTH.out, if_neg (by omega)]), hbx⟩
              case measure => have := HS2.out; have := HGK.out; omega
            · go_roundg s1.size
              case rel => exact ⟨d + 1, _, rfl, by have := HS2.out; omega, rfl, by omega, rest_any (t := 1) hcell (by omega) (by omega) (by omega) (fun h => by first | rfl | omega), (show fitsF kk len s1.size s1.data.toList (d + 1) = res by rw [fits_of HL1.out, HFT.out, HLTH.out, if_neg (by omega)]), hbx⟩
              case measure => have := HS2.out; have := HGK.out; omega
          · obtain rfl : d = len := by omega
            obtain rfl : m = 0 := by omega
            obtain rfl : t = 0 := by omega
            clear htm
            go_wp2
            go_ret
            exact ⟨ret_bool (by rw [HFT.out, HLTH.out]; rfl), hbx⟩
    · have HF : Hid (res = decide (d = len)) := by
        have := hfit.out
        rw [empty_list, List.isEmpty_iff] at hz
        have hsz : s.size = 0 := by rw [← size_list, hz]; rfl
        rw [hz, hsz] at this
        exact this.symm
      cases h0 : (((len - d : Nat) : Int) == 0)
      all_goals go_wp2
      all_goals go_ret
      all_goals refine ⟨ret_bool ?_, hb⟩
      · rw [HF.out, eq_comm, decide_eq_false_iff_not]; have := beq_eq_false_iff_ne.1 h0; omega
      · rw [HF.out, eq_comm, decide_eq_true_eq]; have := beq_iff_eq.1 h0; omega
end Go.Proofs.YtjgbjahcnnjfpaaDoor
namespace Go.Proofs.YtjgbjahcnnjfpaaDoor
open Go.RowKit

def kidWords : List ByteArray := [⟨#[]⟩, ⟨#[102, 42]⟩, ⟨#[112, 42, 98]⟩, ⟨#[]⟩, ⟨#[115, 42]⟩, ⟨#[101]⟩, ⟨#[101]⟩, ⟨#[]⟩, ⟨#[101, 101]⟩, ⟨#[97]⟩, ⟨#[101, 98, 111, 63]⟩, ⟨#[101, 63, 98]⟩, ⟨#[101, 63]⟩, ⟨#[99]⟩, ⟨#[99]⟩, ⟨#[119, 42]⟩, ⟨#[]⟩, ⟨#[]⟩, ⟨#[]⟩, ⟨#[101]⟩, ⟨#[101]⟩, ⟨#[101]⟩, ⟨#[]⟩, ⟨#[]⟩, ⟨#[]⟩, ⟨#[101, 42]⟩, ⟨#[101, 63]⟩, ⟨#[101]⟩, ⟨#[101, 101]⟩, ⟨#[101]⟩]
def caseWords : List ByteArray := [⟨#[98]⟩, ⟨#[101, 98]⟩, ⟨#[101, 101, 98]⟩]
def formOf (k n : Int) : ByteArray := if k = 16 then caseWords.getD n.toNat ⟨#[]⟩ else kidWords.getD k.toNat ⟨#[]⟩
def kidsF (T : Nd) : Bool := fitsF T.kk T.len (formOf T.kind T.num).size (formOf T.kind T.num).data.toList 0
def fitB (T : Nd) : Bool := numB T.kind T.num && nmB T.kind T.num T.name && kidsF T

theorem form_small (k n : Int) : (formOf k n).size ≤ 100 := by
  have h : ∀ l ∈ [caseWords, kidWords], ∀ i, (l.getD i ⟨#[]⟩).size ≤ 100 := by
    intro l hl i
    have hm : l.getD i ⟨#[]⟩ = ⟨#[]⟩ ∨ l.getD i ⟨#[]⟩ ∈ l := by
      by_cases hi : i < l.length
      · right; rw [List.getD_eq_getElem?_getD, List.getElem?_eq_getElem hi]; simp
      · left; rw [List.getD_eq_getElem?_getD, List.getElem?_eq_none (by omega)]; rfl
    rcases hm with h | h
    · rw [h]; decide
    · have : ∀ l ∈ [caseWords, kidWords], ∀ x ∈ l, x.size ≤ 100 := by decide
      exact this l hl _ h
  unfold formOf
  split
  · exact h _ (by simp) _
  · exact h _ (by simp) _

theorem rest_row {T : Nd} {w : World} {v : Value} {hi : Nat} (hr : Row 0 hi w T v) (h0 : 0 < hi) : ∃ g off, g < hi ∧ Rest w T.kk T.len g off 0 v := by
  obtain ⟨a, cap, rfl, hcap, hq⟩ := row_eq.1 hr
  rcases hq with hq | ⟨g, off, rfl, _, hg, hq⟩
  · exact ⟨0, 0, h0, a, cap, rfl, by omega, hcap.2, fun h => by omega, fun i _ h => by omega⟩
  · refine ⟨g, off, hg, some ⟨g, off, none⟩, cap, rfl, by omega, hcap.2, fun h => by simp, fun i _ h => ?_⟩
    obtain ⟨u, e0, _⟩ := hq i h
    exact e0

structure Tabs (w : World) : Prop where
  words : StrRow w 3 kwWords
  kids : StrRow w 1 kidWords
  cases : StrRow w 0 caseWords
  lt : 3 < w.heap.size
theorem tabs_below {w w' : World} (h : Tabs w) (hb : Below w.heap.size w w') : Tabs w' := by
  have := h.lt
  have hz := hb.size
  exact ⟨fun i hi => (hb.cell (p := ⟨3, i, none⟩) (by show 3 < _; omega)).trans (h.words i hi), fun i hi => (hb.cell (p := ⟨1, i, none⟩) (by show 1 < _; omega)).trans (h.kids i hi),
    fun i hi => (hb.cell (p := ⟨0, i, none⟩) (by show 0 < _; omega)).trans (h.cases i hi), by omega⟩

set_option maxHeartbeats 4000000 in
set_option maxRecDepth 100000 in
theorem kidsfit_any (T : Nd) (k : Nat) (hk : T.kind = (k : Int)) (h29 : k ≤ 29) (hcase : k = 16 → 0 ≤ T.num ∧ T.num ≤ 2) (w : World) (v : Value) (hi : Nat) (hf : T.Fine) (hhi : hi ≤ w.heap.size) (hi0 : 0 < hi) (hr : Row 0 hi w T v) (ht : Tabs w) :
    Calls Tryd.prog 72 #[T.val v] w fun e w' => e = .returned (.bool (kidsF T)) ∧ Below w.heap.size w w' := by
  obtain ⟨a, cap, hv, _⟩ := row_eq.1 hr
  have hn := T.fine_len hf
  have HB : ∀ o : Obj, Hid (Below w.heap.size w (w.alloc o)) := fun o => (Below.refl _ _).alloc (Nat.le_refl _) _
  have hlt := ht.lt
  have HL := hid_mk (fun (W : World) (hb : Below w.heap.size w W) => by
    obtain ⟨g, off, hg, hrest⟩ := rest_row (row_below hb hhi hr) hi0
    exact list_any T.kk T.len g off (formOf T.kind T.num) v W hn (form_small _ _) (by have := hb.size; omega) hrest)
  have HEO : Hid (kidsF T = fitsF T.kk T.len (formOf T.kind T.num).size (formOf T.kind T.num).data.toList 0) := rfl
  unfold Nd.val
  subst hv
  by_cases h16 : k = 16
  · subst h16
    obtain ⟨c0, c2⟩ := hcase rfl
    obtain ⟨m, hm⟩ : ∃ m : Nat, T.num = (m : Int) := ⟨T.num.toNat, by omega⟩
    have hcs : ∀ o : Obj, (w.alloc o).cell? ⟨0, m, none⟩ = some (.string (caseWords.getD m ⟨#[]⟩)) := fun o => ((HB o).out.cell (p := ⟨0, m, none⟩) (by show 0 < _; omega)).trans (ht.cases m (by show m < 3; omega))
    have hfo : formOf T.kind T.num = caseWords.getD m ⟨#[]⟩ := by unfold formOf; rw [hk, hm]; rfl
    rw [hfo] at HL HEO
    rw [hk, hm]
    have hm3 : (m : Int) < 3 := by omega
    have hm0 : (0 : Int) ≤ (m : Int) := by omega
    clear hf hr hk hm hcase c0 c2 ht hfo
    generalize caseWords.getD m ⟨#[]⟩ = fo at *
    go_enter Tryd.func72, Tryd.ntmps72
    go_wp2_with fail
    go_region_with (go_at_call 82; refine (HL.out _ (HB _).out.drew).mono ?_; rw [← HEO.out]; rintro e w1 ⟨rfl, hb1⟩)
    all_goals go_wp2
    all_goals go_ret
    all_goals exact ⟨rfl, (HB _).out.drew.trans (hb1.mono (by simp))⟩
  · have hcs : ∀ o : Obj, (w.alloc o).cell? ⟨1, k, none⟩ = some (.string (kidWords.getD k ⟨#[]⟩)) := fun o => ((HB o).out.cell (p := ⟨1, k, none⟩) (by show 1 < _; omega)).trans (ht.kids k (by show k < 30; omega))
    have hne : ((k : Int) == 16) = false := beq_eq_false_iff_ne.2 (by omega)
    have hfo : formOf T.kind T.num = kidWords.getD k ⟨#[]⟩ := by unfold formOf; rw [hk, if_neg (by omega)]; rfl
    rw [hfo] at HL HEO
    rw [hk]
    have hm3 : (k : Int) < 30 := by omega
    have hm0 : (0 : Int) ≤ (k : Int) := by omega
    clear hf hr hk hcase ht hfo h16
    generalize T.num = tn at *
    generalize kidWords.getD k ⟨#[]⟩ = fo at *
    go_enter Tryd.func72, Tryd.ntmps72
    go_wp2_with fail
    go_region_with (go_at_call 82; refine (HL.out _ (HB _).out.drew).mono ?_; rw [← HEO.out]; rintro e w1 ⟨rfl, hb1⟩)
    all_goals go_wp2
    all_goals go_ret
    all_goals exact ⟨rfl, (HB _).out.drew.trans (hb1.mono (by simp))⟩

set_option maxHeartbeats 4000000 in
theorem nodefits_any (T : Nd) (k : Nat) (hk : T.kind = (k : Int)) (h29 : k ≤ 29) (w : World) (v : Value) (hi : Nat) (hf : T.Fine) (hhi : hi ≤ w.heap.size) (hi0 : 0 < hi) (hr : Row 0 hi w T v) (ht : Tabs w) :
    Calls Tryd.prog 61 #[T.val v] w fun e w' => e = .returned (.bool (fitB T)) ∧ Below w.heap.size w w' := by
  obtain ⟨a, cap, hv, _⟩ := row_eq.1 hr
  have hs := T.fine_name hf
  have HB : ∀ o : Obj, Hid (Below w.heap.size w (w.alloc o)) := fun o => (Below.refl _ _).alloc (Nat.le_refl _) _
  have HEO : Hid (fitB T = (numB T.kind T.num && nmB T.kind T.num T.name && kidsF T)) := rfl
  have HK := hid_mk (fun (hc : k = 16 → 0 ≤ T.num ∧ T.num ≤ 2) (W : World) (hb : Below w.heap.size w W) => kidsfit_any T k hk h29 hc W v hi hf (by have := hb.size; omega) hi0 (row_below hb hhi hr) (tabs_below ht hb))
  have HN := hid_mk (fun (W : World) (hb : Below w.heap.size w W) => nm_any T.kind T.num T.name a T.len cap W (by unfold maxLen; exact hs) (tabs_below ht hb).lt (tabs_below ht hb).words)
  have HC : Hid (numB T.kind T.num = true → k = 16 → 0 ≤ T.num ∧ T.num ≤ 2) := fun h e => by
    rw [hk, e] at h; simpa [numB] using h
  unfold Nd.val at *
  subst hv
  clear hf hr hs hk ht
  generalize T.kind = tk at *
  generalize T.num = tn at *
  generalize T.name = ts at *
  cases h1 : numB tk tn
  · go_enter Tryd.func61, Tryd.ntmps61
    go_wp2_with (go_at_call 70; refine (num_any _ _ _ _ _ _ _).mono ?_; rw [h1]; rintro e w1 ⟨rfl, hb1⟩)
    go_ret
    exact ⟨ret_bool (by rw [HEO.out, h1]; rfl), (HB _).out.trans (hb1.mono (by simp))⟩
  have HC2 := hid_mk (HC.out h1)
  clear HC
  go_enter Tryd.func61, Tryd.ntmps61
  go_wp2_with (go_at_call 70; refine (num_any _ _ _ _ _ _ _).mono ?_; rw [h1]; rintro e w1 ⟨rfl, hb1⟩; have hz1 := hb1.size; simp only [World.size_alloc] at hz1; obtain ⟨hc1, hf1⟩ := bcell hb1; have B1 := hid_mk ((HB _).out.trans (hb1.mono (by simp))))
  have F1 : Hid (w1.cell? ⟨w.heap.size, 0, none⟩ = some (.int .i64 tk) ∧ w1.cell? ⟨w.heap.size, 1, none⟩ = some (.int .i64 tn) ∧ w1.cell? ⟨w.heap.size, 2, none⟩ = some (.string ts) ∧ w1.cell? ⟨w.heap.size, 3, none⟩ = some (.slice a T.len cap)) := by
    refine ⟨?_, ?_, ?_, ?_⟩ <;> (rw [hc1 _ _ (by simp)]; simp [go_sem])
  clear hc1 hf1 hb1
  cases h2 : nmB tk tn ts
  · refine (HN.out _ B1.out).mono ?_
    rw [h2]
    rintro e w2 ⟨rfl, hb2⟩
    go_wp2
    go_ret
    exact ⟨ret_bool (by rw [HEO.out, h1, h2]; rfl), B1.out.trans (hb2.mono (by omega))⟩
  · refine (HN.out _ B1.out).mono ?_
    rw [h2]
    rintro e w2 ⟨rfl, hb2⟩
    have hz2 := hb2.size
    have B2 := hid_mk (B1.out.trans (hb2.mono (by omega)))
    obtain ⟨f0, f1, f2, f3⟩ := F1.out
    rw [← (bcell hb2).1 _ _ (by omega)] at f0 f1 f2 f3
    clear hb2
    go_wp2_with fail
    refine (HK.out HC2.out _ B2.out).mono ?_
    cases h3 : kidsF T
    all_goals rintro e w3 ⟨rfl, hb3⟩
    all_goals go_wp2
    all_goals go_ret
    all_goals exact ⟨ret_bool (by rw [HEO.out, h1, h2, h3]; rfl), B2.out.trans (hb3.mono (by omega))⟩
end Go.Proofs.YtjgbjahcnnjfpaaDoor
namespace Go.Proofs.YtjgbjahcnnjfpaaDoor
open Go.RowKit

def lens (l : List (Nd × Nat)) : Nat := (l.map fun p => p.1.len).sum
theorem lens_app (a b : List (Nd × Nat)) : lens (a ++ b) = lens a + lens b := by simp [lens]
theorem lens_flat (f : Nat → List (Nd × Nat)) : ∀ n, lens ((List.range n).flatMap f) = sumTo (fun i => lens (f i)) n
  | 0 => rfl
  | n + 1 => by rw [List.range_succ, List.flatMap_append, lens_app, lens_flat f n]; simp [sumTo]
theorem sumTo_add {f g : Nat → Nat} : ∀ {n : Nat}, (∀ i, i < n → f i = 1 + g i) → sumTo f n = n + sumTo g n
  | 0, _ => rfl
  | n + 1, h => by simp only [sumTo]; rw [sumTo_add fun i hi => h i (by omega), h n (by omega)]; omega
theorem lens_pre (T : Nd) : ∀ d, T.size = 1 + lens (T.pre d) := by
  induction T with
  | nil => intro d; rfl
  | mk k n s len kids ih =>
    intro d
    rw [pre_eq, Nd.size_eq]
    show 1 + _ = 1 + lens ((_, d) :: preL _ (d + 1))
    have h1 : lens ((Nd.mk k n s len kids, d) :: preL (.mk k n s len kids) (d + 1)) = len + lens (preL (.mk k n s len kids) (d + 1)) := by simp [lens, Nd.len]
    rw [h1]
    unfold preL
    rw [lens_flat, sumTo_add (f := fun i => ((Nd.mk k n s len kids).kids i).size) (g := fun i => lens (((Nd.mk k n s len kids).kids i).pre (d + 1))) (fun i _ => ih i (d + 1))]
    rfl

theorem split_flat {f : Nat → List (Nd × Nat)} {p : Nd × Nat} : ∀ {n : Nat} {A B : List (Nd × Nat)}, A ++ p :: B = (List.range n).flatMap f → ∃ j, j < n ∧ ∃ A1 A2 B2, A = A1 ++ A2 ∧ f j = A2 ++ p :: B2
  | 0, A, B, h => by simp at h
  | n + 1, A, B, h => by
    rw [List.range_succ, List.flatMap_append] at h
    simp only [List.flatMap_cons, List.flatMap_nil, List.append_nil] at h
    rcases List.append_eq_append_iff.1 h with ⟨C, h1, h2⟩ | ⟨C, h1, h2⟩
    · cases C with
      | nil => exact ⟨n, by omega, A, [], B, by simp, by simpa using h2.symm⟩
      | cons c C' =>
        have hc : p = c ∧ B = C' ++ f n := by simpa using h2
        rw [← hc.1] at h1
        obtain ⟨j, hj, r⟩ := split_flat (A := A) (B := C') h1.symm
        exact ⟨j, by omega, r⟩
    · exact ⟨n, by omega, _, C, B, h1, h2⟩

theorem parent (T : Nd) : ∀ (d : Nat) (A B : List (Nd × Nat)) (p : Nd × Nat), A ++ p :: B = T.pre d → (A = [] ∧ p.1 = T) ∨ ∃ q, q ∈ A ∧ ∃ i, i < q.1.len ∧ p.1 = q.1.kids i := by
  induction T with
  | nil =>
    intro d A B p h
    cases A with
    | nil => left; simp [Nd.pre] at h; exact ⟨rfl, by rw [h.1]⟩
    | cons a A' => simp [Nd.pre] at h
  | mk k n s len kids ih =>
    intro d A B p h
    rw [pre_eq] at h
    cases A with
    | nil => left; simp at h; exact ⟨rfl, by rw [h.1]⟩
    | cons a A' =>
      right
      simp only [List.cons_append, List.cons.injEq] at h
      obtain ⟨rfl, h⟩ := h
      obtain ⟨j, hj, A1, A2, B2, rfl, hf⟩ := split_flat h
      rcases ih j (d + 1) A2 B2 p hf.symm with ⟨_, hp⟩ | ⟨q, hq, r⟩
      · exact ⟨_, List.mem_cons_self .., j, hj, hp⟩
      · exact ⟨q, by simp [hq], r⟩

theorem tw_spec {kk : Nat → Int} {c : Nat} : ∀ {m d i : Nat}, i < twF kk c m d → ofB (kk (d + i)) c = true
  | 0, d, i, h => by simp [twF] at h
  | m + 1, d, i, h => by
    simp only [twF] at h
    split at h
    · rename_i h0
      cases i with
      | zero => simpa using h0
      | succ i => have := tw_spec (kk := kk) (c := c) (m := m) (d := d + 1) (i := i) (by omega); rwa [show d + (i + 1) = d + 1 + i by omega]
    · omega
theorem fits_kinds {kk : Nat → Int} {len : Nat} : ∀ (f : Nat) (l : List UInt8) (d : Nat), fitsF kk len f l d = true → ∀ i, d ≤ i → i < len → ∃ c, ofB (kk i) c = true
  | 0, l, d, h, i, h1, h2 => by simp [fitsF] at h; omega
  | f + 1, [], d, h, i, h1, h2 => by simp [fitsF] at h; omega
  | f + 1, c :: r, d, h, i, h1, h2 => by
    have key : ∀ (m : Nat) (l : List UInt8), fitsF kk len f l (d + twF kk c.toNat m d) = true → ∃ c, ofB (kk i) c = true := fun m l hf => by
      by_cases hi : i < d + twF kk c.toNat m d
      · exact ⟨c.toNat, by have := tw_spec (kk := kk) (c := c.toNat) (m := m) (d := d) (i := i - d) (by omega); rwa [show d + (i - d) = i by omega] at this⟩
      · exact fits_kinds f l _ hf i (by omega) h2
    simp only [fitsF] at h
    split at h
    · exact key _ _ h
    · split at h
      · exact key _ _ h
      · split at h
        · cases h
        · exact key _ _ h
theorem of_range {k : Int} {c : Nat} (h : ofB k c = true) : 2 ≤ k ∧ k ≤ 29 := by
  unfold ofB at h
  repeat' split at h
  all_goals simp at h
  all_goals omega
theorem fit_kids {T : Nd} (h : fitB T = true) {i : Nat} (hi : i < T.len) : 2 ≤ (T.kids i).kind ∧ (T.kids i).kind ≤ 29 := by
  unfold fitB at h
  simp only [Bool.and_eq_true] at h
  obtain ⟨c, hc⟩ := fits_kinds _ _ _ h.2 i (by omega) hi
  exact of_range hc

def implB (T : Nd) : Bool := decide (T.kind = 1) && decide (T.size ≤ 600) && (T.pre 0).all fun p => fitB p.1

theorem next_kind {T : Nd} {A B : List (Nd × Nat)} {p : Nd × Nat} (hT : T.kind = 1) (h : A ++ p :: B = T.pre 0) (hA : ∀ q ∈ A, fitB q.1 = true) : 1 ≤ p.1.kind ∧ p.1.kind ≤ 29 := by
  rcases parent T 0 A B p h with ⟨_, hp⟩ | ⟨q, hq, i, hi, hp⟩
  · rw [hp, hT]; omega
  · rw [hp]; have := fit_kids (hA q hq) hi; omega
theorem impl_bad {T : Nd} {A B : List (Nd × Nat)} {p : Nd × Nat} (h : A ++ p :: B = T.pre 0) (hb : 600 < 1 + lens A + p.1.len ∨ fitB p.1 = false) : implB T = false := by
  unfold implB
  rcases hb with hb | hb
  · have hs := lens_pre T 0
    rw [← h, lens_app] at hs
    have : lens (p :: B) = p.1.len + lens B := by simp [lens]
    have h6 : ¬ T.size ≤ 600 := by omega
    simp [h6]
  · have : (T.pre 0).all (fun p => fitB p.1) = false := by
      rw [← h, List.all_append, List.all_cons, hb]; simp
    rw [this, Bool.and_false]
theorem impl_good {T : Nd} (hT : T.kind = 1) (h6 : 1 + lens (T.pre 0) ≤ 600) (hA : ∀ q ∈ T.pre 0, fitB q.1 = true) : implB T = true := by
  unfold implB
  have hs := lens_pre T 0
  have h6' : T.size ≤ 600 := by omega
  have : (T.pre 0).all (fun p => fitB p.1) = true := by rw [List.all_eq_true]; exact hA
  simp [hT, h6', this]
end Go.Proofs.YtjgbjahcnnjfpaaDoor
