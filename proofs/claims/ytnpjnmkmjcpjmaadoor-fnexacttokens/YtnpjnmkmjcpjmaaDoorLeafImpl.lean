/- The contracts of the program's small functions on bytes and texts. -/
import Derived.Test.YtnpjnmkmjcpjmaaDoorLex
import Derived.Test.YtnpjnmkmjcpjmaaDoorShelf
import Derived.WalkSpells
import Derived.Deep.Light
namespace Go.Proofs.YtnpjnmkmjcpjmaaDoor
open Go.RowKit

theorem impl_blank (c : Int) (w : World) : Calls Tryd.prog 36 #[.int .u8 c] w fun e w' => e = .returned (.bool (blankB c)) ∧ w' = w := by
  go_enter Tryd.func36, Tryd.ntmps36
  go_wp2
  all_goals go_ret
  all_goals refine ⟨ret_bool ?_, rfl⟩
  all_goals (rw [Bool.eq_iff_iff]; simp_all [blankB])

theorem line_len (l : List UInt8) : Lib.indexByte l 10 = if (10 : UInt8) ∈ l then (lineLen l : Int) else -1 := by
  induction l with
  | nil => simp [Lib.indexByte]
  | cons a l ih =>
    unfold Lib.indexByte lineLen
    by_cases h : a = 10
    · subst h; simp
    · have h' : ¬ (10 : UInt8) = a := fun e => h e.symm
      have hb : (a != 10) = true := by simp [h]
      simp only [beq_iff_eq, h, if_false, ih, List.mem_cons, h', false_or, List.takeWhile_cons, hb, if_true, List.length_cons]
      split
      · have : ¬ ((lineLen l : Int) = -1) := by omega
        simp only [this, if_false]
        simp [lineLen]
      · simp
theorem line_none (l : List UInt8) (h : (10 : UInt8) ∉ l) : lineLen l = l.length := by
  induction l with
  | nil => rfl
  | cons a l ih =>
    have ha : (a != 10) = true := by simp only [bne_iff_ne, ne_eq]; intro e; subst e; exact h (by simp)
    have := ih (fun hm => h (by simp [hm]))
    unfold lineLen at this ⊢
    rw [List.takeWhile_cons, ha]
    simp [this]

set_option maxHeartbeats 400000 in
set_option maxRecDepth 100000 in
theorem impl_line (s : ByteArray) (k : Nat) (w : World) (hs : s.size ≤ 65536) (hk : k ≤ s.size) :
    Calls Tryd.prog 38 #[.string s, .int .i64 k] w fun e w' => e = .returned (.int .i64 ((k + lineLen (s.data.toList.drop k) : Nat) : Int)) ∧ w' = w := by
  have hx : Hid ((s.extract k s.size).data.toList = s.data.toList.drop k) := Lib.extract_to_end s k
  have hlen : Hid ((s.data.toList.drop k).length = s.size - k) := by unfold Hid; rw [List.length_drop]; rfl
  by_cases h : (10 : UInt8) ∈ s.data.toList.drop k
  · have hi : Hid (Lib.indexByte (s.extract k s.size).data.toList 10 = (lineLen (s.data.toList.drop k) : Int)) := by unfold Hid; rw [hx.out, line_len, if_pos h]
    have hle : lineLen (s.data.toList.drop k) ≤ s.size := by
      have : lineLen (s.data.toList.drop k) ≤ (s.data.toList.drop k).length := (List.takeWhile_sublist _).length_le
      rw [hlen.out] at this; omega
    generalize lineLen (s.data.toList.drop k) = n at *
    clear h
    go_enter Tryd.func38, Tryd.ntmps38
    go_wp2_with (go_at_call 41; refine (Tryd.strings_IndexByte _ _ _).mono ?_; rintro e w' ⟨rfl, rfl⟩; rw [show (10 : Int).toNat.toUInt8 = 10 from rfl, hi.out])
    go_ret
    exact ⟨ret_int (by go_num), rfl⟩
  · have hi : Hid (Lib.indexByte (s.extract k s.size).data.toList 10 = -1) := by unfold Hid; rw [hx.out, line_len, if_neg h]
    have hn : Hid (k + lineLen (s.data.toList.drop k) = s.size) := by unfold Hid; rw [line_none _ h, hlen.out]; omega
    clear h
    go_enter Tryd.func38, Tryd.ntmps38
    go_wp2_with (go_at_call 41; refine (Tryd.strings_IndexByte _ _ _).mono ?_; rintro e w' ⟨rfl, rfl⟩; rw [show (10 : Int).toNat.toUInt8 = 10 from rfl, hi.out])
    go_ret
    exact ⟨ret_int (by rw [hn.out]), rfl⟩

theorem impl_clone (s : ByteArray) (w : World) (hs : s.size ≤ 100000) :
    Calls Tryd.prog 45 #[.string s] w fun e w' => e = .returned (.string s) ∧ Below w.heap.size w w' := by
  go_enter Tryd.func45, Tryd.ntmps45
  go_wp2_with (go_at_call 47; refine (Tryd.stringslite_Clone _ _ (by omega)).mono ?_; rintro e w' ⟨rfl, hb⟩)
  go_ret
  exact ⟨rfl, hb⟩

theorem dec_lit (t : ByteArray) (l : List UInt8) : decide ((⟨l.toArray⟩ : ByteArray) = t) = (t.toList == l) := by
  rw [ByteArray.toList_eq, Bool.eq_iff_iff]
  simp only [decide_eq_true_eq, beq_iff_eq]
  constructor
  · intro h; rw [← h]
  · intro h; exact bytes_eq (by rw [h])
theorem ends3 (t : ByteArray) : endB 3 t = (t.toList == [114, 101, 116, 117, 114, 110] || t.toList == [98, 114, 101, 97, 107] || t.toList == [99, 111, 110, 116, 105, 110, 117, 101] || t.toList == [116, 114, 117, 101] || t.toList == [102, 97, 108, 115, 101] || t.toList == [105, 110, 116] || t.toList == [98, 111, 111, 108]) := by
  unfold endB hasB ekWords
  simp only [List.any_cons, List.any_nil, dec_lit, Bool.or_false, Bool.or_assoc]
  simp
theorem ends4 (t : ByteArray) : endB 4 t = (t.toList == [43, 43] || t.toList == [45, 45] || t.toList == [41] || t.toList == [125]) := by
  unfold endB hasB eoWords
  simp only [List.any_cons, List.any_nil, dec_lit, Bool.or_false, Bool.or_assoc]
  simp

set_option maxHeartbeats 400000 in
set_option maxRecDepth 100000 in
theorem impl_ends (k : Int) (t : ByteArray) (p : Int) (w : World) :
    Calls Tryd.prog 35 #[.agg #[.int .i64 k, .string t, .int .i64 p]] w fun e w' => e = .returned (.bool (endB k t)) ∧ Below w.heap.size w w' := by
  by_cases h1 : k = 1
  · subst h1
    go_enter Tryd.func35, Tryd.ntmps35
    go_wp2
    go_ret
    exact ⟨ret_bool (by simp [endB]), (Below.refl _ _).alloc (Nat.le_refl _) _⟩
  by_cases h2 : k = 2
  · subst h2
    go_enter Tryd.func35, Tryd.ntmps35
    go_wp2
    go_ret
    exact ⟨ret_bool (by simp [endB]), (Below.refl _ _).alloc (Nat.le_refl _) _⟩
  by_cases h3 : k = 3
  · subst h3
    clear h1 h2
    go_enter Tryd.func35, Tryd.ntmps35
    go_wp2
    all_goals go_ret
    all_goals refine ⟨ret_bool ?_, (Below.refl _ _).alloc (Nat.le_refl _) _⟩
    all_goals go_light
    all_goals rw [ends3]
    all_goals simp_all
  by_cases h4 : k = 4
  · subst h4
    clear h1 h2 h3
    go_enter Tryd.func35, Tryd.ntmps35
    go_wp2
    all_goals go_ret
    all_goals refine ⟨ret_bool ?_, (Below.refl _ _).alloc (Nat.le_refl _) _⟩
    all_goals go_light
    all_goals rw [ends4]
    all_goals simp_all
  · have e1 : (k == 1) = false := by simp [h1]
    have e2 : (k == 2) = false := by simp [h2]
    have e3 : (k == 3) = false := by simp [h3]
    have e4 : (k == 4) = false := by simp [h4]
    have HE : Hid (endB k t = false) := by simp [Hid, endB, h1, h2, h3, h4]
    clear h1 h2 h3 h4
    go_enter Tryd.func35, Tryd.ntmps35
    go_wp2
    go_ret
    exact ⟨ret_bool HE.out.symm, (Below.refl _ _).alloc (Nat.le_refl _) _⟩
end Go.Proofs.YtnpjnmkmjcpjmaaDoor
