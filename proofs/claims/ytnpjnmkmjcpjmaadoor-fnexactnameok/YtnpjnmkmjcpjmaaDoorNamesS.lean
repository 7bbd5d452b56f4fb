/- The contracts of NameOK, in the program and in the specification. -/
import Derived.Test.YtnpjnmkmjcpjmaaDoorChars
import Derived.WalkSpells
namespace Go.Proofs.YtnpjnmkmjcpjmaaDoor
open Go.RowKit

/-- A letter, then letters and digits, 1 to 40 bytes. -/
def wordOkB (s : ByteArray) : Bool := decide (1 ≤ s.size ∧ s.size ≤ 40) && (letterB (s.data.toList.headD 0).toNat && decide (wlen s.data.toList = s.size))

theorem head_at (s : ByteArray) (h : 0 < s.size) : s.data.toList.headD 0 = s[0] := by
  have : 0 < s.data.toList.length := by simpa using h
  cases hl : s.data.toList with
  | nil => simp [hl] at this
  | cons a l =>
    have : s.data.toList[0]'this = a := by simp [hl]
    show a = s.data[0]
    rw [← this]; rfl

set_option maxHeartbeats 400000 in
theorem word_any (s : ByteArray) (w : World) (hs : s.size ≤ maxLen) :
    Calls Tryd.prog 18 #[.string s] w fun e w' => e = .returned (.bool (wordOkB s)) ∧ w' = w := by
  unfold maxLen at hs
  by_cases h1 : s.size < 1
  · have hb : Hid (wordOkB s = false) := by simp [Hid, wordOkB]; omega
    go_enter Tryd.func18, Tryd.ntmps18
    go_wp2
    go_ret
    exact ⟨ret_bool hb.out.symm, rfl⟩
  by_cases h2 : 40 < s.size
  · have hb : Hid (wordOkB s = false) := by simp [Hid, wordOkB]; omega
    go_enter Tryd.func18, Tryd.ntmps18
    go_wp2
    go_ret
    exact ⟨ret_bool hb.out.symm, rfl⟩
  have h0 : 0 < s.size := by omega
  have hh := head_at s h0
  cases hl : letterB s[0].toNat
  · have hb : Hid (wordOkB s = false) := by unfold Hid wordOkB; rw [hh, hl]; simp
    clear hh
    go_enter Tryd.func18, Tryd.ntmps18
    go_wp2_with (go_at_call 25; refine (spec_letter _ _).mono ?_; rintro e w' ⟨rfl, rfl⟩)
    go_ret
    exact ⟨ret_bool hb.out.symm, rfl⟩
  · have hb : Hid (wordOkB s = decide (wlen s.data.toList = s.size)) := by
      have : 1 ≤ s.size ∧ s.size ≤ 40 := by omega
      unfold Hid wordOkB; rw [hh, hl]; simp [this]
    have hw1 : Hid (∀ b ∈ s.data.toList.take 1, wordB b.toNat = true) := by
      intro b hm
      rw [take_snoc s 0 h0] at hm
      simp at hm
      rw [hm]; simp [wordB, hl]
    clear hh
    go_enter Tryd.func18, Tryd.ntmps18
    go_wp2_with (go_at_call 25; refine (spec_letter _ _).mono ?_; rintro e w' ⟨rfl, rfl⟩)
    clear hl
    go_loop [3] (fun i => ∃ k : Nat, k ≤ s.size ∧ i = .int .i64 k ∧ Hid (∀ b ∈ s.data.toList.take k, wordB b.toNat = true)) (fun i => s.size - (intOf i).toNat)
    case atStart => exact ⟨1, by omega, rfl, hw1⟩
    case round =>
      obtain ⟨k, hk, rfl, hall⟩ := hrel
      clear hw1
      by_cases hlt : k < s.size
      · have HE : Hid (wordB s[k].toNat = false → wordOkB s = false) := fun hbb => by
          rw [hb.out, wlen_all hall.out (by simpa using hk) (fun _ => hbb)]
          simp; omega
        have HG : Hid (wordB s[k].toNat = true → ∀ b ∈ s.data.toList.take (k + 1), wordB b.toNat = true) := fun hbb b hm => by
          rw [take_snoc s k hlt, List.mem_append] at hm
          rcases hm with hm | hm
          · exact hall.out b hm
          · simp at hm; rw [hm]; exact hbb
        cases hl : letterB s[k].toNat <;> cases hd : digitB s[k].toNat
        all_goals
          go_wp2_with (first | (go_at_call 25; refine (spec_letter _ _).mono ?_; rintro e w' ⟨rfl, rfl⟩) | (go_at_call 26; refine (spec_digit _ _).mono ?_; rintro e w' ⟨rfl, rfl⟩))
        · go_ret
          exact ⟨ret_bool (HE.out (by simp [wordB, hl, hd])).symm, rfl⟩
        all_goals
          go_round
          case rel => exact ⟨k + 1, by omega, by go_num, HG.out (by simp [wordB, hl, hd])⟩
          case measure => simp [intOf]; omega
      · have hend : Hid (wordOkB s = true) := by
          unfold Hid
          rw [hb.out, wlen_all hall.out (by simpa using hk) (fun h => by simp at h; omega)]
          simp; omega
        go_wp2
        go_ret
        exact ⟨ret_bool hend.out.symm, rfl⟩

def nameB (s : ByteArray) : Bool := wordOkB s && !hasB kwWords s

set_option maxHeartbeats 400000 in
theorem spec_name (s : ByteArray) (w : World) (hs : s.size ≤ maxLen) :
    Calls Tryd.prog 7 #[.string s] w fun e w' => e = .returned (.bool (nameB s)) ∧ Below w.heap.size w w' := by
  cases hb : wordOkB s
  · go_enter Tryd.func7, Tryd.ntmps7
    go_wp2_with (go_at_call 18; refine (word_any _ _ hs).mono ?_; rintro e w' ⟨rfl, rfl⟩)
    go_ret
    exact ⟨ret_bool (by simp [nameB, hb]), Below.refl _ _⟩
  · go_enter Tryd.func7, Tryd.ntmps7
    go_wp2_with (first | (go_at_call 18; refine (word_any _ _ hs).mono ?_; rintro e w' ⟨rfl, rfl⟩) | (go_at_call 20; refine (keys_any _).mono ?_; rintro e w1 ⟨rfl, hbl, hrow, hsz⟩; have HR : Hid (StrRow w1 w'.heap.size kwWords) := hrow; clear hrow) | (go_at_call 19; refine (has_any kwWords _ _ 21 _ HR.out rfl (by omega)).mono ?_; rintro e w2 ⟨rfl, rfl⟩))
    go_ret
    exact ⟨ret_bool (by simp [nameB, hb]), hbl⟩

end Go.Proofs.YtnpjnmkmjcpjmaaDoor
