/- The contracts of the tests on single bytes, and of the words that are taken, in the program and in the specification. -/
import Derived.Test.YtnpjnmkmjcpjmaaDoorProg
import Derived.WalkKit
import Derived.Below
import Derived.Outline
import Derived.Deep.MidRow
namespace Go.Proofs.YtnpjnmkmjcpjmaaDoor
open Go.RowKit

def letterB (c : Int) : Bool := decide (97 ≤ c ∧ c ≤ 122) || (decide (65 ≤ c ∧ c ≤ 90) || decide (c = 95))
def digitB (c : Int) : Bool := decide (48 ≤ c ∧ c ≤ 57)

theorem ret_bool {a b : Bool} (h : a = b) : Ending.returned (.bool a) = .returned (.bool b) := by rw [h]
theorem ret_str {a b : ByteArray} (h : a = b) : Ending.returned (.string a) = .returned (.string b) := by rw [h]
theorem ret_two {a b c d : Value} (h : a = c) (k : b = d) : Ending.returned (.tuple #[a, b]) = .returned (.tuple #[c, d]) := by rw [h, k]
theorem ret_int {k : IntKind} {a b : Int} (h : a = b) : Ending.returned (.int k a) = .returned (.int k b) := by rw [h]

theorem impl_letter (c : Int) (w : World) : Calls Tryd.prog 21 #[.int .u8 c] w fun e w' => e = .returned (.bool (letterB c)) ∧ w' = w := by
  go_enter Tryd.func21, Tryd.ntmps21
  go_wp2
  all_goals go_ret
  all_goals refine ⟨ret_bool ?_, rfl⟩
  all_goals (rw [Bool.eq_iff_iff]; simp [letterB]; omega)
theorem impl_digit (c : Int) (w : World) : Calls Tryd.prog 32 #[.int .u8 c] w fun e w' => e = .returned (.bool (digitB c)) ∧ w' = w := by
  go_enter Tryd.func32, Tryd.ntmps32
  go_wp2
  all_goals go_ret
  all_goals refine ⟨ret_bool ?_, rfl⟩
  all_goals (rw [Bool.eq_iff_iff]; simp [digitB]; omega)
theorem spec_letter (c : Int) (w : World) : Calls Tryd.prog 25 #[.int .u8 c] w fun e w' => e = .returned (.bool (letterB c)) ∧ w' = w := by
  go_enter Tryd.func25, Tryd.ntmps25
  go_wp2
  all_goals go_ret
  all_goals refine ⟨ret_bool ?_, rfl⟩
  all_goals (rw [Bool.eq_iff_iff]; simp [letterB]; omega)
theorem spec_digit (c : Int) (w : World) : Calls Tryd.prog 26 #[.int .u8 c] w fun e w' => e = .returned (.bool (digitB c)) ∧ w' = w := by
  go_enter Tryd.func26, Tryd.ntmps26
  go_wp2
  all_goals go_ret
  all_goals refine ⟨ret_bool ?_, rfl⟩
  all_goals (rw [Bool.eq_iff_iff]; simp [digitB]; omega)

/-- A byte of a word. -/
def wordB (c : Int) : Bool := letterB c || digitB c
/-- How many bytes from the first on are of a word. -/
def wlen (l : List UInt8) : Nat := (l.takeWhile fun b => wordB b.toNat).length

theorem take_snoc (s : ByteArray) (k : Nat) (h : k < s.size) : s.data.toList.take (k + 1) = s.data.toList.take k ++ [s[k]] := by
  rw [List.take_succ_eq_append_getElem (by simpa using h)]; rfl

theorem wlen_all {l : List UInt8} {k : Nat} (h : ∀ b ∈ l.take k, wordB b.toNat = true) (hk : k ≤ l.length) (hn : ∀ hlt : k < l.length, wordB l[k].toNat = false) : wlen l = k := by
  induction l generalizing k with
  | nil => simpa [wlen] using Eq.symm (by simpa using hk : k = 0)
  | cons a l ih =>
    cases k with
    | zero =>
      have h0 : wordB a.toNat = false := hn (by simp)
      simp [wlen, h0]
    | succ k =>
      have h0 : wordB a.toNat = true := h a (by simp)
      have := ih (k := k) (fun b hb => h b (by simp [hb])) (by simpa using hk) (fun hlt => hn (Nat.succ_lt_succ hlt))
      unfold wlen at this ⊢
      simp [h0, this]

set_option maxHeartbeats 400000 in
theorem impl_wlen (s : ByteArray) (w : World) (hs : s.size ≤ maxLen) :
    Calls Tryd.prog 22 #[.string s] w fun e w' => e = .returned (.int .i64 (wlen s.data.toList)) ∧ w' = w := by
  unfold maxLen at hs
  go_enter Tryd.func22, Tryd.ntmps22
  go_wp2
  go_loop [3] (fun i => ∃ k : Nat, k ≤ s.size ∧ i = .int .i64 k ∧ Hid (∀ b ∈ s.data.toList.take k, wordB b.toNat = true)) (fun i => s.size - (intOf i).toNat)
  case atStart => exact ⟨0, Nat.zero_le _, rfl, by simp [Hid]⟩
  case round =>
    obtain ⟨k, hk, rfl, hall⟩ := hrel
    by_cases hlt : k < s.size
    · have hend : wordB s[k].toNat = false → wlen s.data.toList = k := fun hb => wlen_all hall.out (by simpa using hk) (fun _ => hb)
      have hgo : wordB s[k].toNat = true → ∀ b ∈ s.data.toList.take (k + 1), wordB b.toNat = true := fun hb b hm => by
        rw [take_snoc s k hlt, List.mem_append] at hm
        rcases hm with hm | hm
        · exact hall.out b hm
        · simp at hm; rw [hm]; exact hb
      have HE : Hid (wordB s[k].toNat = false → wlen s.data.toList = k) := hend
      have HG : Hid (wordB s[k].toNat = true → ∀ b ∈ s.data.toList.take (k + 1), wordB b.toNat = true) := hgo
      clear hend hgo
      cases hl : letterB s[k].toNat <;> cases hd : digitB s[k].toNat
      all_goals
        go_wp2_with (first | (go_at_call 21; refine (impl_letter _ _).mono ?_; rintro e w' ⟨rfl, rfl⟩) | (go_at_call 32; refine (impl_digit _ _).mono ?_; rintro e w' ⟨rfl, rfl⟩))
      · go_ret
        exact ⟨ret_int (by rw [HE.out (by simp [wordB, hl, hd])]), rfl⟩
      all_goals
        go_round
        case rel => exact ⟨k + 1, by omega, by go_num, HG.out (by simp [wordB, hl, hd])⟩
        case measure => simp [intOf]; omega
    · have hend : wlen s.data.toList = k := wlen_all hall.out (by simpa using hk) (fun h => by simp at h; omega)
      have HE : Hid (wlen s.data.toList = k) := hend
      clear hend
      go_wp2
      go_ret
      exact ⟨ret_int (by rw [HE.out]), rfl⟩
/-- The words that are taken. -/
def kwWords : List ByteArray := [⟨#[102, 117, 110, 99]⟩, ⟨#[105, 102]⟩, ⟨#[101, 108, 115, 101]⟩, ⟨#[102, 111, 114]⟩, ⟨#[114, 101, 116, 117, 114, 110]⟩, ⟨#[103, 111]⟩, ⟨#[100, 101, 102, 101, 114]⟩, ⟨#[115, 101, 108, 101, 99, 116]⟩, ⟨#[99, 97, 115, 101]⟩, ⟨#[100, 101, 102, 97, 117, 108, 116]⟩, ⟨#[98, 114, 101, 97, 107]⟩, ⟨#[99, 111, 110, 116, 105, 110, 117, 101]⟩, ⟨#[99, 104, 97, 110]⟩, ⟨#[105, 110, 116]⟩, ⟨#[98, 111, 111, 108]⟩, ⟨#[116, 114, 117, 101]⟩, ⟨#[102, 97, 108, 115, 101]⟩, ⟨#[109, 97, 107, 101]⟩, ⟨#[99, 108, 111, 115, 101]⟩, ⟨#[112, 114, 105, 110, 116]⟩, ⟨#[112, 97, 110, 105, 99]⟩]

theorem kw_at (k : Nat) (h : k < (kwWords.map Value.string).length) : (kwWords.map Value.string)[k] = .string (kwWords.getD k ⟨#[]⟩) := by
  have hl : k < kwWords.length := by simpa using h
  simp [List.getD, hl]

/-- The cells of a row of strings, from an address on. -/
def StrRow (w : World) (b : Nat) (ss : List ByteArray) : Prop := ∀ i, i < ss.length → w.cell? ⟨b, i, none⟩ = some (.string (ss.getD i ⟨#[]⟩))

theorem strRow_new (w : World) (ss : List ByteArray) (t : TypeId) : StrRow (w.alloc (.cells (ss.map Value.string).toArray t)) w.heap.size ss := by
  intro i hi
  have := World.cell?_alloc_new w (ss.map Value.string).toArray t i
  rw [this]
  simp [List.getD, hi]

theorem beq_bytes (a b : ByteArray) : (a.toList == b.toList) = decide (a = b) := by
  rw [ByteArray.toList_eq, ByteArray.toList_eq, Bool.eq_iff_iff]
  simp only [beq_iff_eq, decide_eq_true_eq]
  constructor
  · intro h; cases a; cases b; simp only at h; congr; exact Array.ext' h
  · intro h; rw [h]

theorem keys_any (w : World) : Calls Tryd.prog 20 #[] w fun e w' => e = .returned (.slice (some ⟨w.heap.size, 0, none⟩) 21 21) ∧ Below w.heap.size w w' ∧ StrRow w' w.heap.size kwWords ∧ w.heap.size < w'.heap.size := by
  go_enter Tryd.func20, Tryd.ntmps20
  go_wp2
  go_ret
  refine ⟨rfl, (Below.refl _ _).alloc (Nat.le_refl _) _, ?_, by simp⟩
  exact strRow_new w kwWords 9

/-- A text is among some. -/
def hasB (ss : List ByteArray) (t : ByteArray) : Bool := ss.any fun s => decide (s = t)
theorem hasB_iff (ss : List ByteArray) (t : ByteArray) : hasB ss t = true ↔ t ∈ ss := by simp [hasB]

theorem contains_snoc {ss : List ByteArray} {t : ByteArray} {k : Nat} (hk : k < ss.length) (h : t ∉ ss.take k) (hn : (ss[k].toList == t.toList) = false) : t ∉ ss.take (k + 1) := by
  rw [List.take_succ_eq_append_getElem hk]
  rw [beq_bytes, decide_eq_false_iff_not] at hn
  intro hm
  rcases List.mem_append.1 hm with hm | hm
  · exact h hm
  · exact hn (List.mem_singleton.1 hm).symm
theorem contains_hit {ss : List ByteArray} {t : ByteArray} {k : Nat} (hk : k < ss.length) (hn : (ss[k].toList == t.toList) = true) : true = hasB ss t := by
  rw [beq_bytes, decide_eq_true_eq] at hn
  rw [← hn]; exact ((hasB_iff _ _).2 (List.getElem_mem hk)).symm
theorem contains_end {ss : List ByteArray} {t : ByteArray} {k : Nat} (hk : ss.length ≤ k) (h : t ∉ ss.take k) : false = hasB ss t := by
  rw [List.take_of_length_le hk] at h
  exact (Bool.eq_false_iff.2 fun e => h ((hasB_iff _ _).1 e)).symm

set_option maxHeartbeats 400000 in
theorem has_any (ss : List ByteArray) (t : ByteArray) (b n : Nat) (w : World) (hr : StrRow w b ss) (hn : ss.length = n) (hl : n < 1000) :
    Calls Tryd.prog 19 #[.slice (some ⟨b, 0, none⟩) n n, .string t] w fun e w' => e = .returned (.bool (hasB ss t)) ∧ w' = w := by
  subst hn
  go_enter Tryd.func19, Tryd.ntmps19
  go_wp2
  go_loop [5] (fun i => ∃ k : Nat, k ≤ ss.length ∧ i = .int .i64 k ∧ Hid (t ∉ ss.take k)) (fun i => ss.length - (intOf i).toNat)
  case atStart => exact ⟨0, Nat.zero_le _, rfl, by simp [Hid]⟩
  case round =>
    obtain ⟨k, hk, rfl, hall⟩ := hrel
    by_cases hlt : k < ss.length
    · have hc := hr k hlt
      clear hr
      go_wp2
      · go_ret
        exact ⟨ret_bool (contains_hit hlt ‹_›), rfl⟩
      · exact ⟨⟨k + 1, by omega, by go_num, contains_snoc hlt hall.out ‹_›⟩, by simp [intOf]; omega⟩
    · clear hr
      go_wp2
      go_ret
      exact ⟨ret_bool (contains_end (by omega) hall.out), rfl⟩

/-- An element of an array of strings that was read whole. -/
theorem run_index_strs {P : Program} {t e : TypeId} {n : Nat} (w : World) (ss : List ByteArray) (k : Nat) (hu : P.underlying t = some (.array n e)) (he : P.underlying e = some .string) (hi : (P.info? e).map (·.size) = some 1) (hk : k < n) (hl : ss.length = n) :
    (Instr.index t (.agg (ss.map Value.string).toArray) (.int .i64 k)).run P w = .ok (.string (ss.getD k ⟨#[]⟩)) w := by
  have hagg : (isAgg e).run P w = .ok false w := by
    unfold isAgg
    rw [Sem.run_bind, run_underlying he w]
    rfl
  cases hq : P.info? e with
  | none => simp [hq] at hi
  | some i =>
    have hs : i.size = 1 := by simpa [hq] using hi
    have h2 : k < ss.length := by omega
    simp [Instr.index, asIntOf, Sem.run_bind, run_underlying hu w, part, hagg, sizeOf, typeInfo, hq, hs, h2, List.getD]
    omega

theorem range_strs {w : World} {b : Nat} {ss : List ByteArray} (h : StrRow w b ss) : w.rangeAt b 0 (ss.map Value.string) := by
  intro j v hv
  rw [List.getElem?_map, Option.map_eq_some_iff] at hv
  obtain ⟨s, hs, rfl⟩ := hv
  obtain ⟨hlt, hs⟩ := List.getElem?_eq_some_iff.1 hs
  have := h j hlt
  rw [Nat.zero_add, this]
  simp [List.getD, hlt, hs]

set_option maxHeartbeats 1000000 in
set_option maxRecDepth 100000 in
theorem taken_any (t : ByteArray) (w : World) (hr : StrRow w 1 kwWords) :
    Calls Tryd.prog 23 #[.string t] w fun e w' => e = .returned (.bool (hasB kwWords t)) ∧ w' = w := by
  have hload : Hid (w.rangeAt 1 0 (kwWords.map Value.string)) := range_strs hr
  have hsz : (Tryd.prog.info? 46).map (·.size) = some (kwWords.map Value.string).length := by kernel_rfl
  have hsz9 : (Tryd.prog.info? 9).map (·.size) = some 1 := by kernel_rfl
  have HZ : Hid ((Tryd.prog.info? 46).map (·.size) = some (kwWords.map Value.string).length) := hsz
  have hix : Hid (∀ k : Nat, k < 21 → (Instr.index 46 (.agg (kwWords.map Value.string).toArray) (.int .i64 k)).run Tryd.prog w = .ok (.string (kwWords.getD k ⟨#[]⟩)) w) :=
    fun k hk => run_index_strs w kwWords k Tryd.underlying46 Tryd.underlying9 hsz9 hk rfl
  clear hr hsz hsz9
  generalize hkw : kwWords = ss at *
  have hlen : Hid (ss.length = 21) := by rw [← hkw]; rfl
  clear hkw
  go_enter Tryd.func23, Tryd.ntmps23
  go_wp2_with (refine wpList_load_mid rfl 46 _ rfl 1 0 rfl _ _ hload.out Tryd.underlying46 rfl HZ.out ?_)
  go_loop [6] (fun i => ∃ k : Nat, k ≤ 21 ∧ i = .int .i64 k ∧ Hid (t ∉ ss.take k)) (fun i => 21 - (intOf i).toNat)
  case atStart => exact ⟨0, Nat.zero_le _, rfl, by simp [Hid]⟩
  case round =>
    obtain ⟨k, hk, rfl, hall⟩ := hrel
    by_cases hlt : k < 21
    · have hi := hix.out k hlt
      have hkl : k < ss.length := by rw [hlen.out]; exact hlt
      go_wp2
      · go_ret
        exact ⟨ret_bool (contains_hit hkl ‹_›), rfl⟩
      · exact ⟨⟨k + 1, by omega, by go_num, contains_snoc hkl hall.out ‹_›⟩, by simp [intOf]; omega⟩
    · go_wp2
      go_ret
      exact ⟨ret_bool (contains_end (by rw [hlen.out]; omega) hall.out), rfl⟩
end Go.Proofs.YtnpjnmkmjcpjmaaDoor
