/- The contracts of the tests on single bytes, and of the words that are taken, in the program and in the specification. -/
import Derived.Test.YtjgbjahcnnjfpaaDoorProg
import Derived.WalkKit
import Derived.Below
import Derived.Outline
import Derived.Deep.MidRow
import Derived.WalkSpells
import Derived.Test.YtjgbjahcnnjfpaaDoorMaA
set_option linter.unusedVariables false
namespace Go.Proofs.YtjgbjahcnnjfpaaDoor
open Go.RowKit

def letterB (c : Int) : Bool := decide (97 ≤ c ∧ c ≤ 122) || (decide (65 ≤ c ∧ c ≤ 90) || decide (c = 95))
def digitB (c : Int) : Bool := decide (48 ≤ c ∧ c ≤ 57)

theorem ret_bool {a b : Bool} (h : a = b) : Ending.returned (.bool a) = .returned (.bool b) := by rw [h]
theorem ret_str {a b : ByteArray} (h : a = b) : Ending.returned (.string a) = .returned (.string b) := by rw [h]
theorem ret_two {a b c d : Value} (h : a = c) (k : b = d) : Ending.returned (.tuple #[a, b]) = .returned (.tuple #[c, d]) := by rw [h, k]
theorem ret_int {k : IntKind} {a b : Int} (h : a = b) : Ending.returned (.int k a) = .returned (.int k b) := by rw [h]

theorem impl_letter (c : Int) (w : World) : Calls Tryd.prog 90 #[.int .u8 c] w fun e w' => e = .returned (.bool (letterB c)) ∧ w' = w := by
  go_enter Tryd.func90, Tryd.ntmps90
  go_wp2
  all_goals go_ret
  all_goals refine ⟨ret_bool ?_, rfl⟩
  all_goals (rw [Bool.eq_iff_iff]; simp [letterB]; omega)
theorem impl_digit (c : Int) (w : World) : Calls Tryd.prog 97 #[.int .u8 c] w fun e w' => e = .returned (.bool (digitB c)) ∧ w' = w := by
  go_enter Tryd.func97, Tryd.ntmps97
  go_wp2
  all_goals go_ret
  all_goals refine ⟨ret_bool ?_, rfl⟩
  all_goals (rw [Bool.eq_iff_iff]; simp [digitB]; omega)
theorem spec_letter (c : Int) (w : World) : Calls Tryd.prog 77 #[.int .u8 c] w fun e w' => e = .returned (.bool (letterB c)) ∧ w' = w := by
  go_enter Tryd.func77, Tryd.ntmps77
  go_wp2
  all_goals go_ret
  all_goals refine ⟨ret_bool ?_, rfl⟩
  all_goals (rw [Bool.eq_iff_iff]; simp [letterB]; omega)
theorem spec_digit (c : Int) (w : World) : Calls Tryd.prog 78 #[.int .u8 c] w fun e w' => e = .returned (.bool (digitB c)) ∧ w' = w := by
  go_enter Tryd.func78, Tryd.ntmps78
  go_wp2
  all_goals go_ret
  all_goals refine ⟨ret_bool ?_, rfl⟩
  all_goals (rw [Bool.eq_iff_iff]; simp [digitB]; omega)

def wordB (c : Int) : Bool := letterB c || digitB c
def wlen (l : List UInt8) : Nat := (l.takeWhile fun b => wordB b.toNat).length

theorem take_snoc (s : ByteArray) (k : Nat) (h : k < s.size) : s.data.toList.take (k + 1) = s.data.toList.take k ++ [s[k]] := by
  rw [List.take_succ_eq_append_getElem (by simpa using h)]; rfl

theorem wlen_all {l : List UInt8} {k : Nat} (h : ∀ b ∈ l.take k, wordB b.toNat = true) (hk : k ≤ l.length) (hn : ∀ hlt : k < l.length, wordB l[k].toNat = false) : wlen l = k := by
  induction l generalizing k with
  | nil => simpa [wlen] using Eq.symm (by simpa using hk : k = 0)
  | cons a l ih =>
    cases k with
    | zero =>
      have h0 : wordB a.toNat = false := hn (by simp)
      simp [wlen, h0]
    | succ k =>
      have h0 : wordB a.toNat = true := h a (by simp)
      have := ih (k := k) (fun b hb => h b (by simp [hb])) (by simpa using hk) (fun hlt => hn (Nat.succ_lt_succ hlt))
      unfold wlen at this ⊢
      simp [h0, this]

set_option maxHeartbeats 400000 in
theorem impl_wlen (s : ByteArray) (w : World) (hs : s.size ≤ maxLen) :
    Calls Tryd.prog 91 #[.string s] w fun e w' => e = .returned (.int .i64 (wlen s.data.toList)) ∧ w' = w := by
  unfold maxLen at hs
  go_enter Tryd.func91, Tryd.ntmps91
  go_wp2
  go_loop [3] (fun i => ∃ k : Nat, k ≤ s.size ∧ i = .int .i64 k ∧ Hid (∀ b ∈ s.data.toList.take k, wordB b.toNat = true)) (fun i => s.size - (intOf i).toNat)
  case atStart => exact ⟨0, Nat.zero_le _, rfl, by simp [Hid]⟩
  case round =>
    obtain ⟨k, hk, rfl, hall⟩ := hrel
    by_cases hlt : k < s.size
    · have hend : wordB s[k].toNat = false → wlen s.data.toList = k := fun hb => wlen_all hall.out (by simpa using hk) (fun _ => hb)
      have hgo : wordB s[k].toNat = true → ∀ b ∈ s.data.toList.take (k + 1), wordB b.toNat = true := fun hb b hm => by
        rw [take_snoc s k hlt, List.mem_append] at hm
        rcases hm with hm | hm
        · exact hall.out b hm
        · simp at hm; rw [hm]; exact hb
      have HE : Hid (wordB s[k].toNat = false → wlen s.data.toList = k) := hend
      have HG : Hid (wordB s[k].toNat = true → ∀ b ∈ s.data.toList.take (k + 1), wordB b.toNat = true) := hgo
      clear hend hgo
      cases hl : letterB s[k].toNat <;> cases hd : digitB s[k].toNat
      all_goals
        go_wp2_with (first | (go_at_call 90; refine (impl_letter _ _).mono ?_; rintro e w' ⟨rfl, rfl⟩) | (go_at_call 97; refine (impl_digit _ _).mono ?_; rintro e w' ⟨rfl, rfl⟩))
      · go_ret
        exact ⟨ret_int (by rw [HE.out (by simp [wordB, hl, hd])]), rfl⟩
      all_goals
        go_round
        case rel => exact ⟨k + 1, by omega, by go_num, HG.out (by simp [wordB, hl, hd])⟩
        case measure => simp [intOf]; omega
    · have hend : wlen s.data.toList = k := wlen_all hall.out (by simpa using hk) (fun h => by simp at h; omega)
      have HE : Hid (wlen s.data.toList = k) := hend
      clear hend
      go_wp2
      go_ret
      exact ⟨ret_int (by rw [HE.out]), rfl⟩
def kwWords : List ByteArray := [⟨#[102, 117, 110, 99]⟩, ⟨#[105, 102]⟩, ⟨#[101, 108, 115, 101]⟩, ⟨#[102, 111, 114]⟩, ⟨#[114, 101, 116, 117, 114, 110]⟩, ⟨#[103, 111]⟩, ⟨#[100, 101, 102, 101, 114]⟩, ⟨#[115, 101, 108, 101, 99, 116]⟩, ⟨#[99, 97, 115, 101]⟩, ⟨#[100, 101, 102, 97, 117, 108, 116]⟩, ⟨#[98, 114, 101, 97, 107]⟩, ⟨#[99, 111, 110, 116, 105, 110, 117, 101]⟩, ⟨#[99, 104, 97, 110]⟩, ⟨#[105, 110, 116]⟩, ⟨#[98, 111, 111, 108]⟩, ⟨#[116, 114, 117, 101]⟩, ⟨#[102, 97, 108, 115, 101]⟩, ⟨#[109, 97, 107, 101]⟩, ⟨#[99, 108, 111, 115, 101]⟩, ⟨#[112, 114, 105, 110, 116]⟩, ⟨#[112, 97, 110, 105, 99]⟩]

theorem kw_at (k : Nat) (h : k < (kwWords.map Value.string).length) : (kwWords.map Value.string)[k] = .string (kwWords.getD k ⟨#[]⟩) := by
  have hl : k < kwWords.length := by simpa using h
  simp [List.getD, hl]

def StrRow (w : World) (b : Nat) (ss : List ByteArray) : Prop := ∀ i, i < ss.length → w.cell? ⟨b, i, none⟩ = some (.string (ss.getD i ⟨#[]⟩))

theorem strRow_new (w : World) (ss : List ByteArray) (t : TypeId) : StrRow (w.alloc (.cells (ss.map Value.string).toArray t)) w.heap.size ss := by
  intro i hi
  have := World.cell?_alloc_new w (ss.map Value.string).toArray t i
  rw [this]
  simp [List.getD, hi]

theorem beq_bytes (a b : ByteArray) : (a.toList == b.toList) = decide (a = b) := by
  rw [ByteArray.toList_eq, ByteArray.toList_eq, Bool.eq_iff_iff]
  simp only [beq_iff_eq, decide_eq_true_eq]
  constructor
  · intro h; cases a; cases b; simp only at h; congr; exact Array.ext' h
  · intro h; rw [h]

theorem keys_any (w : World) : Calls Tryd.prog 66 #[] w fun e w' => e = .returned (.slice (some ⟨w.heap.size, 0, none⟩) 21 21) ∧ Below w.heap.size w w' ∧ StrRow w' w.heap.size kwWords ∧ w.heap.size < w'.heap.size := by
  go_enter Tryd.func66, Tryd.ntmps66
  go_wp2
  go_ret
  refine ⟨rfl, (Below.refl _ _).alloc (Nat.le_refl _) _, ?_, by simp⟩
  exact strRow_new w kwWords 9

def hasB (ss : List ByteArray) (t : ByteArray) : Bool := ss.any fun s => decide (s = t)
theorem hasB_iff (ss : List ByteArray) (t : ByteArray) : hasB ss t = true ↔ t ∈ ss := by simp [hasB]

theorem contains_snoc {ss : List ByteArray} {t : ByteArray} {k : Nat} (hk : k < ss.length) (h : t ∉ ss.take k) (hn : (ss[k].toList == t.toList) = false) : t ∉ ss.take (k + 1) := by
  rw [List.take_succ_eq_append_getElem hk]
  rw [beq_bytes, decide_eq_false_iff_not] at hn
  intro hm
  rcases List.mem_append.1 hm with hm | hm
  · exact h hm
  · exact hn (List.mem_singleton.1 hm).symm
theorem contains_hit {ss : List ByteArray} {t : ByteArray} {k : Nat} (hk : k < ss.length) (hn : (ss[k].toList == t.toList) = true) : true = hasB ss t := by
  rw [beq_bytes, decide_eq_true_eq] at hn
  rw [← hn]; exact ((hasB_iff _ _).2 (List.getElem_mem hk)).symm
theorem contains_end {ss : List ByteArray} {t : ByteArray} {k : Nat} (hk : ss.length ≤ k) (h : t ∉ ss.take k) : false = hasB ss t := by
  rw [List.take_of_length_le hk] at h
  exact (Bool.eq_false_iff.2 fun e => h ((hasB_iff _ _).1 e)).symm

set_option maxHeartbeats 400000 in
theorem has_any (ss : List ByteArray) (t : ByteArray) (b n : Nat) (w : World) (hr : StrRow w b ss) (hn : ss.length = n) (hl : n < 1000) :
    Calls Tryd.prog 65 #[.slice (some ⟨b, 0, none⟩) n n, .string t] w fun e w' => e = .returned (.bool (hasB ss t)) ∧ w' = w := by
  subst hn
  go_enter Tryd.func65, Tryd.ntmps65
  go_wp2
  go_loop [5] (fun i => ∃ k : Nat, k ≤ ss.length ∧ i = .int .i64 k ∧ Hid (t ∉ ss.take k)) (fun i => ss.length - (intOf i).toNat)
  case atStart => exact ⟨0, Nat.zero_le _, rfl, by simp [Hid]⟩
  case round =>
    obtain ⟨k, hk, rfl, hall⟩ := hrel
    by_cases hlt : k < ss.length
    · have hc := hr k hlt
      clear hr
      go_wp2
      · go_ret
        exact ⟨ret_bool (contains_hit hlt ‹_›), rfl⟩
      · exact ⟨⟨k + 1, by omega, by go_num, contains_snoc hlt hall.out ‹_›⟩, by simp [intOf]; omega⟩
    · clear hr
      go_wp2
      go_ret
      exact ⟨ret_bool (contains_end (by omega) hall.out), rfl⟩

theorem run_index_strs {P : Program} {t e : TypeId} {n : Nat} (w : World) (ss : List ByteArray) (k : Nat) (hu : P.underlying t = some (.array n e)) (he : P.underlying e = some .string) (hi : (P.info? e).map (·.size) = some 1) (hk : k < n) (hl : ss.length = n) :
    (Instr.index t (.agg (ss.map Value.string).toArray) (.int .i64 k)).run P w = .ok (.string (ss.getD k ⟨#[]⟩)) w := by
  have hagg : (isAgg e).run P w = .ok false w := by
    unfold isAgg
    rw [Sem.run_bind, run_underlying he w]
    rfl
  cases hq : P.info? e with
  | none => simp [hq] at hi
  | some i =>
    have hs : i.size = 1 := by simpa [hq] using hi
    have h2 : k < ss.length := by omega
    simp [Instr.index, asIntOf, Sem.run_bind, run_underlying hu w, part, hagg, sizeOf, typeInfo, hq, hs, h2, List.getD]
    omega

theorem range_strs {w : World} {b : Nat} {ss : List ByteArray} (h : StrRow w b ss) : w.rangeAt b 0 (ss.map Value.string) := by
  intro j v hv
  rw [List.getElem?_map, Option.map_eq_some_iff] at hv
  obtain ⟨s, hs, rfl⟩ := hv
  obtain ⟨hlt, hs⟩ := List.getElem?_eq_some_iff.1 hs
  have := h j hlt
  rw [Nat.zero_add, this]
  simp [List.getD, hlt, hs]

set_option maxHeartbeats 1000000 in
set_option maxRecDepth 100000 in
theorem taken_any (t : ByteArray) (w : World) (hr : StrRow w 3 kwWords) :
    Calls Tryd.prog 92 #[.string t] w fun e w' => e = .returned (.bool (hasB kwWords t)) ∧ w' = w := by
  have hload : Hid (w.rangeAt 3 0 (kwWords.map Value.string)) := range_strs hr
  have hsz : (Tryd.prog.info? 109).map (·.size) = some (kwWords.map Value.string).length := by kernel_rfl
  have hsz9 : (Tryd.prog.info? 9).map (·.size) = some 1 := by kernel_rfl
  have HZ : Hid ((Tryd.prog.info? 109).map (·.size) = some (kwWords.map Value.string).length) := hsz
  have hix : Hid (∀ k : Nat, k < 21 → (Instr.index 109 (.agg (kwWords.map Value.string).toArray) (.int .i64 k)).run Tryd.prog w = .ok (.string (kwWords.getD k ⟨#[]⟩)) w) :=
    fun k hk => run_index_strs w kwWords k Tryd.underlying109 Tryd.underlying9 hsz9 hk rfl
  clear hr hsz hsz9
  generalize hkw : kwWords = ss at *
  have hlen : Hid (ss.length = 21) := by rw [← hkw]; rfl
  clear hkw
  go_enter Tryd.func92, Tryd.ntmps92
  go_wp2_with (refine wpList_load_mid rfl 109 _ rfl 3 0 rfl _ _ hload.out Tryd.underlying109 rfl HZ.out ?_)
  go_loop [6] (fun i => ∃ k : Nat, k ≤ 21 ∧ i = .int .i64 k ∧ Hid (t ∉ ss.take k)) (fun i => 21 - (intOf i).toNat)
  case atStart => exact ⟨0, Nat.zero_le _, rfl, by simp [Hid]⟩
  case round =>
    obtain ⟨k, hk, rfl, hall⟩ := hrel
    by_cases hlt : k < 21
    · have hi := hix.out k hlt
      have hkl : k < ss.length := by rw [hlen.out]; exact hlt
      go_wp2
      · go_ret
        exact ⟨ret_bool (contains_hit hkl ‹_›), rfl⟩
      · exact ⟨⟨k + 1, by omega, by go_num, contains_snoc hkl hall.out ‹_›⟩, by simp [intOf]; omega⟩
    · go_wp2
      go_ret
      exact ⟨ret_bool (contains_end (by rw [hlen.out]; omega) hall.out), rfl⟩
end Go.Proofs.YtjgbjahcnnjfpaaDoor
namespace Go.Proofs.YtjgbjahcnnjfpaaDoor
open Go.RowKit

def wordOkB (s : ByteArray) : Bool := decide (1 ≤ s.size ∧ s.size ≤ 40) && (letterB (s.data.toList.headD 0).toNat && decide (wlen s.data.toList = s.size))

theorem head_at (s : ByteArray) (h : 0 < s.size) : s.data.toList.headD 0 = s[0] := by
  have : 0 < s.data.toList.length := by simpa using h
  cases hl : s.data.toList with
  | nil => simp [hl] at this
  | cons a l =>
    have : s.data.toList[0]'this = a := by simp [hl]
    show a = s.data[0]
    rw [← this]; rfl

set_option maxHeartbeats 400000 in
theorem word_any (s : ByteArray) (w : World) (hs : s.size ≤ maxLen) :
    Calls Tryd.prog 64 #[.string s] w fun e w' => e = .returned (.bool (wordOkB s)) ∧ w' = w := by
  unfold maxLen at hs
  by_cases h1 : s.size < 1
  · have hb : Hid (wordOkB s = false) := by simp [Hid, wordOkB]; omega
    go_enter Tryd.func64, Tryd.ntmps64
    go_wp2
    go_ret
    exact ⟨ret_bool hb.out.symm, rfl⟩
  by_cases h2 : 40 < s.size
  · have hb : Hid (wordOkB s = false) := by simp [Hid, wordOkB]; omega
    go_enter Tryd.func64, Tryd.ntmps64
    go_wp2
    go_ret
    exact ⟨ret_bool hb.out.symm, rfl⟩
  have h0 : 0 < s.size := by omega
  have hh := head_at s h0
  cases hl : letterB s[0].toNat
  · have hb : Hid (wordOkB s = false) := by unfold Hid wordOkB; rw [hh, hl]; simp
    clear hh
    go_enter Tryd.func64, Tryd.ntmps64
    go_wp2_with (go_at_call 77; refine (spec_letter _ _).mono ?_; rintro e w' ⟨rfl, rfl⟩)
    go_ret
    exact ⟨ret_bool hb.out.symm, rfl⟩
  · have hb : Hid (wordOkB s = decide (wlen s.data.toList = s.size)) := by
      have : 1 ≤ s.size ∧ s.size ≤ 40 := by omega
      unfold Hid wordOkB; rw [hh, hl]; simp [this]
    have hw1 : Hid (∀ b ∈ s.data.toList.take 1, wordB b.toNat = true) := by
      intro b hm
      rw [take_snoc s 0 h0] at hm
      simp at hm
      rw [hm]; simp [wordB, hl]
    clear hh
    go_enter Tryd.func64, Tryd.ntmps64
    go_wp2_with (go_at_call 77; refine (spec_letter _ _).mono ?_; rintro e w' ⟨rfl, rfl⟩)
    clear hl
    go_loop [3] (fun i => ∃ k : Nat, k ≤ s.size ∧ i = .int .i64 k ∧ Hid (∀ b ∈ s.data.toList.take k, wordB b.toNat = true)) (fun i => s.size - (intOf i).toNat)
    case atStart => exact ⟨1, by omega, rfl, hw1⟩
    case round =>
      obtain ⟨k, hk, rfl, hall⟩ := hrel
      clear hw1
      by_cases hlt : k < s.size
      · have HE : Hid (wordB s[k].toNat = false → wordOkB s = false) := fun hbb => by
          rw [hb.out, wlen_all hall.out (by simpa using hk) (fun _ => hbb)]
          simp; omega
        have HG : Hid (wordB s[k].toNat = true → ∀ b ∈ s.data.toList.take (k + 1), wordB b.toNat = true) := fun hbb b hm => by
          rw [take_snoc s k hlt, List.mem_append] at hm
          rcases hm with hm | hm
          · exact hall.out b hm
          · simp at hm; rw [hm]; exact hbb
        cases hl : letterB s[k].toNat <;> cases hd : digitB s[k].toNat
        all_goals
          go_wp2_with (first | (go_at_call 77; refine (spec_letter _ _).mono ?_; rintro e w' ⟨rfl, rfl⟩) | (go_at_call 78; refine (spec_digit _ _).mono ?_; rintro e w' ⟨rfl, rfl⟩))
        · go_ret
          exact ⟨ret_bool (HE.out (by simp [wordB, hl, hd])).symm, rfl⟩
        all_goals
          go_round
          case rel => exact ⟨k + 1, by omega, by go_num, HG.out (by simp [wordB, hl, hd])⟩
          case measure => simp [intOf]; omega
      · have hend : Hid (wordOkB s = true) := by
          unfold Hid
          rw [hb.out, wlen_all hall.out (by simpa using hk) (fun h => by simp at h; omega)]
          simp; omega
        go_wp2
        go_ret
        exact ⟨ret_bool hend.out.symm, rfl⟩

def nameB (s : ByteArray) : Bool := wordOkB s && !hasB kwWords s

set_option maxHeartbeats 400000 in
theorem spec_name (s : ByteArray) (w : World) (hs : s.size ≤ maxLen) :
    Calls Tryd.prog 55 #[.string s] w fun e w' => e = .returned (.bool (nameB s)) ∧ Below w.heap.size w w' := by
  cases hb : wordOkB s
  · go_enter Tryd.func55, Tryd.ntmps55
    go_wp2_with (go_at_call 64; refine (word_any _ _ hs).mono ?_; rintro e w' ⟨rfl, rfl⟩)
    go_ret
    exact ⟨ret_bool (by simp [nameB, hb]), Below.refl _ _⟩
  · go_enter Tryd.func55, Tryd.ntmps55
    go_wp2_with (first | (go_at_call 64; refine (word_any _ _ hs).mono ?_; rintro e w' ⟨rfl, rfl⟩) | (go_at_call 66; refine (keys_any _).mono ?_; rintro e w1 ⟨rfl, hbl, hrow, hsz⟩; have HR : Hid (StrRow w1 w'.heap.size kwWords) := hrow; clear hrow) | (go_at_call 65; refine (has_any kwWords _ _ 21 _ HR.out rfl (by omega)).mono ?_; rintro e w2 ⟨rfl, rfl⟩))
    go_ret
    exact ⟨ret_bool (by simp [nameB, hb]), hbl⟩

end Go.Proofs.YtjgbjahcnnjfpaaDoor
namespace Go.Proofs.YtjgbjahcnnjfpaaDoor
open Go.RowKit

set_option maxHeartbeats 400000 in
theorem impl_name (s : ByteArray) (w : World) (hs : s.size ≤ maxLen) (hr : StrRow w 3 kwWords) :
    Calls Tryd.prog 80 #[.string s] w fun e w' => e = .returned (.bool (nameB s)) ∧ w' = w := by
  have HS : Hid (s.size ≤ maxLen) := hs
  have HR : Hid (StrRow w 3 kwWords) := hr
  unfold maxLen at hs
  clear hr
  by_cases h1 : s.size = 0
  · have hb : Hid (nameB s = false) := by simp [Hid, nameB, wordOkB]; omega
    have he : s.toList.isEmpty = true := by rw [ByteArray.toList_eq, List.isEmpty_iff]; exact List.eq_nil_of_length_eq_zero (by simpa using h1)
    clear h1
    go_enter Tryd.func80, Tryd.ntmps80
    go_wp2
    go_ret
    exact ⟨ret_bool hb.out.symm, rfl⟩
  have he : s.toList.isEmpty = false := by
    rw [ByteArray.toList_eq, List.isEmpty_eq_false_iff]
    intro h
    have := congrArg List.length h
    simp at this
    exact h1 (by simp [ByteArray.size, this])
  by_cases h2 : 40 < s.size
  · have hb : Hid (nameB s = false) := by simp [Hid, nameB, wordOkB]; omega
    go_enter Tryd.func80, Tryd.ntmps80
    go_wp2
    go_ret
    exact ⟨ret_bool hb.out.symm, rfl⟩
  have h0 : 0 < s.size := by omega
  have hh := head_at s h0
  cases hl : letterB s[0].toNat
  · have hb : Hid (nameB s = false) := by unfold Hid nameB wordOkB; rw [hh, hl]; simp
    clear hh
    go_enter Tryd.func80, Tryd.ntmps80
    go_wp2_with (go_at_call 90; refine (impl_letter _ _).mono ?_; rintro e w' ⟨rfl, rfl⟩)
    go_ret
    exact ⟨ret_bool hb.out.symm, rfl⟩
  · have hb : Hid (wordOkB s = decide (wlen s.data.toList = s.size)) := by
      have : 1 ≤ s.size ∧ s.size ≤ 40 := by omega
      unfold Hid wordOkB; rw [hh, hl]; simp [this]
    clear hh h1
    generalize hn : wlen s.data.toList = n at hb
    have HN : Hid (wlen s.data.toList = n) := hn
    clear hn
    by_cases hW : n = s.size
    · subst hW
      have hb2 : Hid (nameB s = !hasB kwWords s) := by simp [Hid, nameB, hb.out]
      go_enter Tryd.func80, Tryd.ntmps80
      go_wp2_with (first | (go_at_call 90; refine (impl_letter _ _).mono ?_; rintro e w' ⟨rfl, rfl⟩) | (go_at_call 91; refine (impl_wlen _ _ HS.out).mono ?_; rw [HN.out]; rintro e w' ⟨rfl, rfl⟩) | (go_at_call 92; refine (taken_any _ _ HR.out).mono ?_; rintro e w' ⟨rfl, rfl⟩))
      go_ret
      exact ⟨ret_bool hb2.out.symm, rfl⟩
    · have hb2 : Hid (nameB s = false) := by simp [Hid, nameB, hb.out, hW]
      have hne : ((n : Int) == (s.size : Int)) = false := by simp; omega
      go_enter Tryd.func80, Tryd.ntmps80
      go_wp2_with (first | (go_at_call 90; refine (impl_letter _ _).mono ?_; rintro e w' ⟨rfl, rfl⟩) | (go_at_call 91; refine (impl_wlen _ _ HS.out).mono ?_; rw [HN.out]; rintro e w' ⟨rfl, rfl⟩) | (go_at_call 92; refine (taken_any _ _ HR.out).mono ?_; rintro e w' ⟨rfl, rfl⟩))
      go_ret
      exact ⟨ret_bool hb2.out.symm, rfl⟩
end Go.Proofs.YtjgbjahcnnjfpaaDoor
namespace Go.Proofs.YtjgbjahcnnjfpaaDoor
open Go.RowKit

def lvWords : Nat → List ByteArray
  | 1 => [⟨#[124, 124]⟩]
  | 2 => [⟨#[38, 38]⟩]
  | 3 => [⟨#[61, 61]⟩, ⟨#[33, 61]⟩, ⟨#[60]⟩, ⟨#[60, 61]⟩, ⟨#[62]⟩, ⟨#[62, 61]⟩]
  | 4 => [⟨#[43]⟩, ⟨#[45]⟩]
  | 5 => [⟨#[42]⟩, ⟨#[47]⟩, ⟨#[37]⟩]
  | _ => []
def lvl (s : ByteArray) : Nat := if hasB (lvWords 1) s then 1 else if hasB (lvWords 2) s then 2 else if hasB (lvWords 3) s then 3 else if hasB (lvWords 4) s then 4 else if hasB (lvWords 5) s then 5 else 0

def allTo (p : Nat → Bool) : Nat → Bool
  | 0 => true
  | n + 1 => allTo p n && p n
theorem allTo_iff {p : Nat → Bool} : ∀ {n : Nat}, allTo p n = true ↔ ∀ i, i < n → p i = true
  | 0 => by simp [allTo]
  | n + 1 => by
    simp only [allTo, Bool.and_eq_true, allTo_iff (n := n)]
    constructor
    · rintro ⟨h, k⟩ i hi
      by_cases e : i = n
      · subst e; exact k
      · exact h i (by omega)
    · intro h; exact ⟨fun i hi => h i (by omega), h n (by omega)⟩
theorem allTo_false {p : Nat → Bool} {n i : Nat} (hi : i < n) (h : p i = false) : allTo p n = false := by
  rw [Bool.eq_false_iff]; intro e; rw [allTo_iff.1 e i hi] at h; cases h
theorem allTo_true {p : Nat → Bool} {n : Nat} (h : ∀ i, i < n → p i = true) : allTo p n = true := allTo_iff.2 h

def sortB (e st : Nat → Bool) (kk : Nat → Int) (c : Nat) (i : Nat) : Bool :=
  if c = 101 then e i else if c = 99 then decide (kk i = 25) && e i else if c = 98 then decide (kk i = 4) && st i else (decide (kk i = 4) || decide (kk i = 10)) && st i
def sortsB (e st : Nat → Bool) (kk : Nat → Int) (len : Nat) (sorts : ByteArray) : Bool :=
  decide (len = sorts.size) && allTo (fun i => sortB e st kk (sorts.data.toList.getD i 0).toNat i) sorts.size
def emptyB (s : ByteArray) : Bool := s.toList.isEmpty

def exprB (k n : Int) (s : ByteArray) (len : Nat) (e st : Nat → Bool) (kk : Nat → Int) : Bool :=
  if k = 22 then emptyB s && (decide (0 ≤ n) && decide (n ≤ 999999999999999999) && decide (len = 0))
  else if k = 23 then emptyB s && ((decide (n = 0) || decide (n = 1)) && decide (len = 0))
  else if k = 24 then decide (n = 0) && (nameB s && decide (len = 0))
  else if k = 25 then decide (n = 0) && (nameB s && allTo e len)
  else if k = 26 then emptyB s && decide (n = 0) && (decide (len < 2) && allTo e len)
  else if k = 27 then decide (n = 0) && ((s.toList == [45] || s.toList == [33]) && sortsB e st kk len ⟨#[101]⟩)
  else if k = 28 then decide (n = 0) && (decide (0 < lvl s) && sortsB e st kk len ⟨#[101, 101]⟩)
  else if k = 29 then emptyB s && decide (n = 0) && sortsB e st kk len ⟨#[101]⟩
  else false

def stmtB (k n : Int) (s : ByteArray) (len : Nat) (e st cs : Nat → Bool) (kk : Nat → Int) : Bool :=
  if k = 4 then emptyB s && decide (n = 0) && allTo st len
  else if k = 5 ∨ k = 6 then !emptyB s && nameB s && decide (n = 0) && sortsB e st kk len ⟨#[101]⟩
  else if k = 7 then !emptyB s && nameB s && ((decide (n = 1) || decide (n = -1)) && decide (len = 0))
  else if k = 8 then emptyB s && decide (n = 0) && sortsB e st kk len ⟨#[101, 101]⟩
  else if k = 9 then emptyB s && decide (n = 0) && (sortsB e st kk len ⟨#[101]⟩ && (decide (kk 0 = 25) || decide (kk 0 = 29)))
  else if k = 10 then emptyB s && decide (n = 0) && (sortsB e st kk len ⟨#[101, 98]⟩ || sortsB e st kk len ⟨#[101, 98, 105]⟩)
  else if k = 11 then emptyB s && decide (n = 0) && (sortsB e st kk len ⟨#[98]⟩ || sortsB e st kk len ⟨#[101, 98]⟩)
  else if k = 12 then emptyB s && decide (n = 0) && (decide (len = 0) || sortsB e st kk len ⟨#[101]⟩)
  else if k = 13 ∨ k = 14 then emptyB s && decide (n = 0) && sortsB e st kk len ⟨#[99]⟩
  else if k = 15 then emptyB s && decide (n = 0) && allTo cs len
  else if k = 17 ∨ k = 18 then emptyB s && decide (n = 0) && decide (len = 0)
  else if k = 19 ∨ k = 20 ∨ k = 21 then emptyB s && decide (n = 0) && sortsB e st kk len ⟨#[101]⟩
  else false

def caseB (k n : Int) (s : ByteArray) (len : Nat) (e st : Nat → Bool) (kk : Nat → Int) : Bool :=
  if k = 16 then (emptyB s || (decide (n = 1) && nameB s)) &&
    (if n = 0 then sortsB e st kk len ⟨#[98]⟩ else if n = 1 then sortsB e st kk len ⟨#[101, 98]⟩ else if n = 2 then sortsB e st kk len ⟨#[101, 101, 98]⟩ else false)
  else false

theorem sorts1 (e st : Nat → Bool) (kk : Nat → Int) (len : Nat) (c : UInt8) : sortsB e st kk len ⟨#[c]⟩ = (decide (len = 1) && sortB e st kk c.toNat 0) := by
  unfold sortsB
  show (decide (len = 1) && (allTo _ 1)) = _
  simp [allTo]
theorem sorts2 (e st : Nat → Bool) (kk : Nat → Int) (len : Nat) (c c' : UInt8) : sortsB e st kk len ⟨#[c, c']⟩ = (decide (len = 2) && (sortB e st kk c.toNat 0 && sortB e st kk c'.toNat 1)) := by
  unfold sortsB
  show (decide (len = 2) && (allTo _ 2)) = _
  simp [allTo]
theorem sorts3 (e st : Nat → Bool) (kk : Nat → Int) (len : Nat) (c c' c'' : UInt8) : sortsB e st kk len ⟨#[c, c', c'']⟩ = (decide (len = 3) && (sortB e st kk c.toNat 0 && sortB e st kk c'.toNat 1 && sortB e st kk c''.toNat 2)) := by
  unfold sortsB
  show (decide (len = 3) && (allTo _ 3)) = _
  simp [allTo]

def okN : Nd → Bool × Bool × Bool
  | .nil => (false, false, false)
  | .mk k n s len kids =>
    (exprB k n s len (fun i => (okN (kids i)).1) (fun i => (okN (kids i)).2.1) (fun i => (kids i).kind),
     stmtB k n s len (fun i => (okN (kids i)).1) (fun i => (okN (kids i)).2.1) (fun i => (okN (kids i)).2.2) (fun i => (kids i).kind),
     caseB k n s len (fun i => (okN (kids i)).1) (fun i => (okN (kids i)).2.1) (fun i => (kids i).kind))
def Nd.eOk (T : Nd) : Bool := (okN T).1
def Nd.sOk (T : Nd) : Bool := (okN T).2.1
def Nd.cOk (T : Nd) : Bool := (okN T).2.2
def Nd.kk (T : Nd) (i : Nat) : Int := (T.kids i).kind
theorem eOk_eq (T : Nd) : T.eOk = exprB T.kind T.num T.name T.len (fun i => (T.kids i).eOk) (fun i => (T.kids i).sOk) T.kk := by cases T <;> rfl
theorem sOk_eq (T : Nd) : T.sOk = stmtB T.kind T.num T.name T.len (fun i => (T.kids i).eOk) (fun i => (T.kids i).sOk) (fun i => (T.kids i).cOk) T.kk := by cases T <;> rfl
theorem cOk_eq (T : Nd) : T.cOk = caseB T.kind T.num T.name T.len (fun i => (T.kids i).eOk) (fun i => (T.kids i).sOk) T.kk := by cases T <;> rfl
def paramB (T : Nd) : Bool := decide (T.kind = 3) && nameB T.name && (decide (1 ≤ T.num) && decide (T.num ≤ 3)) && decide (T.len = 0)
def funcB (T : Nd) : Bool := decide (T.kind = 2) && nameB T.name && (decide (0 ≤ T.num) && decide (T.num ≤ 3)) && decide (1 ≤ T.len) &&
  (allTo (fun i => paramB (T.kids i)) (T.len - 1) && (decide ((T.kids (T.len - 1)).kind = 4) && (T.kids (T.len - 1)).sOk))
def treeB (T : Nd) : Bool := decide (T.size ≤ 600) && decide (T.kind = 1) && decide (T.num = 0) && emptyB T.name && allTo (fun i => funcB (T.kids i)) T.len
end Go.Proofs.YtjgbjahcnnjfpaaDoor
