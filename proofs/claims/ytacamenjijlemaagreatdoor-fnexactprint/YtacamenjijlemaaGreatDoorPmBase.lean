/- Two tools over any program: what a listed array of strings holds cell by cell, and the closing of a law's row where the call has turned nothing that was there. -/
import Derived.ProofKit
import Derived.OpenVars
import Derived.LaidLaws
import Derived.Lib.LaidTab
import Derived.Test.YtacamenjijlemaaGreatDoorProg
import Derived.WalkKit
import Derived.Below
import Derived.Outline
import Derived.Deep.MidRow
import Derived.WalkSpells
import Derived.ChangeArms
import Derived.DataReads
import Derived.Deep.Slices
import Derived.WalkSmall
import Derived.RegionTactic
import Derived.BigRegion
import Derived.Deep.RegionWith
import Derived.OwnWalk
import Derived.Laws.MakeOwn
set_option linter.unusedVariables false
namespace Go.Proofs.YtacamenjijlemaaGreatDoor
open Go.RowKit Go.ChangeShapes Go.WideShapes Go.ChangeAt

theorem bytes_ext {a b : ByteArray} (h : a.data.toList = b.data.toList) : a = b := by
  cases a; cases b; simp only at h; congr; exact Array.ext' h

def strData {H : Type} (ss : List ByteArray) : DataW H := .agg (ss.map fun s => .lit (.string s.data.toList))

theorem cells_of_strs {H : Type} {enc : TypeId × Value → H} {P : Program} {w : World} {base : Nat} {sp : Nat → Bool} {held : Bool} {fuel : Nat} {t e : TypeId} {n : Nat} {cs : List Value} {zs : List ByteArray} {p : List MemPlace}
    (ht : P.underlying t = some (.array n e)) (he : P.underlying e = some .string) (hce : P.cellsOf e = 1) (hct : P.cellsOf t = n)
    (h : DataW.trod enc P w base sp held fuel t cs = some (strData zs, p)) : cs = zs.map fun z => Value.string z := by
  cases fuel with
  | zero => simp [DataW.trod] at h
  | succ fuel =>
    simp only [DataW.trod, ht, hce, hct, Nat.mul_one] at h
    split at h
    · rename_i hl
      obtain ⟨xs, hm, hx⟩ := Option.map_eq_some_iff.1 h
      have hxs : xs.map (·.1) = zs.map fun z => (DataW.lit (.string z.data.toList) : DataW H) := by
        have := congrArg Prod.fst hx
        simpa [strData] using this
      have hxl : xs.length = n := by simpa using Lib.mapM_length hm
      have hzl : zs.length = n := by
        have := congrArg List.length hxs
        simp at this
        omega
      apply List.ext_getElem?
      intro i
      by_cases hi : i < n
      · obtain ⟨b, hb, hf⟩ := Lib.mapM_at hm i i (by simp [hi])
        obtain ⟨z, hc, rfl, _⟩ := DataW.trod_string he hf
        have h1 : cs[i]? = some (.string z) := by
          have := congrArg (·[0]?) hc
          simpa [List.getElem?_take, List.getElem?_drop] using this
        have h2 : (xs.map (·.1))[i]? = some (DataW.lit (.string z.data.toList) : DataW H) := by simp [hb]
        rw [hxs] at h2
        simp only [List.getElem?_map, Option.map_eq_some_iff, DataW.lit.injEq, Lit.string.injEq] at h2
        obtain ⟨z', hz', e'⟩ := h2
        rw [h1, List.getElem?_map, hz', ← bytes_ext e']; rfl
      · rw [List.getElem?_eq_none (by omega), List.getElem?_eq_none (by simp; omega)]
    · cases h

/-- A variable that reads as an array of strings, among a list of such: its cells. -/
theorem strs_of_read {H : Type} {enc : TypeId × Value → H} {P : Program} {W : World} {name : String} {zs : List ByteArray} {g : Nat} {t e : TypeId} {n : Nat} {cs : Array Value} {fuel : Nat} {p : List MemPlace} {sp : Nat → Bool} {held : Bool}
    (hg : P.globalNamed name = some g) (ht : P.underlying t = some (.array n e)) (he : P.underlying e = some .string) (hce : P.cellsOf e = 1) (hct : P.cellsOf t = n)
    (hv : W.var? P name = some cs) (hd : DataW.trod enc P W 0 sp held fuel t cs.toList = some (strData zs, p)) (i : Nat) (hi : i < zs.length) :
    W.cell? ⟨g, i, none⟩ = some (.string (zs.getD i ⟨#[]⟩)) := by
  have hc := cells_of_strs ht he hce hct hd
  have := World.var?_cell hg hv i
  rw [this]
  have e2 : cs[i]? = cs.toList[i]? := by simp
  rw [e2, hc]
  simp [List.getD, hi]

theorem var_lt {P : Program} {W : World} {name : String} {g : Nat} {cs : Array Value} (hg : P.globalNamed name = some g) (hv : W.var? P name = some cs) : g < W.heap.size := by
  unfold World.var? at hv
  rw [hg] at hv
  simp only [Option.bind_some] at hv
  cases hh : W.heap[g]? with
  | none => rw [hh] at hv; cases hv
  | some o => exact (Array.getElem?_eq_some_iff.1 hh).1

/-- The arguments read behind the call as they did before it, whatever their number and types. -/
theorem below_trodAll {H : Type} {enc : TypeId × Value → H} {P : Program} (hl : laidOutB P = true) {W W' : World} (hb : Below W.heap.size W W') :
    ∀ {ts : List TypeId} {vs : List Value} {ds : List (DataW H)} {ps : List MemPlace}, (ts.all fun t => P.readableRec t && decide (t < P.types.size)) = true → (∀ x ∈ ps, x.block < W.heap.size) →
      DataW.TrodAll enc P W 0 (fun _ => true) true ts vs ds ps → DataW.TrodAll enc P W' 0 (fun b => decide (b < W.heap.size)) true ts vs ds ps
  | [], [], [], _, _, _, h => h
  | t :: ts, v :: vs, d :: ds, ps, hr, hlt, h => by
    obtain ⟨p, q, h1, h2, e⟩ := h
    simp only [List.all_cons, Bool.and_eq_true, decide_eq_true_eq] at hr
    exact ⟨p, q, Below.trod hl hr.1.1 hr.1.2 h1 hb (fun x hx => hlt x (by rw [e]; simp [hx])), below_trodAll hl hb (by simpa using hr.2) (fun x hx => hlt x (by rw [e]; simp [hx])) h2, e⟩
  | [], [], _ :: _, _, _, _, h => h.elim
  | [], _ :: _, _, _, _, _, h => h.elim
  | _ :: _, [], _, _, _, _, h => h.elim
  | _ :: _, _ :: _, [], _, _, _, h => h.elim

/-- A LAW's CLOSING: true; all that was there reads as it did. -/
theorem law_post {H : Type} {enc : TypeId × Value → H} {P : Program} {f : Func} {s : ChangeSpec} {W W' : World} {args : Array Value} {ds gs : List (DataW H)} {before : List MemPlace} {tb : TypeId} {apart : Bool}
    (hl : laidOutB P = true) (htb : P.underlying tb = some .bool) (hres : f.resultTypes = #[tb])
    (hr : (f.params.toList.all fun t => P.readableRec t && decide (t < P.types.size)) = true) (hv : varsRowed P s.vars = true)
    (hfn : s.fn H (ds ++ gs) = { results := [.lit (.bool true)], args := ds, vars := gs })
    (hW : DataW.Whole enc P f.params.toList s.vars apart W args.toList ds gs before) (hb : Below W.heap.size W W') :
    s.post enc P f apart true false false W args (.bool true) W' := by
  have hW' := hW
  have hlt := hW.lt
  obtain ⟨p, q, hA, hV, rfl, hfz, hnd⟩ := hW
  refine ⟨ds, gs, p ++ q, [], p, q, hW', ?_, ?_, ?_, hb.frame _, fun h => by cases h⟩
  · rw [hfn, hres]
    exact trodAll_mk1 (shut_bool htb _)
  · rw [hfn]
    exact below_trodAll hl hb hr (fun x hx => hlt x (by simp [hx])) hA
  · rw [hfn]
    exact Below.trodVars hl hb hv hV
end Go.Proofs.YtacamenjijlemaaGreatDoor

/- The contracts of the tests on single bytes, and of the words that are taken, in the program and in the specification. -/
namespace Go.Proofs.YtacamenjijlemaaGreatDoor
open Go.RowKit

def letterB (c : Int) : Bool := decide (97 ≤ c ∧ c ≤ 122) || (decide (65 ≤ c ∧ c ≤ 90) || decide (c = 95))
def digitB (c : Int) : Bool := decide (48 ≤ c ∧ c ≤ 57)

theorem ret_bool {a b : Bool} (h : a = b) : Ending.returned (.bool a) = .returned (.bool b) := by rw [h]
theorem ret_str {a b : ByteArray} (h : a = b) : Ending.returned (.string a) = .returned (.string b) := by rw [h]
theorem ret_two {a b c d : Value} (h : a = c) (k : b = d) : Ending.returned (.tuple #[a, b]) = .returned (.tuple #[c, d]) := by rw [h, k]
theorem ret_int {k : IntKind} {a b : Int} (h : a = b) : Ending.returned (.int k a) = .returned (.int k b) := by rw [h]

theorem impl_letter (c : Int) (w : World) : Calls Tryz.prog 62 #[.int .u8 c] w fun e w' => e = .returned (.bool (letterB c)) ∧ w' = w := by
  go_enter Tryz.func62, Tryz.ntmps62
  go_wp2
  all_goals go_ret
  all_goals refine ⟨ret_bool ?_, rfl⟩
  all_goals (rw [Bool.eq_iff_iff]; simp [letterB]; omega)
theorem impl_digit (c : Int) (w : World) : Calls Tryz.prog 75 #[.int .u8 c] w fun e w' => e = .returned (.bool (digitB c)) ∧ w' = w := by
  go_enter Tryz.func75, Tryz.ntmps75
  go_wp2
  all_goals go_ret
  all_goals refine ⟨ret_bool ?_, rfl⟩
  all_goals (rw [Bool.eq_iff_iff]; simp [digitB]; omega)
theorem spec_letter (c : Int) (w : World) : Calls Tryz.prog 55 #[.int .u8 c] w fun e w' => e = .returned (.bool (letterB c)) ∧ w' = w := by
  go_enter Tryz.func55, Tryz.ntmps55
  go_wp2
  all_goals go_ret
  all_goals refine ⟨ret_bool ?_, rfl⟩
  all_goals (rw [Bool.eq_iff_iff]; simp [letterB]; omega)
theorem spec_digit (c : Int) (w : World) : Calls Tryz.prog 56 #[.int .u8 c] w fun e w' => e = .returned (.bool (digitB c)) ∧ w' = w := by
  go_enter Tryz.func56, Tryz.ntmps56
  go_wp2
  all_goals go_ret
  all_goals refine ⟨ret_bool ?_, rfl⟩
  all_goals (rw [Bool.eq_iff_iff]; simp [digitB]; omega)

/-- A byte of a word. -/
def wordB (c : Int) : Bool := letterB c || digitB c
/-- How many bytes from the first on are of a word. -/
def wlen (l : List UInt8) : Nat := (l.takeWhile fun b => wordB b.toNat).length

theorem take_snoc (s : ByteArray) (k : Nat) (h : k < s.size) : s.data.toList.take (k + 1) = s.data.toList.take k ++ [s[k]] := by
  rw [List.take_succ_eq_append_getElem (by simpa using h)]; rfl

theorem wlen_all {l : List UInt8} {k : Nat} (h : ∀ b ∈ l.take k, wordB b.toNat = true) (hk : k ≤ l.length) (hn : ∀ hlt : k < l.length, wordB l[k].toNat = false) : wlen l = k := by
  induction l generalizing k with
  | nil => simpa [wlen] using Eq.symm (by simpa using hk : k = 0)
  | cons a l ih =>
    cases k with
    | zero =>
      have h0 : wordB a.toNat = false := hn (by simp)
      simp [wlen, h0]
    | succ k =>
      have h0 : wordB a.toNat = true := h a (by simp)
      have := ih (k := k) (fun b hb => h b (by simp [hb])) (by simpa using hk) (fun hlt => hn (Nat.succ_lt_succ hlt))
      unfold wlen at this ⊢
      simp [h0, this]

set_option maxHeartbeats 400000 in
theorem impl_wlen (s : ByteArray) (w : World) (hs : s.size ≤ maxLen) :
    Calls Tryz.prog 63 #[.string s] w fun e w' => e = .returned (.int .i64 (wlen s.data.toList)) ∧ w' = w := by
  unfold maxLen at hs
  go_enter Tryz.func63, Tryz.ntmps63
  go_wp2
  go_loop [3] (fun i => ∃ k : Nat, k ≤ s.size ∧ i = .int .i64 k ∧ Hid (∀ b ∈ s.data.toList.take k, wordB b.toNat = true)) (fun i => s.size - (intOf i).toNat)
  case atStart => exact ⟨0, Nat.zero_le _, rfl, by simp [Hid]⟩
  case round =>
    obtain ⟨k, hk, rfl, hall⟩ := hrel
    by_cases hlt : k < s.size
    · have hend : wordB s[k].toNat = false → wlen s.data.toList = k := fun hb => wlen_all hall.out (by simpa using hk) (fun _ => hb)
      have hgo : wordB s[k].toNat = true → ∀ b ∈ s.data.toList.take (k + 1), wordB b.toNat = true := fun hb b hm => by
        rw [take_snoc s k hlt, List.mem_append] at hm
        rcases hm with hm | hm
        · exact hall.out b hm
        · simp at hm; rw [hm]; exact hb
      have HE : Hid (wordB s[k].toNat = false → wlen s.data.toList = k) := hend
      have HG : Hid (wordB s[k].toNat = true → ∀ b ∈ s.data.toList.take (k + 1), wordB b.toNat = true) := hgo
      clear hend hgo
      cases hl : letterB s[k].toNat <;> cases hd : digitB s[k].toNat
      all_goals
        go_wp2_with (first | (go_at_call 62; refine (impl_letter _ _).mono ?_; rintro e w' ⟨rfl, rfl⟩) | (go_at_call 75; refine (impl_digit _ _).mono ?_; rintro e w' ⟨rfl, rfl⟩))
      · go_ret
        exact ⟨ret_int (by rw [HE.out (by simp [wordB, hl, hd])]), rfl⟩
      all_goals
        go_round
        case rel => exact ⟨k + 1, by omega, by go_num, HG.out (by simp [wordB, hl, hd])⟩
        case measure => simp [intOf]; omega
    · have hend : wlen s.data.toList = k := wlen_all hall.out (by simpa using hk) (fun h => by simp at h; omega)
      have HE : Hid (wlen s.data.toList = k) := hend
      clear hend
      go_wp2
      go_ret
      exact ⟨ret_int (by rw [HE.out]), rfl⟩
/-- The words that are taken. -/
def kwWords : List ByteArray := [⟨#[102, 117, 110, 99]⟩, ⟨#[105, 102]⟩, ⟨#[101, 108, 115, 101]⟩, ⟨#[102, 111, 114]⟩, ⟨#[114, 101, 116, 117, 114, 110]⟩, ⟨#[103, 111]⟩, ⟨#[100, 101, 102, 101, 114]⟩, ⟨#[115, 101, 108, 101, 99, 116]⟩, ⟨#[99, 97, 115, 101]⟩, ⟨#[100, 101, 102, 97, 117, 108, 116]⟩, ⟨#[98, 114, 101, 97, 107]⟩, ⟨#[99, 111, 110, 116, 105, 110, 117, 101]⟩, ⟨#[99, 104, 97, 110]⟩, ⟨#[105, 110, 116]⟩, ⟨#[98, 111, 111, 108]⟩, ⟨#[116, 114, 117, 101]⟩, ⟨#[102, 97, 108, 115, 101]⟩, ⟨#[109, 97, 107, 101]⟩, ⟨#[99, 108, 111, 115, 101]⟩, ⟨#[112, 114, 105, 110, 116]⟩, ⟨#[112, 97, 110, 105, 99]⟩]

theorem kw_at (k : Nat) (h : k < (kwWords.map Value.string).length) : (kwWords.map Value.string)[k] = .string (kwWords.getD k ⟨#[]⟩) := by
  have hl : k < kwWords.length := by simpa using h
  simp [List.getD, hl]

/-- The cells of a row of strings, from an address on. -/
def StrRow (w : World) (b : Nat) (ss : List ByteArray) : Prop := ∀ i, i < ss.length → w.cell? ⟨b, i, none⟩ = some (.string (ss.getD i ⟨#[]⟩))

theorem strRow_new (w : World) (ss : List ByteArray) (t : TypeId) : StrRow (w.alloc (.cells (ss.map Value.string).toArray t)) w.heap.size ss := by
  intro i hi
  have := World.cell?_alloc_new w (ss.map Value.string).toArray t i
  rw [this]
  simp [List.getD, hi]

theorem beq_bytes (a b : ByteArray) : (a.toList == b.toList) = decide (a = b) := by
  rw [ByteArray.toList_eq, ByteArray.toList_eq, Bool.eq_iff_iff]
  simp only [beq_iff_eq, decide_eq_true_eq]
  constructor
  · intro h; cases a; cases b; simp only at h; congr; exact Array.ext' h
  · intro h; rw [h]

theorem keys_any (w : World) : Calls Tryz.prog 43 #[] w fun e w' => e = .returned (.slice (some ⟨w.heap.size, 0, none⟩) 21 21) ∧ Below w.heap.size w w' ∧ StrRow w' w.heap.size kwWords ∧ w.heap.size < w'.heap.size := by
  go_enter Tryz.func43, Tryz.ntmps43
  go_wp2
  go_ret
  refine ⟨rfl, (Below.refl _ _).alloc (Nat.le_refl _) _, ?_, by simp⟩
  exact strRow_new w kwWords 9

/-- A text is among some. -/
def hasB (ss : List ByteArray) (t : ByteArray) : Bool := ss.any fun s => decide (s = t)
theorem hasB_iff (ss : List ByteArray) (t : ByteArray) : hasB ss t = true ↔ t ∈ ss := by simp [hasB]

theorem contains_snoc {ss : List ByteArray} {t : ByteArray} {k : Nat} (hk : k < ss.length) (h : t ∉ ss.take k) (hn : (ss[k].toList == t.toList) = false) : t ∉ ss.take (k + 1) := by
  rw [List.take_succ_eq_append_getElem hk]
  rw [beq_bytes, decide_eq_false_iff_not] at hn
  intro hm
  rcases List.mem_append.1 hm with hm | hm
  · exact h hm
  · exact hn (List.mem_singleton.1 hm).symm
theorem contains_hit {ss : List ByteArray} {t : ByteArray} {k : Nat} (hk : k < ss.length) (hn : (ss[k].toList == t.toList) = true) : true = hasB ss t := by
  rw [beq_bytes, decide_eq_true_eq] at hn
  rw [← hn]; exact ((hasB_iff _ _).2 (List.getElem_mem hk)).symm
theorem contains_end {ss : List ByteArray} {t : ByteArray} {k : Nat} (hk : ss.length ≤ k) (h : t ∉ ss.take k) : false = hasB ss t := by
  rw [List.take_of_length_le hk] at h
  exact (Bool.eq_false_iff.2 fun e => h ((hasB_iff _ _).1 e)).symm

set_option maxHeartbeats 400000 in
theorem has_any (ss : List ByteArray) (t : ByteArray) (b n : Nat) (w : World) (hr : StrRow w b ss) (hn : ss.length = n) (hl : n < 1000) :
    Calls Tryz.prog 42 #[.slice (some ⟨b, 0, none⟩) n n, .string t] w fun e w' => e = .returned (.bool (hasB ss t)) ∧ w' = w := by
  subst hn
  go_enter Tryz.func42, Tryz.ntmps42
  go_wp2
  go_loop [5] (fun i => ∃ k : Nat, k ≤ ss.length ∧ i = .int .i64 k ∧ Hid (t ∉ ss.take k)) (fun i => ss.length - (intOf i).toNat)
  case atStart => exact ⟨0, Nat.zero_le _, rfl, by simp [Hid]⟩
  case round =>
    obtain ⟨k, hk, rfl, hall⟩ := hrel
    by_cases hlt : k < ss.length
    · have hc := hr k hlt
      clear hr
      go_wp2
      · go_ret
        exact ⟨ret_bool (contains_hit hlt ‹_›), rfl⟩
      · exact ⟨⟨k + 1, by omega, by go_num, contains_snoc hlt hall.out ‹_›⟩, by simp [intOf]; omega⟩
    · clear hr
      go_wp2
      go_ret
      exact ⟨ret_bool (contains_end (by omega) hall.out), rfl⟩

/-- An element of an array of strings that was read whole. -/
theorem run_index_strs {P : Program} {t e : TypeId} {n : Nat} (w : World) (ss : List ByteArray) (k : Nat) (hu : P.underlying t = some (.array n e)) (he : P.underlying e = some .string) (hi : (P.info? e).map (·.size) = some 1) (hk : k < n) (hl : ss.length = n) :
    (Instr.index t (.agg (ss.map Value.string).toArray) (.int .i64 k)).run P w = .ok (.string (ss.getD k ⟨#[]⟩)) w := by
  have hagg : (isAgg e).run P w = .ok false w := by
    unfold isAgg
    rw [Sem.run_bind, run_underlying he w]
    rfl
  cases hq : P.info? e with
  | none => simp [hq] at hi
  | some i =>
    have hs : i.size = 1 := by simpa [hq] using hi
    have h2 : k < ss.length := by omega
    simp [Instr.index, asIntOf, Sem.run_bind, run_underlying hu w, part, hagg, sizeOf, typeInfo, hq, hs, h2, List.getD]
    omega

theorem range_strs {w : World} {b : Nat} {ss : List ByteArray} (h : StrRow w b ss) : w.rangeAt b 0 (ss.map Value.string) := by
  intro j v hv
  rw [List.getElem?_map, Option.map_eq_some_iff] at hv
  obtain ⟨s, hs, rfl⟩ := hv
  obtain ⟨hlt, hs⟩ := List.getElem?_eq_some_iff.1 hs
  have := h j hlt
  rw [Nat.zero_add, this]
  simp [List.getD, hlt, hs]

set_option maxHeartbeats 1000000 in
set_option maxRecDepth 100000 in
theorem taken_any (t : ByteArray) (w : World) (hr : StrRow w 3 kwWords) :
    Calls Tryz.prog 64 #[.string t] w fun e w' => e = .returned (.bool (hasB kwWords t)) ∧ w' = w := by
  have hload : Hid (w.rangeAt 3 0 (kwWords.map Value.string)) := range_strs hr
  have hsz : (Tryz.prog.info? 98).map (·.size) = some (kwWords.map Value.string).length := by kernel_rfl
  have hsz9 : (Tryz.prog.info? 9).map (·.size) = some 1 := by kernel_rfl
  have HZ : Hid ((Tryz.prog.info? 98).map (·.size) = some (kwWords.map Value.string).length) := hsz
  have hix : Hid (∀ k : Nat, k < 21 → (Instr.index 98 (.agg (kwWords.map Value.string).toArray) (.int .i64 k)).run Tryz.prog w = .ok (.string (kwWords.getD k ⟨#[]⟩)) w) :=
    fun k hk => run_index_strs w kwWords k Tryz.underlying98 Tryz.underlying9 hsz9 hk rfl
  clear hr hsz hsz9
  generalize hkw : kwWords = ss at *
  have hlen : Hid (ss.length = 21) := by rw [← hkw]; rfl
  clear hkw
  go_enter Tryz.func64, Tryz.ntmps64
  go_wp2_with (refine wpList_load_mid rfl 98 _ rfl 3 0 rfl _ _ hload.out Tryz.underlying98 rfl HZ.out ?_)
  go_loop [6] (fun i => ∃ k : Nat, k ≤ 21 ∧ i = .int .i64 k ∧ Hid (t ∉ ss.take k)) (fun i => 21 - (intOf i).toNat)
  case atStart => exact ⟨0, Nat.zero_le _, rfl, by simp [Hid]⟩
  case round =>
    obtain ⟨k, hk, rfl, hall⟩ := hrel
    by_cases hlt : k < 21
    · have hi := hix.out k hlt
      have hkl : k < ss.length := by rw [hlen.out]; exact hlt
      go_wp2
      · go_ret
        exact ⟨ret_bool (contains_hit hkl ‹_›), rfl⟩
      · exact ⟨⟨k + 1, by omega, by go_num, contains_snoc hkl hall.out ‹_›⟩, by simp [intOf]; omega⟩
    · go_wp2
      go_ret
      exact ⟨ret_bool (contains_end (by rw [hlen.out]; omega) hall.out), rfl⟩
end Go.Proofs.YtacamenjijlemaaGreatDoor

/- The contracts of NameOK, in the program and in the specification. -/
namespace Go.Proofs.YtacamenjijlemaaGreatDoor
open Go.RowKit

/-- A letter, then letters and digits, 1 to 40 bytes. -/
def wordOkB (s : ByteArray) : Bool := decide (1 ≤ s.size ∧ s.size ≤ 40) && (letterB (s.data.toList.headD 0).toNat && decide (wlen s.data.toList = s.size))

theorem head_at (s : ByteArray) (h : 0 < s.size) : s.data.toList.headD 0 = s[0] := by
  have : 0 < s.data.toList.length := by simpa using h
  cases hl : s.data.toList with
  | nil => simp [hl] at this
  | cons a l =>
    have : s.data.toList[0]'this = a := by simp [hl]
    show a = s.data[0]
    rw [← this]; rfl

set_option maxHeartbeats 400000 in
theorem word_any (s : ByteArray) (w : World) (hs : s.size ≤ maxLen) :
    Calls Tryz.prog 41 #[.string s] w fun e w' => e = .returned (.bool (wordOkB s)) ∧ w' = w := by
  unfold maxLen at hs
  by_cases h1 : s.size < 1
  · have hb : Hid (wordOkB s = false) := by simp [Hid, wordOkB]; omega
    go_enter Tryz.func41, Tryz.ntmps41
    go_wp2
    go_ret
    exact ⟨ret_bool hb.out.symm, rfl⟩
  by_cases h2 : 40 < s.size
  · have hb : Hid (wordOkB s = false) := by simp [Hid, wordOkB]; omega
    go_enter Tryz.func41, Tryz.ntmps41
    go_wp2
    go_ret
    exact ⟨ret_bool hb.out.symm, rfl⟩
  have h0 : 0 < s.size := by omega
  have hh := head_at s h0
  cases hl : letterB s[0].toNat
  · have hb : Hid (wordOkB s = false) := by unfold Hid wordOkB; rw [hh, hl]; simp
    clear hh
    go_enter Tryz.func41, Tryz.ntmps41
    go_wp2_with (go_at_call 55; refine (spec_letter _ _).mono ?_; rintro e w' ⟨rfl, rfl⟩)
    go_ret
    exact ⟨ret_bool hb.out.symm, rfl⟩
  · have hb : Hid (wordOkB s = decide (wlen s.data.toList = s.size)) := by
      have : 1 ≤ s.size ∧ s.size ≤ 40 := by omega
      unfold Hid wordOkB; rw [hh, hl]; simp [this]
    have hw1 : Hid (∀ b ∈ s.data.toList.take 1, wordB b.toNat = true) := by
      intro b hm
      rw [take_snoc s 0 h0] at hm
      simp at hm
      rw [hm]; simp [wordB, hl]
    clear hh
    go_enter Tryz.func41, Tryz.ntmps41
    go_wp2_with (go_at_call 55; refine (spec_letter _ _).mono ?_; rintro e w' ⟨rfl, rfl⟩)
    clear hl
    go_loop [3] (fun i => ∃ k : Nat, k ≤ s.size ∧ i = .int .i64 k ∧ Hid (∀ b ∈ s.data.toList.take k, wordB b.toNat = true)) (fun i => s.size - (intOf i).toNat)
    case atStart => exact ⟨1, by omega, rfl, hw1⟩
    case round =>
      obtain ⟨k, hk, rfl, hall⟩ := hrel
      clear hw1
      by_cases hlt : k < s.size
      · have HE : Hid (wordB s[k].toNat = false → wordOkB s = false) := fun hbb => by
          rw [hb.out, wlen_all hall.out (by simpa using hk) (fun _ => hbb)]
          simp; omega
        have HG : Hid (wordB s[k].toNat = true → ∀ b ∈ s.data.toList.take (k + 1), wordB b.toNat = true) := fun hbb b hm => by
          rw [take_snoc s k hlt, List.mem_append] at hm
          rcases hm with hm | hm
          · exact hall.out b hm
          · simp at hm; rw [hm]; exact hbb
        cases hl : letterB s[k].toNat <;> cases hd : digitB s[k].toNat
        all_goals
          go_wp2_with (first | (go_at_call 55; refine (spec_letter _ _).mono ?_; rintro e w' ⟨rfl, rfl⟩) | (go_at_call 56; refine (spec_digit _ _).mono ?_; rintro e w' ⟨rfl, rfl⟩))
        · go_ret
          exact ⟨ret_bool (HE.out (by simp [wordB, hl, hd])).symm, rfl⟩
        all_goals
          go_round
          case rel => exact ⟨k + 1, by omega, by go_num, HG.out (by simp [wordB, hl, hd])⟩
          case measure => simp [intOf]; omega
      · have hend : Hid (wordOkB s = true) := by
          unfold Hid
          rw [hb.out, wlen_all hall.out (by simpa using hk) (fun h => by simp at h; omega)]
          simp; omega
        go_wp2
        go_ret
        exact ⟨ret_bool hend.out.symm, rfl⟩

def nameB (s : ByteArray) : Bool := wordOkB s && !hasB kwWords s

set_option maxHeartbeats 400000 in
theorem spec_name (s : ByteArray) (w : World) (hs : s.size ≤ maxLen) :
    Calls Tryz.prog 27 #[.string s] w fun e w' => e = .returned (.bool (nameB s)) ∧ Below w.heap.size w w' := by
  cases hb : wordOkB s
  · go_enter Tryz.func27, Tryz.ntmps27
    go_wp2_with (go_at_call 41; refine (word_any _ _ hs).mono ?_; rintro e w' ⟨rfl, rfl⟩)
    go_ret
    exact ⟨ret_bool (by simp [nameB, hb]), Below.refl _ _⟩
  · go_enter Tryz.func27, Tryz.ntmps27
    go_wp2_with (first | (go_at_call 41; refine (word_any _ _ hs).mono ?_; rintro e w' ⟨rfl, rfl⟩) | (go_at_call 43; refine (keys_any _).mono ?_; rintro e w1 ⟨rfl, hbl, hrow, hsz⟩; have HR : Hid (StrRow w1 w'.heap.size kwWords) := hrow; clear hrow) | (go_at_call 42; refine (has_any kwWords _ _ 21 _ HR.out rfl (by omega)).mono ?_; rintro e w2 ⟨rfl, rfl⟩))
    go_ret
    exact ⟨ret_bool (by simp [nameB, hb]), hbl⟩

set_option maxHeartbeats 400000 in
theorem impl_name (s : ByteArray) (w : World) (hs : s.size ≤ maxLen) (hr : StrRow w 3 kwWords) :
    Calls Tryz.prog 48 #[.string s] w fun e w' => e = .returned (.bool (nameB s)) ∧ w' = w := by
  have HS : Hid (s.size ≤ maxLen) := hs
  have HR : Hid (StrRow w 3 kwWords) := hr
  unfold maxLen at hs
  clear hr
  by_cases h1 : s.size = 0
  · have hb : Hid (nameB s = false) := by simp [Hid, nameB, wordOkB]; omega
    have he : s.toList.isEmpty = true := by rw [ByteArray.toList_eq, List.isEmpty_iff]; exact List.eq_nil_of_length_eq_zero (by simpa using h1)
    clear h1
    go_enter Tryz.func48, Tryz.ntmps48
    go_wp2
    go_ret
    exact ⟨ret_bool hb.out.symm, rfl⟩
  have he : s.toList.isEmpty = false := by
    rw [ByteArray.toList_eq, List.isEmpty_eq_false_iff]
    intro h
    have := congrArg List.length h
    simp at this
    exact h1 (by simp [ByteArray.size, this])
  by_cases h2 : 40 < s.size
  · have hb : Hid (nameB s = false) := by simp [Hid, nameB, wordOkB]; omega
    go_enter Tryz.func48, Tryz.ntmps48
    go_wp2
    go_ret
    exact ⟨ret_bool hb.out.symm, rfl⟩
  have h0 : 0 < s.size := by omega
  have hh := head_at s h0
  cases hl : letterB s[0].toNat
  · have hb : Hid (nameB s = false) := by unfold Hid nameB wordOkB; rw [hh, hl]; simp
    clear hh
    go_enter Tryz.func48, Tryz.ntmps48
    go_wp2_with (go_at_call 62; refine (impl_letter _ _).mono ?_; rintro e w' ⟨rfl, rfl⟩)
    go_ret
    exact ⟨ret_bool hb.out.symm, rfl⟩
  · have hb : Hid (wordOkB s = decide (wlen s.data.toList = s.size)) := by
      have : 1 ≤ s.size ∧ s.size ≤ 40 := by omega
      unfold Hid wordOkB; rw [hh, hl]; simp [this]
    clear hh h1
    generalize hn : wlen s.data.toList = n at hb
    have HN : Hid (wlen s.data.toList = n) := hn
    clear hn
    by_cases hW : n = s.size
    · subst hW
      have hb2 : Hid (nameB s = !hasB kwWords s) := by simp [Hid, nameB, hb.out]
      go_enter Tryz.func48, Tryz.ntmps48
      go_wp2_with (first | (go_at_call 62; refine (impl_letter _ _).mono ?_; rintro e w' ⟨rfl, rfl⟩) | (go_at_call 63; refine (impl_wlen _ _ HS.out).mono ?_; rw [HN.out]; rintro e w' ⟨rfl, rfl⟩) | (go_at_call 64; refine (taken_any _ _ HR.out).mono ?_; rintro e w' ⟨rfl, rfl⟩))
      go_ret
      exact ⟨ret_bool hb2.out.symm, rfl⟩
    · have hb2 : Hid (nameB s = false) := by simp [Hid, nameB, hb.out, hW]
      have hne : ((n : Int) == (s.size : Int)) = false := by simp; omega
      go_enter Tryz.func48, Tryz.ntmps48
      go_wp2_with (first | (go_at_call 62; refine (impl_letter _ _).mono ?_; rintro e w' ⟨rfl, rfl⟩) | (go_at_call 63; refine (impl_wlen _ _ HS.out).mono ?_; rw [HN.out]; rintro e w' ⟨rfl, rfl⟩) | (go_at_call 64; refine (taken_any _ _ HR.out).mono ?_; rintro e w' ⟨rfl, rfl⟩))
      go_ret
      exact ⟨ret_bool hb2.out.symm, rfl⟩
end Go.Proofs.YtacamenjijlemaaGreatDoor

/- Trees, as memory holds them: a node is four cells, its kids a row of nodes behind a slice. Kids beyond 'len' are nothing. -/
namespace Go.Proofs.YtacamenjijlemaaGreatDoor
open Go.RowKit Go.ChangeShapes Go.WideShapes

inductive Nd where
  | nil
  | mk (k n : Int) (s : ByteArray) (len : Nat) (kids : Nat → Nd)

namespace Nd
def kind : Nd → Int | .nil => 0 | .mk k _ _ _ _ => k
def num : Nd → Int | .nil => 0 | .mk _ n _ _ _ => n
def name : Nd → ByteArray | .nil => ⟨#[]⟩ | .mk _ _ s _ _ => s
def len : Nd → Nat | .nil => 0 | .mk _ _ _ l _ => l
def kids : Nd → Nat → Nd | .nil => fun _ => .nil | .mk _ _ _ _ f => f
end Nd

def sumTo (f : Nat → Nat) : Nat → Nat
  | 0 => 0
  | n + 1 => sumTo f n + f n
theorem sumTo_le (f : Nat → Nat) {a b : Nat} (h : a ≤ b) : sumTo f a ≤ sumTo f b := by
  induction h with
  | refl => exact Nat.le_refl _
  | step _ ih => exact Nat.le_trans ih (by simp [sumTo])
theorem sumTo_at (f : Nat → Nat) {a b : Nat} (h : a < b) : sumTo f a + f a ≤ sumTo f b := sumTo_le f (show a + 1 ≤ b from h)

/-- What the laws' budget counts of a tree. -/
def Nd.cost : Nd → Nat | .nil => 0 | .mk _ _ s len kids => s.size + (len + sumTo (fun i => (kids i).cost) len)
/-- How many nodes. -/
def Nd.size : Nd → Nat | .nil => 1 | .mk _ _ _ len kids => 1 + sumTo (fun i => (kids i).size) len
/-- Numbers and lengths that the machine has. -/
def Nd.Fine : Nd → Prop | .nil => True | .mk k n s len kids => (-9223372036854775808 ≤ k ∧ k ≤ 9223372036854775807) ∧ (-9223372036854775808 ≤ n ∧ n ≤ 9223372036854775807) ∧ s.size ≤ 9223372036854775807 ∧ len ≤ 9223372036854775807 ∧ ∀ i, i < len → (kids i).Fine

theorem Nd.cost_eq (T : Nd) : T.cost = T.name.size + (T.len + sumTo (fun i => (T.kids i).cost) T.len) := by cases T <;> rfl
theorem Nd.size_eq (T : Nd) : T.size = 1 + sumTo (fun i => (T.kids i).size) T.len := by cases T <;> rfl
theorem Nd.cost_kid (T : Nd) {i : Nat} (h : i < T.len) : (T.kids i).cost ≤ T.cost := by
  rw [T.cost_eq]; have := sumTo_at (fun i => (T.kids i).cost) h; omega
theorem sumTo_size {f g : Nat → Nat} {n : Nat} (h : ∀ i, i < n → f i ≤ 1 + g i) : sumTo f n ≤ n + sumTo g n := by
  induction n with
  | zero => simp [sumTo]
  | succ n ih => have := ih fun i hi => h i (by omega); have := h n (by omega); simp [sumTo]; omega
theorem Nd.size_cost (T : Nd) : T.size ≤ 1 + T.cost := by
  induction T with
  | nil => simp [Nd.size]
  | mk k n s len kids ih =>
    have := sumTo_size (f := fun i => (kids i).size) (g := fun i => (kids i).cost) (n := len) fun i _ => ih i
    simp only [Nd.size, Nd.cost]; omega
theorem Nd.fine_kid {T : Nd} (h : T.Fine) {i : Nat} (hi : i < T.len) : (T.kids i).Fine := by cases T; exact absurd hi (Nat.not_lt_zero _); exact h.2.2.2.2 i hi
theorem Nd.fine_len {T : Nd} (h : T.Fine) : T.len ≤ 9223372036854775807 := by cases T; exact Nat.zero_le _; exact h.2.2.2.1
theorem Nd.fine_name {T : Nd} (h : T.Fine) : T.name.size ≤ 9223372036854775807 := by cases T; exact Nat.zero_le _; exact h.2.2.1

/-- THE KIDS OF A TREE, behind a slice: blocks from 'lo' on, ahead of 'hi'. -/
def Row (lo hi : Nat) (w : World) : Nd → Value → Prop
  | .nil, v => ∃ a cap, v = .slice a 0 cap ∧ (0 ≤ cap ∧ cap ≤ 9223372036854775807)
  | .mk _ _ _ len kids, v => ∃ a cap, v = .slice a len cap ∧ (len ≤ cap ∧ cap ≤ 9223372036854775807) ∧ (len = 0 ∨ ∃ g off, a = some ⟨g, off, none⟩ ∧ lo ≤ g ∧ g < hi ∧ ∀ i, i < len →
      ∃ u, w.cell? ⟨g, off + i * 4, none⟩ = some (.int .i64 (kids i).kind) ∧ w.cell? ⟨g, off + i * 4 + 1, none⟩ = some (.int .i64 (kids i).num) ∧
        w.cell? ⟨g, off + i * 4 + 2, none⟩ = some (.string (kids i).name) ∧ w.cell? ⟨g, off + i * 4 + 3, none⟩ = some u ∧ Row lo hi w (kids i) u)

theorem row_eq {lo hi : Nat} {w : World} {T : Nd} {v : Value} : Row lo hi w T v ↔ ∃ a cap, v = .slice a T.len cap ∧ (T.len ≤ cap ∧ cap ≤ 9223372036854775807) ∧ (T.len = 0 ∨ ∃ g off, a = some ⟨g, off, none⟩ ∧ lo ≤ g ∧ g < hi ∧ ∀ i, i < T.len →
      ∃ u, w.cell? ⟨g, off + i * 4, none⟩ = some (.int .i64 (T.kids i).kind) ∧ w.cell? ⟨g, off + i * 4 + 1, none⟩ = some (.int .i64 (T.kids i).num) ∧
        w.cell? ⟨g, off + i * 4 + 2, none⟩ = some (.string (T.kids i).name) ∧ w.cell? ⟨g, off + i * 4 + 3, none⟩ = some u ∧ Row lo hi w (T.kids i) u) := by
  cases T with
  | nil => exact ⟨fun ⟨a, cap, h, hc⟩ => ⟨a, cap, h, hc, .inl rfl⟩, fun ⟨a, cap, h, hc, _⟩ => ⟨a, cap, h, hc⟩⟩
  | mk => exact Iff.rfl

/-- It lies there still where its blocks are as they were; bounds may widen. -/
theorem row_keep {lo hi lo' hi' : Nat} {w w' : World} (hlo : lo' ≤ lo) (hhi : hi ≤ hi') (hc : ∀ g o, lo ≤ g → g < hi → w'.cell? ⟨g, o, none⟩ = w.cell? ⟨g, o, none⟩) :
    ∀ {T : Nd} {v : Value}, Row lo hi w T v → Row lo' hi' w' T v := by
  intro T
  induction T with
  | nil => exact fun h => h
  | mk k n s len kids ih =>
    rintro v ⟨a, cap, rfl, hcap, h⟩
    refine ⟨a, cap, rfl, hcap, ?_⟩
    rcases h with h | ⟨g, off, rfl, h1, h2, h3⟩
    · exact .inl h
    · refine .inr ⟨g, off, rfl, by omega, by omega, fun i hi => ?_⟩
      obtain ⟨u, e0, e1, e2, e3, hr⟩ := h3 i hi
      exact ⟨u, by rw [hc _ _ h1 h2]; exact e0, by rw [hc _ _ h1 h2]; exact e1, by rw [hc _ _ h1 h2]; exact e2, by rw [hc _ _ h1 h2]; exact e3, ih i hr⟩
theorem row_below {lo hi : Nat} {w w' : World} {B : Nat} (hb : Below B w w') (hB : hi ≤ B) {T : Nd} {v : Value} (h : Row lo hi w T v) : Row lo hi w' T v :=
  row_keep (Nat.le_refl _) (Nat.le_refl _) (fun g o _ h2 => hb.cell (p := ⟨g, o, none⟩) (by show g < B; omega)) h
theorem row_wide {lo hi lo' hi' : Nat} {w : World} {T : Nd} {v : Value} (h : Row lo hi w T v) (hlo : lo' ≤ lo) (hhi : hi ≤ hi') : Row lo' hi' w T v := row_keep hlo hhi (fun _ _ _ _ => rfl) h

theorem row_drew {lo hi : Nat} {w : World} {T : Nd} {v : Value} (h : Row lo hi w T v) : Row lo hi w.drew T v := row_keep (w := w) (w' := w.drew) (Nat.le_refl _) (Nat.le_refl _) (fun _ _ _ _ => rfl) h
theorem hid_mk {p : Prop} (h : p) : Hid p := h
theorem ret_in {k : IntKind} {a b : Int} (h : a = b) : Ending.returned (.int k a) = .returned (.int k b) := by rw [h]
/-- A node as a value. -/
def Nd.val (T : Nd) (v : Value) : Value := .agg #[.int .i64 T.kind, .int .i64 T.num, .string T.name, v]
end Go.Proofs.YtacamenjijlemaaGreatDoor

/- A tree that came in, read as data, lies in memory as 'Row' says. -/
namespace Go.Proofs.YtacamenjijlemaaGreatDoor
open Go.RowKit Go.ChangeShapes Go.WideShapes

theorem add_none {a : Addr} {g off : Nat} (h : a = ⟨g, off, none⟩) (n : Nat) : a.add n = ⟨g, off + n, none⟩ := by
  subst h; unfold Addr.add; split
  · rename_i h; subst h; rfl
  · rfl
theorem spot_none {w : World} {a : Addr} {v : Value} (h : w.cell? a = some v) : a = ⟨a.block, a.off, none⟩ := by
  cases a with
  | mk g off spot =>
    cases spot with
    | none => rfl
    | some k =>
      unfold World.cell? at h
      split at h
      · simp at h
      · cases h
theorem cell_lt {w : World} {a : Addr} {v : Value} (h : w.cell? a = some v) : a.block < w.heap.size := by
  unfold World.cell? at h
  split at h
  · rename_i c _ _ hh; exact (Array.getElem?_eq_some_iff.1 hh).1
  · cases h

theorem open_nd {H : Type} {enc : TypeId × Value → H} {P : Program} {W : World} {sp : Nat → Bool} {held : Bool} {t : TypeId} {f0 f1 f2 f3 : Field} (ht : P.underlying t = some (.struct #[f0, f1, f2, f3]))
    (o0 : f0.offset = 0) (o1 : f1.offset = 1) (o2 : f2.offset = 2) (o3 : f3.offset = 3)
    (i0 : P.underlying f0.type = some (.int .i64)) (i1 : P.underlying f1.type = some (.int .i64)) (i2 : P.underlying f2.type = some .string) (i3 : P.underlying f3.type = some (.slice t))
    (c0 : P.cellsOf f0.type = 1) (c1 : P.cellsOf f1.type = 1) (c2 : P.cellsOf f2.type = 1) (c3 : P.cellsOf f3.type = 1) (ct : P.cellsOf t = 4) :
    ∀ (fuel : Nat) (cs : List Value) (x : DataW H × List MemPlace), DataW.trod enc P W 0 sp held fuel t cs = some x →
      ∃ (T : Nd) (v : Value), cs = [.int .i64 T.kind, .int .i64 T.num, .string T.name, v] ∧ T.Fine ∧ Row 0 W.heap.size W T v := by
  intro fuel
  induction fuel using Nat.strongRecOn with
  | ind fuel ih =>
  intro cs x h
  obtain ⟨xs, n, rfl, _, hl, hxl, hx⟩ := DataW.trod_struct ht h
  rw [ct] at hl
  obtain ⟨a, b, c, d, rfl⟩ : ∃ a b c d, cs = [a, b, c, d] := by
    match cs, hl with
    | [a, b, c, d], _ => exact ⟨a, b, c, d, rfl⟩
  obtain ⟨y0, y1, y2, y3, rfl⟩ : ∃ a b c d, xs = [a, b, c, d] := by
    match xs, hxl with
    | [a, b, c, d], _ => exact ⟨a, b, c, d, rfl⟩
  have h0 := hx 0 f0 rfl
  have h1 := hx 1 f1 rfl
  have h2 := hx 2 f2 rfl
  have h3 := hx 3 f3 rfl
  rw [o0, c0] at h0
  rw [o1, c1] at h1
  rw [o2, c2] at h2
  rw [o3, c3] at h3
  obtain ⟨k, e0, _, w0⟩ := DataW.trod_int i0 h0
  obtain ⟨m, e1, _, w1⟩ := DataW.trod_int i1 h1
  obtain ⟨s, e2, _, w2⟩ := DataW.trod_string i2 h2
  obtain rfl : a = .int .i64 k := by simpa using e0
  obtain rfl : b = .int .i64 m := by simpa using e1
  obtain rfl : c = .string s := by simpa using e2
  have wk : -9223372036854775808 ≤ k ∧ k ≤ 9223372036854775807 := by simpa [Lit.wf, IntKind.min, IntKind.max, IntKind.signed, IntKind.bits] using w0
  have wm : -9223372036854775808 ≤ m ∧ m ≤ 9223372036854775807 := by simpa [Lit.wf, IntKind.min, IntKind.max, IntKind.signed, IntKind.bits] using w1
  unfold maxLen at w2
  rcases DataW.trod_slice i3 h3 with ⟨e3, _⟩ | ⟨ad, len, cap, elems, rest, q, hq, e3, _, _, hlc, hcm, hel, hat, _, _⟩
  · obtain rfl : d = .slice none 0 0 := by simpa using e3
    exact ⟨.mk k m s 0 (fun _ => .nil), .slice none 0 0, rfl, ⟨wk, wm, w2, Nat.zero_le _, fun i hi => absurd hi (Nat.not_lt_zero _)⟩, none, 0, rfl, ⟨Nat.le_refl _, Nat.zero_le _⟩, .inl rfl⟩
  · obtain rfl : d = .slice (some ad) len cap := by simpa using e3
    unfold maxLen at hcm
    have hk : ∀ i, i < len → ∃ K : Nd, ∃ v, W.cells? 0 (ad.add (i * 4)) 4 = some [.int .i64 K.kind, .int .i64 K.num, .string K.name, v] ∧ K.Fine ∧ Row 0 W.heap.size W K v := by
      intro i hi
      have := hat i hi
      rw [ct, List.getElem?_eq_getElem (by omega : i < elems.length), Option.bind_eq_some_iff] at this
      obtain ⟨cs', hcs, htr⟩ := this
      obtain ⟨K, v, rfl, hf, hr⟩ := ih q (by omega) cs' _ htr
      exact ⟨K, v, hcs, hf, hr⟩
    have hin : Inhabited Nd := ⟨.nil⟩
    obtain ⟨f, hf⟩ := Go.Deep.choose_lt hk
    refine ⟨.mk k m s len f, .slice (some ad) len cap, rfl, ⟨wk, wm, w2, by show len ≤ _; omega, fun i hi => (hf i hi).choose_spec.2.1⟩, some ad, cap, rfl, ⟨hlc, hcm⟩, ?_⟩
    by_cases h0 : len = 0
    · exact .inl h0
    · refine .inr ⟨ad.block, ad.off, ?_, Nat.zero_le _, ?_, fun i hi => ?_⟩
      · obtain ⟨v, hc, _⟩ := hf 0 (by omega)
        have := (World.cells?_some hc).2.2 0 (by omega)
        have e : (ad.add (0 * 4)).add 0 = ad := by simp [Addr.add]
        rw [e] at this
        rw [← spot_none this]
      · obtain ⟨v, hc, _⟩ := hf 0 (by omega)
        have := (World.cells?_some hc).2.2 0 (by omega)
        have e : (ad.add (0 * 4)).add 0 = ad := by simp [Addr.add]
        rw [e] at this
        exact cell_lt this
      · have had : ad = ⟨ad.block, ad.off, none⟩ := by
          obtain ⟨v, hc, _⟩ := hf 0 (by omega)
          have := (World.cells?_some hc).2.2 0 (by omega)
          have e : (ad.add (0 * 4)).add 0 = ad := by simp [Addr.add]
          rw [e] at this
          exact spot_none this
        obtain ⟨v, hc, _, hr⟩ := hf i hi
        have hcc := (World.cells?_some hc).2.2
        have e : ∀ j, (ad.add (i * 4)).add j = ⟨ad.block, ad.off + i * 4 + j, none⟩ := fun j => by rw [add_none (add_none had (i * 4)) j]
        have g0 := hcc 0 (by omega)
        have g1 := hcc 1 (by omega)
        have g2 := hcc 2 (by omega)
        have g3 := hcc 3 (by omega)
        rw [e] at g0 g1 g2 g3
        exact ⟨v, g0, g1, g2, g3, hr⟩
end Go.Proofs.YtacamenjijlemaaGreatDoor

/- What is left of a budget. -/
namespace Go.Proofs.YtacamenjijlemaaGreatDoor
open Go.RowKit

def left' (c left : Nat) : Int := if c ≤ left then ((left - c : Nat) : Int) else -1
theorem left_neg {c l : Nat} (h : left' c l < 0) : l < c := by unfold left' at h; split at h <;> omega
theorem left_pos {c l : Nat} (h : 0 ≤ left' c l) : c ≤ l ∧ left' c l = ((l - c : Nat) : Int) := by
  unfold left' at h ⊢
  split at h
  · rename_i hc; exact ⟨hc, by rw [if_pos hc]⟩
  · omega
end Go.Proofs.YtacamenjijlemaaGreatDoor

/- The laws' budget over a tree. -/
namespace Go.Proofs.YtacamenjijlemaaGreatDoor
open Go.RowKit

def SzC (T : Nd) : Prop := ∀ (w : World) (left hi : Nat) (v : Value), T.Fine → hi ≤ w.heap.size → Row 0 hi w T v → left ≤ 1048576 →
  Calls Tryz.prog 4 #[T.val v, .int .i64 left] w fun e w' => e = .returned (.int .i64 (left' T.cost left)) ∧ Below w.heap.size w w'
def SzS (T : Nd) : Prop := ∀ (w : World) (left hi : Nat) (v : Value), T.Fine → hi ≤ w.heap.size → Row 0 hi w T v → left ≤ 1048576 →
  Calls Tryz.prog 9 #[v, .int .i64 left] w fun e w' => e = .returned (.int .i64 (left' (T.len + sumTo (fun i => (T.kids i).cost) T.len) left)) ∧ Below w.heap.size w w'

set_option maxHeartbeats 1000000 in
theorem sz_of (T : Nd) (h : SzS T) : SzC T := by
  intro w left hi v hf hhi hr hl
  have hs := T.fine_name hf
  have HC : Hid (T.cost = T.name.size + (T.len + sumTo (fun i => (T.kids i).cost) T.len)) := T.cost_eq
  have HS := (show Hid (SzS T) from h)
  have HR := (show Hid (Row 0 hi w T v) from hr)
  have HF := (show Hid T.Fine from hf)
  clear hr h hf
  unfold Nd.val
  generalize T.kind = tk
  generalize T.num = tn
  go_enter Tryz.func4, Tryz.ntmps4
  by_cases hc : T.name.size ≤ left
  · have hlc : ((left - T.name.size : Nat) : Int) = (left : Int) - T.name.size := by omega
    have HX : Hid (left' T.cost left = left' (T.len + sumTo (fun i => (T.kids i).cost) T.len) (left - T.name.size)) := by
      unfold Hid left'; rw [HC.out]; split <;> split <;> omega
    generalize hg : T.len + sumTo (fun i => (T.kids i).cost) T.len = c at *
    go_wp2_with (go_at_call 9; rw [← hlc]; refine (HS.out _ (left - T.name.size) hi _ HF.out (by simp; omega) (row_below ((Below.refl _ _).alloc (Nat.le_refl _) _) hhi HR.out) (by omega)).mono ?_; rintro e w1 ⟨rfl, hb1⟩; rw [hg])
    · go_ret
      have hm : ∀ c l, left' c l < 0 → left' c l = -1 := fun c l h => by unfold left' at h ⊢; split at h <;> omega
      exact ⟨ret_in (by rw [HX.out, hm _ _ (by assumption)]), ((Below.refl _ _).alloc (Nat.le_refl _) _).trans (hb1.mono (by simp))⟩
    · go_ret
      exact ⟨ret_in HX.out.symm, ((Below.refl _ _).alloc (Nat.le_refl _) _).trans (hb1.mono (by simp))⟩
  · have HX : Hid (left' T.cost left = -1) := by
      unfold Hid left'; rw [HC.out, if_neg (by omega)]
    go_wp2
    go_ret
    exact ⟨ret_in HX.out.symm, (Below.refl _ _).alloc (Nat.le_refl _) _⟩

set_option maxHeartbeats 2000000 in
theorem szS_of (T : Nd) (ih : ∀ i, i < T.len → SzC (T.kids i)) : SzS T := by
  intro w left hi v hf hhi hr hl
  have hn := T.fine_len hf
  obtain ⟨a, cap, rfl, hcap, hq⟩ := row_eq.1 hr
  clear hcap
  have hq := hid_mk hq
  have HI := (show Hid (∀ i, i < T.len → SzC (T.kids i)) from ih)
  have HF := (show Hid T.Fine from hf)
  have HR := hq
  clear hr hf ih hq
  have hst : ∀ j, j < T.len → sumTo (fun i => (T.kids i).cost) j + (T.kids j).cost ≤ sumTo (fun i => (T.kids i).cost) T.len := fun j hj => sumTo_at _ hj
  have hss : ∀ j, sumTo (fun i => (T.kids i).cost) (j + 1) = sumTo (fun i => (T.kids i).cost) j + (T.kids j).cost := fun j => rfl
  have h00 : sumTo (fun i => (T.kids i).cost) 0 = 0 := rfl
  generalize sumTo (fun i => (T.kids i).cost) = S at *
  have HST := (show Hid (∀ j, j < T.len → S j + (T.kids j).cost ≤ S T.len) from hst)
  have HSS := (show Hid (∀ j, S (j + 1) = S j + (T.kids j).cost) from hss)
  clear hst hss
  go_enter Tryz.func9, Tryz.ntmps9
  by_cases hc : T.len ≤ left
  · go_wp2
    go_loopw [1, 5] (fun l i wr => ∃ (j k : Nat), j ≤ T.len ∧ i = .int .i64 j ∧ l = .int .i64 k ∧ k + (T.len + S j) = left ∧ Below w.heap.size w wr) (fun _ i _ => T.len - (intOf i).toNat)
    case atStart => exact ⟨0, left - T.len, by omega, rfl, by congr 1; omega, by omega, Below.refl _ _⟩
    case round =>
      obtain ⟨j, k, hj, rfl, rfl, hk, hb⟩ := hrel
      by_cases hlt : j < T.len
      · rcases HR.out with h0 | ⟨g, off, rfl, h1, h2, h3⟩
        · omega
        obtain ⟨u, e0, e1, e2, e3, hu⟩ := h3 j hlt
        have hgl : g < w.heap.size := by omega
        rw [← hb.cell (p := ⟨g, _, none⟩) hgl] at e0 e1 e2 e3
        have HU := (show Hid (Row 0 hi wr (T.kids j) u) from row_below hb hhi hu)
        have hbz := hb.size
        have h1' := HST.out j hlt
        have h2' := HSS.out j
        have HC := HI.out j hlt
        have HFJ := (show Hid (T.kids j).Fine from Nd.fine_kid HF.out hlt)
        unfold SzC Nd.val at HC
        have HCC := (show Hid _ from HC)
        clear h3 HC hu
        generalize T.kids j = K at *
        go_wp2_with (go_at_call 4; refine (HCC.out _ k hi _ HFJ.out (by omega) HU.out (by omega)).mono ?_; rintro e w1 ⟨rfl, hb1⟩)
        · go_ret
          have hx := left_neg (by assumption)
          exact ⟨ret_in (by unfold left'; rw [if_neg (by omega)]), hb.trans (hb1.mono (by omega))⟩
        · obtain ⟨hx, hy⟩ := left_pos (by assumption)
          exact ⟨⟨j + 1, k - K.cost, by omega, by go_num, by rw [hy], by omega, hb.trans (hb1.mono (by omega))⟩, by simp [intOf]; omega⟩
      · go_wp2
        go_ret
        obtain rfl : j = T.len := by omega
        exact ⟨ret_in (by unfold left'; rw [if_pos (by omega)]; omega), hb⟩
  · have HX : Hid (left' (T.len + S T.len) left = -1) := by
      unfold Hid left'; rw [if_neg (by omega)]
    go_wp2
    go_ret
    exact ⟨ret_in HX.out.symm, Below.refl _ _⟩

theorem sz_node (T : Nd) : SzC T := by
  induction T with
  | nil => exact sz_of _ (szS_of _ fun i hi => absurd hi (Nat.not_lt_zero i))
  | mk k n s len kids ih => exact sz_of _ (szS_of _ fun i _ => ih i)
end Go.Proofs.YtacamenjijlemaaGreatDoor

/- The laws' comparison of two copies of one tree. -/
namespace Go.Proofs.YtacamenjijlemaaGreatDoor
open Go.RowKit

def EqC (T : Nd) : Prop := ∀ (w : World) (u v : Value), T.Fine → Row 0 w.heap.size w T u → Row 0 w.heap.size w T v →
  Calls Tryz.prog 8 #[T.val u, T.val v] w fun e w' => e = .returned (.bool true) ∧ Below w.heap.size w w'
def EqS (T : Nd) : Prop := ∀ (w : World) (u v : Value) (hi : Nat), T.Fine → hi ≤ w.heap.size → Row 0 hi w T u → Row 0 hi w T v →
  Calls Tryz.prog 16 #[u, v] w fun e w' => e = .returned (.bool true) ∧ Below w.heap.size w w'

set_option maxHeartbeats 1000000 in
theorem eqN_of (T : Nd) (h : EqS T) : EqC T := by
  intro w u v hf hr hr'
  have HS := (show Hid (EqS T) from h)
  have HR := hid_mk hr
  have HR' := hid_mk hr'
  have HF := hid_mk hf
  clear hr hr' h hf
  unfold Nd.val
  generalize T.kind = tk
  generalize T.num = tn
  generalize T.name = ts
  go_enter Tryz.func8, Tryz.ntmps8
  have HB : ∀ a b : Obj, Hid (Below w.heap.size w ((w.alloc a).alloc b)) := fun a b => ((Below.refl _ _).alloc (Nat.le_refl _) _).alloc (by simp) _
  go_wp2_with (go_at_call 16; refine (HS.out _ _ _ w.heap.size HF.out (by simp; omega) (row_below (HB _ _).out (Nat.le_refl _) HR.out) (row_below (HB _ _).out (Nat.le_refl _) HR'.out)).mono ?_; rintro e w1 ⟨rfl, hb1⟩)
  go_ret
  exact ⟨rfl, (HB _ _).out.trans (hb1.mono (by simp; omega))⟩

set_option maxHeartbeats 2000000 in
theorem eqS_of (T : Nd) (ih : ∀ i, i < T.len → EqC (T.kids i)) : EqS T := by
  intro w u v hi hf hhi hr hr'
  have hn := T.fine_len hf
  obtain ⟨a, ca, rfl, hcap, hq⟩ := row_eq.1 hr
  clear hcap
  obtain ⟨b, cb, rfl, hcap, hq'⟩ := row_eq.1 hr'
  clear hcap
  have HI := hid_mk ih
  have HF := hid_mk hf
  have HR := hid_mk hq
  have HR' := hid_mk hq'
  clear hr hr' hf ih hq hq'
  go_enter Tryz.func16, Tryz.ntmps16
  go_wp2
  go_loopw [5] (fun i wr => ∃ j : Nat, j ≤ T.len ∧ i = .int .i64 j ∧ Below w.heap.size w wr) (fun i _ => T.len - (intOf i).toNat)
  case atStart => exact ⟨0, by omega, rfl, Below.refl _ _⟩
  case round =>
    obtain ⟨j, hj, rfl, hb⟩ := hrel
    by_cases hlt : j < T.len
    · rcases HR.out with h0 | ⟨g, off, rfl, h1, h2, h3⟩
      · omega
      rcases HR'.out with h0 | ⟨g', off', rfl, h1', h2', h3'⟩
      · omega
      obtain ⟨x, e0, e1, e2, e3, hx⟩ := h3 j hlt
      obtain ⟨y, f0, f1, f2, f3, hy⟩ := h3' j hlt
      have hgl : g < w.heap.size := by omega
      have hgl' : g' < w.heap.size := by omega
      rw [← hb.cell (p := ⟨g, _, none⟩) hgl] at e0 e1 e2 e3
      rw [← hb.cell (p := ⟨g', _, none⟩) hgl'] at f0 f1 f2 f3
      have hbz := hb.size
      have HX := hid_mk (row_wide (row_below hb hhi hx) (Nat.le_refl 0) (show hi ≤ wr.heap.size by omega))
      have HY := hid_mk (row_wide (row_below hb hhi hy) (Nat.le_refl 0) (show hi ≤ wr.heap.size by omega))
      have HC := HI.out j hlt
      have HFJ := hid_mk (Nd.fine_kid HF.out hlt)
      unfold EqC Nd.val at HC
      have HCC := hid_mk HC
      clear h3 h3' HC hx hy
      generalize T.kids j = K at *
      generalize K.kind = kk at *
      generalize K.num = kn at *
      generalize K.name = ks at *
      go_wp2_with fail
      go_region_with (go_at_call 8; (refine (HCC.out _ _ _ HFJ.out ?_ ?_).mono ?_; exact row_drew HX.out; exact row_drew HY.out; rintro e w1 ⟨rfl, hb1⟩))
      all_goals go_wp2
      all_goals exact ⟨⟨j + 1, by omega, by go_num, hb.drew.trans (hb1.mono hb.size)⟩, by simp [intOf]; omega⟩
    · go_wp2
      go_ret
      exact ⟨rfl, hb⟩

theorem eq_node (T : Nd) : EqC T := by
  induction T with
  | nil => exact eqN_of _ (eqS_of _ fun i hi => absurd hi (Nat.not_lt_zero i))
  | mk k n s len kids ih => exact eqN_of _ (eqS_of _ fun i _ => ih i)
end Go.Proofs.YtacamenjijlemaaGreatDoor

/- The laws' copy of a tree that came in. -/
namespace Go.Proofs.YtacamenjijlemaaGreatDoor
open Go.RowKit

/-- From this block on nothing is frozen. -/
def Warm (lo : Nat) (w : World) : Prop := ∀ g o, lo ≤ g → w.frozen? ⟨g, o, none⟩ = false
theorem Warm.start (w : World) : Warm w.heap.size w := fun g o h => by simp [World.frozen?, Array.getElem?_eq_none h]
theorem Warm.mono {lo hi : Nat} {w : World} (h : Warm lo w) (hl : lo ≤ hi) : Warm hi w := fun g o hg => h g o (Nat.le_trans hl hg)
theorem Warm.alloc {lo : Nat} {w : World} (h : Warm lo w) (cs : Array Value) (t : TypeId) : Warm lo (w.alloc (.cells cs t)) := by
  intro g o hg
  by_cases e : g = w.heap.size
  · subst e; exact frozen_of_row _ _ _ _ _ (heap_alloc_new w _)
  · rw [World.frozen?_alloc_old _ _ ⟨g, o, none⟩ e]; exact h g o hg
theorem Warm.setCell {lo : Nat} {w : World} (h : Warm lo w) (p : Addr) (v : Value) : Warm lo (w.setCell p v) := fun g o hg => by simpa [go_sem] using h g o hg
theorem Warm.later {lo : Nat} {w w1 : World} (h : Warm lo w) (hb : Below w.heap.size w w1) (h1 : Warm w.heap.size w1) : Warm lo w1 := by
  intro g o hg
  by_cases e : g < w.heap.size
  · rw [hb.frozen (p := ⟨g, o, none⟩) e]; exact h g o hg
  · exact h1 g o (by omega)
def ToCW (T : Nd) : Prop := ∀ (w : World) (v : Value) (hi : Nat), T.Fine → hi ≤ w.heap.size → Row 0 hi w T v → T.cost ≤ 1048576 →
  Calls Tryz.prog 6 #[T.val v] w fun e w' => ∃ u, e = .returned (T.val u) ∧ Row w.heap.size w'.heap.size w' T u ∧ Below w.heap.size w w' ∧ Warm w.heap.size w'
def ToC (T : Nd) : Prop := ∀ (w : World) (v : Value) (hi : Nat), T.Fine → hi ≤ w.heap.size → Row 0 hi w T v → T.cost ≤ 1048576 →
  Calls Tryz.prog 6 #[T.val v] w fun e w' => ∃ u, e = .returned (T.val u) ∧ Row w.heap.size w'.heap.size w' T u ∧ Below w.heap.size w w'
def ToS (T : Nd) : Prop := ∀ (w : World) (v : Value) (hi : Nat), T.Fine → hi ≤ w.heap.size → Row 0 hi w T v → T.cost ≤ 1048576 →
  Calls Tryz.prog 12 #[v] w fun e w' => ∃ u, e = .returned u ∧ Row w.heap.size w'.heap.size w' T u ∧ Below w.heap.size w w' ∧ Warm w.heap.size w'

/-- The row that is being filled: j of its elements stand. -/
structure Fill (T : Nd) (w : World) (j : Nat) (wr : World) : Prop where
  below : Below w.heap.size w wr
  lt : w.heap.size < wr.heap.size
  there : ∀ o, o < T.len * 4 → ∃ x, wr.cell? ⟨w.heap.size, o, none⟩ = some x
  warmA : Warm w.heap.size wr
  kids : ∀ i, i < j → ∃ u, wr.cell? ⟨w.heap.size, i * 4, none⟩ = some (.int .i64 (T.kids i).kind) ∧ wr.cell? ⟨w.heap.size, i * 4 + 1, none⟩ = some (.int .i64 (T.kids i).num) ∧
    wr.cell? ⟨w.heap.size, i * 4 + 2, none⟩ = some (.string (T.kids i).name) ∧ wr.cell? ⟨w.heap.size, i * 4 + 3, none⟩ = some u ∧ Row (w.heap.size + 1) wr.heap.size wr (T.kids i) u

theorem Fill.warm {T : Nd} {w : World} {j : Nat} {wr : World} (h : Fill T w j wr) (o : Nat) : wr.frozen? ⟨w.heap.size, o, none⟩ = false := h.warmA _ o (Nat.le_refl _)
theorem bcellT {W w1 : World} (hb : Below W.heap.size W w1) : (∀ b o, b < W.heap.size → w1.cell? ⟨b, o, none⟩ = W.cell? ⟨b, o, none⟩) ∧ (∀ b o, b < W.heap.size → w1.frozen? ⟨b, o, none⟩ = W.frozen? ⟨b, o, none⟩) :=
  ⟨fun b o h => hb.cell (p := ⟨b, o, none⟩) h, fun b o h => hb.frozen (p := ⟨b, o, none⟩) h⟩
theorem fill_start (T : Nd) (w : World) : Fill T w 0 (w.alloc (.cells (madeCells #[.int .i64 0, .int .i64 0, .string ⟨#[]⟩, .slice none 0 0] (T.len * 4)) 30)) := by
  refine ⟨(Below.refl _ _).alloc (Nat.le_refl _) _, by simp, fun o ho => ?_, (Warm.start w).alloc _ _, fun i hi => absurd hi (Nat.not_lt_zero _)⟩
  · refine ⟨(madeCells #[.int .i64 0, .int .i64 0, .string ⟨#[]⟩, .slice none 0 0] (T.len * 4))[o]'(by rw [size_madeCells]; exact ho), ?_⟩
    rw [cell_of_row _ _ _ _ _ (0, 0) (heap_alloc_new w _)]
    simp [size_madeCells, ho]
theorem row_shape {lo hi : Nat} {w : World} {T : Nd} {v : Value} (h : Row lo hi w T v) : ∃ a cap, v = .slice a T.len cap := by
  obtain ⟨a, cap, h, _⟩ := row_eq.1 h; exact ⟨a, cap, h⟩
theorem setCell_cell (W : World) (g o o' : Nat) (x : Value) (hx : ∃ y, W.cell? ⟨g, o, none⟩ = some y) : (W.setCell ⟨g, o, none⟩ x).cell? ⟨g, o', none⟩ = if o' = o then some x else W.cell? ⟨g, o', none⟩ := by
  obtain ⟨y, hy⟩ := hx
  split
  · rename_i h; subst h; exact World.cell?_setCell_same _ _ _ hy
  · rename_i h; exact World.cell?_setCell_other _ _ _ _ (fun e => h (by cases e; rfl))
/-- Four cells behind one another, stored. -/
theorem store4 (W : World) (g o : Nat) (a b c d : Value) (hx : ∀ k, k < 4 → ∃ y, W.cell? ⟨g, o + k, none⟩ = some y) :
    let V := (((W.setCell ⟨g, o, none⟩ a).setCell ⟨g, o + 1, none⟩ b).setCell ⟨g, o + 2, none⟩ c).setCell ⟨g, o + 3, none⟩ d
    V.cell? ⟨g, o, none⟩ = some a ∧ V.cell? ⟨g, o + 1, none⟩ = some b ∧ V.cell? ⟨g, o + 2, none⟩ = some c ∧ V.cell? ⟨g, o + 3, none⟩ = some d ∧ (∀ k, (k < o ∨ o + 4 ≤ k) → V.cell? ⟨g, k, none⟩ = W.cell? ⟨g, k, none⟩) ∧
      (∀ k, k ≠ g → V.heap[k]? = W.heap[k]?) ∧ V.heap.size = W.heap.size ∧ (∀ k, V.frozen? ⟨g, k, none⟩ = W.frozen? ⟨g, k, none⟩) := by
  intro V
  have s0 : ∃ y, W.cell? ⟨g, o, none⟩ = some y := hx 0 (by omega)
  have s1 : ∃ y, (W.setCell ⟨g, o, none⟩ a).cell? ⟨g, o + 1, none⟩ = some y := by rw [setCell_cell _ _ _ _ _ s0, if_neg (by omega)]; exact hx 1 (by omega)
  have s2 : ∃ y, ((W.setCell ⟨g, o, none⟩ a).setCell ⟨g, o + 1, none⟩ b).cell? ⟨g, o + 2, none⟩ = some y := by rw [setCell_cell _ _ _ _ _ s1, if_neg (by omega), setCell_cell _ _ _ _ _ s0, if_neg (by omega)]; exact hx 2 (by omega)
  have s3 : ∃ y, (((W.setCell ⟨g, o, none⟩ a).setCell ⟨g, o + 1, none⟩ b).setCell ⟨g, o + 2, none⟩ c).cell? ⟨g, o + 3, none⟩ = some y := by rw [setCell_cell _ _ _ _ _ s2, if_neg (by omega), setCell_cell _ _ _ _ _ s1, if_neg (by omega), setCell_cell _ _ _ _ _ s0, if_neg (by omega)]; exact hx 3 (by omega)
  have hV : ∀ k, V.cell? ⟨g, k, none⟩ = if k = o + 3 then some d else if k = o + 2 then some c else if k = o + 1 then some b else if k = o then some a else W.cell? ⟨g, k, none⟩ := fun k => by
    show ((((W.setCell ⟨g, o, none⟩ a).setCell ⟨g, o + 1, none⟩ b).setCell ⟨g, o + 2, none⟩ c).setCell ⟨g, o + 3, none⟩ d).cell? ⟨g, k, none⟩ = _
    rw [setCell_cell _ _ _ _ _ s3, setCell_cell _ _ _ _ _ s2, setCell_cell _ _ _ _ _ s1, setCell_cell _ _ _ _ _ s0]
  refine ⟨?_, ?_, ?_, ?_, fun k hk => ?_, fun k hk => ?_, by simp [V, World.setCell], fun k => by simp [V, go_sem]⟩
  · rw [hV, if_neg (by omega), if_neg (by omega), if_neg (by omega), if_pos rfl]
  · rw [hV, if_neg (by omega), if_neg (by omega), if_pos rfl]
  · rw [hV, if_neg (by omega), if_pos rfl]
  · rw [hV, if_pos rfl]
  · rw [hV, if_neg (by omega), if_neg (by omega), if_neg (by omega), if_neg (by omega)]
  · show ((((W.setCell ⟨g, o, none⟩ a).setCell ⟨g, o + 1, none⟩ b).setCell ⟨g, o + 2, none⟩ c).setCell ⟨g, o + 3, none⟩ d).heap[k]? = _
    rw [Below.heap_setCell _ _ _ _ hk, Below.heap_setCell _ _ _ _ hk, Below.heap_setCell _ _ _ _ hk, Below.heap_setCell _ _ _ _ hk]
theorem fill_step {T : Nd} {w wr w1 : World} {j : Nat} {u : Value} (h : Fill T w j wr) (hlt : j < T.len) (hb1 : Below wr.heap.size wr w1) (hw1 : Warm wr.heap.size w1) (hr : Row wr.heap.size w1.heap.size w1 (T.kids j) u) :
    Fill T w (j + 1) ((((w1.setCell ⟨w.heap.size, j * 4, none⟩ (.int .i64 (T.kids j).kind)).setCell ⟨w.heap.size, j * 4 + 1, none⟩ (.int .i64 (T.kids j).num)).setCell ⟨w.heap.size, j * 4 + 2, none⟩ (.string (T.kids j).name)).setCell ⟨w.heap.size, j * 4 + 3, none⟩ u) := by
  have hlt1 := h.lt
  have hsz := hb1.size
  have hc : ∀ o, w1.cell? ⟨w.heap.size, o, none⟩ = wr.cell? ⟨w.heap.size, o, none⟩ := fun o => (bcellT hb1).1 _ o hlt1
  obtain ⟨p0, p1, p2, p3, pk, po, ps, pf⟩ := store4 w1 w.heap.size (j * 4) (.int .i64 (T.kids j).kind) (.int .i64 (T.kids j).num) (.string (T.kids j).name) u (fun k hk => by rw [hc]; exact h.there _ (by omega))
  have hbV := (((((h.below.trans (hb1.mono (by omega))).setCell (p := ⟨w.heap.size, j * 4, none⟩) (Nat.le_refl _) (.int .i64 (T.kids j).kind)).setCell (p := ⟨w.heap.size, j * 4 + 1, none⟩) (Nat.le_refl _) (.int .i64 (T.kids j).num)).setCell (p := ⟨w.heap.size, j * 4 + 2, none⟩) (Nat.le_refl _) (.string (T.kids j).name)).setCell (p := ⟨w.heap.size, j * 4 + 3, none⟩) (Nat.le_refl _) u)
  have hwV : Warm w.heap.size ((((w1.setCell ⟨w.heap.size, j * 4, none⟩ (.int .i64 (T.kids j).kind)).setCell ⟨w.heap.size, j * 4 + 1, none⟩ (.int .i64 (T.kids j).num)).setCell ⟨w.heap.size, j * 4 + 2, none⟩ (.string (T.kids j).name)).setCell ⟨w.heap.size, j * 4 + 3, none⟩ u) := (((((h.warmA.later hb1 hw1).setCell _ _).setCell _ _).setCell _ _).setCell _ _)
  revert p0 p1 p2 p3 pk po ps pf hbV hwV
  generalize ((((w1.setCell ⟨w.heap.size, j * 4, none⟩ (.int .i64 (T.kids j).kind)).setCell ⟨w.heap.size, j * 4 + 1, none⟩ (.int .i64 (T.kids j).num)).setCell ⟨w.heap.size, j * 4 + 2, none⟩ (.string (T.kids j).name)).setCell ⟨w.heap.size, j * 4 + 3, none⟩ u) = V
  intro p0 p1 p2 p3 pk po ps pf hbV hwV
  have keep : ∀ {lo hi : Nat} {K : Nd} {v : Value}, w.heap.size < lo → hi ≤ w1.heap.size → Row lo hi w1 K v → Row (w.heap.size + 1) V.heap.size V K v := fun hlo hhi hr =>
    row_keep (by omega) (by omega) (fun g o h1 h2 => World.cell?_of_block (a := ⟨g, o, none⟩) (po g (by omega))) hr
  refine ⟨hbV, by omega, fun o ho => ?_, hwV, fun i hi => ?_⟩
  · by_cases hin : o < j * 4 ∨ j * 4 + 4 ≤ o
    · rw [pk o hin, hc]; exact h.there o ho
    · have : o = j * 4 ∨ o = j * 4 + 1 ∨ o = j * 4 + 2 ∨ o = j * 4 + 3 := by omega
      rcases this with rfl | rfl | rfl | rfl
      · exact ⟨_, p0⟩
      · exact ⟨_, p1⟩
      · exact ⟨_, p2⟩
      · exact ⟨_, p3⟩
  · by_cases hij : i = j
    · subst hij
      exact ⟨u, p0, p1, p2, p3, keep (by omega) (Nat.le_refl _) hr⟩
    · obtain ⟨x, e0, e1, e2, e3, hx⟩ := h.kids i (by omega)
      refine ⟨x, ?_, ?_, ?_, ?_, keep (by omega) hsz (row_keep (Nat.le_refl _) (Nat.le_refl _) (fun g o _ h2 => (bcellT hb1).1 g o h2) hx)⟩
      · rw [pk _ (by omega), hc]; exact e0
      · rw [pk _ (by omega), hc]; exact e1
      · rw [pk _ (by omega), hc]; exact e2
      · rw [pk _ (by omega), hc]; exact e3
theorem fill_done {T : Nd} {w wr : World} (h : Fill T w T.len wr) {cap : Nat} (hc : T.len ≤ cap ∧ cap ≤ 9223372036854775807) : Row w.heap.size wr.heap.size wr T (.slice (some ⟨w.heap.size, 0, none⟩) T.len cap) := by
  refine row_eq.2 ⟨_, cap, rfl, hc, ?_⟩
  by_cases h0 : T.len = 0
  · exact .inl h0
  · refine .inr ⟨w.heap.size, 0, rfl, Nat.le_refl _, h.lt, fun i hi => ?_⟩
    obtain ⟨u, e0, e1, e2, e3, hr⟩ := h.kids i hi
    rw [Nat.zero_add]
    exact ⟨u, e0, e1, e2, e3, row_wide hr (by omega) (Nat.le_refl _)⟩
theorem info_node : (Tryz.prog.info? 30).map (fun i => (i.zero, i.size, i.bytes)) = some (some (.agg #[.int .i64 0, .int .i64 0, .string ⟨#[]⟩, .slice none 0 0]), 4, 56) := by kernel_rfl

set_option maxHeartbeats 2000000 in
theorem toS_of (T : Nd) (ih : ∀ i, i < T.len → ToCW (T.kids i)) : ToS T := by
  intro w v hi hf hhi hr hcost
  have hn := T.fine_len hf
  have hce := T.cost_eq
  have hck : ∀ j, j < T.len → (T.kids j).cost ≤ 1048576 := fun j hj => Nat.le_trans (T.cost_kid hj) hcost
  have hl20 : T.len ≤ 1048576 := by omega
  obtain ⟨a, cap, rfl, hcap, hq⟩ := row_eq.1 hr
  clear hcap
  have HI := hid_mk ih
  have HF := hid_mk hf
  have HR := hid_mk hq
  have HK := hid_mk hck
  clear hr hf ih hq hck hce
  obtain ⟨i0, hi0, hz0, hz1, hz2⟩ := info_parts info_node
  have hmk : ∀ W : World, (Instr.makeSlice 28 (.int .i64 (T.len : Int)) (.int .i64 (T.len : Int))).run Tryz.prog W = .ok (.slice (some ⟨W.heap.size, 0, none⟩) T.len T.len) (W.alloc (.cells (madeCells #[.int .i64 0, .int .i64 0, .string ⟨#[]⟩, .slice none 0 0] (T.len * 4)) 30)) := by
    intro W
    have := run_make (P := Tryz.prog) W 28 30 i0 _ Tryz.underlying28 hi0 hz0 .i64 .i64 (T.len : Int) (T.len : Int) (by omega) (by omega) (by rw [hz2]; omega) (by omega)
    rw [hz1] at this
    simpa [Value.cells] using this
  clear hi0 hz0 hz1 hz2
  go_enter Tryz.func12, Tryz.ntmps12
  go_wp2
  have HF0 : Hid (Fill T w 0 (w.alloc (.cells (madeCells #[.int .i64 0, .int .i64 0, .string ⟨#[]⟩, .slice none 0 0] (T.len * 4)) 30))) := fill_start T w
  go_loopw [4] (fun i wr => ∃ j : Nat, j ≤ T.len ∧ i = .int .i64 j ∧ Fill T w j wr) (fun i _ => T.len - (intOf i).toNat)
  case atStart => exact ⟨0, by omega, rfl, HF0.out⟩
  case round =>
    obtain ⟨j, hj, rfl, hfl⟩ := hrel
    clear HF0 hmk
    by_cases hlt : j < T.len
    · rcases HR.out with h0 | ⟨g, off, rfl, h1, h2, h3⟩
      · omega
      obtain ⟨x, e0, e1, e2, e3, hx⟩ := h3 j hlt
      have hgl : g < w.heap.size := by omega
      have hb := hfl.below
      have hlw := hfl.lt
      rw [← hb.cell (p := ⟨g, _, none⟩) hgl] at e0 e1 e2 e3
      have HX := hid_mk (row_below hb hhi hx)
      have hkc := HK.out j hlt
      have HC := HI.out j hlt
      have HFJ := hid_mk (Nd.fine_kid HF.out hlt)
      have HFL := hid_mk hfl
      obtain ⟨x0, t0⟩ := hfl.there (j * 4) (by omega)
      obtain ⟨x1, t1⟩ := hfl.there (j * 4 + 1) (by omega)
      obtain ⟨x2, t2⟩ := hfl.there (j * 4 + 2) (by omega)
      obtain ⟨x3, t3⟩ := hfl.there (j * 4 + 3) (by omega)
      have hwm := hfl.warm
      unfold ToCW Nd.val at HC
      have HCC := hid_mk HC
      have HKJ := hid_mk (show ∃ K, K = T.kids j from ⟨_, rfl⟩)
      clear h3 HC hx hfl
      go_wp2_with (go_at_call 6; refine (HCC.out _ _ hi HFJ.out (by have := hb.size; omega) HX.out (by omega)).mono ?_; rintro e w1 ⟨u1, rfl, hr1, hb1, hww1⟩; obtain ⟨a1, p1, rfl⟩ := row_shape hr1; have HR1 := hid_mk hr1; have HW1 := hid_mk hww1; clear hr1 hww1; obtain ⟨hc1, hf1⟩ := bcellT hb1; rw [← hc1 _ _ hlw] at t0 t1 t2 t3; have hwm1 := fun o => (hf1 _ o hlw).trans (hwm o))
      have HST := fill_step HFL.out hlt hb1 HW1.out HR1.out
      exact ⟨⟨j + 1, by omega, by go_num, HST⟩, by simp [intOf]; omega⟩
    · go_wp2
      go_ret
      obtain rfl : j = T.len := by omega
      exact ⟨_, rfl, fill_done hfl ⟨Nat.le_refl _, hn⟩, hfl.below, hfl.warmA⟩

set_option maxHeartbeats 1000000 in
theorem to_of (T : Nd) (h : ToS T) : ToCW T := by
  intro w v hi hf hhi hr hcost
  have HS := (show Hid (ToS T) from h)
  have HR := hid_mk hr
  have HF := hid_mk hf
  clear hr h hf
  unfold Nd.val
  generalize T.kind = tk
  generalize T.num = tn
  generalize T.name = ts
  have HB : ∀ a b c : Obj, Hid (Below w.heap.size w (((w.alloc a).alloc b).alloc c)) := fun a b c => (((Below.refl _ _).alloc (Nat.le_refl _) _).alloc (by simp) _).alloc (by simp; omega) _
  go_enter Tryz.func6, Tryz.ntmps6
  go_wp2_with (go_at_call 12; refine (HS.out _ _ hi HF.out (by simp; omega) (row_below (HB _ _ _).out hhi HR.out) hcost).mono ?_; rintro e w1 ⟨u1, rfl, hr1, hb1, hww1⟩; obtain ⟨a1, p1, rfl⟩ := row_shape hr1; have HR1 := hid_mk hr1; have HW1 := hid_mk hww1; clear hr1 hww1; obtain ⟨hc1, hf1⟩ := bcellT hb1)
  have hz1 := hb1.size
  simp only [World.size_alloc] at hz1
  refine bodyPost_ret (v := .agg #[.int .i64 tk, .int .i64 tn, .string ts, .slice a1 T.len p1]) (by simp [results, Tryz.results6, go_sem, hc1]) rfl ⟨_, rfl, ?_, ?_, ?_⟩
  · refine row_keep (by simp; omega) (by simp [World.setCell]) (fun g o h1 h2 => ?_) HR1.out
    simp only [World.size_alloc] at h1
    refine World.cell?_of_block (a := ⟨g, o, none⟩) ?_
    rw [Below.heap_setCell _ _ _ _ (by show g ≠ w.heap.size + 1; omega), Below.heap_setCell _ _ _ _ (by show g ≠ w.heap.size + 1; omega), Below.heap_setCell _ _ _ _ (by show g ≠ w.heap.size + 1; omega), Below.heap_setCell _ _ _ _ (by show g ≠ w.heap.size + 1; omega), Below.heap_setCell _ _ _ _ (by show g ≠ w.heap.size + 1 + 1; omega)]
  · exact (((((((HB _ _ _).out.trans (hb1.mono (by simp; omega))).setCell (p := ⟨w.heap.size + 1 + 1, 3, none⟩) (by show w.heap.size ≤ w.heap.size + 1 + 1; omega) _).setCell (p := ⟨w.heap.size + 1, 0, none⟩) (by show w.heap.size ≤ w.heap.size + 1; omega) _).setCell (p := ⟨w.heap.size + 1, 1, none⟩) (by show w.heap.size ≤ w.heap.size + 1; omega) _).setCell (p := ⟨w.heap.size + 1, 2, none⟩) (by show w.heap.size ≤ w.heap.size + 1; omega) _).setCell (p := ⟨w.heap.size + 1, 3, none⟩) (by show w.heap.size ≤ w.heap.size + 1; omega) _)
  · exact ((((((((((Warm.start w).alloc _ _).alloc _ _).alloc _ _).later hb1 HW1.out).setCell _ _).setCell _ _).setCell _ _).setCell _ _).setCell _ _)

theorem to_nodeW (T : Nd) : ToCW T := by
  induction T with
  | nil => exact to_of _ (toS_of _ fun i hi => absurd hi (Nat.not_lt_zero i))
  | mk k n s len kids ih => exact to_of _ (toS_of _ fun i _ => ih i)
theorem to_node (T : Nd) : ToC T := fun w v hi h1 h2 h3 h4 => (to_nodeW T w v hi h1 h2 h3 h4).mono fun e w' ⟨u, a, b, c, _⟩ => ⟨u, a, b, c⟩
end Go.Proofs.YtacamenjijlemaaGreatDoor

/- The nodes of a tree, ahead of their kids, with how deep each stands; what is left of them on a stack. -/
namespace Go.Proofs.YtacamenjijlemaaGreatDoor
open Go.RowKit

def Nd.pre : Nd → Nat → List (Nd × Nat)
  | .nil, d => [(.nil, d)]
  | .mk k n s len kids, d => (.mk k n s len kids, d) :: (List.range len).flatMap fun i => (kids i).pre (d + 1)
def preL (D : Nd) (d : Nat) : List (Nd × Nat) := (List.range D.len).flatMap fun i => (D.kids i).pre d
def tailN (D : Nd) : Nd := .mk 0 0 ⟨#[]⟩ (D.len - 1) (fun i => D.kids (i + 1))
def oneN (T : Nd) : Nd := .mk 0 0 ⟨#[]⟩ 1 (fun _ => T)

theorem pre_eq (T : Nd) (d : Nat) : T.pre d = (T, d) :: preL T (d + 1) := by cases T <;> rfl
theorem preL_cons {D : Nd} (h : 0 < D.len) (d : Nat) : preL D d = (D.kids 0).pre d ++ preL (tailN D) d := by
  unfold preL
  obtain ⟨m, hm⟩ : ∃ m, D.len = m + 1 := ⟨D.len - 1, by omega⟩
  have : (tailN D).len = m := by show D.len - 1 = m; omega
  rw [this, hm, List.range_succ_eq_map, List.flatMap_cons, List.flatMap_map]
  rfl
theorem preL_none {D : Nd} (h : D.len = 0) (d : Nat) : preL D d = [] := by unfold preL; rw [h]; rfl
theorem preL_one (T : Nd) (d : Nat) : preL (oneN T) d = T.pre d := by
  show (List.range 1).flatMap _ = _
  simp [List.range_succ, oneN, Nd.kids]
theorem flatMap_len (f : Nat → List (Nd × Nat)) : ∀ n, ((List.range n).flatMap f).length = sumTo (fun i => (f i).length) n
  | 0 => rfl
  | n + 1 => by rw [List.range_succ, List.flatMap_append, List.length_append, flatMap_len f n]; simp [sumTo]
theorem sumTo_congr {f g : Nat → Nat} : ∀ {n : Nat}, (∀ i, i < n → f i = g i) → sumTo f n = sumTo g n
  | 0, _ => rfl
  | n + 1, h => by simp only [sumTo]; rw [sumTo_congr fun i hi => h i (by omega), h n (by omega)]
theorem pre_len (T : Nd) : ∀ d, (T.pre d).length = T.size := by
  induction T with
  | nil => intro d; rfl
  | mk k n s len kids ih =>
    intro d
    simp only [Nd.pre, List.length_cons, flatMap_len, Nd.size]
    rw [sumTo_congr fun i _ => ih i (d + 1)]; omega
theorem size_pos (T : Nd) : 0 < T.size := by rw [T.size_eq]; omega
theorem size_kid (T : Nd) {i : Nat} (h : i < T.len) : (T.kids i).size < T.size := by
  rw [T.size_eq]; have := sumTo_at (fun i => (T.kids i).size) h; omega
theorem pre_deep (T : Nd) : ∀ d p, p ∈ T.pre d → p.2 < d + T.size := by
  induction T with
  | nil => intro d p hp; simp [Nd.pre] at hp; subst hp; simp [Nd.size]
  | mk k n s len kids ih =>
    intro d p hp
    rw [pre_eq] at hp
    rcases List.mem_cons.1 hp with rfl | hp
    · have := size_pos (.mk k n s len kids); simp; omega
    · obtain ⟨i, hi, hp⟩ := List.mem_flatMap.1 hp
      have h1 : i < len := List.mem_range.1 hi
      have h2 := ih i (d + 1) p hp
      have h3 := size_kid (.mk k n s len kids) (i := i) h1
      have h4 : ((Nd.mk k n s len kids).kids i).size = (kids i).size := rfl
      omega

/-- What is left of a list of kids: its nodes, how deep they stand, its value. -/
structure Ent where
  D : Nd
  d : Nat
  v : Value
def remS (S : List Ent) : List (Nd × Nat) := S.flatMap fun e => preL e.D e.d
def flatS (S : List Ent) : List Value := S.reverse.flatMap fun e => [e.v, .int .i64 (e.d : Int)]
theorem flatS_cons (e : Ent) (S : List Ent) : flatS (e :: S) = flatS S ++ [e.v, .int .i64 (e.d : Int)] := by simp [flatS]
theorem flatS_len (S : List Ent) : (flatS S).length = S.length * 2 := by
  induction S with
  | nil => rfl
  | cons e S ih => rw [flatS_cons]; simp [ih]; omega
theorem remS_cons (e : Ent) (S : List Ent) : remS (e :: S) = preL e.D e.d ++ remS S := by simp [remS]
theorem rem_ge (S : List Ent) (h : ∀ e ∈ S, 0 < e.D.len) : S.length ≤ (remS S).length := by
  induction S with
  | nil => simp
  | cons e S ih =>
    have := ih fun x hx => h x (List.mem_cons_of_mem _ hx)
    have h0 := h e (List.mem_cons_self ..)
    rw [remS_cons, preL_cons h0, pre_eq]
    simp; omega
/-- One step of the walk: the top list's first node, then its kids, then what is left of that list. -/
def pushK (e : Ent) (K : Nd) (u : Value) (S : List Ent) : List Ent := if 0 < K.len then ⟨K, e.d + 1, u⟩ :: S else S
def pushT (e : Ent) (t : Value) (S : List Ent) : List Ent := if 1 < e.D.len then ⟨tailN e.D, e.d, t⟩ :: S else S
theorem rem_step (e : Ent) (S : List Ent) (u t : Value) (h : 0 < e.D.len) : remS (e :: S) = (e.D.kids 0, e.d) :: remS (pushK e (e.D.kids 0) u (pushT e t S)) := by
  have hT : remS (pushT e t S) = preL (tailN e.D) e.d ++ remS S := by
    unfold pushT
    split
    · rw [remS_cons]
    · rw [preL_none (by show e.D.len - 1 = 0; omega)]; rfl
  have hK : remS (pushK e (e.D.kids 0) u (pushT e t S)) = preL (e.D.kids 0) (e.d + 1) ++ remS (pushT e t S) := by
    unfold pushK
    split
    · rw [remS_cons]
    · rw [preL_none (by omega)]; rfl
  rw [remS_cons, preL_cons h, pre_eq, hK, hT]
  simp
end Go.Proofs.YtacamenjijlemaaGreatDoor

/- What a right tree is, node by node, as the specification's functions ask it. -/
namespace Go.Proofs.YtacamenjijlemaaGreatDoor
open Go.RowKit

/-- The signs of two sides, by how they bind. -/
def lvWords : Nat → List ByteArray
  | 1 => [⟨#[124, 124]⟩]
  | 2 => [⟨#[38, 38]⟩]
  | 3 => [⟨#[61, 61]⟩, ⟨#[33, 61]⟩, ⟨#[60]⟩, ⟨#[60, 61]⟩, ⟨#[62]⟩, ⟨#[62, 61]⟩]
  | 4 => [⟨#[43]⟩, ⟨#[45]⟩]
  | 5 => [⟨#[42]⟩, ⟨#[47]⟩, ⟨#[37]⟩]
  | _ => []
def lvl (s : ByteArray) : Nat := if hasB (lvWords 1) s then 1 else if hasB (lvWords 2) s then 2 else if hasB (lvWords 3) s then 3 else if hasB (lvWords 4) s then 4 else if hasB (lvWords 5) s then 5 else 0

def allTo (p : Nat → Bool) : Nat → Bool
  | 0 => true
  | n + 1 => allTo p n && p n
theorem allTo_iff {p : Nat → Bool} : ∀ {n : Nat}, allTo p n = true ↔ ∀ i, i < n → p i = true
  | 0 => by simp [allTo]
  | n + 1 => by
    simp only [allTo, Bool.and_eq_true, allTo_iff (n := n)]
    constructor
    · rintro ⟨h, k⟩ i hi
      by_cases e : i = n
      · subst e; exact k
      · exact h i (by omega)
    · intro h; exact ⟨fun i hi => h i (by omega), h n (by omega)⟩
theorem allTo_false {p : Nat → Bool} {n i : Nat} (hi : i < n) (h : p i = false) : allTo p n = false := by
  rw [Bool.eq_false_iff]; intro e; rw [allTo_iff.1 e i hi] at h; cases h
theorem allTo_true {p : Nat → Bool} {n : Nat} (h : ∀ i, i < n → p i = true) : allTo p n = true := allTo_iff.2 h

/-- Whether kid i is of a sort: e, c, b or another letter. -/
def sortB (e st : Nat → Bool) (kk : Nat → Int) (c : Nat) (i : Nat) : Bool :=
  if c = 101 then e i else if c = 99 then decide (kk i = 25) && e i else if c = 98 then decide (kk i = 4) && st i else (decide (kk i = 4) || decide (kk i = 10)) && st i
def sortsB (e st : Nat → Bool) (kk : Nat → Int) (len : Nat) (sorts : ByteArray) : Bool :=
  decide (len = sorts.size) && allTo (fun i => sortB e st kk (sorts.data.toList.getD i 0).toNat i) sorts.size
def emptyB (s : ByteArray) : Bool := s.toList.isEmpty

def exprB (k n : Int) (s : ByteArray) (len : Nat) (e st : Nat → Bool) (kk : Nat → Int) : Bool :=
  if k = 22 then emptyB s && (decide (0 ≤ n) && decide (n ≤ 999999999999999999) && decide (len = 0))
  else if k = 23 then emptyB s && ((decide (n = 0) || decide (n = 1)) && decide (len = 0))
  else if k = 24 then decide (n = 0) && (nameB s && decide (len = 0))
  else if k = 25 then decide (n = 0) && (nameB s && allTo e len)
  else if k = 26 then emptyB s && decide (n = 0) && (decide (len < 2) && allTo e len)
  else if k = 27 then decide (n = 0) && ((s.toList == [45] || s.toList == [33]) && sortsB e st kk len ⟨#[101]⟩)
  else if k = 28 then decide (n = 0) && (decide (0 < lvl s) && sortsB e st kk len ⟨#[101, 101]⟩)
  else if k = 29 then emptyB s && decide (n = 0) && sortsB e st kk len ⟨#[101]⟩
  else false

def stmtB (k n : Int) (s : ByteArray) (len : Nat) (e st cs : Nat → Bool) (kk : Nat → Int) : Bool :=
  if k = 4 then emptyB s && decide (n = 0) && allTo st len
  else if k = 5 ∨ k = 6 then !emptyB s && nameB s && decide (n = 0) && sortsB e st kk len ⟨#[101]⟩
  else if k = 7 then !emptyB s && nameB s && ((decide (n = 1) || decide (n = -1)) && decide (len = 0))
  else if k = 8 then emptyB s && decide (n = 0) && sortsB e st kk len ⟨#[101, 101]⟩
  else if k = 9 then emptyB s && decide (n = 0) && (sortsB e st kk len ⟨#[101]⟩ && (decide (kk 0 = 25) || decide (kk 0 = 29)))
  else if k = 10 then emptyB s && decide (n = 0) && (sortsB e st kk len ⟨#[101, 98]⟩ || sortsB e st kk len ⟨#[101, 98, 105]⟩)
  else if k = 11 then emptyB s && decide (n = 0) && (sortsB e st kk len ⟨#[98]⟩ || sortsB e st kk len ⟨#[101, 98]⟩)
  else if k = 12 then emptyB s && decide (n = 0) && (decide (len = 0) || sortsB e st kk len ⟨#[101]⟩)
  else if k = 13 ∨ k = 14 then emptyB s && decide (n = 0) && sortsB e st kk len ⟨#[99]⟩
  else if k = 15 then emptyB s && decide (n = 0) && allTo cs len
  else if k = 17 ∨ k = 18 then emptyB s && decide (n = 0) && decide (len = 0)
  else if k = 19 ∨ k = 20 ∨ k = 21 then emptyB s && decide (n = 0) && sortsB e st kk len ⟨#[101]⟩
  else false

def caseB (k n : Int) (s : ByteArray) (len : Nat) (e st : Nat → Bool) (kk : Nat → Int) : Bool :=
  if k = 16 then (emptyB s || (decide (n = 1) && nameB s)) &&
    (if n = 0 then sortsB e st kk len ⟨#[98]⟩ else if n = 1 then sortsB e st kk len ⟨#[101, 98]⟩ else if n = 2 then sortsB e st kk len ⟨#[101, 101, 98]⟩ else false)
  else false

/-- An expression, a statement, a case. -/
def okN : Nd → Bool × Bool × Bool
  | .nil => (false, false, false)
  | .mk k n s len kids =>
    (exprB k n s len (fun i => (okN (kids i)).1) (fun i => (okN (kids i)).2.1) (fun i => (kids i).kind),
     stmtB k n s len (fun i => (okN (kids i)).1) (fun i => (okN (kids i)).2.1) (fun i => (okN (kids i)).2.2) (fun i => (kids i).kind),
     caseB k n s len (fun i => (okN (kids i)).1) (fun i => (okN (kids i)).2.1) (fun i => (kids i).kind))
def Nd.eOk (T : Nd) : Bool := (okN T).1
def Nd.sOk (T : Nd) : Bool := (okN T).2.1
def Nd.cOk (T : Nd) : Bool := (okN T).2.2
def Nd.kk (T : Nd) (i : Nat) : Int := (T.kids i).kind
theorem eOk_eq (T : Nd) : T.eOk = exprB T.kind T.num T.name T.len (fun i => (T.kids i).eOk) (fun i => (T.kids i).sOk) T.kk := by cases T <;> rfl
theorem sOk_eq (T : Nd) : T.sOk = stmtB T.kind T.num T.name T.len (fun i => (T.kids i).eOk) (fun i => (T.kids i).sOk) (fun i => (T.kids i).cOk) T.kk := by cases T <;> rfl
theorem cOk_eq (T : Nd) : T.cOk = caseB T.kind T.num T.name T.len (fun i => (T.kids i).eOk) (fun i => (T.kids i).sOk) T.kk := by cases T <;> rfl
def paramB (T : Nd) : Bool := decide (T.kind = 3) && nameB T.name && (decide (1 ≤ T.num) && decide (T.num ≤ 3)) && decide (T.len = 0)
def funcB (T : Nd) : Bool := decide (T.kind = 2) && nameB T.name && (decide (0 ≤ T.num) && decide (T.num ≤ 3)) && decide (1 ≤ T.len) &&
  (allTo (fun i => paramB (T.kids i)) (T.len - 1) && (decide ((T.kids (T.len - 1)).kind = 4) && (T.kids (T.len - 1)).sOk))
def treeB (T : Nd) : Bool := decide (T.size ≤ 600) && decide (T.kind = 1) && decide (T.num = 0) && emptyB T.name && allTo (fun i => funcB (T.kids i)) T.len
end Go.Proofs.YtacamenjijlemaaGreatDoor
